/-
  Proved: for every []byte s (nil, empty, of any length and capacity), in whatever memory and on every schedule, sheavelaw18.QpageBreaks(s) returns true, without a panic or a race, and its argument reads as before. No condition.
-/
import Derived.Test.YthgbafjglcmgoaaRows
import Derived.Test.YthgbafjglcmgoaaAlive18
import Derived.Test.YthgbafjglcmgoaaR18d
import Derived.Test.YthgbafjglcmgoaaD18c
import Derived.WalkKit
import Derived.ProofKit
import Derived.OpenShut
import Derived.ShutString
import Derived.ChangeOld
import Derived.Below
import Derived.HandedShaped
namespace Go.Proofs.Ythgbafjglcmgoaa.qpageBreaks
open Go.ChangeShapes Go.WideShapes Go.ChangeAt Go.RowKit
open Go.ChangeMaps (open_string shut_string)
set_option linter.unusedVariables false

theorem own : ownKnob Try.prog.godebug = none := by kernel_rfl
theorem laidOut : laidOutB Try.prog = true := by kernel_rfl
theorem like18_same (a : Option Addr) (len cap : Nat) (a2 : Option Addr) (len2 cap2 : Nat) (xs : List Int) (w : World) (hr : Reads .u8 w a len cap xs) (hr2 : Reads .u8 w a2 len2 cap2 xs) :
    Calls Try.prog 9 #[.slice a len cap, .slice a2 len2 cap2] w fun e w' => e = .returned (.bool true) ∧ ∃ n, w' = w.drewN n := by
  have := like_r a len cap xs a2 len2 cap2 xs w hr hr2
  rwa [decide_eq_true rfl] at this
theorem layQ_len (xs : List Int) : (layQ xs).length ≤ 12 * xs.length + 3 := by
  have h1 := layS_len (brkL xs) false 0
  have h2 := brkS_len xs false
  unfold layQ
  unfold brkL at h1 ⊢
  omega
theorem brq {a : Option Addr} {len cap : Nat} {xs ys : List Int} {w : World} (hr : Reads .u8 w a len cap xs) (h : brkL xs = ys) (hN : len < 1000000) : Calls Try.prog 12 #[.slice a len cap] w fun e w' => ∃ a' len' cap', e = .returned (.slice a' len' cap') ∧ Reads .u8 w' a' len' cap' ys ∧ Below w.heap.size w w' := by
  have := qpage_Breaks a len cap xs w hr hN
  rwa [h] at this
theorem lyq {a : Option Addr} {len cap : Nat} {xs ys : List Int} {w : World} (hr : Reads .u8 w a len cap xs) (h : layQ xs = ys) (hN : len < 1000000) : Calls Try.prog 8 #[.slice a len cap] w fun e w' => ∃ a' len' cap', e = .returned (.slice a' len' cap') ∧ Reads .u8 w' a' len' cap' ys ∧ Below w.heap.size w w' := by
  have := qpage_Lay a len cap xs w hr hN
  rwa [h] at this
theorem sfq {a : Option Addr} {len cap : Nat} {xs : List Int} {w : World} {n : Nat} (hr : Reads .u8 w a len cap xs) (h : softQ xs = n) (hN : len < 1000000) (hm : Mx w) : Calls Try.prog 18 #[.slice a len cap] w fun e w' => e = .returned (.int .i64 (n : Int)) ∧ Below w.heap.size w w' := by
  have := qpage_Soft a len cap xs w hr hN hm
  rwa [h] at this
theorem cnt_on {xs : List Int} {k : Nat} {x : Int} (h : xs.take (k + 1) = xs.take k ++ [x]) : (xs.take (k + 1)).count 10 = (xs.take k).count 10 + if x = 10 then 1 else 0 := by
  rw [h, List.count_append, List.count_cons, List.count_nil]
  by_cases hx : x = 10 <;> simp [hx]
set_option maxHeartbeats 4000000 in
set_option maxRecDepth 100000 in
theorem walk (a0 : Option Addr) (len0 cap0 : Nat) (xs0 : List Int) (w : World) (r0 : Reads .u8 w a0 len0 cap0 xs0) (hm : Mx w) :
    Calls Try.prog 6 #[.slice a0 len0 cap0] w fun e w' => e = .returned (.bool true) ∧ Below w.heap.size w w' := by
  have HX := hid hm
  clear hm
  by_cases hN : len0 ≤ 1000
  · have R := hid r0
    have HS := hid r0.size
    obtain ⟨p1, p2, p3, p4, p5⟩ := laid_all (fun x hx => wf_u8 (r0.wf x hx))
    have hle := layQ_len xs0
    have hbl := brkS_len xs0 false
    rw [HS.out] at hle hbl
    obtain ⟨p6, p7⟩ := brk_again xs0
    obtain ⟨C, hC⟩ : ∃ C, C = brkL xs0 := ⟨_, rfl⟩
    obtain ⟨L, hL⟩ : ∃ L, L = layQ xs0 := ⟨_, rfl⟩
    rw [← hL, ← hC] at p5
    rw [← hL] at hle
    rw [← hC] at p6
    rw [← hC, ← hL] at p7
    rw [show brkS xs0 false = C from hC.symm] at hbl
    obtain ⟨S, hS⟩ : ∃ S, softQ L = S := ⟨_, rfl⟩
    obtain ⟨hc, hhc⟩ : ∃ hc, hc = C.count 10 := ⟨_, rfl⟩
    obtain ⟨ec, hec⟩ : ∃ ec, ec = L.count 10 := ⟨_, rfl⟩
    rw [hS, ← hhc, ← hec] at p5
    obtain ⟨n, hn⟩ : ∃ n, n = L.length := ⟨_, rfl⟩
    obtain ⟨m, hm⟩ : ∃ m, m = C.length := ⟨_, rfl⟩
    rw [← hn] at hle
    rw [← hm] at hbl
    have HL := hid hL
    have HC := hid hC
    have HN := hid hn
    have HM := hid hm
    have HSS := hid hS
    have HHC := hid hhc
    have HEC := hid hec
    have P6 := hid p6
    have P7 := hid p7
    clear r0 p1 p2 p3 p4 p6 p7 hL hn hC hm hS hhc hec
    go_enter Try.func6, Try.ntmps6
    go_wp2_with (go_at_call 12; (with_reducible refine (qpage_Breaks _ _ _ _ _ R.out (by omega)).mono ?_); rintro e w1 ⟨a1, l1, c1, rfl, r1, h1⟩; rw [← HC.out] at r1; obtain rfl : l1 = m := r1.size.symm.trans HM.out.symm; have R1 := hid r1; clear r1)
    go_loop [4, 19] (fun h i => ∃ k j : Nat, k ≤ l1 ∧ i = .int .i64 k ∧ h = .int .i64 j ∧ j ≤ k ∧ Hid (j = (C.take k).count 10)) (fun _ i => l1 - (intOf i).toNat)
    case atStart => exact ⟨0, 0, Nat.zero_le _, rfl, rfl, Nat.le_refl _, rfl⟩
    case round =>
      obtain ⟨k, j, hk, rfl, rfl, hj, hjc⟩ := hrel
      by_cases hlt : k < l1
      · obtain ⟨b, off, x, rfl, _, hcx, hx0, hx1, hx⟩ := R1.out.get8 hlt
        have hco := cnt_on hx.out.2
        by_cases h10 : x = 10
        · subst h10
          have HJ : Hid (j + 1 = (C.take (k + 1)).count 10) := by unfold Hid; rw [hco, if_pos rfl, ← hjc.out]
          clear hco
          go_wp2
          go_round
          case rel => exact ⟨k + 1, j + 1, by omega, by go_num, by go_num, by omega, HJ⟩
          case measure => simp [intOf]; omega
        · have HJ : Hid (j = (C.take (k + 1)).count 10) := by unfold Hid; rw [hco, if_neg h10, ← hjc.out, Nat.add_zero]
          have hb : (x == 10) = false := by simpa using h10
          clear hco h10
          go_wp2
          go_round
          case rel => exact ⟨k + 1, j, by omega, by go_num, rfl, by omega, HJ⟩
          case measure => simp [intOf]; omega
      · have HJ : Hid (j = hc) := by unfold Hid; rw [hjc.out, R1.out.all (show l1 ≤ k by omega), HHC.out]
        clear hjc
        obtain rfl : j = hc := HJ.out
        go_wp2_with (go_at_call 8; (with_reducible refine (qpage_Lay _ _ _ _ _ (R.out.below h1) (by omega)).mono ?_); rintro e w2 ⟨a2, l2, c2, rfl, r2, h2⟩; rw [← HL.out] at r2; obtain rfl : l2 = n := r2.size.symm.trans HN.out.symm; have R2 := hid r2; have RC := hid (R1.out.below h2); clear r2)
        go_loop [8, 32] (fun h i => ∃ k j2 : Nat, k ≤ l2 ∧ i = .int .i64 k ∧ h = .int .i64 j2 ∧ j2 ≤ k ∧ Hid (j2 = (L.take k).count 10)) (fun _ i => l2 - (intOf i).toNat)
        case atStart => exact ⟨0, 0, Nat.zero_le _, rfl, rfl, Nat.le_refl _, rfl⟩
        case round =>
          obtain ⟨k2, j2, hk2, rfl, rfl, hj2, hjc2⟩ := hrel
          by_cases hlt2 : k2 < l2
          · obtain ⟨b, off, x, rfl, _, hcx, hx0, hx1, hx⟩ := R2.out.get8 hlt2
            have hco := cnt_on hx.out.2
            by_cases h10 : x = 10
            · subst h10
              have HJ2 : Hid (j2 + 1 = (L.take (k2 + 1)).count 10) := by unfold Hid; rw [hco, if_pos rfl, ← hjc2.out]
              clear hco
              go_wp2
              go_round
              case rel => exact ⟨k2 + 1, j2 + 1, by omega, by go_num, by go_num, by omega, HJ2⟩
              case measure => simp [intOf]; omega
            · have HJ2 : Hid (j2 = (L.take (k2 + 1)).count 10) := by unfold Hid; rw [hco, if_neg h10, ← hjc2.out, Nat.add_zero]
              have hb : (x == 10) = false := by simpa using h10
              clear hco h10
              go_wp2
              go_round
              case rel => exact ⟨k2 + 1, j2, by omega, by go_num, rfl, by omega, HJ2⟩
              case measure => simp [intOf]; omega
          · have HJ2 : Hid (j2 = ec) := by unfold Hid; rw [hjc2.out, R2.out.all (show l2 ≤ k2 by omega), HEC.out]
            clear hjc2
            obtain rfl : j2 = ec := HJ2.out
            have hfin : ((j2 : Int) - (S : Int) == (j : Int)) = true := by simp; omega
            have hfin2 : IntKind.i64.wrap ((j2 : Int) - (S : Int)) = (j2 : Int) - (S : Int) := IntWalk.i64_in _ (by omega)
            clear p5
            go_wp2_with (first
              | (go_at_call 8; (with_reducible refine (lyq RC.out P7.out (by omega)).mono ?_); rintro e w11 ⟨a11, l11, c11, rfl, r11, h11⟩)
              | (go_at_call 9; (with_reducible refine (like18_same _ _ _ _ _ _ _ _ (R2.out.below h11) r11).mono ?_); rintro e w12 ⟨rfl, n12, rfl⟩; have h12 := Below.drewN (Below.refl w11.heap.size w11) n12)
              | (go_at_call 12; (with_reducible refine (brq ((RC.out.below h11).below h12) P6.out (by omega)).mono ?_); rintro e w13 ⟨a13, l13, c13, rfl, r13, h13⟩)
              | (go_at_call 9; (with_reducible refine (like18_same _ _ _ _ _ _ _ _ r13 (((RC.out.below h11).below h12).below h13)).mono ?_); rintro e w14 ⟨rfl, n14, rfl⟩; have h14 := Below.drewN (Below.refl w13.heap.size w13) n14)
              | (go_at_call 18; (with_reducible refine (sfq ((((R2.out.below h11).below h12).below h13).below h14) HSS.out (by omega) ((((((HX.out.below h1).below h2).below h11).below h12).below h13).below h14)).mono ?_); rintro e w15 ⟨rfl, h15⟩)
              | (go_at_call 7; (with_reducible refine (alive18_any _ (((((((HX.out.below h1).below h2).below h11).below h12).below h13).below h14).below h15)).mono ?_); rintro e w16 ⟨rfl, h16⟩))
            go_ret
            exact ⟨rfl, below_then (below_then h1 h2) (below_then (below_then (below_then (below_then (below_then h11 h12) h13) h14) h15) h16)⟩
  · have hN' : 1000 < len0 := by omega
    go_enter Try.func6, Try.ntmps6
    go_wp2_with (go_at_call 7; (with_reducible refine (alive18_any _ HX.out).mono ?_); rintro e w' ⟨rfl, hb⟩)
    go_ret
    exact ⟨rfl, hb⟩

set_option maxRecDepth 100000 in
theorem lifted (os : Os) (started : os.Started) (H : Type) (enc : TypeId × Value → H) :
    ReturnsInHanded {} Try.checked os 6 .any (Rows.qpageBreaksSpec.pre6 enc Try.prog Try.f6 Rows.qpageBreaksRow.domain false) (Rows.qpageBreaksSpec.post enc Try.prog Try.f6 false true false false) := by
  refine returnsInHanded_of_change_shaped (C := Try.checked) own started (by kernel_rfl) Try.func6
    (ChangeSpec.witness6 (enc := enc) (C := Try.checked) false ⟨#[], #[.slice none 0 0], []⟩ 8 (by kernel_rfl) (by kernel_rfl) (by kernel_rfl) (by kernel_rfl)) ?_
  intro W base args ds gs before hval0 hW hcnd _ hsh _
  have hval : ∀ (j : Nat) t v, Try.f6.params[j]? = some t → args[j]? = some v → Value.okWide Try.prog W .any base t v := hval0
  have hW' := hW
  obtain ⟨p, q, hA0, hV, rfl, hfz, hnd⟩ := hW
  have hA : DataW.TrodAll enc Try.prog W 0 (fun _ => true) true Try.f6.params.toList args.toList ds p := hA0
  rw [Try.params6] at hA hval
  obtain ⟨v0, vs0, d0, ds0, p0, q0, hargs, rfl, rfl, h0, r_0⟩ := trodAll_cons hA
  obtain ⟨rfl, rfl, rfl⟩ := trodAll_nil r_0
  obtain rfl : args = #[v0] := by cases args; simp_all
  obtain ⟨rfl, rfl⟩ := trodVars_none hV
  obtain ⟨a0, len0, cap0, rfl⟩ := okWide_slice Try.underlying22 (hval 0 22 v0 rfl rfl)
  have k0 := h0
  have lt0 : ∀ x ∈ p0, x.block < W.heap.size := by obtain ⟨m, hm⟩ := k0; exact DataW.trod_lt m _ _ _ hm
  obtain ⟨xs0, r0⟩ : ∃ xs, Reads .u8 W a0 len0 cap0 xs := by
    obtain ⟨fuel, hf⟩ := h0
    rcases open_ints Try.underlying22 Try.underlying5 (by kernel_rfl) hf with ⟨hcs, _⟩ | ⟨x, l, c, zs, hcs, _, hl, hm, hz, _, hcell, hwz⟩
    · simp [Value.cells] at hcs
      obtain ⟨rfl, rfl, rfl⟩ := hcs
      exact ⟨[], Reads.nil _ _ _ _ (Nat.zero_le _)⟩
    · simp [Value.cells] at hcs
      obtain ⟨rfl, rfl, rfl⟩ := hcs
      exact ⟨_, reads_of_ints hl hm (by simpa using hz) hcell hwz⟩
  clear hA0 hval0
  refine (walk a0 len0 cap0 xs0 W r0 (Mx.shaped hsh)).mono fun e W' ⟨he, bel⟩ => ?_
  subst he
  exact ⟨_, rfl, _, _, _, [], _, [], hW', trodAll_mk1 (shut_bool Try.underlying4 _), (trodAll_cons_mk (Below.trod laidOut (by kernel_rfl) (of_decide_eq_true (by kernel_rfl)) k0 bel lt0) trodAll_mk0), rfl, bel.frame _, fun h => by cases h⟩

theorem over : Rows.qpageBreaksRow.holds Try.pinned (OpenSpec.ofChange Rows.qpageBreaksSpec) :=
  OpenClaim.holds_of_wide 6 Try.f6 rfl rfl rfl rfl rfl rfl rfl ⟨rfl, rfl, rfl, rfl, rfl⟩ rfl rfl rfl rfl rfl (by kernel_rfl) Try.func6 (by kernel_rfl)
    (of_decide_eq_true (by kernel_rfl)) (by unfold Func.isWrapper; first | (rw [if_pos (by decide +kernel)]; kernel_rfl) | (rw [if_neg (by decide +kernel)]; exact ⟨rfl, rfl⟩))
    (fun os started H enc _ => lifted os started H enc)

end Go.Proofs.Ythgbafjglcmgoaa.qpageBreaks
namespace Go.Proofs.Ythgbafjglcmgoaa
theorem qpageBreaks_holds : Rows.QpageBreaksSaid := qpageBreaks.over
#print axioms qpageBreaks_holds
end Go.Proofs.Ythgbafjglcmgoaa
