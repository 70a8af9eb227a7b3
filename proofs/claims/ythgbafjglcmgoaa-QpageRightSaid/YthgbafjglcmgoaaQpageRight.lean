/-
  Proved: for every []byte s (nil, empty, of any length and capacity), in whatever memory and on every schedule, sheavelaw18.QpageRight(s) returns true, without a panic or a race, and its argument reads as before. No condition.
-/
import Derived.Test.YthgbafjglcmgoaaRows
import Derived.Test.YthgbafjglcmgoaaAlive18
import Derived.Test.YthgbafjglcmgoaaR18d
import Derived.Test.YthgbafjglcmgoaaD18c
import Derived.WalkKit
import Derived.ProofKit
import Derived.OpenShut
import Derived.ShutString
import Derived.ChangeOld
import Derived.Below
import Derived.HandedShaped
namespace Go.Proofs.Ythgbafjglcmgoaa.qpageRight
open Go.ChangeShapes Go.WideShapes Go.ChangeAt Go.RowKit
open Go.ChangeMaps (open_string shut_string)
set_option linter.unusedVariables false

theorem own : ownKnob Try.prog.godebug = none := by kernel_rfl
theorem laidOut : laidOutB Try.prog = true := by kernel_rfl
theorem layQ_len (xs : List Int) : (layQ xs).length ≤ 12 * xs.length + 3 := by
  have h1 := layS_len (brkL xs) false 0
  have h2 := brkS_len xs false
  unfold layQ
  unfold brkL at h1 ⊢
  omega
theorem ckz {a : Option Addr} {len cap : Nat} {xs : List Int} {w : World} (hr : Reads .u8 w a len cap xs) (h : checkQ xs = 0) (hN : len < 1000000) (hm : Mx w) : Calls Try.prog 16 #[.slice a len cap] w fun e w' => e = .returned (.int .i64 0) ∧ Below w.heap.size w w' := by
  have := qpage_Check a len cap xs w hr hN hm
  rwa [h] at this
set_option maxHeartbeats 4000000 in
set_option maxRecDepth 100000 in
theorem walk (a0 : Option Addr) (len0 cap0 : Nat) (xs0 : List Int) (w : World) (r0 : Reads .u8 w a0 len0 cap0 xs0) (hm : Mx w) :
    Calls Try.prog 5 #[.slice a0 len0 cap0] w fun e w' => e = .returned (.bool true) ∧ Below w.heap.size w w' := by
  have HM := hid hm
  clear hm
  by_cases hN : len0 ≤ 1000
  · have R := hid r0
    have HS := hid r0.size
    obtain ⟨p1, p2, p3, p4, p5⟩ := laid_all (fun x hx => wf_u8 (r0.wf x hx))
    have hle := layQ_len xs0
    rw [HS.out] at hle
    obtain ⟨L, hL⟩ : ∃ L, L = layQ xs0 := ⟨_, rfl⟩
    rw [← hL] at p1 p2 p3 p4 hle
    obtain ⟨n, hn⟩ : ∃ n, n = L.length := ⟨_, rfl⟩
    rw [← hn] at hle
    have HL := hid hL
    have HN := hid hn
    have P1 := hid p1
    have P2 := hid p2
    have P3 := hid p3
    have P4 := hid p4
    clear r0 p1 p2 p3 p4 p5 hL hn
    have hlen : n = 0 ↔ len0 = 0 := by
      rw [HN.out, ← HS.out]
      constructor
      · intro h; rw [P3.out.1 (List.eq_nil_of_length_eq_zero h)]; rfl
      · intro h; rw [P3.out.2 (List.eq_nil_of_length_eq_zero h)]; rfl
    go_enter Try.func5, Try.ntmps5
    go_wp2_with (go_at_call 8; (with_reducible refine (qpage_Lay _ _ _ _ _ R.out (by omega)).mono ?_); rintro e w1 ⟨a1, l1, c1, rfl, r1, h1⟩; rw [← HL.out] at r1; obtain rfl : l1 = n := r1.size.symm.trans HN.out.symm; have R1 := hid r1; clear r1)
    go_loop [14] (fun i => ∃ k : Nat, k ≤ l1 ∧ i = .int .i64 k) (fun i => l1 - (intOf i).toNat)
    case atStart => exact ⟨0, Nat.zero_le _, rfl⟩
    case round =>
      obtain ⟨k, hk, rfl⟩ := hrel
      by_cases hlt : k < l1
      · obtain ⟨b, off, x, rfl, _, hcx, hx0, hx1, hx⟩ := R1.out.get8 hlt
        rcases P2.out x (List.mem_of_getElem? hx.out.1) with rfl | rfl | rfl | ⟨hx3, hx4⟩
        case inr.inr.inr =>
          have q1 : (x != 13) = true := by simp; omega
          have q2 : (x != 10) = true := by simp; omega
          have q3 : (x != 9) = true := by simp; omega
          have q4 : decide (x < 32) = false := decide_eq_false (by omega)
          have q5 : decide (126 < x) = false := decide_eq_false (by omega)
          go_wp2
          go_round
          case rel => exact ⟨k + 1, by omega, by go_num⟩
          case measure => simp [intOf]; omega
        all_goals
          go_wp2
          go_round
          case rel => exact ⟨k + 1, by omega, by go_num⟩
          case measure => simp [intOf]; omega
      · by_cases h0 : l1 = 0
        · have hl0 := hlen.1 h0
          subst hl0
          subst h0
          obtain rfl : k = 0 := by omega
          clear hlen
          go_wp2_with (first
            | (go_at_call 16; (with_reducible refine (ckz R1.out P1.out (by omega) (HM.out.below h1)).mono ?_); rintro e w2 ⟨rfl, h2⟩)
            | (go_at_call 7; (with_reducible refine (alive18_any _ ((HM.out.below h1).below h2)).mono ?_); rintro e w3 ⟨rfl, h3⟩))
          go_ret
          exact ⟨rfl, below_then (below_then h1 h2) h3⟩
        · obtain ⟨p, rfl⟩ : ∃ p, l1 = p + 1 := ⟨l1 - 1, by omega⟩
          obtain ⟨q, rfl⟩ : ∃ q, len0 = q + 1 := ⟨len0 - 1, by omega⟩
          obtain ⟨b, off, x, rfl, hbl, hcx, hx0, hx1, hx⟩ := R1.out.get8 (i := p) (by omega)
          obtain rfl : x = 10 := by
            have h4 := P4.out (by intro h; have := HN.out; rw [h] at this; simp at this)
            rw [List.getLast?_eq_getElem?, ← HN.out] at h4
            have := hx.out.1
            rw [show p + 1 - 1 = p by omega] at h4
            rw [h4] at this
            exact (Option.some.inj this).symm
          have e1 : decide ((0 : Int) < (p : Int) + 1) = true := decide_eq_true (by omega)
          have e2 : decide ((0 : Int) < (q : Int) + 1) = true := decide_eq_true (by omega)
          have e3 : ((p : Int) + 1 == 0) = false := by rw [beq_eq_false_iff_ne]; omega
          obtain rfl : k = p + 1 := by omega
          clear hlen h0 hlt
          go_wp2_with (first
            | (go_at_call 16; (with_reducible refine (ckz R1.out P1.out (by omega) (HM.out.below h1)).mono ?_); rintro e w2 ⟨rfl, h2⟩; have hcx2 := (h2.cell (p := ⟨b, off + p, none⟩) hbl).trans hcx)
            | (go_at_call 7; (with_reducible refine (alive18_any _ ((HM.out.below h1).below h2)).mono ?_); rintro e w3 ⟨rfl, h3⟩))
          go_ret
          exact ⟨rfl, below_then (below_then h1 h2) h3⟩
  · have hN' : 1000 < len0 := by omega
    go_enter Try.func5, Try.ntmps5
    go_wp2_with (go_at_call 7; (with_reducible refine (alive18_any _ HM.out).mono ?_); rintro e w' ⟨rfl, hb⟩)
    go_ret
    exact ⟨rfl, hb⟩

set_option maxRecDepth 100000 in
theorem lifted (os : Os) (started : os.Started) (H : Type) (enc : TypeId × Value → H) :
    ReturnsInHanded {} Try.checked os 5 .any (Rows.qpageRightSpec.pre6 enc Try.prog Try.f5 Rows.qpageRightRow.domain false) (Rows.qpageRightSpec.post enc Try.prog Try.f5 false true false false) := by
  refine returnsInHanded_of_change_shaped (C := Try.checked) own started (by kernel_rfl) Try.func5
    (ChangeSpec.witness6 (enc := enc) (C := Try.checked) false ⟨#[], #[.slice none 0 0], []⟩ 8 (by kernel_rfl) (by kernel_rfl) (by kernel_rfl) (by kernel_rfl)) ?_
  intro W base args ds gs before hval0 hW hcnd _ hsh _
  have hval : ∀ (j : Nat) t v, Try.f5.params[j]? = some t → args[j]? = some v → Value.okWide Try.prog W .any base t v := hval0
  have hW' := hW
  obtain ⟨p, q, hA0, hV, rfl, hfz, hnd⟩ := hW
  have hA : DataW.TrodAll enc Try.prog W 0 (fun _ => true) true Try.f5.params.toList args.toList ds p := hA0
  rw [Try.params5] at hA hval
  obtain ⟨v0, vs0, d0, ds0, p0, q0, hargs, rfl, rfl, h0, r_0⟩ := trodAll_cons hA
  obtain ⟨rfl, rfl, rfl⟩ := trodAll_nil r_0
  obtain rfl : args = #[v0] := by cases args; simp_all
  obtain ⟨rfl, rfl⟩ := trodVars_none hV
  obtain ⟨a0, len0, cap0, rfl⟩ := okWide_slice Try.underlying22 (hval 0 22 v0 rfl rfl)
  have k0 := h0
  have lt0 : ∀ x ∈ p0, x.block < W.heap.size := by obtain ⟨m, hm⟩ := k0; exact DataW.trod_lt m _ _ _ hm
  obtain ⟨xs0, r0⟩ : ∃ xs, Reads .u8 W a0 len0 cap0 xs := by
    obtain ⟨fuel, hf⟩ := h0
    rcases open_ints Try.underlying22 Try.underlying5 (by kernel_rfl) hf with ⟨hcs, _⟩ | ⟨x, l, c, zs, hcs, _, hl, hm, hz, _, hcell, hwz⟩
    · simp [Value.cells] at hcs
      obtain ⟨rfl, rfl, rfl⟩ := hcs
      exact ⟨[], Reads.nil _ _ _ _ (Nat.zero_le _)⟩
    · simp [Value.cells] at hcs
      obtain ⟨rfl, rfl, rfl⟩ := hcs
      exact ⟨_, reads_of_ints hl hm (by simpa using hz) hcell hwz⟩
  clear hA0 hval0
  refine (walk a0 len0 cap0 xs0 W r0 (Mx.shaped hsh)).mono fun e W' ⟨he, bel⟩ => ?_
  subst he
  exact ⟨_, rfl, _, _, _, [], _, [], hW', trodAll_mk1 (shut_bool Try.underlying4 _), (trodAll_cons_mk (Below.trod laidOut (by kernel_rfl) (of_decide_eq_true (by kernel_rfl)) k0 bel lt0) trodAll_mk0), rfl, bel.frame _, fun h => by cases h⟩

theorem over : Rows.qpageRightRow.holds Try.pinned (OpenSpec.ofChange Rows.qpageRightSpec) :=
  OpenClaim.holds_of_wide 5 Try.f5 rfl rfl rfl rfl rfl rfl rfl ⟨rfl, rfl, rfl, rfl, rfl⟩ rfl rfl rfl rfl rfl (by kernel_rfl) Try.func5 (by kernel_rfl)
    (of_decide_eq_true (by kernel_rfl)) (by unfold Func.isWrapper; first | (rw [if_pos (by decide +kernel)]; kernel_rfl) | (rw [if_neg (by decide +kernel)]; exact ⟨rfl, rfl⟩))
    (fun os started H enc _ => lifted os started H enc)

end Go.Proofs.Ythgbafjglcmgoaa.qpageRight
namespace Go.Proofs.Ythgbafjglcmgoaa
theorem qpageRight_holds : Rows.QpageRightSaid := qpageRight.over
#print axioms qpageRight_holds
end Go.Proofs.Ythgbafjglcmgoaa
