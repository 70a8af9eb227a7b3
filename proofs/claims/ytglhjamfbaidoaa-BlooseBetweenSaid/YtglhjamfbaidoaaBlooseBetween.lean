/-
  Proved: for every three []byte, in whatever memory and on every schedule, sheavelaw15.BlooseBetween returns true, without a panic or a race, and its arguments read as before. No condition.
-/
import Derived.Test.YtglhjamfbaidoaaRows
import Derived.Test.YtglhjamfbaidoaaAlive15
import Derived.Test.YtglhjamfbaidoaaR15
import Derived.WalkKit
import Derived.ProofKit
import Derived.OpenShut
import Derived.ShutString
import Derived.ChangeOld
import Derived.Below
namespace Go.Proofs.Ytglhjamfbaidoaa.blooseBetween
open Go.ChangeShapes Go.WideShapes Go.ChangeAt Go.RowKit
open Go.ChangeMaps (open_string shut_string)
set_option linter.unusedVariables false

theorem own : ownKnob Try.prog.godebug = none := by kernel_rfl
theorem laidOut : laidOutB Try.prog = true := by kernel_rfl
theorem like15_same (a : Option Addr) (len cap : Nat) (a2 : Option Addr) (len2 cap2 : Nat) (xs : List Int) (w : World) (hr : Reads .u8 w a len cap xs) (hr2 : Reads .u8 w a2 len2 cap2 xs) :
    Calls Try.prog 9 #[.slice a len cap, .slice a2 len2 cap2] w fun e w' => e = .returned (.bool true) ∧ ∃ n, w' = w.drewN n := by
  have := like_r a len cap xs a2 len2 cap2 xs w hr hr2
  rwa [decide_eq_true rfl] at this
theorem looq {a : Option Addr} {len cap : Nat} {xs ys : List Int} {w : World} (hr : Reads .u8 w a len cap xs) (hE : looL xs = ys) (hN : len < 10000000) :
    Calls Try.prog 10 #[.slice a len cap] w fun e w' => ∃ a' len' cap', e = .returned (.slice a' len' cap') ∧ Reads .u8 w' a' len' cap' ys ∧ Below w.heap.size w w' := hE ▸ bloose_Read a len cap xs w hr hN
theorem digq {a : Option Addr} {len cap : Nat} {xs ys : List Int} {w : World} (hr : Reads .u8 w a len cap xs) (hE : digL xs = ys) (hN : len < 10000000) :
    Calls Try.prog 13 #[.slice a len cap] w fun e w' => ∃ a' len' cap', e = .returned (.slice a' len' cap') ∧ Reads .u8 w' a' len' cap' ys ∧ Below w.heap.size w w' := hE ▸ bloose_Digits a len cap xs w hr hN
/-- What is laid so far: no =, and of digits the first k. -/
def Mix (D : List Int) (k : Nat) (M : List Int) : Prop := M.all noEq = true ∧ M.filter isDig = D.take k ∧ M.length ≤ 2 * k
theorem Mix.junk {D M : List Int} {k : Nat} {y : Int} (h : Mix D k M) (h1 : ¬ y = 61) (h2 : isDig y = false) : (M ++ [y]).all noEq = true ∧ (M ++ [y]).filter isDig = D.take k ∧ (M ++ [y]).length ≤ 2 * k + 1 := by
  obtain ⟨a, b, c⟩ := h
  refine ⟨by rw [List.all_append, a]; simp [noEq, h1], by rw [List.filter_append, b]; simp [h2], by simp; omega⟩
theorem mix_dig {D M : List Int} {k : Nat} {x : Int} (hD : D.all isDig = true) (h : M.all noEq = true ∧ M.filter isDig = D.take k ∧ M.length ≤ 2 * k + 1) (hx : D[k]? = some x) : Mix D (k + 1) (M ++ [x]) := by
  obtain ⟨a, b, c⟩ := h
  have hd : isDig x = true := List.all_eq_true.1 hD x (List.mem_of_getElem? hx)
  have hne : ¬ x = 61 := by
    intro e
    subst e
    revert hd
    decide +kernel
  have hk : k < D.length := (List.getElem?_eq_some_iff.1 hx).1
  rw [List.getElem?_eq_getElem hk] at hx
  refine ⟨by rw [List.all_append, a]; simp [noEq, hne], ?_, by simp; omega⟩
  rw [List.filter_append, b, List.take_succ_eq_append_getElem hk, Option.some.inj hx]
  simp [hd]
theorem mix_end {D M : List Int} {k : Nat} (hk : D.length ≤ k) (h : M.all noEq = true ∧ M.filter isDig = D.take k ∧ M.length ≤ 2 * k + 1) : Mix D (k + 1) M := by
  obtain ⟨a, b, c⟩ := h
  refine ⟨a, ?_, by omega⟩
  rw [b, List.take_of_length_le hk, List.take_of_length_le (by omega)]
theorem Mix.weak {D M : List Int} {k : Nat} (h : Mix D k M) : M.all noEq = true ∧ M.filter isDig = D.take k ∧ M.length ≤ 2 * k + 1 := ⟨h.1, h.2.1, by have := h.2.2; omega⟩
theorem Mix.all {D M : List Int} {k : Nat} (h : Mix D k M) (hk : D.length ≤ k) : M.all noEq = true ∧ M.filter isDig = D := ⟨h.1, by rw [h.2.1, List.take_of_length_le hk]⟩
set_option maxHeartbeats 4000000 in
set_option maxRecDepth 100000 in
theorem walk (a0 : Option Addr) (len0 cap0 : Nat) (xs0 : List Int) (a1 : Option Addr) (len1 cap1 : Nat) (xs1 : List Int) (a2 : Option Addr) (len2 cap2 : Nat) (xs2 : List Int) (w : World) (r0 : Reads .u8 w a0 len0 cap0 xs0) (r1 : Reads .u8 w a1 len1 cap1 xs1) (r2 : Reads .u8 w a2 len2 cap2 xs2) :
    Calls Try.prog 5 #[.slice a0 len0 cap0, .slice a1 len1 cap1, .slice a2 len2 cap2] w fun e w' => e = .returned (.bool true) ∧ Below w.heap.size w w' := by
  by_cases hN : len0 ≤ 300
  · by_cases hN1 : len1 ≤ 300
    · by_cases hN2 : len2 ≤ 300
      · have R := hid r0
        have RO := hid r1
        have RB := hid r2
        have HS := hid r0.size
        have HDD := hid (digL_dig xs0)
        have hdl := digL_le xs0
        rw [HS.out] at hdl
        clear r0 r1 r2
        go_enter Try.func5, Try.ntmps5
        go_wp2_with (go_at_call 13; (with_reducible refine (bloose_Digits _ _ _ _ _ R.out (by omega)).mono ?_); rintro e w1 ⟨a1, l1, c1, rfl, r1, h1⟩; have hl1 := r1.size; rw [hl1] at hdl; have HL1 := hid hl1; have R1 := hid r1; clear hl1 r1)
        all_goals
          go_loopw [8, 33] (fun m i wr => ∃ k : Nat, ∃ M : List Int, (k ≤ l1 ∨ k ≤ len1) ∧ i = .int .i64 k ∧ Hid (Mix (digL xs0) k M) ∧ M.length ≤ 2 * k ∧ Own .u8 5 w1.heap.size wr m M ∧ Below w1.heap.size w1 wr) (fun _ i _ => 700 - (intOf i).toNat)
          case atStart => exact ⟨0, [], by omega, rfl, ⟨rfl, rfl, Nat.le_refl _⟩, Nat.le_refl _, Own.nil _ _ _ _, Below.refl _ _⟩
          case round =>
            obtain ⟨k, M, hk, rfl, hM, hml, hown, hbel⟩ := hrel
            by_cases hko : k < len1
            · obtain ⟨b, off, y, rfl, _, hcy, hy0, hy1, hy⟩ := ((RO.out.below h1).below hbel).get8 hko
              by_cases hy61 : y = 61
              · subst hy61
                have hM2 := hid hM.out.weak
                by_cases hkd : k < l1
                · first
                  | (exfalso; omega)
                  | (obtain ⟨bx, ox, x, rfl, _, hcx, hx0, hx1, hx⟩ := (R1.out.below hbel).get8 hkd
                     have hM3 := hid (mix_dig HDD.out hM2.out hx.out.1)
                     have hml3 := hM3.out.2.2
                     have hwx := mk_u8 hx0 hx1
                     go_wp2_with (first | (go_at_call 17; (with_reducible refine (ref14_Value _ _ hy0 hy1).mono ?_); rintro e w' ⟨rfl, rfl⟩; rw [hdg]) | (at_builtin; refine wpList_push CT8 rfl _ _ rfl rfl ⟨_, rfl⟩ hown hbel (by omega) hwx ?_; intro v3 w3 ho3 hb3))
                     go_roundw
                     case rel => exact ⟨k + 1, _, by omega, by go_num, hM3, hml3, ho3, hb3⟩
                     case measure => simp [intOf]; omega)
                · first
                  | (exfalso; omega)
                  | (have hM3 := hid (mix_end (by rw [HL1.out]; omega) hM2.out)
                     have hml3 := hM3.out.2.2
                     go_wp2_with (go_at_call 17; (with_reducible refine (ref14_Value _ _ hy0 hy1).mono ?_); rintro e w' ⟨rfl, rfl⟩; rw [hdg])
                     go_roundw
                     case rel => exact ⟨k + 1, _, by omega, by go_num, hM3, hml3, hown, hbel⟩
                     case measure => simp [intOf]; omega)
              · have hne : (y != 61) = true := by simpa using hy61
                cases hdg : isDig y
                · have hM2 := hid (hM.out.junk hy61 hdg)
                  have hwy := mk_u8 hy0 hy1
                  clear hy61
                  by_cases hkd : k < l1
                  · first
                    | (exfalso; omega)
                    | (go_wp2_with (first | (at_builtin; refine wpList_push CT8 rfl _ _ rfl rfl ⟨_, rfl⟩ ho2 hb2 (by omega) hwx ?_; intro v3 w3 ho3 hb3) | (go_at_call 17; (with_reducible refine (ref14_Value _ _ hy0 hy1).mono ?_); rintro e w' ⟨rfl, rfl⟩; rw [hdg]) | (at_builtin; refine wpList_push CT8 rfl _ _ rfl rfl ⟨_, rfl⟩ hown hbel (by omega) hwy ?_; intro v2 w2 ho2 hb2; obtain ⟨bx, ox, x, rfl, _, hcx, hx0, hx1, hx⟩ := (R1.out.below hb2).get8 hkd; have hM3 := hid (mix_dig HDD.out hM2.out hx.out.1); have hml2 := hM2.out.2.2; have hml3 := hM3.out.2.2; have hwx := mk_u8 hx0 hx1))
                       go_roundw
                       case rel => exact ⟨k + 1, _, by omega, by go_num, hM3, hml3, ho3, hb3⟩
                       case measure => simp [intOf]; omega)
                  · first
                    | (exfalso; omega)
                    | (have hM3 := hid (mix_end (by rw [HL1.out]; omega) hM2.out)
                       have hml3 := hM3.out.2.2
                       go_wp2_with (first | (go_at_call 17; (with_reducible refine (ref14_Value _ _ hy0 hy1).mono ?_); rintro e w' ⟨rfl, rfl⟩; rw [hdg]) | (at_builtin; refine wpList_push CT8 rfl _ _ rfl rfl ⟨_, rfl⟩ hown hbel (by omega) hwy ?_; intro v3 w3 ho3 hb3))
                       go_roundw
                       case rel => exact ⟨k + 1, _, by omega, by go_num, hM3, hml3, ho3, hb3⟩
                       case measure => simp [intOf]; omega)
                · have hM2 := hid hM.out.weak
                  clear hy61
                  by_cases hkd : k < l1
                  · first
                    | (exfalso; omega)
                    | (obtain ⟨bx, ox, x, rfl, _, hcx, hx0, hx1, hx⟩ := (R1.out.below hbel).get8 hkd
                       have hM3 := hid (mix_dig HDD.out hM2.out hx.out.1)
                       have hml3 := hM3.out.2.2
                       have hwx := mk_u8 hx0 hx1
                       go_wp2_with (first | (go_at_call 17; (with_reducible refine (ref14_Value _ _ hy0 hy1).mono ?_); rintro e w' ⟨rfl, rfl⟩; rw [hdg]) | (at_builtin; refine wpList_push CT8 rfl _ _ rfl rfl ⟨_, rfl⟩ hown hbel (by omega) hwx ?_; intro v3 w3 ho3 hb3))
                       go_roundw
                       case rel => exact ⟨k + 1, _, by omega, by go_num, hM3, hml3, ho3, hb3⟩
                       case measure => simp [intOf]; omega)
                  · first
                    | (exfalso; omega)
                    | (have hM3 := hid (mix_end (by rw [HL1.out]; omega) hM2.out)
                       have hml3 := hM3.out.2.2
                       go_wp2_with (go_at_call 17; (with_reducible refine (ref14_Value _ _ hy0 hy1).mono ?_); rintro e w' ⟨rfl, rfl⟩; rw [hdg])
                       go_roundw
                       case rel => exact ⟨k + 1, _, by omega, by go_num, hM3, hml3, hown, hbel⟩
                       case measure => simp [intOf]; omega)
            · have hM2 := hid hM.out.weak
              by_cases hkd : k < l1
              · first
                | (exfalso; omega)
                | (obtain ⟨bx, ox, x, rfl, _, hcx, hx0, hx1, hx⟩ := (R1.out.below hbel).get8 hkd
                   have hM3 := hid (mix_dig HDD.out hM2.out hx.out.1)
                   have hml3 := hM3.out.2.2
                   have hwx := mk_u8 hx0 hx1
                   go_wp2_with (first | (go_at_call 17; (with_reducible refine (ref14_Value _ _ hy0 hy1).mono ?_); rintro e w' ⟨rfl, rfl⟩; rw [hdg]) | (at_builtin; refine wpList_push CT8 rfl _ _ rfl rfl ⟨_, rfl⟩ hown hbel (by omega) hwx ?_; intro v3 w3 ho3 hb3))
                   go_roundw
                   case rel => exact ⟨k + 1, _, by omega, by go_num, hM3, hml3, ho3, hb3⟩
                   case measure => simp [intOf]; omega)
              · have hM3 := hid (hM.out.all (by rw [HL1.out]; omega))
                have hpp := hid (loo_mixed (s := xs0) (behind := xs2) hM3.out.1 hM3.out.2)
                go_wp2_with (first
                  | (at_builtin; refine wpList_more CT8 rfl _ _ rfl rfl rfl ho2 hb2 ((RB.out.below h1).below hb2) (by simp; omega) ?_; intro v3 w3 ho3 hb3)
                  | (at_builtin; refine wpList_push CT8 rfl _ _ rfl rfl ⟨_, rfl⟩ hown hbel (by omega) (by decide) ?_; intro v2 w2 ho2 hb2))
                have ho3' := ho3
                rw [List.append_assoc] at ho3'
                obtain ⟨a3, c3, rfl, M3⟩ := ho3'.reads
                have hl3 : (M ++ ([61] ++ xs2)).length < 100000 := by have := RB.out.size; simp; omega
                have HM : Hid (looL (M ++ ([61] ++ xs2)) = looL xs0 ∧ digL (M ++ ([61] ++ xs2)) = digL xs0) := hpp.out
                obtain ⟨l3, hl3e⟩ : ∃ l3, l3 = (M ++ ([61] ++ xs2)).length := ⟨_, rfl⟩
                rw [← hl3e] at M3 hl3 ⊢
                have S3 := (R.out.below h1).below hb3
                have D3 := R1.out.below hb3
                have t3 := below_then h1 hb3
                clear ho3 ho3' ho2 hown hpp hM3 hl3e
                go_wp2_with (first
                  | (go_at_call 10; (with_reducible refine (looq M3 HM.out.1 (by omega)).mono ?_); rintro e w11 ⟨a11, l11, c11, rfl, r11, h11⟩)
                  | (go_at_call 10; (with_reducible refine (bloose_Read _ _ _ _ _ (S3.below h11) (by omega)).mono ?_); rintro e w12 ⟨a12, l12, c12, rfl, r12, h12⟩)
                  | (go_at_call 9; (with_reducible refine (like15_same _ _ _ _ _ _ _ _ (r11.below h12) r12).mono ?_); rintro e w13 ⟨rfl, n13, rfl⟩; have h13 := Below.drewN (Below.refl w12.heap.size w12) n13)
                  | (go_at_call 13; (with_reducible refine (digq (((M3.below h11).below h12).below h13) HM.out.2 (by omega)).mono ?_); rintro e w14 ⟨a14, l14, c14, rfl, r14, h14⟩)
                  | (go_at_call 9; (with_reducible refine (like15_same _ _ _ _ _ _ _ _ r14 ((((D3.below h11).below h12).below h13).below h14)).mono ?_); rintro e w15 ⟨rfl, n15, rfl⟩; have h15 := Below.drewN (Below.refl w14.heap.size w14) n15)
                  | (go_at_call 6; (with_reducible refine (alive15_any _).mono ?_); rintro e w16 ⟨rfl, h16⟩))
                go_ret
                exact ⟨rfl, below_then t3 (below_then (below_then (below_then (below_then (below_then h11 h12) h13) h14) h15) h16)⟩
      · have hN' : 300 < len2 := by omega
        go_enter Try.func5, Try.ntmps5
        go_wp2_with (go_at_call 6; (with_reducible refine (alive15_any _).mono ?_); rintro e w' ⟨rfl, hb⟩)
        go_ret
        exact ⟨rfl, hb⟩
    · have hN' : 300 < len1 := by omega
      go_enter Try.func5, Try.ntmps5
      go_wp2_with (go_at_call 6; (with_reducible refine (alive15_any _).mono ?_); rintro e w' ⟨rfl, hb⟩)
      go_ret
      exact ⟨rfl, hb⟩
  · have hN' : 300 < len0 := by omega
    go_enter Try.func5, Try.ntmps5
    go_wp2_with (go_at_call 6; (with_reducible refine (alive15_any _).mono ?_); rintro e w' ⟨rfl, hb⟩)
    go_ret
    exact ⟨rfl, hb⟩

set_option maxRecDepth 100000 in
theorem lifted (os : Os) (started : os.Started) (H : Type) (enc : TypeId × Value → H) :
    ReturnsInHanded {} Try.checked os 5 .any (Rows.blooseBetweenSpec.pre6 enc Try.prog Try.f5 Rows.blooseBetweenRow.domain false) (Rows.blooseBetweenSpec.post enc Try.prog Try.f5 false true false false) := by
  refine returnsInHanded_of_change (C := Try.checked) own started (by kernel_rfl) Try.func5
    (ChangeSpec.witness6 (enc := enc) (C := Try.checked) false ⟨#[], #[.slice none 0 0, .slice none 0 0, .slice none 0 0], []⟩ 8 (by kernel_rfl) (by kernel_rfl) (by kernel_rfl) (by kernel_rfl)) ?_
  intro W base args ds gs before hval0 hW hcnd _
  have hval : ∀ (j : Nat) t v, Try.f5.params[j]? = some t → args[j]? = some v → Value.okWide Try.prog W .any base t v := hval0
  have hW' := hW
  obtain ⟨p, q, hA0, hV, rfl, hfz, hnd⟩ := hW
  have hA : DataW.TrodAll enc Try.prog W 0 (fun _ => true) true Try.f5.params.toList args.toList ds p := hA0
  rw [Try.params5] at hA hval
  obtain ⟨v0, vs0, d0, ds0, p0, q0, hargs, rfl, rfl, h0, r_0⟩ := trodAll_cons hA
  obtain ⟨v1, vs1, d1, ds1, p1, q1, rfl, rfl, rfl, h1, r_1⟩ := trodAll_cons r_0
  obtain ⟨v2, vs2, d2, ds2, p2, q2, rfl, rfl, rfl, h2, r_2⟩ := trodAll_cons r_1
  obtain ⟨rfl, rfl, rfl⟩ := trodAll_nil r_2
  obtain rfl : args = #[v0, v1, v2] := by cases args; simp_all
  obtain ⟨rfl, rfl⟩ := trodVars_none hV
  obtain ⟨a0, len0, cap0, rfl⟩ := okWide_slice Try.underlying22 (hval 0 22 v0 rfl rfl)
  have k0 := h0
  have lt0 : ∀ x ∈ p0, x.block < W.heap.size := by obtain ⟨m, hm⟩ := k0; exact DataW.trod_lt m _ _ _ hm
  obtain ⟨xs0, r0⟩ : ∃ xs, Reads .u8 W a0 len0 cap0 xs := by
    obtain ⟨fuel, hf⟩ := h0
    rcases open_ints Try.underlying22 Try.underlying5 (by kernel_rfl) hf with ⟨hcs, _⟩ | ⟨x, l, c, zs, hcs, _, hl, hm, hz, _, hcell, hwz⟩
    · simp [Value.cells] at hcs
      obtain ⟨rfl, rfl, rfl⟩ := hcs
      exact ⟨[], Reads.nil _ _ _ _ (Nat.zero_le _)⟩
    · simp [Value.cells] at hcs
      obtain ⟨rfl, rfl, rfl⟩ := hcs
      exact ⟨_, reads_of_ints hl hm (by simpa using hz) hcell hwz⟩
  obtain ⟨a1, len1, cap1, rfl⟩ := okWide_slice Try.underlying22 (hval 1 22 v1 rfl rfl)
  have k1 := h1
  have lt1 : ∀ x ∈ p1, x.block < W.heap.size := by obtain ⟨m, hm⟩ := k1; exact DataW.trod_lt m _ _ _ hm
  obtain ⟨xs1, r1⟩ : ∃ xs, Reads .u8 W a1 len1 cap1 xs := by
    obtain ⟨fuel, hf⟩ := h1
    rcases open_ints Try.underlying22 Try.underlying5 (by kernel_rfl) hf with ⟨hcs, _⟩ | ⟨x, l, c, zs, hcs, _, hl, hm, hz, _, hcell, hwz⟩
    · simp [Value.cells] at hcs
      obtain ⟨rfl, rfl, rfl⟩ := hcs
      exact ⟨[], Reads.nil _ _ _ _ (Nat.zero_le _)⟩
    · simp [Value.cells] at hcs
      obtain ⟨rfl, rfl, rfl⟩ := hcs
      exact ⟨_, reads_of_ints hl hm (by simpa using hz) hcell hwz⟩
  obtain ⟨a2, len2, cap2, rfl⟩ := okWide_slice Try.underlying22 (hval 2 22 v2 rfl rfl)
  have k2 := h2
  have lt2 : ∀ x ∈ p2, x.block < W.heap.size := by obtain ⟨m, hm⟩ := k2; exact DataW.trod_lt m _ _ _ hm
  obtain ⟨xs2, r2⟩ : ∃ xs, Reads .u8 W a2 len2 cap2 xs := by
    obtain ⟨fuel, hf⟩ := h2
    rcases open_ints Try.underlying22 Try.underlying5 (by kernel_rfl) hf with ⟨hcs, _⟩ | ⟨x, l, c, zs, hcs, _, hl, hm, hz, _, hcell, hwz⟩
    · simp [Value.cells] at hcs
      obtain ⟨rfl, rfl, rfl⟩ := hcs
      exact ⟨[], Reads.nil _ _ _ _ (Nat.zero_le _)⟩
    · simp [Value.cells] at hcs
      obtain ⟨rfl, rfl, rfl⟩ := hcs
      exact ⟨_, reads_of_ints hl hm (by simpa using hz) hcell hwz⟩
  clear hA0 hval0
  refine (walk a0 len0 cap0 xs0 a1 len1 cap1 xs1 a2 len2 cap2 xs2 W r0 r1 r2).mono fun e W' ⟨he, bel⟩ => ?_
  subst he
  exact ⟨_, rfl, _, _, _, [], _, [], hW', trodAll_mk1 (shut_bool Try.underlying4 _), (trodAll_cons_mk (Below.trod laidOut (by kernel_rfl) (of_decide_eq_true (by kernel_rfl)) k0 bel lt0) (trodAll_cons_mk (Below.trod laidOut (by kernel_rfl) (of_decide_eq_true (by kernel_rfl)) k1 bel lt1) (trodAll_cons_mk (Below.trod laidOut (by kernel_rfl) (of_decide_eq_true (by kernel_rfl)) k2 bel lt2) trodAll_mk0))), rfl, bel.frame _, fun h => by cases h⟩

theorem over : Rows.blooseBetweenRow.holds Try.pinned (OpenSpec.ofChange Rows.blooseBetweenSpec) :=
  OpenClaim.holds_of_wide 5 Try.f5 rfl rfl rfl rfl rfl rfl rfl ⟨rfl, rfl, rfl, rfl, rfl⟩ rfl rfl rfl rfl rfl (by kernel_rfl) Try.func5 (by kernel_rfl)
    (of_decide_eq_true (by kernel_rfl)) (by unfold Func.isWrapper; first | (rw [if_pos (by decide +kernel)]; kernel_rfl) | (rw [if_neg (by decide +kernel)]; exact ⟨rfl, rfl⟩))
    (fun os started H enc _ => lifted os started H enc)

end Go.Proofs.Ytglhjamfbaidoaa.blooseBetween
namespace Go.Proofs.Ytglhjamfbaidoaa
theorem blooseBetween_holds : Rows.BlooseBetweenSaid := blooseBetween.over
#print axioms blooseBetween_holds
end Go.Proofs.Ytglhjamfbaidoaa
