/-
  Proved: for every two []byte s and behind, in whatever memory and on every schedule, sheavelaw21.PctBack(s, behind) returns true, without a panic or a race, and its arguments read as before. No condition.
-/
import Derived.Test.YtckeejhbfamebaaRows
import Derived.Test.YtckeejhbfamebaaAlive21
import Derived.Test.YtckeejhbfamebaaR21b
import Derived.WalkKit
import Derived.ProofKit
import Derived.OpenShut
import Derived.ShutString
import Derived.ChangeOld
import Derived.Below
namespace Go.Proofs.Ytckeejhbfamebaa.pctBack
open Go.ChangeShapes Go.WideShapes Go.ChangeAt Go.RowKit
open Go.ChangeMaps (open_string shut_string)
set_option linter.unusedVariables false

theorem own : ownKnob Try.prog.godebug = none := by kernel_rfl
theorem laidOut : laidOutB Try.prog = true := by kernel_rfl
theorem like21_same (a : Option Addr) (len cap : Nat) (a2 : Option Addr) (len2 cap2 : Nat) (xs : List Int) (w : World) (hr : Reads .u8 w a len cap xs) (hr2 : Reads .u8 w a2 len2 cap2 xs) :
    Calls Try.prog 8 #[.slice a len cap, .slice a2 len2 cap2] w fun e w' => e = .returned (.bool true) ∧ ∃ n, w' = w.drewN n := by
  have := like_r a len cap xs a2 len2 cap2 xs w hr hr2
  rwa [decide_eq_true rfl] at this
theorem rdq {a : Option Addr} {len cap : Nat} {xs ys : List Int} {w : World} (hr : Reads .u8 w a len cap xs) (h : readP xs = ys) (hN : len < 10000000) : Calls Try.prog 16 #[.slice a len cap] w fun e w' => ∃ a' len' cap', e = .returned (.slice a' len' cap') ∧ Reads .u8 w' a' len' cap' ys ∧ Below w.heap.size w w' := h ▸ pct_Read a len cap xs w hr hN
theorem ckq {a : Option Addr} {len cap : Nat} {xs : List Int} {w : World} {E : Int} (hr : Reads .u8 w a len cap xs) (h : chkP xs = E) (hN : len < 10000000) : Calls Try.prog 18 #[.slice a len cap] w fun e w' => e = .returned (.int .i64 E) ∧ Below w.heap.size w w' := h ▸ pct_Check a len cap xs w hr hN
theorem stq {a : Option Addr} {len cap : Nat} {xs : List Int} {w : World} (hr : Reads .u8 w a len cap xs) (h : strP xs = 0) (hN : len < 10000000) : Calls Try.prog 17 #[.slice a len cap] w fun e w' => e = .returned (.int .i64 0) ∧ Below w.heap.size w w' := by
  have := pct_Strange a len cap xs w hr hN
  rwa [h] at this
theorem unq {a : Option Addr} {len cap : Nat} {xs ys : List Int} {w : World} (hr : Reads .u8 w a len cap (quoP xs ++ ys)) (hN : len < 10000000) : Calls Try.prog 20 #[.slice a len cap] w fun e w' => ∃ a' len' cap', e = .returned (.tuple #[.slice a' len' cap', .int .i64 ((quoP xs).length : Nat), .int .i64 0]) ∧ Reads .u8 w' a' len' cap' xs ∧ Below w.heap.size w w' := by
  have := pct_Unquote a len cap _ w hr hN
  rwa [unq_quo] at this
set_option maxHeartbeats 4000000 in
set_option maxRecDepth 100000 in
theorem walk (a0 : Option Addr) (len0 cap0 : Nat) (xs0 : List Int) (a1 : Option Addr) (len1 cap1 : Nat) (xs1 : List Int) (w : World) (r0 : Reads .u8 w a0 len0 cap0 xs0) (r1 : Reads .u8 w a1 len1 cap1 xs1) :
    Calls Try.prog 6 #[.slice a0 len0 cap0, .slice a1 len1 cap1] w fun e w' => e = .returned (.bool true) ∧ Below w.heap.size w w' := by
  by_cases hN : len0 ≤ 1000
  · by_cases hN1 : len1 ≤ 1000
    · have R := hid r0
      have RB := hid r1
      have HS := hid r0.size
      have HP := hid (laid_P xs0 (fun x hx => wf_u8 (r0.wf x hx)))
      clear r0 r1
      go_enter Try.func6, Try.ntmps6
      go_wp2_with (first
        | (go_at_call 9; (with_reducible refine (pct_Lay _ _ _ _ _ R.out (by omega)).mono ?_); rintro e w1 ⟨a1, l1, c1, rfl, r1, h1⟩; have hl1 : l1 < 100000 := (by have := r1.size; have := layP_len xs0; have := HS.out; omega))
        | (go_at_call 13; (with_reducible refine (pct_Quote _ _ _ _ _ (R.out.below h1) (by omega)).mono ?_); rintro e w2 ⟨a2, l2, c2, rfl, r2, h2⟩; have hql := r2.size; have hQB := quo_len xs0; have hl2 : l2 < 100000 := (by unfold quoP at hql; simp only [List.length_cons, List.length_append, List.length_nil] at hql; have := HS.out; omega); have HQL := hid hql; clear hql hQB)
        | (at_builtin; (refine wpList_more CT8 rfl _ _ rfl rfl rfl o3 b3 (((RB.out.below h1).below h2).below b3) (by rw [List.length_append, HQL.out, List.length_nil]; omega) ?_); intro v4 w4 o4 b4; rw [List.nil_append] at o4; obtain ⟨a4, c4, rfl, r4⟩ := o4.reads; obtain ⟨l4, hl4⟩ : ∃ l4, l4 = (quoP xs0 ++ xs1).length := ⟨_, rfl⟩; rw [← hl4] at r4 ⊢; have hl5 : l4 < 1000000 := (by rw [hl4, List.length_append, HQL.out]; have := RB.out.size; omega); have HL4 := hid hl4; clear hl4)
        | (at_builtin; (refine wpList_more CT8 rfl _ _ rfl rfl rfl (Own.nil _ _ _ w2) (Below.refl _ _) r2 (by simp only [List.length_nil]; omega) ?_); intro v3 w3 o3 b3)
        | (go_at_call 20; (with_reducible refine (unq r4 (by omega)).mono ?_); rw [HQL.out]; rintro e w11 ⟨a11, l11, c11, rfl, r11, h11⟩; obtain rfl : l11 = len0 := r11.size.symm.trans HS.out)
        | (go_at_call 16; (with_reducible refine (rdq ((((r1.below h2).below b4).below h11)) HP.out.1 (by omega)).mono ?_); rintro e w12 ⟨a12, l12, c12, rfl, r12, h12⟩)
        | (go_at_call 8; (with_reducible refine (like21_same _ _ _ _ _ _ _ _ r12 ((((((R.out.below h1).below h2).below b4).below h11).below h12))).mono ?_); rintro e w13 ⟨rfl, n13, rfl⟩; have h13 := Below.drewN (Below.refl w12.heap.size w12) n13)
        | (go_at_call 18; (with_reducible refine (ckq ((((((r1.below h2).below b4).below h11).below h12).below h13)) HP.out.2.2 (by omega)).mono ?_); rintro e w14 ⟨rfl, h14⟩)
        | (go_at_call 17; (with_reducible refine (stq (((((((r1.below h2).below b4).below h11).below h12).below h13).below h14)) HP.out.2.1 (by omega)).mono ?_); rintro e w15 ⟨rfl, h15⟩)
        | (go_at_call 8; (with_reducible refine (like21_same _ _ _ _ _ _ _ _ ((((r11.below h12).below h13).below h14).below h15) (((((((((R.out.below h1).below h2).below b4).below h11).below h12).below h13).below h14).below h15))).mono ?_); rintro e w16 ⟨rfl, n16, rfl⟩; have h16 := Below.drewN (Below.refl w15.heap.size w15) n16)
        | (go_at_call 7; (with_reducible refine (alive21_any _).mono ?_); rintro e w17 ⟨rfl, h17⟩))
      go_ret
      exact ⟨rfl, below_then (below_then (below_then h1 h2) b4) (below_then (below_then (below_then (below_then (below_then (below_then h11 h12) h13) h14) h15) h16) h17)⟩
    · have hN' : 1000 < len1 := by omega
      go_enter Try.func6, Try.ntmps6
      go_wp2_with (go_at_call 7; (with_reducible refine (alive21_any _).mono ?_); rintro e w' ⟨rfl, hb⟩)
      go_ret
      exact ⟨rfl, hb⟩
  · have hN' : 1000 < len0 := by omega
    go_enter Try.func6, Try.ntmps6
    go_wp2_with (go_at_call 7; (with_reducible refine (alive21_any _).mono ?_); rintro e w' ⟨rfl, hb⟩)
    go_ret
    exact ⟨rfl, hb⟩

set_option maxRecDepth 100000 in
theorem lifted (os : Os) (started : os.Started) (H : Type) (enc : TypeId × Value → H) :
    ReturnsInHanded {} Try.checked os 6 .any (Rows.pctBackSpec.pre6 enc Try.prog Try.f6 Rows.pctBackRow.domain false) (Rows.pctBackSpec.post enc Try.prog Try.f6 false true false false) := by
  refine returnsInHanded_of_change (C := Try.checked) own started (by kernel_rfl) Try.func6
    (ChangeSpec.witness6 (enc := enc) (C := Try.checked) false ⟨#[], #[.slice none 0 0, .slice none 0 0], []⟩ 8 (by kernel_rfl) (by kernel_rfl) (by kernel_rfl) (by kernel_rfl)) ?_
  intro W base args ds gs before hval0 hW hcnd _
  have hval : ∀ (j : Nat) t v, Try.f6.params[j]? = some t → args[j]? = some v → Value.okWide Try.prog W .any base t v := hval0
  have hW' := hW
  obtain ⟨p, q, hA0, hV, rfl, hfz, hnd⟩ := hW
  have hA : DataW.TrodAll enc Try.prog W 0 (fun _ => true) true Try.f6.params.toList args.toList ds p := hA0
  rw [Try.params6] at hA hval
  obtain ⟨v0, vs0, d0, ds0, p0, q0, hargs, rfl, rfl, h0, r_0⟩ := trodAll_cons hA
  obtain ⟨v1, vs1, d1, ds1, p1, q1, rfl, rfl, rfl, h1, r_1⟩ := trodAll_cons r_0
  obtain ⟨rfl, rfl, rfl⟩ := trodAll_nil r_1
  obtain rfl : args = #[v0, v1] := by cases args; simp_all
  obtain ⟨rfl, rfl⟩ := trodVars_none hV
  obtain ⟨a0, len0, cap0, rfl⟩ := okWide_slice Try.underlying22 (hval 0 22 v0 rfl rfl)
  have k0 := h0
  have lt0 : ∀ x ∈ p0, x.block < W.heap.size := by obtain ⟨m, hm⟩ := k0; exact DataW.trod_lt m _ _ _ hm
  obtain ⟨xs0, r0⟩ : ∃ xs, Reads .u8 W a0 len0 cap0 xs := by
    obtain ⟨fuel, hf⟩ := h0
    rcases open_ints Try.underlying22 Try.underlying5 (by kernel_rfl) hf with ⟨hcs, _⟩ | ⟨x, l, c, zs, hcs, _, hl, hm, hz, _, hcell, hwz⟩
    · simp [Value.cells] at hcs
      obtain ⟨rfl, rfl, rfl⟩ := hcs
      exact ⟨[], Reads.nil _ _ _ _ (Nat.zero_le _)⟩
    · simp [Value.cells] at hcs
      obtain ⟨rfl, rfl, rfl⟩ := hcs
      exact ⟨_, reads_of_ints hl hm (by simpa using hz) hcell hwz⟩
  obtain ⟨a1, len1, cap1, rfl⟩ := okWide_slice Try.underlying22 (hval 1 22 v1 rfl rfl)
  have k1 := h1
  have lt1 : ∀ x ∈ p1, x.block < W.heap.size := by obtain ⟨m, hm⟩ := k1; exact DataW.trod_lt m _ _ _ hm
  obtain ⟨xs1, r1⟩ : ∃ xs, Reads .u8 W a1 len1 cap1 xs := by
    obtain ⟨fuel, hf⟩ := h1
    rcases open_ints Try.underlying22 Try.underlying5 (by kernel_rfl) hf with ⟨hcs, _⟩ | ⟨x, l, c, zs, hcs, _, hl, hm, hz, _, hcell, hwz⟩
    · simp [Value.cells] at hcs
      obtain ⟨rfl, rfl, rfl⟩ := hcs
      exact ⟨[], Reads.nil _ _ _ _ (Nat.zero_le _)⟩
    · simp [Value.cells] at hcs
      obtain ⟨rfl, rfl, rfl⟩ := hcs
      exact ⟨_, reads_of_ints hl hm (by simpa using hz) hcell hwz⟩
  clear hA0 hval0
  refine (walk a0 len0 cap0 xs0 a1 len1 cap1 xs1 W r0 r1).mono fun e W' ⟨he, bel⟩ => ?_
  subst he
  exact ⟨_, rfl, _, _, _, [], _, [], hW', trodAll_mk1 (shut_bool Try.underlying4 _), (trodAll_cons_mk (Below.trod laidOut (by kernel_rfl) (of_decide_eq_true (by kernel_rfl)) k0 bel lt0) (trodAll_cons_mk (Below.trod laidOut (by kernel_rfl) (of_decide_eq_true (by kernel_rfl)) k1 bel lt1) trodAll_mk0)), rfl, bel.frame _, fun h => by cases h⟩

theorem over : Rows.pctBackRow.holds Try.pinned (OpenSpec.ofChange Rows.pctBackSpec) :=
  OpenClaim.holds_of_wide 6 Try.f6 rfl rfl rfl rfl rfl rfl rfl ⟨rfl, rfl, rfl, rfl, rfl⟩ rfl rfl rfl rfl rfl (by kernel_rfl) Try.func6 (by kernel_rfl)
    (of_decide_eq_true (by kernel_rfl)) (by unfold Func.isWrapper; first | (rw [if_pos (by decide +kernel)]; kernel_rfl) | (rw [if_neg (by decide +kernel)]; exact ⟨rfl, rfl⟩))
    (fun os started H enc _ => lifted os started H enc)

end Go.Proofs.Ytckeejhbfamebaa.pctBack
namespace Go.Proofs.Ytckeejhbfamebaa
theorem pctBack_holds : Rows.PctBackSaid := pctBack.over
#print axioms pctBack_holds
end Go.Proofs.Ytckeejhbfamebaa
