/-
  Proved: for every []byte b (nil, empty, of any length and capacity), every rune c and every byte x, in whatever memory and on every schedule, sheavelaw04.UtfoneOctets(b, c, x) returns true, without a panic or a race, and its arguments read as before. No condition.
-/
import Derived.Test.YtfmbpcjmpggodaaRows
import Derived.Test.YtfmbpcjmpggodaaAlive04
import Derived.Test.YtfmbpcjmpggodaaR04b
import Derived.Test.YtfmbpcjmpggodaaGuard
import Derived.WalkKit
import Derived.ProofKit
import Derived.OpenShut
import Derived.ShutString
import Derived.ChangeOld
import Derived.Below
namespace Go.Proofs.Ytfmbpcjmpggodaa.utfoneOctets
open Go.ChangeShapes Go.WideShapes Go.ChangeAt Go.RowKit
open Go.ChangeMaps (open_string shut_string)
set_option linter.unusedVariables false

theorem own : ownKnob Try.prog.godebug = none := by kernel_rfl
theorem laidOut : laidOutB Try.prog = true := by kernel_rfl
theorem like4_same (a : Option Addr) (len cap : Nat) (a2 : Option Addr) (len2 cap2 : Nat) (xs : List Int) (w : World) (hr : Reads .u8 w a len cap xs) (hr2 : Reads .u8 w a2 len2 cap2 xs) :
    Calls Try.prog 10 #[.slice a len cap, .slice a2 len2 cap2] w fun e w' => e = .returned (.bool true) ∧ ∃ n, w' = w.drewN n := by
  have := like_r a len cap xs a2 len2 cap2 xs w hr hr2
  rwa [decide_eq_true rfl] at this
theorem fol_two (a : Int) (w : World) (h0 : 0 ≤ a) (h1 : a ≤ 255) :
    Calls Try.prog 14 #[.int .u8 a] w fun e w' => e = .returned (.bool (decide (128 ≤ a) && decide (a ≤ 191))) ∧ w = w' := by
  have := utfone_Follows a w h0 h1
  rwa [show folB a = (decide (128 ≤ a) && decide (a ≤ 191)) by unfold folB; rw [Bool.eq_iff_iff]; simp] at this
set_option maxHeartbeats 4000000 in
set_option maxRecDepth 100000 in
theorem walk (a0 : Option Addr) (len0 cap0 : Nat) (xs0 : List Int) (a1 : Int) (a2 : Int) (w : World) (r0 : Reads .u8 w a0 len0 cap0 xs0) (w1 : (Lit.int .i32 a1).wf = true) (w2 : (Lit.int .u8 a2).wf = true) :
    Calls Try.prog 3 #[.slice a0 len0 cap0, .int .i32 a1, .int .u8 a2] w fun e w' => e = .returned (.bool true) ∧ Below w.heap.size w w' := by
  have hx := wf_u8 w2
  have hc := wf_r w1
  obtain ⟨x0, x1⟩ := hx
  by_cases hN : len0 ≤ 1000
  · have R := hid r0
    have hsz := r0.size
    clear r0
    cases hs : scB a1
    · have hl : lenI a1 = 0 := by unfold lenI; rw [if_neg (by simp [hs])]
      have HS := hid hs
      go_enter Try.func3, Try.ntmps3
      go_wp2_with (first
        | (go_at_call 8; (with_reducible refine (utfone_PutNo _ _ _ _ _ HS.out).mono ?_); rintro e w' ⟨rfl, rfl⟩)
        | (go_at_call 9; (with_reducible refine (ref04_Octets _ _ hc.1 hc.2).mono ?_); rintro e w2 ⟨b2, c2, rfl, hr2, hb2⟩)
        | (go_at_call 11; (with_reducible refine (utfone_Len _ _).mono ?_); rintro e w' ⟨rfl, rfl⟩)
        | (go_at_call 12; (with_reducible refine (utfone_Starts _ _ x0 x1).mono ?_); rintro e w' ⟨rfl, rfl⟩)
        | (go_at_call 13; (with_reducible refine (ref04_Starts _ _ x0 x1).mono ?_); rintro e w' ⟨rfl, rfl⟩)
        | (go_at_call 14; (with_reducible refine (fol_two _ _ x0 x1).mono ?_); rintro e w' ⟨rfl, rfl⟩)
        | (go_at_call 7; (with_reducible refine (alive4_any _).mono ?_); rintro e w' ⟨rfl, hb⟩))
      all_goals
        go_ret
        exact ⟨rfl, below_then hb2 hb⟩
    · have hp : 0 < lenI a1 := (len_pos a1).2 hs
      have hl4 := lenI_le a1
      have HS := hid hs
      have hol := octs_len a1
      go_enter Try.func3, Try.ntmps3
      go_wp2_with (first
        | (go_at_call 8; (with_reducible refine (utfone_Put _ _ _ _ _ _ R.out (by omega) HS.out).mono ?_); rintro e w1 ⟨b1, c1, rfl, hr1, hb1⟩)
        | (go_at_call 9; (with_reducible refine (ref04_Octets _ _ hc.1 hc.2).mono ?_); rintro e w2 ⟨b2, c2, rfl, hr2, hb2⟩; have hb2' := below_then hb1 hb2; have hr1' := hr1.below hb2; have R2 := R.out.below hb2')
        | (go_at_call 11; (with_reducible refine (utfone_Len _ _).mono ?_); rintro e w' ⟨rfl, rfl⟩)
        | (go_at_call 12; (with_reducible refine (utfone_Starts _ _ x0 x1).mono ?_); rintro e w' ⟨rfl, rfl⟩)
        | (go_at_call 13; (with_reducible refine (ref04_Starts _ _ x0 x1).mono ?_); rintro e w' ⟨rfl, rfl⟩)
        | (go_at_call 14; (with_reducible refine (fol_two _ _ x0 x1).mono ?_); rintro e w' ⟨rfl, rfl⟩)
        | (go_at_call 7; (with_reducible refine (alive4_any _).mono ?_); rintro e w' ⟨rfl, hb⟩)
        | (at_builtin; (refine wpList_moreG ST8 rfl _ _ rfl rfl rfl ho3 hb3 (hr2.below hg3) (by simp; omega) ?_); intro v4 w4 ho4 hb4; simp only [List.nil_append] at ho4; obtain ⟨a4, c4, rfl, hr4⟩ := ho4.reads; simp only [List.length_append, hsz, hol] at hr4 ⊢; have hr1'' := hr1'.below hb4; have hb4' := below_then hb2' hb4)
        | (go_at_call 10; (with_reducible refine (like4_same _ _ _ _ _ _ _ _ hr1'' hr4).mono ?_); rintro e w5 ⟨rfl, n5, rfl⟩; have hb5 := Below.drewN hb4' n5)
        | (at_builtin; go_must (refine wpList_moreG (w0 := w2) ST8 rfl _ _ rfl rfl rfl (Own.nil _ _ _ _) (Below.refl _ _) R2 (by simp; omega) ?_); intro v3 w3 ho3 hb3; have hg3 := hb3))
      all_goals
        go_ret
        exact ⟨rfl, below_then' hb5 hb (by simp)⟩
  · have hN' : 1000 < len0 := by omega
    go_enter Try.func3, Try.ntmps3
    go_wp2_with (go_at_call 7; (with_reducible refine (alive4_any _).mono ?_); rintro e w' ⟨rfl, hb⟩)
    go_ret
    exact ⟨rfl, hb⟩

set_option maxRecDepth 100000 in
theorem lifted (os : Os) (started : os.Started) (H : Type) (enc : TypeId × Value → H) :
    ReturnsInHanded {} Try.checked os 3 .any (Rows.utfoneOctetsSpec.pre6 enc Try.prog Try.f3 Rows.utfoneOctetsRow.domain false) (Rows.utfoneOctetsSpec.post enc Try.prog Try.f3 false true false false) := by
  refine returnsInHanded_of_change (C := Try.checked) own started (by kernel_rfl) Try.func3
    (ChangeSpec.witness6 (enc := enc) (C := Try.checked) false ⟨#[], #[.slice none 0 0, .int .i32 0, .int .u8 0], []⟩ 8 (by kernel_rfl) (by kernel_rfl) (by kernel_rfl) (by kernel_rfl)) ?_
  intro W base args ds gs before hval0 hW hcnd _
  have hval : ∀ (j : Nat) t v, Try.f3.params[j]? = some t → args[j]? = some v → Value.okWide Try.prog W .any base t v := hval0
  have hW' := hW
  obtain ⟨p, q, hA0, hV, rfl, hfz, hnd⟩ := hW
  have hA : DataW.TrodAll enc Try.prog W 0 (fun _ => true) true Try.f3.params.toList args.toList ds p := hA0
  rw [Try.params3] at hA hval
  obtain ⟨v0, vs0, d0, ds0, p0, q0, hargs, rfl, rfl, h0, r_0⟩ := trodAll_cons hA
  obtain ⟨v1, vs1, d1, ds1, p1, q1, rfl, rfl, rfl, h1, r_1⟩ := trodAll_cons r_0
  obtain ⟨v2, vs2, d2, ds2, p2, q2, rfl, rfl, rfl, h2, r_2⟩ := trodAll_cons r_1
  obtain ⟨rfl, rfl, rfl⟩ := trodAll_nil r_2
  obtain rfl : args = #[v0, v1, v2] := by cases args; simp_all
  obtain ⟨rfl, rfl⟩ := trodVars_none hV
  obtain ⟨a0, len0, cap0, rfl⟩ := okWide_slice Try.underlying22 (hval 0 22 v0 rfl rfl)
  have k0 := h0
  have lt0 : ∀ x ∈ p0, x.block < W.heap.size := by obtain ⟨m, hm⟩ := k0; exact DataW.trod_lt m _ _ _ hm
  obtain ⟨xs0, r0⟩ : ∃ xs, Reads .u8 W a0 len0 cap0 xs := by
    obtain ⟨fuel, hf⟩ := h0
    rcases open_ints Try.underlying22 Try.underlying5 (by kernel_rfl) hf with ⟨hcs, _⟩ | ⟨x, l, c, zs, hcs, _, hl, hm, hz, _, hcell, hwz⟩
    · simp [Value.cells] at hcs
      obtain ⟨rfl, rfl, rfl⟩ := hcs
      exact ⟨[], Reads.nil _ _ _ _ (Nat.zero_le _)⟩
    · simp [Value.cells] at hcs
      obtain ⟨rfl, rfl, rfl⟩ := hcs
      exact ⟨_, reads_of_ints hl hm (by simpa using hz) hcell hwz⟩
  obtain ⟨a1, rfl, rfl, rfl, w1⟩ := open_int Try.underlying21 (hval 1 21 v1 rfl rfl) h1
  obtain ⟨a2, rfl, rfl, rfl, w2⟩ := open_int Try.underlying5 (hval 2 5 v2 rfl rfl) h2
  clear hA0 hval0
  refine (walk a0 len0 cap0 xs0 a1 a2 W r0 w1 w2).mono fun e W' ⟨he, bel⟩ => ?_
  subst he
  exact ⟨_, rfl, _, _, _, [], _, [], hW', trodAll_mk1 (shut_bool Try.underlying4 _), (trodAll_cons_mk (Below.trod laidOut (by kernel_rfl) (of_decide_eq_true (by kernel_rfl)) k0 bel lt0) (trodAll_cons_mk (shut_int Try.underlying21 w1) (trodAll_cons_mk (shut_int Try.underlying5 w2) trodAll_mk0))), rfl, bel.frame _, fun h => by cases h⟩

theorem over : Rows.utfoneOctetsRow.holds Try.pinned (OpenSpec.ofChange Rows.utfoneOctetsSpec) :=
  OpenClaim.holds_of_wide 3 Try.f3 rfl rfl rfl rfl rfl rfl rfl ⟨rfl, rfl, rfl, rfl, rfl⟩ rfl rfl rfl rfl rfl (by kernel_rfl) Try.func3 (by kernel_rfl)
    (of_decide_eq_true (by kernel_rfl)) (by unfold Func.isWrapper; first | (rw [if_pos (by decide +kernel)]; kernel_rfl) | (rw [if_neg (by decide +kernel)]; exact ⟨rfl, rfl⟩))
    (fun os started H enc _ => lifted os started H enc)

end Go.Proofs.Ytfmbpcjmpggodaa.utfoneOctets
namespace Go.Proofs.Ytfmbpcjmpggodaa
theorem utfoneOctets_holds : Rows.UtfoneOctetsSaid := utfoneOctets.over
#print axioms utfoneOctets_holds
end Go.Proofs.Ytfmbpcjmpggodaa
