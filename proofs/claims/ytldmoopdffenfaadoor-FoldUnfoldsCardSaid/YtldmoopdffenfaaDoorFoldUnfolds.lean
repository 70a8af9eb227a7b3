/-
  Proved: for every []byte s (nil, empty, of any length and capacity), in whatever memory and on every schedule, sheavelaw27.FoldUnfolds(s) returns true, without a panic or a race, and its argument reads as before. No condition.
-/
import Derived.Test.YtldmoopdffenfaaDoorRows
import Derived.Test.YtldmoopdffenfaaDoorAlive27
import Derived.Test.YtldmoopdffenfaaDoorR27
import Derived.Test.YtldmoopdffenfaaDoorTab
import Derived.Test.YtldmoopdffenfaaDoorCards
import Derived.Test.YtldmoopdffenfaaDoorTie
import Derived.WalkKit
import Derived.LaidMore
import Derived.Lay
import Derived.SevenTiedAt
import Derived.Stop.Joined
import Derived.ProofKit
import Derived.OpenShut
import Derived.ShutString
import Derived.ChangeOld
import Derived.Below
import Derived.HandedShaped
namespace Go.Proofs.YtldmoopdffenfaaDoor.foldUnfolds
open Go.ChangeShapes Go.WideShapes Go.ChangeAt Go.RowKit
open Go.ChangeMaps (open_string shut_string)
set_option linter.unusedVariables false

theorem own : ownKnob Tryd.prog.godebug = none := by kernel_rfl
theorem laidOut : laidOutB Tryd.prog = true := by kernel_rfl

set_option maxHeartbeats 4000000 in
set_option maxRecDepth 100000 in
theorem walk (a0 : Option Addr) (len0 cap0 : Nat) (xs0 : List Int) (w : World) (r0 : Reads .u8 w a0 len0 cap0 xs0) (hm : Mx w) (hT : Tabs w) :
    Calls Tryd.prog 3 #[.slice a0 len0 cap0] w fun e w' => e = .returned (.bool true) ∧ Below w.heap.size w w' := by
  have HA := hid (fun W (hb : Below w.heap.size w W) => alive27_any W (hT.below hb) (hm.below hb))
  by_cases hN : len0 ≤ 1000
  · have R := hid r0
    have F1 := hid (ref27_Unfold a0 len0 cap0 xs0 w r0 (by omega))
    have F2 := hid (fun W (hb : Below w.heap.size w W) => fold_Unfold a0 len0 cap0 xs0 W (R.out.below hb) (by omega))
    have F3 := hid (fun W (hb : Below w.heap.size w W) => fold_Folds a0 len0 cap0 xs0 W (R.out.below hb) (by omega))
    have F4 := hid (fun W (hb : Below w.heap.size w W) => fold_Right a0 len0 cap0 xs0 W (R.out.below hb) (by omega) (hT.below hb) (hm.below hb))
    have F5 := hid (fun W (hb : Below w.heap.size w W) => ref27_Right a0 len0 cap0 xs0 W (R.out.below hb) (by omega))
    clear r0 hT hm
    generalize unfL xs0 = L at *
    generalize unfN xs0 = M at *
    generalize rgtF xs0 = Z at *
    cases Z
    all_goals
      go_enter Tryd.func3, Tryd.ntmps3
      go_wp2_with (first
        | (go_at_call 7; (with_reducible refine F1.out.mono ?_); rintro e w1 ⟨v1, rfl, o1, h1⟩; obtain ⟨b1, c1, rfl, r1⟩ := o1.reads)
        | (go_at_call 9; (with_reducible refine (F2.out _ h1).mono ?_); rintro e w2 ⟨b2, l2, c2, rfl, r2, h2⟩; have t2 := below_then h1 h2; have r12 := r1.below h2)
        | (go_at_call 8; (with_reducible refine (like27 _ _ _ _ _ _ _ _ r2 r12).mono ?_); rintro e w3 ⟨rfl, h3⟩; have t3 := below_then t2 h3)
        | (go_at_call 10; (with_reducible refine (F3.out _ t3).mono ?_); rintro e w4 ⟨rfl, h4⟩; have t4 := below_then t3 h4)
        | (go_at_call 11; (with_reducible refine (F4.out _ t4).mono ?_); rintro e w5 ⟨rfl, h5⟩; have t5 := below_then t4 h5)
        | (go_at_call 12; (with_reducible refine (F5.out _ t5).mono ?_); rintro e w6 ⟨rfl, h6⟩; have t6 := below_then t5 h6)
        | (go_at_call 6; (with_reducible refine (HA.out _ t6).mono ?_); rintro e wa ⟨rfl, ha⟩))
      go_ret
      exact ⟨rfl, below_then t6 ha⟩
  · have hN' : 1000 < len0 := by omega
    clear hT hm
    go_enter Tryd.func3, Tryd.ntmps3
    go_wp2_with (go_at_call 6; (with_reducible refine (HA.out _ (Below.refl _ _)).mono ?_); rintro e w' ⟨rfl, hb⟩)
    go_ret
    exact ⟨rfl, hb⟩

def laidL : List (String × DataW Unit) := [("unicode/utf8.acceptRanges", Rows.laid_unicode_utf8_acceptRanges), ("unicode/utf8.first", Rows.laid_unicode_utf8_first)]
set_option maxRecDepth 100000 in
theorem lifted (os : Os) (started : os.Started) (H : Type) (enc : TypeId × Value → H) :
    ReturnsInHanded {} Tryd.checked os 3 .any (fun w args => (Rows.foldUnfoldsSpec.pre enc Tryd.prog Tryd.f3 Rows.foldUnfoldsRow.domain false w args ∧ laidMetH Tryd.prog laidL w) ∧ sizedMet enc Tryd.prog Tryd.f3 (OpenSpec.ofChange Rows.foldUnfoldsSpec) false w args)
      (Rows.foldUnfoldsSpec.post enc Tryd.prog Tryd.f3 false true false false) := by
  refine returnsInHanded_both (C := Tryd.checked) (X := fun w _ => laidMetH Tryd.prog laidL w) (fun _ _ _ hh h => h.of_heap hh) own started (by kernel_rfl) Tryd.func3
    (ChangeSpec.witness_shaped (enc := enc) (C := Tryd.checked) (os := os) (X := fun w _ => laidMetH Tryd.prog laidL w) false (World.laidAll Tryd.prog os laidL) #[.slice none 0 0] 8 (World.laidAll_os _ _ _)
      (World.shaped_of_ZipB (by kernel_rfl) (by kernel_rfl)) (by kernel_rfl) (by kernel_rfl) (by kernel_rfl)
      (by rw [MakeChecks.laidMetH_plain _ _ _ (by kernel_rfl)]; exact laidMet_laidAll _ (by kernel_rfl) (by kernel_rfl))) ?_
  intro W base args ds gs before hval0 hW hcnd hsh hL
  have hval : ∀ (j : Nat) t v, Tryd.f3.params[j]? = some t → args[j]? = some v → Value.okWide Tryd.prog W .any base t v := hval0
  have hW' := hW
  obtain ⟨p, q, hA0, hV, rfl, hfz, hnd⟩ := hW
  have hA : DataW.TrodAll enc Tryd.prog W 0 (fun _ => true) true Tryd.f3.params.toList args.toList ds p := hA0
  rw [Tryd.params3] at hA hval
  obtain ⟨v0, vs0, d0, ds0, p0, q0, hargs, rfl, rfl, h0, r_0⟩ := trodAll_cons hA
  obtain ⟨rfl, rfl, rfl⟩ := trodAll_nil r_0
  obtain rfl : args = #[v0] := by cases args; simp_all
  obtain ⟨rfl, rfl⟩ := trodVars_none hV
  obtain ⟨a0, len0, cap0, rfl⟩ := okWide_slice Tryd.underlying22 (hval 0 22 v0 rfl rfl)
  have k0 := h0
  have lt0 : ∀ x ∈ p0, x.block < W.heap.size := by obtain ⟨m, hm⟩ := k0; exact DataW.trod_lt m _ _ _ hm
  obtain ⟨xs0, r0⟩ : ∃ xs, Reads .u8 W a0 len0 cap0 xs := by
    obtain ⟨fuel, hf⟩ := h0
    rcases open_ints Tryd.underlying22 Tryd.underlying5 (by kernel_rfl) hf with ⟨hcs, _⟩ | ⟨x, l, c, zs, hcs, _, hl, hm, hz, _, hcell, hwz⟩
    · simp [Value.cells] at hcs
      obtain ⟨rfl, rfl, rfl⟩ := hcs
      exact ⟨[], Reads.nil _ _ _ _ (Nat.zero_le _)⟩
    · simp [Value.cells] at hcs
      obtain ⟨rfl, rfl, rfl⟩ := hcs
      exact ⟨_, reads_of_ints hl hm (by simpa using hz) hcell hwz⟩
  clear hA0 hval0
  refine (walk a0 len0 cap0 xs0 W r0 (Mx.shaped hsh) (tabs_of_laid hL)).mono fun e W' ⟨he, bel⟩ => ?_
  subst he
  exact ⟨_, rfl, _, _, _, [], _, [], hW', trodAll_mk1 (shut_bool Tryd.underlying4 _), (trodAll_cons_mk (Below.trod laidOut (by kernel_rfl) (of_decide_eq_true (by kernel_rfl)) k0 bel lt0) trodAll_mk0), rfl, bel.frame _, fun h => by cases h⟩

theorem over : Rows.foldUnfoldsRow.holds Tryd.pinned (OpenSpec.ofChange Rows.foldUnfoldsSpec) :=
  OpenClaim.holds_of_wide 3 Tryd.f3 rfl rfl rfl rfl rfl rfl rfl ⟨rfl, rfl, rfl, rfl, rfl⟩ rfl rfl rfl rfl rfl (by kernel_rfl) Tryd.func3 (by kernel_rfl)
    (of_decide_eq_true (by kernel_rfl)) (by unfold Func.isWrapper; first | (rw [if_pos (by decide +kernel)]; kernel_rfl) | (rw [if_neg (by decide +kernel)]; exact ⟨rfl, rfl⟩))
    (fun os started H enc _ => lifted os started H enc)

end Go.Proofs.YtldmoopdffenfaaDoor.foldUnfolds
namespace Go.Proofs.YtldmoopdffenfaaDoor
set_option maxRecDepth 100000 in
theorem foldUnfolds_holds : Rows.FoldUnfoldsCardSaid :=
  Claim7.holds_tied_plain_at .later [] [.data, .pinned] true (true, "5ca5cbeb13d80388a28c2a784e1ec5cf55ec56919591607f7ba5f71919d845be") false foldUnfolds.over (fun _ h => by cases h) (by kernel_rfl) (fun _ h => by cases h) foldUnfolds_row_tie rfl ⟨rfl, rfl⟩ (by kernel_rfl) rfl
    (fun f fn hf hfn => by
      obtain rfl : f = 3 := Option.some.inj ((show Tryd.prog.funcNamed "sheave/sheavelaw27.FoldUnfolds" = some 3 by kernel_rfl).symm.trans hf) |>.symm
      obtain rfl : fn = Tryd.f3 := (Option.some.inj (Tryd.func3.symm.trans hfn)).symm
      exact ⟨by kernel_rfl, fun j t ht => by
        rw [Tryd.params3] at ht
        have hm : t ∈ [22] := by simpa using Array.mem_of_getElem? ht
        have hall : ([22].all fun u => !Tryd.prog.wantsStandIn u) = true := by kernel_rfl
        exact (show Tryd.prog.wantsStandIn t = false by simpa using List.all_eq_true.1 hall t hm)⟩)
    (by kernel_rfl)
#print axioms foldUnfolds_holds
end Go.Proofs.YtldmoopdffenfaaDoor
