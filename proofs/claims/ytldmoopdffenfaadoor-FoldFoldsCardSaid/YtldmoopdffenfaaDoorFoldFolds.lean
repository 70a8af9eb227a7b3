/-
  Proved: for every []byte s (nil, empty, of any length and capacity) and all ints first and most, in whatever memory and on every schedule, sheavelaw27.FoldFolds(s, first, most) returns true, without a panic or a race, and its arguments read as before. No condition.
-/
import Derived.Test.YtldmoopdffenfaaDoorRows
import Derived.Test.YtldmoopdffenfaaDoorAlive27
import Derived.Test.YtldmoopdffenfaaDoorR27
import Derived.Test.YtldmoopdffenfaaDoorTab
import Derived.Test.YtldmoopdffenfaaDoorCards
import Derived.Test.YtldmoopdffenfaaDoorTie
import Derived.WalkKit
import Derived.LaidMore
import Derived.Lay
import Derived.SevenTiedAt
import Derived.Stop.Joined
import Derived.ProofKit
import Derived.OpenShut
import Derived.ShutString
import Derived.ChangeOld
import Derived.Below
import Derived.HandedShaped
namespace Go.Proofs.YtldmoopdffenfaaDoor.foldFolds
open Go.ChangeShapes Go.WideShapes Go.ChangeAt Go.RowKit
open Go.ChangeMaps (open_string shut_string)
set_option linter.unusedVariables false

theorem own : ownKnob Tryd.prog.godebug = none := by kernel_rfl
theorem laidOut : laidOutB Tryd.prog = true := by kernel_rfl

set_option maxHeartbeats 4000000 in
set_option maxRecDepth 100000 in
theorem walk (a0 : Option Addr) (len0 cap0 : Nat) (xs0 : List Int) (a1 : Int) (a2 : Int) (w : World) (r0 : Reads .u8 w a0 len0 cap0 xs0) (w1 : (Lit.int .i64 a1).wf = true) (w2 : (Lit.int .i64 a2).wf = true) (hm : Mx w) (hT : Tabs w) :
    Calls Tryd.prog 4 #[.slice a0 len0 cap0, .int .i64 a1, .int .i64 a2] w fun e w' => e = .returned (.bool true) ∧ Below w.heap.size w w' := by
  have HA := hid (fun W (hb : Below w.heap.size w W) => alive27_any W (hT.below hb) (hm.below hb))
  by_cases hN : len0 ≤ 600
  · have R := hid r0
    have hsz := r0.size
    have hul : (unfL xs0).length ≤ xs0.length := (unfS_len xs0 false).1
    have F1 := hid (fold_Fold a0 len0 cap0 xs0 a1 a2 w r0 (by omega) w1 w2)
    have F2 := hid (fun W (hb : Below w.heap.size w W) => ref27_Fold a0 len0 cap0 xs0 a1 a2 W (R.out.below hb) (by omega))
    have F3 := hid (fun W (hb : Below w.heap.size w W) => fold_Again a0 len0 cap0 xs0 a1 a2 W (R.out.below hb) (by omega) w1 w2)
    have F4 := hid (fun W (hb : Below w.heap.size w W) => ref27_Unfold a0 len0 cap0 xs0 W (R.out.below hb) (by omega))
    have F5 := hid (fun W b1 c1 (h : Reads .u8 W b1 (unfL xs0).length c1 (unfL xs0)) => ref27_Fold b1 (unfL xs0).length c1 (unfL xs0) a1 a2 W h (by omega))
    generalize foldE xs0 a1 a2 = E1 at *
    generalize foldL xs0 a1 a2 = L1 at *
    generalize foldE (unfL xs0) a1 a2 = E2 at *
    generalize foldL (unfL xs0) a1 a2 = L2 at *
    generalize unfL xs0 = U at *
    generalize unfN xs0 = K at *
    clear r0 hsz hul hT hm
    go_enter Tryd.func4, Tryd.ntmps4
    go_wp2_with (first
      | (go_at_call 13; (with_reducible refine F1.out.mono ?_); rintro e w3 ⟨b1, l1, c1, rfl, r1, h1⟩)
      | (go_at_call 14; (with_reducible refine (F2.out _ h1).mono ?_); rintro e w4 ⟨v2, rfl, o2, h2⟩; obtain ⟨b2, c2, rfl, r2⟩ := o2.reads; have t2 := below_then h1 h2; have r12 := r1.below h2)
      | (go_at_call 15; (with_reducible refine (F3.out _ t2).mono ?_); rintro e w5 ⟨b3, l3, c3, rfl, r3, h3⟩; have t3 := below_then t2 h3; have r13 := r12.below h3; have r23 := r2.below h3)
      | (go_at_call 7; (with_reducible refine (F4.out _ t3).mono ?_); rintro e w6 ⟨v4, rfl, o4, h4⟩; obtain ⟨b4, c4, rfl, r4⟩ := o4.reads; have t4 := below_then t3 h4; have r14 := r13.below h4; have r24 := r23.below h4; have r34 := r3.below h4)
      | (go_at_call 14; (with_reducible refine (F5.out _ _ _ r4).mono ?_); rintro e w7 ⟨v5, rfl, o5, h5⟩; obtain ⟨b5, c5, rfl, r5⟩ := o5.reads; have t5 := below_then t4 h5; have r15 := r14.below h5; have r25 := r24.below h5; have r35 := r34.below h5)
      | (go_at_call 8; (with_reducible refine (like27 _ _ _ _ _ _ _ _ r15 r25).mono ?_); rintro e w8 ⟨rfl, h6⟩; have t6 := below_then t5 h6; have r36 := r35.below h6; have r56 := r5.below h6)
      | (go_at_call 8; (with_reducible refine (like27 _ _ _ _ _ _ _ _ r36 r56).mono ?_); rintro e w9 ⟨rfl, h7⟩; have t7 := below_then t6 h7)
      | (go_at_call 6; (with_reducible refine (HA.out _ t7).mono ?_); rintro e wa ⟨rfl, ha⟩))
    go_ret
    exact ⟨rfl, below_then t7 ha⟩
  · have hN' : 600 < len0 := by omega
    clear hT hm
    go_enter Tryd.func4, Tryd.ntmps4
    go_wp2_with (go_at_call 6; (with_reducible refine (HA.out _ (Below.refl _ _)).mono ?_); rintro e w' ⟨rfl, hb⟩)
    go_ret
    exact ⟨rfl, hb⟩

def laidL : List (String × DataW Unit) := [("unicode/utf8.acceptRanges", Rows.laid_unicode_utf8_acceptRanges), ("unicode/utf8.first", Rows.laid_unicode_utf8_first)]
set_option maxRecDepth 100000 in
theorem lifted (os : Os) (started : os.Started) (H : Type) (enc : TypeId × Value → H) :
    ReturnsInHanded {} Tryd.checked os 4 .any (fun w args => (Rows.foldFoldsSpec.pre enc Tryd.prog Tryd.f4 Rows.foldFoldsRow.domain false w args ∧ laidMetH Tryd.prog laidL w) ∧ sizedMet enc Tryd.prog Tryd.f4 (OpenSpec.ofChange Rows.foldFoldsSpec) false w args)
      (Rows.foldFoldsSpec.post enc Tryd.prog Tryd.f4 false true false false) := by
  refine returnsInHanded_both (C := Tryd.checked) (X := fun w _ => laidMetH Tryd.prog laidL w) (fun _ _ _ hh h => h.of_heap hh) own started (by kernel_rfl) Tryd.func4
    (ChangeSpec.witness_shaped (enc := enc) (C := Tryd.checked) (os := os) (X := fun w _ => laidMetH Tryd.prog laidL w) false (World.laidAll Tryd.prog os laidL) #[.slice none 0 0, .int .i64 0, .int .i64 0] 8 (World.laidAll_os _ _ _)
      (World.shaped_of_ZipB (by kernel_rfl) (by kernel_rfl)) (by kernel_rfl) (by kernel_rfl) (by kernel_rfl)
      (by rw [MakeChecks.laidMetH_plain _ _ _ (by kernel_rfl)]; exact laidMet_laidAll _ (by kernel_rfl) (by kernel_rfl))) ?_
  intro W base args ds gs before hval0 hW hcnd hsh hL
  have hval : ∀ (j : Nat) t v, Tryd.f4.params[j]? = some t → args[j]? = some v → Value.okWide Tryd.prog W .any base t v := hval0
  have hW' := hW
  obtain ⟨p, q, hA0, hV, rfl, hfz, hnd⟩ := hW
  have hA : DataW.TrodAll enc Tryd.prog W 0 (fun _ => true) true Tryd.f4.params.toList args.toList ds p := hA0
  rw [Tryd.params4] at hA hval
  obtain ⟨v0, vs0, d0, ds0, p0, q0, hargs, rfl, rfl, h0, r_0⟩ := trodAll_cons hA
  obtain ⟨v1, vs1, d1, ds1, p1, q1, rfl, rfl, rfl, h1, r_1⟩ := trodAll_cons r_0
  obtain ⟨v2, vs2, d2, ds2, p2, q2, rfl, rfl, rfl, h2, r_2⟩ := trodAll_cons r_1
  obtain ⟨rfl, rfl, rfl⟩ := trodAll_nil r_2
  obtain rfl : args = #[v0, v1, v2] := by cases args; simp_all
  obtain ⟨rfl, rfl⟩ := trodVars_none hV
  obtain ⟨a0, len0, cap0, rfl⟩ := okWide_slice Tryd.underlying22 (hval 0 22 v0 rfl rfl)
  have k0 := h0
  have lt0 : ∀ x ∈ p0, x.block < W.heap.size := by obtain ⟨m, hm⟩ := k0; exact DataW.trod_lt m _ _ _ hm
  obtain ⟨xs0, r0⟩ : ∃ xs, Reads .u8 W a0 len0 cap0 xs := by
    obtain ⟨fuel, hf⟩ := h0
    rcases open_ints Tryd.underlying22 Tryd.underlying5 (by kernel_rfl) hf with ⟨hcs, _⟩ | ⟨x, l, c, zs, hcs, _, hl, hm, hz, _, hcell, hwz⟩
    · simp [Value.cells] at hcs
      obtain ⟨rfl, rfl, rfl⟩ := hcs
      exact ⟨[], Reads.nil _ _ _ _ (Nat.zero_le _)⟩
    · simp [Value.cells] at hcs
      obtain ⟨rfl, rfl, rfl⟩ := hcs
      exact ⟨_, reads_of_ints hl hm (by simpa using hz) hcell hwz⟩
  obtain ⟨a1, rfl, rfl, rfl, w1⟩ := open_int Tryd.underlying3 (hval 1 3 v1 rfl rfl) h1
  obtain ⟨a2, rfl, rfl, rfl, w2⟩ := open_int Tryd.underlying3 (hval 2 3 v2 rfl rfl) h2
  clear hA0 hval0
  refine (walk a0 len0 cap0 xs0 a1 a2 W r0 w1 w2 (Mx.shaped hsh) (tabs_of_laid hL)).mono fun e W' ⟨he, bel⟩ => ?_
  subst he
  exact ⟨_, rfl, _, _, _, [], _, [], hW', trodAll_mk1 (shut_bool Tryd.underlying4 _), (trodAll_cons_mk (Below.trod laidOut (by kernel_rfl) (of_decide_eq_true (by kernel_rfl)) k0 bel lt0) (trodAll_cons_mk (shut_int Tryd.underlying3 w1) (trodAll_cons_mk (shut_int Tryd.underlying3 w2) trodAll_mk0))), rfl, bel.frame _, fun h => by cases h⟩

theorem over : Rows.foldFoldsRow.holds Tryd.pinned (OpenSpec.ofChange Rows.foldFoldsSpec) :=
  OpenClaim.holds_of_wide 4 Tryd.f4 rfl rfl rfl rfl rfl rfl rfl ⟨rfl, rfl, rfl, rfl, rfl⟩ rfl rfl rfl rfl rfl (by kernel_rfl) Tryd.func4 (by kernel_rfl)
    (of_decide_eq_true (by kernel_rfl)) (by unfold Func.isWrapper; first | (rw [if_pos (by decide +kernel)]; kernel_rfl) | (rw [if_neg (by decide +kernel)]; exact ⟨rfl, rfl⟩))
    (fun os started H enc _ => lifted os started H enc)

end Go.Proofs.YtldmoopdffenfaaDoor.foldFolds
namespace Go.Proofs.YtldmoopdffenfaaDoor
set_option maxRecDepth 100000 in
theorem foldFolds_holds : Rows.FoldFoldsCardSaid :=
  Claim7.holds_tied_plain_at .later [] [.data, .pinned] true (true, "5ca5cbeb13d80388a28c2a784e1ec5cf55ec56919591607f7ba5f71919d845be") false foldFolds.over (fun _ h => by cases h) (by kernel_rfl) (fun _ h => by cases h) foldFolds_row_tie rfl ⟨rfl, rfl⟩ (by kernel_rfl) rfl
    (fun f fn hf hfn => by
      obtain rfl : f = 4 := Option.some.inj ((show Tryd.prog.funcNamed "sheave/sheavelaw27.FoldFolds" = some 4 by kernel_rfl).symm.trans hf) |>.symm
      obtain rfl : fn = Tryd.f4 := (Option.some.inj (Tryd.func4.symm.trans hfn)).symm
      exact ⟨by kernel_rfl, fun j t ht => by
        rw [Tryd.params4] at ht
        have hm : t ∈ [22, 3, 3] := by simpa using Array.mem_of_getElem? ht
        have hall : ([22, 3, 3].all fun u => !Tryd.prog.wantsStandIn u) = true := by kernel_rfl
        exact (show Tryd.prog.wantsStandIn t = false by simpa using List.all_eq_true.1 hall t hm)⟩)
    (by kernel_rfl)
#print axioms foldFolds_holds
end Go.Proofs.YtldmoopdffenfaaDoor
