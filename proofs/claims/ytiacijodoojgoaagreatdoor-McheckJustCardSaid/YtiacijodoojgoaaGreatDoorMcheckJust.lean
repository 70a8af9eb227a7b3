/-
  Proved: for every []byte s (nil, empty, of any length and capacity), in whatever memory and on every schedule, sheavelaw25.McheckJust(s) returns true, without a panic or a race, and its argument reads as before. No condition.
-/
import Derived.Test.YtiacijodoojgoaaGreatDoorRows
import Derived.Test.YtiacijodoojgoaaGreatDoorZ34
import Derived.Test.YtiacijodoojgoaaGreatDoorCards
import Derived.Test.YtiacijodoojgoaaGreatDoorTie
import Derived.WalkKit
import Derived.LaidMore
import Derived.Lay
import Derived.SevenTiedAt
import Derived.Stop.Joined
import Derived.ProofKit
import Derived.OpenShut
import Derived.ShutString
import Derived.ChangeOld
import Derived.Below
namespace Go.Proofs.YtiacijodoojgoaaGreatDoor.mcheckJust
open Go.ChangeShapes Go.WideShapes Go.ChangeAt Go.RowKit
open Go.ChangeMaps (open_string shut_string)
set_option linter.unusedVariables false

theorem own : ownKnob Tryz.prog.godebug = none := by kernel_rfl
theorem laidOut : laidOutB Tryz.prog = true := by kernel_rfl

set_option maxHeartbeats 4000000 in
set_option maxRecDepth 100000 in
theorem walk (a0 : Option Addr) (len0 cap0 : Nat) (xs0 : List Int) (w : World) (r0 : Reads .u8 w a0 len0 cap0 xs0) :
    Calls Tryz.prog 3 #[.slice a0 len0 cap0] w fun e w' => e = .returned (.bool true) ∧ Below w.heap.size w w' := by
  by_cases hN : len0 ≤ 500
  · have R := hid r0
    have hsz := r0.size
    have hsc := mbRd_sc xs0
    have hle := mbRd_len xs0
    have hE : mbE (mbRd xs0) = 0 := by unfold mbE; rw [if_pos hsc]
    have hok := mcOk_iff xs0
    have F1 := hid (ref24_Read a0 len0 cap0 xs0 w r0 (by omega))
    have F2 := hid (fun W b1 c1 (h : Reads .i32 W b1 (mbRd xs0).length c1 (mbRd xs0)) => by
      have := ref24_Lay b1 (mbRd xs0).length c1 (mbRd xs0) W h (by omega)
      rw [hE] at this
      exact this)
    have F3 := hid (fun W (hb : Below w.heap.size w W) => mcheck_Right a0 len0 cap0 xs0 W (R.out.below hb) (by omega))
    have F4 := hid (fun W b1 l1 c1 (h : Reads .u8 W b1 l1 c1 (mbL (mbRd xs0))) (hb : Below w.heap.size w W) => like_r b1 l1 c1 _ a0 len0 cap0 _ W h (R.out.below hb))
    rw [← hok] at F4
    generalize mbOk xs0 = Q at F1
    generalize mbL (mbRd xs0) = L at F2 F4
    generalize mbRd xs0 = T at F1 F2
    clear r0 hsz hsc hle hE hok
    cases hZ : mcOk xs0
    all_goals
      rw [hZ] at F3 F4
      clear hZ
      go_enter Tryz.func3, Tryz.ntmps3
      go_wp2_with (first
        | (go_at_call 5; (with_reducible refine F1.out.mono ?_); rintro e w1 ⟨v1, rfl, o1, h1⟩; obtain ⟨b1, c1, rfl, r1⟩ := o1.reads)
        | (go_at_call 6; (with_reducible refine (F2.out _ _ _ r1).mono ?_); rintro e w2 ⟨v2, rfl, o2, h2⟩; obtain ⟨b2, c2, rfl, r2⟩ := o2.reads; have t2 := below_then h1 h2)
        | (go_at_call 7; (with_reducible refine (F3.out _ t2).mono ?_); rintro e w3 ⟨rfl, h3⟩; have t3 := below_then t2 h3; have r23 := r2.below h3)
        | (go_at_call 8; (with_reducible refine (F4.out _ _ _ _ r23 t3).mono ?_); rintro e w4 ⟨rfl, n4, rfl⟩; have t4 := Below.drewN t3 n4)
        | (go_at_call 4; (with_reducible refine (alive25_any _).mono ?_); rintro e w5 ⟨rfl, h5⟩))
      go_ret
      exact ⟨rfl, below_then t4 h5⟩
  · have hN' : 500 < len0 := by omega
    go_enter Tryz.func3, Tryz.ntmps3
    go_wp2_with (go_at_call 4; (with_reducible refine (alive25_any _).mono ?_); rintro e w' ⟨rfl, hb⟩)
    go_ret
    exact ⟨rfl, hb⟩

def laidL : List (String × DataW Unit) := [("unicode/utf8.acceptRanges", Rows.laid_unicode_utf8_acceptRanges), ("unicode/utf8.first", Rows.laid_unicode_utf8_first)]
set_option maxRecDepth 100000 in
theorem lifted (os : Os) (started : os.Started) (H : Type) (enc : TypeId × Value → H) :
    ReturnsInHanded {} Tryz.checked os 3 .any (fun w args => (Rows.mcheckJustSpec.pre enc Tryz.prog Tryz.f3 Rows.mcheckJustRow.domain false w args ∧ laidMetH Tryz.prog laidL w) ∧ sizedMet enc Tryz.prog Tryz.f3 (OpenSpec.ofChange Rows.mcheckJustSpec) false w args)
      (Rows.mcheckJustSpec.post enc Tryz.prog Tryz.f3 false true false false) := by
  refine returnsInHanded_of_change_and (C := Tryz.checked) (X := fun w _ => laidMetH Tryz.prog laidL w) (fun _ _ _ hh h => h.of_heap hh) own started (by kernel_rfl) Tryz.func3
    (ChangeSpec.witness_shaped (enc := enc) (C := Tryz.checked) (os := os) (X := fun w _ => laidMetH Tryz.prog laidL w) false (World.laidAll Tryz.prog os laidL) #[.slice none 0 0] 8 (World.laidAll_os _ _ _)
      (World.shaped_of_ZipB (by kernel_rfl) (by kernel_rfl)) (by kernel_rfl) (by kernel_rfl) (by kernel_rfl)
      (by rw [MakeChecks.laidMetH_plain _ _ _ (by kernel_rfl)]; exact laidMet_laidAll _ (by kernel_rfl) (by kernel_rfl))) ?_
  intro W base args ds gs before hval0 hW hcnd _ _ _
  have hval : ∀ (j : Nat) t v, Tryz.f3.params[j]? = some t → args[j]? = some v → Value.okWide Tryz.prog W .any base t v := hval0
  have hW' := hW
  obtain ⟨p, q, hA0, hV, rfl, hfz, hnd⟩ := hW
  have hA : DataW.TrodAll enc Tryz.prog W 0 (fun _ => true) true Tryz.f3.params.toList args.toList ds p := hA0
  rw [Tryz.params3] at hA hval
  obtain ⟨v0, vs0, d0, ds0, p0, q0, hargs, rfl, rfl, h0, r_0⟩ := trodAll_cons hA
  obtain ⟨rfl, rfl, rfl⟩ := trodAll_nil r_0
  obtain rfl : args = #[v0] := by cases args; simp_all
  obtain ⟨rfl, rfl⟩ := trodVars_none hV
  obtain ⟨a0, len0, cap0, rfl⟩ := okWide_slice Tryz.underlying22 (hval 0 22 v0 rfl rfl)
  have k0 := h0
  have lt0 : ∀ x ∈ p0, x.block < W.heap.size := by obtain ⟨m, hm⟩ := k0; exact DataW.trod_lt m _ _ _ hm
  obtain ⟨xs0, r0⟩ : ∃ xs, Reads .u8 W a0 len0 cap0 xs := by
    obtain ⟨fuel, hf⟩ := h0
    rcases open_ints Tryz.underlying22 Tryz.underlying5 (by kernel_rfl) hf with ⟨hcs, _⟩ | ⟨x, l, c, zs, hcs, _, hl, hm, hz, _, hcell, hwz⟩
    · simp [Value.cells] at hcs
      obtain ⟨rfl, rfl, rfl⟩ := hcs
      exact ⟨[], Reads.nil _ _ _ _ (Nat.zero_le _)⟩
    · simp [Value.cells] at hcs
      obtain ⟨rfl, rfl, rfl⟩ := hcs
      exact ⟨_, reads_of_ints hl hm (by simpa using hz) hcell hwz⟩
  clear hA0 hval0
  refine (walk a0 len0 cap0 xs0 W r0).mono fun e W' ⟨he, bel⟩ => ?_
  subst he
  exact ⟨_, rfl, _, _, _, [], _, [], hW', trodAll_mk1 (shut_bool Tryz.underlying4 _), (trodAll_cons_mk (Below.trod laidOut (by kernel_rfl) (of_decide_eq_true (by kernel_rfl)) k0 bel lt0) trodAll_mk0), rfl, bel.frame _, fun h => by cases h⟩

theorem over : Rows.mcheckJustRow.holds Tryz.pinned (OpenSpec.ofChange Rows.mcheckJustSpec) :=
  OpenClaim.holds_of_wide 3 Tryz.f3 rfl rfl rfl rfl rfl rfl rfl ⟨rfl, rfl, rfl, rfl, rfl⟩ rfl rfl rfl rfl rfl (by kernel_rfl) Tryz.func3 (by kernel_rfl)
    (of_decide_eq_true (by kernel_rfl)) (by unfold Func.isWrapper; first | (rw [if_pos (by decide +kernel)]; kernel_rfl) | (rw [if_neg (by decide +kernel)]; exact ⟨rfl, rfl⟩))
    (fun os started H enc _ => lifted os started H enc)

end Go.Proofs.YtiacijodoojgoaaGreatDoor.mcheckJust
namespace Go.Proofs.YtiacijodoojgoaaGreatDoor
set_option maxRecDepth 100000 in
theorem mcheckJust_holds : Rows.McheckJustCardSaid :=
  Claim7.holds_tied_plain_at .later [] [.data, .pinned] true (true, "cba84498b546d047c022b0207633d55c1b1d71acbeac89c26d7fc2c022fa6697") false mcheckJust.over (fun _ h => by cases h) (by kernel_rfl) (fun _ h => by cases h) mcheckJust_row_tie rfl ⟨rfl, rfl⟩ (by kernel_rfl) rfl
    (fun f fn hf hfn => by
      obtain rfl : f = 3 := Option.some.inj ((show Tryz.prog.funcNamed "sheave/sheavelaw25.McheckJust" = some 3 by kernel_rfl).symm.trans hf) |>.symm
      obtain rfl : fn = Tryz.f3 := (Option.some.inj (Tryz.func3.symm.trans hfn)).symm
      exact ⟨by kernel_rfl, fun j t ht => by
        rw [Tryz.params3] at ht
        have hm : t ∈ [22] := by simpa using Array.mem_of_getElem? ht
        have hall : ([22].all fun u => !Tryz.prog.wantsStandIn u) = true := by kernel_rfl
        exact (show Tryz.prog.wantsStandIn t = false by simpa using List.all_eq_true.1 hall t hm)⟩)
    (by kernel_rfl)
#print axioms mcheckJust_holds
end Go.Proofs.YtiacijodoojgoaaGreatDoor
