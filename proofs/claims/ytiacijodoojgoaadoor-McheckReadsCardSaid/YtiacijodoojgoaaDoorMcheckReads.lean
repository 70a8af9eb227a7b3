/-
  Proved: for every []byte s (nil, empty, of any length and capacity), in whatever memory and on every schedule, sheavelaw25.McheckReads(s) returns true, without a panic or a race, and its argument reads as before. No condition.
-/
import Derived.Test.YtiacijodoojgoaaDoorRows
import Derived.Test.YtiacijodoojgoaaDoorZ35
import Derived.Test.YtiacijodoojgoaaDoorCards
import Derived.Test.YtiacijodoojgoaaDoorTie
import Derived.WalkKit
import Derived.LaidMore
import Derived.Lay
import Derived.SevenTiedAt
import Derived.Stop.Joined
import Derived.ProofKit
import Derived.OpenShut
import Derived.ShutString
import Derived.ChangeOld
import Derived.Below
namespace Go.Proofs.YtiacijodoojgoaaDoor.mcheckReads
open Go.ChangeShapes Go.WideShapes Go.ChangeAt Go.RowKit
open Go.ChangeMaps (open_string shut_string)
set_option linter.unusedVariables false

theorem own : ownKnob Tryd.prog.godebug = none := by kernel_rfl
theorem laidOut : laidOutB Tryd.prog = true := by kernel_rfl
theorem like25_same (a : Option Addr) (len cap : Nat) (a2 : Option Addr) (len2 cap2 : Nat) (xs : List Int) (w : World) (hr : Reads .i32 w a len cap xs) (hr2 : Reads .i32 w a2 len2 cap2 xs) :
    Calls Tryd.prog 13 #[.slice a len cap, .slice a2 len2 cap2] w fun e w' => e = .returned (.bool true) ∧ Below w.heap.size w w' := by
  have := ref03_Like a len cap xs a2 len2 cap2 xs w hr hr2
  rw [decide_eq_true rfl] at this
  refine this.mono ?_
  rintro e w' ⟨rfl, n, rfl⟩
  exact ⟨rfl, Below.drewN (Below.refl _ _) n⟩
set_option maxHeartbeats 4000000 in
set_option maxRecDepth 100000 in
theorem walk (a0 : Option Addr) (len0 cap0 : Nat) (xs0 : List Int) (w : World) (r0 : Reads .u8 w a0 len0 cap0 xs0) :
    Calls Tryd.prog 4 #[.slice a0 len0 cap0] w fun e w' => e = .returned (.bool true) ∧ Below w.heap.size w w' := by
  by_cases hN : len0 ≤ 500
  · have R := hid r0
    have F1 := hid (mcheck_Read a0 len0 cap0 xs0 w r0 (by omega))
    have F2 := hid (fun W (hb : Below w.heap.size w W) => ref25_Why a0 len0 cap0 xs0 W (R.out.below hb) (by omega))
    have F3 := hid (fun W (hb : Below w.heap.size w W) => ref24_Read a0 len0 cap0 xs0 W (R.out.below hb) (by omega))
    have hok := mcW_ok xs0
    generalize (mcW xs0 false).1 = Y at *
    generalize (mcW xs0 false).2.1 = P at *
    generalize (mcW xs0 false).2.2 = K at *
    generalize mbOk xs0 = Q at *
    rcases mc_of (xs := xs0) with ⟨e1, e2, e3⟩ | ⟨e1, e2, e3⟩
    · rw [e1] at hok
      rw [e2, e3] at F1
      obtain rfl : Y = 0 := by simpa using hok
      generalize mbRd xs0 = T at F1 F3
      clear r0 e1 e2 e3 hok
      go_enter Tryd.func4, Tryd.ntmps4
      go_wp2_with (first
        | (go_at_call 11; (with_reducible refine F1.out.mono ?_); rintro e w1 ⟨b1, l1, c1, rfl, r1, h1⟩)
        | (go_at_call 8; (with_reducible refine (F2.out _ h1).mono ?_); rintro e w2 ⟨rfl, h2⟩; have t2 := below_then h1 h2; have r12 := r1.below h2)
        | (go_at_call 12; (with_reducible refine (F3.out _ t2).mono ?_); rintro e w3 ⟨v3, rfl, o3, h3⟩; obtain ⟨b3, c3, rfl, r3⟩ := o3.reads; have t3 := below_then t2 h3; have r13 := r12.below h3)
        | (go_at_call 13; (with_reducible refine (like25_same _ _ _ _ _ _ _ _ r13 r3).mono ?_); rintro e w4 ⟨rfl, h4⟩; have t4 := below_then t3 h4)
        | (go_at_call 6; (with_reducible refine (alive25_any _).mono ?_); rintro e w5 ⟨rfl, h5⟩))
      go_ret
      exact ⟨rfl, below_then t4 h5⟩
    · rw [e1] at hok
      rw [e2, e3] at F1
      have hYn : (Y != 0) = true := by simpa using hok
      clear r0 e1 e2 e3 hok
      go_enter Tryd.func4, Tryd.ntmps4
      go_wp2_with (first
        | (go_at_call 11; (with_reducible refine F1.out.mono ?_); rintro e w1 ⟨b1, l1, c1, rfl, r1, h1⟩; obtain rfl : 0 = l1 := r1.size)
        | (go_at_call 8; (with_reducible refine (F2.out _ h1).mono ?_); rintro e w2 ⟨rfl, h2⟩; have t2 := below_then h1 h2)
        | (go_at_call 6; (with_reducible refine (alive25_any _).mono ?_); rintro e w5 ⟨rfl, h5⟩))
      go_ret
      exact ⟨rfl, below_then t2 h5⟩
  · have hN' : 500 < len0 := by omega
    go_enter Tryd.func4, Tryd.ntmps4
    go_wp2_with (go_at_call 6; (with_reducible refine (alive25_any _).mono ?_); rintro e w' ⟨rfl, hb⟩)
    go_ret
    exact ⟨rfl, hb⟩

def laidL : List (String × DataW Unit) := [("unicode/utf8.acceptRanges", Rows.laid_unicode_utf8_acceptRanges), ("unicode/utf8.first", Rows.laid_unicode_utf8_first)]
set_option maxRecDepth 100000 in
theorem lifted (os : Os) (started : os.Started) (H : Type) (enc : TypeId × Value → H) :
    ReturnsInHanded {} Tryd.checked os 4 .any (fun w args => (Rows.mcheckReadsSpec.pre enc Tryd.prog Tryd.f4 Rows.mcheckReadsRow.domain false w args ∧ laidMetH Tryd.prog laidL w) ∧ sizedMet enc Tryd.prog Tryd.f4 (OpenSpec.ofChange Rows.mcheckReadsSpec) false w args)
      (Rows.mcheckReadsSpec.post enc Tryd.prog Tryd.f4 false true false false) := by
  refine returnsInHanded_of_change_and (C := Tryd.checked) (X := fun w _ => laidMetH Tryd.prog laidL w) (fun _ _ _ hh h => h.of_heap hh) own started (by kernel_rfl) Tryd.func4
    (ChangeSpec.witness_shaped (enc := enc) (C := Tryd.checked) (os := os) (X := fun w _ => laidMetH Tryd.prog laidL w) false (World.laidAll Tryd.prog os laidL) #[.slice none 0 0] 8 (World.laidAll_os _ _ _)
      (World.shaped_of_ZipB (by kernel_rfl) (by kernel_rfl)) (by kernel_rfl) (by kernel_rfl) (by kernel_rfl)
      (by rw [MakeChecks.laidMetH_plain _ _ _ (by kernel_rfl)]; exact laidMet_laidAll _ (by kernel_rfl) (by kernel_rfl))) ?_
  intro W base args ds gs before hval0 hW hcnd _ _ _
  have hval : ∀ (j : Nat) t v, Tryd.f4.params[j]? = some t → args[j]? = some v → Value.okWide Tryd.prog W .any base t v := hval0
  have hW' := hW
  obtain ⟨p, q, hA0, hV, rfl, hfz, hnd⟩ := hW
  have hA : DataW.TrodAll enc Tryd.prog W 0 (fun _ => true) true Tryd.f4.params.toList args.toList ds p := hA0
  rw [Tryd.params4] at hA hval
  obtain ⟨v0, vs0, d0, ds0, p0, q0, hargs, rfl, rfl, h0, r_0⟩ := trodAll_cons hA
  obtain ⟨rfl, rfl, rfl⟩ := trodAll_nil r_0
  obtain rfl : args = #[v0] := by cases args; simp_all
  obtain ⟨rfl, rfl⟩ := trodVars_none hV
  obtain ⟨a0, len0, cap0, rfl⟩ := okWide_slice Tryd.underlying22 (hval 0 22 v0 rfl rfl)
  have k0 := h0
  have lt0 : ∀ x ∈ p0, x.block < W.heap.size := by obtain ⟨m, hm⟩ := k0; exact DataW.trod_lt m _ _ _ hm
  obtain ⟨xs0, r0⟩ : ∃ xs, Reads .u8 W a0 len0 cap0 xs := by
    obtain ⟨fuel, hf⟩ := h0
    rcases open_ints Tryd.underlying22 Tryd.underlying5 (by kernel_rfl) hf with ⟨hcs, _⟩ | ⟨x, l, c, zs, hcs, _, hl, hm, hz, _, hcell, hwz⟩
    · simp [Value.cells] at hcs
      obtain ⟨rfl, rfl, rfl⟩ := hcs
      exact ⟨[], Reads.nil _ _ _ _ (Nat.zero_le _)⟩
    · simp [Value.cells] at hcs
      obtain ⟨rfl, rfl, rfl⟩ := hcs
      exact ⟨_, reads_of_ints hl hm (by simpa using hz) hcell hwz⟩
  clear hA0 hval0
  refine (walk a0 len0 cap0 xs0 W r0).mono fun e W' ⟨he, bel⟩ => ?_
  subst he
  exact ⟨_, rfl, _, _, _, [], _, [], hW', trodAll_mk1 (shut_bool Tryd.underlying4 _), (trodAll_cons_mk (Below.trod laidOut (by kernel_rfl) (of_decide_eq_true (by kernel_rfl)) k0 bel lt0) trodAll_mk0), rfl, bel.frame _, fun h => by cases h⟩

theorem over : Rows.mcheckReadsRow.holds Tryd.pinned (OpenSpec.ofChange Rows.mcheckReadsSpec) :=
  OpenClaim.holds_of_wide 4 Tryd.f4 rfl rfl rfl rfl rfl rfl rfl ⟨rfl, rfl, rfl, rfl, rfl⟩ rfl rfl rfl rfl rfl (by kernel_rfl) Tryd.func4 (by kernel_rfl)
    (of_decide_eq_true (by kernel_rfl)) (by unfold Func.isWrapper; first | (rw [if_pos (by decide +kernel)]; kernel_rfl) | (rw [if_neg (by decide +kernel)]; exact ⟨rfl, rfl⟩))
    (fun os started H enc _ => lifted os started H enc)

end Go.Proofs.YtiacijodoojgoaaDoor.mcheckReads
namespace Go.Proofs.YtiacijodoojgoaaDoor
set_option maxRecDepth 100000 in
theorem mcheckReads_holds : Rows.McheckReadsCardSaid :=
  Claim7.holds_tied_plain_at .later [] [.data, .pinned] true (true, "2e976628c1405d6e40e57feba21bf750c89937654c482433eb0cdfd08f411b30") false mcheckReads.over (fun _ h => by cases h) (by kernel_rfl) (fun _ h => by cases h) mcheckReads_row_tie rfl ⟨rfl, rfl⟩ (by kernel_rfl) rfl
    (fun f fn hf hfn => by
      obtain rfl : f = 4 := Option.some.inj ((show Tryd.prog.funcNamed "sheave/sheavelaw25.McheckReads" = some 4 by kernel_rfl).symm.trans hf) |>.symm
      obtain rfl : fn = Tryd.f4 := (Option.some.inj (Tryd.func4.symm.trans hfn)).symm
      exact ⟨by kernel_rfl, fun j t ht => by
        rw [Tryd.params4] at ht
        have hm : t ∈ [22] := by simpa using Array.mem_of_getElem? ht
        have hall : ([22].all fun u => !Tryd.prog.wantsStandIn u) = true := by kernel_rfl
        exact (show Tryd.prog.wantsStandIn t = false by simpa using List.all_eq_true.1 hall t hm)⟩)
    (by kernel_rfl)
#print axioms mcheckReads_holds
end Go.Proofs.YtiacijodoojgoaaDoor
