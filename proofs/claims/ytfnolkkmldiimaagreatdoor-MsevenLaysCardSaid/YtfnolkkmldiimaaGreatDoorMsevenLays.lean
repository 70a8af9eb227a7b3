/-
  Proved: for every []rune t (nil, empty, of any length and capacity) and every rune c, in whatever memory and on every schedule, sheavelaw24.MsevenLays(t, c) returns true, without a panic or a race, and its arguments read as before. No condition.
-/
import Derived.Test.YtfnolkkmldiimaaGreatDoorRows
import Derived.Test.YtfnolkkmldiimaaGreatDoorZ37
import Derived.Test.YtfnolkkmldiimaaGreatDoorCards
import Derived.Test.YtfnolkkmldiimaaGreatDoorTie
import Derived.WalkKit
import Derived.LaidMore
import Derived.Lay
import Derived.SevenTiedAt
import Derived.Stop.Joined
import Derived.ProofKit
import Derived.OpenShut
import Derived.ShutString
import Derived.ChangeOld
import Derived.Below
namespace Go.Proofs.YtfnolkkmldiimaaGreatDoor.msevenLays
open Go.ChangeShapes Go.WideShapes Go.ChangeAt Go.RowKit
open Go.ChangeMaps (open_string shut_string)
set_option linter.unusedVariables false

theorem own : ownKnob Tryz.prog.godebug = none := by kernel_rfl
theorem laidOut : laidOutB Tryz.prog = true := by kernel_rfl
theorem like24_oct (a : Option Addr) (len cap : Nat) (a2 : Option Addr) (len2 cap2 : Nat) (xs : List Int) (w : World) (hr : Reads .u8 w a len cap xs) (hr2 : Reads .u8 w a2 len2 cap2 xs) :
    Calls Tryz.prog 8 #[.slice a len cap, .slice a2 len2 cap2] w fun e w' => e = .returned (.bool true) ∧ Below w.heap.size w w' := by
  have := like_r a len cap xs a2 len2 cap2 xs w hr hr2
  rw [decide_eq_true rfl] at this
  refine this.mono ?_
  rintro e w' ⟨rfl, n, rfl⟩
  exact ⟨rfl, Below.drewN (Below.refl _ _) n⟩
set_option maxHeartbeats 4000000 in
set_option maxRecDepth 100000 in
theorem walk (a0 : Option Addr) (len0 cap0 : Nat) (xs0 : List Int) (a1 : Int) (w : World) (r0 : Reads .i32 w a0 len0 cap0 xs0) (w1 : (Lit.int .i32 a1).wf = true) :
    Calls Tryz.prog 3 #[.slice a0 len0 cap0, .int .i32 a1] w fun e w' => e = .returned (.bool true) ∧ Below w.heap.size w w' := by
  by_cases hN : len0 ≤ 200
  · have R := hid r0
    have HL := hid (fun W (hb : Below w.heap.size w W) => mseven_Lay _ _ _ _ W (R.out.below hb) (by omega))
    have HRL := hid (fun W (hb : Below w.heap.size w W) => ref24_Lay _ _ _ _ W (R.out.below hb) (by omega))
    have HRU := hid (fun W (hb : Below w.heap.size w W) => mseven_Runs _ _ _ _ W (R.out.below hb) (by omega))
    have HRR := hid (fun W (hb : Below w.heap.size w W) => ref24_Runs _ _ _ _ W (R.out.below hb))
    have HC := hid (fun W (hb : Below w.heap.size w W) => mseven_Code _ _ _ _ W (R.out.below hb) (by omega))
    have HRC := hid (fun W (hb : Below w.heap.size w W) => ref24_Code _ _ _ _ W (R.out.below hb) (by omega))
    clear r0
    generalize mbE xs0 = E at HL HRL
    generalize mbL xs0 = L at HL HRL
    generalize mbRuns xs0 false = U at HRU HRR
    generalize mbCod xs0 = CU at HC HRC
    have HD := hid (fun W : World => mseven_Direct a1 W)
    have HRD := hid (fun W : World => ref24_Direct a1 W)
    generalize mbDir a1 = B at HD HRD
    go_enter Tryz.func3, Tryz.ntmps3
    go_wp2_with (first
      | (go_at_call 6; (with_reducible refine (HL.out _ (Below.refl _ _)).mono ?_); rintro e w1 ⟨b1, l1, c1, rfl, r1, h1⟩)
      | (go_at_call 7; (with_reducible refine (HRL.out _ h1).mono ?_); rintro e w2 ⟨v2, rfl, o2, h2⟩; obtain ⟨b2, c2, rfl, r2⟩ := o2.reads; have t2 := below_then h1 h2; have r12 := r1.below h2)
      | (go_at_call 8; (with_reducible refine (like24_oct _ _ _ _ _ _ _ _ r12 r2).mono ?_); rintro e w3 ⟨rfl, h3⟩; have t3 := below_then t2 h3)
      | (go_at_call 9; (with_reducible refine (HRU.out _ t3).mono ?_); rintro e w4 ⟨rfl, h4⟩; have t4 := below_then t3 h4)
      | (go_at_call 10; (with_reducible refine (HRR.out _ t4).mono ?_); rintro e w' ⟨rfl, rfl⟩)
      | (go_at_call 11; (with_reducible refine (HC.out _ t4).mono ?_); rintro e w6 ⟨b6, l6, c6, rfl, r6, h6⟩; have t6 := below_then t4 h6)
      | (go_at_call 12; (with_reducible refine (HRC.out _ t6).mono ?_); rintro e w7 ⟨v7, rfl, o7, h7⟩; obtain ⟨b7, c7, rfl, r7⟩ := o7.reads; have t7 := below_then t6 h7; have r67 := r6.below h7)
      | (go_at_call 8; (with_reducible refine (like24_oct _ _ _ _ _ _ _ _ r67 r7).mono ?_); rintro e w8 ⟨rfl, h8⟩; have t8 := below_then t7 h8)
      | (go_at_call 13; (with_reducible refine (HD.out _).mono ?_); rintro e w9 ⟨rfl, h9⟩; have t9 := below_then t8 h9)
      | (go_at_call 14; (with_reducible refine (HRD.out _).mono ?_); rintro e w' ⟨rfl, rfl⟩)
      | (go_at_call 5; (with_reducible refine (alive24_any _).mono ?_); rintro e wa ⟨rfl, ha⟩))
    go_ret
    exact ⟨rfl, below_then t9 ha⟩
  · have hN' : 200 < len0 := by omega
    go_enter Tryz.func3, Tryz.ntmps3
    go_wp2_with (go_at_call 5; (with_reducible refine (alive24_any _).mono ?_); rintro e w' ⟨rfl, hb⟩)
    go_ret
    exact ⟨rfl, hb⟩

def laidL : List (String × DataW Unit) := [("unicode/utf8.acceptRanges", Rows.laid_unicode_utf8_acceptRanges), ("unicode/utf8.first", Rows.laid_unicode_utf8_first)]
set_option maxRecDepth 100000 in
theorem lifted (os : Os) (started : os.Started) (H : Type) (enc : TypeId × Value → H) :
    ReturnsInHanded {} Tryz.checked os 3 .any (fun w args => (Rows.msevenLaysSpec.pre enc Tryz.prog Tryz.f3 Rows.msevenLaysRow.domain false w args ∧ laidMetH Tryz.prog laidL w) ∧ sizedMet enc Tryz.prog Tryz.f3 (OpenSpec.ofChange Rows.msevenLaysSpec) false w args)
      (Rows.msevenLaysSpec.post enc Tryz.prog Tryz.f3 false true false false) := by
  refine returnsInHanded_of_change_and (C := Tryz.checked) (X := fun w _ => laidMetH Tryz.prog laidL w) (fun _ _ _ hh h => h.of_heap hh) own started (by kernel_rfl) Tryz.func3
    (ChangeSpec.witness_shaped (enc := enc) (C := Tryz.checked) (os := os) (X := fun w _ => laidMetH Tryz.prog laidL w) false (World.laidAll Tryz.prog os laidL) #[.slice none 0 0, .int .i32 0] 8 (World.laidAll_os _ _ _)
      (World.shaped_of_ZipB (by kernel_rfl) (by kernel_rfl)) (by kernel_rfl) (by kernel_rfl) (by kernel_rfl)
      (by rw [MakeChecks.laidMetH_plain _ _ _ (by kernel_rfl)]; exact laidMet_laidAll _ (by kernel_rfl) (by kernel_rfl))) ?_
  intro W base args ds gs before hval0 hW hcnd _ _ _
  have hval : ∀ (j : Nat) t v, Tryz.f3.params[j]? = some t → args[j]? = some v → Value.okWide Tryz.prog W .any base t v := hval0
  have hW' := hW
  obtain ⟨p, q, hA0, hV, rfl, hfz, hnd⟩ := hW
  have hA : DataW.TrodAll enc Tryz.prog W 0 (fun _ => true) true Tryz.f3.params.toList args.toList ds p := hA0
  rw [Tryz.params3] at hA hval
  obtain ⟨v0, vs0, d0, ds0, p0, q0, hargs, rfl, rfl, h0, r_0⟩ := trodAll_cons hA
  obtain ⟨v1, vs1, d1, ds1, p1, q1, rfl, rfl, rfl, h1, r_1⟩ := trodAll_cons r_0
  obtain ⟨rfl, rfl, rfl⟩ := trodAll_nil r_1
  obtain rfl : args = #[v0, v1] := by cases args; simp_all
  obtain ⟨rfl, rfl⟩ := trodVars_none hV
  obtain ⟨a0, len0, cap0, rfl⟩ := okWide_slice Tryz.underlying22 (hval 0 22 v0 rfl rfl)
  have k0 := h0
  have lt0 : ∀ x ∈ p0, x.block < W.heap.size := by obtain ⟨m, hm⟩ := k0; exact DataW.trod_lt m _ _ _ hm
  obtain ⟨xs0, r0⟩ : ∃ xs, Reads .i32 W a0 len0 cap0 xs := by
    obtain ⟨fuel, hf⟩ := h0
    rcases open_ints Tryz.underlying22 Tryz.underlying21 (by kernel_rfl) hf with ⟨hcs, _⟩ | ⟨x, l, c, zs, hcs, _, hl, hm, hz, _, hcell, hwz⟩
    · simp [Value.cells] at hcs
      obtain ⟨rfl, rfl, rfl⟩ := hcs
      exact ⟨[], Reads.nil _ _ _ _ (Nat.zero_le _)⟩
    · simp [Value.cells] at hcs
      obtain ⟨rfl, rfl, rfl⟩ := hcs
      exact ⟨_, reads_of_ints hl hm (by simpa using hz) hcell hwz⟩
  obtain ⟨a1, rfl, rfl, rfl, w1⟩ := open_int Tryz.underlying21 (hval 1 21 v1 rfl rfl) h1
  clear hA0 hval0
  refine (walk a0 len0 cap0 xs0 a1 W r0 w1).mono fun e W' ⟨he, bel⟩ => ?_
  subst he
  exact ⟨_, rfl, _, _, _, [], _, [], hW', trodAll_mk1 (shut_bool Tryz.underlying4 _), (trodAll_cons_mk (Below.trod laidOut (by kernel_rfl) (of_decide_eq_true (by kernel_rfl)) k0 bel lt0) (trodAll_cons_mk (shut_int Tryz.underlying21 w1) trodAll_mk0)), rfl, bel.frame _, fun h => by cases h⟩

theorem over : Rows.msevenLaysRow.holds Tryz.pinned (OpenSpec.ofChange Rows.msevenLaysSpec) :=
  OpenClaim.holds_of_wide 3 Tryz.f3 rfl rfl rfl rfl rfl rfl rfl ⟨rfl, rfl, rfl, rfl, rfl⟩ rfl rfl rfl rfl rfl (by kernel_rfl) Tryz.func3 (by kernel_rfl)
    (of_decide_eq_true (by kernel_rfl)) (by unfold Func.isWrapper; first | (rw [if_pos (by decide +kernel)]; kernel_rfl) | (rw [if_neg (by decide +kernel)]; exact ⟨rfl, rfl⟩))
    (fun os started H enc _ => lifted os started H enc)

end Go.Proofs.YtfnolkkmldiimaaGreatDoor.msevenLays
namespace Go.Proofs.YtfnolkkmldiimaaGreatDoor
set_option maxRecDepth 100000 in
theorem msevenLays_holds : Rows.MsevenLaysCardSaid :=
  Claim7.holds_tied_plain_at .later [] [.data, .pinned] true (true, "2c3202e266fa04ff8574b0a940abee86cf1dc7927ff7345f5b660d5335c14bf4") false msevenLays.over (fun _ h => by cases h) (by kernel_rfl) (fun _ h => by cases h) msevenLays_row_tie rfl ⟨rfl, rfl⟩ (by kernel_rfl) rfl
    (fun f fn hf hfn => by
      obtain rfl : f = 3 := Option.some.inj ((show Tryz.prog.funcNamed "sheave/sheavelaw24.MsevenLays" = some 3 by kernel_rfl).symm.trans hf) |>.symm
      obtain rfl : fn = Tryz.f3 := (Option.some.inj (Tryz.func3.symm.trans hfn)).symm
      exact ⟨by kernel_rfl, fun j t ht => by
        rw [Tryz.params3] at ht
        have hm : t ∈ [22, 21] := by simpa using Array.mem_of_getElem? ht
        have hall : ([22, 21].all fun u => !Tryz.prog.wantsStandIn u) = true := by kernel_rfl
        exact (show Tryz.prog.wantsStandIn t = false by simpa using List.all_eq_true.1 hall t hm)⟩)
    (by kernel_rfl)
#print axioms msevenLays_holds
end Go.Proofs.YtfnolkkmldiimaaGreatDoor
