/-
  Proved: for every []byte s and every []byte d (nil, empty, of any length and capacity, one within the other or not), in whatever memory and on every schedule, sheavelaw24.MsevenReads(s, d) returns true, without a panic or a race, and its arguments read as before. No condition.
-/
import Derived.Test.YtfnolkkmldiimaaGreatDoorRows
import Derived.Test.YtfnolkkmldiimaaGreatDoorZ37
import Derived.Test.YtfnolkkmldiimaaGreatDoorCards
import Derived.Test.YtfnolkkmldiimaaGreatDoorTie
import Derived.WalkKit
import Derived.LaidMore
import Derived.Lay
import Derived.SevenTiedAt
import Derived.Stop.Joined
import Derived.ProofKit
import Derived.OpenShut
import Derived.ShutString
import Derived.ChangeOld
import Derived.Below
namespace Go.Proofs.YtfnolkkmldiimaaGreatDoor.msevenReads
open Go.ChangeShapes Go.WideShapes Go.ChangeAt Go.RowKit
open Go.ChangeMaps (open_string shut_string)
set_option linter.unusedVariables false

theorem own : ownKnob Tryz.prog.godebug = none := by kernel_rfl
theorem laidOut : laidOutB Tryz.prog = true := by kernel_rfl
theorem like24_same (a : Option Addr) (len cap : Nat) (a2 : Option Addr) (len2 cap2 : Nat) (xs : List Int) (w : World) (hr : Reads .i32 w a len cap xs) (hr2 : Reads .i32 w a2 len2 cap2 xs) :
    Calls Tryz.prog 18 #[.slice a len cap, .slice a2 len2 cap2] w fun e w' => e = .returned (.bool true) ∧ Below w.heap.size w w' := by
  have := ref03_Like a len cap xs a2 len2 cap2 xs w hr hr2
  rw [decide_eq_true rfl] at this
  refine this.mono ?_
  rintro e w' ⟨rfl, n, rfl⟩
  exact ⟨rfl, Below.drewN (Below.refl _ _) n⟩
set_option maxHeartbeats 4000000 in
set_option maxRecDepth 100000 in
theorem walk (a0 : Option Addr) (len0 cap0 : Nat) (xs0 : List Int) (a1 : Option Addr) (len1 cap1 : Nat) (xs1 : List Int) (w : World) (r0 : Reads .u8 w a0 len0 cap0 xs0) (r1 : Reads .u8 w a1 len1 cap1 xs1) :
    Calls Tryz.prog 4 #[.slice a0 len0 cap0, .slice a1 len1 cap1] w fun e w' => e = .returned (.bool true) ∧ Below w.heap.size w w' := by
  by_cases hN : len0 ≤ 500
  · by_cases hM : len1 ≤ 500
    · have F1 := hid (fun W (hb : Below w.heap.size w W) => ref24_Read a0 len0 cap0 xs0 W (r0.below hb) (by omega))
      have F2 := hid (fun W (hb : Below w.heap.size w W) => mseven_Run a1 len1 cap1 xs1 W (r1.below hb) (by omega))
      have F3 := hid (fun W (hb : Below w.heap.size w W) => ref24_Run a1 len1 cap1 xs1 W (r1.below hb) (by omega))
      have F4 := hid (fun W (hb : Below w.heap.size w W) => mseven_Read a0 len0 cap0 xs0 W (r0.below hb) (by omega))
      clear r0 r1
      generalize mbRd xs0 = T at F1 F4
      generalize mbOk xs0 = Z at F1
      generalize mbT xs1 = A at F2 F3
      cases hK : mbK xs1
      all_goals
        rw [hK] at F2 F3
        clear hK
        go_enter Tryz.func4, Tryz.ntmps4
        go_wp2_with (first
          | (go_at_call 15; (with_reducible refine (F1.out _ (Below.refl _ _)).mono ?_); rintro e w1 ⟨v1, rfl, o1, h1⟩; obtain ⟨b1, c1, rfl, q1⟩ := o1.reads)
          | (go_at_call 16; (with_reducible refine (F2.out w1 h1).mono ?_); rintro e w2 ⟨b2, l2, c2, rfl, q2, h2⟩; have t2 := below_then h1 h2; have q12 := q1.below h2)
          | (go_at_call 17; (with_reducible refine (F3.out w2 t2).mono ?_); rintro e w3 ⟨b3, l3, c3, b4, l4, c4, rfl, q3, q4, h3⟩; have t3 := below_then t2 h3; have q13 := q12.below h3; have q23 := q2.below h3)
          | (go_at_call 19; (with_reducible refine (F4.out w3 t3).mono ?_); rintro e w5 ⟨b5, l5, c5, rfl, q5, h5⟩; have t5 := below_then t3 h5; have q15 := q13.below h5; have q25 := q23.below h5; have q35 := q3.below h5)
          | (go_at_call 18; (with_reducible refine (like24_same _ _ _ _ _ _ _ _ q5 q15).mono ?_); rintro e w6 ⟨rfl, h6⟩; have t6 := below_then t5 h6; have q26 := q25.below h6; have q36 := q35.below h6)
          | (go_at_call 18; (with_reducible refine (like24_same _ _ _ _ _ _ _ _ q26 q36).mono ?_); rintro e w7 ⟨rfl, h7⟩; have t7 := below_then t6 h7)
          | (go_at_call 5; (with_reducible refine (alive24_any _).mono ?_); rintro e w8 ⟨rfl, h8⟩; have t8 := below_then t7 h8))
        go_ret
        exact ⟨rfl, t8⟩
    · have hM' : 500 < len1 := by omega
      go_enter Tryz.func4, Tryz.ntmps4
      go_wp2_with (go_at_call 5; (with_reducible refine (alive24_any _).mono ?_); rintro e w' ⟨rfl, hb⟩)
      go_ret
      exact ⟨rfl, hb⟩
  · have hN' : 500 < len0 := by omega
    go_enter Tryz.func4, Tryz.ntmps4
    go_wp2_with (go_at_call 5; (with_reducible refine (alive24_any _).mono ?_); rintro e w' ⟨rfl, hb⟩)
    go_ret
    exact ⟨rfl, hb⟩

def laidL : List (String × DataW Unit) := [("unicode/utf8.acceptRanges", Rows.laid_unicode_utf8_acceptRanges), ("unicode/utf8.first", Rows.laid_unicode_utf8_first)]
set_option maxRecDepth 100000 in
theorem lifted (os : Os) (started : os.Started) (H : Type) (enc : TypeId × Value → H) :
    ReturnsInHanded {} Tryz.checked os 4 .any (fun w args => (Rows.msevenReadsSpec.pre enc Tryz.prog Tryz.f4 Rows.msevenReadsRow.domain false w args ∧ laidMetH Tryz.prog laidL w) ∧ sizedMet enc Tryz.prog Tryz.f4 (OpenSpec.ofChange Rows.msevenReadsSpec) false w args)
      (Rows.msevenReadsSpec.post enc Tryz.prog Tryz.f4 false true false false) := by
  refine returnsInHanded_of_change_and (C := Tryz.checked) (X := fun w _ => laidMetH Tryz.prog laidL w) (fun _ _ _ hh h => h.of_heap hh) own started (by kernel_rfl) Tryz.func4
    (ChangeSpec.witness_shaped (enc := enc) (C := Tryz.checked) (os := os) (X := fun w _ => laidMetH Tryz.prog laidL w) false (World.laidAll Tryz.prog os laidL) #[.slice none 0 0, .slice none 0 0] 8 (World.laidAll_os _ _ _)
      (World.shaped_of_ZipB (by kernel_rfl) (by kernel_rfl)) (by kernel_rfl) (by kernel_rfl) (by kernel_rfl)
      (by rw [MakeChecks.laidMetH_plain _ _ _ (by kernel_rfl)]; exact laidMet_laidAll _ (by kernel_rfl) (by kernel_rfl))) ?_
  intro W base args ds gs before hval0 hW hcnd _ _ _
  have hval : ∀ (j : Nat) t v, Tryz.f4.params[j]? = some t → args[j]? = some v → Value.okWide Tryz.prog W .any base t v := hval0
  have hW' := hW
  obtain ⟨p, q, hA0, hV, rfl, hfz, hnd⟩ := hW
  have hA : DataW.TrodAll enc Tryz.prog W 0 (fun _ => true) true Tryz.f4.params.toList args.toList ds p := hA0
  rw [Tryz.params4] at hA hval
  obtain ⟨v0, vs0, d0, ds0, p0, q0, hargs, rfl, rfl, h0, r_0⟩ := trodAll_cons hA
  obtain ⟨v1, vs1, d1, ds1, p1, q1, rfl, rfl, rfl, h1, r_1⟩ := trodAll_cons r_0
  obtain ⟨rfl, rfl, rfl⟩ := trodAll_nil r_1
  obtain rfl : args = #[v0, v1] := by cases args; simp_all
  obtain ⟨rfl, rfl⟩ := trodVars_none hV
  obtain ⟨a0, len0, cap0, rfl⟩ := okWide_slice Tryz.underlying24 (hval 0 24 v0 rfl rfl)
  have k0 := h0
  have lt0 : ∀ x ∈ p0, x.block < W.heap.size := by obtain ⟨m, hm⟩ := k0; exact DataW.trod_lt m _ _ _ hm
  obtain ⟨xs0, r0⟩ : ∃ xs, Reads .u8 W a0 len0 cap0 xs := by
    obtain ⟨fuel, hf⟩ := h0
    rcases open_ints Tryz.underlying24 Tryz.underlying5 (by kernel_rfl) hf with ⟨hcs, _⟩ | ⟨x, l, c, zs, hcs, _, hl, hm, hz, _, hcell, hwz⟩
    · simp [Value.cells] at hcs
      obtain ⟨rfl, rfl, rfl⟩ := hcs
      exact ⟨[], Reads.nil _ _ _ _ (Nat.zero_le _)⟩
    · simp [Value.cells] at hcs
      obtain ⟨rfl, rfl, rfl⟩ := hcs
      exact ⟨_, reads_of_ints hl hm (by simpa using hz) hcell hwz⟩
  obtain ⟨a1, len1, cap1, rfl⟩ := okWide_slice Tryz.underlying24 (hval 1 24 v1 rfl rfl)
  have k1 := h1
  have lt1 : ∀ x ∈ p1, x.block < W.heap.size := by obtain ⟨m, hm⟩ := k1; exact DataW.trod_lt m _ _ _ hm
  obtain ⟨xs1, r1⟩ : ∃ xs, Reads .u8 W a1 len1 cap1 xs := by
    obtain ⟨fuel, hf⟩ := h1
    rcases open_ints Tryz.underlying24 Tryz.underlying5 (by kernel_rfl) hf with ⟨hcs, _⟩ | ⟨x, l, c, zs, hcs, _, hl, hm, hz, _, hcell, hwz⟩
    · simp [Value.cells] at hcs
      obtain ⟨rfl, rfl, rfl⟩ := hcs
      exact ⟨[], Reads.nil _ _ _ _ (Nat.zero_le _)⟩
    · simp [Value.cells] at hcs
      obtain ⟨rfl, rfl, rfl⟩ := hcs
      exact ⟨_, reads_of_ints hl hm (by simpa using hz) hcell hwz⟩
  clear hA0 hval0
  refine (walk a0 len0 cap0 xs0 a1 len1 cap1 xs1 W r0 r1).mono fun e W' ⟨he, bel⟩ => ?_
  subst he
  exact ⟨_, rfl, _, _, _, [], _, [], hW', trodAll_mk1 (shut_bool Tryz.underlying4 _), (trodAll_cons_mk (Below.trod laidOut (by kernel_rfl) (of_decide_eq_true (by kernel_rfl)) k0 bel lt0) (trodAll_cons_mk (Below.trod laidOut (by kernel_rfl) (of_decide_eq_true (by kernel_rfl)) k1 bel lt1) trodAll_mk0)), rfl, bel.frame _, fun h => by cases h⟩

theorem over : Rows.msevenReadsRow.holds Tryz.pinned (OpenSpec.ofChange Rows.msevenReadsSpec) :=
  OpenClaim.holds_of_wide 4 Tryz.f4 rfl rfl rfl rfl rfl rfl rfl ⟨rfl, rfl, rfl, rfl, rfl⟩ rfl rfl rfl rfl rfl (by kernel_rfl) Tryz.func4 (by kernel_rfl)
    (of_decide_eq_true (by kernel_rfl)) (by unfold Func.isWrapper; first | (rw [if_pos (by decide +kernel)]; kernel_rfl) | (rw [if_neg (by decide +kernel)]; exact ⟨rfl, rfl⟩))
    (fun os started H enc _ => lifted os started H enc)

end Go.Proofs.YtfnolkkmldiimaaGreatDoor.msevenReads
namespace Go.Proofs.YtfnolkkmldiimaaGreatDoor
set_option maxRecDepth 100000 in
theorem msevenReads_holds : Rows.MsevenReadsCardSaid :=
  Claim7.holds_tied_plain_at .later [] [.data, .pinned] true (true, "2c3202e266fa04ff8574b0a940abee86cf1dc7927ff7345f5b660d5335c14bf4") false msevenReads.over (fun _ h => by cases h) (by kernel_rfl) (fun _ h => by cases h) msevenReads_row_tie rfl ⟨rfl, rfl⟩ (by kernel_rfl) rfl
    (fun f fn hf hfn => by
      obtain rfl : f = 4 := Option.some.inj ((show Tryz.prog.funcNamed "sheave/sheavelaw24.MsevenReads" = some 4 by kernel_rfl).symm.trans hf) |>.symm
      obtain rfl : fn = Tryz.f4 := (Option.some.inj (Tryz.func4.symm.trans hfn)).symm
      exact ⟨by kernel_rfl, fun j t ht => by
        rw [Tryz.params4] at ht
        have hm : t ∈ [24, 24] := by simpa using Array.mem_of_getElem? ht
        have hall : ([24, 24].all fun u => !Tryz.prog.wantsStandIn u) = true := by kernel_rfl
        exact (show Tryz.prog.wantsStandIn t = false by simpa using List.all_eq_true.1 hall t hm)⟩)
    (by kernel_rfl)
#print axioms msevenReads_holds
end Go.Proofs.YtfnolkkmldiimaaGreatDoor
