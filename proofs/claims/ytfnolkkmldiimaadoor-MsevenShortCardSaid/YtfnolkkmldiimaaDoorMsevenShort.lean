/-
  Proved: for every []byte s (nil, empty, of any length and capacity), in whatever memory and on every schedule, sheavelaw24.MsevenShort(s) returns true, without a panic or a race, and its argument reads as before. No condition.
-/
import Derived.Test.YtfnolkkmldiimaaDoorRows
import Derived.Test.YtfnolkkmldiimaaDoorZ29
import Derived.Test.YtfnolkkmldiimaaDoorCards
import Derived.Test.YtfnolkkmldiimaaDoorTie
import Derived.WalkKit
import Derived.LaidMore
import Derived.Lay
import Derived.SevenTiedAt
import Derived.Stop.Joined
import Derived.ProofKit
import Derived.OpenShut
import Derived.ShutString
import Derived.ChangeOld
import Derived.Below
namespace Go.Proofs.YtfnolkkmldiimaaDoor.msevenShort
open Go.ChangeShapes Go.WideShapes Go.ChangeAt Go.RowKit
open Go.ChangeMaps (open_string shut_string)
set_option linter.unusedVariables false

theorem own : ownKnob Tryd.prog.godebug = none := by kernel_rfl
theorem laidOut : laidOutB Tryd.prog = true := by kernel_rfl
theorem like24_same (a : Option Addr) (len cap : Nat) (a2 : Option Addr) (len2 cap2 : Nat) (xs : List Int) (w : World) (hr : Reads .i32 w a len cap xs) (hr2 : Reads .i32 w a2 len2 cap2 xs) :
    Calls Tryd.prog 8 #[.slice a len cap, .slice a2 len2 cap2] w fun e w' => e = .returned (.bool true) ∧ Below w.heap.size w w' := by
  have := ref03_Like a len cap xs a2 len2 cap2 xs w hr hr2
  rw [decide_eq_true rfl] at this
  refine this.mono ?_
  rintro e w' ⟨rfl, n, rfl⟩
  exact ⟨rfl, Below.drewN (Below.refl _ _) n⟩
theorem first_none {xs : List Int} (h : xs.all scB = true) : idxI (fun c => !scB c) xs < 0 := by
  have hip := idx_pos (fun c => !scB c) xs
  have hall : xs.any (fun c => !scB c) = !xs.all scB := by simp [List.all_eq_not_any_not]
  rw [hall, h] at hip
  have := of_decide_eq_false hip
  omega
set_option maxHeartbeats 4000000 in
set_option maxRecDepth 100000 in
theorem walk (a0 : Option Addr) (len0 cap0 : Nat) (xs0 : List Int) (w : World) (r0 : Reads .u8 w a0 len0 cap0 xs0) :
    Calls Tryd.prog 4 #[.slice a0 len0 cap0] w fun e w' => e = .returned (.bool true) ∧ Below w.heap.size w w' := by
  by_cases hN : len0 ≤ 500
  · have hsc := mbRd_sc xs0
    have hle := mbRd_len xs0
    rw [r0.size] at hle
    have hq := (mbL_read hsc).1
    have hE : mbE (mbRd xs0) = 0 := by unfold mbE; rw [if_pos hsc]
    have hl7 := mbL_le (mbRd xs0)
    have hneg := first_none hsc
    have F1 := hid (mseven_Read a0 len0 cap0 xs0 w r0 (by omega))
    have F2 := hid (fun W b1 l1 c1 (h : Reads .i32 W b1 l1 c1 (mbRd xs0)) (hl : l1 < 100000) => by
      have := mseven_Lay b1 l1 c1 (mbRd xs0) W h hl
      rw [hE] at this
      exact this)
    have F3 := hid (fun W b1 l1 c1 (h : Reads .i32 W b1 l1 c1 (mbRd xs0)) => ref03_First b1 l1 c1 (mbRd xs0) W h)
    have F4 := hid (fun W b1 l1 c1 (h : Reads .u8 W b1 l1 c1 (mbL (mbRd xs0))) (hl : l1 < 90000) => by
      have := mseven_Read b1 l1 c1 (mbL (mbRd xs0)) W h hl
      rw [hq] at this
      exact this)
    obtain ⟨I, hI⟩ : ∃ I, I = idxI (fun c => !scB c) (mbRd xs0) := ⟨_, rfl⟩
    rw [← hI] at F3 hneg
    generalize mbL (mbRd xs0) = L at F2 F4 hl7
    generalize mbRd xs0 = T at F1 F2 F3 F4 hle hl7
    have HLE := hid hle
    have HL7 := hid hl7
    clear r0 hsc hq hI hE hle hl7
    go_enter Tryd.func4, Tryd.ntmps4
    go_wp2_with (first
      | (go_at_call 9; (with_reducible refine F1.out.mono ?_); rintro e w1 ⟨b1, l1, c1, rfl, r1, h1⟩; have hle1 : l1 ≤ len0 := (by have := HLE.out; have := r1.size; omega); have hnl : (l1 : Int) ≤ (len0 : Int) := (by omega))
      | (go_at_call 6; (with_reducible refine (F2.out _ _ _ _ r1 (by omega)).mono ?_); rintro e w2 ⟨b2, l2, c2, rfl, r2, h2⟩; have t2 := below_then h1 h2; have r12 := r1.below h2; have hl2 : l2 < 90000 := (by have := r2.size; have := HL7.out; have := HLE.out; omega))
      | (go_at_call 7; (with_reducible refine (F3.out _ _ _ _ r12).mono ?_); rintro e w' ⟨rfl, rfl⟩)
      | (go_at_call 9; (with_reducible refine (F4.out _ _ _ _ r2 hl2).mono ?_); rintro e w3 ⟨b3, l3, c3, rfl, r3, h3⟩; have t3 := below_then t2 h3; have r13 := r12.below h3)
      | (go_at_call 8; (with_reducible refine (like24_same _ _ _ _ _ _ _ _ r3 r13).mono ?_); rintro e w4 ⟨rfl, h4⟩; have t4 := below_then t3 h4)
      | (go_at_call 5; (with_reducible refine (alive24_any _).mono ?_); rintro e w5 ⟨rfl, h5⟩))
    go_ret
    exact ⟨rfl, below_then t4 h5⟩
  · have hN' : 500 < len0 := by omega
    go_enter Tryd.func4, Tryd.ntmps4
    go_wp2_with (go_at_call 5; (with_reducible refine (alive24_any _).mono ?_); rintro e w' ⟨rfl, hb⟩)
    go_ret
    exact ⟨rfl, hb⟩

def laidL : List (String × DataW Unit) := [("unicode/utf8.acceptRanges", Rows.laid_unicode_utf8_acceptRanges), ("unicode/utf8.first", Rows.laid_unicode_utf8_first)]
set_option maxRecDepth 100000 in
theorem lifted (os : Os) (started : os.Started) (H : Type) (enc : TypeId × Value → H) :
    ReturnsInHanded {} Tryd.checked os 4 .any (fun w args => (Rows.msevenShortSpec.pre enc Tryd.prog Tryd.f4 Rows.msevenShortRow.domain false w args ∧ laidMetH Tryd.prog laidL w) ∧ sizedMet enc Tryd.prog Tryd.f4 (OpenSpec.ofChange Rows.msevenShortSpec) false w args)
      (Rows.msevenShortSpec.post enc Tryd.prog Tryd.f4 false true false false) := by
  refine returnsInHanded_of_change_and (C := Tryd.checked) (X := fun w _ => laidMetH Tryd.prog laidL w) (fun _ _ _ hh h => h.of_heap hh) own started (by kernel_rfl) Tryd.func4
    (ChangeSpec.witness_shaped (enc := enc) (C := Tryd.checked) (os := os) (X := fun w _ => laidMetH Tryd.prog laidL w) false (World.laidAll Tryd.prog os laidL) #[.slice none 0 0] 8 (World.laidAll_os _ _ _)
      (World.shaped_of_ZipB (by kernel_rfl) (by kernel_rfl)) (by kernel_rfl) (by kernel_rfl) (by kernel_rfl)
      (by rw [MakeChecks.laidMetH_plain _ _ _ (by kernel_rfl)]; exact laidMet_laidAll _ (by kernel_rfl) (by kernel_rfl))) ?_
  intro W base args ds gs before hval0 hW hcnd _ _ _
  have hval : ∀ (j : Nat) t v, Tryd.f4.params[j]? = some t → args[j]? = some v → Value.okWide Tryd.prog W .any base t v := hval0
  have hW' := hW
  obtain ⟨p, q, hA0, hV, rfl, hfz, hnd⟩ := hW
  have hA : DataW.TrodAll enc Tryd.prog W 0 (fun _ => true) true Tryd.f4.params.toList args.toList ds p := hA0
  rw [Tryd.params4] at hA hval
  obtain ⟨v0, vs0, d0, ds0, p0, q0, hargs, rfl, rfl, h0, r_0⟩ := trodAll_cons hA
  obtain ⟨rfl, rfl, rfl⟩ := trodAll_nil r_0
  obtain rfl : args = #[v0] := by cases args; simp_all
  obtain ⟨rfl, rfl⟩ := trodVars_none hV
  obtain ⟨a0, len0, cap0, rfl⟩ := okWide_slice Tryd.underlying24 (hval 0 24 v0 rfl rfl)
  have k0 := h0
  have lt0 : ∀ x ∈ p0, x.block < W.heap.size := by obtain ⟨m, hm⟩ := k0; exact DataW.trod_lt m _ _ _ hm
  obtain ⟨xs0, r0⟩ : ∃ xs, Reads .u8 W a0 len0 cap0 xs := by
    obtain ⟨fuel, hf⟩ := h0
    rcases open_ints Tryd.underlying24 Tryd.underlying5 (by kernel_rfl) hf with ⟨hcs, _⟩ | ⟨x, l, c, zs, hcs, _, hl, hm, hz, _, hcell, hwz⟩
    · simp [Value.cells] at hcs
      obtain ⟨rfl, rfl, rfl⟩ := hcs
      exact ⟨[], Reads.nil _ _ _ _ (Nat.zero_le _)⟩
    · simp [Value.cells] at hcs
      obtain ⟨rfl, rfl, rfl⟩ := hcs
      exact ⟨_, reads_of_ints hl hm (by simpa using hz) hcell hwz⟩
  clear hA0 hval0
  refine (walk a0 len0 cap0 xs0 W r0).mono fun e W' ⟨he, bel⟩ => ?_
  subst he
  exact ⟨_, rfl, _, _, _, [], _, [], hW', trodAll_mk1 (shut_bool Tryd.underlying4 _), (trodAll_cons_mk (Below.trod laidOut (by kernel_rfl) (of_decide_eq_true (by kernel_rfl)) k0 bel lt0) trodAll_mk0), rfl, bel.frame _, fun h => by cases h⟩

theorem over : Rows.msevenShortRow.holds Tryd.pinned (OpenSpec.ofChange Rows.msevenShortSpec) :=
  OpenClaim.holds_of_wide 4 Tryd.f4 rfl rfl rfl rfl rfl rfl rfl ⟨rfl, rfl, rfl, rfl, rfl⟩ rfl rfl rfl rfl rfl (by kernel_rfl) Tryd.func4 (by kernel_rfl)
    (of_decide_eq_true (by kernel_rfl)) (by unfold Func.isWrapper; first | (rw [if_pos (by decide +kernel)]; kernel_rfl) | (rw [if_neg (by decide +kernel)]; exact ⟨rfl, rfl⟩))
    (fun os started H enc _ => lifted os started H enc)

end Go.Proofs.YtfnolkkmldiimaaDoor.msevenShort
namespace Go.Proofs.YtfnolkkmldiimaaDoor
set_option maxRecDepth 100000 in
theorem msevenShort_holds : Rows.MsevenShortCardSaid :=
  Claim7.holds_tied_plain_at .later [] [.data, .pinned] true (true, "13459cebc62ef6e38f089bb6b47ff46c37a9a5ff07c48318b51ec62bd2affa3a") false msevenShort.over (fun _ h => by cases h) (by kernel_rfl) (fun _ h => by cases h) msevenShort_row_tie rfl ⟨rfl, rfl⟩ (by kernel_rfl) rfl
    (fun f fn hf hfn => by
      obtain rfl : f = 4 := Option.some.inj ((show Tryd.prog.funcNamed "sheave/sheavelaw24.MsevenShort" = some 4 by kernel_rfl).symm.trans hf) |>.symm
      obtain rfl : fn = Tryd.f4 := (Option.some.inj (Tryd.func4.symm.trans hfn)).symm
      exact ⟨by kernel_rfl, fun j t ht => by
        rw [Tryd.params4] at ht
        have hm : t ∈ [24] := by simpa using Array.mem_of_getElem? ht
        have hall : ([24].all fun u => !Tryd.prog.wantsStandIn u) = true := by kernel_rfl
        exact (show Tryd.prog.wantsStandIn t = false by simpa using List.all_eq_true.1 hall t hm)⟩)
    (by kernel_rfl)
#print axioms msevenShort_holds
end Go.Proofs.YtfnolkkmldiimaaDoor
