/-
  Proved: for every []rune t (nil, empty, of any length and capacity), in whatever memory and on every schedule, sheavelaw24.MsevenBack(t) returns true, without a panic or a race, and its argument reads as before. No condition.
-/
import Derived.Test.YtfnolkkmldiimaaDoorRows
import Derived.Test.YtfnolkkmldiimaaDoorZ29
import Derived.Test.YtfnolkkmldiimaaDoorCards
import Derived.Test.YtfnolkkmldiimaaDoorTie
import Derived.WalkKit
import Derived.LaidMore
import Derived.Lay
import Derived.SevenTiedAt
import Derived.Stop.Joined
import Derived.ProofKit
import Derived.OpenShut
import Derived.ShutString
import Derived.ChangeOld
import Derived.Below
namespace Go.Proofs.YtfnolkkmldiimaaDoor.msevenBack
open Go.ChangeShapes Go.WideShapes Go.ChangeAt Go.RowKit
open Go.ChangeMaps (open_string shut_string)
set_option linter.unusedVariables false

theorem own : ownKnob Tryd.prog.godebug = none := by kernel_rfl
theorem laidOut : laidOutB Tryd.prog = true := by kernel_rfl
theorem like24_same (a : Option Addr) (len cap : Nat) (a2 : Option Addr) (len2 cap2 : Nat) (xs : List Int) (w : World) (hr : Reads .i32 w a len cap xs) (hr2 : Reads .i32 w a2 len2 cap2 xs) :
    Calls Tryd.prog 8 #[.slice a len cap, .slice a2 len2 cap2] w fun e w' => e = .returned (.bool true) ∧ Below w.heap.size w w' := by
  have := ref03_Like a len cap xs a2 len2 cap2 xs w hr hr2
  rw [decide_eq_true rfl] at this
  refine this.mono ?_
  rintro e w' ⟨rfl, n, rfl⟩
  exact ⟨rfl, Below.drewN (Below.refl _ _) n⟩
theorem first_some {xs : List Int} (h : xs.all scB = false) : 0 ≤ idxI (fun c => !scB c) xs := by
  have hip := idx_pos (fun c => !scB c) xs
  have hall : xs.any (fun c => !scB c) = !xs.all scB := by simp [List.all_eq_not_any_not]
  rw [hall, h] at hip
  exact of_decide_eq_true hip
set_option maxHeartbeats 4000000 in
set_option maxRecDepth 100000 in
theorem walk (a0 : Option Addr) (len0 cap0 : Nat) (xs0 : List Int) (w : World) (r0 : Reads .i32 w a0 len0 cap0 xs0) :
    Calls Tryd.prog 3 #[.slice a0 len0 cap0] w fun e w' => e = .returned (.bool true) ∧ Below w.heap.size w w' := by
  by_cases hN : len0 ≤ 200
  · have R := hid r0
    have HL := mseven_Lay a0 len0 cap0 xs0 w r0 (by omega)
    cases hs : xs0.all scB
    · have e1 : mbE xs0 = 7 := by unfold mbE; rw [hs]; rfl
      have e2 : mbL xs0 = [] := by unfold mbL; rw [hs]; rfl
      rw [e1, e2] at HL
      have H := hid HL
      have F3 := hid (fun W (hb : Below w.heap.size w W) => ref03_First a0 len0 cap0 xs0 W (R.out.below hb))
      have hpos := first_some hs
      generalize idxI (fun c => !scB c) xs0 = I at F3 hpos
      clear HL r0 hs e1 e2
      go_enter Tryd.func3, Tryd.ntmps3
      go_wp2_with (first
        | (go_at_call 6; (with_reducible refine H.out.mono ?_); rintro e w1 ⟨b1, l1, c1, rfl, r1, h1⟩; obtain rfl : 0 = l1 := r1.size)
        | (go_at_call 7; (with_reducible refine (F3.out _ h1).mono ?_); rintro e w' ⟨rfl, rfl⟩)
        | (go_at_call 5; (with_reducible refine (alive24_any _).mono ?_); rintro e w5 ⟨rfl, h5⟩))
      go_ret
      exact ⟨rfl, below_then h1 h5⟩
    · have e1 : mbE xs0 = 0 := by unfold mbE; rw [hs]; rfl
      have hle := mbL_le xs0
      have hsz := r0.size
      have hpr : Hid (∀ x ∈ mbL xs0, 32 ≤ x ∧ x ≤ 126) := fun x hx => (mbPrt_iff x).1 (List.all_eq_true.1 (mbL_prt xs0) x hx)
      have hq := (mbL_read hs).1
      rw [e1] at HL
      have FR := hid (fun W b1 l1 c1 (h : Reads .u8 W b1 l1 c1 (mbL xs0)) (hl : l1 < 90000) => by
        have := mseven_Read b1 l1 c1 (mbL xs0) W h hl
        rw [hq] at this
        exact this)
      have H := hid HL
      have HLE := hid (show (mbL xs0).length ≤ 2000 by omega)
      clear HL r0 hs e1 hle hsz hq
      generalize mbL xs0 = L at *
      go_enter Tryd.func3, Tryd.ntmps3
      go_wp2_with (go_at_call 6; (with_reducible refine H.out.mono ?_); rintro e w1 ⟨b1, l1, c1, rfl, r1, h1⟩; have hl1 : l1 ≤ 2000 := (by have := r1.size; have := HLE.out; omega); have R1 := hid r1; clear r1)
      go_loop [31] (fun i => ∃ k : Nat, k ≤ l1 ∧ i = .int .i64 k) (fun i => l1 - (intOf i).toNat)
      case atStart => exact ⟨0, Nat.zero_le _, rfl⟩
      case round =>
        obtain ⟨k, hk, rfl⟩ := hrel
        by_cases hlt : k < l1
        · obtain ⟨b, off, x, rfl, _, hcx, hx0, hx1, hx⟩ := R1.out.get8 hlt
          obtain ⟨hx3, hx4⟩ := hpr.out x (List.mem_of_getElem? hx.out.1)
          have q4 : decide (x < 32) = false := decide_eq_false (by omega)
          have q5 : decide (126 < x) = false := decide_eq_false (by omega)
          go_wp2_with fail
          go_round
          case rel => exact ⟨k + 1, by omega, by go_num⟩
          case measure => simp [intOf]; omega
        · have hl2 : l1 < 90000 := by omega
          go_wp2_with (first
            | (go_at_call 9; (with_reducible refine (FR.out _ _ _ _ R1.out hl2).mono ?_); rintro e w3 ⟨b3, l3, c3, rfl, r3, h3⟩; have t3 := below_then h1 h3; have r03 := R.out.below t3)
            | (go_at_call 8; (with_reducible refine (like24_same _ _ _ _ _ _ _ _ r3 r03).mono ?_); rintro e w4 ⟨rfl, h4⟩; have t4 := below_then t3 h4)
            | (go_at_call 5; (with_reducible refine (alive24_any _).mono ?_); rintro e w5 ⟨rfl, h5⟩))
          go_ret
          exact ⟨rfl, below_then t4 h5⟩
  · have hN' : 200 < len0 := by omega
    go_enter Tryd.func3, Tryd.ntmps3
    go_wp2_with (go_at_call 5; (with_reducible refine (alive24_any _).mono ?_); rintro e w' ⟨rfl, hb⟩)
    go_ret
    exact ⟨rfl, hb⟩

def laidL : List (String × DataW Unit) := [("unicode/utf8.acceptRanges", Rows.laid_unicode_utf8_acceptRanges), ("unicode/utf8.first", Rows.laid_unicode_utf8_first)]
set_option maxRecDepth 100000 in
theorem lifted (os : Os) (started : os.Started) (H : Type) (enc : TypeId × Value → H) :
    ReturnsInHanded {} Tryd.checked os 3 .any (fun w args => (Rows.msevenBackSpec.pre enc Tryd.prog Tryd.f3 Rows.msevenBackRow.domain false w args ∧ laidMetH Tryd.prog laidL w) ∧ sizedMet enc Tryd.prog Tryd.f3 (OpenSpec.ofChange Rows.msevenBackSpec) false w args)
      (Rows.msevenBackSpec.post enc Tryd.prog Tryd.f3 false true false false) := by
  refine returnsInHanded_of_change_and (C := Tryd.checked) (X := fun w _ => laidMetH Tryd.prog laidL w) (fun _ _ _ hh h => h.of_heap hh) own started (by kernel_rfl) Tryd.func3
    (ChangeSpec.witness_shaped (enc := enc) (C := Tryd.checked) (os := os) (X := fun w _ => laidMetH Tryd.prog laidL w) false (World.laidAll Tryd.prog os laidL) #[.slice none 0 0] 8 (World.laidAll_os _ _ _)
      (World.shaped_of_ZipB (by kernel_rfl) (by kernel_rfl)) (by kernel_rfl) (by kernel_rfl) (by kernel_rfl)
      (by rw [MakeChecks.laidMetH_plain _ _ _ (by kernel_rfl)]; exact laidMet_laidAll _ (by kernel_rfl) (by kernel_rfl))) ?_
  intro W base args ds gs before hval0 hW hcnd _ _ _
  have hval : ∀ (j : Nat) t v, Tryd.f3.params[j]? = some t → args[j]? = some v → Value.okWide Tryd.prog W .any base t v := hval0
  have hW' := hW
  obtain ⟨p, q, hA0, hV, rfl, hfz, hnd⟩ := hW
  have hA : DataW.TrodAll enc Tryd.prog W 0 (fun _ => true) true Tryd.f3.params.toList args.toList ds p := hA0
  rw [Tryd.params3] at hA hval
  obtain ⟨v0, vs0, d0, ds0, p0, q0, hargs, rfl, rfl, h0, r_0⟩ := trodAll_cons hA
  obtain ⟨rfl, rfl, rfl⟩ := trodAll_nil r_0
  obtain rfl : args = #[v0] := by cases args; simp_all
  obtain ⟨rfl, rfl⟩ := trodVars_none hV
  obtain ⟨a0, len0, cap0, rfl⟩ := okWide_slice Tryd.underlying22 (hval 0 22 v0 rfl rfl)
  have k0 := h0
  have lt0 : ∀ x ∈ p0, x.block < W.heap.size := by obtain ⟨m, hm⟩ := k0; exact DataW.trod_lt m _ _ _ hm
  obtain ⟨xs0, r0⟩ : ∃ xs, Reads .i32 W a0 len0 cap0 xs := by
    obtain ⟨fuel, hf⟩ := h0
    rcases open_ints Tryd.underlying22 Tryd.underlying21 (by kernel_rfl) hf with ⟨hcs, _⟩ | ⟨x, l, c, zs, hcs, _, hl, hm, hz, _, hcell, hwz⟩
    · simp [Value.cells] at hcs
      obtain ⟨rfl, rfl, rfl⟩ := hcs
      exact ⟨[], Reads.nil _ _ _ _ (Nat.zero_le _)⟩
    · simp [Value.cells] at hcs
      obtain ⟨rfl, rfl, rfl⟩ := hcs
      exact ⟨_, reads_of_ints hl hm (by simpa using hz) hcell hwz⟩
  clear hA0 hval0
  refine (walk a0 len0 cap0 xs0 W r0).mono fun e W' ⟨he, bel⟩ => ?_
  subst he
  exact ⟨_, rfl, _, _, _, [], _, [], hW', trodAll_mk1 (shut_bool Tryd.underlying4 _), (trodAll_cons_mk (Below.trod laidOut (by kernel_rfl) (of_decide_eq_true (by kernel_rfl)) k0 bel lt0) trodAll_mk0), rfl, bel.frame _, fun h => by cases h⟩

theorem over : Rows.msevenBackRow.holds Tryd.pinned (OpenSpec.ofChange Rows.msevenBackSpec) :=
  OpenClaim.holds_of_wide 3 Tryd.f3 rfl rfl rfl rfl rfl rfl rfl ⟨rfl, rfl, rfl, rfl, rfl⟩ rfl rfl rfl rfl rfl (by kernel_rfl) Tryd.func3 (by kernel_rfl)
    (of_decide_eq_true (by kernel_rfl)) (by unfold Func.isWrapper; first | (rw [if_pos (by decide +kernel)]; kernel_rfl) | (rw [if_neg (by decide +kernel)]; exact ⟨rfl, rfl⟩))
    (fun os started H enc _ => lifted os started H enc)

end Go.Proofs.YtfnolkkmldiimaaDoor.msevenBack
namespace Go.Proofs.YtfnolkkmldiimaaDoor
set_option maxRecDepth 100000 in
theorem msevenBack_holds : Rows.MsevenBackCardSaid :=
  Claim7.holds_tied_plain_at .later [] [.data, .pinned] true (true, "13459cebc62ef6e38f089bb6b47ff46c37a9a5ff07c48318b51ec62bd2affa3a") false msevenBack.over (fun _ h => by cases h) (by kernel_rfl) (fun _ h => by cases h) msevenBack_row_tie rfl ⟨rfl, rfl⟩ (by kernel_rfl) rfl
    (fun f fn hf hfn => by
      obtain rfl : f = 3 := Option.some.inj ((show Tryd.prog.funcNamed "sheave/sheavelaw24.MsevenBack" = some 3 by kernel_rfl).symm.trans hf) |>.symm
      obtain rfl : fn = Tryd.f3 := (Option.some.inj (Tryd.func3.symm.trans hfn)).symm
      exact ⟨by kernel_rfl, fun j t ht => by
        rw [Tryd.params3] at ht
        have hm : t ∈ [22] := by simpa using Array.mem_of_getElem? ht
        have hall : ([22].all fun u => !Tryd.prog.wantsStandIn u) = true := by kernel_rfl
        exact (show Tryd.prog.wantsStandIn t = false by simpa using List.all_eq_true.1 hall t hm)⟩)
    (by kernel_rfl)
#print axioms msevenBack_holds
end Go.Proofs.YtfnolkkmldiimaaDoor
