/-
  Proved: for every []rune t and every []byte a and b (nil, empty, of any length and capacity, sharing memory or not), in whatever memory and on every schedule, sheavelaw25.McheckSame(t, a, b) returns true, without a panic or a race, and its arguments read as before. No condition.
-/
import Derived.Test.YtiacijodoojgoaaDoorRows
import Derived.Test.YtiacijodoojgoaaDoorZ35
import Derived.Test.YtiacijodoojgoaaDoorCards
import Derived.Test.YtiacijodoojgoaaDoorTie
import Derived.WalkKit
import Derived.LaidMore
import Derived.Lay
import Derived.SevenTiedAt
import Derived.Stop.Joined
import Derived.ProofKit
import Derived.OpenShut
import Derived.ShutString
import Derived.ChangeOld
import Derived.Below
namespace Go.Proofs.YtiacijodoojgoaaDoor.mcheckSame
open Go.ChangeShapes Go.WideShapes Go.ChangeAt Go.RowKit
open Go.ChangeMaps (open_string shut_string)
set_option linter.unusedVariables false

theorem own : ownKnob Tryd.prog.godebug = none := by kernel_rfl
theorem laidOut : laidOutB Tryd.prog = true := by kernel_rfl
theorem like25_same (a : Option Addr) (len cap : Nat) (a2 : Option Addr) (len2 cap2 : Nat) (xs : List Int) (w : World) (hr : Reads .i32 w a len cap xs) (hr2 : Reads .i32 w a2 len2 cap2 xs) :
    Calls Tryd.prog 13 #[.slice a len cap, .slice a2 len2 cap2] w fun e w' => e = .returned (.bool true) ∧ Below w.heap.size w w' := by
  have := ref03_Like a len cap xs a2 len2 cap2 xs w hr hr2
  rw [decide_eq_true rfl] at this
  refine this.mono ?_
  rintro e w' ⟨rfl, n, rfl⟩
  exact ⟨rfl, Below.drewN (Below.refl _ _) n⟩
set_option maxHeartbeats 4000000 in
set_option maxRecDepth 100000 in
theorem walk (a0 : Option Addr) (len0 cap0 : Nat) (xs0 : List Int) (a1 : Option Addr) (len1 cap1 : Nat) (xs1 : List Int) (a2 : Option Addr) (len2 cap2 : Nat) (xs2 : List Int) (w : World) (r0 : Reads .i32 w a0 len0 cap0 xs0) (r1 : Reads .u8 w a1 len1 cap1 xs1) (r2 : Reads .u8 w a2 len2 cap2 xs2) :
    Calls Tryd.prog 5 #[.slice a0 len0 cap0, .slice a1 len1 cap1, .slice a2 len2 cap2] w fun e w' => e = .returned (.bool true) ∧ Below w.heap.size w w' := by
  by_cases hN : len0 ≤ 200
  · by_cases hM : len1 ≤ 500
    · by_cases hO : len2 ≤ 500
      · have R := hid r0
        have hsz := r0.size
        have hle := mbL_le xs0
        have FL := ref24_Lay a0 len0 cap0 xs0 w r0 (by omega)
        have FS := hid (fun W (hb : Below w.heap.size w W) => mcheck_Same a1 len1 cap1 xs1 a2 len2 cap2 xs2 W (r1.below hb) (r2.below hb) (by omega) (by omega))
        have FA := hid (fun W (hb : Below w.heap.size w W) => mcheck_Right a1 len1 cap1 xs1 W (r1.below hb) (by omega))
        have FB := hid (fun W (hb : Below w.heap.size w W) => mcheck_Right a2 len2 cap2 xs2 W (r2.below hb) (by omega))
        have FK := hid (fun W (hb : Below w.heap.size w W) => like_r a1 len1 cap1 xs1 a2 len2 cap2 xs2 W (r1.below hb) (r2.below hb))
        generalize mcOk xs1 = Z1 at *
        generalize mcOk xs2 = Z2 at *
        generalize decide (xs1 = xs2) = D at *
        cases hs : xs0.all scB
        · have e1 : mbE xs0 = 7 := by unfold mbE; rw [hs]; rfl
          rw [e1] at FL
          have H := hid FL
          clear FL r0 r1 r2 hs e1 hsz hle
          rcases (show (Z1 = false) ∨ (Z1 = true ∧ Z2 = false) ∨ (Z1 = true ∧ Z2 = true ∧ D = false) ∨ (Z1 = true ∧ Z2 = true ∧ D = true) by cases Z1 <;> cases Z2 <;> cases D <;> simp) with rfl | ⟨rfl, rfl⟩ | ⟨rfl, rfl, rfl⟩ | ⟨rfl, rfl, rfl⟩
          all_goals
            simp only [Bool.and_true, Bool.and_false, Bool.false_and] at FS
            go_enter Tryd.func5, Tryd.ntmps5
            go_wp2_with (first
              | (go_at_call 14; (with_reducible refine H.out.mono ?_); rintro e w1 ⟨v1, rfl, o1, h1⟩)
              | (go_at_call 15; (with_reducible refine (FS.out _ h1).mono ?_); rintro e w2 ⟨rfl, h2⟩; have t2 := below_then h1 h2)
              | (go_at_call 10; (with_reducible refine (FA.out _ t2).mono ?_); rintro e w3 ⟨rfl, h3⟩; have t3 := below_then t2 h3; have tz := t3)
              | (go_at_call 10; (with_reducible refine (FB.out _ t3).mono ?_); rintro e w4 ⟨rfl, h4⟩; have t4 := below_then t3 h4; clear tz; have tz := t4)
              | (go_at_call 16; (with_reducible refine (FK.out _ t4).mono ?_); rintro e w5 ⟨rfl, n5, rfl⟩; clear tz; have tz := Below.drewN t4 n5)
              | (go_at_call 6; (with_reducible refine (alive25_any _).mono ?_); rintro e w6 ⟨rfl, h6⟩))
            go_ret
            exact ⟨rfl, below_then tz h6⟩
        · have e1 : mbE xs0 = 0 := by unfold mbE; rw [hs]; rfl
          rw [e1] at FL
          have H := hid FL
          have hk := mcOk_laid hs
          have hx := (mbL_read hs).1
          have hE : mcE (mbL xs0) = 0 := by unfold mcE; rw [if_pos hk]
          have hR : mcR (mbL xs0) = xs0 := by unfold mcR; rw [if_pos hk, hx]
          have G1 := hid (fun W b1 c1 (h : Reads .u8 W b1 (mbL xs0).length c1 (mbL xs0)) => by
            have := mcheck_Read b1 (mbL xs0).length c1 (mbL xs0) W h (by omega)
            rw [hE, hR] at this
            exact this)
          have G2 := hid (fun W b1 c1 (h : Reads .u8 W b1 (mbL xs0).length c1 (mbL xs0)) => by
            have := mcheck_Same b1 (mbL xs0).length c1 (mbL xs0) b1 (mbL xs0).length c1 (mbL xs0) W h h (by omega) (by omega)
            rw [hk, decide_eq_true rfl] at this
            exact this)
          generalize mbL xs0 = L at *
          clear FL r0 r1 r2 hs e1 hsz hle hk hx hE hR
          rcases (show (Z1 = false) ∨ (Z1 = true ∧ Z2 = false) ∨ (Z1 = true ∧ Z2 = true ∧ D = false) ∨ (Z1 = true ∧ Z2 = true ∧ D = true) by cases Z1 <;> cases Z2 <;> cases D <;> simp) with rfl | ⟨rfl, rfl⟩ | ⟨rfl, rfl, rfl⟩ | ⟨rfl, rfl, rfl⟩
          all_goals
            simp only [Bool.and_true, Bool.and_false, Bool.false_and] at FS
            go_enter Tryd.func5, Tryd.ntmps5
            go_wp2_with (first
              | (go_at_call 14; (with_reducible refine H.out.mono ?_); rintro e w1 ⟨v1, rfl, o1, h1⟩; obtain ⟨b1, c1, rfl, q1⟩ := o1.reads)
              | (go_at_call 11; (with_reducible refine (G1.out _ _ _ q1).mono ?_); rintro e w2 ⟨b2, l2, c2, rfl, q2, h2⟩; have t2 := below_then h1 h2; have q12 := q1.below h2; have q02 := R.out.below t2)
              | (go_at_call 13; (with_reducible refine (like25_same _ _ _ _ _ _ _ _ q2 q02).mono ?_); rintro e w3 ⟨rfl, h3⟩; have t3 := below_then t2 h3; have q13 := q12.below h3)
              | (go_at_call 15; (with_reducible refine (G2.out _ _ _ q13).mono ?_); rintro e w4 ⟨rfl, h4⟩; have t4 := below_then t3 h4)
              | (go_at_call 15; (with_reducible refine (FS.out _ t4).mono ?_); rintro e w5 ⟨rfl, h5⟩; have t5 := below_then t4 h5)
              | (go_at_call 10; (with_reducible refine (FA.out _ t5).mono ?_); rintro e w6 ⟨rfl, h6⟩; have t6 := below_then t5 h6; have tz := t6)
              | (go_at_call 10; (with_reducible refine (FB.out _ t6).mono ?_); rintro e w7 ⟨rfl, h7⟩; have t7 := below_then t6 h7; clear tz; have tz := t7)
              | (go_at_call 16; (with_reducible refine (FK.out _ t7).mono ?_); rintro e w8 ⟨rfl, n8, rfl⟩; clear tz; have tz := Below.drewN t7 n8)
              | (go_at_call 6; (with_reducible refine (alive25_any _).mono ?_); rintro e w9 ⟨rfl, h9⟩))
            go_ret
            exact ⟨rfl, below_then tz h9⟩
      · have hO' : 500 < len2 := by omega
        go_enter Tryd.func5, Tryd.ntmps5
        go_wp2_with (go_at_call 6; (with_reducible refine (alive25_any _).mono ?_); rintro e w' ⟨rfl, hb⟩)
        go_ret
        exact ⟨rfl, hb⟩
    · have hM' : 500 < len1 := by omega
      go_enter Tryd.func5, Tryd.ntmps5
      go_wp2_with (go_at_call 6; (with_reducible refine (alive25_any _).mono ?_); rintro e w' ⟨rfl, hb⟩)
      go_ret
      exact ⟨rfl, hb⟩
  · have hN' : 200 < len0 := by omega
    go_enter Tryd.func5, Tryd.ntmps5
    go_wp2_with (go_at_call 6; (with_reducible refine (alive25_any _).mono ?_); rintro e w' ⟨rfl, hb⟩)
    go_ret
    exact ⟨rfl, hb⟩

def laidL : List (String × DataW Unit) := [("unicode/utf8.acceptRanges", Rows.laid_unicode_utf8_acceptRanges), ("unicode/utf8.first", Rows.laid_unicode_utf8_first)]
set_option maxRecDepth 100000 in
theorem lifted (os : Os) (started : os.Started) (H : Type) (enc : TypeId × Value → H) :
    ReturnsInHanded {} Tryd.checked os 5 .any (fun w args => (Rows.mcheckSameSpec.pre enc Tryd.prog Tryd.f5 Rows.mcheckSameRow.domain false w args ∧ laidMetH Tryd.prog laidL w) ∧ sizedMet enc Tryd.prog Tryd.f5 (OpenSpec.ofChange Rows.mcheckSameSpec) false w args)
      (Rows.mcheckSameSpec.post enc Tryd.prog Tryd.f5 false true false false) := by
  refine returnsInHanded_of_change_and (C := Tryd.checked) (X := fun w _ => laidMetH Tryd.prog laidL w) (fun _ _ _ hh h => h.of_heap hh) own started (by kernel_rfl) Tryd.func5
    (ChangeSpec.witness_shaped (enc := enc) (C := Tryd.checked) (os := os) (X := fun w _ => laidMetH Tryd.prog laidL w) false (World.laidAll Tryd.prog os laidL) #[.slice none 0 0, .slice none 0 0, .slice none 0 0] 8 (World.laidAll_os _ _ _)
      (World.shaped_of_ZipB (by kernel_rfl) (by kernel_rfl)) (by kernel_rfl) (by kernel_rfl) (by kernel_rfl)
      (by rw [MakeChecks.laidMetH_plain _ _ _ (by kernel_rfl)]; exact laidMet_laidAll _ (by kernel_rfl) (by kernel_rfl))) ?_
  intro W base args ds gs before hval0 hW hcnd _ _ _
  have hval : ∀ (j : Nat) t v, Tryd.f5.params[j]? = some t → args[j]? = some v → Value.okWide Tryd.prog W .any base t v := hval0
  have hW' := hW
  obtain ⟨p, q, hA0, hV, rfl, hfz, hnd⟩ := hW
  have hA : DataW.TrodAll enc Tryd.prog W 0 (fun _ => true) true Tryd.f5.params.toList args.toList ds p := hA0
  rw [Tryd.params5] at hA hval
  obtain ⟨v0, vs0, d0, ds0, p0, q0, hargs, rfl, rfl, h0, r_0⟩ := trodAll_cons hA
  obtain ⟨v1, vs1, d1, ds1, p1, q1, rfl, rfl, rfl, h1, r_1⟩ := trodAll_cons r_0
  obtain ⟨v2, vs2, d2, ds2, p2, q2, rfl, rfl, rfl, h2, r_2⟩ := trodAll_cons r_1
  obtain ⟨rfl, rfl, rfl⟩ := trodAll_nil r_2
  obtain rfl : args = #[v0, v1, v2] := by cases args; simp_all
  obtain ⟨rfl, rfl⟩ := trodVars_none hV
  obtain ⟨a0, len0, cap0, rfl⟩ := okWide_slice Tryd.underlying30 (hval 0 30 v0 rfl rfl)
  have k0 := h0
  have lt0 : ∀ x ∈ p0, x.block < W.heap.size := by obtain ⟨m, hm⟩ := k0; exact DataW.trod_lt m _ _ _ hm
  obtain ⟨xs0, r0⟩ : ∃ xs, Reads .i32 W a0 len0 cap0 xs := by
    obtain ⟨fuel, hf⟩ := h0
    rcases open_ints Tryd.underlying30 Tryd.underlying21 (by kernel_rfl) hf with ⟨hcs, _⟩ | ⟨x, l, c, zs, hcs, _, hl, hm, hz, _, hcell, hwz⟩
    · simp [Value.cells] at hcs
      obtain ⟨rfl, rfl, rfl⟩ := hcs
      exact ⟨[], Reads.nil _ _ _ _ (Nat.zero_le _)⟩
    · simp [Value.cells] at hcs
      obtain ⟨rfl, rfl, rfl⟩ := hcs
      exact ⟨_, reads_of_ints hl hm (by simpa using hz) hcell hwz⟩
  obtain ⟨a1, len1, cap1, rfl⟩ := okWide_slice Tryd.underlying22 (hval 1 22 v1 rfl rfl)
  have k1 := h1
  have lt1 : ∀ x ∈ p1, x.block < W.heap.size := by obtain ⟨m, hm⟩ := k1; exact DataW.trod_lt m _ _ _ hm
  obtain ⟨xs1, r1⟩ : ∃ xs, Reads .u8 W a1 len1 cap1 xs := by
    obtain ⟨fuel, hf⟩ := h1
    rcases open_ints Tryd.underlying22 Tryd.underlying5 (by kernel_rfl) hf with ⟨hcs, _⟩ | ⟨x, l, c, zs, hcs, _, hl, hm, hz, _, hcell, hwz⟩
    · simp [Value.cells] at hcs
      obtain ⟨rfl, rfl, rfl⟩ := hcs
      exact ⟨[], Reads.nil _ _ _ _ (Nat.zero_le _)⟩
    · simp [Value.cells] at hcs
      obtain ⟨rfl, rfl, rfl⟩ := hcs
      exact ⟨_, reads_of_ints hl hm (by simpa using hz) hcell hwz⟩
  obtain ⟨a2, len2, cap2, rfl⟩ := okWide_slice Tryd.underlying22 (hval 2 22 v2 rfl rfl)
  have k2 := h2
  have lt2 : ∀ x ∈ p2, x.block < W.heap.size := by obtain ⟨m, hm⟩ := k2; exact DataW.trod_lt m _ _ _ hm
  obtain ⟨xs2, r2⟩ : ∃ xs, Reads .u8 W a2 len2 cap2 xs := by
    obtain ⟨fuel, hf⟩ := h2
    rcases open_ints Tryd.underlying22 Tryd.underlying5 (by kernel_rfl) hf with ⟨hcs, _⟩ | ⟨x, l, c, zs, hcs, _, hl, hm, hz, _, hcell, hwz⟩
    · simp [Value.cells] at hcs
      obtain ⟨rfl, rfl, rfl⟩ := hcs
      exact ⟨[], Reads.nil _ _ _ _ (Nat.zero_le _)⟩
    · simp [Value.cells] at hcs
      obtain ⟨rfl, rfl, rfl⟩ := hcs
      exact ⟨_, reads_of_ints hl hm (by simpa using hz) hcell hwz⟩
  clear hA0 hval0
  refine (walk a0 len0 cap0 xs0 a1 len1 cap1 xs1 a2 len2 cap2 xs2 W r0 r1 r2).mono fun e W' ⟨he, bel⟩ => ?_
  subst he
  exact ⟨_, rfl, _, _, _, [], _, [], hW', trodAll_mk1 (shut_bool Tryd.underlying4 _), (trodAll_cons_mk (Below.trod laidOut (by kernel_rfl) (of_decide_eq_true (by kernel_rfl)) k0 bel lt0) (trodAll_cons_mk (Below.trod laidOut (by kernel_rfl) (of_decide_eq_true (by kernel_rfl)) k1 bel lt1) (trodAll_cons_mk (Below.trod laidOut (by kernel_rfl) (of_decide_eq_true (by kernel_rfl)) k2 bel lt2) trodAll_mk0))), rfl, bel.frame _, fun h => by cases h⟩

theorem over : Rows.mcheckSameRow.holds Tryd.pinned (OpenSpec.ofChange Rows.mcheckSameSpec) :=
  OpenClaim.holds_of_wide 5 Tryd.f5 rfl rfl rfl rfl rfl rfl rfl ⟨rfl, rfl, rfl, rfl, rfl⟩ rfl rfl rfl rfl rfl (by kernel_rfl) Tryd.func5 (by kernel_rfl)
    (of_decide_eq_true (by kernel_rfl)) (by unfold Func.isWrapper; first | (rw [if_pos (by decide +kernel)]; kernel_rfl) | (rw [if_neg (by decide +kernel)]; exact ⟨rfl, rfl⟩))
    (fun os started H enc _ => lifted os started H enc)

end Go.Proofs.YtiacijodoojgoaaDoor.mcheckSame
namespace Go.Proofs.YtiacijodoojgoaaDoor
set_option maxRecDepth 100000 in
theorem mcheckSame_holds : Rows.McheckSameCardSaid :=
  Claim7.holds_tied_plain_at .later [] [.data, .pinned] true (true, "2e976628c1405d6e40e57feba21bf750c89937654c482433eb0cdfd08f411b30") false mcheckSame.over (fun _ h => by cases h) (by kernel_rfl) (fun _ h => by cases h) mcheckSame_row_tie rfl ⟨rfl, rfl⟩ (by kernel_rfl) rfl
    (fun f fn hf hfn => by
      obtain rfl : f = 5 := Option.some.inj ((show Tryd.prog.funcNamed "sheave/sheavelaw25.McheckSame" = some 5 by kernel_rfl).symm.trans hf) |>.symm
      obtain rfl : fn = Tryd.f5 := (Option.some.inj (Tryd.func5.symm.trans hfn)).symm
      exact ⟨by kernel_rfl, fun j t ht => by
        rw [Tryd.params5] at ht
        have hm : t ∈ [30, 22, 22] := by simpa using Array.mem_of_getElem? ht
        have hall : ([30, 22, 22].all fun u => !Tryd.prog.wantsStandIn u) = true := by kernel_rfl
        exact (show Tryd.prog.wantsStandIn t = false by simpa using List.all_eq_true.1 hall t hm)⟩)
    (by kernel_rfl)
#print axioms mcheckSame_holds
end Go.Proofs.YtiacijodoojgoaaDoor
