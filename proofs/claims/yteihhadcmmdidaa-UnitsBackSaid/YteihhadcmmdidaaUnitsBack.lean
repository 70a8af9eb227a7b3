/-
  Proved: for every []rune t and every []uint16 u (nil, empty, of any length and capacity), in whatever memory and on every schedule, sheavelaw06.UnitsBack(t, u) returns true, without a panic or a race, and its arguments read as before. No condition.
-/
import Derived.Test.YteihhadcmmdidaaRows
import Derived.Test.YteihhadcmmdidaaAlive06
import Derived.Test.YteihhadcmmdidaaR06b
import Derived.WalkKit
import Derived.ProofKit
import Derived.OpenShut
import Derived.ShutString
import Derived.ChangeOld
import Derived.Below
namespace Go.Proofs.Yteihhadcmmdidaa.unitsBack
open Go.ChangeShapes Go.WideShapes Go.ChangeAt Go.RowKit
open Go.ChangeMaps (open_string shut_string)
set_option linter.unusedVariables false

theorem own : ownKnob Try.prog.godebug = none := by kernel_rfl
theorem laidOut : laidOutB Try.prog = true := by kernel_rfl
theorem likeR6_same (a : Option Addr) (len cap : Nat) (a2 : Option Addr) (len2 cap2 : Nat) (xs : List Int) (w : World) (hr : Reads .i32 w a len cap xs) (hr2 : Reads .i32 w a2 len2 cap2 xs) :
    Calls Try.prog 15 #[.slice a len cap, .slice a2 len2 cap2] w fun e w' => e = .returned (.bool true) ∧ ∃ n, w' = w.drewN n := by
  have := ref03_Like a len cap xs a2 len2 cap2 xs w hr hr2
  rwa [decide_eq_true rfl] at this
/-- What is laid is read, and right. -/
theorem laid (t : List Int) (n : Nat) (hn : t.length = n) (hs : t.all scB = true) (a : Option Addr) (cap : Nat) (hN : n ≤ 500) :
    (∀ w, Reads .u16 w a (unL t).length cap (unL t) → Calls Try.prog 14 #[.slice a (unL t).length cap] w fun e w' => ∃ a' cap', e = .returned (.tuple #[.slice a' n cap', .int .i64 0]) ∧ Reads .i32 w' a' n cap' t ∧ Below w.heap.size w w') ∧
    (∀ w, Reads .u16 w a (unL t).length cap (unL t) → Calls Try.prog 21 #[.slice a (unL t).length cap] w fun e w' => e = .returned (.bool true) ∧ Below w.heap.size w w') := by
  subst hn
  have hl := unL_len t
  refine ⟨fun w hr => ?_, fun w hr => ?_⟩
  · refine (units_Strict a _ cap _ w hr (by omega)).mono ?_
    rintro e w' ⟨a', l', c', rfl, hr', hb⟩
    rw [ustr_laid hs] at hr'
    obtain rfl : t.length = l' := hr'.size
    exact ⟨a', c', by rw [uerr_laid hs], hr', hb⟩
  · have := units_Right a _ cap _ w hr
    rwa [uerr_laid hs, decide_eq_true rfl] at this
theorem lay_u (a : Option Addr) (len cap : Nat) (xs : List Int) (hN : len ≤ 500) (hsz : xs.length = len) (hbd : ∀ x ∈ xs, 0 ≤ x ∧ x ≤ 65535) (w : World) (hr : Reads .i32 w a (usigs xs).length cap (utxt xs)) :
    Calls Try.prog 8 #[.slice a (usigs xs).length cap] w fun e w' => ∃ a' cap', e = .returned (.tuple #[.slice a' (unL (utxt xs)).length cap', .int .i64 0]) ∧ Reads .u16 w' a' (unL (utxt xs)).length cap' (unL (utxt xs)) ∧ Below w.heap.size w w' := by
  have hl := usigs_len xs
  exact units_Lay a _ cap _ w hr (by omega) (utxt_sc xs hbd)
theorem first_u (a : Option Addr) (cap : Nat) (xs : List Int) (hbd : ∀ x ∈ xs, 0 ≤ x ∧ x ≤ 65535) (w : World) (hr : Reads .i32 w a (usigs xs).length cap (utxt xs)) :
    Calls Try.prog 27 #[.slice a (usigs xs).length cap] w fun e w' => (∃ i : Int, Hid (i < 0 ∧ -2 < i) ∧ e = .returned (.int .i64 i)) ∧ w = w' := by
  refine (ref03_First a _ cap _ w hr).mono ?_
  rintro e w' ⟨rfl, rfl⟩
  have h1 := idx_not_neg6 (utxt_sc xs hbd)
  have h2 := idx_bd (fun c => !scB c) (utxt xs)
  exact ⟨⟨_, ⟨h1, by omega⟩, rfl⟩, rfl⟩
theorem right_u (b : Bool) (a : Option Addr) (len cap : Nat) (xs : List Int) (h : decide (errP (usigs xs) = 0) = b) (w : World) (hr : Reads .u16 w a len cap xs) :
    Calls Try.prog 21 #[.slice a len cap] w fun e w' => e = .returned (.bool b) ∧ Below w.heap.size w w' := by
  have := units_Right a len cap xs w hr
  rwa [h] at this
theorem same_u (b : Bool) (xs : List Int) (h : decide (errP (usigs xs) = 0) = b) (hbd : ∀ x ∈ xs, 0 ≤ x ∧ x ≤ 65535) (a : Option Addr) (len cap : Nat) (a2 : Option Addr) (len2 cap2 : Nat) (w : World) (hr : Reads .u16 w a len cap (unL (utxt xs))) (hr2 : Reads .u16 w a2 len2 cap2 xs) :
    Calls Try.prog 10 #[.slice a len cap, .slice a2 len2 cap2] w fun e w' => e = .returned (.bool b) ∧ ∃ n, w' = w.drewN n := by
  have := ref06_Same a len cap _ a2 len2 cap2 xs w hr hr2
  rwa [decide_eq_decide.2 (unL_back xs hbd), h] at this
set_option maxHeartbeats 4000000 in
set_option maxRecDepth 100000 in
theorem walk (a0 : Option Addr) (len0 cap0 : Nat) (xs0 : List Int) (a1 : Option Addr) (len1 cap1 : Nat) (xs1 : List Int) (w : World) (r0 : Reads .i32 w a0 len0 cap0 xs0) (r1 : Reads .u16 w a1 len1 cap1 xs1) :
    Calls Try.prog 6 #[.slice a0 len0 cap0, .slice a1 len1 cap1] w fun e w' => e = .returned (.bool true) ∧ Below w.heap.size w w' := by
  by_cases hN : len0 ≤ 500 ∧ len1 ≤ 500
  · obtain ⟨hN0, hN1⟩ := hN
    have hs0 := r0.size
    have hs1 := r1.size
    have hbd := hid (fun x hx => wf_u16 (r1.wf x hx))
    have hle := usigs_len xs1
    rw [hs1] at hle
    have R0 := hid r0
    have R1 := hid r1
    clear r0 r1
    cases hs : xs0.all scB
    · have HS := hid hs
      clear hs
      cases hd' : decide (errP (usigs xs1) = 0)
      · have hd := hid hd'
        clear hd'
        go_enter Try.func6, Try.ntmps6
        go_wp2_with (first
          | (go_at_call 8; (with_reducible refine (units_LayNo _ _ _ _ _ R0.out HS.out).mono ?_); rintro e w' ⟨rfl, rfl⟩; have hbA := Below.refl w.heap.size w; have RA := R1.out)
          | (go_at_call 20; (with_reducible refine (units_Read _ _ _ _ _ RA (by omega)).mono ?_); rintro e u11 ⟨b11, c11, rfl, hr11, hb11⟩; have hB11 := below_then' hbA hb11 (by simp))
          | (go_at_call 8; (with_reducible refine (lay_u _ _ _ _ hN1 hs1 hbd.out _ hr11).mono ?_); rintro e u12 ⟨b12, c12, rfl, hr12, hb12⟩; have hB12 := below_then hB11 hb12; have hr11a := hr11.below hb12; have RC := R1.out.below hB12)
          | (go_at_call 27; (with_reducible refine (first_u _ _ _ hbd.out _ hr11a).mono ?_); rintro e w' ⟨⟨i, hi, rfl⟩, rfl⟩; have hi1 := hi.out.1; have hi2 := hi.out.2)
          | (go_at_call 21; (with_reducible refine (right_u _ _ _ _ _ hd.out _ RC).mono ?_); rintro e u13 ⟨rfl, hb13⟩; have hB13 := below_then hB12 hb13; have hr12a := hr12.below hb13; have RD := R1.out.below hB13)
          | (go_at_call 10; (with_reducible refine (same_u _ _ hd.out hbd.out _ _ _ _ _ _ _ hr12a RD).mono ?_); rintro e u14 ⟨rfl, n14, rfl⟩; have hB14 := Below.drewN hB13 n14)
          | (go_at_call 7; (with_reducible refine (alive6_any _).mono ?_); rintro e w' ⟨rfl, hb⟩))
        all_goals
          go_ret
          exact ⟨rfl, below_then' hB14 hb (by simp)⟩
      · have hd := hid hd'
        clear hd'
        go_enter Try.func6, Try.ntmps6
        go_wp2_with (first
          | (go_at_call 8; (with_reducible refine (units_LayNo _ _ _ _ _ R0.out HS.out).mono ?_); rintro e w' ⟨rfl, rfl⟩; have hbA := Below.refl w.heap.size w; have RA := R1.out)
          | (go_at_call 20; (with_reducible refine (units_Read _ _ _ _ _ RA (by omega)).mono ?_); rintro e u11 ⟨b11, c11, rfl, hr11, hb11⟩; have hB11 := below_then' hbA hb11 (by simp))
          | (go_at_call 8; (with_reducible refine (lay_u _ _ _ _ hN1 hs1 hbd.out _ hr11).mono ?_); rintro e u12 ⟨b12, c12, rfl, hr12, hb12⟩; have hB12 := below_then hB11 hb12; have hr11a := hr11.below hb12; have RC := R1.out.below hB12)
          | (go_at_call 27; (with_reducible refine (first_u _ _ _ hbd.out _ hr11a).mono ?_); rintro e w' ⟨⟨i, hi, rfl⟩, rfl⟩; have hi1 := hi.out.1; have hi2 := hi.out.2)
          | (go_at_call 21; (with_reducible refine (right_u _ _ _ _ _ hd.out _ RC).mono ?_); rintro e u13 ⟨rfl, hb13⟩; have hB13 := below_then hB12 hb13; have hr12a := hr12.below hb13; have RD := R1.out.below hB13)
          | (go_at_call 10; (with_reducible refine (same_u _ _ hd.out hbd.out _ _ _ _ _ _ _ hr12a RD).mono ?_); rintro e u14 ⟨rfl, n14, rfl⟩; have hB14 := Below.drewN hB13 n14)
          | (go_at_call 7; (with_reducible refine (alive6_any _).mono ?_); rintro e w' ⟨rfl, hb⟩))
        all_goals
          go_ret
          exact ⟨rfl, below_then' hB14 hb (by simp)⟩
    · have HS := hid hs
      have HL := fun a cap => laid xs0 len0 hs0 hs a cap (by omega)
      clear hs
      cases hd' : decide (errP (usigs xs1) = 0)
      · have hd := hid hd'
        clear hd'
        go_enter Try.func6, Try.ntmps6
        go_wp2_with (first
          | (go_at_call 8; (with_reducible refine (units_Lay _ _ _ _ _ R0.out (by omega) HS.out).mono ?_); rintro e u1 ⟨b1, c1, rfl, hr1, hb1⟩; have hR0 := R0.out.below hb1)
          | (go_at_call 14; (with_reducible refine ((HL _ _).1 _ hr1).mono ?_); rintro e u2 ⟨b2, c2, rfl, hr2, hb2⟩; have hb2' := below_then hb1 hb2; have hr1b := hr1.below hb2; have hR2 := R0.out.below hb2')
          | (go_at_call 15; (with_reducible refine (likeR6_same _ _ _ _ _ _ _ _ hr2 hR2).mono ?_); rintro e u3 ⟨rfl, n3, rfl⟩; have hb3 := Below.drewN hb2' n3; have hr1c := hr1b.below (Below.drewN (Below.refl _ _) n3))
          | (go_at_call 21; (with_reducible refine ((HL _ _).2 _ hr1c).mono ?_); rintro e u4 ⟨rfl, hb4⟩; have hbA := below_then' hb3 hb4 (by simp); have RA := R1.out.below hbA)
          | (go_at_call 20; (with_reducible refine (units_Read _ _ _ _ _ RA (by omega)).mono ?_); rintro e u11 ⟨b11, c11, rfl, hr11, hb11⟩; have hB11 := below_then' hbA hb11 (by simp))
          | (go_at_call 8; (with_reducible refine (lay_u _ _ _ _ hN1 hs1 hbd.out _ hr11).mono ?_); rintro e u12 ⟨b12, c12, rfl, hr12, hb12⟩; have hB12 := below_then hB11 hb12; have hr11a := hr11.below hb12; have RC := R1.out.below hB12)
          | (go_at_call 27; (with_reducible refine (first_u _ _ _ hbd.out _ hr11a).mono ?_); rintro e w' ⟨⟨i, hi, rfl⟩, rfl⟩; have hi1 := hi.out.1; have hi2 := hi.out.2)
          | (go_at_call 21; (with_reducible refine (right_u _ _ _ _ _ hd.out _ RC).mono ?_); rintro e u13 ⟨rfl, hb13⟩; have hB13 := below_then hB12 hb13; have hr12a := hr12.below hb13; have RD := R1.out.below hB13)
          | (go_at_call 10; (with_reducible refine (same_u _ _ hd.out hbd.out _ _ _ _ _ _ _ hr12a RD).mono ?_); rintro e u14 ⟨rfl, n14, rfl⟩; have hB14 := Below.drewN hB13 n14)
          | (go_at_call 7; (with_reducible refine (alive6_any _).mono ?_); rintro e w' ⟨rfl, hb⟩))
        all_goals
          go_ret
          exact ⟨rfl, below_then' hB14 hb (by simp)⟩
      · have hd := hid hd'
        clear hd'
        go_enter Try.func6, Try.ntmps6
        go_wp2_with (first
          | (go_at_call 8; (with_reducible refine (units_Lay _ _ _ _ _ R0.out (by omega) HS.out).mono ?_); rintro e u1 ⟨b1, c1, rfl, hr1, hb1⟩; have hR0 := R0.out.below hb1)
          | (go_at_call 14; (with_reducible refine ((HL _ _).1 _ hr1).mono ?_); rintro e u2 ⟨b2, c2, rfl, hr2, hb2⟩; have hb2' := below_then hb1 hb2; have hr1b := hr1.below hb2; have hR2 := R0.out.below hb2')
          | (go_at_call 15; (with_reducible refine (likeR6_same _ _ _ _ _ _ _ _ hr2 hR2).mono ?_); rintro e u3 ⟨rfl, n3, rfl⟩; have hb3 := Below.drewN hb2' n3; have hr1c := hr1b.below (Below.drewN (Below.refl _ _) n3))
          | (go_at_call 21; (with_reducible refine ((HL _ _).2 _ hr1c).mono ?_); rintro e u4 ⟨rfl, hb4⟩; have hbA := below_then' hb3 hb4 (by simp); have RA := R1.out.below hbA)
          | (go_at_call 20; (with_reducible refine (units_Read _ _ _ _ _ RA (by omega)).mono ?_); rintro e u11 ⟨b11, c11, rfl, hr11, hb11⟩; have hB11 := below_then' hbA hb11 (by simp))
          | (go_at_call 8; (with_reducible refine (lay_u _ _ _ _ hN1 hs1 hbd.out _ hr11).mono ?_); rintro e u12 ⟨b12, c12, rfl, hr12, hb12⟩; have hB12 := below_then hB11 hb12; have hr11a := hr11.below hb12; have RC := R1.out.below hB12)
          | (go_at_call 27; (with_reducible refine (first_u _ _ _ hbd.out _ hr11a).mono ?_); rintro e w' ⟨⟨i, hi, rfl⟩, rfl⟩; have hi1 := hi.out.1; have hi2 := hi.out.2)
          | (go_at_call 21; (with_reducible refine (right_u _ _ _ _ _ hd.out _ RC).mono ?_); rintro e u13 ⟨rfl, hb13⟩; have hB13 := below_then hB12 hb13; have hr12a := hr12.below hb13; have RD := R1.out.below hB13)
          | (go_at_call 10; (with_reducible refine (same_u _ _ hd.out hbd.out _ _ _ _ _ _ _ hr12a RD).mono ?_); rintro e u14 ⟨rfl, n14, rfl⟩; have hB14 := Below.drewN hB13 n14)
          | (go_at_call 7; (with_reducible refine (alive6_any _).mono ?_); rintro e w' ⟨rfl, hb⟩))
        all_goals
          go_ret
          exact ⟨rfl, below_then' hB14 hb (by simp)⟩
  · have hN' : 500 < len0 ∨ 500 < len1 := by omega
    by_cases h0 : len0 ≤ 500
    · have h1 : 500 < len1 := by omega
      clear hN hN'
      go_enter Try.func6, Try.ntmps6
      go_wp2_with (go_at_call 7; (with_reducible refine (alive6_any _).mono ?_); rintro e w' ⟨rfl, hb⟩)
      all_goals
        go_ret
        exact ⟨rfl, hb⟩
    · have h0' : 500 < len0 := by omega
      clear hN hN'
      go_enter Try.func6, Try.ntmps6
      go_wp2_with (go_at_call 7; (with_reducible refine (alive6_any _).mono ?_); rintro e w' ⟨rfl, hb⟩)
      all_goals
        go_ret
        exact ⟨rfl, hb⟩

set_option maxRecDepth 100000 in
theorem lifted (os : Os) (started : os.Started) (H : Type) (enc : TypeId × Value → H) :
    ReturnsInHanded {} Try.checked os 6 .any (Rows.unitsBackSpec.pre6 enc Try.prog Try.f6 Rows.unitsBackRow.domain false) (Rows.unitsBackSpec.post enc Try.prog Try.f6 false true false false) := by
  refine returnsInHanded_of_change (C := Try.checked) own started (by kernel_rfl) Try.func6
    (ChangeSpec.witness6 (enc := enc) (C := Try.checked) false ⟨#[], #[.slice none 0 0, .slice none 0 0], []⟩ 8 (by kernel_rfl) (by kernel_rfl) (by kernel_rfl) (by kernel_rfl)) ?_
  intro W base args ds gs before hval0 hW hcnd _
  have hval : ∀ (j : Nat) t v, Try.f6.params[j]? = some t → args[j]? = some v → Value.okWide Try.prog W .any base t v := hval0
  have hW' := hW
  obtain ⟨p, q, hA0, hV, rfl, hfz, hnd⟩ := hW
  have hA : DataW.TrodAll enc Try.prog W 0 (fun _ => true) true Try.f6.params.toList args.toList ds p := hA0
  rw [Try.params6] at hA hval
  obtain ⟨v0, vs0, d0, ds0, p0, q0, hargs, rfl, rfl, h0, r_0⟩ := trodAll_cons hA
  obtain ⟨v1, vs1, d1, ds1, p1, q1, rfl, rfl, rfl, h1, r_1⟩ := trodAll_cons r_0
  obtain ⟨rfl, rfl, rfl⟩ := trodAll_nil r_1
  obtain rfl : args = #[v0, v1] := by cases args; simp_all
  obtain ⟨rfl, rfl⟩ := trodVars_none hV
  obtain ⟨a0, len0, cap0, rfl⟩ := okWide_slice Try.underlying22 (hval 0 22 v0 rfl rfl)
  have k0 := h0
  have lt0 : ∀ x ∈ p0, x.block < W.heap.size := by obtain ⟨m, hm⟩ := k0; exact DataW.trod_lt m _ _ _ hm
  obtain ⟨xs0, r0⟩ : ∃ xs, Reads .i32 W a0 len0 cap0 xs := by
    obtain ⟨fuel, hf⟩ := h0
    rcases open_ints Try.underlying22 Try.underlying21 (by kernel_rfl) hf with ⟨hcs, _⟩ | ⟨x, l, c, zs, hcs, _, hl, hm, hz, _, hcell, hwz⟩
    · simp [Value.cells] at hcs
      obtain ⟨rfl, rfl, rfl⟩ := hcs
      exact ⟨[], Reads.nil _ _ _ _ (Nat.zero_le _)⟩
    · simp [Value.cells] at hcs
      obtain ⟨rfl, rfl, rfl⟩ := hcs
      exact ⟨_, reads_of_ints hl hm (by simpa using hz) hcell hwz⟩
  obtain ⟨a1, len1, cap1, rfl⟩ := okWide_slice Try.underlying24 (hval 1 24 v1 rfl rfl)
  have k1 := h1
  have lt1 : ∀ x ∈ p1, x.block < W.heap.size := by obtain ⟨m, hm⟩ := k1; exact DataW.trod_lt m _ _ _ hm
  obtain ⟨xs1, r1⟩ : ∃ xs, Reads .u16 W a1 len1 cap1 xs := by
    obtain ⟨fuel, hf⟩ := h1
    rcases open_ints Try.underlying24 Try.underlying38 (by kernel_rfl) hf with ⟨hcs, _⟩ | ⟨x, l, c, zs, hcs, _, hl, hm, hz, _, hcell, hwz⟩
    · simp [Value.cells] at hcs
      obtain ⟨rfl, rfl, rfl⟩ := hcs
      exact ⟨[], Reads.nil _ _ _ _ (Nat.zero_le _)⟩
    · simp [Value.cells] at hcs
      obtain ⟨rfl, rfl, rfl⟩ := hcs
      exact ⟨_, reads_of_ints hl hm (by simpa using hz) hcell hwz⟩
  clear hA0 hval0
  refine (walk a0 len0 cap0 xs0 a1 len1 cap1 xs1 W r0 r1).mono fun e W' ⟨he, bel⟩ => ?_
  subst he
  exact ⟨_, rfl, _, _, _, [], _, [], hW', trodAll_mk1 (shut_bool Try.underlying4 _), (trodAll_cons_mk (Below.trod laidOut (by kernel_rfl) (of_decide_eq_true (by kernel_rfl)) k0 bel lt0) (trodAll_cons_mk (Below.trod laidOut (by kernel_rfl) (of_decide_eq_true (by kernel_rfl)) k1 bel lt1) trodAll_mk0)), rfl, bel.frame _, fun h => by cases h⟩

theorem over : Rows.unitsBackRow.holds Try.pinned (OpenSpec.ofChange Rows.unitsBackSpec) :=
  OpenClaim.holds_of_wide 6 Try.f6 rfl rfl rfl rfl rfl rfl rfl ⟨rfl, rfl, rfl, rfl, rfl⟩ rfl rfl rfl rfl rfl (by kernel_rfl) Try.func6 (by kernel_rfl)
    (of_decide_eq_true (by kernel_rfl)) (by unfold Func.isWrapper; first | (rw [if_pos (by decide +kernel)]; kernel_rfl) | (rw [if_neg (by decide +kernel)]; exact ⟨rfl, rfl⟩))
    (fun os started H enc _ => lifted os started H enc)

end Go.Proofs.Yteihhadcmmdidaa.unitsBack
namespace Go.Proofs.Yteihhadcmmdidaa
theorem unitsBack_holds : Rows.UnitsBackSaid := unitsBack.over
#print axioms unitsBack_holds
end Go.Proofs.Yteihhadcmmdidaa
