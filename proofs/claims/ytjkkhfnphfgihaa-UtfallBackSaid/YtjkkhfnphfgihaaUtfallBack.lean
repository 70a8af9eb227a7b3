/-
  Proved: for every []rune t and every []byte s (nil, empty, of any length and capacity), in whatever memory and on every schedule, sheavelaw05.UtfallBack(t, s) returns true, without a panic or a race, and its arguments read as before. No condition.
-/
import Derived.Test.YtjkkhfnphfgihaaRows
import Derived.Test.YtjkkhfnphfgihaaAlive05
import Derived.Test.YtjkkhfnphfgihaaR05
import Derived.WalkKit
import Derived.ProofKit
import Derived.OpenShut
import Derived.ShutString
import Derived.ChangeOld
import Derived.Below
namespace Go.Proofs.Ytjkkhfnphfgihaa.utfallBack
open Go.ChangeShapes Go.WideShapes Go.ChangeAt Go.RowKit
open Go.ChangeMaps (open_string shut_string)
set_option linter.unusedVariables false

theorem own : ownKnob Try.prog.godebug = none := by kernel_rfl
theorem laidOut : laidOutB Try.prog = true := by kernel_rfl
theorem like5_same (a : Option Addr) (len cap : Nat) (a2 : Option Addr) (len2 cap2 : Nat) (xs : List Int) (w : World) (hr : Reads .u8 w a len cap xs) (hr2 : Reads .u8 w a2 len2 cap2 xs) :
    Calls Try.prog 10 #[.slice a len cap, .slice a2 len2 cap2] w fun e w' => e = .returned (.bool true) ∧ ∃ n, w' = w.drewN n := by
  have := like_r a len cap xs a2 len2 cap2 xs w hr hr2
  rwa [decide_eq_true rfl] at this
theorem likeR5_same (a : Option Addr) (len cap : Nat) (a2 : Option Addr) (len2 cap2 : Nat) (xs : List Int) (w : World) (hr : Reads .i32 w a len cap xs) (hr2 : Reads .i32 w a2 len2 cap2 xs) :
    Calls Try.prog 15 #[.slice a len cap, .slice a2 len2 cap2] w fun e w' => e = .returned (.bool true) ∧ ∃ n, w' = w.drewN n := by
  have := ref03_Like a len cap xs a2 len2 cap2 xs w hr hr2
  rwa [decide_eq_true rfl] at this
/-- What is laid is read, strictly, too. -/
theorem laid (t : List Int) (n : Nat) (hn : t.length = n) (hs : t.all scB = true) (a : Option Addr) (cap : Nat) (hN : lenL t < 10000000) :
    (∀ w, Reads .u8 w a (lenL t) cap (octL t) → Calls Try.prog 14 #[.slice a (lenL t) cap] w fun e w' => ∃ a' cap', e = .returned (.tuple #[.slice a' n cap', .int .i64 0]) ∧ Reads .i32 w' a' n cap' t ∧ Below w.heap.size w w') ∧
    (∀ w, Reads .u8 w a (lenL t) cap (octL t) → Calls Try.prog 16 #[.slice a (lenL t) cap] w fun e w' => ∃ a' cap', e = .returned (.slice a' n cap') ∧ Reads .i32 w' a' n cap' t ∧ Below w.heap.size w w') ∧
    (∀ w, Reads .u8 w a (lenL t) cap (octL t) → Calls Try.prog 17 #[.slice a (lenL t) cap] w fun e w' => e = .returned (.int .i64 n) ∧ Below w.heap.size w w') := by
  subst hn
  refine ⟨fun w hr => ?_, fun w hr => ?_, fun w hr => ?_⟩
  · refine (utfall_Strict a (lenL t) cap _ w hr (by omega)).mono ?_
    rintro e w' ⟨a', l', c', rfl, hr', hb⟩
    have hst : strL (octL t) = t := by unfold strL; rw [if_pos (err_laid hs), txt_laid hs]
    rw [hst] at hr'
    obtain rfl : t.length = l' := hr'.size
    exact ⟨a', c', by rw [err_laid hs], hr', hb⟩
  · have := utfall_Read a (lenL t) cap _ w hr (by omega)
    rwa [txt_laid hs, ← txt_len, txt_laid hs] at this
  · have := utfall_Count a (lenL t) cap _ w hr
    rwa [← txt_len, txt_laid hs] at this
theorem right_yes (a : Option Addr) (len cap : Nat) (xs : List Int) (hN : len ≤ 1000) (h : errP (sigs xs) = 0) (w : World) (hr : Reads .u8 w a len cap xs) :
    Calls Try.prog 14 #[.slice a len cap] w fun e w' => ∃ a' cap', e = .returned (.tuple #[.slice a' (sigs xs).length cap', .int .i64 0]) ∧ Reads .i32 w' a' (sigs xs).length cap' (txt xs) ∧ Below w.heap.size w w' := by
  refine (utfall_Strict a len cap _ w hr (by omega)).mono ?_
  rintro e w' ⟨a', l', c', rfl, hr', hb⟩
  have hst : strL xs = txt xs := by unfold strL; rw [if_pos h]
  rw [hst] at hr'
  obtain rfl : (sigs xs).length = l' := by rw [← txt_len]; exact hr'.size
  exact ⟨a', c', by rw [h], hr', hb⟩
theorem right_no (a : Option Addr) (len cap : Nat) (xs : List Int) (h : errP (sigs xs) ≠ 0) (w : World) (hr : Reads .u8 w a len cap xs) :
    Calls Try.prog 19 #[.slice a len cap] w fun e w' => e = .returned (.bool false) ∧ Below w.heap.size w w' := by
  have := utfall_Right a len cap xs w hr
  rwa [decide_eq_false h] at this
theorem lay_back (a : Option Addr) (len cap cap1 : Nat) (a1 : Option Addr) (xs : List Int) (hN : len ≤ 1000) (w : World) (hx : Reads .u8 w a1 len cap1 xs) (h : errP (sigs xs) = 0) (hr : Reads .i32 w a (sigs xs).length cap (txt xs)) :
    Calls Try.prog 8 #[.slice a (sigs xs).length cap] w fun e w' => ∃ a' cap', e = .returned (.tuple #[.slice a' len cap', .int .i64 0]) ∧ Reads .u8 w' a' len cap' xs ∧ Below w.heap.size w w' := by
  have hbd : ∀ x ∈ xs, 0 ≤ x ∧ x ≤ 255 := fun x hx' => wf_u8 (hx.wf x hx')
  have hl := sigs_len xs
  have hsz := hx.size
  have he := octL_txt xs hbd h
  have hle : lenL (txt xs) = len := by unfold lenL; rw [he, hsz]
  have := utfall_Lay a (sigs xs).length cap (txt xs) w hr (by omega) (txt_sc xs hbd)
  rwa [he, hle] at this
set_option maxHeartbeats 4000000 in
set_option maxRecDepth 100000 in
theorem walk (a0 : Option Addr) (len0 cap0 : Nat) (xs0 : List Int) (a1 : Option Addr) (len1 cap1 : Nat) (xs1 : List Int) (w : World) (r0 : Reads .i32 w a0 len0 cap0 xs0) (r1 : Reads .u8 w a1 len1 cap1 xs1) :
    Calls Try.prog 5 #[.slice a0 len0 cap0, .slice a1 len1 cap1] w fun e w' => e = .returned (.bool true) ∧ Below w.heap.size w w' := by
  by_cases hN : len0 ≤ 500 ∧ len1 ≤ 1000
  · obtain ⟨hN0, hN1⟩ := hN
    have hsz := r0.size
    have hll := lenL_le xs0
    rw [hsz] at hll
    have R0 := hid r0
    have R1 := hid r1
    clear r0 r1
    cases hs : xs0.all scB
    · have HS := hid hs
      by_cases he : errP (sigs xs1) = 0
      · have HE := hid he
        clear he hs
        go_enter Try.func5, Try.ntmps5
        go_wp2_with (first
          | (go_at_call 8; (with_reducible refine (utfall_LayNo _ _ _ _ _ R0.out HS.out).mono ?_); rintro e w' ⟨rfl, rfl⟩; have hbA := Below.refl w.heap.size w; have RA := R1.out)
          | (go_at_call 14; (with_reducible refine (right_yes _ _ _ _ hN1 HE.out _ RA).mono ?_); rintro e w2 ⟨a2, c2, rfl, hr2z, hb2z⟩; have hbB := below_then hbA hb2z; have RB := R1.out.below hbB)
          | (go_at_call 8; (with_reducible refine (lay_back _ _ _ _ _ _ hN1 _ RB HE.out hr2z).mono ?_); rintro e w3 ⟨a3, c3, rfl, hr3z, hb3z⟩; have hbC := below_then hbB hb3z; have RC := R1.out.below hbC)
          | (go_at_call 10; (with_reducible refine (like5_same _ _ _ _ _ _ _ _ hr3z RC).mono ?_); rintro e w4 ⟨rfl, n4, rfl⟩; have hbD := Below.drewN hbC n4)
          | (go_at_call 7; (with_reducible refine (alive5_any _).mono ?_); rintro e w' ⟨rfl, hb⟩))
        all_goals
          go_ret
          exact ⟨rfl, below_then' hbD hb (by simp)⟩
      · have HE := hid he
        have he' : (errP (sigs xs1) == 0) = false := by simpa using he
        clear he hs
        go_enter Try.func5, Try.ntmps5
        go_wp2_with (first
          | (go_at_call 8; (with_reducible refine (utfall_LayNo _ _ _ _ _ R0.out HS.out).mono ?_); rintro e w' ⟨rfl, rfl⟩; have hbA := Below.refl w.heap.size w; have RA := R1.out)
          | (go_at_call 14; (with_reducible refine (utfall_Strict _ _ _ _ _ RA (by omega)).mono ?_); rintro e w2 ⟨a2, l2, c2, rfl, hr2, hb2⟩; have hbB := below_then hbA hb2; have RB := R1.out.below hbB)
          | (go_at_call 19; (with_reducible refine (right_no _ _ _ _ HE.out _ RB).mono ?_); rintro e w3 ⟨rfl, hb3⟩; have hbC := below_then hbB hb3)
          | (go_at_call 7; (with_reducible refine (alive5_any _).mono ?_); rintro e w' ⟨rfl, hb⟩))
        all_goals
          go_ret
          exact ⟨rfl, below_then hbC hb⟩
    · have HS := hid hs
      have HL := fun a cap => laid xs0 len0 hsz hs a cap (by omega)
      by_cases he : errP (sigs xs1) = 0
      · have HE := hid he
        clear he hs
        go_enter Try.func5, Try.ntmps5
        go_wp2_with (first
          | (go_at_call 8; (with_reducible refine (utfall_Lay _ _ _ _ _ R0.out (by omega) HS.out).mono ?_); rintro e u1 ⟨b1, c1, rfl, hr1, hb1⟩; have hR0 := R0.out.below hb1)
          | (go_at_call 14; (with_reducible refine ((HL _ _).1 _ hr1).mono ?_); rintro e u2 ⟨b2, c2, rfl, hr2, hb2⟩; have hb2' := below_then hb1 hb2; have hr1b := hr1.below hb2; have hR2 := R0.out.below hb2')
          | (go_at_call 15; (with_reducible refine (likeR5_same _ _ _ _ _ _ _ _ hr4 hR4).mono ?_); rintro e u5 ⟨rfl, n5, rfl⟩; have hb5 := Below.drewN hb4' n5; have hr1d := hr1c.below (Below.drewN (Below.refl _ _) n5))
          | (go_at_call 15; (with_reducible refine (likeR5_same _ _ _ _ _ _ _ _ hr2 hR2).mono ?_); rintro e u3 ⟨rfl, n3, rfl⟩; have hb3 := Below.drewN hb2' n3; have hr1e := hr1b.below (Below.drewN (Below.refl _ _) n3))
          | (go_at_call 16; (with_reducible refine ((HL _ _).2.1 _ hr1e).mono ?_); rintro e u4 ⟨b4, c4, rfl, hr4, hb4⟩; have hb4' := below_then' hb3 hb4 (by simp); have hr1c := hr1e.below hb4; have hR4 := R0.out.below hb4')
          | (go_at_call 17; (with_reducible refine ((HL _ _).2.2 _ hr1d).mono ?_); rintro e u6 ⟨rfl, hb6⟩; have hbA := below_then' hb5 hb6 (by simp); have hR6 := R0.out.below hbA)
          | (go_at_call 11; (with_reducible refine (utfall_Len _ _ _ _ _ hR6 (by omega)).mono ?_); rintro e w' ⟨rfl, rfl⟩; have RA := R1.out.below hbA)
          | (go_at_call 14; (with_reducible refine (right_yes _ _ _ _ hN1 HE.out _ RA).mono ?_); rintro e w2 ⟨a2, c2, rfl, hr2z, hb2z⟩; have hbB := below_then hbA hb2z; have RB := R1.out.below hbB)
          | (go_at_call 8; (with_reducible refine (lay_back _ _ _ _ _ _ hN1 _ RB HE.out hr2z).mono ?_); rintro e w3 ⟨a3, c3, rfl, hr3z, hb3z⟩; have hbC := below_then hbB hb3z; have RC := R1.out.below hbC)
          | (go_at_call 10; (with_reducible refine (like5_same _ _ _ _ _ _ _ _ hr3z RC).mono ?_); rintro e w4 ⟨rfl, n4, rfl⟩; have hbD := Below.drewN hbC n4)
          | (go_at_call 7; (with_reducible refine (alive5_any _).mono ?_); rintro e w' ⟨rfl, hb⟩))
        all_goals
          go_ret
          exact ⟨rfl, below_then' hbD hb (by simp)⟩
      · have HE := hid he
        have he' : (errP (sigs xs1) == 0) = false := by simpa using he
        clear he hs
        go_enter Try.func5, Try.ntmps5
        go_wp2_with (first
          | (go_at_call 8; (with_reducible refine (utfall_Lay _ _ _ _ _ R0.out (by omega) HS.out).mono ?_); rintro e u1 ⟨b1, c1, rfl, hr1, hb1⟩; have hR0 := R0.out.below hb1)
          | (go_at_call 14; (with_reducible refine ((HL _ _).1 _ hr1).mono ?_); rintro e u2 ⟨b2, c2, rfl, hr2, hb2⟩; have hb2' := below_then hb1 hb2; have hr1b := hr1.below hb2; have hR2 := R0.out.below hb2')
          | (go_at_call 15; (with_reducible refine (likeR5_same _ _ _ _ _ _ _ _ hr4 hR4).mono ?_); rintro e u5 ⟨rfl, n5, rfl⟩; have hb5 := Below.drewN hb4' n5; have hr1d := hr1c.below (Below.drewN (Below.refl _ _) n5))
          | (go_at_call 15; (with_reducible refine (likeR5_same _ _ _ _ _ _ _ _ hr2 hR2).mono ?_); rintro e u3 ⟨rfl, n3, rfl⟩; have hb3 := Below.drewN hb2' n3; have hr1e := hr1b.below (Below.drewN (Below.refl _ _) n3))
          | (go_at_call 16; (with_reducible refine ((HL _ _).2.1 _ hr1e).mono ?_); rintro e u4 ⟨b4, c4, rfl, hr4, hb4⟩; have hb4' := below_then' hb3 hb4 (by simp); have hr1c := hr1e.below hb4; have hR4 := R0.out.below hb4')
          | (go_at_call 17; (with_reducible refine ((HL _ _).2.2 _ hr1d).mono ?_); rintro e u6 ⟨rfl, hb6⟩; have hbA := below_then' hb5 hb6 (by simp); have hR6 := R0.out.below hbA)
          | (go_at_call 11; (with_reducible refine (utfall_Len _ _ _ _ _ hR6 (by omega)).mono ?_); rintro e w' ⟨rfl, rfl⟩; have RA := R1.out.below hbA)
          | (go_at_call 14; (with_reducible refine (utfall_Strict _ _ _ _ _ RA (by omega)).mono ?_); rintro e w2 ⟨a2, l2, c2, rfl, hr2, hb2⟩; have hbB := below_then hbA hb2; have RB := R1.out.below hbB)
          | (go_at_call 19; (with_reducible refine (right_no _ _ _ _ HE.out _ RB).mono ?_); rintro e w3 ⟨rfl, hb3⟩; have hbC := below_then hbB hb3)
          | (go_at_call 7; (with_reducible refine (alive5_any _).mono ?_); rintro e w' ⟨rfl, hb⟩))
        all_goals
          go_ret
          exact ⟨rfl, below_then hbC hb⟩
  · have hN' : 500 < len0 ∨ 1000 < len1 := by omega
    by_cases h0 : len0 ≤ 500
    · have h1 : 1000 < len1 := by omega
      clear hN hN'
      go_enter Try.func5, Try.ntmps5
      go_wp2_with (go_at_call 7; (with_reducible refine (alive5_any _).mono ?_); rintro e w' ⟨rfl, hb⟩)
      all_goals
        go_ret
        exact ⟨rfl, hb⟩
    · have h0' : 500 < len0 := by omega
      clear hN hN'
      go_enter Try.func5, Try.ntmps5
      go_wp2_with (go_at_call 7; (with_reducible refine (alive5_any _).mono ?_); rintro e w' ⟨rfl, hb⟩)
      all_goals
        go_ret
        exact ⟨rfl, hb⟩

set_option maxRecDepth 100000 in
theorem lifted (os : Os) (started : os.Started) (H : Type) (enc : TypeId × Value → H) :
    ReturnsInHanded {} Try.checked os 5 .any (Rows.utfallBackSpec.pre6 enc Try.prog Try.f5 Rows.utfallBackRow.domain false) (Rows.utfallBackSpec.post enc Try.prog Try.f5 false true false false) := by
  refine returnsInHanded_of_change (C := Try.checked) own started (by kernel_rfl) Try.func5
    (ChangeSpec.witness6 (enc := enc) (C := Try.checked) false ⟨#[], #[.slice none 0 0, .slice none 0 0], []⟩ 8 (by kernel_rfl) (by kernel_rfl) (by kernel_rfl) (by kernel_rfl)) ?_
  intro W base args ds gs before hval0 hW hcnd _
  have hval : ∀ (j : Nat) t v, Try.f5.params[j]? = some t → args[j]? = some v → Value.okWide Try.prog W .any base t v := hval0
  have hW' := hW
  obtain ⟨p, q, hA0, hV, rfl, hfz, hnd⟩ := hW
  have hA : DataW.TrodAll enc Try.prog W 0 (fun _ => true) true Try.f5.params.toList args.toList ds p := hA0
  rw [Try.params5] at hA hval
  obtain ⟨v0, vs0, d0, ds0, p0, q0, hargs, rfl, rfl, h0, r_0⟩ := trodAll_cons hA
  obtain ⟨v1, vs1, d1, ds1, p1, q1, rfl, rfl, rfl, h1, r_1⟩ := trodAll_cons r_0
  obtain ⟨rfl, rfl, rfl⟩ := trodAll_nil r_1
  obtain rfl : args = #[v0, v1] := by cases args; simp_all
  obtain ⟨rfl, rfl⟩ := trodVars_none hV
  obtain ⟨a0, len0, cap0, rfl⟩ := okWide_slice Try.underlying22 (hval 0 22 v0 rfl rfl)
  have k0 := h0
  have lt0 : ∀ x ∈ p0, x.block < W.heap.size := by obtain ⟨m, hm⟩ := k0; exact DataW.trod_lt m _ _ _ hm
  obtain ⟨xs0, r0⟩ : ∃ xs, Reads .i32 W a0 len0 cap0 xs := by
    obtain ⟨fuel, hf⟩ := h0
    rcases open_ints Try.underlying22 Try.underlying21 (by kernel_rfl) hf with ⟨hcs, _⟩ | ⟨x, l, c, zs, hcs, _, hl, hm, hz, _, hcell, hwz⟩
    · simp [Value.cells] at hcs
      obtain ⟨rfl, rfl, rfl⟩ := hcs
      exact ⟨[], Reads.nil _ _ _ _ (Nat.zero_le _)⟩
    · simp [Value.cells] at hcs
      obtain ⟨rfl, rfl, rfl⟩ := hcs
      exact ⟨_, reads_of_ints hl hm (by simpa using hz) hcell hwz⟩
  obtain ⟨a1, len1, cap1, rfl⟩ := okWide_slice Try.underlying24 (hval 1 24 v1 rfl rfl)
  have k1 := h1
  have lt1 : ∀ x ∈ p1, x.block < W.heap.size := by obtain ⟨m, hm⟩ := k1; exact DataW.trod_lt m _ _ _ hm
  obtain ⟨xs1, r1⟩ : ∃ xs, Reads .u8 W a1 len1 cap1 xs := by
    obtain ⟨fuel, hf⟩ := h1
    rcases open_ints Try.underlying24 Try.underlying5 (by kernel_rfl) hf with ⟨hcs, _⟩ | ⟨x, l, c, zs, hcs, _, hl, hm, hz, _, hcell, hwz⟩
    · simp [Value.cells] at hcs
      obtain ⟨rfl, rfl, rfl⟩ := hcs
      exact ⟨[], Reads.nil _ _ _ _ (Nat.zero_le _)⟩
    · simp [Value.cells] at hcs
      obtain ⟨rfl, rfl, rfl⟩ := hcs
      exact ⟨_, reads_of_ints hl hm (by simpa using hz) hcell hwz⟩
  clear hA0 hval0
  refine (walk a0 len0 cap0 xs0 a1 len1 cap1 xs1 W r0 r1).mono fun e W' ⟨he, bel⟩ => ?_
  subst he
  exact ⟨_, rfl, _, _, _, [], _, [], hW', trodAll_mk1 (shut_bool Try.underlying4 _), (trodAll_cons_mk (Below.trod laidOut (by kernel_rfl) (of_decide_eq_true (by kernel_rfl)) k0 bel lt0) (trodAll_cons_mk (Below.trod laidOut (by kernel_rfl) (of_decide_eq_true (by kernel_rfl)) k1 bel lt1) trodAll_mk0)), rfl, bel.frame _, fun h => by cases h⟩

theorem over : Rows.utfallBackRow.holds Try.pinned (OpenSpec.ofChange Rows.utfallBackSpec) :=
  OpenClaim.holds_of_wide 5 Try.f5 rfl rfl rfl rfl rfl rfl rfl ⟨rfl, rfl, rfl, rfl, rfl⟩ rfl rfl rfl rfl rfl (by kernel_rfl) Try.func5 (by kernel_rfl)
    (of_decide_eq_true (by kernel_rfl)) (by unfold Func.isWrapper; first | (rw [if_pos (by decide +kernel)]; kernel_rfl) | (rw [if_neg (by decide +kernel)]; exact ⟨rfl, rfl⟩))
    (fun os started H enc _ => lifted os started H enc)

end Go.Proofs.Ytjkkhfnphfgihaa.utfallBack
namespace Go.Proofs.Ytjkkhfnphfgihaa
theorem utfallBack_holds : Rows.UtfallBackSaid := utfallBack.over
#print axioms utfallBack_holds
end Go.Proofs.Ytjkkhfnphfgihaa
