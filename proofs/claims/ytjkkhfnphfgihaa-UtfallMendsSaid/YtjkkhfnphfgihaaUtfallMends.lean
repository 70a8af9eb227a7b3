/-
  Proved: for every []byte s (nil, empty, of any length and capacity), in whatever memory and on every schedule, sheavelaw05.UtfallMends(s) returns true, without a panic or a race, and its argument reads as before. No condition.
-/
import Derived.Test.YtjkkhfnphfgihaaRows
import Derived.Test.YtjkkhfnphfgihaaAlive05
import Derived.Test.YtjkkhfnphfgihaaR05
import Derived.WalkKit
import Derived.ProofKit
import Derived.OpenShut
import Derived.ShutString
import Derived.ChangeOld
import Derived.Below
namespace Go.Proofs.Ytjkkhfnphfgihaa.utfallMends
open Go.ChangeShapes Go.WideShapes Go.ChangeAt Go.RowKit
open Go.ChangeMaps (open_string shut_string)
set_option linter.unusedVariables false

theorem own : ownKnob Try.prog.godebug = none := by kernel_rfl
theorem laidOut : laidOutB Try.prog = true := by kernel_rfl
theorem like5_same (a : Option Addr) (len cap : Nat) (a2 : Option Addr) (len2 cap2 : Nat) (xs : List Int) (w : World) (hr : Reads .u8 w a len cap xs) (hr2 : Reads .u8 w a2 len2 cap2 xs) :
    Calls Try.prog 10 #[.slice a len cap, .slice a2 len2 cap2] w fun e w' => e = .returned (.bool true) ∧ ∃ n, w' = w.drewN n := by
  have := like_r a len cap xs a2 len2 cap2 xs w hr hr2
  rwa [decide_eq_true rfl] at this
theorem likeR5_same (a : Option Addr) (len cap : Nat) (a2 : Option Addr) (len2 cap2 : Nat) (xs : List Int) (w : World) (hr : Reads .i32 w a len cap xs) (hr2 : Reads .i32 w a2 len2 cap2 xs) :
    Calls Try.prog 15 #[.slice a len cap, .slice a2 len2 cap2] w fun e w' => e = .returned (.bool true) ∧ ∃ n, w' = w.drewN n := by
  have := ref03_Like a len cap xs a2 len2 cap2 xs w hr hr2
  rwa [decide_eq_true rfl] at this
/-- What is mended is read, is right, is mended to itself. -/
theorem mended (t : List Int) (hs : t.all scB = true) (a : Option Addr) (cap : Nat) (hN : lenL t < 10000000) :
    (∀ w, Reads .u8 w a (lenL t) cap (octL t) → Calls Try.prog 16 #[.slice a (lenL t) cap] w fun e w' => ∃ a' cap', e = .returned (.slice a' t.length cap') ∧ Reads .i32 w' a' t.length cap' t ∧ Below w.heap.size w w') ∧
    (∀ w, Reads .u8 w a (lenL t) cap (octL t) → Calls Try.prog 19 #[.slice a (lenL t) cap] w fun e w' => e = .returned (.bool true) ∧ Below w.heap.size w w') ∧
    (∀ w, Reads .u8 w a (lenL t) cap (octL t) → Calls Try.prog 20 #[.slice a (lenL t) cap] w fun e w' => ∃ a' cap', e = .returned (.slice a' (lenL t) cap') ∧ Reads .u8 w' a' (lenL t) cap' (octL t) ∧ Below w.heap.size w w') := by
  refine ⟨fun w hr => ?_, fun w hr => ?_, fun w hr => ?_⟩
  · have := utfall_Read a (lenL t) cap _ w hr (by omega)
    rwa [txt_laid hs, ← txt_len, txt_laid hs] at this
  · have := utfall_Right a (lenL t) cap _ w hr
    rwa [decide_eq_true (err_laid hs)] at this
  · have := utfall_Mend a (lenL t) cap _ w hr hN
    rwa [txt_laid hs] at this
set_option maxHeartbeats 4000000 in
set_option maxRecDepth 100000 in
theorem walk (a0 : Option Addr) (len0 cap0 : Nat) (xs0 : List Int) (w : World) (r0 : Reads .u8 w a0 len0 cap0 xs0) :
    Calls Try.prog 6 #[.slice a0 len0 cap0] w fun e w' => e = .returned (.bool true) ∧ Below w.heap.size w w' := by
  by_cases hN : len0 ≤ 1000
  · have hsz := r0.size
    have hsl := sigs_len xs0
    have hsp := sigs_pos xs0
    rw [hsz] at hsl hsp
    have hsc := txt_sc xs0 (fun x hx => wf_u8 (r0.wf x hx))
    have hll := lenL_le (txt xs0)
    rw [txt_len] at hll
    have hM := fun a cap => mended (txt xs0) hsc a cap (by omega)
    simp only [txt_len] at hM
    have hF : idxI (fun c => !scB c) (txt xs0) < 0 := idx_not_neg hsc
    have hp : Hid ((0 < ((sigs xs0).length : Int)) = (0 < (len0 : Int))) := by rw [Hid]; simp [hsp]
    have hpd : decide (0 < (sigs xs0).length) = decide (0 < len0) := by simp [hsp]
    have R := hid r0
    clear r0 hsp
    go_enter Try.func6, Try.ntmps6
    go_wp2_with (first
      | (go_at_call 16; (with_reducible refine ((hM _ _).1 _ hr3).mono ?_); rintro e w4 ⟨a4, c4, rfl, hr4, hb4⟩; have hb4' := below_then hb2' hb4; have hr1'' := hr1'.below hb4; have hr3' := hr3.below hb4)
      | (go_at_call 16; (with_reducible refine (utfall_Read _ _ _ _ _ R.out (by omega)).mono ?_); rintro e w1 ⟨a1, c1, rfl, hr1, hb1⟩; have R1 := R.out.below hb1)
      | (go_at_call 20; (with_reducible refine (utfall_Mend _ _ _ _ _ R1 (by omega)).mono ?_); rintro e w2 ⟨a2, c2, rfl, hr3, hb2⟩; have hb2' := below_then hb1 hb2; have hr1' := hr1.below hb2)
      | (go_at_call 21; (with_reducible refine (ref03_First _ _ _ _ _ hr1').mono ?_); rintro e w' ⟨rfl, rfl⟩)
      | (go_at_call 15; (with_reducible refine (likeR5_same _ _ _ _ _ _ _ _ hr4 hr1'').mono ?_); rintro e w5 ⟨rfl, n5, rfl⟩; have hb5 := Below.drewN hb4' n5; have hr5 := hr3'.below (Below.drewN (Below.refl _ _) n5))
      | (go_at_call 19; (with_reducible refine ((hM _ _).2.1 _ hr5).mono ?_); rintro e w6 ⟨rfl, hb6⟩; have hb6' := below_then' hb5 hb6 (by simp); have hr6 := hr5.below hb6)
      | (go_at_call 20; (with_reducible refine ((hM _ _).2.2 _ hr6).mono ?_); rintro e w7 ⟨a7, c7, rfl, hr7, hb7⟩; have hb7' := below_then hb6' hb7; have hr6' := hr6.below hb7)
      | (go_at_call 10; (with_reducible refine (like5_same _ _ _ _ _ _ _ _ hr7 hr6').mono ?_); rintro e w8 ⟨rfl, n8, rfl⟩; have hb8 := Below.drewN hb7' n8)
      | (go_at_call 7; (with_reducible refine (alive5_any _).mono ?_); rintro e w' ⟨rfl, hb⟩))
    go_ret
    exact ⟨rfl, below_then' hb8 hb (by simp)⟩
  · have hN' : 1000 < len0 := by omega
    go_enter Try.func6, Try.ntmps6
    go_wp2_with (go_at_call 7; (with_reducible refine (alive5_any _).mono ?_); rintro e w' ⟨rfl, hb⟩)
    go_ret
    exact ⟨rfl, hb⟩

set_option maxRecDepth 100000 in
theorem lifted (os : Os) (started : os.Started) (H : Type) (enc : TypeId × Value → H) :
    ReturnsInHanded {} Try.checked os 6 .any (Rows.utfallMendsSpec.pre6 enc Try.prog Try.f6 Rows.utfallMendsRow.domain false) (Rows.utfallMendsSpec.post enc Try.prog Try.f6 false true false false) := by
  refine returnsInHanded_of_change (C := Try.checked) own started (by kernel_rfl) Try.func6
    (ChangeSpec.witness6 (enc := enc) (C := Try.checked) false ⟨#[], #[.slice none 0 0], []⟩ 8 (by kernel_rfl) (by kernel_rfl) (by kernel_rfl) (by kernel_rfl)) ?_
  intro W base args ds gs before hval0 hW hcnd _
  have hval : ∀ (j : Nat) t v, Try.f6.params[j]? = some t → args[j]? = some v → Value.okWide Try.prog W .any base t v := hval0
  have hW' := hW
  obtain ⟨p, q, hA0, hV, rfl, hfz, hnd⟩ := hW
  have hA : DataW.TrodAll enc Try.prog W 0 (fun _ => true) true Try.f6.params.toList args.toList ds p := hA0
  rw [Try.params6] at hA hval
  obtain ⟨v0, vs0, d0, ds0, p0, q0, hargs, rfl, rfl, h0, r_0⟩ := trodAll_cons hA
  obtain ⟨rfl, rfl, rfl⟩ := trodAll_nil r_0
  obtain rfl : args = #[v0] := by cases args; simp_all
  obtain ⟨rfl, rfl⟩ := trodVars_none hV
  obtain ⟨a0, len0, cap0, rfl⟩ := okWide_slice Try.underlying24 (hval 0 24 v0 rfl rfl)
  have k0 := h0
  have lt0 : ∀ x ∈ p0, x.block < W.heap.size := by obtain ⟨m, hm⟩ := k0; exact DataW.trod_lt m _ _ _ hm
  obtain ⟨xs0, r0⟩ : ∃ xs, Reads .u8 W a0 len0 cap0 xs := by
    obtain ⟨fuel, hf⟩ := h0
    rcases open_ints Try.underlying24 Try.underlying5 (by kernel_rfl) hf with ⟨hcs, _⟩ | ⟨x, l, c, zs, hcs, _, hl, hm, hz, _, hcell, hwz⟩
    · simp [Value.cells] at hcs
      obtain ⟨rfl, rfl, rfl⟩ := hcs
      exact ⟨[], Reads.nil _ _ _ _ (Nat.zero_le _)⟩
    · simp [Value.cells] at hcs
      obtain ⟨rfl, rfl, rfl⟩ := hcs
      exact ⟨_, reads_of_ints hl hm (by simpa using hz) hcell hwz⟩
  clear hA0 hval0
  refine (walk a0 len0 cap0 xs0 W r0).mono fun e W' ⟨he, bel⟩ => ?_
  subst he
  exact ⟨_, rfl, _, _, _, [], _, [], hW', trodAll_mk1 (shut_bool Try.underlying4 _), (trodAll_cons_mk (Below.trod laidOut (by kernel_rfl) (of_decide_eq_true (by kernel_rfl)) k0 bel lt0) trodAll_mk0), rfl, bel.frame _, fun h => by cases h⟩

theorem over : Rows.utfallMendsRow.holds Try.pinned (OpenSpec.ofChange Rows.utfallMendsSpec) :=
  OpenClaim.holds_of_wide 6 Try.f6 rfl rfl rfl rfl rfl rfl rfl ⟨rfl, rfl, rfl, rfl, rfl⟩ rfl rfl rfl rfl rfl (by kernel_rfl) Try.func6 (by kernel_rfl)
    (of_decide_eq_true (by kernel_rfl)) (by unfold Func.isWrapper; first | (rw [if_pos (by decide +kernel)]; kernel_rfl) | (rw [if_neg (by decide +kernel)]; exact ⟨rfl, rfl⟩))
    (fun os started H enc _ => lifted os started H enc)

end Go.Proofs.Ytjkkhfnphfgihaa.utfallMends
namespace Go.Proofs.Ytjkkhfnphfgihaa
theorem utfallMends_holds : Rows.UtfallMendsSaid := utfallMends.over
#print axioms utfallMends_holds
end Go.Proofs.Ytjkkhfnphfgihaa
