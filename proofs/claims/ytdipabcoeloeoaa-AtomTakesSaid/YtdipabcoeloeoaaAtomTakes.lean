/-
  Proved: for every []byte s (nil, empty, of any length and capacity) and every int at, in whatever memory and on every schedule, sheavelaw28.AtomTakes(s, at) returns true, without a panic or a race, and its arguments read as before. No condition.
-/
import Derived.Test.YtdipabcoeloeoaaRows
import Derived.Test.YtdipabcoeloeoaaAlive28
import Derived.Test.YtdipabcoeloeoaaR28
import Derived.WalkKit
import Derived.ProofKit
import Derived.OpenShut
import Derived.ShutString
import Derived.ChangeOld
import Derived.Below
namespace Go.Proofs.Ytdipabcoeloeoaa.atomTakes
open Go.ChangeShapes Go.WideShapes Go.ChangeAt Go.RowKit
open Go.ChangeMaps (open_string shut_string)
set_option linter.unusedVariables false

theorem own : ownKnob Try.prog.godebug = none := by kernel_rfl
theorem laidOut : laidOutB Try.prog = true := by kernel_rfl

set_option maxHeartbeats 4000000 in
set_option maxRecDepth 100000 in
theorem walk (a0 : Option Addr) (len0 cap0 : Nat) (xs0 : List Int) (a1 : Int) (w : World) (r0 : Reads .u8 w a0 len0 cap0 xs0) (w1 : (Lit.int .i64 a1).wf = true) :
    Calls Try.prog 4 #[.slice a0 len0 cap0, .int .i64 a1] w fun e w' => e = .returned (.bool true) ∧ Below w.heap.size w w' := by
  by_cases hN : len0 ≤ 500
  · have R := hid r0
    have hsz := r0.size
    have F1 := hid (atom_Token a0 len0 cap0 xs0 a1 w r0 (by omega) w1)
    have F2 := hid (fun W (hb : Below w.heap.size w W) => ref28_Token a0 len0 cap0 xs0 a1 W (R.out.below hb) (by omega))
    have F3 := hid (fun W (hb : Below w.heap.size w W) => atom_Value a0 len0 cap0 xs0 a1 W (R.out.below hb) (by omega) w1)
    have F4 := hid (fun W (hb : Below w.heap.size w W) => ref28_Value a0 len0 cap0 xs0 a1 W (R.out.below hb) (by omega))
    have F5 := hid (fun W (hb : Below w.heap.size w W) => atom_Lay a0 len0 cap0 xs0 W (R.out.below hb) (by omega))
    have F6 := hid (fun W (hb : Below w.heap.size w W) => ref28_Lay a0 len0 cap0 xs0 W (R.out.below hb) (by omega))
    have F7 := hid (fun W (hb : Below w.heap.size w W) => atom_Plain a0 len0 cap0 xs0 W (R.out.below hb) (by omega))
    have F8 := hid (fun W (hb : Below w.heap.size w W) => count_r a0 len0 cap0 xs0 64 W (R.out.below hb))
    have hpl := plnB_iff xs0
    rw [hsz] at hpl
    clear r0 hsz
    generalize tokA xs0 a1 = T at *
    generalize valA xs0 a1 = V at *
    generalize layA xs0 = L at *
    generalize cntI (isB 64) xs0 = K at *
    generalize plnB xs0 = Z at *
    rcases (show (len0 = 0 ∧ Z = false) ∨ (0 < len0 ∧ K = (len0 : Int) ∧ Z = true) ∨ (0 < len0 ∧ (K == (len0 : Int)) = false ∧ Z = false) by
      by_cases h0 : 0 < len0
      · by_cases hK : K = (len0 : Int)
        · exact .inr (.inl ⟨h0, hK, by rw [hpl, decide_eq_true h0, decide_eq_true hK]; rfl⟩)
        · exact .inr (.inr ⟨h0, by simpa using hK, by rw [hpl, decide_eq_true h0, decide_eq_false hK]; rfl⟩)
      · exact .inl ⟨by omega, by rw [hpl, decide_eq_false h0]; rfl⟩) with ⟨rfl, rfl⟩ | ⟨h0, rfl, rfl⟩ | ⟨h0, hK, rfl⟩
    all_goals
      clear hpl
      try (have h0' : (0 : Int) < (len0 : Int) := by omega)
      go_enter Try.func4, Try.ntmps4
      go_wp2_with (first
        | (go_at_call 14; (with_reducible refine F1.out.mono ?_); rintro e w3 ⟨b1, l1, c1, rfl, r1, h1⟩)
        | (go_at_call 15; (with_reducible refine (F2.out _ h1).mono ?_); rintro e w' ⟨b2, l2, c2, rfl, r2, rfl⟩)
        | (go_at_call 16; (with_reducible refine (like28 _ _ _ _ _ _ _ _ r1 r2).mono ?_); rintro e w4 ⟨rfl, h2⟩; have t2 := below_then h1 h2)
        | (go_at_call 17; (with_reducible refine (F3.out _ t2).mono ?_); rintro e w5 ⟨b3, l3, c3, rfl, r3, h3⟩; have t3 := below_then t2 h3)
        | (go_at_call 18; (with_reducible refine (F4.out _ t3).mono ?_); rintro e w6 ⟨b4, l4, c4, rfl, r4, h4⟩; have t4 := below_then t3 h4; have r34 := r3.below h4)
        | (go_at_call 16; (with_reducible refine (like28 _ _ _ _ _ _ _ _ r34 r4).mono ?_); rintro e w7 ⟨rfl, h5⟩; have t5 := below_then t4 h5)
        | (go_at_call 19; (with_reducible refine (F5.out _ t5).mono ?_); rintro e w8 ⟨b6, l6, c6, rfl, r6, h6⟩; have t6 := below_then t5 h6)
        | (go_at_call 20; (with_reducible refine (F6.out _ t6).mono ?_); rintro e w9 ⟨b7, l7, c7, rfl, r7, h7⟩; have t7 := below_then t6 h7; have r67 := r6.below h7)
        | (go_at_call 16; (with_reducible refine (like28 _ _ _ _ _ _ _ _ r67 r7).mono ?_); rintro e w10 ⟨rfl, h8⟩; have t8 := below_then t7 h8)
        | (go_at_call 21; (with_reducible refine (F7.out _ t8).mono ?_); rintro e w11 ⟨rfl, h9⟩; have t9 := below_then t8 h9)
        | (go_at_call 22; (with_reducible refine (F8.out _ t9).mono ?_); rintro e w' ⟨rfl, rfl⟩)
        | (go_at_call 7; (with_reducible refine (alive28_any _).mono ?_); rintro e wa ⟨rfl, ha⟩))
      go_ret
      exact ⟨rfl, below_then t9 ha⟩
  · have hN' : 500 < len0 := by omega
    go_enter Try.func4, Try.ntmps4
    go_wp2_with (go_at_call 7; (with_reducible refine (alive28_any _).mono ?_); rintro e w' ⟨rfl, hb⟩)
    go_ret
    exact ⟨rfl, hb⟩

set_option maxRecDepth 100000 in
theorem lifted (os : Os) (started : os.Started) (H : Type) (enc : TypeId × Value → H) :
    ReturnsInHanded {} Try.checked os 4 .any (Rows.atomTakesSpec.pre6 enc Try.prog Try.f4 Rows.atomTakesRow.domain false) (Rows.atomTakesSpec.post enc Try.prog Try.f4 false true false false) := by
  refine returnsInHanded_of_change (C := Try.checked) own started (by kernel_rfl) Try.func4
    (ChangeSpec.witness6 (enc := enc) (C := Try.checked) false ⟨#[], #[.slice none 0 0, .int .i64 0], []⟩ 8 (by kernel_rfl) (by kernel_rfl) (by kernel_rfl) (by kernel_rfl)) ?_
  intro W base args ds gs before hval0 hW hcnd _
  have hval : ∀ (j : Nat) t v, Try.f4.params[j]? = some t → args[j]? = some v → Value.okWide Try.prog W .any base t v := hval0
  have hW' := hW
  obtain ⟨p, q, hA0, hV, rfl, hfz, hnd⟩ := hW
  have hA : DataW.TrodAll enc Try.prog W 0 (fun _ => true) true Try.f4.params.toList args.toList ds p := hA0
  rw [Try.params4] at hA hval
  obtain ⟨v0, vs0, d0, ds0, p0, q0, hargs, rfl, rfl, h0, r_0⟩ := trodAll_cons hA
  obtain ⟨v1, vs1, d1, ds1, p1, q1, rfl, rfl, rfl, h1, r_1⟩ := trodAll_cons r_0
  obtain ⟨rfl, rfl, rfl⟩ := trodAll_nil r_1
  obtain rfl : args = #[v0, v1] := by cases args; simp_all
  obtain ⟨rfl, rfl⟩ := trodVars_none hV
  obtain ⟨a0, len0, cap0, rfl⟩ := okWide_slice Try.underlying22 (hval 0 22 v0 rfl rfl)
  have k0 := h0
  have lt0 : ∀ x ∈ p0, x.block < W.heap.size := by obtain ⟨m, hm⟩ := k0; exact DataW.trod_lt m _ _ _ hm
  obtain ⟨xs0, r0⟩ : ∃ xs, Reads .u8 W a0 len0 cap0 xs := by
    obtain ⟨fuel, hf⟩ := h0
    rcases open_ints Try.underlying22 Try.underlying5 (by kernel_rfl) hf with ⟨hcs, _⟩ | ⟨x, l, c, zs, hcs, _, hl, hm, hz, _, hcell, hwz⟩
    · simp [Value.cells] at hcs
      obtain ⟨rfl, rfl, rfl⟩ := hcs
      exact ⟨[], Reads.nil _ _ _ _ (Nat.zero_le _)⟩
    · simp [Value.cells] at hcs
      obtain ⟨rfl, rfl, rfl⟩ := hcs
      exact ⟨_, reads_of_ints hl hm (by simpa using hz) hcell hwz⟩
  obtain ⟨a1, rfl, rfl, rfl, w1⟩ := open_int Try.underlying3 (hval 1 3 v1 rfl rfl) h1
  clear hA0 hval0
  refine (walk a0 len0 cap0 xs0 a1 W r0 w1).mono fun e W' ⟨he, bel⟩ => ?_
  subst he
  exact ⟨_, rfl, _, _, _, [], _, [], hW', trodAll_mk1 (shut_bool Try.underlying4 _), (trodAll_cons_mk (Below.trod laidOut (by kernel_rfl) (of_decide_eq_true (by kernel_rfl)) k0 bel lt0) (trodAll_cons_mk (shut_int Try.underlying3 w1) trodAll_mk0)), rfl, bel.frame _, fun h => by cases h⟩

theorem over : Rows.atomTakesRow.holds Try.pinned (OpenSpec.ofChange Rows.atomTakesSpec) :=
  OpenClaim.holds_of_wide 4 Try.f4 rfl rfl rfl rfl rfl rfl rfl ⟨rfl, rfl, rfl, rfl, rfl⟩ rfl rfl rfl rfl rfl (by kernel_rfl) Try.func4 (by kernel_rfl)
    (of_decide_eq_true (by kernel_rfl)) (by unfold Func.isWrapper; first | (rw [if_pos (by decide +kernel)]; kernel_rfl) | (rw [if_neg (by decide +kernel)]; exact ⟨rfl, rfl⟩))
    (fun os started H enc _ => lifted os started H enc)

end Go.Proofs.Ytdipabcoeloeoaa.atomTakes
namespace Go.Proofs.Ytdipabcoeloeoaa
theorem atomTakes_holds : Rows.AtomTakesSaid := atomTakes.over
#print axioms atomTakes_holds
end Go.Proofs.Ytdipabcoeloeoaa
