/-
  Proved: for every []byte s (nil, empty, of any length and capacity), in whatever memory and on every schedule, sheavelaw26.LinesBack(s) returns true, without a panic or a race, and its argument reads as before. No condition.
-/
import Derived.Test.YtbhmhpcabppgmaaRows
import Derived.Test.YtbhmhpcabppgmaaAlive26
import Derived.WalkKit
import Derived.ProofKit
import Derived.OpenShut
import Derived.ShutString
import Derived.ChangeOld
import Derived.Below
import Derived.HandedShaped
namespace Go.Proofs.Ytbhmhpcabppgmaa.linesBack
open Go.ChangeShapes Go.WideShapes Go.ChangeAt Go.RowKit
open Go.ChangeMaps (open_string shut_string)
set_option linter.unusedVariables false

theorem own : ownKnob Try.prog.godebug = none := by kernel_rfl
theorem laidOut : laidOutB Try.prog = true := by kernel_rfl
theorem like26 (a : Option Addr) (len cap : Nat) (a2 : Option Addr) (len2 cap2 : Nat) (xs : List Int) (w : World) (hr : Reads .u8 w a len cap xs) (hr2 : Reads .u8 w a2 len2 cap2 xs) :
    Calls Try.prog 14 #[.slice a len cap, .slice a2 len2 cap2] w fun e w' => e = .returned (.bool true) ∧ Below w.heap.size w w' := by
  have := like_r a len cap xs a2 len2 cap2 xs w hr hr2
  rw [decide_eq_true rfl] at this
  refine this.mono ?_
  rintro e w' ⟨rfl, n, rfl⟩
  exact ⟨rfl, Below.drewN (Below.refl _ _) n⟩
set_option maxHeartbeats 4000000 in
set_option maxRecDepth 100000 in
theorem walk (a0 : Option Addr) (len0 cap0 : Nat) (xs0 : List Int) (w : World) (r0 : Reads .u8 w a0 len0 cap0 xs0) (hm : Mx w) :
    Calls Try.prog 5 #[.slice a0 len0 cap0] w fun e w' => e = .returned (.bool true) ∧ Below w.heap.size w w' := by
  by_cases hN : len0 ≤ 1000
  · have R := hid r0
    have hsz := r0.size
    have hwl := whlL_len xs0
    have hjs := join_split xs0
    have hsw := split_whole xs0
    rw [hsz] at hwl
    have hlw : (whlL xs0).length ≤ 1002 := by rw [hwl.1]; split <;> omega
    have hLl := (linL_len xs0).1
    have F1 := hid (lines_Whole a0 len0 cap0 xs0 w r0 (by omega))
    have F2 := hid (fun W (hb : Below w.heap.size w W) => lines_Split a0 len0 cap0 xs0 W (R.out.below hb) (by omega) (hm.below hb))
    have F3 := hid (fun W (hb : Below w.heap.size w W) => lines_Ends a0 len0 cap0 xs0 W (R.out.below hb) (by omega))
    have F4 := hid (fun W b1 n1 c1 (h : Rws W b1 n1 c1 (linL xs0)) => by
      have := lines_Join b1 n1 c1 (linL xs0) W h (by rw [hjs]; omega) (by have := h.size; omega)
      rw [hjs] at this
      exact this)
    have F5 := hid (fun W b1 c1 (h : Reads .u8 W b1 (whlL xs0).length c1 (whlL xs0)) (hM : Mx W) => by
      have := lines_Split b1 (whlL xs0).length c1 (whlL xs0) W h (by omega) hM
      rw [hsw.1] at this
      exact this)
    have F6 := hid (fun W b1 c1 (h : Reads .u8 W b1 (whlL xs0).length c1 (whlL xs0)) => by
      have := lines_Ends b1 (whlL xs0).length c1 (whlL xs0) W h (by omega)
      rw [hsw.2] at this
      exact this)
    have HP := hid (fun W b1 c1 (h : Reads .u8 W b1 (whlL xs0).length c1 (whlL xs0)) => by
      have := h.pre (n := len0) (by rw [hwl.1]; omega)
      rwa [hwl.2] at this)
    generalize linL xs0 = L at *
    generalize whlL xs0 = V at *
    obtain ⟨m, hm⟩ : ∃ m, m = V.length := ⟨_, rfl⟩
    rw [← hm] at F5 F6 HP
    rw [← hm] at hwl
    have hmE := hwl.1
    have HM := hid hm
    clear r0 hwl hjs hsw hlw hLl hm hsz
    cases hE : linE xs0
    all_goals
      rw [hE] at F3 hmE
      simp only [Bool.false_eq_true, if_false, if_true, Nat.add_zero] at hmE
      clear hE
      subst hmE
      go_enter Try.func5, Try.ntmps5
      go_wp2_with (first
        | (go_at_call 23; (with_reducible refine F1.out.mono ?_); rintro e w1 ⟨b1, l1, c1, rfl, r1, h1⟩; obtain rfl : _ = l1 := HM.out.trans r1.size; have hrm := r1.room)
        | (go_at_call 8; (with_reducible refine (F2.out _ h1).mono ?_); rintro e w2 ⟨b2, n2, c2, rfl, r2, h2⟩; have t2 := below_then h1 h2; have r12 := r1.below h2)
        | (go_at_call 10; (with_reducible refine (F3.out _ t2).mono ?_); rintro e w3 ⟨rfl, h3⟩; have t3 := below_then t2 h3; have r13 := r12.below h3; have r23 := r2.below h3)
        | (go_at_call 15; (with_reducible refine (F4.out _ _ _ _ r23).mono ?_); rintro e w4 ⟨b4, l4, c4, rfl, r4, h4⟩; have t4 := below_then t3 h4; have r14 := r13.below h4; have r24 := r23.below h4)
        | (go_at_call 14; (with_reducible refine (like26 _ _ _ _ _ _ _ _ r4 r14).mono ?_); rintro e w5 ⟨rfl, h5⟩; have t5 := below_then t4 h5; have r15 := r14.below h5; have r25 := r24.below h5)
        | (go_at_call 8; (with_reducible refine (F5.out _ _ _ r15 (hm.below t5)).mono ?_); rintro e w6 ⟨b6, n6, c6, rfl, r6, h6⟩; have t6 := below_then t5 h6; have r16 := r15.below h6; have r26 := r25.below h6)
        | (go_at_call 7; (with_reducible refine (same26 _ _ _ _ _ _ _ _ r6 r26).mono ?_); rintro e w7 ⟨rfl, n7, rfl⟩; have t7 := Below.drewN t6 n7; have r17 := r16.below (Below.drewN (Below.refl _ _) n7))
        | (go_at_call 10; (with_reducible refine (F6.out _ _ _ r17).mono ?_); rintro e w8 ⟨rfl, h8⟩; have t8 := below_then t7 h8; have r18 := HP.out _ _ _ (r17.below h8); have r08 := R.out.below t8)
        | (go_at_call 14; (with_reducible refine (like26 _ _ _ _ _ _ _ _ r18 r08).mono ?_); rintro e w9 ⟨rfl, h9⟩; have t9 := below_then t8 h9)
        | (go_at_call 6; (with_reducible refine (alive26_any _ (hm.below t9)).mono ?_); rintro e wa ⟨rfl, ha⟩))
      go_ret
      exact ⟨rfl, below_then t9 ha⟩
  · have hN' : 1000 < len0 := by omega
    go_enter Try.func5, Try.ntmps5
    go_wp2_with (go_at_call 6; (with_reducible refine (alive26_any _ hm).mono ?_); rintro e w' ⟨rfl, hb⟩)
    go_ret
    exact ⟨rfl, hb⟩

set_option maxRecDepth 100000 in
theorem lifted (os : Os) (started : os.Started) (H : Type) (enc : TypeId × Value → H) :
    ReturnsInHanded {} Try.checked os 5 .any (Rows.linesBackSpec.pre6 enc Try.prog Try.f5 Rows.linesBackRow.domain false) (Rows.linesBackSpec.post enc Try.prog Try.f5 false true false false) := by
  refine returnsInHanded_of_change_shaped (C := Try.checked) own started (by kernel_rfl) Try.func5
    (ChangeSpec.witness6 (enc := enc) (C := Try.checked) false ⟨#[], #[.slice none 0 0], []⟩ 8 (by kernel_rfl) (by kernel_rfl) (by kernel_rfl) (by kernel_rfl)) ?_
  intro W base args ds gs before hval0 hW hcnd _ hsh _
  have hval : ∀ (j : Nat) t v, Try.f5.params[j]? = some t → args[j]? = some v → Value.okWide Try.prog W .any base t v := hval0
  have hW' := hW
  obtain ⟨p, q, hA0, hV, rfl, hfz, hnd⟩ := hW
  have hA : DataW.TrodAll enc Try.prog W 0 (fun _ => true) true Try.f5.params.toList args.toList ds p := hA0
  rw [Try.params5] at hA hval
  obtain ⟨v0, vs0, d0, ds0, p0, q0, hargs, rfl, rfl, h0, r_0⟩ := trodAll_cons hA
  obtain ⟨rfl, rfl, rfl⟩ := trodAll_nil r_0
  obtain rfl : args = #[v0] := by cases args; simp_all
  obtain ⟨rfl, rfl⟩ := trodVars_none hV
  obtain ⟨a0, len0, cap0, rfl⟩ := okWide_slice Try.underlying22 (hval 0 22 v0 rfl rfl)
  have k0 := h0
  have lt0 : ∀ x ∈ p0, x.block < W.heap.size := by obtain ⟨m, hm⟩ := k0; exact DataW.trod_lt m _ _ _ hm
  obtain ⟨xs0, r0⟩ : ∃ xs, Reads .u8 W a0 len0 cap0 xs := by
    obtain ⟨fuel, hf⟩ := h0
    rcases open_ints Try.underlying22 Try.underlying5 (by kernel_rfl) hf with ⟨hcs, _⟩ | ⟨x, l, c, zs, hcs, _, hl, hm, hz, _, hcell, hwz⟩
    · simp [Value.cells] at hcs
      obtain ⟨rfl, rfl, rfl⟩ := hcs
      exact ⟨[], Reads.nil _ _ _ _ (Nat.zero_le _)⟩
    · simp [Value.cells] at hcs
      obtain ⟨rfl, rfl, rfl⟩ := hcs
      exact ⟨_, reads_of_ints hl hm (by simpa using hz) hcell hwz⟩
  clear hA0 hval0
  refine (walk a0 len0 cap0 xs0 W r0 (Mx.shaped hsh)).mono fun e W' ⟨he, bel⟩ => ?_
  subst he
  exact ⟨_, rfl, _, _, _, [], _, [], hW', trodAll_mk1 (shut_bool Try.underlying4 _), (trodAll_cons_mk (Below.trod laidOut (by kernel_rfl) (of_decide_eq_true (by kernel_rfl)) k0 bel lt0) trodAll_mk0), rfl, bel.frame _, fun h => by cases h⟩

theorem over : Rows.linesBackRow.holds Try.pinned (OpenSpec.ofChange Rows.linesBackSpec) :=
  OpenClaim.holds_of_wide 5 Try.f5 rfl rfl rfl rfl rfl rfl rfl ⟨rfl, rfl, rfl, rfl, rfl⟩ rfl rfl rfl rfl rfl (by kernel_rfl) Try.func5 (by kernel_rfl)
    (of_decide_eq_true (by kernel_rfl)) (by unfold Func.isWrapper; first | (rw [if_pos (by decide +kernel)]; kernel_rfl) | (rw [if_neg (by decide +kernel)]; exact ⟨rfl, rfl⟩))
    (fun os started H enc _ => lifted os started H enc)

end Go.Proofs.Ytbhmhpcabppgmaa.linesBack
namespace Go.Proofs.Ytbhmhpcabppgmaa
theorem linesBack_holds : Rows.LinesBackSaid := linesBack.over
#print axioms linesBack_holds
end Go.Proofs.Ytbhmhpcabppgmaa
