/-
  Proved: for every []byte s (nil, empty, of any length and capacity), in whatever memory and on every schedule, sheavelaw33.EwreadReads(s) returns true, without a panic or a race, and its argument reads as before. No condition.
-/
import Derived.Test.YtefhddbbiheadaaGreatRows
import Derived.Test.YtefhddbbiheadaaGreatZ51
import Derived.WalkKit
import Derived.ProofKit
import Derived.OpenShut
import Derived.ShutString
import Derived.ChangeOld
import Derived.Below
namespace Go.Proofs.YtefhddbbiheadaaGreat.ewreadReads
open Go.ChangeShapes Go.WideShapes Go.ChangeAt Go.RowKit
open Go.ChangeMaps (open_string shut_string)
set_option linter.unusedVariables false

theorem own : ownKnob Tryz.prog.godebug = none := by kernel_rfl
theorem laidOut : laidOutB Tryz.prog = true := by kernel_rfl

set_option maxHeartbeats 4000000 in
set_option maxRecDepth 100000 in
theorem walk (a0 : Option Addr) (len0 cap0 : Nat) (xs0 : List Int) (w : World) (r0 : Reads .u8 w a0 len0 cap0 xs0) :
    Calls Tryz.prog 3 #[.slice a0 len0 cap0] w fun e w' => e = .returned (.bool true) ∧ Below w.heap.size w w' := by
  by_cases hN : len0 ≤ 500
  · have R := hid r0
    have F1 := hid (ewread_Read a0 len0 cap0 xs0 w r0 (by omega))
    have F2 := hid (fun W (hb : Below w.heap.size w W) => ref33_Read a0 len0 cap0 xs0 W (R.out.below hb) (by omega))
    have F3 := hid (fun W (hb : Below w.heap.size w W) => ewread_Raw a0 len0 cap0 xs0 W (R.out.below hb) (by omega))
    have F4 := hid (fun W (hb : Below w.heap.size w W) => ref33_Raw a0 len0 cap0 xs0 W (R.out.below hb) (by omega))
    clear r0
    generalize rdL xs0 = T at *
    generalize rawL xs0 = U at *
    go_enter Tryz.func3, Tryz.ntmps3
    go_wp2_with (first
      | (go_at_call 9; (with_reducible refine F1.out.mono ?_); rintro e v1 ⟨a1, l1, c1, rfl, q1, y1⟩)
      | (go_at_call 10; (with_reducible refine (F2.out _ y1).mono ?_); rintro e v2 ⟨z2, rfl, O2, h2⟩; (obtain ⟨a2, c2, rfl, q2⟩ := O2.reads); have y2 := below_then y1 h2; have q12 := q1.below h2)
      | (go_at_call 8; (with_reducible refine (like33 _ _ _ _ _ _ _ _ q12 q2).mono ?_); rintro e v3 ⟨rfl, h3⟩; have y3 := below_then y2 h3)
      | (go_at_call 11; (with_reducible refine (F3.out _ y3).mono ?_); rintro e v4 ⟨a4, l4, c4, rfl, q4, h4⟩; have y4 := below_then y3 h4)
      | (go_at_call 12; (with_reducible refine (F4.out _ y4).mono ?_); rintro e v5 ⟨z5, rfl, O5, h5⟩; (obtain ⟨a5, c5, rfl, q5⟩ := O5.reads); have y5 := below_then y4 h5; have q45 := q4.below h5)
      | (go_at_call 8; (with_reducible refine (like33 _ _ _ _ _ _ _ _ q45 q5).mono ?_); rintro e v6 ⟨rfl, h6⟩; have y6 := below_then y5 h6)
      | (go_at_call 7; (with_reducible refine (alive33_any _).mono ?_); rintro e v7 ⟨rfl, h7⟩))
    go_ret
    exact ⟨rfl, below_then y6 h7⟩
  · have hN' : 500 < len0 := by omega
    go_enter Tryz.func3, Tryz.ntmps3
    go_wp2_with (go_at_call 7; (with_reducible refine (alive33_any _).mono ?_); rintro e w' ⟨rfl, hb⟩)
    go_ret
    exact ⟨rfl, hb⟩

set_option maxRecDepth 100000 in
theorem lifted (os : Os) (started : os.Started) (H : Type) (enc : TypeId × Value → H) :
    ReturnsInHanded {} Tryz.checked os 3 .any (Rows.ewreadReadsSpec.pre6 enc Tryz.prog Tryz.f3 Rows.ewreadReadsRow.domain false) (Rows.ewreadReadsSpec.post enc Tryz.prog Tryz.f3 false true false false) := by
  refine returnsInHanded_of_change (C := Tryz.checked) own started (by kernel_rfl) Tryz.func3
    (ChangeSpec.witness6 (enc := enc) (C := Tryz.checked) false ⟨#[], #[.slice none 0 0], []⟩ 8 (by kernel_rfl) (by kernel_rfl) (by kernel_rfl) (by kernel_rfl)) ?_
  intro W base args ds gs before hval0 hW hcnd _
  have hval : ∀ (j : Nat) t v, Tryz.f3.params[j]? = some t → args[j]? = some v → Value.okWide Tryz.prog W .any base t v := hval0
  have hW' := hW
  obtain ⟨p, q, hA0, hV, rfl, hfz, hnd⟩ := hW
  have hA : DataW.TrodAll enc Tryz.prog W 0 (fun _ => true) true Tryz.f3.params.toList args.toList ds p := hA0
  rw [Tryz.params3] at hA hval
  obtain ⟨v0, vs0, d0, ds0, p0, q0, hargs, rfl, rfl, h0, r_0⟩ := trodAll_cons hA
  obtain ⟨rfl, rfl, rfl⟩ := trodAll_nil r_0
  obtain rfl : args = #[v0] := by cases args; simp_all
  obtain ⟨rfl, rfl⟩ := trodVars_none hV
  obtain ⟨a0, len0, cap0, rfl⟩ := okWide_slice Tryz.underlying22 (hval 0 22 v0 rfl rfl)
  have k0 := h0
  have lt0 : ∀ x ∈ p0, x.block < W.heap.size := by obtain ⟨m, hm⟩ := k0; exact DataW.trod_lt m _ _ _ hm
  obtain ⟨xs0, r0⟩ : ∃ xs, Reads .u8 W a0 len0 cap0 xs := by
    obtain ⟨fuel, hf⟩ := h0
    rcases open_ints Tryz.underlying22 Tryz.underlying5 (by kernel_rfl) hf with ⟨hcs, _⟩ | ⟨x, l, c, zs, hcs, _, hl, hm, hz, _, hcell, hwz⟩
    · simp [Value.cells] at hcs
      obtain ⟨rfl, rfl, rfl⟩ := hcs
      exact ⟨[], Reads.nil _ _ _ _ (Nat.zero_le _)⟩
    · simp [Value.cells] at hcs
      obtain ⟨rfl, rfl, rfl⟩ := hcs
      exact ⟨_, reads_of_ints hl hm (by simpa using hz) hcell hwz⟩
  clear hA0 hval0
  refine (walk a0 len0 cap0 xs0 W r0).mono fun e W' ⟨he, bel⟩ => ?_
  subst he
  exact ⟨_, rfl, _, _, _, [], _, [], hW', trodAll_mk1 (shut_bool Tryz.underlying4 _), (trodAll_cons_mk (Below.trod laidOut (by kernel_rfl) (of_decide_eq_true (by kernel_rfl)) k0 bel lt0) trodAll_mk0), rfl, bel.frame _, fun h => by cases h⟩

theorem over : Rows.ewreadReadsRow.holds Tryz.pinned (OpenSpec.ofChange Rows.ewreadReadsSpec) :=
  OpenClaim.holds_of_wide 3 Tryz.f3 rfl rfl rfl rfl rfl rfl rfl ⟨rfl, rfl, rfl, rfl, rfl⟩ rfl rfl rfl rfl rfl (by kernel_rfl) Tryz.func3 (by kernel_rfl)
    (of_decide_eq_true (by kernel_rfl)) (by unfold Func.isWrapper; first | (rw [if_pos (by decide +kernel)]; kernel_rfl) | (rw [if_neg (by decide +kernel)]; exact ⟨rfl, rfl⟩))
    (fun os started H enc _ => lifted os started H enc)

end Go.Proofs.YtefhddbbiheadaaGreat.ewreadReads
namespace Go.Proofs.YtefhddbbiheadaaGreat
theorem ewreadReads_holds : Rows.EwreadReadsSaid := ewreadReads.over
#print axioms ewreadReads_holds
end Go.Proofs.YtefhddbbiheadaaGreat
