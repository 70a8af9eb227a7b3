/-
  Proved: for every []byte s (nil, empty, of any length and capacity), in whatever memory and on every schedule, sheavelaw29.EwformReads(s) returns true, without a panic or a race, and its argument reads as before. No condition.
-/
import Derived.Test.YtplceogclmgnnaaGreatRows
import Derived.Test.YtplceogclmgnnaaGreatZ44
import Derived.WalkKit
import Derived.ProofKit
import Derived.OpenShut
import Derived.ShutString
import Derived.ChangeOld
import Derived.Below
namespace Go.Proofs.YtplceogclmgnnaaGreat.ewformReads
open Go.ChangeShapes Go.WideShapes Go.ChangeAt Go.RowKit
open Go.ChangeMaps (open_string shut_string)
set_option linter.unusedVariables false

theorem own : ownKnob Tryz.prog.godebug = none := by kernel_rfl
theorem laidOut : laidOutB Tryz.prog = true := by kernel_rfl
theorem like29_run (a : Option Addr) (len cap : Nat) (a2 : Option Addr) (len2 cap2 : Nat) (xs : List Int) (w : World) (hr : Reads .i32 w a len cap xs) (hr2 : Reads .i32 w a2 len2 cap2 xs) :
    Calls Tryz.prog 14 #[.slice a len cap, .slice a2 len2 cap2] w fun e w' => e = .returned (.bool true) ∧ Below w.heap.size w w' := by
  have := ref03_Like a len cap xs a2 len2 cap2 xs w hr hr2
  rw [decide_eq_true rfl] at this
  refine this.mono ?_
  rintro e w' ⟨rfl, n, rfl⟩
  exact ⟨rfl, Below.drewN (Below.refl _ _) n⟩
set_option maxHeartbeats 4000000 in
set_option maxRecDepth 100000 in
theorem walk (a0 : Option Addr) (len0 cap0 : Nat) (xs0 : List Int) (w : World) (r0 : Reads .u8 w a0 len0 cap0 xs0) :
    Calls Tryz.prog 4 #[.slice a0 len0 cap0] w fun e w' => e = .returned (.bool true) ∧ Below w.heap.size w w' := by
  by_cases hN : len0 ≤ 500
  · have R := hid r0
    have HA := hid (ewform_Read a0 len0 cap0 xs0 w r0 (by omega))
    have HB := hid (fun W (hb : Below w.heap.size w W) => ref29_Read a0 len0 cap0 xs0 W (r0.below hb) (by omega))
    have HC := hid (fun W (hb : Below w.heap.size w W) => ewform_Charset a0 len0 cap0 xs0 W (r0.below hb) (by omega))
    have HD := hid (fun W (hb : Below w.heap.size w W) => ref29_Charset a0 len0 cap0 xs0 W (r0.below hb) (by omega))
    have HE := hid (fun W (hb : Below w.heap.size w W) => ewform_Strict a0 len0 cap0 xs0 W (r0.below hb) (by omega))
    have HF := hid (fun W (hb : Below w.heap.size w W) => ref29_Strict a0 len0 cap0 xs0 W (r0.below hb) (by omega))
    have hle := ewR_len xs0
    rw [r0.size] at hle
    have HL := hid hle
    clear r0 hle
    generalize ewR xs0 = T at *
    generalize ewH xs0 = H at *
    generalize ewS xs0 = S at *
    generalize decide (ewE xs0 = 0) = E at *
    go_enter Tryz.func4, Tryz.ntmps4
    go_wp2_with (first
      | (go_at_call 12; (with_reducible refine HA.out.mono ?_); rintro e w1 ⟨a1, l1, c1, rfl, r1, h1⟩; have hl1 : l1 ≤ len0 := (by have := r1.size; have := HL.out; omega); have hl1i : (l1 : Int) ≤ (len0 : Int) := (by omega))
      | (go_at_call 13; (with_reducible refine (HB.out _ h1).mono ?_); rintro e w2 ⟨a2, l2, c2, rfl, r2, h2⟩; have t2 := below_then h1 h2; have r12 := r1.below h2)
      | (go_at_call 14; (with_reducible refine (like29_run _ _ _ _ _ _ _ _ r12 r2).mono ?_); rintro e w3 ⟨rfl, h3⟩; have t3 := below_then t2 h3)
      | (go_at_call 15; (with_reducible refine (HC.out _ t3).mono ?_); rintro e w4 ⟨rfl, h4⟩; have t4 := below_then t3 h4)
      | (go_at_call 16; (with_reducible refine (HD.out _ t4).mono ?_); rintro e w5 ⟨rfl, h5⟩; have t5 := below_then t4 h5)
      | (go_at_call 17; (with_reducible refine (HE.out _ t5).mono ?_); rintro e w6 ⟨rfl, h6⟩; have t6 := below_then t5 h6)
      | (go_at_call 18; (with_reducible refine (HF.out _ t6).mono ?_); rintro e w7 ⟨rfl, h7⟩; have t7 := below_then t6 h7)
      | (go_at_call 7; (with_reducible refine (alive29_any _).mono ?_); rintro e w8 ⟨rfl, h8⟩))
    go_ret
    exact ⟨rfl, below_then t7 h8⟩
  · have hN' : 500 < len0 := by omega
    go_enter Tryz.func4, Tryz.ntmps4
    go_wp2_with (go_at_call 7; (with_reducible refine (alive29_any _).mono ?_); rintro e w' ⟨rfl, hb⟩)
    go_ret
    exact ⟨rfl, hb⟩

set_option maxRecDepth 100000 in
theorem lifted (os : Os) (started : os.Started) (H : Type) (enc : TypeId × Value → H) :
    ReturnsInHanded {} Tryz.checked os 4 .any (Rows.ewformReadsSpec.pre6 enc Tryz.prog Tryz.f4 Rows.ewformReadsRow.domain false) (Rows.ewformReadsSpec.post enc Tryz.prog Tryz.f4 false true false false) := by
  refine returnsInHanded_of_change (C := Tryz.checked) own started (by kernel_rfl) Tryz.func4
    (ChangeSpec.witness6 (enc := enc) (C := Tryz.checked) false ⟨#[], #[.slice none 0 0], []⟩ 8 (by kernel_rfl) (by kernel_rfl) (by kernel_rfl) (by kernel_rfl)) ?_
  intro W base args ds gs before hval0 hW hcnd _
  have hval : ∀ (j : Nat) t v, Tryz.f4.params[j]? = some t → args[j]? = some v → Value.okWide Tryz.prog W .any base t v := hval0
  have hW' := hW
  obtain ⟨p, q, hA0, hV, rfl, hfz, hnd⟩ := hW
  have hA : DataW.TrodAll enc Tryz.prog W 0 (fun _ => true) true Tryz.f4.params.toList args.toList ds p := hA0
  rw [Tryz.params4] at hA hval
  obtain ⟨v0, vs0, d0, ds0, p0, q0, hargs, rfl, rfl, h0, r_0⟩ := trodAll_cons hA
  obtain ⟨rfl, rfl, rfl⟩ := trodAll_nil r_0
  obtain rfl : args = #[v0] := by cases args; simp_all
  obtain ⟨rfl, rfl⟩ := trodVars_none hV
  obtain ⟨a0, len0, cap0, rfl⟩ := okWide_slice Tryz.underlying22 (hval 0 22 v0 rfl rfl)
  have k0 := h0
  have lt0 : ∀ x ∈ p0, x.block < W.heap.size := by obtain ⟨m, hm⟩ := k0; exact DataW.trod_lt m _ _ _ hm
  obtain ⟨xs0, r0⟩ : ∃ xs, Reads .u8 W a0 len0 cap0 xs := by
    obtain ⟨fuel, hf⟩ := h0
    rcases open_ints Tryz.underlying22 Tryz.underlying5 (by kernel_rfl) hf with ⟨hcs, _⟩ | ⟨x, l, c, zs, hcs, _, hl, hm, hz, _, hcell, hwz⟩
    · simp [Value.cells] at hcs
      obtain ⟨rfl, rfl, rfl⟩ := hcs
      exact ⟨[], Reads.nil _ _ _ _ (Nat.zero_le _)⟩
    · simp [Value.cells] at hcs
      obtain ⟨rfl, rfl, rfl⟩ := hcs
      exact ⟨_, reads_of_ints hl hm (by simpa using hz) hcell hwz⟩
  clear hA0 hval0
  refine (walk a0 len0 cap0 xs0 W r0).mono fun e W' ⟨he, bel⟩ => ?_
  subst he
  exact ⟨_, rfl, _, _, _, [], _, [], hW', trodAll_mk1 (shut_bool Tryz.underlying4 _), (trodAll_cons_mk (Below.trod laidOut (by kernel_rfl) (of_decide_eq_true (by kernel_rfl)) k0 bel lt0) trodAll_mk0), rfl, bel.frame _, fun h => by cases h⟩

theorem over : Rows.ewformReadsRow.holds Tryz.pinned (OpenSpec.ofChange Rows.ewformReadsSpec) :=
  OpenClaim.holds_of_wide 4 Tryz.f4 rfl rfl rfl rfl rfl rfl rfl ⟨rfl, rfl, rfl, rfl, rfl⟩ rfl rfl rfl rfl rfl (by kernel_rfl) Tryz.func4 (by kernel_rfl)
    (of_decide_eq_true (by kernel_rfl)) (by unfold Func.isWrapper; first | (rw [if_pos (by decide +kernel)]; kernel_rfl) | (rw [if_neg (by decide +kernel)]; exact ⟨rfl, rfl⟩))
    (fun os started H enc _ => lifted os started H enc)

end Go.Proofs.YtplceogclmgnnaaGreat.ewformReads
namespace Go.Proofs.YtplceogclmgnnaaGreat
theorem ewformReads_holds : Rows.EwformReadsSaid := ewformReads.over
#print axioms ewformReads_holds
end Go.Proofs.YtplceogclmgnnaaGreat
