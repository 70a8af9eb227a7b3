/-
  Proved: for every Ask (any three ints) and every []rune t (nil, empty, of any length and capacity), in whatever memory and on every schedule, sheavelaw30.EwcostFits(a, t) returns true, without a panic or a race, and its arguments read as before. No condition.
-/
import Derived.Test.YtpmkgpnielolbaaRows
import Derived.Test.YtpmkgpnielolbaaZ31
import Derived.WalkKit
import Derived.ProofKit
import Derived.OpenShut
import Derived.ShutString
import Derived.ChangeOld
import Derived.Below
namespace Go.Proofs.Ytpmkgpnielolbaa.ewcostFits
open Go.ChangeShapes Go.WideShapes Go.ChangeAt Go.RowKit
open Go.ChangeMaps (open_string shut_string)
set_option linter.unusedVariables false

theorem own : ownKnob Try.prog.godebug = none := by kernel_rfl
theorem laidOut : laidOutB Try.prog = true := by kernel_rfl

set_option maxHeartbeats 4000000 in
set_option maxRecDepth 100000 in
theorem walk (a0_0 a0_1 a0_2 : Int) (a1 : Option Addr) (len1 cap1 : Nat) (xs1 : List Int) (w : World) (w0_0 : (Lit.int .i64 a0_0).wf = true) (w0_1 : (Lit.int .i64 a0_1).wf = true) (w0_2 : (Lit.int .i64 a0_2).wf = true) (r1 : Reads .i32 w a1 len1 cap1 xs1) :
    Calls Try.prog 4 #[.agg #[.int .i64 a0_0, .int .i64 a0_1, .int .i64 a0_2], .slice a1 len1 cap1] w fun e w' => e = .returned (.bool true) ∧ Below w.heap.size w w' := by
  have BA := Blk.new w 23 #[.int .i64 a0_0, .int .i64 a0_1, .int .i64 a0_2]
  have tA : Below w.heap.size w (w.alloc (.cells #[.int .i64 a0_0, .int .i64 a0_1, .int .i64 a0_2] 23)) := (Below.refl _ _).alloc (Nat.le_refl _) _
  by_cases hN : len1 ≤ 60
  · have HF := hid (fun W (hb : Below w.heap.size w W) => ewcost_Fits a0_0 a0_1 a1 len1 cap1 xs1 a0_2 W (r1.below hb) (by omega) w0_0 w0_1 w0_2)
    have HP := hid (fun W (hb : Below w.heap.size w W) => ewcost_Prefix a0_0 a0_1 a1 len1 cap1 xs1 a0_2 W (r1.below hb) (by omega) w0_0 w0_1 w0_2)
    have GF := hid (fun W (hb : Below w.heap.size w W) => ref30_Fits a0_0 a0_1 a1 len1 cap1 xs1 a0_2 W (r1.below hb) (by omega))
    have GP := hid (fun W (hb : Below w.heap.size w W) => ref30_Prefix a0_0 a0_1 a1 len1 cap1 xs1 a0_2 W (r1.below hb) (by omega))
    clear r1
    generalize ewcF a0_0 a0_1 xs1 a0_2 = F at *
    generalize ewcP a0_0 a0_1 xs1 a0_2 = K at *
    go_enter Try.func4, Try.ntmps4
    go_wp2_with fail
    have tD := below_drew tA
    have BD : Blk (w.alloc (.cells #[.int .i64 a0_0, .int .i64 a0_1, .int .i64 a0_2] 23)).drew w.heap.size 23 #[.int .i64 a0_0, .int .i64 a0_1, .int .i64 a0_2] := BA
    have d0 := BD.cell (i := 0) rfl
    have d1 := BD.cell (i := 1) rfl
    have d2 := BD.cell (i := 2) rfl
    have hlt : w.heap.size < (w.alloc (.cells #[.int .i64 a0_0, .int .i64 a0_1, .int .i64 a0_2] 23)).drew.heap.size := BD.lt
    go_region_held3 (fun w' => w'.cell? ⟨w.heap.size, 0, none⟩ = some (.int .i64 a0_0) ∧ w'.cell? ⟨w.heap.size, 1, none⟩ = some (.int .i64 a0_1) ∧ w'.cell? ⟨w.heap.size, 2, none⟩ = some (.int .i64 a0_2)) (first | exact ⟨d0, d1, d2⟩ | exact ⟨d10, d11, d12⟩ | exact ⟨d20, d21, d22⟩ | exact ⟨d30, d31, d32⟩ | exact ⟨d40, d41, d42⟩ | exact ⟨d50, d51, d52⟩)
      (first
      | (go_at_call 15; (with_reducible refine (HF.out _ tD).mono ?_); rintro e w1 ⟨rfl, h1⟩; have t1 := below_then tD h1; have B1 := BD.below h1 BD.lt; have d10 := B1.cell (i := 0) rfl; have d11 := B1.cell (i := 1) rfl; have d12 := B1.cell (i := 2) rfl)
      | (go_at_call 16; (with_reducible refine (GF.out _ t1).mono ?_); rintro e w2 ⟨rfl, h2⟩; have t2 := below_then t1 h2; have B2 := B1.below h2 B1.lt; have d20 := B2.cell (i := 0) rfl; have d21 := B2.cell (i := 1) rfl; have d22 := B2.cell (i := 2) rfl)
      | (go_at_call 17; (with_reducible refine (HP.out _ t2).mono ?_); rintro e w3 ⟨rfl, h3⟩; have t3 := below_then t2 h3; have B3 := B2.below h3 B2.lt; have d30 := B3.cell (i := 0) rfl; have d31 := B3.cell (i := 1) rfl; have d32 := B3.cell (i := 2) rfl)
      | (go_at_call 18; (with_reducible refine (GP.out _ t3).mono ?_); rintro e w4 ⟨rfl, h4⟩; have t4 := below_then t3 h4; have B4 := B3.below h4 B3.lt; have d40 := B4.cell (i := 0) rfl; have d41 := B4.cell (i := 1) rfl; have d42 := B4.cell (i := 2) rfl)
      | (go_at_call 7; (with_reducible refine (alive30_any _).mono ?_); rintro e w5 ⟨rfl, h5⟩; have t5 := below_then t4 h5; have B5 := B4.below h5 B4.lt; have d50 := B5.cell (i := 0) rfl; have d51 := B5.cell (i := 1) rfl; have d52 := B5.cell (i := 2) rfl))
    all_goals
      go_wp2_with fail
      go_ret
      exact ⟨rfl, t5⟩
  · have hN' : 60 < len1 := by omega
    go_enter Try.func4, Try.ntmps4
    go_wp2_with (go_at_call 7; (with_reducible refine (alive30_any _).mono ?_); rintro e w' ⟨rfl, hb⟩)
    go_ret
    exact ⟨rfl, below_then tA hb⟩

set_option maxRecDepth 100000 in
theorem lifted (os : Os) (started : os.Started) (H : Type) (enc : TypeId × Value → H) :
    ReturnsInHanded {} Try.checked os 4 .any (Rows.ewcostFitsSpec.pre6 enc Try.prog Try.f4 Rows.ewcostFitsRow.domain false) (Rows.ewcostFitsSpec.post enc Try.prog Try.f4 false true false false) := by
  refine returnsInHanded_of_change (C := Try.checked) own started (by kernel_rfl) Try.func4
    (ChangeSpec.witness6 (enc := enc) (C := Try.checked) false ⟨#[], #[.agg #[.int .i64 0, .int .i64 0, .int .i64 0], .slice none 0 0], []⟩ 8 (by kernel_rfl) (by kernel_rfl) (by kernel_rfl) (by kernel_rfl)) ?_
  intro W base args ds gs before hval0 hW hcnd _
  have hval : ∀ (j : Nat) t v, Try.f4.params[j]? = some t → args[j]? = some v → Value.okWide Try.prog W .any base t v := hval0
  have hW' := hW
  obtain ⟨p, q, hA0, hV, rfl, hfz, hnd⟩ := hW
  have hA : DataW.TrodAll enc Try.prog W 0 (fun _ => true) true Try.f4.params.toList args.toList ds p := hA0
  rw [Try.params4] at hA hval
  obtain ⟨v0, vs0, d0, ds0, p0, q0, hargs, rfl, rfl, h0, r_0⟩ := trodAll_cons hA
  obtain ⟨v1, vs1, d1, ds1, p1, q1, rfl, rfl, rfl, h1, r_1⟩ := trodAll_cons r_0
  obtain ⟨rfl, rfl, rfl⟩ := trodAll_nil r_1
  obtain rfl : args = #[v0, v1] := by cases args; simp_all
  obtain ⟨rfl, rfl⟩ := trodVars_none hV
  have k0 := h0
  have lt0 : ∀ x ∈ p0, x.block < W.heap.size := by obtain ⟨m, hm⟩ := k0; exact DataW.trod_lt m _ _ _ hm
  obtain ⟨a0_0, a0_1, a0_2, rfl, w0_0, w0_1, w0_2⟩ := open_str3 Try.underlying23 (by kernel_rfl) Try.underlying3 (by kernel_rfl) (by kernel_rfl) (hval 0 23 v0 rfl rfl) h0
  obtain ⟨a1, len1, cap1, rfl⟩ := okWide_slice Try.underlying24 (hval 1 24 v1 rfl rfl)
  have k1 := h1
  have lt1 : ∀ x ∈ p1, x.block < W.heap.size := by obtain ⟨m, hm⟩ := k1; exact DataW.trod_lt m _ _ _ hm
  obtain ⟨xs1, r1⟩ : ∃ xs, Reads .i32 W a1 len1 cap1 xs := by
    obtain ⟨fuel, hf⟩ := h1
    rcases open_ints Try.underlying24 Try.underlying21 (by kernel_rfl) hf with ⟨hcs, _⟩ | ⟨x, l, c, zs, hcs, _, hl, hm, hz, _, hcell, hwz⟩
    · simp [Value.cells] at hcs
      obtain ⟨rfl, rfl, rfl⟩ := hcs
      exact ⟨[], Reads.nil _ _ _ _ (Nat.zero_le _)⟩
    · simp [Value.cells] at hcs
      obtain ⟨rfl, rfl, rfl⟩ := hcs
      exact ⟨_, reads_of_ints hl hm (by simpa using hz) hcell hwz⟩
  clear hA0 hval0
  refine (walk a0_0 a0_1 a0_2 a1 len1 cap1 xs1 W w0_0 w0_1 w0_2 r1).mono fun e W' ⟨he, bel⟩ => ?_
  subst he
  exact ⟨_, rfl, _, _, _, [], _, [], hW', trodAll_mk1 (shut_bool Try.underlying4 _), (trodAll_cons_mk (Below.trod laidOut (by kernel_rfl) (of_decide_eq_true (by kernel_rfl)) k0 bel lt0) (trodAll_cons_mk (Below.trod laidOut (by kernel_rfl) (of_decide_eq_true (by kernel_rfl)) k1 bel lt1) trodAll_mk0)), rfl, bel.frame _, fun h => by cases h⟩

theorem over : Rows.ewcostFitsRow.holds Try.pinned (OpenSpec.ofChange Rows.ewcostFitsSpec) :=
  OpenClaim.holds_of_wide 4 Try.f4 rfl rfl rfl rfl rfl rfl rfl ⟨rfl, rfl, rfl, rfl, rfl⟩ rfl rfl rfl rfl rfl (by kernel_rfl) Try.func4 (by kernel_rfl)
    (of_decide_eq_true (by kernel_rfl)) (by unfold Func.isWrapper; first | (rw [if_pos (by decide +kernel)]; kernel_rfl) | (rw [if_neg (by decide +kernel)]; exact ⟨rfl, rfl⟩))
    (fun os started H enc _ => lifted os started H enc)

end Go.Proofs.Ytpmkgpnielolbaa.ewcostFits
namespace Go.Proofs.Ytpmkgpnielolbaa
theorem ewcostFits_holds : Rows.EwcostFitsSaid := ewcostFits.over
#print axioms ewcostFits_holds
end Go.Proofs.Ytpmkgpnielolbaa
