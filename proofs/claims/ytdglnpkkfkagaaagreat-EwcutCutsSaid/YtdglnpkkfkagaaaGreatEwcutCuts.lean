/-
  Proved: for every [3]int how and every []rune t (nil, empty, of any length and capacity), in whatever memory and on every schedule, sheavelaw31.EwcutCuts(how, t) returns true, without a panic or a race, and its arguments read as before. No condition.
-/
import Derived.Test.YtdglnpkkfkagaaaGreatRows
import Derived.Test.YtdglnpkkfkagaaaGreatZ47
import Derived.WalkKit
import Derived.ProofKit
import Derived.OpenShut
import Derived.ShutString
import Derived.ChangeOld
import Derived.Below
namespace Go.Proofs.YtdglnpkkfkagaaaGreat.ewcutCuts
open Go.ChangeShapes Go.WideShapes Go.ChangeAt Go.RowKit
open Go.ChangeMaps (open_string shut_string)
set_option linter.unusedVariables false

theorem own : ownKnob Tryz.prog.godebug = none := by kernel_rfl
theorem laidOut : laidOutB Tryz.prog = true := by kernel_rfl

set_option maxHeartbeats 4000000 in
set_option maxRecDepth 100000 in
theorem walk (a0_0 a0_1 a0_2 : Int) (a1 : Option Addr) (len1 cap1 : Nat) (xs1 : List Int) (w : World) (w0_0 : (Lit.int .i64 a0_0).wf = true) (w0_1 : (Lit.int .i64 a0_1).wf = true) (w0_2 : (Lit.int .i64 a0_2).wf = true) (r1 : Reads .i32 w a1 len1 cap1 xs1) :
    Calls Tryz.prog 3 #[.agg #[.int .i64 a0_0, .int .i64 a0_1, .int .i64 a0_2], .slice a1 len1 cap1] w fun e w' => e = .returned (.bool true) ∧ Below w.heap.size w w' := by
  have BA := Blk.new w 22 #[.int .i64 a0_0, .int .i64 a0_1, .int .i64 a0_2]
  have tA : Below w.heap.size w (w.alloc (.cells #[.int .i64 a0_0, .int .i64 a0_1, .int .i64 a0_2] 22)) := (Below.refl _ _).alloc (Nat.le_refl _) _
  have c0 := BA.cell (i := 0) rfl
  have c1 := BA.cell (i := 1) rfl
  have c2 := BA.cell (i := 2) rfl
  by_cases hN : len1 ≤ 80
  · have R := hid r1
    have F1 := hid (fun W (hb : Below w.heap.size w W) => ewcut_Cut a0_0 a0_1 a1 len1 cap1 xs1 a0_2 W (R.out.below hb) (by omega) w0_0 w0_1 w0_2)
    have F2 := hid (fun W (hb : Below w.heap.size w W) => ref31_Cut a0_0 a0_1 a1 len1 cap1 xs1 a0_2 W (R.out.below hb) (by omega))
    have F3 := hid (fun W (hb : Below w.heap.size w W) => ewcut_How a1 len1 cap1 xs1 W (R.out.below hb) (by omega))
    have F4 := hid (fun W (hb : Below w.heap.size w W) => ref31_How a1 len1 cap1 xs1 W (R.out.below hb) (by omega))
    have hcl := cutL_len a0_0 a0_1 xs1 a0_2
    rw [r1.size] at hcl
    clear r1
    generalize cutE a0_0 a0_1 xs1 a0_2 = E at *
    generalize ctL a0_0 a0_1 xs1 a0_2 = L at *
    generalize selN xs1 = N at *
    generalize hwC xs1 = C at *
    generalize selE xs1 = G at *
    go_enter Tryz.func3, Tryz.ntmps3
    go_wp2_with (first
      | (go_at_call 7; (with_reducible refine (F1.out _ tA).mono ?_); rintro e v1 ⟨a2, m2, k2, rfl, q1, h1⟩; have y1 := below_then tA h1; have D1 := BA.below h1 BA.lt; have c10 := D1.cell (i := 0) rfl; have c11 := D1.cell (i := 1) rfl; have c12 := D1.cell (i := 2) rfl; obtain rfl : L.length = m2 := q1.size)
      | (go_at_call 8; (with_reducible refine (F2.out _ y1).mono ?_); rintro e v2 ⟨z2, rfl, O2, h2⟩; (obtain ⟨a3, k3, rfl, q2⟩ := O2.rows); have y2 := below_then y1 h2; have q12 := q1.below h2)
      | (go_at_call 9; (with_reducible refine (F3.out _ y2).mono ?_); rintro e v3 ⟨rfl, h3⟩; have y3 := below_then y2 h3; have q13 := q12.below h3; have q23 := q2.below h3)
      | (go_at_call 10; (with_reducible refine (F4.out _ y3).mono ?_); rintro e v4 ⟨rfl, h4⟩; have y4 := below_then y3 h4; have q14 := hid (q13.below h4); have q24 := hid (q23.below h4)))
    clear c0 c1 c2 c10 c11 c12 h1 h2 h3 h4 y1 y2 y3 q1 q12 q13 q2 q23 O2
    go_loopw [81] (fun i wr => ∃ (j m : Nat), j ≤ L.length ∧ i = .int .i64 j ∧ Hid (wr = v4.drewN m)) (fun i _ => L.length - (intOf i).toNat)
    case atStart => exact ⟨0, 0, Nat.zero_le _, rfl, rfl⟩
    case round =>
      obtain ⟨j, m, hj, rfl, HW⟩ := hrel
      have hb : Below v4.heap.size v4 wr := by rw [HW.out]; exact Below.drewN (Below.refl _ _) m
      by_cases hlt : j < L.length
      · obtain ⟨b, off, x, ai, li, ci, rfl, hbw, hc, hx, hg, _⟩ := (q14.out.below hb).get1 hlt
        obtain ⟨b2, off2, x2, ai2, li2, ci2, rfl, hbw2, hc2, hx2, hg2, _⟩ := (q24.out.below hb).get1 hlt
        have hxx : x2 = x := by rw [hg] at hg2; exact (Option.some.inj hg2).symm
        subst hxx
        have HK := hid (fun q => like3_draws ai li ci ai2 li2 ci2 _ wr hx hx2 q)
        have q1 : (j : Int) < (L.length : Int) := by omega
        clear hx hx2 hg hg2
        go_wp2_with fail
        go_quiet ((go_at_call 11; exact Calls.quiet_of (HK.out _)))
        go_wp2_with fail
        go_roundw
        case rel => exact ⟨j + 1, m + nq, by omega, by go_num, by rw [Hid, HW.out]; simp⟩
        case measure => simp [intOf]; omega
      · have q1 : ¬ (j : Int) < (L.length : Int) := by omega
        go_wp2_with (go_at_call 6; (with_reducible refine (alive31_any _).mono ?_); rintro e w5 ⟨rfl, h5⟩)
        go_ret
        exact ⟨rfl, below_then (below_then y4 hb) h5⟩
  · have hN' : 80 < len1 := by omega
    go_enter Tryz.func3, Tryz.ntmps3
    go_wp2_with (go_at_call 6; (with_reducible refine (alive31_any _).mono ?_); rintro e w' ⟨rfl, hb⟩)
    go_ret
    exact ⟨rfl, below_then tA hb⟩

set_option maxRecDepth 100000 in
theorem lifted (os : Os) (started : os.Started) (H : Type) (enc : TypeId × Value → H) :
    ReturnsInHanded {} Tryz.checked os 3 .any (Rows.ewcutCutsSpec.pre6 enc Tryz.prog Tryz.f3 Rows.ewcutCutsRow.domain false) (Rows.ewcutCutsSpec.post enc Tryz.prog Tryz.f3 false true false false) := by
  refine returnsInHanded_of_change (C := Tryz.checked) own started (by kernel_rfl) Tryz.func3
    (ChangeSpec.witness6 (enc := enc) (C := Tryz.checked) false ⟨#[], #[.agg #[.int .i64 0, .int .i64 0, .int .i64 0], .slice none 0 0], []⟩ 8 (by kernel_rfl) (by kernel_rfl) (by kernel_rfl) (by kernel_rfl)) ?_
  intro W base args ds gs before hval0 hW hcnd _
  have hval : ∀ (j : Nat) t v, Tryz.f3.params[j]? = some t → args[j]? = some v → Value.okWide Tryz.prog W .any base t v := hval0
  have hW' := hW
  obtain ⟨p, q, hA0, hV, rfl, hfz, hnd⟩ := hW
  have hA : DataW.TrodAll enc Tryz.prog W 0 (fun _ => true) true Tryz.f3.params.toList args.toList ds p := hA0
  rw [Tryz.params3] at hA hval
  obtain ⟨v0, vs0, d0, ds0, p0, q0, hargs, rfl, rfl, h0, r_0⟩ := trodAll_cons hA
  obtain ⟨v1, vs1, d1, ds1, p1, q1, rfl, rfl, rfl, h1, r_1⟩ := trodAll_cons r_0
  obtain ⟨rfl, rfl, rfl⟩ := trodAll_nil r_1
  obtain rfl : args = #[v0, v1] := by cases args; simp_all
  obtain ⟨rfl, rfl⟩ := trodVars_none hV
  have k0 := h0
  have lt0 : ∀ x ∈ p0, x.block < W.heap.size := by obtain ⟨m, hm⟩ := k0; exact DataW.trod_lt m _ _ _ hm
  obtain ⟨a0_0, a0_1, a0_2, rfl, w0_0, w0_1, w0_2⟩ := open_arr3 Tryz.underlying22 Tryz.underlying3 (by kernel_rfl) (by kernel_rfl) (hval 0 22 v0 rfl rfl) h0
  obtain ⟨a1, len1, cap1, rfl⟩ := okWide_slice Tryz.underlying23 (hval 1 23 v1 rfl rfl)
  have k1 := h1
  have lt1 : ∀ x ∈ p1, x.block < W.heap.size := by obtain ⟨m, hm⟩ := k1; exact DataW.trod_lt m _ _ _ hm
  obtain ⟨xs1, r1⟩ : ∃ xs, Reads .i32 W a1 len1 cap1 xs := by
    obtain ⟨fuel, hf⟩ := h1
    rcases open_ints Tryz.underlying23 Tryz.underlying21 (by kernel_rfl) hf with ⟨hcs, _⟩ | ⟨x, l, c, zs, hcs, _, hl, hm, hz, _, hcell, hwz⟩
    · simp [Value.cells] at hcs
      obtain ⟨rfl, rfl, rfl⟩ := hcs
      exact ⟨[], Reads.nil _ _ _ _ (Nat.zero_le _)⟩
    · simp [Value.cells] at hcs
      obtain ⟨rfl, rfl, rfl⟩ := hcs
      exact ⟨_, reads_of_ints hl hm (by simpa using hz) hcell hwz⟩
  clear hA0 hval0
  refine (walk a0_0 a0_1 a0_2 a1 len1 cap1 xs1 W w0_0 w0_1 w0_2 r1).mono fun e W' ⟨he, bel⟩ => ?_
  subst he
  exact ⟨_, rfl, _, _, _, [], _, [], hW', trodAll_mk1 (shut_bool Tryz.underlying4 _), (trodAll_cons_mk (Below.trod laidOut (by kernel_rfl) (of_decide_eq_true (by kernel_rfl)) k0 bel lt0) (trodAll_cons_mk (Below.trod laidOut (by kernel_rfl) (of_decide_eq_true (by kernel_rfl)) k1 bel lt1) trodAll_mk0)), rfl, bel.frame _, fun h => by cases h⟩

theorem over : Rows.ewcutCutsRow.holds Tryz.pinned (OpenSpec.ofChange Rows.ewcutCutsSpec) :=
  OpenClaim.holds_of_wide 3 Tryz.f3 rfl rfl rfl rfl rfl rfl rfl ⟨rfl, rfl, rfl, rfl, rfl⟩ rfl rfl rfl rfl rfl (by kernel_rfl) Tryz.func3 (by kernel_rfl)
    (of_decide_eq_true (by kernel_rfl)) (by unfold Func.isWrapper; first | (rw [if_pos (by decide +kernel)]; kernel_rfl) | (rw [if_neg (by decide +kernel)]; exact ⟨rfl, rfl⟩))
    (fun os started H enc _ => lifted os started H enc)

end Go.Proofs.YtdglnpkkfkagaaaGreat.ewcutCuts
namespace Go.Proofs.YtdglnpkkfkagaaaGreat
theorem ewcutCuts_holds : Rows.EwcutCutsSaid := ewcutCuts.over
#print axioms ewcutCuts_holds
end Go.Proofs.YtdglnpkkfkagaaaGreat
