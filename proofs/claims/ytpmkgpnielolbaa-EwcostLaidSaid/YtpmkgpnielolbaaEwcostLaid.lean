/-
  Proved: for every Ask (any three ints) and every []rune t (nil, empty, of any length and capacity), in whatever memory and on every schedule, sheavelaw30.EwcostLaid(a, t) returns true, without a panic or a race, and its arguments read as before. No condition.
-/
import Derived.Test.YtpmkgpnielolbaaRows
import Derived.Test.YtpmkgpnielolbaaZ31
import Derived.WalkKit
import Derived.ProofKit
import Derived.OpenShut
import Derived.ShutString
import Derived.ChangeOld
import Derived.Below
namespace Go.Proofs.Ytpmkgpnielolbaa.ewcostLaid
open Go.ChangeShapes Go.WideShapes Go.ChangeAt Go.RowKit
open Go.ChangeMaps (open_string shut_string)
set_option linter.unusedVariables false

theorem own : ownKnob Try.prog.godebug = none := by kernel_rfl
theorem laidOut : laidOutB Try.prog = true := by kernel_rfl

set_option maxHeartbeats 4000000 in
set_option maxRecDepth 100000 in
theorem walk (a0_0 a0_1 a0_2 : Int) (a1 : Option Addr) (len1 cap1 : Nat) (xs1 : List Int) (w : World) (w0_0 : (Lit.int .i64 a0_0).wf = true) (w0_1 : (Lit.int .i64 a0_1).wf = true) (w0_2 : (Lit.int .i64 a0_2).wf = true) (r1 : Reads .i32 w a1 len1 cap1 xs1) :
    Calls Try.prog 5 #[.agg #[.int .i64 a0_0, .int .i64 a0_1, .int .i64 a0_2], .slice a1 len1 cap1] w fun e w' => e = .returned (.bool true) ∧ Below w.heap.size w w' := by
  have BA := Blk.new w 23 #[.int .i64 a0_0, .int .i64 a0_1, .int .i64 a0_2]
  have tA : Below w.heap.size w (w.alloc (.cells #[.int .i64 a0_0, .int .i64 a0_1, .int .i64 a0_2] 23)) := (Below.refl _ _).alloc (Nat.le_refl _) _
  have d0 := BA.cell (i := 0) rfl
  have d1 := BA.cell (i := 1) rfl
  have d2 := BA.cell (i := 2) rfl
  by_cases hN : len1 ≤ 100
  · have HL := hid (fun W (hb : Below w.heap.size w W) => ewcost_Len a0_0 a0_1 a1 len1 cap1 xs1 W (r1.below hb) (by omega) w0_0 w0_1)
    have HF := hid (fun W (hb : Below w.heap.size w W) => ewcost_Fits a0_0 a0_1 a1 len1 cap1 xs1 a0_2 W (r1.below hb) (by omega) w0_0 w0_1 w0_2)
    by_cases hE : ewcE a0_0 a0_1 xs1 = 0
    · have HC := hid (fun W (hb : Below w.heap.size w W) => ref13_Lay a0_0 a1 len1 cap1 xs1 W (r1.below hb) (by omega))
      have hll := layL_len a0_0 xs1
      rw [r1.size] at hll
      have HW := hid (fun W b l c (h : Reads .u8 W b l c (layL a0_0 xs1)) => ref29_Lay a0_0 a0_1 b l c (layL a0_0 xs1) W h (by have := h.size; omega))
      obtain ⟨q1, q2⟩ := ewc_laid hE
      rw [hE] at HL
      by_cases hf : ewLE a0_0 a0_1 (layL a0_0 xs1) = 0
      · have HS := hid (q1 hf)
        rw [hf] at HW
        by_cases hF : ewcF a0_0 a0_1 xs1 a0_2 = true
        · have hroom := (ewcF_iff.1 hF).2.2.1
          rw [hF] at HF
          clear q1 q2 hf hF hE hll r1
          generalize ewcL a0_0 a0_1 xs1 = L at *
          generalize ewL a0_0 a0_1 (layL a0_0 xs1) = X at *
          generalize layL a0_0 xs1 = Y at *
          go_enter Try.func5, Try.ntmps5
          go_wp2_with (first
            | (go_at_call 8; (with_reducible refine (HL.out _ tA).mono ?_); rintro e w1 ⟨rfl, h1⟩; have t1 := below_then tA h1; have BA1 := BA.below h1 (by simp); have d10 := BA1.cell (i := 0) rfl)
            | (go_at_call 19; (with_reducible refine (HC.out _ t1).mono ?_); rintro e w2 ⟨b2, l2, c2, rfl, p2, h2⟩; have t2 := below_then t1 h2; have BA2 := BA1.below h2 BA1.lt; have d20 := BA2.cell (i := 0) rfl; have d21 := BA2.cell (i := 1) rfl)
            | (go_at_call 20; (with_reducible refine (HW.out _ _ _ _ p2).mono ?_); rintro e w3 ⟨b3, l3, c3, rfl, p3, h3⟩; have t3 := below_then t2 h3; have BA3 := BA2.below h3 BA2.lt; have d30 := BA3.cell (i := 0) rfl; have d31 := BA3.cell (i := 1) rfl; have d32 := BA3.cell (i := 2) rfl; (obtain rfl : L = (l3 : Int) := by have e1 := p3.size; have e2 := HS.out; rw [e1] at e2; exact e2.symm))
            | (go_at_call 15; (with_reducible refine (HF.out _ t3).mono ?_); rintro e w4 ⟨rfl, h4⟩; have t4 := below_then t3 h4; have BA4 := BA3.below h4 BA3.lt; have d42 := BA4.cell (i := 2) rfl)
            | (go_at_call 7; (with_reducible refine (alive30_any _).mono ?_); rintro e w5 ⟨rfl, h5⟩))
          go_ret
          exact ⟨rfl, below_then t4 h5⟩
        · have hF' : ewcF a0_0 a0_1 xs1 a0_2 = false := by simpa using hF
          rw [hF'] at HF
          clear q1 q2 hf hF hF' hE hll r1
          generalize ewcL a0_0 a0_1 xs1 = L at *
          generalize ewL a0_0 a0_1 (layL a0_0 xs1) = X at *
          generalize layL a0_0 xs1 = Y at *
          go_enter Try.func5, Try.ntmps5
          go_wp2_with (first
            | (go_at_call 8; (with_reducible refine (HL.out _ tA).mono ?_); rintro e w1 ⟨rfl, h1⟩; have t1 := below_then tA h1; have BA1 := BA.below h1 (by simp); have d10 := BA1.cell (i := 0) rfl)
            | (go_at_call 19; (with_reducible refine (HC.out _ t1).mono ?_); rintro e w2 ⟨b2, l2, c2, rfl, p2, h2⟩; have t2 := below_then t1 h2; have BA2 := BA1.below h2 BA1.lt; have d20 := BA2.cell (i := 0) rfl; have d21 := BA2.cell (i := 1) rfl)
            | (go_at_call 20; (with_reducible refine (HW.out _ _ _ _ p2).mono ?_); rintro e w3 ⟨b3, l3, c3, rfl, p3, h3⟩; have t3 := below_then t2 h3; have BA3 := BA2.below h3 BA2.lt; have d30 := BA3.cell (i := 0) rfl; have d31 := BA3.cell (i := 1) rfl; have d32 := BA3.cell (i := 2) rfl; (obtain rfl : L = (l3 : Int) := by have e1 := p3.size; have e2 := HS.out; rw [e1] at e2; exact e2.symm))
            | (go_at_call 15; (with_reducible refine (HF.out _ t3).mono ?_); rintro e w4 ⟨rfl, h4⟩; have t4 := below_then t3 h4)
            | (go_at_call 7; (with_reducible refine (alive30_any _).mono ?_); rintro e w5 ⟨rfl, h5⟩))
          go_ret
          exact ⟨rfl, below_then t4 h5⟩
      · have hF' : ewcF a0_0 a0_1 xs1 a0_2 = false := by
          cases hh : ewcF a0_0 a0_1 xs1 a0_2
          · rfl
          · obtain ⟨_, u1, u2, u3⟩ := ewcF_iff.1 hh
            exact absurd (q2 u1 u3) hf
        rw [hF'] at HF
        clear q1 q2 hF' hE hll r1
        generalize ewcL a0_0 a0_1 xs1 = L at *
        generalize ewL a0_0 a0_1 (layL a0_0 xs1) = X at *
        generalize ewLE a0_0 a0_1 (layL a0_0 xs1) = F at *
        generalize layL a0_0 xs1 = Y at *
        go_enter Try.func5, Try.ntmps5
        go_wp2_with (first
          | (go_at_call 8; (with_reducible refine (HL.out _ tA).mono ?_); rintro e w1 ⟨rfl, h1⟩; have t1 := below_then tA h1; have BA1 := BA.below h1 (by simp); have d10 := BA1.cell (i := 0) rfl)
          | (go_at_call 19; (with_reducible refine (HC.out _ t1).mono ?_); rintro e w2 ⟨b2, l2, c2, rfl, p2, h2⟩; have t2 := below_then t1 h2; have BA2 := BA1.below h2 BA1.lt; have d20 := BA2.cell (i := 0) rfl; have d21 := BA2.cell (i := 1) rfl)
          | (go_at_call 20; (with_reducible refine (HW.out _ _ _ _ p2).mono ?_); rintro e w3 ⟨b3, l3, c3, rfl, p3, h3⟩; have t3 := below_then t2 h3; have BA3 := BA2.below h3 BA2.lt; have d30 := BA3.cell (i := 0) rfl; have d31 := BA3.cell (i := 1) rfl; have d32 := BA3.cell (i := 2) rfl)
          | (go_at_call 15; (with_reducible refine (HF.out _ t3).mono ?_); rintro e w4 ⟨rfl, h4⟩; have t4 := below_then t3 h4)
          | (go_at_call 7; (with_reducible refine (alive30_any _).mono ?_); rintro e w5 ⟨rfl, h5⟩))
        go_ret
        exact ⟨rfl, below_then t4 h5⟩
    · obtain ⟨q1, q2⟩ := ewcL_no hE
      have q2 := q2 a0_2
      rw [q1] at HL
      rw [q2] at HF
      clear q1 q2 r1
      generalize ewcE a0_0 a0_1 xs1 = E at *
      go_enter Try.func5, Try.ntmps5
      go_wp2_with (first
        | (go_at_call 8; (with_reducible refine (HL.out _ tA).mono ?_); rintro e w1 ⟨rfl, h1⟩; have t1 := below_then tA h1; have BA1 := BA.below h1 (by simp); have d10 := BA1.cell (i := 0) rfl; have d11 := BA1.cell (i := 1) rfl; have d12 := BA1.cell (i := 2) rfl)
        | (go_at_call 15; (with_reducible refine (HF.out _ t1).mono ?_); rintro e w4 ⟨rfl, h4⟩; have t4 := below_then t1 h4)
        | (go_at_call 7; (with_reducible refine (alive30_any _).mono ?_); rintro e w5 ⟨rfl, h5⟩))
      go_ret
      exact ⟨rfl, below_then t4 h5⟩
  · have hN' : 100 < len1 := by omega
    go_enter Try.func5, Try.ntmps5
    go_wp2_with (go_at_call 7; (with_reducible refine (alive30_any _).mono ?_); rintro e w' ⟨rfl, hb⟩)
    go_ret
    exact ⟨rfl, below_then tA hb⟩

set_option maxRecDepth 100000 in
theorem lifted (os : Os) (started : os.Started) (H : Type) (enc : TypeId × Value → H) :
    ReturnsInHanded {} Try.checked os 5 .any (Rows.ewcostLaidSpec.pre6 enc Try.prog Try.f5 Rows.ewcostLaidRow.domain false) (Rows.ewcostLaidSpec.post enc Try.prog Try.f5 false true false false) := by
  refine returnsInHanded_of_change (C := Try.checked) own started (by kernel_rfl) Try.func5
    (ChangeSpec.witness6 (enc := enc) (C := Try.checked) false ⟨#[], #[.agg #[.int .i64 0, .int .i64 0, .int .i64 0], .slice none 0 0], []⟩ 8 (by kernel_rfl) (by kernel_rfl) (by kernel_rfl) (by kernel_rfl)) ?_
  intro W base args ds gs before hval0 hW hcnd _
  have hval : ∀ (j : Nat) t v, Try.f5.params[j]? = some t → args[j]? = some v → Value.okWide Try.prog W .any base t v := hval0
  have hW' := hW
  obtain ⟨p, q, hA0, hV, rfl, hfz, hnd⟩ := hW
  have hA : DataW.TrodAll enc Try.prog W 0 (fun _ => true) true Try.f5.params.toList args.toList ds p := hA0
  rw [Try.params5] at hA hval
  obtain ⟨v0, vs0, d0, ds0, p0, q0, hargs, rfl, rfl, h0, r_0⟩ := trodAll_cons hA
  obtain ⟨v1, vs1, d1, ds1, p1, q1, rfl, rfl, rfl, h1, r_1⟩ := trodAll_cons r_0
  obtain ⟨rfl, rfl, rfl⟩ := trodAll_nil r_1
  obtain rfl : args = #[v0, v1] := by cases args; simp_all
  obtain ⟨rfl, rfl⟩ := trodVars_none hV
  have k0 := h0
  have lt0 : ∀ x ∈ p0, x.block < W.heap.size := by obtain ⟨m, hm⟩ := k0; exact DataW.trod_lt m _ _ _ hm
  obtain ⟨a0_0, a0_1, a0_2, rfl, w0_0, w0_1, w0_2⟩ := open_str3 Try.underlying23 (by kernel_rfl) Try.underlying3 (by kernel_rfl) (by kernel_rfl) (hval 0 23 v0 rfl rfl) h0
  obtain ⟨a1, len1, cap1, rfl⟩ := okWide_slice Try.underlying24 (hval 1 24 v1 rfl rfl)
  have k1 := h1
  have lt1 : ∀ x ∈ p1, x.block < W.heap.size := by obtain ⟨m, hm⟩ := k1; exact DataW.trod_lt m _ _ _ hm
  obtain ⟨xs1, r1⟩ : ∃ xs, Reads .i32 W a1 len1 cap1 xs := by
    obtain ⟨fuel, hf⟩ := h1
    rcases open_ints Try.underlying24 Try.underlying21 (by kernel_rfl) hf with ⟨hcs, _⟩ | ⟨x, l, c, zs, hcs, _, hl, hm, hz, _, hcell, hwz⟩
    · simp [Value.cells] at hcs
      obtain ⟨rfl, rfl, rfl⟩ := hcs
      exact ⟨[], Reads.nil _ _ _ _ (Nat.zero_le _)⟩
    · simp [Value.cells] at hcs
      obtain ⟨rfl, rfl, rfl⟩ := hcs
      exact ⟨_, reads_of_ints hl hm (by simpa using hz) hcell hwz⟩
  clear hA0 hval0
  refine (walk a0_0 a0_1 a0_2 a1 len1 cap1 xs1 W w0_0 w0_1 w0_2 r1).mono fun e W' ⟨he, bel⟩ => ?_
  subst he
  exact ⟨_, rfl, _, _, _, [], _, [], hW', trodAll_mk1 (shut_bool Try.underlying4 _), (trodAll_cons_mk (Below.trod laidOut (by kernel_rfl) (of_decide_eq_true (by kernel_rfl)) k0 bel lt0) (trodAll_cons_mk (Below.trod laidOut (by kernel_rfl) (of_decide_eq_true (by kernel_rfl)) k1 bel lt1) trodAll_mk0)), rfl, bel.frame _, fun h => by cases h⟩

theorem over : Rows.ewcostLaidRow.holds Try.pinned (OpenSpec.ofChange Rows.ewcostLaidSpec) :=
  OpenClaim.holds_of_wide 5 Try.f5 rfl rfl rfl rfl rfl rfl rfl ⟨rfl, rfl, rfl, rfl, rfl⟩ rfl rfl rfl rfl rfl (by kernel_rfl) Try.func5 (by kernel_rfl)
    (of_decide_eq_true (by kernel_rfl)) (by unfold Func.isWrapper; first | (rw [if_pos (by decide +kernel)]; kernel_rfl) | (rw [if_neg (by decide +kernel)]; exact ⟨rfl, rfl⟩))
    (fun os started H enc _ => lifted os started H enc)

end Go.Proofs.Ytpmkgpnielolbaa.ewcostLaid
namespace Go.Proofs.Ytpmkgpnielolbaa
theorem ewcostLaid_holds : Rows.EwcostLaidSaid := ewcostLaid.over
#print axioms ewcostLaid_holds
end Go.Proofs.Ytpmkgpnielolbaa
