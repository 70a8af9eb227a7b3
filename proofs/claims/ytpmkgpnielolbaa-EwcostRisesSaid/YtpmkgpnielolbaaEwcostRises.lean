/-
  Proved: for every Ask (any three ints) and every []rune t (nil, empty, of any length and capacity), in whatever memory and on every schedule, sheavelaw30.EwcostRises(a, t) returns true, without a panic or a race, and its arguments read as before. No condition.
-/
import Derived.Test.YtpmkgpnielolbaaRows
import Derived.Test.YtpmkgpnielolbaaZ31
import Derived.WalkKit
import Derived.ProofKit
import Derived.OpenShut
import Derived.ShutString
import Derived.ChangeOld
import Derived.Below
namespace Go.Proofs.Ytpmkgpnielolbaa.ewcostRises
open Go.ChangeShapes Go.WideShapes Go.ChangeAt Go.RowKit
open Go.ChangeMaps (open_string shut_string)
set_option linter.unusedVariables false

theorem own : ownKnob Try.prog.godebug = none := by kernel_rfl
theorem laidOut : laidOutB Try.prog = true := by kernel_rfl
theorem ewc_rise {n k : Int} {t : List Int} (j : Nat) (h : ewcE n k (t.take (j + 1 + 1)) = 0) : ewcL n k (t.take (j + 1)) ≤ ewcL n k (t.take (j + 1 + 1)) := by
  have := ewcL_mono h (j + 1)
  rwa [List.take_take, Nat.min_eq_left (by omega)] at this
set_option maxHeartbeats 4000000 in
set_option maxRecDepth 100000 in
theorem walk (a0_0 a0_1 a0_2 : Int) (a1 : Option Addr) (len1 cap1 : Nat) (xs1 : List Int) (w : World) (w0_0 : (Lit.int .i64 a0_0).wf = true) (w0_1 : (Lit.int .i64 a0_1).wf = true) (w0_2 : (Lit.int .i64 a0_2).wf = true) (r1 : Reads .i32 w a1 len1 cap1 xs1) :
    Calls Try.prog 6 #[.agg #[.int .i64 a0_0, .int .i64 a0_1, .int .i64 a0_2], .slice a1 len1 cap1] w fun e w' => e = .returned (.bool true) ∧ Below w.heap.size w w' := by
  have BA := Blk.new w 23 #[.int .i64 a0_0, .int .i64 a0_1, .int .i64 a0_2]
  have tA : Below w.heap.size w (w.alloc (.cells #[.int .i64 a0_0, .int .i64 a0_1, .int .i64 a0_2] 23)) := (Below.refl _ _).alloc (Nat.le_refl _) _
  by_cases hN : len1 ≤ 60
  · have R := hid r1
    have hsz := hid r1.size
    have hcap := r1.room
    clear r1
    go_enter Try.func6, Try.ntmps6
    go_upto_block 0 with fail
    generalize hW0 : w.alloc (.cells #[.int .i64 a0_0, .int .i64 a0_1, .int .i64 a0_2] 23) = W0 at *
    have hlt0 := BA.lt
    clear hW0
    go_cut [] (fun wx => Below W0.heap.size W0 wx)
    case first =>
      go_wp2_with fail
      go_loopw [16, 5] (fun i l wr => ∃ (j : Nat) (m : Int), j ≤ len1 ∧ i = .int .i64 j ∧ l = .int .i64 m ∧ Hid (ewcE a0_0 a0_1 (xs1.take (j + 1)) = 0 → m ≤ ewcL a0_0 a0_1 (xs1.take (j + 1))) ∧ Below W0.heap.size W0 wr) (fun i _ _ => len1 - (intOf i).toNat)
      case atStart => exact ⟨0, 0, Nat.zero_le _, rfl, rfl, fun _ => (ewcL_bd _ _ _).1, Below.refl _ _⟩
      case round =>
        obtain ⟨j, m, hj, rfl, rfl, hf, hbel⟩ := hrel
        by_cases hlt : j < len1
        · have tD := below_drew (below_then tA hbel)
          have BD : Blk wr.drew w.heap.size 23 #[.int .i64 a0_0, .int .i64 a0_1, .int .i64 a0_2] := by have := BA.below hbel hlt0; exact this
          have d0 := BD.cell (i := 0) rfl
          have d1 := BD.cell (i := 1) rfl
          have hp := (R.out.below tD).pre (n := j + 1) (by omega)
          have HL := hid (ewcost_Len a0_0 a0_1 a1 (j + 1) cap1 (xs1.take (j + 1)) wr.drew hp (by omega) w0_0 w0_1)
          have hnx := hid (fun h => ewc_rise (n := a0_0) (k := a0_1) (t := xs1) j h)
          have q0 : IntKind.i64.wrap ((j : Int) + 1) = (j : Int) + 1 := IntWalk.i64_in _ (by omega)
          have q1 : (0 : Int) ≤ (j : Int) + 1 := by omega
          have q2 : (j : Int) + 1 ≤ (cap1 : Int) := by omega
          have q4 : ((j : Int) + 1).toNat = j + 1 := by omega
          clear hp
          by_cases hE : ewcE a0_0 a0_1 (xs1.take (j + 1)) = 0
          · rw [hE] at HL
            have hge := hf.out hE
            clear hf hE
            generalize ewcL a0_0 a0_1 (xs1.take (j + 1)) = L at *
            go_wp2_with fail
            go_region_held3 (fun w' => w'.cell? ⟨w.heap.size, 0, none⟩ = some (.int .i64 a0_0) ∧ w'.cell? ⟨w.heap.size, 1, none⟩ = some (.int .i64 a0_1)) (first | exact ⟨d0, d1⟩ | exact ⟨d10, d11⟩)
              ((go_at_call 8; (with_reducible refine HL.out.mono ?_); rintro e w1 ⟨rfl, h1⟩; have t1 := below_drew hbel; have t2 := t1.trans (h1.mono t1.size); have B1 := BD.below h1 BD.lt; have d10 := B1.cell (i := 0) rfl; have d11 := B1.cell (i := 1) rfl))
            all_goals
              go_wp2_with fail
              go_roundw
              case rel => exact ⟨j + 1, L, by omega, by go_num, rfl, hnx, t2⟩
              case measure => simp [intOf]; omega
          · generalize ewcE a0_0 a0_1 (xs1.take (j + 1)) = E at *
            clear hf hnx
            go_wp2_with fail
            go_region_held3 (fun w' => w'.cell? ⟨w.heap.size, 0, none⟩ = some (.int .i64 a0_0) ∧ w'.cell? ⟨w.heap.size, 1, none⟩ = some (.int .i64 a0_1)) (first | exact ⟨d0, d1⟩ | exact ⟨d10, d11⟩)
              ((go_at_call 8; (with_reducible refine HL.out.mono ?_); rintro e w1 ⟨rfl, h1⟩; have t1 := below_drew hbel; have t2 := t1.trans (h1.mono t1.size); have B1 := BD.below h1 BD.lt; have d10 := B1.cell (i := 0) rfl; have d11 := B1.cell (i := 1) rfl))
            all_goals
              go_wp2_with fail
              go_meet
              exact t2
        · obtain rfl : j = len1 := by omega
          go_wp2_with fail
          go_meet
          exact hbel
    case rest =>
      obtain ⟨K, hK⟩ : ∃ K, K = ewcP a0_0 a0_1 xs1 a0_2 := ⟨_, rfl⟩
      have hKle : K ≤ len1 := by have := ewcP_le a0_0 a0_1 xs1 a0_2; have := hsz.out; omega
      have HP := hid (fun W (hb : Below w.heap.size w W) => ewcost_Prefix a0_0 a0_1 a1 len1 cap1 xs1 a0_2 W (R.out.below hb) (by omega) w0_0 w0_1 w0_2)
      rw [← hK] at HP
      have HF0 : 0 < K → ∀ W, Below w.heap.size w W → Calls Try.prog 15 #[.int .i64 a0_0, .int .i64 a0_1, .slice a1 K cap1, .int .i64 a0_2] W fun e w' => e = .returned (.bool true) ∧ Below W.heap.size W w' := by
        intro hp W hb
        have := ewcost_Fits a0_0 a0_1 a1 K cap1 (xs1.take K) a0_2 W ((R.out.below hb).pre (n := K) hKle) (by omega) w0_0 w0_1 w0_2
        rwa [hK, ewcP_ok (by omega), ← hK] at this
      have HF1 : K < len1 → ∀ W, Below w.heap.size w W → Calls Try.prog 15 #[.int .i64 a0_0, .int .i64 a0_1, .slice a1 (K + 1) cap1, .int .i64 a0_2] W fun e w' => e = .returned (.bool false) ∧ Below W.heap.size W w' := by
        intro hp W hb
        have := ewcost_Fits a0_0 a0_1 a1 (K + 1) cap1 (xs1.take (K + 1)) a0_2 W ((R.out.below hb).pre (n := K + 1) (by omega)) (by omega) w0_0 w0_1 w0_2
        rwa [hK, ewcP_no (by have := hsz.out; omega), ← hK] at this
      have F0 := hid HF0
      have F1 := hid HF1
      clear hK HF0 HF1 hsz
      have hc := hid (below_then tA hcut)
      have Bc := BA.below hcut hlt0
      have c0 := Bc.cell (i := 0) rfl
      have c1 := Bc.cell (i := 1) rfl
      have c2 := Bc.cell (i := 2) rfl
      clear hcut
      go_wp2_with (go_at_call 17; (with_reducible refine (HP.out _ hc.out).mono ?_); rintro e w1 ⟨rfl, h1⟩; have t1 := below_then hc.out h1; have B1 := Bc.below h1 Bc.lt)
      clear c0 c1 c2 Bc h1
      have tD := below_drew t1
      have BD : Blk w1.drew w.heap.size 23 #[.int .i64 a0_0, .int .i64 a0_1, .int .i64 a0_2] := B1
      have d0 := BD.cell (i := 0) rfl
      have d1 := BD.cell (i := 1) rfl
      have d2 := BD.cell (i := 2) rfl
      have z0 : decide ((K : Int) < 0) = false := decide_eq_false (by omega)
      have z1 : decide ((K : Int) > (len1 : Int)) = false := decide_eq_false (by omega)
      have z3 : decide ((len1 : Int) < (K : Int)) = false := decide_eq_false (by omega)
      have z4 : ¬ (len1 : Int) < (K : Int) := by omega
      have y0 : (0 : Int) ≤ (K : Int) := by omega
      have y1 : (K : Int) ≤ (cap1 : Int) := by omega
      go_cut [70] (fun s wx => s = .bool false ∧ Below w.heap.size w wx ∧ Blk wx w.heap.size 23 #[.int .i64 a0_0, .int .i64 a0_1, .int .i64 a0_2])
      case first =>
        by_cases hp : 0 < K
        · have G := hid (F0.out hp)
          have z2 : decide ((K : Int) > 0) = true := decide_eq_true (by omega)
          have z6 : decide (0 < K) = true := decide_eq_true hp
          have hp' : 0 < K := hp
          clear hp z2
          go_region_held3 (fun w' => w'.cell? ⟨w.heap.size, 0, none⟩ = some (.int .i64 a0_0) ∧ w'.cell? ⟨w.heap.size, 1, none⟩ = some (.int .i64 a0_1) ∧ w'.cell? ⟨w.heap.size, 2, none⟩ = some (.int .i64 a0_2)) (first | exact ⟨d0, d1, d2⟩ | exact ⟨d10, d11, d12⟩)
            ((go_at_call 15; (with_reducible refine (G.out _ tD).mono ?_); rintro e w2 ⟨rfl, h2⟩; have t2 := below_then tD h2; have B2 := BD.below h2 BD.lt; have d10 := B2.cell (i := 0) rfl; have d11 := B2.cell (i := 1) rfl; have d12 := B2.cell (i := 2) rfl))
          all_goals
            go_wp2_with fail
            go_meet
            exact ⟨rfl, t2, B2⟩
        · have z2 : decide ((K : Int) > 0) = false := decide_eq_false (by omega)
          obtain rfl : K = 0 := by omega
          rw [show ((0 : Nat) : Int) = 0 from rfl]
          clear z0 z1 z2 z3 z4 y0 y1 hp F0 F1
          have z3 : decide ((len1 : Int) < 0) = false := decide_eq_false (by omega)
          have z4 : ¬ (len1 : Int) < 0 := by omega
          go_quiet (fail)
          go_wp2_with fail
          go_meet
          exact ⟨rfl, Below.drewN t1 _, B1.drewN _⟩
      case rest =>
        obtain ⟨rfl, t2, B2⟩ := hcut
        clear d0 d1 d2 z0 z1 z3 z4 BD tD B1 t1
        go_wp2_with fail
        have tD := below_drew t2
        have BD : Blk wc.drew w.heap.size 23 #[.int .i64 a0_0, .int .i64 a0_1, .int .i64 a0_2] := B2
        have d0 := BD.cell (i := 0) rfl
        have d1 := BD.cell (i := 1) rfl
        have d2 := BD.cell (i := 2) rfl
        by_cases hq : K < len1
        · have G := hid (F1.out hq)
          have z1 : ((K : Int) == (len1 : Int)) = false := beq_eq_false_iff_ne.2 (by omega)
          have z2 : (K == len1) = false := beq_eq_false_iff_ne.2 (by omega)
          have z3 : ¬ K = len1 := by omega
          have z4 : ¬ (K : Int) = (len1 : Int) := by omega
          have q0 : IntKind.i64.wrap ((K : Int) + 1) = (K : Int) + 1 := IntWalk.i64_in _ (by omega)
          have q1 : (0 : Int) ≤ (K : Int) + 1 := by omega
          have q2 : (K : Int) + 1 ≤ (cap1 : Int) := by omega
          have q4 : ((K : Int) + 1).toNat = K + 1 := by omega
          clear hq
          go_region_held3 (fun w' => w'.cell? ⟨w.heap.size, 0, none⟩ = some (.int .i64 a0_0) ∧ w'.cell? ⟨w.heap.size, 1, none⟩ = some (.int .i64 a0_1) ∧ w'.cell? ⟨w.heap.size, 2, none⟩ = some (.int .i64 a0_2)) (first | exact ⟨d0, d1, d2⟩ | exact ⟨d10, d11, d12⟩ | exact ⟨d20, d21, d22⟩)
            (first
            | (go_at_call 15; (with_reducible refine (G.out _ tD).mono ?_); rintro e w3 ⟨rfl, h3⟩; have t3 := below_then tD h3; have B3 := BD.below h3 BD.lt; have d10 := B3.cell (i := 0) rfl; have d11 := B3.cell (i := 1) rfl; have d12 := B3.cell (i := 2) rfl)
            | (go_at_call 7; (with_reducible refine (alive30_any _).mono ?_); rintro e w4 ⟨rfl, h4⟩; have t4 := below_then t3 h4; have B4 := B3.below h4 B3.lt; have d20 := B4.cell (i := 0) rfl; have d21 := B4.cell (i := 1) rfl; have d22 := B4.cell (i := 2) rfl))
          all_goals
            go_wp2_with fail
            go_ret
            exact ⟨rfl, t4⟩
        · obtain rfl : K = len1 := by omega
          clear F0 F1 HP hq
          refine wp_region_held_drew (S := fun _ => True) (by kernel_rfl) trivial (fun hHeld => ?_)
          refine wpAnyH_take (i := 0) (v := .int .i64 K) rfl (by kernel_rfl) (by kernel_rfl) (by kernel_rfl) (fun _ _ _ h => h) (Or.inl ⟨by rfl, fun w' hSw => by go_simp⟩) (by assumption) ?_
          try simp only [Act.put, List.getElem_toArray, List.getElem_cons_zero, List.setIfInBounds_toArray, List.set_cons_zero, List.set_cons_succ]
          refine wpAnyH_take (i := 1) (v := .slice a1 K cap1) rfl (by kernel_rfl) (by kernel_rfl) (by kernel_rfl) (fun _ _ _ h => h) (Or.inl ⟨by rfl, fun w' hSw => by go_simp⟩) (by assumption) ?_
          try simp only [Act.put, List.getElem_toArray, List.getElem_cons_succ, List.getElem_cons_zero, List.setIfInBounds_toArray, List.set_cons_zero, List.set_cons_succ]
          refine wpAnyH_take (i := 2) (v := .int .i64 K) rfl (by kernel_rfl) (by kernel_rfl) (by kernel_rfl) (fun _ _ _ h => h) (Or.inl ⟨by rfl, fun w' hSw => by go_simp⟩) (by assumption) ?_
          try simp only [Act.put, List.getElem_toArray, List.getElem_cons_succ, List.getElem_cons_zero, List.setIfInBounds_toArray, List.set_cons_zero, List.set_cons_succ]
          refine wpAnyH_take (i := 3) (v := .bool true) rfl (by kernel_rfl) (by kernel_rfl) (by kernel_rfl) (fun _ _ _ h => h) (Or.inl ⟨by rfl, fun w' hSw => by go_simp⟩) (by assumption) ?_
          try simp only [Act.put, List.getElem_toArray, List.getElem_cons_succ, List.getElem_cons_zero, List.setIfInBounds_toArray, List.set_cons_zero, List.set_cons_succ]
          refine wpAnyH_take (i := 4) (v := .bool true) rfl (by kernel_rfl) (by kernel_rfl) (by kernel_rfl) (fun _ _ _ h => h) (Or.inl ⟨by rfl, fun w' hSw => by go_simp⟩) (by assumption) ?_
          try simp only [Act.put, List.getElem_toArray, List.getElem_cons_succ, List.getElem_cons_zero, List.setIfInBounds_toArray, List.set_cons_zero, List.set_cons_succ]
          refine wpAnyH_take (i := 5) (v := undef) rfl (by kernel_rfl) (by kernel_rfl) (by kernel_rfl) (fun _ _ _ h => h) (Or.inr ⟨by rfl, rfl⟩) (by assumption) ?_
          try simp only [Act.put, List.getElem_toArray, List.getElem_cons_succ, List.getElem_cons_zero, List.setIfInBounds_toArray, List.set_cons_zero, List.set_cons_succ]
          refine wpAnyH_take (i := 6) (v := undef) rfl (by kernel_rfl) (by kernel_rfl) (by kernel_rfl) (fun _ _ _ h => h) (Or.inr ⟨by rfl, rfl⟩) (by assumption) ?_
          try simp only [Act.put, List.getElem_toArray, List.getElem_cons_succ, List.getElem_cons_zero, List.setIfInBounds_toArray, List.set_cons_zero, List.set_cons_succ]
          refine wpAnyH_take (i := 7) (v := undef) rfl (by kernel_rfl) (by kernel_rfl) (by kernel_rfl) (fun _ _ _ h => h) (Or.inr ⟨by rfl, rfl⟩) (by assumption) ?_
          try simp only [Act.put, List.getElem_toArray, List.getElem_cons_succ, List.getElem_cons_zero, List.setIfInBounds_toArray, List.set_cons_zero, List.set_cons_succ]
          refine wpAnyH_take (i := 8) (v := undef) rfl (by kernel_rfl) (by kernel_rfl) (by kernel_rfl) (fun _ _ _ h => h) (Or.inr ⟨by rfl, rfl⟩) (by assumption) ?_
          try simp only [Act.put, List.getElem_toArray, List.getElem_cons_succ, List.getElem_cons_zero, List.setIfInBounds_toArray, List.set_cons_zero, List.set_cons_succ]
          refine wpAnyH_take (i := 9) (v := undef) rfl (by kernel_rfl) (by kernel_rfl) (by kernel_rfl) (fun _ _ _ h => h) (Or.inr ⟨by rfl, rfl⟩) (by assumption) ?_
          try simp only [Act.put, List.getElem_toArray, List.getElem_cons_succ, List.getElem_cons_zero, List.setIfInBounds_toArray, List.set_cons_zero, List.set_cons_succ]
          refine wpAnyH_take (i := 10) (v := undef) rfl (by kernel_rfl) (by kernel_rfl) (by kernel_rfl) (fun _ _ _ h => h) (Or.inr ⟨by rfl, rfl⟩) (by assumption) ?_
          try simp only [Act.put, List.getElem_toArray, List.getElem_cons_succ, List.getElem_cons_zero, List.setIfInBounds_toArray, List.set_cons_zero, List.set_cons_succ]
          refine wpAnyH_take (i := 11) (v := undef) rfl (by kernel_rfl) (by kernel_rfl) (by kernel_rfl) (fun _ _ _ h => h) (Or.inr ⟨by rfl, rfl⟩) (by assumption) ?_
          try simp only [Act.put, List.getElem_toArray, List.getElem_cons_succ, List.getElem_cons_zero, List.setIfInBounds_toArray, List.set_cons_zero, List.set_cons_succ]
          refine wpAnyH_take (i := 12) (v := undef) rfl (by kernel_rfl) (by kernel_rfl) (by kernel_rfl) (fun _ _ _ h => h) (Or.inr ⟨by rfl, rfl⟩) (by assumption) ?_
          try simp only [Act.put, List.getElem_toArray, List.getElem_cons_succ, List.getElem_cons_zero, List.setIfInBounds_toArray, List.set_cons_zero, List.set_cons_succ]
          refine wpAnyH_take (i := 13) (v := undef) rfl (by kernel_rfl) (by kernel_rfl) (by kernel_rfl) (fun _ _ _ h => h) (Or.inr ⟨by rfl, rfl⟩) (by assumption) ?_
          try simp only [Act.put, List.getElem_toArray, List.getElem_cons_succ, List.getElem_cons_zero, List.setIfInBounds_toArray, List.set_cons_zero, List.set_cons_succ]
          refine wpAnyH_take (i := 14) (v := undef) rfl (by kernel_rfl) (by kernel_rfl) (by kernel_rfl) (fun _ _ _ h => h) (Or.inr ⟨by rfl, rfl⟩) (by assumption) ?_
          try simp only [Act.put, List.getElem_toArray, List.getElem_cons_succ, List.getElem_cons_zero, List.setIfInBounds_toArray, List.set_cons_zero, List.set_cons_succ]
          refine wpAnyH_take (i := 15) (v := undef) rfl (by kernel_rfl) (by kernel_rfl) (by kernel_rfl) (fun _ _ _ h => h) (Or.inr ⟨by rfl, rfl⟩) (by assumption) ?_
          try simp only [Act.put, List.getElem_toArray, List.getElem_cons_succ, List.getElem_cons_zero, List.setIfInBounds_toArray, List.set_cons_zero, List.set_cons_succ]
          refine wpAnyH_take (i := 16) (v := undef) rfl (by kernel_rfl) (by kernel_rfl) (by kernel_rfl) (fun _ _ _ h => h) (Or.inr ⟨by rfl, rfl⟩) (by assumption) ?_
          try simp only [Act.put, List.getElem_toArray, List.getElem_cons_succ, List.getElem_cons_zero, List.setIfInBounds_toArray, List.set_cons_zero, List.set_cons_succ]
          refine wpAnyH_take (i := 17) (v := .bool true) rfl (by kernel_rfl) (by kernel_rfl) (by kernel_rfl) (fun _ _ _ h => h) (Or.inl ⟨by rfl, fun w' hSw => by go_simp⟩) (by assumption) ?_
          try simp only [Act.put, List.getElem_toArray, List.getElem_cons_succ, List.getElem_cons_zero, List.setIfInBounds_toArray, List.set_cons_zero, List.set_cons_succ]
          refine wpAnyH_take (i := 18) (v := .bool true) rfl (by kernel_rfl) (by kernel_rfl) (by kernel_rfl) (fun _ _ _ h => h) (Or.inl ⟨by rfl, fun w' hSw => by go_simp⟩) (by assumption) ?_
          try simp only [Act.put, List.getElem_toArray, List.getElem_cons_succ, List.getElem_cons_zero, List.setIfInBounds_toArray, List.set_cons_zero, List.set_cons_succ]
          refine wpAnyH_ready (rs := [19]) (by kernel_rfl) (by simp) ?_
          refine AllReadyH.cons rfl (fun K hK => ?_) AllReadyH.nil
          go_simp
          (with_reducible refine (alive30_any _).mono ?_); rintro e w4 ⟨rfl, h4⟩; have t4 := below_then tD h4
          refine hK.out _ _ trivial (fun hHeld => ?_)
          clear hK K
          try simp only [Act.put, List.getElem_toArray, List.getElem_cons_succ, List.getElem_cons_zero, List.setIfInBounds_toArray, List.set_cons_zero, List.set_cons_succ]
          refine wpAnyH_take (i := 20) (v := .bool true) rfl (by kernel_rfl) (by kernel_rfl) (by kernel_rfl) (fun _ _ _ h => h) (Or.inl ⟨by rfl, fun w' hSw => by go_simp⟩) (by assumption) ?_
          try simp only [Act.put, List.getElem_toArray, List.getElem_cons_succ, List.getElem_cons_zero, List.setIfInBounds_toArray, List.set_cons_zero, List.set_cons_succ]
          refine wpAnyH_take (i := 21) (v := .bool true) rfl (by kernel_rfl) (by kernel_rfl) (by kernel_rfl) (fun _ _ _ h => h) (Or.inl ⟨by rfl, fun w' hSw => by go_simp⟩) (by assumption) ?_
          try simp only [Act.put, List.getElem_toArray, List.getElem_cons_succ, List.getElem_cons_zero, List.setIfInBounds_toArray, List.set_cons_zero, List.set_cons_succ]
          refine wpAnyH_done (by kernel_rfl) ?_ _
          go_wp2_with fail
          go_ret
          exact ⟨rfl, t4⟩
  · have hN' : 60 < len1 := by omega
    go_enter Try.func6, Try.ntmps6
    go_wp2_with (go_at_call 7; (with_reducible refine (alive30_any _).mono ?_); rintro e w' ⟨rfl, hb⟩)
    go_ret
    exact ⟨rfl, below_then tA hb⟩

set_option maxRecDepth 100000 in
theorem lifted (os : Os) (started : os.Started) (H : Type) (enc : TypeId × Value → H) :
    ReturnsInHanded {} Try.checked os 6 .any (Rows.ewcostRisesSpec.pre6 enc Try.prog Try.f6 Rows.ewcostRisesRow.domain false) (Rows.ewcostRisesSpec.post enc Try.prog Try.f6 false true false false) := by
  refine returnsInHanded_of_change (C := Try.checked) own started (by kernel_rfl) Try.func6
    (ChangeSpec.witness6 (enc := enc) (C := Try.checked) false ⟨#[], #[.agg #[.int .i64 0, .int .i64 0, .int .i64 0], .slice none 0 0], []⟩ 8 (by kernel_rfl) (by kernel_rfl) (by kernel_rfl) (by kernel_rfl)) ?_
  intro W base args ds gs before hval0 hW hcnd _
  have hval : ∀ (j : Nat) t v, Try.f6.params[j]? = some t → args[j]? = some v → Value.okWide Try.prog W .any base t v := hval0
  have hW' := hW
  obtain ⟨p, q, hA0, hV, rfl, hfz, hnd⟩ := hW
  have hA : DataW.TrodAll enc Try.prog W 0 (fun _ => true) true Try.f6.params.toList args.toList ds p := hA0
  rw [Try.params6] at hA hval
  obtain ⟨v0, vs0, d0, ds0, p0, q0, hargs, rfl, rfl, h0, r_0⟩ := trodAll_cons hA
  obtain ⟨v1, vs1, d1, ds1, p1, q1, rfl, rfl, rfl, h1, r_1⟩ := trodAll_cons r_0
  obtain ⟨rfl, rfl, rfl⟩ := trodAll_nil r_1
  obtain rfl : args = #[v0, v1] := by cases args; simp_all
  obtain ⟨rfl, rfl⟩ := trodVars_none hV
  have k0 := h0
  have lt0 : ∀ x ∈ p0, x.block < W.heap.size := by obtain ⟨m, hm⟩ := k0; exact DataW.trod_lt m _ _ _ hm
  obtain ⟨a0_0, a0_1, a0_2, rfl, w0_0, w0_1, w0_2⟩ := open_str3 Try.underlying23 (by kernel_rfl) Try.underlying3 (by kernel_rfl) (by kernel_rfl) (hval 0 23 v0 rfl rfl) h0
  obtain ⟨a1, len1, cap1, rfl⟩ := okWide_slice Try.underlying24 (hval 1 24 v1 rfl rfl)
  have k1 := h1
  have lt1 : ∀ x ∈ p1, x.block < W.heap.size := by obtain ⟨m, hm⟩ := k1; exact DataW.trod_lt m _ _ _ hm
  obtain ⟨xs1, r1⟩ : ∃ xs, Reads .i32 W a1 len1 cap1 xs := by
    obtain ⟨fuel, hf⟩ := h1
    rcases open_ints Try.underlying24 Try.underlying21 (by kernel_rfl) hf with ⟨hcs, _⟩ | ⟨x, l, c, zs, hcs, _, hl, hm, hz, _, hcell, hwz⟩
    · simp [Value.cells] at hcs
      obtain ⟨rfl, rfl, rfl⟩ := hcs
      exact ⟨[], Reads.nil _ _ _ _ (Nat.zero_le _)⟩
    · simp [Value.cells] at hcs
      obtain ⟨rfl, rfl, rfl⟩ := hcs
      exact ⟨_, reads_of_ints hl hm (by simpa using hz) hcell hwz⟩
  clear hA0 hval0
  refine (walk a0_0 a0_1 a0_2 a1 len1 cap1 xs1 W w0_0 w0_1 w0_2 r1).mono fun e W' ⟨he, bel⟩ => ?_
  subst he
  exact ⟨_, rfl, _, _, _, [], _, [], hW', trodAll_mk1 (shut_bool Try.underlying4 _), (trodAll_cons_mk (Below.trod laidOut (by kernel_rfl) (of_decide_eq_true (by kernel_rfl)) k0 bel lt0) (trodAll_cons_mk (Below.trod laidOut (by kernel_rfl) (of_decide_eq_true (by kernel_rfl)) k1 bel lt1) trodAll_mk0)), rfl, bel.frame _, fun h => by cases h⟩

theorem over : Rows.ewcostRisesRow.holds Try.pinned (OpenSpec.ofChange Rows.ewcostRisesSpec) :=
  OpenClaim.holds_of_wide 6 Try.f6 rfl rfl rfl rfl rfl rfl rfl ⟨rfl, rfl, rfl, rfl, rfl⟩ rfl rfl rfl rfl rfl (by kernel_rfl) Try.func6 (by kernel_rfl)
    (of_decide_eq_true (by kernel_rfl)) (by unfold Func.isWrapper; first | (rw [if_pos (by decide +kernel)]; kernel_rfl) | (rw [if_neg (by decide +kernel)]; exact ⟨rfl, rfl⟩))
    (fun os started H enc _ => lifted os started H enc)

end Go.Proofs.Ytpmkgpnielolbaa.ewcostRises
namespace Go.Proofs.Ytpmkgpnielolbaa
theorem ewcostRises_holds : Rows.EwcostRisesSaid := ewcostRises.over
#print axioms ewcostRises_holds
end Go.Proofs.Ytpmkgpnielolbaa
