/-
  Proved: for every []byte s (nil, empty, of any length and capacity), in whatever memory and on every schedule, sheavelaw32.EwtokWhole(s) returns true, without a panic or a race, and its argument reads as before. No condition.
-/
import Derived.Test.YtkaldjekjgecbaaRows
import Derived.Test.YtkaldjekjgecbaaZ27
import Derived.WalkKit
import Derived.ProofKit
import Derived.OpenShut
import Derived.ShutString
import Derived.ChangeOld
import Derived.Below
namespace Go.Proofs.Ytkaldjekjgecbaa.ewtokWhole
open Go.ChangeShapes Go.WideShapes Go.ChangeAt Go.RowKit
open Go.ChangeMaps (open_string shut_string)
set_option linter.unusedVariables false

theorem own : ownKnob Try.prog.godebug = none := by kernel_rfl
theorem laidOut : laidOutB Try.prog = true := by kernel_rfl

set_option maxHeartbeats 4000000 in
set_option maxRecDepth 100000 in
theorem walk (a0 : Option Addr) (len0 cap0 : Nat) (xs0 : List Int) (w : World) (r0 : Reads .u8 w a0 len0 cap0 xs0) :
    Calls Try.prog 5 #[.slice a0 len0 cap0] w fun e w' => e = .returned (.bool true) ∧ Below w.heap.size w w' := by
  by_cases hN : len0 ≤ 500
  · have R := hid r0
    have hsz := hid r0.size
    have hpl : (pcsP xs0).length ≤ len0 := by
      unfold pcsP
      rw [List.length_map, ← r0.size]
      exact (pcsT_whole xs0).2.2
    have F1 := hid (ewtok_Pieces a0 len0 cap0 xs0 w r0 (by omega))
    have F2 := hid (fun W (hb : Below w.heap.size w W) => ewtok_Shown a0 len0 cap0 xs0 W (R.out.below hb) (by omega))
    have HAT := hid (fun (i : Nat) (k : Int) (x : List Int) (h : (pcsP xs0)[i]? = some (k, x)) => pcsP_at h)
    have HAL := hid (fun (i : Nat) (k1 k2 : Int) (x y : List Int) (h1 : (pcsP xs0)[i]? = some (k1, x)) (h2 : (pcsP xs0)[i + 1]? = some (k2, y)) => alt_kinds h1 h2)
    have HFL : Hid (((pcsP xs0).map Prod.snd).flatten = xs0) := by
      have e : (pcsP xs0).map Prod.snd = pcsT xs0 := by
        unfold pcsP
        rw [List.map_map]
        conv => rhs; rw [← List.map_id (pcsT xs0)]
        rfl
      rw [Hid, e, (pcsT_whole xs0).1]
    have HCN : Hid ((shwP xs0).countP ngP = (pcsP xs0).countP ngP) := by
      have := shw_count (pcsP xs0) (pcsP xs0).length (Nat.le_refl _)
      rw [List.take_length] at this
      exact this
    have hml : (shwP xs0).length ≤ len0 := by
      have : (shwP xs0).length ≤ (pcsP xs0).length := by
        unfold shwP shwN
        exact Nat.le_trans (List.length_filterMap_le _ _) (by rw [List.length_range]; exact Nat.le_refl _)
      omega
    have HK := hid (fun W a' l' c' x (hr : Reads .u8 W a' l' c' x) (hl : l' ≤ 500) => ewtok_Kind a' l' c' x W hr (by omega))
    clear r0
    generalize pcsP xs0 = L at *
    generalize shwP xs0 = M at *
    go_enter Try.func5, Try.ntmps5
    go_wp2_with (go_at_call 9; (with_reducible refine F1.out.mono ?_); rintro e v1 ⟨a1, n1, c1, rfl, q1, y1⟩; obtain rfl : L.length = n1 := q1.size)
    have Q1 := hid q1
    clear q1
    go_loopw [20] (fun iv wr => ∃ j : Nat, j ≤ L.length ∧ iv = .int .i64 j ∧ Below v1.heap.size v1 wr) (fun iv _ => L.length - (intOf iv).toNat)
    case atStart => exact ⟨0, Nat.zero_le _, rfl, Below.refl _ _⟩
    case round =>
      obtain ⟨j, hj, rfl, hb⟩ := hrel
      rename World => wo
      by_cases hlt : j < L.length
      · obtain ⟨b, off, kx, x, ai, li, ci, rfl, hbw, hck0, hcx0, hx, hg, _⟩ := Q1.out.get2 hlt
        have hck := (hb.cell (p := ⟨b, off + j * 2, none⟩) hbw).trans hck0
        have hcx := (hb.cell (p := ⟨b, off + j * 2 + 1, none⟩) hbw).trans hcx0
        obtain ⟨hk, hne, _, hxl⟩ := HAT.out j kx x hg
        have hxs := hx.size
        have hpos : 0 < li := by have := List.length_pos_iff.2 hne; omega
        have hl0 : ((li : Int) == 0) = false := by
          have : ¬ (li : Int) = 0 := by omega
          simpa using this
        have hl5 : li ≤ 500 := by have := hsz.out; omega
        have q1 : (j : Int) < (L.length : Int) := by omega
        have BP := Blk.new wo 33 #[.int .i64 kx, .slice ai li ci]
        have hal := hb.alloc hb.size (.cells #[.int .i64 kx, .slice ai li ci] 33)
        have G2 := hid (fun W (hW : Below v1.heap.size v1 W) => by
          have := HK.out W ai li ci x (hx.below hW) hl5
          rwa [← hk] at this)
        have tD := below_drew hal
        have BD : Blk (wo.alloc (.cells #[.int .i64 kx, .slice ai li ci] 33)).drew wo.heap.size 33 #[.int .i64 kx, .slice ai li ci] := BP
        have d0 := BD.cell (i := 0) rfl
        have d1 := BD.cell (i := 1) rfl
        have dd := And.intro d0 d1
        have zz : (kx != kx) = false := by simp
        by_cases hj0 : j = 0
        · subst hj0
          rw [Nat.zero_mul, Nat.add_zero] at hck hcx
          clear hg hne hx hxl hk hck0 hcx0
          go_wp2_with fail
          refine wp_region_held_drew (S := fun w' => w'.cell? ⟨wo.heap.size, 0, none⟩ = some (.int .i64 kx) ∧ w'.cell? ⟨wo.heap.size, 1, none⟩ = some (.slice ai li ci)) (by kernel_rfl) dd (fun hHeld => ?_)
          refine wpAnyH_take (i := 0) (v := .pointer (some ⟨wo.heap.size, 1, none⟩)) rfl (by kernel_rfl) (by kernel_rfl) (by kernel_rfl) (fun _ _ _ h => h) (Or.inl ⟨by rfl, fun w' hSw => by (try dsimp only at hSw); go_simp⟩) (by assumption) ?_
          try simp only [Act.put, List.getElem_toArray, List.getElem_cons_zero, List.setIfInBounds_toArray, List.set_cons_zero, List.set_cons_succ]
          refine wpAnyH_take (i := 1) (v := .slice ai li ci) rfl (by kernel_rfl) (by kernel_rfl) (by kernel_rfl) (fun _ _ _ h => h) (Or.inl ⟨by rfl, fun w' hSw => by (try dsimp only at hSw); go_simp⟩) (by assumption) ?_
          try simp only [Act.put, List.getElem_toArray, List.getElem_cons_succ, List.getElem_cons_zero, List.setIfInBounds_toArray, List.set_cons_zero, List.set_cons_succ]
          refine wpAnyH_take (i := 2) (v := .int .i64 li) rfl (by kernel_rfl) (by kernel_rfl) (by kernel_rfl) (fun _ _ _ h => h) (Or.inl ⟨by rfl, fun w' hSw => by (try dsimp only at hSw); go_simp⟩) (by assumption) ?_
          try simp only [Act.put, List.getElem_toArray, List.getElem_cons_succ, List.getElem_cons_zero, List.setIfInBounds_toArray, List.set_cons_zero, List.set_cons_succ]
          refine wpAnyH_take (i := 3) (v := .bool false) rfl (by kernel_rfl) (by kernel_rfl) (by kernel_rfl) (fun _ _ _ h => h) (Or.inl ⟨by rfl, fun w' hSw => by (try dsimp only at hSw); go_simp⟩) (by assumption) ?_
          try simp only [Act.put, List.getElem_toArray, List.getElem_cons_succ, List.getElem_cons_zero, List.setIfInBounds_toArray, List.set_cons_zero, List.set_cons_succ]
          refine wpAnyH_take (i := 4) (v := .bool false) rfl (by kernel_rfl) (by kernel_rfl) (by kernel_rfl) (fun _ _ _ h => h) (Or.inl ⟨by rfl, fun w' hSw => by (try dsimp only at hSw); go_simp⟩) (by assumption) ?_
          try simp only [Act.put, List.getElem_toArray, List.getElem_cons_succ, List.getElem_cons_zero, List.setIfInBounds_toArray, List.set_cons_zero, List.set_cons_succ]
          refine wpAnyH_take (i := 5) (v := .int .i64 0) rfl (by kernel_rfl) (by kernel_rfl) (by kernel_rfl) (fun _ _ _ h => h) (Or.inl ⟨by rfl, fun w' hSw => by (try dsimp only at hSw); go_simp⟩) (by assumption) ?_
          try simp only [Act.put, List.getElem_toArray, List.getElem_cons_succ, List.getElem_cons_zero, List.setIfInBounds_toArray, List.set_cons_zero, List.set_cons_succ]
          refine wpAnyH_take (i := 6) (v := .bool false) rfl (by kernel_rfl) (by kernel_rfl) (by kernel_rfl) (fun _ _ _ h => h) (Or.inl ⟨by rfl, fun w' hSw => by (try dsimp only at hSw); go_simp⟩) (by assumption) ?_
          try simp only [Act.put, List.getElem_toArray, List.getElem_cons_succ, List.getElem_cons_zero, List.setIfInBounds_toArray, List.set_cons_zero, List.set_cons_succ]
          refine wpAnyH_take (i := 7) (v := .bool false) rfl (by kernel_rfl) (by kernel_rfl) (by kernel_rfl) (fun _ _ _ h => h) (Or.inl ⟨by rfl, fun w' hSw => by (try dsimp only at hSw); go_simp⟩) (by assumption) ?_
          try simp only [Act.put, List.getElem_toArray, List.getElem_cons_succ, List.getElem_cons_zero, List.setIfInBounds_toArray, List.set_cons_zero, List.set_cons_succ]
          refine wpAnyH_take (i := 8) (v := undef) rfl (by kernel_rfl) (by kernel_rfl) (by kernel_rfl) (fun _ _ _ h => h) (Or.inr ⟨by rfl, rfl⟩) (by assumption) ?_
          try simp only [Act.put, List.getElem_toArray, List.getElem_cons_succ, List.getElem_cons_zero, List.setIfInBounds_toArray, List.set_cons_zero, List.set_cons_succ]
          refine wpAnyH_take (i := 9) (v := undef) rfl (by kernel_rfl) (by kernel_rfl) (by kernel_rfl) (fun _ _ _ h => h) (Or.inr ⟨by rfl, rfl⟩) (by assumption) ?_
          try simp only [Act.put, List.getElem_toArray, List.getElem_cons_succ, List.getElem_cons_zero, List.setIfInBounds_toArray, List.set_cons_zero, List.set_cons_succ]
          refine wpAnyH_take (i := 10) (v := undef) rfl (by kernel_rfl) (by kernel_rfl) (by kernel_rfl) (fun _ _ _ h => h) (Or.inr ⟨by rfl, rfl⟩) (by assumption) ?_
          try simp only [Act.put, List.getElem_toArray, List.getElem_cons_succ, List.getElem_cons_zero, List.setIfInBounds_toArray, List.set_cons_zero, List.set_cons_succ]
          refine wpAnyH_take (i := 11) (v := undef) rfl (by kernel_rfl) (by kernel_rfl) (by kernel_rfl) (fun _ _ _ h => h) (Or.inr ⟨by rfl, rfl⟩) (by assumption) ?_
          try simp only [Act.put, List.getElem_toArray, List.getElem_cons_succ, List.getElem_cons_zero, List.setIfInBounds_toArray, List.set_cons_zero, List.set_cons_succ]
          refine wpAnyH_take (i := 12) (v := undef) rfl (by kernel_rfl) (by kernel_rfl) (by kernel_rfl) (fun _ _ _ h => h) (Or.inr ⟨by rfl, rfl⟩) (by assumption) ?_
          try simp only [Act.put, List.getElem_toArray, List.getElem_cons_succ, List.getElem_cons_zero, List.setIfInBounds_toArray, List.set_cons_zero, List.set_cons_succ]
          refine wpAnyH_take (i := 13) (v := undef) rfl (by kernel_rfl) (by kernel_rfl) (by kernel_rfl) (fun _ _ _ h => h) (Or.inr ⟨by rfl, rfl⟩) (by assumption) ?_
          try simp only [Act.put, List.getElem_toArray, List.getElem_cons_succ, List.getElem_cons_zero, List.setIfInBounds_toArray, List.set_cons_zero, List.set_cons_succ]
          refine wpAnyH_take (i := 14) (v := undef) rfl (by kernel_rfl) (by kernel_rfl) (by kernel_rfl) (fun _ _ _ h => h) (Or.inr ⟨by rfl, rfl⟩) (by assumption) ?_
          try simp only [Act.put, List.getElem_toArray, List.getElem_cons_succ, List.getElem_cons_zero, List.setIfInBounds_toArray, List.set_cons_zero, List.set_cons_succ]
          refine wpAnyH_take (i := 15) (v := undef) rfl (by kernel_rfl) (by kernel_rfl) (by kernel_rfl) (fun _ _ _ h => h) (Or.inr ⟨by rfl, rfl⟩) (by assumption) ?_
          try simp only [Act.put, List.getElem_toArray, List.getElem_cons_succ, List.getElem_cons_zero, List.setIfInBounds_toArray, List.set_cons_zero, List.set_cons_succ]
          refine wpAnyH_take (i := 16) (v := undef) rfl (by kernel_rfl) (by kernel_rfl) (by kernel_rfl) (fun _ _ _ h => h) (Or.inr ⟨by rfl, rfl⟩) (by assumption) ?_
          try simp only [Act.put, List.getElem_toArray, List.getElem_cons_succ, List.getElem_cons_zero, List.setIfInBounds_toArray, List.set_cons_zero, List.set_cons_succ]
          refine wpAnyH_take (i := 17) (v := undef) rfl (by kernel_rfl) (by kernel_rfl) (by kernel_rfl) (fun _ _ _ h => h) (Or.inr ⟨by rfl, rfl⟩) (by assumption) ?_
          try simp only [Act.put, List.getElem_toArray, List.getElem_cons_succ, List.getElem_cons_zero, List.setIfInBounds_toArray, List.set_cons_zero, List.set_cons_succ]
          refine wpAnyH_take (i := 18) (v := undef) rfl (by kernel_rfl) (by kernel_rfl) (by kernel_rfl) (fun _ _ _ h => h) (Or.inr ⟨by rfl, rfl⟩) (by assumption) ?_
          try simp only [Act.put, List.getElem_toArray, List.getElem_cons_succ, List.getElem_cons_zero, List.setIfInBounds_toArray, List.set_cons_zero, List.set_cons_succ]
          refine wpAnyH_take (i := 19) (v := .bool false) rfl (by kernel_rfl) (by kernel_rfl) (by kernel_rfl) (fun _ _ _ h => h) (Or.inl ⟨by rfl, fun w' hSw => by (try dsimp only at hSw); go_simp⟩) (by assumption) ?_
          try simp only [Act.put, List.getElem_toArray, List.getElem_cons_succ, List.getElem_cons_zero, List.setIfInBounds_toArray, List.set_cons_zero, List.set_cons_succ]
          refine wpAnyH_take (i := 20) (v := .bool false) rfl (by kernel_rfl) (by kernel_rfl) (by kernel_rfl) (fun _ _ _ h => h) (Or.inl ⟨by rfl, fun w' hSw => by (try dsimp only at hSw); go_simp⟩) (by assumption) ?_
          try simp only [Act.put, List.getElem_toArray, List.getElem_cons_succ, List.getElem_cons_zero, List.setIfInBounds_toArray, List.set_cons_zero, List.set_cons_succ]
          refine wpAnyH_take (i := 21) (v := .bool false) rfl (by kernel_rfl) (by kernel_rfl) (by kernel_rfl) (fun _ _ _ h => h) (Or.inl ⟨by rfl, fun w' hSw => by (try dsimp only at hSw); go_simp⟩) (by assumption) ?_
          try simp only [Act.put, List.getElem_toArray, List.getElem_cons_succ, List.getElem_cons_zero, List.setIfInBounds_toArray, List.set_cons_zero, List.set_cons_succ]
          refine wpAnyH_take (i := 22) (v := .pointer (some ⟨wo.heap.size, 0, none⟩)) rfl (by kernel_rfl) (by kernel_rfl) (by kernel_rfl) (fun _ _ _ h => h) (Or.inl ⟨by rfl, fun w' hSw => by (try dsimp only at hSw); go_simp⟩) (by assumption) ?_
          try simp only [Act.put, List.getElem_toArray, List.getElem_cons_succ, List.getElem_cons_zero, List.setIfInBounds_toArray, List.set_cons_zero, List.set_cons_succ]
          refine wpAnyH_take (i := 23) (v := .int .i64 kx) rfl (by kernel_rfl) (by kernel_rfl) (by kernel_rfl) (fun _ _ _ h => h) (Or.inl ⟨by rfl, fun w' hSw => by (try dsimp only at hSw); go_simp⟩) (by assumption) ?_
          try simp only [Act.put, List.getElem_toArray, List.getElem_cons_succ, List.getElem_cons_zero, List.setIfInBounds_toArray, List.set_cons_zero, List.set_cons_succ]
          refine wpAnyH_take (i := 24) (v := .pointer (some ⟨wo.heap.size, 1, none⟩)) rfl (by kernel_rfl) (by kernel_rfl) (by kernel_rfl) (fun _ _ _ h => h) (Or.inl ⟨by rfl, fun w' hSw => by (try dsimp only at hSw); go_simp⟩) (by assumption) ?_
          try simp only [Act.put, List.getElem_toArray, List.getElem_cons_succ, List.getElem_cons_zero, List.setIfInBounds_toArray, List.set_cons_zero, List.set_cons_succ]
          refine wpAnyH_take (i := 25) (v := .slice ai li ci) rfl (by kernel_rfl) (by kernel_rfl) (by kernel_rfl) (fun _ _ _ h => h) (Or.inl ⟨by rfl, fun w' hSw => by (try dsimp only at hSw); go_simp⟩) (by assumption) ?_
          try simp only [Act.put, List.getElem_toArray, List.getElem_cons_succ, List.getElem_cons_zero, List.setIfInBounds_toArray, List.set_cons_zero, List.set_cons_succ]
          refine wpAnyH_ready (rs := [26]) (by kernel_rfl) (by simp) ?_
          refine AllReadyH.cons rfl (fun K hK => ?_) AllReadyH.nil
          go_simp
          (with_reducible refine (G2.out _ tD).mono ?_); rintro e w5 ⟨rfl, h5⟩; have t5 := below_then tD h5; have B5 := BD.below h5 BD.lt; have s1 : w5.cell? ⟨wo.heap.size, 0, none⟩ = some (.int .i64 kx) ∧ w5.cell? ⟨wo.heap.size, 1, none⟩ = some (.slice ai li ci) := ⟨B5.cell (i := 0) rfl, B5.cell (i := 1) rfl⟩
          refine hK.out _ _ s1 (fun hHeld => ?_)
          clear hK K
          try simp only [Act.put, List.getElem_toArray, List.getElem_cons_succ, List.getElem_cons_zero, List.setIfInBounds_toArray, List.set_cons_zero, List.set_cons_succ]
          refine wpAnyH_take (i := 27) (v := .bool false) rfl (by kernel_rfl) (by kernel_rfl) (by kernel_rfl) (fun _ _ _ h => h) (Or.inl ⟨by rfl, fun w' hSw => by (try dsimp only at hSw); go_simp⟩) (by assumption) ?_
          try simp only [Act.put, List.getElem_toArray, List.getElem_cons_succ, List.getElem_cons_zero, List.setIfInBounds_toArray, List.set_cons_zero, List.set_cons_succ]
          refine wpAnyH_take (i := 28) (v := .bool false) rfl (by kernel_rfl) (by kernel_rfl) (by kernel_rfl) (fun _ _ _ h => h) (Or.inl ⟨by rfl, fun w' hSw => by (try dsimp only at hSw); go_simp⟩) (by assumption) ?_
          try simp only [Act.put, List.getElem_toArray, List.getElem_cons_succ, List.getElem_cons_zero, List.setIfInBounds_toArray, List.set_cons_zero, List.set_cons_succ]
          refine wpAnyH_done (by kernel_rfl) ?_ _
          go_wp2_with fail
          go_roundw
          case rel => exact ⟨1, by omega, by go_num, t5⟩
          case measure => simp [intOf]; omega
        · obtain ⟨b', off', ky, y, ay, ly, cy, hbb, _, hcy0, _, _, hg', _⟩ := Q1.out.get2 (i := j - 1) (by omega)
          cases hbb
          have hcy := (hb.cell (p := ⟨b, off + (j - 1) * 2, none⟩) hbw).trans hcy0
          have hcyA := ((Below.refl wo.heap.size wo).alloc (Nat.le_refl _) (.cells #[.int .i64 kx, .slice ai li ci] 33)).cell (p := ⟨b, off + (j - 1) * 2, none⟩) (Nat.lt_of_lt_of_le hbw hb.size)
          have d2 : (wo.alloc (.cells #[.int .i64 kx, .slice ai li ci] 33)).drew.cell? ⟨b, off + (j - 1) * 2, none⟩ = some (.int .i64 ky) := hcyA.trans hcy
          have halt := HAL.out (j - 1) ky kx y x hg' (by rw [show j - 1 + 1 = j by omega]; exact hg)
          have z1 : (0 : Int) < (j : Int) := by omega
          have z2 : 0 < j := by omega
          have z3 : IntKind.i64.wrap ((j : Int) - 1) = (j : Int) - 1 := IntWalk.i64_in _ (by omega)
          have z4 : (0 : Int) ≤ (j : Int) - 1 := by omega
          have z5 : (j : Int) - 1 < (L.length : Int) := by omega
          have z6 : ((j : Int) - 1).toNat = j - 1 := by omega
          have z7 : (1 : Int) ≤ (j : Int) := by omega
          have hbA : b < (wo.alloc (.cells #[.int .i64 kx, .slice ai li ci] 33)).drew.heap.size := Nat.lt_of_lt_of_le hbw tD.size
          have HBA := hid hbA
          generalize hY : (ky == 1) = Y at *
          generalize hZ : (kx == 1) = Z at *
          clear hg hg' hne hx hxl hk hck0 hcx0 hcy0 hcyA dd hbA
          cases Y <;> cases Z
          all_goals first
            | (exfalso; revert halt; decide)
            | skip
          all_goals
            clear halt
            go_wp2_with fail
            go_region_held3 (fun w' => w'.cell? ⟨wo.heap.size, 0, none⟩ = some (.int .i64 kx) ∧ w'.cell? ⟨wo.heap.size, 1, none⟩ = some (.slice ai li ci) ∧ w'.cell? ⟨b, off + (j - 1) * 2, none⟩ = some (.int .i64 ky)) (first | exact ⟨d0, d1, d2⟩ | exact ⟨e0, e1, e2⟩)
              ((go_at_call 12; (with_reducible refine (G2.out _ tD).mono ?_); rintro e w5 ⟨rfl, h5⟩; have t5 := below_then tD h5; have B5 := BD.below h5 BD.lt; have e0 := B5.cell (i := 0) rfl; have e1 := B5.cell (i := 1) rfl; have e2 := (h5.cell (p := ⟨b, off + (j - 1) * 2, none⟩) HBA.out).trans d2))
          all_goals
            go_wp2_with fail
            go_roundw
            case rel => exact ⟨j + 1, by omega, by go_num, t5⟩
            case measure => simp [intOf]; omega
      · obtain rfl : j = L.length := by omega
        have q1 : ¬ (L.length : Int) < (L.length : Int) := by omega
        have y2 := below_then y1 hb
        have Q2 := hid (Q1.out.below hb)
        go_wp2_with (go_at_call 10; (with_reducible refine (F2.out _ y2).mono ?_); rintro e v3 ⟨a3, n3, c3, rfl, q3, h3⟩; obtain rfl : M.length = n3 := q3.size)
        have Q3 := hid q3
        have y3 := below_then y2 h3
        have Q4 := hid (Q2.out.below h3)
        clear q3
        go_loopw [6, 58] (fun nv iv wr => ∃ (i k : Nat), i ≤ M.length ∧ iv = .int .i64 i ∧ nv = .int .i64 k ∧ k ≤ i ∧ Hid (k = (M.take i).countP ngP) ∧ Below v3.heap.size v3 wr) (fun _ iv _ => M.length - (intOf iv).toNat)
        case atStart => exact ⟨0, 0, Nat.zero_le _, rfl, rfl, Nat.le_refl _, by rw [Hid, List.take_zero]; rfl, Below.refl _ _⟩
        case round =>
          obtain ⟨i, k, hi, rfl, rfl, hki, hk, hb2⟩ := hrel
          by_cases hlt2 : i < M.length
          · obtain ⟨b, off, kx, x, ai, li, ci, rfl, hbw, hck, hcx, hx, hg, ht⟩ := (Q3.out.below hb2).get2 hlt2
            have hsn := ng_snoc ht
            rw [← hk.out] at hsn
            have HS := hid hsn
            have q1 : (i : Int) < (M.length : Int) := by omega
            have BP := Blk.new wr 33 #[.int .i64 kx, .slice ai li ci]
            have d0 := BP.cell (i := 0) rfl
            have hal := hb2.alloc hb2.size (.cells #[.int .i64 kx, .slice ai li ci] 33)
            clear hx hg ht hsn hk
            by_cases h3 : kx = 1
            · subst h3
              have HS2 : Hid (k = (M.take (i + 1)).countP ngP) := by rw [Hid, HS.out, if_pos rfl]; rfl
              go_wp2_with fail
              go_roundw
              case rel => exact ⟨i + 1, k, by omega, by go_num, rfl, by omega, HS2, hal⟩
              case measure => simp [intOf]; omega
            · have HS2 : Hid (k + 1 = (M.take (i + 1)).countP ngP) := by rw [Hid, HS.out, if_neg h3]
              have h3' : (kx != 1) = true := by simpa using h3
              clear h3
              go_wp2_with fail
              go_roundw
              case rel => exact ⟨i + 1, k + 1, by omega, by go_num, by go_num, by omega, HS2, hal⟩
              case measure => simp [intOf]; omega
          · obtain rfl : i = M.length := by omega
            have q2 : ¬ (M.length : Int) < (M.length : Int) := by omega
            have hk' := hk.out
            rw [List.take_length, HCN.out] at hk'
            have HKK := hid hk'
            have y4 := below_then y3 hb2
            have Q5 := hid (Q4.out.below hb2)
            rename World => wm
            clear hk hk'
            go_wp2_with fail
            go_loopw [9, 70] (fun nv iv wr => ∃ (i2 k2 : Nat), i2 ≤ L.length ∧ iv = .int .i64 i2 ∧ nv = .int .i64 k2 ∧ k2 ≤ i2 ∧ Hid (k2 = (L.take i2).countP ngP) ∧ Below wm.heap.size wm wr) (fun _ iv _ => L.length - (intOf iv).toNat)
            case atStart => exact ⟨0, 0, Nat.zero_le _, rfl, rfl, Nat.le_refl _, by rw [Hid, List.take_zero]; rfl, Below.refl _ _⟩
            case round =>
              obtain ⟨i2, k2, hi2, rfl, rfl, hki2, hk2, hb3⟩ := hrel
              by_cases hlt3 : i2 < L.length
              · obtain ⟨b, off, kx, x, ai, li, ci, rfl, hbw, hck, hcx, hx, hg, ht⟩ := (Q5.out.below hb3).get2 hlt3
                have hsn := ng_snoc ht
                rw [← hk2.out] at hsn
                have HS := hid hsn
                have q3 : (i2 : Int) < (L.length : Int) := by omega
                have BP := Blk.new wr 33 #[.int .i64 kx, .slice ai li ci]
                have d0 := BP.cell (i := 0) rfl
                have hal := hb3.alloc hb3.size (.cells #[.int .i64 kx, .slice ai li ci] 33)
                clear hx hg ht hsn hk2
                by_cases h3 : kx = 1
                · subst h3
                  have HS2 : Hid (k2 = (L.take (i2 + 1)).countP ngP) := by rw [Hid, HS.out, if_pos rfl]; rfl
                  go_wp2_with fail
                  go_roundw
                  case rel => exact ⟨i2 + 1, k2, by omega, by go_num, rfl, by omega, HS2, hal⟩
                  case measure => simp [intOf]; omega
                · have HS2 : Hid (k2 + 1 = (L.take (i2 + 1)).countP ngP) := by rw [Hid, HS.out, if_neg h3]
                  have h3' : (kx != 1) = true := by simpa using h3
                  clear h3
                  go_wp2_with fail
                  go_roundw
                  case rel => exact ⟨i2 + 1, k2 + 1, by omega, by go_num, by go_num, by omega, HS2, hal⟩
                  case measure => simp [intOf]; omega
              · obtain rfl : i2 = L.length := by omega
                have q3 : ¬ (L.length : Int) < (L.length : Int) := by omega
                have hk2' := hk2.out
                rw [List.take_length, ← HKK.out] at hk2'
                subst hk2'
                have y5 := below_then y4 hb3
                have FJ := ewtok_Join _ _ _ _ _ (Q5.out.below hb3) (by rw [HFL.out, hsz.out]; omega) (by omega)
                rw [HFL.out] at FJ
                have F5 := hid FJ
                clear FJ hk2
                go_wp2_with (first
                  | (go_at_call 18; (with_reducible refine F5.out.mono ?_); rintro e v5 ⟨a5, l5, c5, rfl, s5, h5⟩; have y6 := below_then y5 h5; have s7 := R.out.below y6)
                  | (go_at_call 17; (with_reducible refine (like32 _ _ _ _ _ _ _ _ s5 s7).mono ?_); rintro e v6 ⟨rfl, h6⟩; have y7 := below_then y6 h6)
                  | (go_at_call 6; (with_reducible refine (alive32_any _).mono ?_); rintro e v7 ⟨rfl, h7⟩))
                go_ret
                exact ⟨rfl, below_then y7 h7⟩
  · have hN' : 500 < len0 := by omega
    go_enter Try.func5, Try.ntmps5
    go_wp2_with (go_at_call 6; (with_reducible refine (alive32_any _).mono ?_); rintro e w' ⟨rfl, hb⟩)
    go_ret
    exact ⟨rfl, hb⟩

set_option maxRecDepth 100000 in
theorem lifted (os : Os) (started : os.Started) (H : Type) (enc : TypeId × Value → H) :
    ReturnsInHanded {} Try.checked os 5 .any (Rows.ewtokWholeSpec.pre6 enc Try.prog Try.f5 Rows.ewtokWholeRow.domain false) (Rows.ewtokWholeSpec.post enc Try.prog Try.f5 false true false false) := by
  refine returnsInHanded_of_change (C := Try.checked) own started (by kernel_rfl) Try.func5
    (ChangeSpec.witness6 (enc := enc) (C := Try.checked) false ⟨#[], #[.slice none 0 0], []⟩ 8 (by kernel_rfl) (by kernel_rfl) (by kernel_rfl) (by kernel_rfl)) ?_
  intro W base args ds gs before hval0 hW hcnd _
  have hval : ∀ (j : Nat) t v, Try.f5.params[j]? = some t → args[j]? = some v → Value.okWide Try.prog W .any base t v := hval0
  have hW' := hW
  obtain ⟨p, q, hA0, hV, rfl, hfz, hnd⟩ := hW
  have hA : DataW.TrodAll enc Try.prog W 0 (fun _ => true) true Try.f5.params.toList args.toList ds p := hA0
  rw [Try.params5] at hA hval
  obtain ⟨v0, vs0, d0, ds0, p0, q0, hargs, rfl, rfl, h0, r_0⟩ := trodAll_cons hA
  obtain ⟨rfl, rfl, rfl⟩ := trodAll_nil r_0
  obtain rfl : args = #[v0] := by cases args; simp_all
  obtain ⟨rfl, rfl⟩ := trodVars_none hV
  obtain ⟨a0, len0, cap0, rfl⟩ := okWide_slice Try.underlying22 (hval 0 22 v0 rfl rfl)
  have k0 := h0
  have lt0 : ∀ x ∈ p0, x.block < W.heap.size := by obtain ⟨m, hm⟩ := k0; exact DataW.trod_lt m _ _ _ hm
  obtain ⟨xs0, r0⟩ : ∃ xs, Reads .u8 W a0 len0 cap0 xs := by
    obtain ⟨fuel, hf⟩ := h0
    rcases open_ints Try.underlying22 Try.underlying5 (by kernel_rfl) hf with ⟨hcs, _⟩ | ⟨x, l, c, zs, hcs, _, hl, hm, hz, _, hcell, hwz⟩
    · simp [Value.cells] at hcs
      obtain ⟨rfl, rfl, rfl⟩ := hcs
      exact ⟨[], Reads.nil _ _ _ _ (Nat.zero_le _)⟩
    · simp [Value.cells] at hcs
      obtain ⟨rfl, rfl, rfl⟩ := hcs
      exact ⟨_, reads_of_ints hl hm (by simpa using hz) hcell hwz⟩
  clear hA0 hval0
  refine (walk a0 len0 cap0 xs0 W r0).mono fun e W' ⟨he, bel⟩ => ?_
  subst he
  exact ⟨_, rfl, _, _, _, [], _, [], hW', trodAll_mk1 (shut_bool Try.underlying4 _), (trodAll_cons_mk (Below.trod laidOut (by kernel_rfl) (of_decide_eq_true (by kernel_rfl)) k0 bel lt0) trodAll_mk0), rfl, bel.frame _, fun h => by cases h⟩

theorem over : Rows.ewtokWholeRow.holds Try.pinned (OpenSpec.ofChange Rows.ewtokWholeSpec) :=
  OpenClaim.holds_of_wide 5 Try.f5 rfl rfl rfl rfl rfl rfl rfl ⟨rfl, rfl, rfl, rfl, rfl⟩ rfl rfl rfl rfl rfl (by kernel_rfl) Try.func5 (by kernel_rfl)
    (of_decide_eq_true (by kernel_rfl)) (by unfold Func.isWrapper; first | (rw [if_pos (by decide +kernel)]; kernel_rfl) | (rw [if_neg (by decide +kernel)]; exact ⟨rfl, rfl⟩))
    (fun os started H enc _ => lifted os started H enc)

end Go.Proofs.Ytkaldjekjgecbaa.ewtokWhole
namespace Go.Proofs.Ytkaldjekjgecbaa
theorem ewtokWhole_holds : Rows.EwtokWholeSaid := ewtokWhole.over
#print axioms ewtokWhole_holds
end Go.Proofs.Ytkaldjekjgecbaa
