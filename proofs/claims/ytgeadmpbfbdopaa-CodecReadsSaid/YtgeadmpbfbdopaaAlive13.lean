/-
  The law package's own 'alive' of layer 13 answers true.
-/
import Derived.Test.YtgeadmpbfbdopaaC13
namespace Go.Proofs.Ytgeadmpbfbdopaa
open Go.RowKit
set_option linter.unusedVariables false

theorem v13_a : readR 1 [255] = [65533] := by decide +kernel
theorem v13_b : readR 9 [255] = [255] := by decide +kernel
theorem v13_c : layE 5 (readR 2 [233]) = 0 ∧ layL 5 (readR 2 [233]) = [195, 169] := by decide +kernel
theorem v13_d : layE 9 [] = 10 := by decide +kernel
theorem str13 : strB [195, 169] = { data := #[195, 169] } := by rfl
theorem al13_lit (w : World) (x : Int) (h : (Lit.int .u8 x).wf = true) : Reads .u8 (w.alloc (.cells #[.int .u8 x] 5)) (some ⟨w.heap.size, 0, none⟩) 1 1 [x] := Reads.lit .u8 5 w [x] (by simp only [List.length_cons, List.length_nil]; decide) (by simpa using h)
theorem al13_up {w w' : World} {o : Obj} (hb : Below (w.alloc o).heap.size (w.alloc o) w') : Below w.heap.size w w' := ((Below.refl _ _).alloc (Nat.le_refl _) _).trans (hb.mono (by simp))
theorem al13_r (n : Int) (y : Int) (w : World) (h : readR n [255] = [y]) : Calls Try.prog 16 #[.int .i64 n, .slice (some ⟨w.heap.size, 0, none⟩) 1 1] (w.alloc (.cells #[.int .u8 255] 5)) fun e w' => ∃ b off c, e = .returned (.slice (some ⟨b, off, none⟩) 1 c) ∧ b < w'.heap.size ∧ w'.cell? ⟨b, off, none⟩ = some (.int .i32 y) ∧ Below w.heap.size w w' := by
  have h2 := codec_Read n _ 1 1 [255] _ (al13_lit w 255 (by decide)) (by decide)
  rw [h] at h2
  refine h2.mono ?_
  rintro e w' ⟨a, l, c, rfl, hr, hb⟩
  obtain rfl : l = 1 := hr.size.symm
  obtain ⟨b, off, ha, hl, hc⟩ := hr.cell (by omega)
  subst ha
  exact ⟨b, off, c, rfl, hl, hc 0 (by omega), al13_up hb⟩
theorem al13_m (w : World) : Calls Try.prog 14 #[.int .i64 2, .int .i64 5, .slice (some ⟨w.heap.size, 0, none⟩) 1 1] (w.alloc (.cells #[.int .u8 233] 5)) fun e w' => ∃ a c, e = .returned (.tuple #[.slice a 2 c, .int .i64 0]) ∧ Reads .u8 w' a 2 c [195, 169] ∧ Below w.heap.size w w' := by
  have h2 := codec_Move 2 5 _ 1 1 [233] _ (al13_lit w 233 (by decide)) (by decide)
  rw [v13_c.1, v13_c.2] at h2
  refine h2.mono ?_
  rintro e w' ⟨a, l, c, rfl, hr, hb⟩
  obtain rfl : l = 2 := hr.size.symm
  exact ⟨a, c, rfl, hr, al13_up hb⟩
theorem al13_l (w : World) : Calls Try.prog 8 #[.int .i64 9, .slice none 0 0] w fun e w' => ∃ v, e = .returned (.tuple #[v, .int .i64 10]) ∧ Below w.heap.size w w' := by
  have h2 := codec_Lay 9 none 0 0 [] w (Reads.nil _ _ _ _ (Nat.zero_le _)) (by decide)
  rw [v13_d] at h2
  refine h2.mono ?_
  rintro e w' ⟨a, l, c, rfl, hr, hb⟩
  exact ⟨_, rfl, hb⟩

set_option maxHeartbeats 400000 in
theorem alive13_any (w : World) : Calls Try.prog 7 #[] w fun e w' => e = .returned (.bool true) ∧ Below w.heap.size w w' := by
  go_enter Try.func7, Try.ntmps7
  go_wp2_with (first
    | (go_at_call 16; (with_reducible refine (al13_r 1 65533 w v13_a).mono ?_); rintro e w1 ⟨b1, o1, c1, rfl, l1, x1, h1⟩)
    | (go_at_call 16; (with_reducible refine (al13_r 9 255 w1 v13_b).mono ?_); rintro e w2 ⟨b2, o2, c2, rfl, l2, x2, h2⟩; have x1' := (h2.cell (p := ⟨b1, o1, none⟩) l1).trans x1; have l1' := Nat.lt_of_lt_of_le l1 h2.size; have t2 := below_then h1 h2)
    | (go_at_call 14; (with_reducible refine (al13_m w2).mono ?_); rintro e w3 ⟨a3, c3, rfl, r3, h3⟩; have x1'' := (h3.cell (p := ⟨b1, o1, none⟩) l1').trans x1'; have l1'' := Nat.lt_of_lt_of_le l1' h3.size; have x2' := (h3.cell (p := ⟨b2, o2, none⟩) l2).trans x2; have l2' := Nat.lt_of_lt_of_le l2 h3.size; have t3 := below_then t2 h3)
    | (go_at_call 8; (with_reducible refine (al13_l w3).mono ?_); rintro e w4 ⟨v4, rfl, h4⟩; have y1 := (h4.cell (p := ⟨b1, o1, none⟩) l1'').trans x1''; have y2 := (h4.cell (p := ⟨b2, o2, none⟩) l2').trans x2'; have t4 := below_then t3 h4; have s4 := (r3.below h4).string (P := Try.prog) Try.underlying24 Try.underlying5 Try.underlying9; rw [str13] at s4))
  go_ret
  exact ⟨rfl, t4⟩
end Go.Proofs.Ytgeadmpbfbdopaa
