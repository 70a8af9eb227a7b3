/-
  The law package's own 'alive' of layer 28 answers true.
-/
import Derived.Test.YtdipabcoeloeoaaC28
import Derived.Test.YtdipabcoeloeoaaR01k
namespace Go.Proofs.Ytdipabcoeloeoaa
open Go.RowKit
set_option linter.unusedVariables false

theorem like28 (a : Option Addr) (len cap : Nat) (a2 : Option Addr) (len2 cap2 : Nat) (xs : List Int) (w : World) (hr : Reads .u8 w a len cap xs) (hr2 : Reads .u8 w a2 len2 cap2 xs) :
    Calls Try.prog 16 #[.slice a len cap, .slice a2 len2 cap2] w fun e w' => e = .returned (.bool true) ∧ Below w.heap.size w w' := by
  have := like_r a len cap xs a2 len2 cap2 xs w hr hr2
  rw [decide_eq_true rfl] at this
  refine this.mono ?_
  rintro e w' ⟨rfl, n, rfl⟩
  exact ⟨rfl, Below.drewN (Below.refl _ _) n⟩
def al28 : List Int := [32, 40, 97, 32, 40, 98, 41, 41, 32, 99]
theorem v28_t : (tokA al28 9).1 = [99] ∧ (tokA al28 9).2.1 = 10 ∧ (tokA al28 9).2.2 = 0 := by decide +kernel
theorem v28_g : gapP al28 0 = 9 := by decide +kernel
theorem v28_d : depN (al28.drop 1) = 2 := by decide +kernel
theorem v28_l : layA [97, 32, 98] = [34, 97, 32, 98, 34] := by decide +kernel
theorem str28_a : strB [99] = { data := #[99] } := by rfl
theorem str28_b : strB [34, 97, 32, 98, 34] = { data := #[34, 97, 32, 98, 34] } := by rfl
theorem al28_t (w : World) (B : Nat) (hB : w.heap.size = B) : Calls Try.prog 14 #[.slice (some ⟨B, 0, none⟩) 10 10, .int .i64 9] (w.alloc (.cells #[.int .u8 32, .int .u8 40, .int .u8 97, .int .u8 32, .int .u8 40, .int .u8 98, .int .u8 41, .int .u8 41, .int .u8 32, .int .u8 99] 5 (10, 11))) fun e w' => ∃ a c, e = .returned (.tuple #[.slice a 1 c, .int .i64 10, .int .i64 0]) ∧ Reads .u8 w' a 1 c [99] ∧ Reads .u8 w' (some ⟨B, 0, none⟩) 10 10 al28 ∧ Below w.heap.size w w' := by
  have rs := Reads_litB .u8 5 (10, 11) w B hB al28 (by decide) (by decide)
  have h2 := atom_Token _ 10 10 al28 9 _ rs (by decide) (by decide)
  rw [v28_t.1, v28_t.2.1, v28_t.2.2] at h2
  refine h2.mono ?_
  rintro e w' ⟨a, l, c, rfl, hr, hb⟩
  obtain rfl : 1 = l := hr.size
  exact ⟨a, c, rfl, hr, rs.below hb, ((Below.refl _ _).alloc (Nat.le_refl _) _).trans (hb.mono (by simp))⟩
theorem al28_l (w : World) (B : Nat) (hB : w.heap.size = B) : Calls Try.prog 19 #[.slice (some ⟨B, 0, none⟩) 3 3] (w.alloc (.cells #[.int .u8 97, .int .u8 32, .int .u8 98] 5 (3, 4))) fun e w' => ∃ a c, e = .returned (.slice a 5 c) ∧ Reads .u8 w' a 5 c [34, 97, 32, 98, 34] ∧ Below w.heap.size w w' := by
  have h2 := atom_Lay _ 3 3 [97, 32, 98] _ (Reads_litB .u8 5 (3, 4) w B hB [97, 32, 98] (by decide) (by decide)) (by decide)
  rw [v28_l] at h2
  refine h2.mono ?_
  rintro e w' ⟨a, l, c, rfl, hr, hb⟩
  obtain rfl : 5 = l := hr.size
  exact ⟨a, c, rfl, hr, ((Below.refl _ _).alloc (Nat.le_refl _) _).trans (hb.mono (by simp))⟩
theorem al28_p {W : World} {B : Nat} (h : Reads .u8 W (some ⟨B, 0, none⟩) 10 10 al28) : Reads .u8 W (some ⟨B, 1, none⟩) 9 9 (al28.drop 1) := by
  have := h.piece (l := 1) (r := 10) (by decide) (by decide)
  exact this
set_option maxRecDepth 100000 in
set_option maxHeartbeats 1000000 in
theorem alive28_any (w : World) : Calls Try.prog 7 #[] w fun e w' => e = .returned (.bool true) ∧ Below w.heap.size w w' := by
  have kc := convB (P := Try.prog) (t := 22) (e := 5) Try.underlying22 Try.underlying5 w w.heap.size rfl
  have HG := hid (fun W B (h : Reads .u8 W (some ⟨B, 0, none⟩) 10 10 al28) => by have := atom_Gap _ 10 10 al28 0 W h (by decide) (by decide); rwa [v28_g] at this)
  have HD := hid (fun W B (h : Reads .u8 W (some ⟨B, 0, none⟩) 10 10 al28) => by have := atom_Depth _ 9 9 _ W (al28_p h) (by decide); rwa [v28_d] at this)
  go_enter Try.func7, Try.ntmps7
  go_wp2_with (first
    | (go_at_call 14; (with_reducible refine (al28_t w _ rfl).mono ?_); rintro e w1 ⟨a1, c1, rfl, q1, s1, h1⟩)
    | (go_at_call 10; (with_reducible refine (HG.out _ _ s1).mono ?_); rintro e w2 ⟨rfl, h2⟩; have t2 := below_then h1 h2; have s2 := s1.below h2; have q2 := q1.below h2)
    | (go_at_call 12; (with_reducible refine (HD.out _ _ s2).mono ?_); rintro e w3 ⟨rfl, h3⟩; have t3 := below_then t2 h3; have q3 := q2.below h3; have k3 := q3.string (P := Try.prog) Try.underlying22 Try.underlying5 Try.underlying9; rw [str28_a] at k3; have kc3 := convB (P := Try.prog) (t := 22) (e := 5) Try.underlying22 Try.underlying5 w3 w3.heap.size rfl)
    | (go_at_call 19; (with_reducible refine (al28_l w3 _ rfl).mono ?_); rintro e w4 ⟨a4, c4, rfl, q4, h4⟩; have t4 := below_then t3 h4; have k4 := q4.string (P := Try.prog) Try.underlying22 Try.underlying5 Try.underlying9; rw [str28_b] at k4))
  go_ret
  exact ⟨rfl, t4⟩
end Go.Proofs.Ytdipabcoeloeoaa
