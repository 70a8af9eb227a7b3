/-
  The law package's own 'alive' of layer 1 answers true.
-/
import Derived.Test.YtjmjljhicfaalaaOct3
import Derived.Test.YtjmjljhicfaalaaBase2
namespace Go.Proofs.Ytjmjljhicfaalaa
open Go.RowKit

theorem alive_kinds (w : World) : Calls Try.prog 7 #[.int .u8 65] w fun e w' => e = .returned (.int .i64 980) ∧ w = w' := by
  refine (kinds_c 65 w (by decide) (by decide)).mono ?_
  rintro e w' ⟨rfl, rfl⟩
  exact ⟨ret_int (by decide +kernel), rfl⟩
theorem alive_lower (w : World) : Calls Try.prog 11 #[.int .u8 65] w fun e w' => e = .returned (.int .u8 97) ∧ w = w' := by
  refine (lower_c 65 w (by decide) (by decide)).mono ?_
  rintro e w' ⟨rfl, rfl⟩
  exact ⟨ret_int (by decide +kernel), rfl⟩
theorem alive_same (w : World) : Calls Try.prog 22 #[.slice (some ⟨w.heap.size, 0, none⟩) 2 2, .slice (some ⟨w.heap.size + 1, 0, none⟩) 2 2]
    ((w.alloc (.cells #[.int .u8 97, .int .u8 66] 5 (2, 3))).alloc (.cells #[.int .u8 65, .int .u8 98] 5 (2, 3))) fun e w' => e = .returned (.bool true) ∧ Below w.heap.size w w' := by
  have h1 := Reads_lit .u8 5 (2, 3) w [97, 66] (by decide) (by decide)
  have h2 := Reads_lit .u8 5 (2, 3) (w.alloc (.cells #[.int .u8 97, .int .u8 66] 5 (2, 3))) [65, 98] (by decide) (by decide)
  have h1' := h1.below ((Below.refl _ _).alloc (Nat.le_refl _) (.cells #[.int .u8 65, .int .u8 98] 5 (2, 3)))
  have e2 : (w.alloc (.cells #[.int .u8 97, .int .u8 66] 5 (2, 3))).heap.size = w.heap.size + 1 := by simp
  rw [e2] at h2
  refine (same_c _ _ _ _ _ _ _ _ _ h1' h2).mono ?_
  rintro e w' ⟨rfl, n, rfl⟩
  exact ⟨ret_bool (by decide +kernel), Below.drewN (((Below.refl _ _).alloc (Nat.le_refl _) _).alloc (by simp) _) _⟩
theorem alive_trim (w : World) : Calls Try.prog 20 #[.slice (some ⟨w.heap.size, 0, none⟩) 3 3]
    (w.alloc (.cells #[.int .u8 32, .int .u8 120, .int .u8 9] 5 (3, 4))) fun e w' => (∃ a c, e = .returned (.slice a 1 c)) ∧ Below w.heap.size w w' := by
  have h1 := Reads_lit .u8 5 (3, 4) w [32, 120, 9] (by decide) (by decide)
  refine (trim_c _ _ _ _ _ h1 (by decide)).mono ?_
  rintro e w' ⟨a, l, c, rfl, hr, hb⟩
  have e1 : trimL (isB 2) [32, 120, 9] = [120] := by decide +kernel
  rw [e1] at hr
  obtain rfl : 1 = l := hr.size
  exact ⟨⟨a, c, rfl⟩, below_then ((Below.refl _ _).alloc (Nat.le_refl _) _) hb⟩
theorem alive_all (w : World) : Calls Try.prog 16 #[.slice none 0 0, .int .i64 1] w fun e w' => e = .returned (.bool true) ∧ w = w' := by
  refine (all_c none 0 0 [] 1 w (Reads.nil _ _ _ _ (Nat.zero_le _))).mono ?_
  rintro e w' ⟨rfl, rfl⟩
  exact ⟨rfl, rfl⟩

theorem alive_any (w : World) : Calls Try.prog 13 #[] w fun e w' => e = .returned (.bool true) ∧ Below w.heap.size w w' := by
  have kc0 := conv0 (P := Try.prog) (t := 26) (e := 5) Try.underlying26 Try.underlying5
  have kc1 := conv1 (P := Try.prog) (t := 26) (e := 5) Try.underlying26 Try.underlying5
  go_enter Try.func13, Try.ntmps13
  go_wp2_with (first
    | (go_at_call 7; refine (alive_kinds _).mono ?_; rintro e w' ⟨rfl, rfl⟩)
    | (go_at_call 11; refine (alive_lower _).mono ?_; rintro e w' ⟨rfl, rfl⟩)
    | (go_at_call 22; go_must (refine (alive_same _).mono ?_); rintro e w1 ⟨rfl, hb1⟩)
    | (go_at_call 20; go_must (refine (alive_trim _).mono ?_); rintro e w2 ⟨⟨a, c, rfl⟩, hb2⟩)
    | (go_at_call 16; refine (alive_all _).mono ?_; rintro e w' ⟨rfl, rfl⟩))
  go_ret
  exact ⟨rfl, below_then hb1 hb2⟩
end Go.Proofs.Ytjmjljhicfaalaa
