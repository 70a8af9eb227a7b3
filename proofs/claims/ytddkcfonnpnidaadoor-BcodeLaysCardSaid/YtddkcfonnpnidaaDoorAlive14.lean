/-
  The law package's own 'alive' of layer 14 answers true.
-/
import Derived.Test.YtddkcfonnpnidaaDoorC14d
import Derived.Test.YtddkcfonnpnidaaDoorD14b
namespace Go.Proofs.YtddkcfonnpnidaaDoor
open Go.RowKit
set_option linter.unusedVariables false

def zgA : List Int := [90, 103, 61, 61]
def zhA : List Int := [90, 104, 61, 61]
theorem v14_a : codE zgA = 0 ∧ codL zgA = [102] := by decide +kernel
theorem v14_b : codE zhA = 3 := by decide +kernel
theorem v14_c : layB [102] = zgA := by decide +kernel
theorem str14_a : strB zgA = { data := #[90, 103, 61, 61] } := by rfl
theorem str14_b : strB [102] = { data := #[102] } := by rfl
theorem al14_a (w : World) (B : Nat) (hB : w.heap.size = B) : Calls Tryd.prog 11 #[.slice (some ⟨B, 0, none⟩) 4 4] (w.alloc (.cells #[.int .u8 90, .int .u8 103, .int .u8 61, .int .u8 61] 5 (4, 5))) fun e w' => ∃ a c, e = .returned (.tuple #[.slice a 1 c, .int .i64 0]) ∧ Reads .u8 w' a 1 c [102] ∧ Below w.heap.size w w' := by
  have h1 := Reads_litB .u8 5 (4, 5) w B hB zgA (by decide) (by decide)
  have h2 := bcode_Read _ 4 4 zgA _ h1 (by decide)
  rw [v14_a.1, v14_a.2] at h2
  refine h2.mono ?_
  rintro e w' ⟨v, rfl, ho, hb⟩
  obtain ⟨a, c, rfl, hr⟩ := ho.reads
  exact ⟨a, c, rfl, hr, ((Below.refl _ _).alloc (Nat.le_refl _) _).trans (hb.mono (by simp))⟩
theorem al14_b (w : World) (B : Nat) (hB : w.heap.size = B) : Calls Tryd.prog 11 #[.slice (some ⟨B, 0, none⟩) 4 4] (w.alloc (.cells #[.int .u8 90, .int .u8 104, .int .u8 61, .int .u8 61] 5 (4, 5))) fun e w' => ∃ v, e = .returned (.tuple #[v, .int .i64 3]) ∧ Below w.heap.size w w' := by
  have h1 := Reads_litB .u8 5 (4, 5) w B hB zhA (by decide) (by decide)
  have h2 := bcode_Read _ 4 4 zhA _ h1 (by decide)
  rw [v14_b] at h2
  refine h2.mono ?_
  rintro e w' ⟨v, rfl, ho, hb⟩
  exact ⟨v, rfl, ((Below.refl _ _).alloc (Nat.le_refl _) _).trans (hb.mono (by simp))⟩
theorem al14_c (w : World) (B : Nat) (hB : w.heap.size = B) : Calls Tryd.prog 5 #[.slice (some ⟨B, 0, none⟩) 1 1] (w.alloc (.cells #[.int .u8 102] 5 (1, 2))) fun e w' => ∃ a c, e = .returned (.slice a 4 c) ∧ Reads .u8 w' a 4 c zgA ∧ Below w.heap.size w w' := by
  have h1 := Reads_litB .u8 5 (1, 2) w B hB [102] (by decide) (by decide)
  have h2 := bcode_Lay _ 1 1 [102] _ h1 (by decide)
  rw [v14_c] at h2
  refine h2.mono ?_
  rintro e w' ⟨v, rfl, ho, hb⟩
  obtain ⟨a, c, rfl, hr⟩ := ho.reads
  exact ⟨a, c, rfl, hr, ((Below.refl _ _).alloc (Nat.le_refl _) _).trans (hb.mono (by simp))⟩
theorem al14_n (w : World) : Calls Tryd.prog 10 #[.int .i64 4] w fun e w' => e = .returned (.int .i64 8) ∧ w = w' := by
  have h1 := bcode_Len 4 w (by decide)
  rwa [show lenB 4 = 8 by decide] at h1

set_option maxHeartbeats 400000 in
theorem alive14_any (w : World) : Calls Tryd.prog 4 #[] w fun e w' => e = .returned (.bool true) ∧ Below w.heap.size w w' := by
  have kc := convB (P := Tryd.prog) (t := 22) (e := 5) Tryd.underlying22 Tryd.underlying5 w w.heap.size rfl
  go_enter Tryd.func4, Tryd.ntmps4
  go_wp2_with (first
    | (go_at_call 11; (with_reducible refine (al14_a w _ rfl).mono ?_); rintro e w1 ⟨a1, c1, rfl, hr1, hb1⟩; have kc2 := convB (P := Tryd.prog) (t := 22) (e := 5) Tryd.underlying22 Tryd.underlying5 w1 w1.heap.size rfl)
    | (go_at_call 11; (with_reducible refine (al14_b w1 _ rfl).mono ?_); rintro e w2 ⟨v2, rfl, hb2⟩; have hb2' := below_then hb1 hb2; have hr2 := hr1.below hb2; have kc3 := convB (P := Tryd.prog) (t := 22) (e := 5) Tryd.underlying22 Tryd.underlying5 w2 w2.heap.size rfl)
    | (go_at_call 5; (with_reducible refine (al14_c w2 _ rfl).mono ?_); rintro e w3 ⟨a3, c3, rfl, hr3, hb3⟩; have hb3' := below_then hb2' hb3; have hr4 := hr2.below hb3; have hs3 := hr3.string (P := Tryd.prog) Tryd.underlying22 Tryd.underlying5 Tryd.underlying9; have hs4 := hr4.string (P := Tryd.prog) Tryd.underlying22 Tryd.underlying5 Tryd.underlying9; rw [str14_a] at hs3; rw [str14_b] at hs4)
    | (go_at_call 10; (with_reducible refine (al14_n _).mono ?_); rintro e w4 ⟨rfl, rfl⟩))
  go_ret
  exact ⟨rfl, hb3'⟩
end Go.Proofs.YtddkcfonnpnidaaDoor
