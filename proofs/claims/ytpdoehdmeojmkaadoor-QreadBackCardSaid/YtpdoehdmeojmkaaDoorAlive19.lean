/-
  The law package's own 'alive' of layer 19 answers true.
-/
import Derived.Test.YtpdoehdmeojmkaaDoorC19
import Derived.Test.YtpdoehdmeojmkaaDoorR19b
namespace Go.Proofs.YtpdoehdmeojmkaaDoor
open Go.RowKit
set_option linter.unusedVariables false

def inR : List Int := [97, 61, 32, 10, 61, 51, 100, 98]
def inZ : List Int := [61, 90, 61]
theorem v19_a : readS inR = [97, 61, 98] := by decide +kernel
theorem v19_b : lineR inZ = [61, 90] := by decide +kernel
theorem v19_c : softB inZ = true := by decide +kernel
theorem v19_d : strS inZ = 1 := by decide +kernel
theorem str19_a : strB [97, 61, 98] = { data := #[97, 61, 98] } := by rfl
theorem str19_b : strB [61, 90] = { data := #[61, 90] } := by rfl
theorem al19_r (w : World) (B : Nat) (hB : w.heap.size = B) (hT : Tabs w) (hm : Mx w) : Calls Tryd.prog 12 #[.slice (some ⟨B, 0, none⟩) 8 8] (w.alloc (.cells #[.int .u8 97, .int .u8 61, .int .u8 32, .int .u8 10, .int .u8 61, .int .u8 51, .int .u8 100, .int .u8 98] 5 (8, 9))) fun e w' => ∃ a c, e = .returned (.slice a 3 c) ∧ Reads .u8 w' a 3 c [97, 61, 98] ∧ Below w.heap.size w w' := by
  have hb := (Below.refl w.heap.size w).alloc (Nat.le_refl _) (.cells #[.int .u8 97, .int .u8 61, .int .u8 32, .int .u8 10, .int .u8 61, .int .u8 51, .int .u8 100, .int .u8 98] 5 (8, 9))
  have h2 := qread_Read _ 8 8 inR _ (Reads_litB .u8 5 (8, 9) w B hB inR (by decide) (by decide)) (by decide) (hT.below hb) (hm.below hb)
  rw [v19_a] at h2
  refine h2.mono ?_
  rintro e w' ⟨a, c, rfl, hr, hb2⟩
  exact ⟨a, c, rfl, hr, hb.trans (hb2.mono (by simp))⟩
theorem al19_l (w : World) (B : Nat) (hB : w.heap.size = B) : Calls Tryd.prog 16 #[.slice (some ⟨B, 0, none⟩) 3 3] (w.alloc (.cells #[.int .u8 61, .int .u8 90, .int .u8 61] 5 (3, 4))) fun e w' => ∃ a c, e = .returned (.tuple #[.slice a 2 c, .bool true]) ∧ Reads .u8 w' a 2 c [61, 90] ∧ Below w.heap.size w w' := by
  have hb := (Below.refl w.heap.size w).alloc (Nat.le_refl _) (.cells #[.int .u8 61, .int .u8 90, .int .u8 61] 5 (3, 4))
  have h2 := qread_LineO _ 3 3 inZ _ (Reads_litB .u8 5 (3, 4) w B hB inZ (by decide) (by decide)) (by decide)
  rw [v19_b, v19_c] at h2
  refine h2.mono ?_
  rintro e w' ⟨v, rfl, ho, hb2⟩
  obtain ⟨a, c, rfl, hr⟩ := ho.reads
  exact ⟨a, c, rfl, hr, hb.trans (hb2.mono (by simp))⟩
theorem al19_s (w : World) (B : Nat) (hB : w.heap.size = B) (hT : Tabs w) (hm : Mx w) : Calls Tryd.prog 13 #[.slice (some ⟨B, 0, none⟩) 3 3] (w.alloc (.cells #[.int .u8 61, .int .u8 90, .int .u8 61] 5 (3, 4))) fun e w' => e = .returned (.int .i64 1) ∧ Below w.heap.size w w' := by
  have hb := (Below.refl w.heap.size w).alloc (Nat.le_refl _) (.cells #[.int .u8 61, .int .u8 90, .int .u8 61] 5 (3, 4))
  have h2 := qread_Strange _ 3 3 inZ _ (Reads_litB .u8 5 (3, 4) w B hB inZ (by decide) (by decide)) (by decide) (hT.below hb) (hm.below hb)
  rw [v19_d] at h2
  refine h2.mono ?_
  rintro e w' ⟨rfl, hb2⟩
  exact ⟨rfl, hb.trans (hb2.mono (by simp))⟩

set_option maxRecDepth 100000 in
set_option maxHeartbeats 1000000 in
theorem alive19_any (w : World) (hT : Tabs w) (hm : Mx w) : Calls Tryd.prog 7 #[] w fun e w' => e = .returned (.bool true) ∧ Below w.heap.size w w' := by
  have kc := convB (P := Tryd.prog) (t := 22) (e := 5) Tryd.underlying22 Tryd.underlying5 w w.heap.size rfl
  have HM := hid hm
  have HT := hid hT
  clear hm hT
  go_enter Tryd.func7, Tryd.ntmps7
  go_wp2_with (first
    | (go_at_call 12; (with_reducible refine (al19_r w _ rfl HT.out HM.out).mono ?_); rintro e w1 ⟨a1, c1, rfl, r1, h1⟩; have kc1 := convB (P := Tryd.prog) (t := 22) (e := 5) Tryd.underlying22 Tryd.underlying5 w1 w1.heap.size rfl)
    | (go_at_call 16; (with_reducible refine (al19_l w1 _ rfl).mono ?_); rintro e w2 ⟨a2, c2, rfl, r2, h2⟩; have t2 := below_then h1 h2; have s1 := (r1.below h2).string (P := Tryd.prog) Tryd.underlying22 Tryd.underlying5 Tryd.underlying9; rw [str19_a] at s1; have s2 := r2.string (P := Tryd.prog) Tryd.underlying22 Tryd.underlying5 Tryd.underlying9; rw [str19_b] at s2; have kc2 := convB (P := Tryd.prog) (t := 22) (e := 5) Tryd.underlying22 Tryd.underlying5 w2 w2.heap.size rfl)
    | (go_at_call 13; (with_reducible refine (al19_s w2 _ rfl (HT.out.below t2) (HM.out.below t2)).mono ?_); rintro e w3 ⟨rfl, h3⟩; have t3 := below_then t2 h3))
  go_ret
  exact ⟨rfl, t3⟩
end Go.Proofs.YtpdoehdmeojmkaaDoor
