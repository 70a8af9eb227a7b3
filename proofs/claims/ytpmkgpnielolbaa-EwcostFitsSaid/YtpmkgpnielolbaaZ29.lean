/-
  Texts of ours laid together: Alive30, Stu.
-/
import Derived.OpenShut
import Derived.WalkKit
import Derived.ChangeSame
import Derived.Deep.CutBlock
import Derived.StillTailTactics
import Derived.Deep.RegionHeld3
import Derived.Test.YtpmkgpnielolbaaZ28

/-! Alive30 -/
namespace Go.Proofs.Ytpmkgpnielolbaa
open Go.RowKit
set_option linter.unusedVariables false

theorem v30_a : ewcL 1 2 [97] = 16 ∧ ewcE 1 2 [97] = 0 ∧ ewcL 1 1 [97] = 19 ∧ ewcE 1 1 [97] = 0 ∧ ewcB 1 [97] = 2 ∧ ewcX 1 1 [97] - ewcX 1 2 [97] = 3 := by decide +kernel
theorem v30_p : ewcP 1 2 [97, 98] 16 = 1 := by decide +kernel
theorem al30_2 (w : World) (B : Nat) (hB : w.heap.size = B) : Calls Try.prog 8 #[.int .i64 1, .int .i64 2, .slice (some ⟨B, 0, none⟩) 1 1] (w.alloc (.cells #[.int .i32 97] 21)) fun e w' => e = .returned (.tuple #[.int .i64 16, .int .i64 0]) ∧ Below w.heap.size w w' := by
  subst hB
  have h2 := ewcost_Len 1 2 _ 1 1 [97] _ (Reads.lit .i32 21 w [97] (by decide) (by decide)) (by decide) (by decide) (by decide)
  rw [v30_a.1, v30_a.2.1] at h2
  refine h2.mono ?_
  rintro e w' ⟨rfl, hb⟩
  exact ⟨rfl, ((Below.refl _ _).alloc (Nat.le_refl _) _).trans (hb.mono (by simp))⟩
theorem al30_1 (w : World) (B : Nat) (hB : w.heap.size = B) : Calls Try.prog 8 #[.int .i64 1, .int .i64 1, .slice (some ⟨B, 0, none⟩) 1 1] (w.alloc (.cells #[.int .i32 97] 21)) fun e w' => e = .returned (.tuple #[.int .i64 19, .int .i64 0]) ∧ Below w.heap.size w w' := by
  subst hB
  have h2 := ewcost_Len 1 1 _ 1 1 [97] _ (Reads.lit .i32 21 w [97] (by decide) (by decide)) (by decide) (by decide) (by decide)
  rw [v30_a.2.2.1, v30_a.2.2.2.1] at h2
  refine h2.mono ?_
  rintro e w' ⟨rfl, hb⟩
  exact ⟨rfl, ((Below.refl _ _).alloc (Nat.le_refl _) _).trans (hb.mono (by simp))⟩
theorem al30_b (w : World) (B : Nat) (hB : w.heap.size = B) : Calls Try.prog 10 #[.int .i64 1, .slice (some ⟨B, 0, none⟩) 1 1] (w.alloc (.cells #[.int .i32 97] 21)) fun e w' => e = .returned (.tuple #[.int .i64 2, .int .i64 0]) ∧ Below w.heap.size w w' := by
  subst hB
  have h2 := ewcost_Better 1 _ 1 1 [97] _ (Reads.lit .i32 21 w [97] (by decide) (by decide)) (by decide) (by decide)
  rw [v30_a.2.2.2.1, v30_a.2.2.2.2.1] at h2
  refine h2.mono ?_
  rintro e w' ⟨rfl, hb⟩
  exact ⟨rfl, ((Below.refl _ _).alloc (Nat.le_refl _) _).trans (hb.mono (by simp))⟩
theorem al30_s (w : World) (B : Nat) (hB : w.heap.size = B) : Calls Try.prog 14 #[.int .i64 1, .slice (some ⟨B, 0, none⟩) 1 1] (w.alloc (.cells #[.int .i32 97] 21)) fun e w' => e = .returned (.int .i64 3) ∧ Below w.heap.size w w' := by
  subst hB
  have h2 := ewcost_Saved 1 _ 1 1 [97] _ (Reads.lit .i32 21 w [97] (by decide) (by decide)) (by decide) (by decide)
  rw [v30_a.2.2.2.2.2] at h2
  refine h2.mono ?_
  rintro e w' ⟨rfl, hb⟩
  exact ⟨rfl, ((Below.refl _ _).alloc (Nat.le_refl _) _).trans (hb.mono (by simp))⟩
theorem al30_p (w : World) (B : Nat) (hB : w.heap.size = B) : Calls Try.prog 17 #[.int .i64 1, .int .i64 2, .slice (some ⟨B, 0, none⟩) 2 2, .int .i64 16] (w.alloc (.cells #[.int .i32 97, .int .i32 98] 21)) fun e w' => e = .returned (.int .i64 1) ∧ Below w.heap.size w w' := by
  subst hB
  have h2 := ewcost_Prefix 1 2 _ 2 2 [97, 98] 16 _ (Reads.lit .i32 21 w [97, 98] (by decide) (by decide)) (by decide) (by decide) (by decide) (by decide)
  rw [v30_p] at h2
  refine h2.mono ?_
  rintro e w' ⟨rfl, hb⟩
  exact ⟨rfl, ((Below.refl _ _).alloc (Nat.le_refl _) _).trans (hb.mono (by simp))⟩
set_option maxHeartbeats 1000000 in
theorem alive30_any (w : World) : Calls Try.prog 7 #[] w fun e w' => e = .returned (.bool true) ∧ Below w.heap.size w w' := by
  go_enter Try.func7, Try.ntmps7
  go_wp2_with (first
    | (go_at_call 8; (with_reducible refine (al30_2 w _ rfl).mono ?_); rintro e w1 ⟨rfl, h1⟩)
    | (go_at_call 8; (with_reducible refine (al30_1 w1 _ rfl).mono ?_); rintro e w2 ⟨rfl, h2⟩; have t2 := below_then h1 h2)
    | (go_at_call 10; (with_reducible refine (al30_b w2 _ rfl).mono ?_); rintro e w3 ⟨rfl, h3⟩; have t3 := below_then t2 h3)
    | (go_at_call 14; (with_reducible refine (al30_s w3 _ rfl).mono ?_); rintro e w4 ⟨rfl, h4⟩; have t4 := below_then t3 h4)
    | (go_at_call 17; (with_reducible refine (al30_p w4 _ rfl).mono ?_); rintro e w5 ⟨rfl, h5⟩; have t5 := below_then t4 h5))
  go_ret
  exact ⟨rfl, t5⟩
end Go.Proofs.Ytpmkgpnielolbaa

/-! Stu -/
namespace Go.Proofs.Ytpmkgpnielolbaa
open Go.RowKit Go.ChangeShapes Go.WideShapes

section
variable {H : Type} {enc : TypeId × Value → H} {P : Program} {w : World} {base : Nat} {spare : Nat → Bool} {held : Bool}
theorem open_str3 {r : Reach} {b0 : Nat} {t e : TypeId} {k : IntKind} {fs : Array Field} {v : Value} {d : DataW H} {ps : List MemPlace} (ht : P.underlying t = some (.struct fs)) (hfs : fs.toList.map (fun f => (f.type, f.offset)) = [(e, 0), (e, 1), (e, 2)]) (he : P.underlying e = some (.int k)) (hc : P.cellsOf e = 1) (hct : P.cellsOf t = 3)
    (hval : Value.okWide P w r b0 t v) (hd : DataW.Trod enc P w base spare held t v d ps) :
    ∃ x y z : Int, v = .agg #[.int k x, .int k y, .int k z] ∧ (Lit.int k x).wf = true ∧ (Lit.int k y).wf = true ∧ (Lit.int k z).wf = true := by
  unfold Value.okWide at hval
  rw [ht] at hval
  obtain ⟨cs, rfl, hsz, _⟩ := hval
  rw [hct] at hsz
  obtain ⟨fuel, hf⟩ := hd
  obtain ⟨xs, n, _, _, _, hlen, hel⟩ := DataW.trod_struct ht hf
  have hl3 : fs.toList.length = 3 := by
    have := congrArg List.length hfs
    simpa using this
  have key : ∀ i, i < 3 → ∃ z, cs[i]? = some (.int k z) ∧ (Lit.int k z).wf = true := by
    intro i hi
    have hif : i < fs.size := by simp at hl3; omega
    have hpr : (fs[i].type, fs[i].offset) = (e, i) := by
      have h1 : (fs.toList.map (fun f => (f.type, f.offset)))[i]? = some (fs[i].type, fs[i].offset) := by simp [hif]
      rw [hfs] at h1
      match i, hi with
      | 0, _ => exact (Option.some.inj h1).symm
      | 1, _ => exact (Option.some.inj h1).symm
      | 2, _ => exact (Option.some.inj h1).symm
    simp only [Prod.mk.injEq] at hpr
    have hE := hel i fs[i] (by simp [hif])
    rw [hpr.1, hpr.2, hc] at hE
    have hxl : i < xs.length := by rw [hlen]; exact hif
    rw [List.getElem?_eq_getElem hxl] at hE
    obtain ⟨z, e1, _, hw⟩ := DataW.trod_int he hE
    refine ⟨z, ?_, hw⟩
    have h0 : (((Value.agg cs).cells.toList.drop i).take 1)[0]? = some (.int k z) := by rw [e1]; rfl
    simpa [Value.cells] using h0
  obtain ⟨x, x1, x2⟩ := key 0 (by decide)
  obtain ⟨y, y1, y2⟩ := key 1 (by decide)
  obtain ⟨z, z1, z2⟩ := key 2 (by decide)
  refine ⟨x, y, z, ?_, x2, y2, z2⟩
  congr 1
  apply Array.ext
  · simpa using hsz
  · intro i h1 h2
    simp at h2
    match i, h2 with
    | 0, _ => simpa [Array.getElem?_eq_getElem h1] using x1
    | 1, _ => simpa [Array.getElem?_eq_getElem h1] using y1
    | 2, _ => simpa [Array.getElem?_eq_getElem h1] using z1
end
end Go.Proofs.Ytpmkgpnielolbaa
