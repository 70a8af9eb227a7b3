/-
  Texts of ours laid together: Alive31, Arr.
-/
import Derived.OpenShut
import Derived.WalkKit
import Derived.Test.YtdglnpkkfkagaaaZ32

/-! Alive31 -/
namespace Go.Proofs.Ytdglnpkkfkagaaa
open Go.RowKit
set_option linter.unusedVariables false

abbrev wd31 : List Int := [61, 63, 105, 115, 111, 45, 56, 56, 53, 57, 45, 49, 63, 81, 63, 61, 69, 57, 63, 61]
theorem v31_a : wrdE [233] 75 = 0 ∧ jnF (wrdL [233] 75) = wd31 ∧ (wrdL [233] 75).length = 1 := by decide +kernel
theorem v31_b : wrdE [233] 10 = 12 := by decide +kernel
theorem str31 : strB wd31 = { data := #[61, 63, 105, 115, 111, 45, 56, 56, 53, 57, 45, 49, 63, 81, 63, 61, 69, 57, 63, 61] } := by rfl
theorem al31_f (w : World) (B : Nat) (hB : w.heap.size = B) : Calls Try.prog 7 #[.slice (some ⟨B, 0, none⟩) 1 1, .int .i64 75] (w.alloc (.cells #[.int .i32 233] 21)) fun e w' => ∃ a' l' c', e = .returned (.tuple #[.slice a' l' c', .int .i64 0]) ∧ Reads .u8 w' a' l' c' wd31 ∧ Below w.heap.size w w' := by
  subst hB
  have h2 := ewcut_Fold _ 1 1 [233] 75 _ (Reads.lit .i32 21 w [233] (by decide) (by decide)) (by decide) (by decide)
  rw [v31_a.1, v31_a.2.1] at h2
  refine h2.mono ?_
  rintro e w' ⟨a', l', c', rfl, hr, hb⟩
  exact ⟨_, _, _, rfl, hr, ((Below.refl _ _).alloc (Nat.le_refl _) _).trans (hb.mono (by simp))⟩
theorem al31_w (w : World) (B : Nat) (hB : w.heap.size = B) : Calls Try.prog 8 #[.slice (some ⟨B, 0, none⟩) 1 1, .int .i64 10] (w.alloc (.cells #[.int .i32 233] 21)) fun e w' => ∃ a' l' c', e = .returned (.tuple #[.slice a' l' c', .int .i64 12]) ∧ Below w.heap.size w w' := by
  subst hB
  have h2 := ewcut_Words _ 1 1 [233] 10 _ (Reads.lit .i32 21 w [233] (by decide) (by decide)) (by decide) (by decide)
  rw [v31_b] at h2
  refine h2.mono ?_
  rintro e w' ⟨a', l', c', rfl, _, hb⟩
  exact ⟨_, _, _, rfl, ((Below.refl _ _).alloc (Nat.le_refl _) _).trans (hb.mono (by simp))⟩
theorem al31_c (w : World) (B : Nat) (hB : w.heap.size = B) : Calls Try.prog 9 #[.slice (some ⟨B, 0, none⟩) 1 1, .int .i64 75] (w.alloc (.cells #[.int .i32 233] 21)) fun e w' => e = .returned (.int .i64 1) ∧ Below w.heap.size w w' := by
  subst hB
  have h2 := ewcut_Count _ 1 1 [233] 75 _ (Reads.lit .i32 21 w [233] (by decide) (by decide)) (by decide) (by decide)
  rw [v31_a.2.2] at h2
  refine h2.mono ?_
  rintro e w' ⟨rfl, hb⟩
  exact ⟨rfl, ((Below.refl _ _).alloc (Nat.le_refl _) _).trans (hb.mono (by simp))⟩
set_option maxHeartbeats 1000000 in
theorem alive31_any (w : World) : Calls Try.prog 4 #[] w fun e w' => e = .returned (.bool true) ∧ Below w.heap.size w w' := by
  go_enter Try.func4, Try.ntmps4
  go_wp2_with (first
    | (go_at_call 7; (with_reducible refine (al31_f w _ rfl).mono ?_); rintro e w1 ⟨a1, l1, c1, rfl, r1, h1⟩)
    | (go_at_call 8; (with_reducible refine (al31_w w1 _ rfl).mono ?_); rintro e w2 ⟨a2, l2, c2, rfl, h2⟩; have t2 := below_then h1 h2; have k2 := (r1.below h2).string (P := Try.prog) Try.underlying31 Try.underlying5 Try.underlying9; rw [str31] at k2)
    | (go_at_call 9; (with_reducible refine (al31_c w2 _ rfl).mono ?_); rintro e w3 ⟨rfl, h3⟩; have t3 := below_then t2 h3))
  go_ret
  exact ⟨rfl, t3⟩
/-- Two lists of rows of signs are the same: the loop's round. -/
theorem like3_draws (ai : Option Addr) (li ci : Nat) (ai2 : Option Addr) (li2 ci2 : Nat) (x : List Int) (w : World) (hx : Reads .i32 w ai li ci x) (hx2 : Reads .i32 w ai2 li2 ci2 x) (q : Nat) :
    Calls Try.prog 6 #[.slice ai li ci, .slice ai2 li2 ci2] (w.drewN q) fun e w' => e = .returned (.bool true) ∧ ∃ m, w' = (w.drewN q).drewN m := by
  have := ref03_Like ai li ci x ai2 li2 ci2 x (w.drewN q) (hx.below (Below.drewN (Below.refl _ _) q)) (hx2.below (Below.drewN (Below.refl _ _) q))
  rwa [decide_eq_true rfl] at this
end Go.Proofs.Ytdglnpkkfkagaaa

/-! Arr -/
namespace Go.Proofs.Ytdglnpkkfkagaaa
open Go.RowKit Go.ChangeShapes Go.WideShapes

section
variable {H : Type} {enc : TypeId × Value → H} {P : Program} {w : World} {base : Nat} {spare : Nat → Bool} {held : Bool}

theorem open_arr {r : Reach} {b0 n : Nat} {t e : TypeId} {k : IntKind} {v : Value} {d : DataW H} {ps : List MemPlace} (ht : P.underlying t = some (.array n e)) (he : P.underlying e = some (.int k)) (hc : P.cellsOf e = 1) (hct : P.cellsOf t = n)
    (hval : Value.okWide P w r b0 t v) (hd : DataW.Trod enc P w base spare held t v d ps) :
    ∃ zs : List Int, zs.length = n ∧ v = .agg (zs.map (Value.int k)).toArray ∧ ∀ z ∈ zs, (Lit.int k z).wf = true := by
  unfold Value.okWide at hval
  rw [ht] at hval
  obtain ⟨cs, rfl, hsz, _⟩ := hval
  rw [hct] at hsz
  obtain ⟨fuel, hf⟩ := hd
  obtain ⟨xs, m, _, _, _, hl, hel⟩ := DataW.trod_array ht hf
  have key : ∀ i, i < n → ∃ z, cs[i]? = some (.int k z) ∧ (Lit.int k z).wf = true := by
    intro i hi
    have hE := hel i hi
    rw [hc, Nat.mul_one, List.getElem?_eq_getElem (by omega)] at hE
    obtain ⟨z, e1, _, hw⟩ := DataW.trod_int he hE
    refine ⟨z, ?_, hw⟩
    have h0 : (((Value.agg cs).cells.toList.drop i).take 1)[0]? = some (.int k z) := by rw [e1]; rfl
    simpa [Value.cells] using h0
  have hz : ∀ i, i < n → ∃ z, cs.toList[i]? = some (.int k z) ∧ (Lit.int k z).wf = true := fun i hi => by
    obtain ⟨z, h1, h2⟩ := key i hi
    exact ⟨z, by simpa using h1, h2⟩
  have main : ∀ (l : List Value), (∀ i, i < l.length → ∃ z, l[i]? = some (.int k z) ∧ (Lit.int k z).wf = true) → ∃ zs : List Int, zs.length = l.length ∧ l = zs.map (Value.int k) ∧ ∀ z ∈ zs, (Lit.int k z).wf = true := by
    intro l
    induction l with
    | nil => intro _; exact ⟨[], rfl, rfl, fun z hz => by cases hz⟩
    | cons u l ih =>
      intro h
      obtain ⟨z, h1, h2⟩ := h 0 (by simp)
      obtain ⟨zs, i1, i2, i3⟩ := ih (fun i hi => by
        obtain ⟨z, h1, h2⟩ := h (i + 1) (by simp; omega)
        exact ⟨z, by simpa using h1, h2⟩)
      simp only [List.getElem?_cons_zero, Option.some.injEq] at h1
      refine ⟨z :: zs, by simp [i1], by simp [h1, i2], fun y hy => ?_⟩
      rcases List.mem_cons.1 hy with rfl | hy
      · exact h2
      · exact i3 y hy
  obtain ⟨zs, i1, i2, i3⟩ := main cs.toList (fun i hi => hz i (by simp at hi; omega))
  refine ⟨zs, by rw [i1]; simpa using hsz, ?_, i3⟩
  rw [← i2]
theorem open_arr2 {r : Reach} {b0 : Nat} {t e : TypeId} {k : IntKind} {v : Value} {d : DataW H} {ps : List MemPlace} (ht : P.underlying t = some (.array 2 e)) (he : P.underlying e = some (.int k)) (hc : P.cellsOf e = 1) (hct : P.cellsOf t = 2)
    (hval : Value.okWide P w r b0 t v) (hd : DataW.Trod enc P w base spare held t v d ps) :
    ∃ x y : Int, v = .agg #[.int k x, .int k y] ∧ (Lit.int k x).wf = true ∧ (Lit.int k y).wf = true := by
  obtain ⟨zs, hl, rfl, hw⟩ := open_arr ht he hc hct hval hd
  match zs, hl with
  | [x, y], _ => exact ⟨x, y, rfl, hw x (by simp), hw y (by simp)⟩
theorem open_arr3 {r : Reach} {b0 : Nat} {t e : TypeId} {k : IntKind} {v : Value} {d : DataW H} {ps : List MemPlace} (ht : P.underlying t = some (.array 3 e)) (he : P.underlying e = some (.int k)) (hc : P.cellsOf e = 1) (hct : P.cellsOf t = 3)
    (hval : Value.okWide P w r b0 t v) (hd : DataW.Trod enc P w base spare held t v d ps) :
    ∃ x y z : Int, v = .agg #[.int k x, .int k y, .int k z] ∧ (Lit.int k x).wf = true ∧ (Lit.int k y).wf = true ∧ (Lit.int k z).wf = true := by
  obtain ⟨zs, hl, rfl, hw⟩ := open_arr ht he hc hct hval hd
  match zs, hl with
  | [x, y, z], _ => exact ⟨x, y, z, rfl, hw x (by simp), hw y (by simp), hw z (by simp)⟩
end
end Go.Proofs.Ytdglnpkkfkagaaa
