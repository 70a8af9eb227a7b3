/-
  Texts of ours laid together: Rst.
-/
import Derived.Test.YtefhddbbiheadaaGreatZ45

/-! Rst -/
namespace Go.Proofs.YtefhddbbiheadaaGreat
open Go.RowKit
set_option linter.unusedVariables false

theorem OwnG.store1 {k : IntKind} {e : TypeId} {base : Nat} {W : World} {g n c : Nat} {xs : List (List Int)} (h : OwnG (shRow k) e base W (.slice (some ⟨g, 0, none⟩) n c) xs) (j : Nat) (hj : j < n) {ua : Option Addr} {ul uc : Nat} {x : List Int} (hu : Reads k W ua ul uc x) (hoff : Off (some g) ua ul) :
    OwnG (shRow k) e base (W.setCell ⟨g, j, none⟩ (.slice ua ul uc)) (.slice (some ⟨g, 0, none⟩) n c) (xs.set j x) := by
  obtain ⟨a', c', hv⟩ := h.shape
  cases hv
  obtain ⟨vs, h1, h2, h3⟩ := h
  have hT : Turns (fun i => i = g) W (W.setCell ⟨g, j, none⟩ (.slice ua ul uc)) := (Turns.refl _ _).set g j _ rfl
  have h2' : vs.length = xs.length := by rw [h2]; exact Nat.mul_one _
  refine ⟨vs.set j (.slice ua ul uc), by rw [List.length_set]; exact (h1.stored j _).1, by rw [List.length_set, List.length_set, h2], fun i y hi => ?_⟩
  by_cases hij : i = j
  · subst hij
    rw [List.getElem?_set_self hj] at hi
    cases hi
    refine ⟨ua, ul, uc, fun m v hm => ?_, hu.turns hT (fun b off hl ha hb => hoff b off hl ha (by rw [hb])), hoff⟩
    match m, hm with
    | 0, hm =>
      cases hm
      rw [show (shRow k).sz * i + 0 = i by show 1 * i + 0 = i; omega, List.getElem?_set_self (by omega)]
    | m + 1, hm => simp [shRow] at hm
  · rw [List.getElem?_set_ne (Ne.symm hij)] at hi
    obtain ⟨a2, l2, c2, q1, q2, q3⟩ := h3 i y hi
    refine ⟨a2, l2, c2, fun m v hm => ?_, q2.turns hT (fun b off hl ha hb => q3 b off hl ha (by rw [hb]; rfl)), q3⟩
    match m, hm with
    | 0, hm =>
      have := q1 0 v hm
      rw [show (shRow k).sz * i + 0 = i by show 1 * i + 0 = i; omega] at this ⊢
      rw [List.getElem?_set_ne (Ne.symm hij)]
      exact this
    | m + 1, hm => simp [shRow] at hm
theorem OwnG.at1 {k : IntKind} {e : TypeId} {base : Nat} {W : World} {g n c : Nat} {xs : List (List Int)} (h : OwnG (shRow k) e base W (.slice (some ⟨g, 0, none⟩) n c) xs) {j : Nat} (hj : j < n) :
    (∃ a l c', W.cell? ⟨g, j, none⟩ = some (.slice a l c')) ∧ W.frozen? ⟨g, j, none⟩ = false := by
  obtain ⟨a', c', hv⟩ := h.shape
  cases hv
  obtain ⟨vs, h1, h2, h3⟩ := h
  obtain ⟨a2, l2, c2, q1, _, _⟩ := h3 j _ (List.getElem?_eq_getElem hj)
  have q2 := q1 0 _ rfl
  rw [show (shRow k).sz * j + 0 = j by show 1 * j + 0 = j; omega] at q2
  refine ⟨⟨a2, l2, c2, ?_⟩, h1.frozenAt j⟩
  have := h1.cells (g := g) rfl j _ q2
  rwa [Addr.add_lit, Nat.zero_add] at this
/-- Where all of a row's cells are slices, no row of numbers lies. -/
theorem OwnG.full_off {k k' : IntKind} {e : TypeId} {base : Nat} {W : World} {g n : Nat} {xs : List (List Int)} (h : OwnG (shRow k) e base W (.slice (some ⟨g, 0, none⟩) n n) xs) {a : Option Addr} {l c : Nat} {ys : List Int} (hr : Reads k' W a l c ys) : Off (some g) a l := by
  intro b off hl ha hb
  cases hb
  obtain ⟨b', off', ha', _, hcell⟩ := hr.cell hl
  rw [ha] at ha'; cases ha'
  have h0 := hcell 0 hl
  obtain ⟨a', c', hv⟩ := h.shape
  cases hv
  obtain ⟨vs, h1, h2, h3⟩ := h
  have h2' : vs.length = xs.length := by rw [h2]; exact Nat.mul_one _
  rcases h1.2 with ⟨hq, _⟩ | ⟨g', cap', cur, hq, _, hg, _, _, hcs, htk⟩
  · cases hq
  · cases hq
    have hcur : cur.toList = vs := by
      rw [← htk, List.take_of_length_le (by rw [Array.length_toList, hcs]; exact Nat.le_refl _)]
    unfold World.cell? at h0
    rw [hg] at h0
    simp only [Nat.add_zero, Option.isSome_none, Bool.false_eq_true, if_false] at h0
    rw [← Array.getElem?_toList, hcur] at h0
    have hlt := (List.getElem?_eq_some_iff.1 h0).1
    obtain ⟨a2, l2, c2, q1, _, _⟩ := h3 off _ (List.getElem?_eq_getElem (show off < xs.length by omega))
    have q2 := q1 0 _ rfl
    rw [show (shRow k).sz * off + 0 = off by show 1 * off + 0 = off; omega, h0] at q2
    cases q2
section
variable {P : Program} {ops : Array Oper} {rest : List Oper} {o : Oper} {a : Act} {Q : Exit → Act → World → Prop}
/-- 'make([][]T, n)'. -/
theorem wpList_zerosG (k : IntKind) (hgd : o.guard = none) {t e : TypeId} (l c : Operand) (ho : o.op = Op.makeSlice t l c)
    {by_ : Nat} (ht : P.underlying t = some (.slice e)) (hinf : (P.info? e).map (fun i => (i.zero, i.size, i.bytes)) = some (some (.slice none 0 0), 1, by_)) (hby : by_ ≤ 1000)
    {w0 wr : World} {kl kc : IntKind} {n : Nat} (hl : a.eval l = .int kl n) (hc : a.eval c = .int kc n) (hbel : Below w0.heap.size w0 wr) (hlen : n < 100000000000)
    (h : ∀ g w', OwnG (shRow k) e w0.heap.size w' (.slice (some ⟨g, 0, none⟩) n n) (List.replicate n []) → Below w0.heap.size w0 w' → wpList P ops Q rest (a.put o.dst (.slice (some ⟨g, 0, none⟩) n n)) w') :
    wpList P ops Q (o :: rest) a wr := by
  obtain ⟨i0, hi, hz0, hz1, hz2⟩ : ∃ i, P.info? e = some i ∧ i.zero = some (.slice none 0 0) ∧ i.size = 1 ∧ i.bytes = by_ := by
    cases hh : P.info? e with
    | none => rw [hh] at hinf; cases hinf
    | some i =>
      rw [hh] at hinf
      simp only [Option.map_some, Option.some.injEq, Prod.mk.injEq] at hinf
      exact ⟨i, rfl, hinf.1, hinf.2.1, hinf.2.2⟩
  have hmul : i0.bytes * n ≤ 1000 * n := Nat.mul_le_mul_right _ (by omega)
  refine wpList_make_full _ hgd l c t ho w0.heap.size e i0 (.slice none 0 0) 1 ht hi hz0 hz1 kl kc n n n hl hc rfl rfl (by omega) (by unfold maxLen; omega) hbel.size ?_
  intro w' hown hgrow
  refine h _ w' ⟨List.replicate n (.slice none 0 0), ?_, by simp [shRow], fun i x hx => ?_⟩ (hbel.grown hgrow hbel.size (fun j hj => by cases hj))
  · have e1 : (madeCells (Value.slice none 0 0).cells (n * 1)).toList = List.replicate n (.slice none 0 0) := by
      rw [Nat.mul_one]
      exact toList_madeCells_one _ _
    rw [e1] at hown
    simpa [shRow] using hown
  · obtain ⟨hlt, hxe⟩ := List.getElem?_eq_some_iff.1 hx
    rw [List.length_replicate] at hlt
    rw [List.getElem_replicate] at hxe
    subst hxe
    refine ⟨none, 0, 0, fun m v hm => ?_, Reads.nil _ _ _ _ (Nat.zero_le _), fun b off hl => absurd hl (Nat.lt_irrefl _)⟩
    match m, hm with
    | 0, hm =>
      cases hm
      rw [show (shRow k).sz * i + 0 = i by show 1 * i + 0 = i; omega, List.getElem?_replicate, if_pos hlt]
    | m + 1, hm => simp [shRow] at hm
end
/-- A list that is filled from the front. -/
theorem fill_rows {α : Type} (f : α → List Int) (L : List α) {j : Nat} {x : α} (hg : L[j]? = some x) (ht : L.take (j + 1) = L.take j ++ [x]) :
    ((L.take j).map f ++ List.replicate (L.length - j) []).set j (f x) = (L.take (j + 1)).map f ++ List.replicate (L.length - (j + 1)) [] := by
  have hj : j < L.length := (List.getElem?_eq_some_iff.1 hg).1
  have h1 : ((L.take j).map f).length = j := by rw [List.length_map, List.length_take]; omega
  rw [List.set_append_right j _ (by omega), h1, Nat.sub_self, ht, List.map_append, List.append_assoc]
  congr 1
  obtain ⟨m, hm⟩ : ∃ m, L.length - j = m + 1 := ⟨L.length - j - 1, by omega⟩
  rw [hm, show L.length - (j + 1) = m by omega, List.replicate_succ]
  rfl
end Go.Proofs.YtefhddbbiheadaaGreat
