/-
  Append several to a row of the call's own: what is read beside it stays.
-/
import Derived.Test.YtbhmhpcabppgmaaBase2
import Derived.ArgAppend
namespace Go.Proofs.Ytbhmhpcabppgmaa
open Go.RowKit
set_option linter.unusedVariables false

theorem own_mono' {k : IntKind} {e : TypeId} {base base' : Nat} {w : World} {v : Value} {xs : List Int} (h : Own k e base w v xs) (hb : base' ≤ base) : Own k e base' w v xs := by
  refine ⟨⟨h.1.1, ?_⟩, h.2⟩
  rcases h.1.2 with h' | ⟨g, cap, cur, h1, h2, h3⟩
  · exact .inl h'
  · exact .inr ⟨g, cap, cur, h1, Nat.le_trans hb h2, h3⟩
theorem Own.fresh {k : IntKind} {e : TypeId} {base : Nat} {w : World} {a : Option Addr} {n c : Nat} {xs : List Int} (h : Own k e base w (.slice a n c) xs) : ∀ b off, a = some ⟨b, off, none⟩ → base ≤ b := by
  intro b off ha
  rcases h.1.2 with ⟨hv, _⟩ | ⟨g, cap, cur, hv, hg, _⟩
  · cases hv; cases ha
  · cases hv; cases ha; exact hg
theorem Own.blockLt {k : IntKind} {e : TypeId} {base : Nat} {w : World} {v : Value} {xs : List Int} (h : Own k e base w v xs) : ∀ j, v.ownBlock = some j → j < w.heap.size := fun j hj => (h.1.lt j hj).2
theorem Reads.sameBlock {k : IntKind} {w w' : World} {a : Option Addr} {len cap : Nat} {xs : List Int} (h : Reads k w a len cap xs) (hs : w.heap.size ≤ w'.heap.size) (hb : ∀ b off, a = some ⟨b, off, none⟩ → w'.heap[b]? = w.heap[b]?) : Reads k w' a len cap xs := by
  refine ⟨h.size, h.room, h.top, h.wf, fun hl => ?_⟩
  obtain ⟨b, off, ha, hlt, hc⟩ := h.cell hl
  refine ⟨b, off, ha, Nat.lt_of_lt_of_le hlt hs, fun i hi => ?_⟩
  rw [World.cell?_of_block (w := w) (hb b off ha)]
  exact hc i hi
section
variable {P : Program} {ops : Array Oper} {rest : List Oper} {o : Oper} {a : Act} {Q : Exit → Act → World → Prop} {t e : TypeId} {k : IntKind} {by_ : Nat}
theorem wpList_pushsK (ST : SliceT P t e k by_) (ys : List Int) (hgd : o.guard = none) (s x : Operand) (ho : o.op = .call { callee := .builtin .append, args := #[s, x], argTypes := #[t, t] })
    {w0 wr : World} {e' : TypeId} {v : Value} {xs : List Int} (hs : a.eval s = v) (hx : ∃ c, a.eval x = .slice (some ⟨wr.heap.size, 0, none⟩) ys.length c)
    (hown : Own k e w0.heap.size wr v xs) (hbel : Below w0.heap.size w0 wr) (hlen : xs.length + ys.length < 1000000000000) (hwf : ∀ y ∈ ys, (Lit.int k y).wf = true)
    (h : ∀ v' w', Own k e w0.heap.size w' v' (xs ++ ys) → Below w0.heap.size w0 w' →
      (∀ (k2 : IntKind) (ao : Option Addr) (n c : Nat) (zs : List Int), Reads k2 wr ao n c zs → (∀ b off, ao = some ⟨b, off, none⟩ → v.ownBlock ≠ some b) → Reads k2 w' ao n c zs) → wpList P ops Q rest (a.put o.dst v') w') :
    wpList P ops Q (o :: rest) a (wr.alloc (.cells (ys.map (Value.int k)).toArray e')) := by
  obtain ⟨i, hi, hz0, hz1, hz2⟩ := info_parts ST.info
  obtain ⟨c, hx⟩ := hx
  have hsm := ST.small
  have hmul : (xs.length + ys.length) * by_ ≤ (xs.length + ys.length) * 8 := Nat.mul_le_mul_left _ hsm
  refine wpList_append_own _ hgd s x t ho w0.heap.size e i (.int k 0) 1 by_ ST.under hi hz0 hz1 hz2 rfl (by decide) v xs.length (xs.map (Value.int k)) hs (hown.1.alloc _) ⟨wr.heap.size, 0, none⟩ ys.length c (ys.map (Value.int k)) hx (by simp) ?_ (ints_oneCell _ _) (by unfold maxLen; omega) (by omega)
    (Nat.le_trans hbel.size (by simp)) ?_
  · intro j u hj
    rw [Addr.add_lit, World.cell?_alloc_at _ _ _ _ rfl]
    simpa using hj
  · intro v' w' hown' hgrow _
    refine h v' w' ⟨by simpa using hown', ?_⟩ ((hbel.alloc hbel.size _).grown hgrow (Nat.le_trans hbel.size (by simp)) (fun j hj => (hown.1.lt j hj).1)) ?_
    · intro z hz
      rcases List.mem_append.1 hz with hz | hz
      · exact hown.2 z hz
      · exact hwf z hz
    · intro k2 ao n c2 zs hr hne
      have h1 : Reads k2 (wr.alloc (.cells (ys.map (Value.int k)).toArray e')) ao n c2 zs := hr.below ((Below.refl _ _).alloc (Nat.le_refl _) _)
      by_cases hn : 0 < n
      · obtain ⟨b, off, ha, hlt, _⟩ := h1.cell hn
        refine h1.sameBlock hgrow.size fun b' off' ha' => ?_
        rw [ha] at ha'
        cases ha'
        exact hgrow.block b hlt (fun hh => hne b off ha hh.symm)
      · exact ⟨h1.size, h1.room, h1.top, h1.wf, fun hl => absurd hl hn⟩
/-- Append to a full slice that is not the call's own: a new row. -/
theorem wpList_grows (ST : SliceT P t e k by_) (hgd : o.guard = none) (s x : Operand) (ho : o.op = .call { callee := .builtin .append, args := #[s, x], argTypes := #[t, t] })
    {w0 wr : World} {b1 : Addr} {n cap m c : Nat} {a2 : Option Addr} {xs ys : List Int} (hs : a.eval s = .slice (some b1) n cap) (hx : a.eval x = .slice a2 m c)
    (hr1 : Reads k wr (some b1) n cap xs) (hr2 : Reads k wr a2 m c ys) (hbel : Below w0.heap.size w0 wr) (hm : 0 < m) (hfull : cap < n + m) (hlen : n + m < 1000000000000)
    (h : ∀ v' w', Own k e w0.heap.size w' v' (xs ++ ys) → Below w0.heap.size w0 w' → wpList P ops Q rest (a.put o.dst v') w') :
    wpList P ops Q (o :: rest) a wr := by
  obtain ⟨i, hi, hz0, hz1, hz2⟩ := info_parts ST.info
  have hsm := ST.small
  have hmul : (n + m) * by_ ≤ (n + m) * 8 := Nat.mul_le_mul_left _ hsm
  have s1 := hr1.size
  have s2 := hr2.size
  obtain ⟨b, off, rfl, hb, hc⟩ := hr2.cell hm
  refine wpList_append_grows wr hgd s x t ho e i (.int k 0) 1 by_ ST.under hi hz0 hz1 hz2 rfl (by decide) (some b1) n cap (xs.map (Value.int k)) hs (fun hh => by cases hh) (by simp [s1]) ?_ ⟨b, off, none⟩ m c (ys.map (Value.int k)) hx (by simp [s2]) ?_ (ints_oneCell _ _) hfull (by unfold maxLen; omega) (by omega) ?_
  · intro b' hb' j u hj
    have hjl : j < xs.length := by have := (List.getElem?_eq_some_iff.1 hj).1; simpa using this
    obtain ⟨b0, off0, ha, _, hc0⟩ := hr1.cell (by omega)
    cases hb'
    cases ha
    rw [Addr.add_lit, hc0 j (by omega), ← hj, List.getElem?_map, List.getD_eq_getElem?_getD, List.getElem?_eq_getElem hjl]
    rfl
  · intro j u hj
    have hjl : j < ys.length := by have := (List.getElem?_eq_some_iff.1 hj).1; simpa using this
    rw [Addr.add_lit, hc j (by omega), ← hj, List.getElem?_map, List.getD_eq_getElem?_getD, List.getElem?_eq_getElem hjl]
    rfl
  · intro v' w' hown hgrow
    refine h v' w' (own_mono' ⟨by simpa [s1, s2] using hown, ?_⟩ hbel.size) (hbel.grown hgrow hbel.size (fun j hj => by cases hj))
    intro z hz
    rcases List.mem_append.1 hz with hz | hz
    · exact hr1.wf z hz
    · exact hr2.wf z hz
end
end Go.Proofs.Ytbhmhpcabppgmaa
