/-
  'append(s, ys...)' to a row of the call's own, in a plain region and in one that draws its order: no other block turns (speaks of no program).
-/
import Derived.Test.YtpohmcjdifikaaaDoorStmB
namespace Go.Proofs.YtpohmcjdifikaaaDoor
open Go.RowKit

theorem grown_any {w w' : World} (h : w.grownBy w' none) (row : Option Nat) : w.grownBy w' row := ⟨h.os, h.tape, h.output, h.size, fun k hk _ => h.block k hk (by simp)⟩
theorem grown_of {w w' : World} (h : Below w.heap.size w w') (row : Option Nat) : w.grownBy w' row := ⟨h.os, h.tape, h.output, h.size, fun k hk _ => h.block k hk⟩
section
variable {P : Program} {ops : Array Oper} {rest : List Oper} {o : Oper} {a : Act} {K : Act → World → Prop} {Q : Exit → Act → World → Prop} {E : Prop} {t e : TypeId} {k : IntKind} {by_ : Nat}

theorem run_moreO (ST : SliceT P t e k by_) (ty : TypeId) {W : World} {v : Value} {xs ys : List Int} {ao : Option Addr} {m c : Nat} {B0 : Nat}
    (hown : Own k e B0 W v xs) (hB : B0 ≤ W.heap.size) (hr : Reads k W ao m c ys) (hlen : xs.length + m < 1000000000000) :
    ∃ a' n' c' w', (Builtin.append_ #[t, t] ty #[v, .slice ao m c]).run P W = .ok (.slice a' n' c') w' ∧ Own k e B0 w' (.slice a' n' c') (xs ++ ys) ∧ W.grownBy w' v.ownBlock := by
  obtain ⟨i, hi, hz0, hz1, hz2⟩ := info_parts ST.info
  have hsm := ST.small
  have hsz := hr.size
  by_cases hm : m = 0
  · subst hm
    obtain rfl : ys = [] := List.eq_nil_of_length_eq_zero hsz
    have hrun : (Builtin.append_ #[t, t] ty #[v, .slice ao 0 c]).run P W = .ok v W := by
      rcases hown.1.2 with ⟨rfl, _⟩ | ⟨g, cap, cur, rfl, _, _, hnc, _⟩
      · cases ao <;> simp [Builtin.append_, run_underlying ST.under, sizeOf, typeInfo, hi, Builtin.lenOf, Builtin.firstCells, loadCells, loadCellsFrom]
      · cases ao <;> simp [Builtin.append_, run_underlying ST.under, sizeOf, typeInfo, hi, Builtin.lenOf, Builtin.firstCells, hnc, storeCells, loadCells, loadCellsFrom]
    obtain ⟨a', n', c', rfl⟩ := hown.shape
    exact ⟨a', n', c', W, hrun, by simpa using hown, ⟨rfl, rfl, rfl, Nat.le_refl _, fun _ _ _ => rfl⟩⟩
  · obtain ⟨b, off, rfl, hb, hc⟩ := hr.cell (by omega)
    have hmul : (xs.length + m) * by_ ≤ (xs.length + m) * 8 := Nat.mul_le_mul_left _ hsm
    obtain ⟨v', w1, hrun, r1, r2, _, _⟩ := run_append_own_at (P := P) (w := W) B0 t ty e i (.int k 0) 1 by_ ST.under hi hz0 hz1 hz2 rfl (by decide) v xs.length (xs.map (Value.int k)) hown.1 ⟨b, off, none⟩ m c (ys.map (Value.int k)) (by simp [hsz])
      (by
        intro j u hj
        have hjl : j < ys.length := by
          have := (List.getElem?_eq_some_iff.1 hj).1
          simpa using this
        rw [Addr.add_lit, hc j (by omega)]
        simp only [List.getElem?_map, List.getElem?_eq_getElem hjl, Option.map_some, Option.some.injEq] at hj
        subst hj
        simp [hjl])
      (ints_oneCell _ _) (by unfold maxLen; omega) (by omega) hB
    have hO : Own k e B0 w1 v' (xs ++ ys) := ⟨by simpa [hsz] using r1, fun z hz => by
      rcases List.mem_append.1 hz with hz | hz
      · exact hown.2 z hz
      · exact hr.wf z hz⟩
    obtain ⟨a', n', c', rfl⟩ := hO.shape
    exact ⟨a', n', c', w1, hrun, hO, r2⟩
theorem wpList_moreO (ST : SliceT P t e k by_) (hgd : o.guard = none) (s x : Operand) (ho : o.op = .call { callee := .builtin .append, args := #[s, x], argTypes := #[t, t] })
    {W : World} {v : Value} {xs ys : List Int} {ao : Option Addr} {m c : Nat} {B0 : Nat} (hs : a.eval s = v) (hx : a.eval x = .slice ao m c)
    (hown : Own k e B0 W v xs) (hB : B0 ≤ W.heap.size) (hr : Reads k W ao m c ys) (hlen : xs.length + m < 1000000000000)
    (h : ∀ a' n' c' w', Own k e B0 w' (.slice a' n' c') (xs ++ ys) → W.grownBy w' v.ownBlock → wpList P ops Q rest (a.put o.dst (.slice a' n' c')) w') : wpList P ops Q (o :: rest) a W := by
  obtain ⟨a', n', c', w', hrun, h1, h2⟩ := run_moreO (P := P) ST o.type hown hB hr hlen
  refine wpList_plain hgd fun K hK => ?_
  unfold Oper.wp
  simp [execOp, ho, resolve, invoke, builtin, hs, hx, hrun, Result.andThen]
  exact hK _ _ (h _ _ _ _ h1 h2)
theorem step_moreO (ST : SliceT P t e k by_) (hgd : o.guard = none) (s x : Operand) (ho : o.op = .call { callee := .builtin .append, args := #[s, x], argTypes := #[t, t] })
    {W : World} {v : Value} {xs ys : List Int} {ao : Option Addr} {m c : Nat} {B0 : Nat} (hs : a.eval s = v) (hx : a.eval x = .slice ao m c)
    (hown : Own k e B0 W v xs) (hB : B0 ≤ W.heap.size) (hr : Reads k W ao m c ys) (hlen : xs.length + m < 1000000000000)
    (h : ∀ a' n' c' w', Own k e B0 w' (.slice a' n' c') (xs ++ ys) → W.grownBy w' v.ownBlock → K (a.put o.dst (.slice a' n' c')) w') :
    if Region.wanted o (yielded ops a.tmps) = true then Oper.wp P o a W K Q else E := by
  obtain ⟨a', n', c', w', hrun, h1, h2⟩ := run_moreO (P := P) ST o.type hown hB hr hlen
  have hw : Region.wanted o (yielded ops a.tmps) = true := by simp [Region.wanted, hgd]
  rw [if_pos hw]
  unfold Oper.wp
  simp [execOp, ho, resolve, invoke, builtin, hs, hx, hrun, Result.andThen]
  exact h _ _ _ _ h1 h2
end
end Go.Proofs.YtpohmcjdifikaaaDoor
