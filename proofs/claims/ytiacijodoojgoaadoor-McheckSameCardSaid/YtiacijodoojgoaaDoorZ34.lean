/-
  Texts of ours laid together: Rgn.
-/
import Derived.Test.YtiacijodoojgoaaDoorZ33

/-! Rgn -/
namespace Go.Proofs.YtiacijodoojgoaaDoor
open Go.RowKit Go.Shelf
set_option linter.unusedVariables false
attribute [local go_sem] Oper.semAt_some

/-- Another row, as it reads: its address, its length, its room, its elements. -/
abbrev Beside := Option Addr × Nat × Nat × List Int
/-- The row v of the call's own; the rows beside it; nothing that lay in w0 has turned. -/
structure Grows (k : IntKind) (e : TypeId) (w0 W : World) (v : Value) (xs : List Int) (l : List Beside) : Prop where
  below : Below w0.heap.size w0 W
  own : Own k e w0.heap.size W v xs
  side : ∀ r ∈ l, Reads k W r.1 r.2.1 r.2.2.1 r.2.2.2 ∧ ∀ b off, 0 < r.2.1 → r.1 = some ⟨b, off, none⟩ → v.ownBlock ≠ some b
theorem Grows.start {k : IntKind} {e : TypeId} {w0 W : World} {v : Value} {xs : List Int} (h1 : Below w0.heap.size w0 W) (h2 : Own k e w0.heap.size W v xs) : Grows k e w0 W v xs [] := ⟨h1, h2, fun r hr => by cases hr⟩
theorem Grows.then {k : IntKind} {e : TypeId} {w0 W W' : World} {v : Value} {xs : List Int} {l : List Beside} (h : Grows k e w0 W v xs l) (hb : Below W.heap.size W W') : Grows k e w0 W' v xs l :=
  ⟨below_then h.below hb, h.own.below hb, fun r hr => ⟨(h.side r hr).1.below hb, (h.side r hr).2⟩⟩
theorem Grows.drew {k : IntKind} {e : TypeId} {w0 W : World} {v : Value} {xs : List Int} {l : List Beside} (h : Grows k e w0 W v xs l) : Grows k e w0 W.drew v xs l := h.then (below_drew (Below.refl _ _))
/-- A row that has just been made stands beside. -/
theorem Grows.row {k : IntKind} {e : TypeId} {w0 W W' : World} {v : Value} {xs : List Int} {l : List Beside} {a : Option Addr} {n c : Nat} {zs : List Int} (h : Grows k e w0 W v xs l) (hb : Below W.heap.size W W') (hr : Reads k W' a n c zs) (hf : ∀ b off, a = some ⟨b, off, none⟩ → W.heap.size ≤ b) : Grows k e w0 W' v xs ((a, n, c, zs) :: l) := by
  have h' := h.then hb
  refine ⟨h'.below, h'.own, fun r hr' => ?_⟩
  rcases List.mem_cons.1 hr' with rfl | hr'
  · refine ⟨hr, fun b off _ ha hv => ?_⟩
    have h1 := hf b off ha
    have h2 := h.own.blockLt b hv
    omega
  · exact h'.side r hr'
theorem Grows.lit {k : IntKind} {e e' : TypeId} {w0 W : World} {v : Value} {xs : List Int} {l : List Beside} (h : Grows k e w0 W v xs l) (ys : List Int) (hm : ys.length ≤ maxLen) (hwf : ∀ y ∈ ys, (Lit.int k y).wf = true) :
    Grows k e w0 (W.alloc (.cells (ys.map (Value.int k)).toArray e')) v xs ((some ⟨W.heap.size, 0, none⟩, ys.length, ys.length, ys) :: l) :=
  h.row ((Below.refl _ _).alloc (Nat.le_refl _) _) (Reads.lit k e' W ys hm hwf) (fun b off ha => by cases ha; exact Nat.le_refl _)
/-- A literal, made by an operation of such a region. -/
theorem lit_go {k : IntKind} {e e' : TypeId} {w0 W : World} {v : Value} {xs : List Int} {l : List Beside} {K : Act → World → Prop} {a : Act} (h : Grows k e w0 W v xs l) (ys : List Int) (hm : ys.length ≤ maxLen) (hwf : ∀ y ∈ ys, (Lit.int k y).wf = true)
    (hK : ∀ W', Grows k e w0 W' v xs ((some ⟨W.heap.size, 0, none⟩, ys.length, ys.length, ys) :: l) → K a W') : K a (W.alloc (.cells (ys.map (Value.int k)).toArray e')) := hK _ (h.lit ys hm hwf)
section
variable {F : Fence} {n : Nat} {P : Program} {ops : Array Oper} {rest : List Oper} {o : Oper} {a : Act} {K : Act → World → Prop} {Q : Exit → Act → World → Prop} {E : Prop} {t e : TypeId} {k : IntKind} {by_ : Nat}
theorem run_grow (ST : SliceT P t e k by_) (ty : TypeId) {w0 W : World} {v : Value} {xs ys : List Int} {l : List Beside} {ad : Option Addr} {m c : Nat} (h : Grows k e w0 W v xs l) (hm : (ad, m, c, ys) ∈ l) (hlen : xs.length + m < 1000000000000) :
    ∃ a' l' c' W', (Builtin.append_ #[t, t] ty #[v, .slice ad m c]).run P W = .ok (.slice a' l' c') W' ∧ Grows k e w0 W' (.slice a' l' c') (xs ++ ys) l := by
  obtain ⟨i, hi, hz0, hz1, hz2⟩ := info_parts ST.info
  have hsm := ST.small
  have hr := (h.side _ hm).1
  dsimp only at hr
  have hsz := hr.size
  have hn₀ := h.below.size
  by_cases h0 : m = 0
  · subst h0
    obtain rfl : ys = [] := List.eq_nil_of_length_eq_zero hsz
    have hrun : (Builtin.append_ #[t, t] ty #[v, .slice ad 0 c]).run P W = .ok v W := by
      rcases h.own.1.2 with ⟨rfl, _⟩ | ⟨g, cap, cur, rfl, _, _, hnc, _⟩
      · cases ad <;> simp [Builtin.append_, run_underlying ST.under, sizeOf, typeInfo, hi, Builtin.lenOf, Builtin.firstCells, loadCells, loadCellsFrom]
      · cases ad <;> simp [Builtin.append_, run_underlying ST.under, sizeOf, typeInfo, hi, Builtin.lenOf, Builtin.firstCells, hnc, storeCells, loadCells, loadCellsFrom]
    obtain ⟨a', c', rfl, _⟩ := h.own.reads
    exact ⟨_, _, _, _, hrun, by rw [List.append_nil]; exact h⟩
  · obtain ⟨b, off, rfl, hb, hc⟩ := hr.cell (by omega)
    have hmul : (xs.length + m) * by_ ≤ (xs.length + m) * 8 := Nat.mul_le_mul_left _ hsm
    obtain ⟨v', w1, hrun, r1, r2, _, r4⟩ := run_append_own_at (P := P) (w := W) w0.heap.size t ty e i (.int k 0) 1 by_ ST.under hi hz0 hz1 hz2 rfl (by decide) v xs.length (xs.map (Value.int k)) h.own.1 ⟨b, off, none⟩ m c (ys.map (Value.int k)) (by simp [hsz])
      (by
        intro j u hj
        have hjl : j < ys.length := by
          have := (List.getElem?_eq_some_iff.1 hj).1
          simpa using this
        rw [Addr.add_lit, hc j (by omega)]
        simp only [List.getElem?_map, List.getElem?_eq_getElem hjl, Option.map_some, Option.some.injEq] at hj
        subst hj
        simp [hjl]) (ints_oneCell _ _) (by unfold maxLen; omega) (by omega) hn₀
    have ho : Own k e w0.heap.size w1 v' (xs ++ ys) := ⟨by rw [List.length_append, hsz]; simpa using r1, fun z hz => by
      rcases List.mem_append.1 hz with hz | hz
      · exact h.own.2 z hz
      · exact hr.wf z hz⟩
    have hg : Grows k e w0 w1 v' (xs ++ ys) l := by
      refine ⟨h.below.grown r2 hn₀ (fun j ej => (h.own.1.lt j ej).1), ho, fun r hr' => ?_⟩
      obtain ⟨q1, q2⟩ := h.side r hr'
      refine ⟨?_, fun b' off' hp ha hv => ?_⟩
      · by_cases hp : 0 < r.2.1
        · obtain ⟨b', off', ha, hlt, _⟩ := q1.cell hp
          refine q1.sameBlock r2.size fun b2 off2 ha2 => ?_
          rw [ha] at ha2
          cases ha2
          exact r2.block b' hlt (fun hh => q2 b' off' hp ha hh.symm)
        · exact ⟨q1.size, q1.room, q1.top, q1.wf, fun hl => absurd hl hp⟩
      · rcases r4 with r4 | r4
        · exact q2 b' off' hp ha (r4 ▸ hv)
        · rw [r4] at hv
          cases hv
          obtain ⟨b2, off2, ha2, hlt, _⟩ := q1.cell hp
          rw [ha] at ha2
          cases ha2
          exact absurd hlt (Nat.lt_irrefl _)
    obtain ⟨a', c', rfl, _⟩ := ho.reads
    exact ⟨_, _, _, _, hrun, hg⟩
/-- 'append(v, y...)', y one of the rows beside v, as an operation of such a region. -/
theorem opIn_grow (ST : SliceT P t e k by_) {s x : Operand} (ho : o.op = .call { callee := .builtin .append, args := #[s, x], argTypes := #[t, t] }) (hgd : o.guard = none)
    {w0 W : World} {v : Value} {xs : List Int} (ys : List Int) {l : List Beside} {ad : Option Addr} {m c : Nat} (h : Grows k e w0 W v xs l) (hs : a.eval s = v) (hx : a.eval x = .slice ad m c) (hm : (ad, m, c, ys) ∈ l) (hlen : xs.length + m < 1000000000000)
    (hK : ∀ a' l' c' W', Grows k e w0 W' (.slice a' l' c') (xs ++ ys) l → K (a.put o.dst (.slice a' l' c')) W') :
    if Region.wanted o (yielded ops a.tmps) = true then Oper.wpIn F n P o a W K Q else E := by
  have hw : Region.wanted o (yielded ops a.tmps) = true := by simp [Region.wanted, hgd]
  rw [if_pos hw]
  obtain ⟨a', l', c', W', hrun, hp⟩ := run_grow (P := P) ST o.type h hm hlen
  unfold Oper.wpIn
  refine ⟨?_, ?_⟩
  · simp [Oper.about, ho, resolve, Target.leads, Sem.run_pure]
  · rw [Oper.semAt_plain F _ _ (by rw [ho]; intro c hc'; cases hc')]
    simp [execOp, ho, resolve, invoke, builtin, hs, hx, hrun, Result.andThen]
    exact hK _ _ _ _ hp
/-- .. the next of a list of operations. -/
theorem wpListIn_grow (ST : SliceT P t e k by_) (hgd : o.guard = none) (s x : Operand) (ho : o.op = .call { callee := .builtin .append, args := #[s, x], argTypes := #[t, t] })
    {w0 W : World} {v : Value} {xs : List Int} (ys : List Int) {l : List Beside} {ad : Option Addr} {m c : Nat} (h : Grows k e w0 W v xs l) (hs : a.eval s = v) (hx : a.eval x = .slice ad m c) (hm : (ad, m, c, ys) ∈ l) (hlen : xs.length + m < 1000000000000)
    (hK : ∀ a' l' c' W', Grows k e w0 W' (.slice a' l' c') (xs ++ ys) l → wpListIn F n P ops Q rest (a.put o.dst (.slice a' l' c')) W') :
    wpListIn F n P ops Q (o :: rest) a W := by
  refine wpListIn_plain hgd fun K hK' => ?_
  obtain ⟨a', l', c', W', hrun, hp⟩ := run_grow (P := P) ST o.type h hm hlen
  unfold Oper.wpIn
  refine ⟨?_, ?_⟩
  · simp [Oper.about, ho, resolve, Target.leads, Sem.run_pure]
  · rw [Oper.semAt_plain F _ _ (by rw [ho]; intro c hc'; cases hc')]
    simp [execOp, ho, resolve, invoke, builtin, hs, hx, hrun, Result.andThen]
    exact hK' _ _ (hK _ _ _ _ hp)
end
end Go.Proofs.YtiacijodoojgoaaDoor
