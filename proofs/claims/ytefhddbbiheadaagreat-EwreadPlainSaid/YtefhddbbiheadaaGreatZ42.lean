/-
  Texts of ours laid together: Stm, StmB, Grb, Cvt.
-/
import Derived.Laws.IdiomStrings
import Derived.Test.YtefhddbbiheadaaGreatZ41

/-! Stm -/
namespace Go.Proofs.YtefhddbbiheadaaGreat
open Go.RowKit

section
variable {P : Program} {ops : Array Oper} {o : Oper} {a : Act} {K : Act → World → Prop} {Q : Exit → Act → World → Prop} {E : Prop} {t e : TypeId} {k : IntKind} {by_ : Nat}

theorem step_more (ST : SliceT P t e k by_) (hgd : o.guard = none) (s x : Operand) (ho : o.op = .call { callee := .builtin .append, args := #[s, x], argTypes := #[t, t] })
    {w0 wr : World} {v : Value} {xs ys : List Int} {ao : Option Addr} {m c : Nat} (hs : a.eval s = v) (hx : a.eval x = .slice ao m c)
    (hown : Own k e w0.heap.size wr v xs) (hbel : Below w0.heap.size w0 wr) (hr : Reads k wr ao m c ys) (hlen : xs.length + m < 1000000000000)
    (h : ∀ v' w', Own k e w0.heap.size w' v' (xs ++ ys) → Below w0.heap.size w0 w' → K (a.put o.dst v') w') :
    if Region.wanted o (yielded ops a.tmps) = true then Oper.wp P o a wr K Q else E := by
  obtain ⟨i, hi, hz0, hz1, hz2⟩ := info_parts ST.info
  have hsm := ST.small
  have hsz := hr.size
  have hw : Region.wanted o (yielded ops a.tmps) = true := by simp [Region.wanted, hgd]
  rw [if_pos hw]
  by_cases hm : m = 0
  · subst hm
    obtain rfl : ys = [] := List.eq_nil_of_length_eq_zero hsz
    have hrun : (Builtin.append_ #[t, t] o.type #[v, .slice ao 0 c]).run P wr = .ok v wr := by
      rcases hown.1.2 with ⟨rfl, _⟩ | ⟨g, cap, cur, rfl, _, _, hnc, _⟩
      · cases ao <;> simp [Builtin.append_, run_underlying ST.under, sizeOf, typeInfo, hi, Builtin.lenOf, Builtin.firstCells, loadCells, loadCellsFrom]
      · cases ao <;> simp [Builtin.append_, run_underlying ST.under, sizeOf, typeInfo, hi, Builtin.lenOf, Builtin.firstCells, hnc, storeCells, loadCells, loadCellsFrom]
    unfold Oper.wp
    simp [execOp, ho, resolve, invoke, builtin, hs, hx, hrun, Result.andThen]
    exact h v wr (by simpa using hown) hbel
  · obtain ⟨b, off, rfl, hb, hc⟩ := hr.cell (by omega)
    have hmul : (xs.length + m) * by_ ≤ (xs.length + m) * 8 := Nat.mul_le_mul_left _ hsm
    refine wp_append_lies _ s x t ho w0.heap.size e i (.int k 0) 1 by_ ST.under hi hz0 hz1 hz2 rfl (by decide) v xs.length (xs.map (Value.int k)) hs hown.1 ⟨b, off, none⟩ m c (ys.map (Value.int k)) hx (by simp [hsz]) ?_ (ints_oneCell _ _) (by omega) (by unfold maxLen; omega) (by omega)
      hbel.size _ rfl ?_
    · intro j u hj
      have hjl : j < ys.length := by
        have := (List.getElem?_eq_some_iff.1 hj).1
        simpa using this
      rw [Addr.add_lit, hc j (by omega)]
      simp only [List.getElem?_map, List.getElem?_eq_getElem hjl, Option.map_some, Option.some.injEq] at hj
      subst hj
      simp [hjl]
    · intro g cap w' hown' hgrow _ _
      refine h _ w' ⟨by simpa [hsz] using hown', ?_⟩ (hbel.grown hgrow hbel.size (fun j hj => (hown.1.lt j hj).1))
      intro z hz
      rcases List.mem_append.1 hz with hz | hz
      · exact hown.2 z hz
      · exact hr.wf z hz
end
end Go.Proofs.YtefhddbbiheadaaGreat

/-! StmB -/
namespace Go.Proofs.YtefhddbbiheadaaGreat
open Go.RowKit

theorem size_set (w : World) (B i : Nat) (v : Value) : (w.setCell ⟨B, i, none⟩ v).heap.size = w.heap.size := by simp [World.setCell]
theorem Own.shape {k : IntKind} {e : TypeId} {base : Nat} {w : World} {v : Value} {xs : List Int} (h : Own k e base w v xs) : ∃ a n cap, v = .slice a n cap := by
  obtain ⟨a, cap, rfl, _⟩ := h.reads
  exact ⟨_, _, _, rfl⟩
section
variable {P : Program} {ops : Array Oper} {o : Oper} {a : Act} {K : Act → World → Prop} {Q : Exit → Act → World → Prop} {E : Prop} {t e : TypeId} {k : IntKind} {by_ : Nat}

theorem step_moreB (ST : SliceT P t e k by_) (hgd : o.guard = none) (s x : Operand) (ho : o.op = .call { callee := .builtin .append, args := #[s, x], argTypes := #[t, t] })
    {w0 wr : World} {v : Value} {xs ys : List Int} {ao : Option Addr} {m c : Nat} (hs : a.eval s = v) (hx : a.eval x = .slice ao m c)
    {B : Nat} {T : TypeId} {vs : Array Value}
    (hown : Own k e w0.heap.size wr v xs) (hbel : Below w0.heap.size w0 wr) (hB : Blk wr B T vs) (hte : T ≠ e) (hr : Reads k wr ao m c ys) (hlen : xs.length + m < 1000000000000)
    (h : ∀ a' n' c' w', Own k e w0.heap.size w' (.slice a' n' c') (xs ++ ys) → Below w0.heap.size w0 w' → Blk w' B T vs → K (a.put o.dst (.slice a' n' c')) w') :
    if Region.wanted o (yielded ops a.tmps) = true then Oper.wp P o a wr K Q else E := by
  obtain ⟨i, hi, hz0, hz1, hz2⟩ := info_parts ST.info
  have hsm := ST.small
  have hsz := hr.size
  have hw : Region.wanted o (yielded ops a.tmps) = true := by simp [Region.wanted, hgd]
  rw [if_pos hw]
  by_cases hm : m = 0
  · subst hm
    obtain rfl : ys = [] := List.eq_nil_of_length_eq_zero hsz
    have hrun : (Builtin.append_ #[t, t] o.type #[v, .slice ao 0 c]).run P wr = .ok v wr := by
      rcases hown.1.2 with ⟨rfl, _⟩ | ⟨g, cap, cur, rfl, _, _, hnc, _⟩
      · cases ao <;> simp [Builtin.append_, run_underlying ST.under, sizeOf, typeInfo, hi, Builtin.lenOf, Builtin.firstCells, loadCells, loadCellsFrom]
      · cases ao <;> simp [Builtin.append_, run_underlying ST.under, sizeOf, typeInfo, hi, Builtin.lenOf, Builtin.firstCells, hnc, storeCells, loadCells, loadCellsFrom]
    obtain ⟨a', n', c', rfl⟩ := hown.shape
    unfold Oper.wp
    simp [execOp, ho, resolve, invoke, builtin, hs, hx, hrun, Result.andThen]
    exact h _ _ _ wr (by simpa using hown) hbel hB
  · obtain ⟨b, off, rfl, hb, hc⟩ := hr.cell (by omega)
    have hmul : (xs.length + m) * by_ ≤ (xs.length + m) * 8 := Nat.mul_le_mul_left _ hsm
    refine wp_append_lies _ s x t ho w0.heap.size e i (.int k 0) 1 by_ ST.under hi hz0 hz1 hz2 rfl (by decide) v xs.length (xs.map (Value.int k)) hs hown.1 ⟨b, off, none⟩ m c (ys.map (Value.int k)) hx (by simp [hsz]) ?_ (ints_oneCell _ _) (by omega) (by unfold maxLen; omega) (by omega)
      hbel.size _ rfl ?_
    · intro j u hj
      have hjl : j < ys.length := by
        have := (List.getElem?_eq_some_iff.1 hj).1
        simpa using this
      rw [Addr.add_lit, hc j (by omega)]
      simp only [List.getElem?_map, List.getElem?_eq_getElem hjl, Option.map_some, Option.some.injEq] at hj
      subst hj
      simp [hjl]
    · intro g cap w' hown' hgrow _ _
      refine h _ _ _ w' ⟨by simpa [hsz] using hown', ?_⟩ (hbel.grown hgrow hbel.size (fun j hj => (hown.1.lt j hj).1)) (hB.kept hgrow (hB.not_row hte hown.1))
      intro z hz
      rcases List.mem_append.1 hz with hz | hz
      · exact hown.2 z hz
      · exact hr.wf z hz
end
end Go.Proofs.YtefhddbbiheadaaGreat

/-! Grb -/
namespace Go.Proofs.YtefhddbbiheadaaGreat
open Go.RowKit

theorem grown_any {w w' : World} (h : w.grownBy w' none) (row : Option Nat) : w.grownBy w' row := ⟨h.os, h.tape, h.output, h.size, fun k hk _ => h.block k hk (by simp)⟩
theorem grown_of {w w' : World} (h : Below w.heap.size w w') (row : Option Nat) : w.grownBy w' row := ⟨h.os, h.tape, h.output, h.size, fun k hk _ => h.block k hk⟩
/-- Grown twice: the second row is the first one's, or one that was made since. -/
theorem grown_then {a b c : World} {r r' : Option Nat} (h : a.grownBy b r) (k : b.grownBy c r') (hr : r' = r ∨ ∃ j, r' = some j ∧ a.heap.size ≤ j) : a.grownBy c r := by
  rcases hr with rfl | ⟨j, rfl, hj⟩
  · exact grownBy_t h k
  · exact ⟨k.os.trans h.os, k.tape.trans h.tape, k.output.trans h.output, Nat.le_trans h.size k.size, fun i hi hne => (k.block i (Nat.lt_of_lt_of_le hi h.size) (fun he => by cases he; omega)).trans (h.block i hi hne)⟩
/-- A row of the call's own stays when another row, that lies below it, is appended to. -/
theorem Own.kept {k : IntKind} {e : TypeId} {D : Nat} {W W' : World} {row : Option Nat} {v : Value} {xs : List Int} (h : Own k e D W v xs) (hg : W.grownBy W' row) (hD : ∀ j, row = some j → j < D) : Own k e D W' v xs := by
  refine ⟨⟨h.1.1, ?_⟩, h.2⟩
  rcases h.1.2 with h' | ⟨g, cap, cur, h1, h2, h3, h4⟩
  · exact .inl h'
  · refine .inr ⟨g, cap, cur, h1, h2, ?_, h4⟩
    rw [hg.block g (Array.getElem?_eq_some_iff.1 h3).1 (fun he => by have := hD g he.symm; omega)]
    exact h3
section
variable {P : Program} {ops : Array Oper} {rest : List Oper} {o : Oper} {a : Act} {K : Act → World → Prop} {Q : Exit → Act → World → Prop} {E : Prop} {t e : TypeId} {k : IntKind} {by_ : Nat}

theorem run_moreO (ST : SliceT P t e k by_) (ty : TypeId) {W : World} {v : Value} {xs ys : List Int} {ao : Option Addr} {m c : Nat} {B0 : Nat}
    (hown : Own k e B0 W v xs) (hB : B0 ≤ W.heap.size) (hr : Reads k W ao m c ys) (hlen : xs.length + m < 1000000000000) :
    ∃ a' n' c' w', (Builtin.append_ #[t, t] ty #[v, .slice ao m c]).run P W = .ok (.slice a' n' c') w' ∧ Own k e B0 w' (.slice a' n' c') (xs ++ ys) ∧ W.grownBy w' v.ownBlock ∧ ((Value.slice a' n' c').ownBlock = v.ownBlock ∨ (Value.slice a' n' c').ownBlock = some W.heap.size) := by
  obtain ⟨i, hi, hz0, hz1, hz2⟩ := info_parts ST.info
  have hsm := ST.small
  have hsz := hr.size
  by_cases hm : m = 0
  · subst hm
    obtain rfl : ys = [] := List.eq_nil_of_length_eq_zero hsz
    have hrun : (Builtin.append_ #[t, t] ty #[v, .slice ao 0 c]).run P W = .ok v W := by
      rcases hown.1.2 with ⟨rfl, _⟩ | ⟨g, cap, cur, rfl, _, _, hnc, _⟩
      · cases ao <;> simp [Builtin.append_, run_underlying ST.under, sizeOf, typeInfo, hi, Builtin.lenOf, Builtin.firstCells, loadCells, loadCellsFrom]
      · cases ao <;> simp [Builtin.append_, run_underlying ST.under, sizeOf, typeInfo, hi, Builtin.lenOf, Builtin.firstCells, hnc, storeCells, loadCells, loadCellsFrom]
    obtain ⟨a', n', c', rfl⟩ := hown.shape
    exact ⟨a', n', c', W, hrun, by simpa using hown, ⟨rfl, rfl, rfl, Nat.le_refl _, fun _ _ _ => rfl⟩, .inl rfl⟩
  · obtain ⟨b, off, rfl, hb, hc⟩ := hr.cell (by omega)
    have hmul : (xs.length + m) * by_ ≤ (xs.length + m) * 8 := Nat.mul_le_mul_left _ hsm
    obtain ⟨v', w1, hrun, r1, r2, _, r3⟩ := run_append_own_at (P := P) (w := W) B0 t ty e i (.int k 0) 1 by_ ST.under hi hz0 hz1 hz2 rfl (by decide) v xs.length (xs.map (Value.int k)) hown.1 ⟨b, off, none⟩ m c (ys.map (Value.int k)) (by simp [hsz])
      (by
        intro j u hj
        have hjl : j < ys.length := by
          have := (List.getElem?_eq_some_iff.1 hj).1
          simpa using this
        rw [Addr.add_lit, hc j (by omega)]
        simp only [List.getElem?_map, List.getElem?_eq_getElem hjl, Option.map_some, Option.some.injEq] at hj
        subst hj
        simp [hjl])
      (ints_oneCell _ _) (by unfold maxLen; omega) (by omega) hB
    have hO : Own k e B0 w1 v' (xs ++ ys) := ⟨by simpa [hsz] using r1, fun z hz => by
      rcases List.mem_append.1 hz with hz | hz
      · exact hown.2 z hz
      · exact hr.wf z hz⟩
    obtain ⟨a', n', c', rfl⟩ := hO.shape
    exact ⟨a', n', c', w1, hrun, hO, r2, r3⟩
theorem wpList_moreO (ST : SliceT P t e k by_) (hgd : o.guard = none) (s x : Operand) (ho : o.op = .call { callee := .builtin .append, args := #[s, x], argTypes := #[t, t] })
    {W : World} {v : Value} {xs ys : List Int} {ao : Option Addr} {m c : Nat} {B0 : Nat} (hs : a.eval s = v) (hx : a.eval x = .slice ao m c)
    (hown : Own k e B0 W v xs) (hB : B0 ≤ W.heap.size) (hr : Reads k W ao m c ys) (hlen : xs.length + m < 1000000000000)
    (h : ∀ a' n' c' w', Own k e B0 w' (.slice a' n' c') (xs ++ ys) → W.grownBy w' v.ownBlock → ((Value.slice a' n' c').ownBlock = v.ownBlock ∨ (Value.slice a' n' c').ownBlock = some W.heap.size) → wpList P ops Q rest (a.put o.dst (.slice a' n' c')) w') : wpList P ops Q (o :: rest) a W := by
  obtain ⟨a', n', c', w', hrun, h1, h2, h3⟩ := run_moreO (P := P) ST o.type hown hB hr hlen
  refine wpList_plain hgd fun K hK => ?_
  unfold Oper.wp
  simp [execOp, ho, resolve, invoke, builtin, hs, hx, hrun, Result.andThen]
  exact hK _ _ (h _ _ _ _ h1 h2 h3)
theorem step_moreO (ST : SliceT P t e k by_) (hgd : o.guard = none) (s x : Operand) (ho : o.op = .call { callee := .builtin .append, args := #[s, x], argTypes := #[t, t] })
    {W : World} {v : Value} {xs ys : List Int} {ao : Option Addr} {m c : Nat} {B0 : Nat} (hs : a.eval s = v) (hx : a.eval x = .slice ao m c)
    (hown : Own k e B0 W v xs) (hB : B0 ≤ W.heap.size) (hr : Reads k W ao m c ys) (hlen : xs.length + m < 1000000000000)
    (h : ∀ a' n' c' w', Own k e B0 w' (.slice a' n' c') (xs ++ ys) → W.grownBy w' v.ownBlock → ((Value.slice a' n' c').ownBlock = v.ownBlock ∨ (Value.slice a' n' c').ownBlock = some W.heap.size) → K (a.put o.dst (.slice a' n' c')) w') :
    if Region.wanted o (yielded ops a.tmps) = true then Oper.wp P o a W K Q else E := by
  obtain ⟨a', n', c', w', hrun, h1, h2, h3⟩ := run_moreO (P := P) ST o.type hown hB hr hlen
  have hw : Region.wanted o (yielded ops a.tmps) = true := by simp [Region.wanted, hgd]
  rw [if_pos hw]
  unfold Oper.wp
  simp [execOp, ho, resolve, invoke, builtin, hs, hx, hrun, Result.andThen]
  exact h _ _ _ _ h1 h2 h3
end
end Go.Proofs.YtefhddbbiheadaaGreat

/-! Cvt -/
namespace Go.Proofs.YtefhddbbiheadaaGreat
open Go.RowKit
set_option linter.unusedVariables false

structure Cvt (w : World) (g : Nat) (zs : List Int) : Prop where
  row : ∃ cur e, w.heap[g]? = some (.cells cur e (cur.size, cur.size + 1)) ∧ zs.length ≤ cur.size ∧ ∀ j, j < zs.length → cur[j]? = some (.int .u8 (zs.getD j 0))
  wf : ∀ z ∈ zs, (Lit.int .u8 z).wf = true
theorem Cvt.at {w : World} {g : Nat} {zs : List Int} (h : Cvt w g zs) {j : Nat} (hj : j < zs.length) : w.cell? ⟨g, j, none⟩ = some (.int .u8 (zs.getD j 0)) ∧ w.frozen? ⟨g, j, none⟩ = false := by
  obtain ⟨cur, e, h1, h2, h3⟩ := h.row
  refine ⟨?_, ?_⟩
  · simp [World.cell?, h1, h3 j hj]
  · simp [World.frozen?, h1]; omega
theorem Cvt.lt {w : World} {g : Nat} {zs : List Int} (h : Cvt w g zs) : g < w.heap.size := by
  obtain ⟨cur, e, h1, _⟩ := h.row
  exact (Array.getElem?_eq_some_iff.1 h1).1
theorem Cvt.store {w : World} {g : Nat} {zs : List Int} (h : Cvt w g zs) (j : Nat) {y : Int} (hy : (Lit.int .u8 y).wf = true) : Cvt (w.setCell ⟨g, j, none⟩ (.int .u8 y)) g (zs.set j y) := by
  obtain ⟨cur, e, h1, h2, h3⟩ := h.row
  refine ⟨⟨cur.setIfInBounds j (.int .u8 y), e, ?_, by simpa using h2, fun i hi => ?_⟩, fun z hz => ?_⟩
  · simp [World.setCell, Array.getElem?_modify, h1]
  · simp only [List.length_set] at hi
    rw [Array.getElem?_setIfInBounds]
    by_cases hij : j = i
    · subst hij
      rw [if_pos rfl, if_pos (by omega), List.getD_eq_getElem?_getD, List.getElem?_set_self hi]; rfl
    · rw [if_neg hij, h3 i hi, List.getD_eq_getElem?_getD, List.getD_eq_getElem?_getD, List.getElem?_set_ne hij]
  · rcases List.mem_or_eq_of_mem_set hz with hz | rfl
    · exact h.wf z hz
    · exact hy
theorem Cvt.below {w w' : World} {g : Nat} {zs : List Int} (h : Cvt w g zs) (hb : Below w.heap.size w w') : Cvt w' g zs := by
  obtain ⟨cur, e, h1, h2⟩ := h.row
  exact ⟨⟨cur, e, by rw [hb.block g h.lt]; exact h1, h2⟩, h.wf⟩
theorem Cvt.reads {w : World} {g c : Nat} {zs : List Int} (h : Cvt w g zs) (hc : zs.length ≤ c) (hm : c ≤ maxLen) : Reads .u8 w (some ⟨g, 0, none⟩) zs.length c zs :=
  ⟨rfl, hc, hm, h.wf, fun hl => ⟨g, 0, rfl, h.lt, fun i hi => by rw [Nat.zero_add]; exact (h.at hi).1⟩⟩
def octB' (s : ByteArray) : List Int := s.data.toList.map (fun b => (b.toNat : Int))
theorem conv_str {P : Program} {src dst e : TypeId} (hs : P.underlying src = some .string) (hd : P.underlying dst = some (.slice e)) (he : P.underlying e = some (.int .u8)) (w : World) (s : ByteArray) (hl : s.size ≤ 1000000000000) :
    ∃ w' C, (convert src dst (.string s)).run P w = .ok (.slice (some ⟨w.heap.size, 0, none⟩) s.size C) w' ∧ Cvt w' w.heap.size (octB' s) ∧ Below w.heap.size w w' ∧ s.size ≤ C ∧ C ≤ maxLen := by
  have hge := grownCap_ge w s.size 0 e
  have hle := grownCap_le_maxLen w s.size 0 e (by unfold maxLen; omega)
  refine ⟨_, _, run_bytes_of_string w src dst e s hs hd he, ⟨⟨_, _, heap_alloc_new w.drew _, ?_, fun j hj => ?_⟩, fun z hz => ?_⟩, (Below.refl _ _).drew.alloc (Nat.le_refl _) _, hge, hle⟩
  · simp [octB', bytesRow]
  · simp only [octB', List.length_map, Array.length_toList] at hj
    have hj' : j < (s.data.map fun b => Value.int .u8 b.toNat).size := by simpa using hj
    unfold bytesRow
    rw [Array.getElem?_append_left hj', Array.getElem?_map, Array.getElem?_eq_getElem hj, List.getD_eq_getElem?_getD]
    simp only [octB', List.getElem?_map, Array.getElem?_toList, Array.getElem?_eq_getElem hj, Option.map_some, Option.getD_some]
  · unfold octB' at hz
    obtain ⟨b, _, rfl⟩ := List.mem_map.1 hz
    have := b.toNat_lt
    exact mk_u8 (by omega) (by omega)
end Go.Proofs.YtefhddbbiheadaaGreat
