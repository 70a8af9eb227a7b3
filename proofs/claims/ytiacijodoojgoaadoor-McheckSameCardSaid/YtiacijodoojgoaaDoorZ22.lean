/-
  Texts of ours laid together: D23b, Stm, StmB, Grb.
-/
import Derived.Test.YtiacijodoojgoaaDoorZ21

/-! D23b -/
namespace Go.Proofs.YtiacijodoojgoaaDoor
open Go.RowKit
set_option linter.unusedVariables false

theorem pow2_le {m n : Nat} (h : m ≤ n) : (2 : Int) ^ m ≤ 2 ^ n := by
  have := Nat.pow_le_pow_right (n := 2) (by omega) h
  exact_mod_cast this
theorem parts_mul {n : Nat} (hn : 0 < n) (f : List Int → Int) : ∀ (q : Nat) (x y : List Int), x.length = n * q → parts n f (x ++ y) = parts n f x ++ parts n f y
  | 0, x, y, h => by
    obtain rfl : x = [] := List.eq_nil_of_length_eq_zero (by omega)
    rw [parts_short f (l := []) (by simpa using hn)]; rfl
  | q + 1, x, y, h => by
    have h1 : n * (q + 1) = n * q + n := Nat.mul_succ n q
    have hl : (x.take n).length = n := by rw [List.length_take]; omega
    have e := List.take_append_drop n x
    rw [← e, List.append_assoc, parts_app hn f hl, parts_app hn f hl, parts_mul hn f q (x.drop n) y (by rw [List.length_drop]; omega)]
    rfl
theorem rest_len (l : List Int) : (restD l).length = l.length % 16 := by unfold restD; rw [List.length_drop]; omega
theorem rest_all (l : List Int) : ∃ x, x.length = 16 * (l.length / 16) ∧ l = x ++ restD l :=
  ⟨l.take (16 * (l.length / 16)), by rw [List.length_take]; omega, (List.take_append_drop _ _).symm⟩
theorem bit6_01 (v : Int) : ∀ b ∈ bit6 v, b = 0 ∨ b = 1 := by
  intro b hb
  unfold bit6 at hb
  simp only [List.mem_cons, List.not_mem_nil, or_false] at hb
  omega
theorem num_bit6 {v : Int} (h : V6 v) : numL (bit6 v) = v := by
  unfold V6 at h
  simp only [numL, bit6, List.foldl_cons, List.foldl_nil]
  omega
theorem num_lt2 {l : List Int} (h : ∀ b ∈ l, b = 0 ∨ b = 1) : 0 ≤ numL l ∧ numL l < 2 ^ l.length := by
  have := num_lt7 l 0 h (Int.le_refl _)
  unfold numL
  simpa using this
/-- Six bits more, that make no unit yet. -/
theorem step_less {l : List Int} (v : Int) (hv : V6 v) (hm : l.length % 16 < 10) :
    parts 16 numL (l ++ bit6 v) = parts 16 numL l ∧ numL (restD (l ++ bit6 v)) = numL (restD l) * 64 + v := by
  obtain ⟨x, hx, hl⟩ := rest_all l
  have hr := rest_len l
  have h6 : (bit6 v).length = 6 := rfl
  constructor
  · conv => lhs; rw [hl]
    conv => rhs; rw [hl]
    rw [List.append_assoc, parts_mul (by decide) numL _ x _ hx, parts_mul (by decide) numL _ x _ hx, parts_short numL (l := restD l ++ bit6 v) (by rw [List.length_append]; omega), parts_short numL (l := restD l) (by omega)]
  · have e : restD (l ++ bit6 v) = restD l ++ bit6 v := by
      unfold restD
      rw [List.length_append, h6, show 16 * ((l.length + 6) / 16) = 16 * (l.length / 16) by omega, List.drop_append_of_le_length (by omega)]
    rw [e, num_app, num_bit6 hv, h6]
    rfl
/-- .. that make a unit, and leave j bits over. -/
theorem step_unit {l : List Int} (v : Int) (hv : V6 v) (j : Nat) (hj : l.length % 16 = j + 10) :
    parts 16 numL (l ++ bit6 v) = parts 16 numL l ++ [(numL (restD l) * 64 + v) / 2 ^ j] ∧ numL (restD (l ++ bit6 v)) = (numL (restD l) * 64 + v) % 2 ^ j := by
  obtain ⟨x, hx, hl⟩ := rest_all l
  have hr := rest_len l
  have h6 : (bit6 v).length = 6 := rfl
  obtain ⟨y, hy⟩ : ∃ y, y = restD l ++ bit6 v := ⟨_, rfl⟩
  have hyl : y.length = 16 + j := by rw [hy, List.length_append]; omega
  have hyn : numL y = numL (restD l) * 64 + v := by rw [hy, num_app, num_bit6 hv, h6]; rfl
  have hs : y = y.take 16 ++ y.drop 16 := (List.take_append_drop 16 y).symm
  have h16 : (y.take 16).length = 16 := by rw [List.length_take]; omega
  have hdl : (y.drop 16).length = j := by rw [List.length_drop]; omega
  have hd01 : ∀ b ∈ y.drop 16, b = 0 ∨ b = 1 := by
    intro b hb
    have h := List.mem_of_mem_drop hb
    -- j bits of the last six
    have : y.drop 16 = (bit6 v).drop (6 - j) := by
      rw [hy, List.drop_append, List.drop_of_length_le (by omega), List.nil_append]
      congr 1
      omega
    rw [this] at hb
    exact bit6_01 v b (List.mem_of_mem_drop hb)
  have hlt := num_lt2 hd01
  rw [hdl] at hlt
  have hnum : numL y = numL (y.take 16) * 2 ^ j + numL (y.drop 16) := by
    conv => lhs; rw [hs]
    rw [num_app, hdl]
  have hp : (0 : Int) < 2 ^ j := Int.pow_pos (by decide)
  rw [← hyn, hnum]
  constructor
  · rw [Int.add_comm, Int.add_mul_ediv_right _ _ (by omega), Int.ediv_eq_zero_of_lt hlt.1 hlt.2, Int.zero_add]
    conv => lhs; rw [hl]
    conv => rhs; rw [hl]
    rw [List.append_assoc, ← hy, parts_mul (by decide) numL _ x _ hx, parts_mul (by decide) numL _ x _ hx, parts_short numL (l := restD l) (by omega), List.append_nil]
    conv => lhs; rw [hs]
    rw [parts_app (by decide) numL h16, parts_short numL (l := y.drop 16) (by omega)]
  · rw [Int.add_comm, Int.add_mul_emod_self_right, Int.emod_eq_of_lt hlt.1 hlt.2]
    have e : restD (l ++ bit6 v) = y.drop 16 := by
      unfold restD
      rw [List.length_append, h6, show 16 * ((l.length + 6) / 16) = 16 * (l.length / 16) + 16 by omega, hy]
      conv => lhs; rw [hl]
      rw [List.append_assoc, ← List.drop_drop, show 16 * ((x ++ restD l).length / 16) = x.length by rw [← hl, hx], List.drop_left]
    rw [e]
/-- The bits of some digits of all. -/
theorem vlD_snoc {d : List Int} (h : d.all isDig = true) {k : Nat} {x : Int} (hx : d.take (k + 1) = d.take k ++ [x]) : vlD (d.take (k + 1)) = vlD (d.take k) ++ bit6 (valI x) := by
  have h1 : (d.take (k + 1)).all isDig = true := List.all_eq_true.2 fun y hy => List.all_eq_true.1 h y (List.mem_of_mem_take hy)
  have h2 : (d.take k).all isDig = true := List.all_eq_true.2 fun y hy => List.all_eq_true.1 h y (List.mem_of_mem_take hy)
  unfold vlD
  rw [if_pos h1, if_pos h2, hx, List.map_append]
  unfold bits6
  rw [List.flatMap_append]
  simp
theorem vlD_take {d : List Int} (h : d.all isDig = true) {k : Nat} (hk : k ≤ d.length) : (vlD (d.take k)).length = 6 * k := by
  have h2 : (d.take k).all isDig = true := List.all_eq_true.2 fun y hy => List.all_eq_true.1 h y (List.mem_of_mem_take hy)
  unfold vlD
  rw [if_pos h2, bits6_len, List.length_map, List.length_take]
  omega
end Go.Proofs.YtiacijodoojgoaaDoor

/-! Stm -/
namespace Go.Proofs.YtiacijodoojgoaaDoor
open Go.RowKit

section
variable {P : Program} {ops : Array Oper} {o : Oper} {a : Act} {K : Act → World → Prop} {Q : Exit → Act → World → Prop} {E : Prop} {t e : TypeId} {k : IntKind} {by_ : Nat}

theorem step_more (ST : SliceT P t e k by_) (hgd : o.guard = none) (s x : Operand) (ho : o.op = .call { callee := .builtin .append, args := #[s, x], argTypes := #[t, t] })
    {w0 wr : World} {v : Value} {xs ys : List Int} {ao : Option Addr} {m c : Nat} (hs : a.eval s = v) (hx : a.eval x = .slice ao m c)
    (hown : Own k e w0.heap.size wr v xs) (hbel : Below w0.heap.size w0 wr) (hr : Reads k wr ao m c ys) (hlen : xs.length + m < 1000000000000)
    (h : ∀ v' w', Own k e w0.heap.size w' v' (xs ++ ys) → Below w0.heap.size w0 w' → K (a.put o.dst v') w') :
    if Region.wanted o (yielded ops a.tmps) = true then Oper.wp P o a wr K Q else E := by
  obtain ⟨i, hi, hz0, hz1, hz2⟩ := info_parts ST.info
  have hsm := ST.small
  have hsz := hr.size
  have hw : Region.wanted o (yielded ops a.tmps) = true := by simp [Region.wanted, hgd]
  rw [if_pos hw]
  by_cases hm : m = 0
  · subst hm
    obtain rfl : ys = [] := List.eq_nil_of_length_eq_zero hsz
    have hrun : (Builtin.append_ #[t, t] o.type #[v, .slice ao 0 c]).run P wr = .ok v wr := by
      rcases hown.1.2 with ⟨rfl, _⟩ | ⟨g, cap, cur, rfl, _, _, hnc, _⟩
      · cases ao <;> simp [Builtin.append_, run_underlying ST.under, sizeOf, typeInfo, hi, Builtin.lenOf, Builtin.firstCells, loadCells, loadCellsFrom]
      · cases ao <;> simp [Builtin.append_, run_underlying ST.under, sizeOf, typeInfo, hi, Builtin.lenOf, Builtin.firstCells, hnc, storeCells, loadCells, loadCellsFrom]
    unfold Oper.wp
    simp [execOp, ho, resolve, invoke, builtin, hs, hx, hrun, Result.andThen]
    exact h v wr (by simpa using hown) hbel
  · obtain ⟨b, off, rfl, hb, hc⟩ := hr.cell (by omega)
    have hmul : (xs.length + m) * by_ ≤ (xs.length + m) * 8 := Nat.mul_le_mul_left _ hsm
    refine wp_append_lies _ s x t ho w0.heap.size e i (.int k 0) 1 by_ ST.under hi hz0 hz1 hz2 rfl (by decide) v xs.length (xs.map (Value.int k)) hs hown.1 ⟨b, off, none⟩ m c (ys.map (Value.int k)) hx (by simp [hsz]) ?_ (ints_oneCell _ _) (by omega) (by unfold maxLen; omega) (by omega)
      hbel.size _ rfl ?_
    · intro j u hj
      have hjl : j < ys.length := by
        have := (List.getElem?_eq_some_iff.1 hj).1
        simpa using this
      rw [Addr.add_lit, hc j (by omega)]
      simp only [List.getElem?_map, List.getElem?_eq_getElem hjl, Option.map_some, Option.some.injEq] at hj
      subst hj
      simp [hjl]
    · intro g cap w' hown' hgrow _ _
      refine h _ w' ⟨by simpa [hsz] using hown', ?_⟩ (hbel.grown hgrow hbel.size (fun j hj => (hown.1.lt j hj).1))
      intro z hz
      rcases List.mem_append.1 hz with hz | hz
      · exact hown.2 z hz
      · exact hr.wf z hz
end
end Go.Proofs.YtiacijodoojgoaaDoor

/-! StmB -/
namespace Go.Proofs.YtiacijodoojgoaaDoor
open Go.RowKit

theorem size_set (w : World) (B i : Nat) (v : Value) : (w.setCell ⟨B, i, none⟩ v).heap.size = w.heap.size := by simp [World.setCell]
theorem Own.shape {k : IntKind} {e : TypeId} {base : Nat} {w : World} {v : Value} {xs : List Int} (h : Own k e base w v xs) : ∃ a n cap, v = .slice a n cap := by
  obtain ⟨a, cap, rfl, _⟩ := h.reads
  exact ⟨_, _, _, rfl⟩
section
variable {P : Program} {ops : Array Oper} {o : Oper} {a : Act} {K : Act → World → Prop} {Q : Exit → Act → World → Prop} {E : Prop} {t e : TypeId} {k : IntKind} {by_ : Nat}

theorem step_moreB (ST : SliceT P t e k by_) (hgd : o.guard = none) (s x : Operand) (ho : o.op = .call { callee := .builtin .append, args := #[s, x], argTypes := #[t, t] })
    {w0 wr : World} {v : Value} {xs ys : List Int} {ao : Option Addr} {m c : Nat} (hs : a.eval s = v) (hx : a.eval x = .slice ao m c)
    {B : Nat} {T : TypeId} {vs : Array Value}
    (hown : Own k e w0.heap.size wr v xs) (hbel : Below w0.heap.size w0 wr) (hB : Blk wr B T vs) (hte : T ≠ e) (hr : Reads k wr ao m c ys) (hlen : xs.length + m < 1000000000000)
    (h : ∀ a' n' c' w', Own k e w0.heap.size w' (.slice a' n' c') (xs ++ ys) → Below w0.heap.size w0 w' → Blk w' B T vs → K (a.put o.dst (.slice a' n' c')) w') :
    if Region.wanted o (yielded ops a.tmps) = true then Oper.wp P o a wr K Q else E := by
  obtain ⟨i, hi, hz0, hz1, hz2⟩ := info_parts ST.info
  have hsm := ST.small
  have hsz := hr.size
  have hw : Region.wanted o (yielded ops a.tmps) = true := by simp [Region.wanted, hgd]
  rw [if_pos hw]
  by_cases hm : m = 0
  · subst hm
    obtain rfl : ys = [] := List.eq_nil_of_length_eq_zero hsz
    have hrun : (Builtin.append_ #[t, t] o.type #[v, .slice ao 0 c]).run P wr = .ok v wr := by
      rcases hown.1.2 with ⟨rfl, _⟩ | ⟨g, cap, cur, rfl, _, _, hnc, _⟩
      · cases ao <;> simp [Builtin.append_, run_underlying ST.under, sizeOf, typeInfo, hi, Builtin.lenOf, Builtin.firstCells, loadCells, loadCellsFrom]
      · cases ao <;> simp [Builtin.append_, run_underlying ST.under, sizeOf, typeInfo, hi, Builtin.lenOf, Builtin.firstCells, hnc, storeCells, loadCells, loadCellsFrom]
    obtain ⟨a', n', c', rfl⟩ := hown.shape
    unfold Oper.wp
    simp [execOp, ho, resolve, invoke, builtin, hs, hx, hrun, Result.andThen]
    exact h _ _ _ wr (by simpa using hown) hbel hB
  · obtain ⟨b, off, rfl, hb, hc⟩ := hr.cell (by omega)
    have hmul : (xs.length + m) * by_ ≤ (xs.length + m) * 8 := Nat.mul_le_mul_left _ hsm
    refine wp_append_lies _ s x t ho w0.heap.size e i (.int k 0) 1 by_ ST.under hi hz0 hz1 hz2 rfl (by decide) v xs.length (xs.map (Value.int k)) hs hown.1 ⟨b, off, none⟩ m c (ys.map (Value.int k)) hx (by simp [hsz]) ?_ (ints_oneCell _ _) (by omega) (by unfold maxLen; omega) (by omega)
      hbel.size _ rfl ?_
    · intro j u hj
      have hjl : j < ys.length := by
        have := (List.getElem?_eq_some_iff.1 hj).1
        simpa using this
      rw [Addr.add_lit, hc j (by omega)]
      simp only [List.getElem?_map, List.getElem?_eq_getElem hjl, Option.map_some, Option.some.injEq] at hj
      subst hj
      simp [hjl]
    · intro g cap w' hown' hgrow _ _
      refine h _ _ _ w' ⟨by simpa [hsz] using hown', ?_⟩ (hbel.grown hgrow hbel.size (fun j hj => (hown.1.lt j hj).1)) (hB.kept hgrow (hB.not_row hte hown.1))
      intro z hz
      rcases List.mem_append.1 hz with hz | hz
      · exact hown.2 z hz
      · exact hr.wf z hz
end
end Go.Proofs.YtiacijodoojgoaaDoor

/-! Grb -/
namespace Go.Proofs.YtiacijodoojgoaaDoor
open Go.RowKit

theorem grown_any {w w' : World} (h : w.grownBy w' none) (row : Option Nat) : w.grownBy w' row := ⟨h.os, h.tape, h.output, h.size, fun k hk _ => h.block k hk (by simp)⟩
theorem grown_of {w w' : World} (h : Below w.heap.size w w') (row : Option Nat) : w.grownBy w' row := ⟨h.os, h.tape, h.output, h.size, fun k hk _ => h.block k hk⟩
/-- Grown twice: the second row is the first one's, or one that was made since. -/
theorem grown_then {a b c : World} {r r' : Option Nat} (h : a.grownBy b r) (k : b.grownBy c r') (hr : r' = r ∨ ∃ j, r' = some j ∧ a.heap.size ≤ j) : a.grownBy c r := by
  rcases hr with rfl | ⟨j, rfl, hj⟩
  · exact grownBy_t h k
  · exact ⟨k.os.trans h.os, k.tape.trans h.tape, k.output.trans h.output, Nat.le_trans h.size k.size, fun i hi hne => (k.block i (Nat.lt_of_lt_of_le hi h.size) (fun he => by cases he; omega)).trans (h.block i hi hne)⟩
/-- A row of the call's own stays when another row, that lies below it, is appended to. -/
theorem Own.kept {k : IntKind} {e : TypeId} {D : Nat} {W W' : World} {row : Option Nat} {v : Value} {xs : List Int} (h : Own k e D W v xs) (hg : W.grownBy W' row) (hD : ∀ j, row = some j → j < D) : Own k e D W' v xs := by
  refine ⟨⟨h.1.1, ?_⟩, h.2⟩
  rcases h.1.2 with h' | ⟨g, cap, cur, h1, h2, h3, h4⟩
  · exact .inl h'
  · refine .inr ⟨g, cap, cur, h1, h2, ?_, h4⟩
    rw [hg.block g (Array.getElem?_eq_some_iff.1 h3).1 (fun he => by have := hD g he.symm; omega)]
    exact h3
section
variable {P : Program} {ops : Array Oper} {rest : List Oper} {o : Oper} {a : Act} {K : Act → World → Prop} {Q : Exit → Act → World → Prop} {E : Prop} {t e : TypeId} {k : IntKind} {by_ : Nat}

theorem run_moreO (ST : SliceT P t e k by_) (ty : TypeId) {W : World} {v : Value} {xs ys : List Int} {ao : Option Addr} {m c : Nat} {B0 : Nat}
    (hown : Own k e B0 W v xs) (hB : B0 ≤ W.heap.size) (hr : Reads k W ao m c ys) (hlen : xs.length + m < 1000000000000) :
    ∃ a' n' c' w', (Builtin.append_ #[t, t] ty #[v, .slice ao m c]).run P W = .ok (.slice a' n' c') w' ∧ Own k e B0 w' (.slice a' n' c') (xs ++ ys) ∧ W.grownBy w' v.ownBlock ∧ ((Value.slice a' n' c').ownBlock = v.ownBlock ∨ (Value.slice a' n' c').ownBlock = some W.heap.size) := by
  obtain ⟨i, hi, hz0, hz1, hz2⟩ := info_parts ST.info
  have hsm := ST.small
  have hsz := hr.size
  by_cases hm : m = 0
  · subst hm
    obtain rfl : ys = [] := List.eq_nil_of_length_eq_zero hsz
    have hrun : (Builtin.append_ #[t, t] ty #[v, .slice ao 0 c]).run P W = .ok v W := by
      rcases hown.1.2 with ⟨rfl, _⟩ | ⟨g, cap, cur, rfl, _, _, hnc, _⟩
      · cases ao <;> simp [Builtin.append_, run_underlying ST.under, sizeOf, typeInfo, hi, Builtin.lenOf, Builtin.firstCells, loadCells, loadCellsFrom]
      · cases ao <;> simp [Builtin.append_, run_underlying ST.under, sizeOf, typeInfo, hi, Builtin.lenOf, Builtin.firstCells, hnc, storeCells, loadCells, loadCellsFrom]
    obtain ⟨a', n', c', rfl⟩ := hown.shape
    exact ⟨a', n', c', W, hrun, by simpa using hown, ⟨rfl, rfl, rfl, Nat.le_refl _, fun _ _ _ => rfl⟩, .inl rfl⟩
  · obtain ⟨b, off, rfl, hb, hc⟩ := hr.cell (by omega)
    have hmul : (xs.length + m) * by_ ≤ (xs.length + m) * 8 := Nat.mul_le_mul_left _ hsm
    obtain ⟨v', w1, hrun, r1, r2, _, r3⟩ := run_append_own_at (P := P) (w := W) B0 t ty e i (.int k 0) 1 by_ ST.under hi hz0 hz1 hz2 rfl (by decide) v xs.length (xs.map (Value.int k)) hown.1 ⟨b, off, none⟩ m c (ys.map (Value.int k)) (by simp [hsz])
      (by
        intro j u hj
        have hjl : j < ys.length := by
          have := (List.getElem?_eq_some_iff.1 hj).1
          simpa using this
        rw [Addr.add_lit, hc j (by omega)]
        simp only [List.getElem?_map, List.getElem?_eq_getElem hjl, Option.map_some, Option.some.injEq] at hj
        subst hj
        simp [hjl])
      (ints_oneCell _ _) (by unfold maxLen; omega) (by omega) hB
    have hO : Own k e B0 w1 v' (xs ++ ys) := ⟨by simpa [hsz] using r1, fun z hz => by
      rcases List.mem_append.1 hz with hz | hz
      · exact hown.2 z hz
      · exact hr.wf z hz⟩
    obtain ⟨a', n', c', rfl⟩ := hO.shape
    exact ⟨a', n', c', w1, hrun, hO, r2, r3⟩
theorem wpList_moreO (ST : SliceT P t e k by_) (hgd : o.guard = none) (s x : Operand) (ho : o.op = .call { callee := .builtin .append, args := #[s, x], argTypes := #[t, t] })
    {W : World} {v : Value} {xs ys : List Int} {ao : Option Addr} {m c : Nat} {B0 : Nat} (hs : a.eval s = v) (hx : a.eval x = .slice ao m c)
    (hown : Own k e B0 W v xs) (hB : B0 ≤ W.heap.size) (hr : Reads k W ao m c ys) (hlen : xs.length + m < 1000000000000)
    (h : ∀ a' n' c' w', Own k e B0 w' (.slice a' n' c') (xs ++ ys) → W.grownBy w' v.ownBlock → ((Value.slice a' n' c').ownBlock = v.ownBlock ∨ (Value.slice a' n' c').ownBlock = some W.heap.size) → wpList P ops Q rest (a.put o.dst (.slice a' n' c')) w') : wpList P ops Q (o :: rest) a W := by
  obtain ⟨a', n', c', w', hrun, h1, h2, h3⟩ := run_moreO (P := P) ST o.type hown hB hr hlen
  refine wpList_plain hgd fun K hK => ?_
  unfold Oper.wp
  simp [execOp, ho, resolve, invoke, builtin, hs, hx, hrun, Result.andThen]
  exact hK _ _ (h _ _ _ _ h1 h2 h3)
theorem step_moreO (ST : SliceT P t e k by_) (hgd : o.guard = none) (s x : Operand) (ho : o.op = .call { callee := .builtin .append, args := #[s, x], argTypes := #[t, t] })
    {W : World} {v : Value} {xs ys : List Int} {ao : Option Addr} {m c : Nat} {B0 : Nat} (hs : a.eval s = v) (hx : a.eval x = .slice ao m c)
    (hown : Own k e B0 W v xs) (hB : B0 ≤ W.heap.size) (hr : Reads k W ao m c ys) (hlen : xs.length + m < 1000000000000)
    (h : ∀ a' n' c' w', Own k e B0 w' (.slice a' n' c') (xs ++ ys) → W.grownBy w' v.ownBlock → ((Value.slice a' n' c').ownBlock = v.ownBlock ∨ (Value.slice a' n' c').ownBlock = some W.heap.size) → K (a.put o.dst (.slice a' n' c')) w') :
    if Region.wanted o (yielded ops a.tmps) = true then Oper.wp P o a W K Q else E := by
  obtain ⟨a', n', c', w', hrun, h1, h2, h3⟩ := run_moreO (P := P) ST o.type hown hB hr hlen
  have hw : Region.wanted o (yielded ops a.tmps) = true := by simp [Region.wanted, hgd]
  rw [if_pos hw]
  unfold Oper.wp
  simp [execOp, ho, resolve, invoke, builtin, hs, hx, hrun, Result.andThen]
  exact h _ _ _ _ h1 h2 h3
end
end Go.Proofs.YtiacijodoojgoaaDoor
