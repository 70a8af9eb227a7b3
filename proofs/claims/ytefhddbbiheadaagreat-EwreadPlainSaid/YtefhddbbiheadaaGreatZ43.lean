/-
  Texts of ours laid together: Loo, D30.
-/
import Derived.ArgAppend
import Derived.Test.YtefhddbbiheadaaGreatZ42

/-! Loo -/
namespace Go.Proofs.YtefhddbbiheadaaGreat
open Go.RowKit
set_option linter.unusedVariables false

theorem below_setCells {D : Nat} {w : World} (b : Nat) (hb : D ≤ b) : ∀ (vs : List Value) (o : Nat) (W : World), Below D w W → Below D w (W.setCells b o vs)
  | [], _, _, h => h
  | v :: r, o, W, h => below_setCells b hb r (o + 1) _ (h.setCell (p := ⟨b, o, none⟩) hb v)
theorem size_setCells' (b : Nat) : ∀ (vs : List Value) (o : Nat) (W : World), (W.setCells b o vs).heap.size = W.heap.size
  | [], _, _ => rfl
  | v :: r, o, W => (size_setCells' b r (o + 1) _).trans (size_set W b o v)
theorem some_setCells (b : Nat) (vs : List Value) (o : Nat) (w : World) (hh : ∀ j, j < vs.length → (w.cell? ⟨b, o + j, none⟩).isSome = true) (x : Nat) (hx : (w.cell? ⟨b, x, none⟩).isSome = true) : ((w.setCells b o vs).cell? ⟨b, x, none⟩).isSome = true := by
  by_cases h : o ≤ x ∧ x < o + vs.length
  · obtain ⟨j, rfl⟩ : ∃ j, x = o + j := ⟨x - o, by omega⟩
    rw [World.cell?_setCells_in b vs o w hh j (by omega)]; rfl
  · rw [World.cell?_setCells_out b vs o w _ (fun _ _ => by dsimp only; omega)]; exact hx
/-- A row in a block of the call's own, whatever that is: its cells are there, and may be written. -/
structure Lw (k : IntKind) (base : Nat) (w : World) (g n c : Nat) (xs : List Int) : Prop where
  lo : base ≤ g
  lt : g < w.heap.size
  len : xs.length = n
  room : n ≤ c
  top : c ≤ maxLen
  wf : ∀ x ∈ xs, (Lit.int k x).wf = true
  here : ∀ i, i < c → (w.cell? ⟨g, i, none⟩).isSome = true
  free : ∀ i, i < c → w.frozen? ⟨g, i, none⟩ = false
  cell : ∀ i, i < n → w.cell? ⟨g, i, none⟩ = some (.int k (xs.getD i 0))
theorem Lw.reads {k : IntKind} {base : Nat} {w : World} {g n c : Nat} {xs : List Int} (h : Lw k base w g n c xs) : Reads k w (some ⟨g, 0, none⟩) n c xs :=
  ⟨h.len, h.room, h.top, h.wf, fun hl => ⟨g, 0, rfl, h.lt, fun i hi => by rw [Nat.zero_add]; exact h.cell i hi⟩⟩
theorem Lw.below {k : IntKind} {base : Nat} {w w' : World} {g n c : Nat} {xs : List Int} (h : Lw k base w g n c xs) (hb : Below w.heap.size w w') : Lw k base w' g n c xs :=
  ⟨h.lo, Nat.lt_of_lt_of_le h.lt hb.size, h.len, h.room, h.top, h.wf, fun i hi => by rw [World.cell?_of_block (hb.block g h.lt)]; exact h.here i hi, fun i hi => by rw [World.frozen?_of_block (hb.block g h.lt)]; exact h.free i hi, fun i hi => by rw [World.cell?_of_block (hb.block g h.lt)]; exact h.cell i hi⟩
/-- The call's own row, of either make. -/
def LO (k : IntKind) (e : TypeId) (base : Nat) (w : World) (v : Value) (xs : List Int) : Prop :=
  Own k e base w v xs ∨ ∃ g n c, v = .slice (some ⟨g, 0, none⟩) n c ∧ Lw k base w g n c xs
theorem LO.reads {k : IntKind} {e : TypeId} {base : Nat} {w : World} {v : Value} {xs : List Int} (h : LO k e base w v xs) : ∃ a n c, v = .slice a n c ∧ Reads k w a n c xs := by
  rcases h with h | ⟨g, n, c, rfl, h⟩
  · obtain ⟨a, c, rfl, r⟩ := h.reads
    exact ⟨_, _, _, rfl, r⟩
  · exact ⟨_, _, _, rfl, h.reads⟩
theorem LO.below {k : IntKind} {e : TypeId} {base : Nat} {w w' : World} {v : Value} {xs : List Int} (h : LO k e base w v xs) (hb : Below w.heap.size w w') : LO k e base w' v xs := by
  rcases h with h | ⟨g, n, c, rfl, h⟩
  · exact .inl (h.below hb)
  · exact .inr ⟨g, n, c, rfl, h.below hb⟩
section
variable {P : Program} {ops : Array Oper} {rest : List Oper} {o : Oper} {a : Act} {Q : Exit → Act → World → Prop} {t e : TypeId} {k : IntKind} {by_ : Nat}
theorem run_moreL (ST : SliceT P t e k by_) (ty : TypeId) {W : World} {v : Value} {xs ys : List Int} {ao : Option Addr} {m c : Nat} {B0 : Nat}
    (hown : LO k e B0 W v xs) (hB : B0 ≤ W.heap.size) (hr : Reads k W ao m c ys) (hlen : xs.length + m < 1000000000000) :
    ∃ a' n' c' w', (Builtin.append_ #[t, t] ty #[v, .slice ao m c]).run P W = .ok (.slice a' n' c') w' ∧ LO k e B0 w' (.slice a' n' c') (xs ++ ys) ∧ Below B0 W w' := by
  rcases hown with hown | ⟨g, n, cg, rfl, h⟩
  · obtain ⟨a', n', c', w', hrun, h1, h2, _⟩ := run_moreO (P := P) ST ty hown hB hr hlen
    exact ⟨a', n', c', w', hrun, .inl h1, (Below.refl B0 W).grown h2 hB (fun j hj => (hown.1.lt j hj).1)⟩
  · obtain ⟨i, hi, hz0, hz1, hz2⟩ := info_parts ST.info
    have hsm := ST.small
    have hsz := hr.size
    have hln := h.len
    by_cases hm : m = 0
    · subst hm
      obtain rfl : ys = [] := List.eq_nil_of_length_eq_zero hsz
      refine ⟨some ⟨g, 0, none⟩, n, cg, W, ?_, .inr ⟨g, n, cg, rfl, by rw [List.append_nil]; exact h⟩, Below.refl _ _⟩
      have hroom := h.room
      cases ao <;> simp [Builtin.append_, run_underlying ST.under, sizeOf, typeInfo, hi, Builtin.lenOf, Builtin.firstCells, hroom, storeCells, loadCells, loadCellsFrom]
    · obtain ⟨b, off, rfl, hb, hc⟩ := hr.cell (by omega)
      have hnews : ∀ (j : Nat) (u : Value), (ys.map (Value.int k))[j]? = some u → W.cell? ((⟨b, off, none⟩ : Addr).add j) = some u := by
        intro j u hj
        have hjl : j < ys.length := by
          have := (List.getElem?_eq_some_iff.1 hj).1
          simpa using this
        rw [Addr.add_lit, hc j (by omega)]
        simp only [List.getElem?_map, List.getElem?_eq_getElem hjl, Option.map_some, Option.some.injEq] at hj
        subst hj
        simp [hjl]
      have hwf : ∀ z ∈ xs ++ ys, (Lit.int k z).wf = true := fun z hz => by
        rcases List.mem_append.1 hz with hz | hz
        · exact h.wf z hz
        · exact hr.wf z hz
      by_cases hroom : n + m ≤ cg
      · have hrun := run_append_room_cells (P := P) W t ty e i ST.under hi g 0 n cg ⟨b, off, none⟩ m c (ys.map (Value.int k)) (by simp [hsz, hz1]) hnews (ints_oneCell _ _) hroom
          (fun j hj => h.here _ (by simp [hz1] at hj ⊢; omega)) (fun j hj => h.free _ (by simp [hz1] at hj ⊢; omega))
        refine ⟨_, _, _, _, hrun, .inr ⟨g, n + m, cg, rfl, h.lo, by rw [size_setCells']; exact h.lt, by rw [List.length_append, hln, hsz], hroom, h.top, hwf, fun i hi => ?_, fun i hi => ?_, fun i hi => ?_⟩, below_setCells g h.lo _ _ _ (Below.refl _ _)⟩
        · exact some_setCells g _ _ _ (fun j hj => h.here _ (by simp [hz1] at hj ⊢; omega)) i (h.here i hi)
        · rw [World.frozen?_setCells]; exact h.free i hi
        · rw [hz1, Nat.zero_add, Nat.mul_one]
          by_cases hin : i < n
          · rw [World.cell?_setCells_out g _ _ _ _ (fun _ _ => .inl hin), h.cell i hin, List.getD_eq_getElem?_getD, List.getD_eq_getElem?_getD, List.getElem?_append_left (by omega)]
          · obtain ⟨j, rfl⟩ : ∃ j, i = n + j := ⟨i - n, by omega⟩
            rw [World.cell?_setCells_in g _ _ _ (fun j hj => h.here _ (by simp at hj; omega)) j (by simp; omega), List.getD_eq_getElem?_getD, List.getElem?_append_right (by omega)]
            simp [hln, show j < ys.length by omega]
      · have hmul : (n + m) * by_ ≤ (n + m) * 8 := Nat.mul_le_mul_left _ hsm
        obtain ⟨v', w', hrun, r1, r2⟩ := run_append_arg_grows (P := P) W t ty e i (.int k 0) 1 by_ ST.under hi hz0 hz1 hz2 rfl (by decide) ⟨g, 0, none⟩ n cg (xs.map (Value.int k)) (by simp [hln]) (fun j u hj => by
            have hjl : j < xs.length := by
              have := (List.getElem?_eq_some_iff.1 hj).1
              simpa using this
            rw [Addr.add_lit, Nat.zero_add, h.cell j (by omega)]
            simp only [List.getElem?_map, List.getElem?_eq_getElem hjl, Option.map_some, Option.some.injEq] at hj
            subst hj
            simp [hjl]) ⟨b, off, none⟩ m c (ys.map (Value.int k)) (by simp [hsz]) hnews (by omega) (by unfold maxLen; omega) (by omega)
        have hO : Own k e W.heap.size w' v' (xs ++ ys) := ⟨by simpa [hsz, hln] using r1, hwf⟩
        obtain ⟨a', n', c', rfl⟩ := hO.shape
        exact ⟨a', n', c', w', hrun, .inl (own_mono hO hB), (Below.refl B0 W).grown r2 hB (fun j hj => by cases hj)⟩
theorem wpList_moreL (ST : SliceT P t e k by_) (hgd : o.guard = none) (s x : Operand) (ho : o.op = .call { callee := .builtin .append, args := #[s, x], argTypes := #[t, t] })
    {W : World} {v : Value} {xs ys : List Int} {ao : Option Addr} {m c : Nat} {B0 : Nat} (hs : a.eval s = v) (hx : a.eval x = .slice ao m c)
    (hown : LO k e B0 W v xs) (hB : B0 ≤ W.heap.size) (hr : Reads k W ao m c ys) (hlen : xs.length + m < 1000000000000)
    (h : ∀ a' n' c' w', LO k e B0 w' (.slice a' n' c') (xs ++ ys) → Below B0 W w' → wpList P ops Q rest (a.put o.dst (.slice a' n' c')) w') : wpList P ops Q (o :: rest) a W := by
  obtain ⟨a', n', c', w', hrun, h1, h2⟩ := run_moreL (P := P) ST o.type hown hB hr hlen
  refine wpList_plain hgd fun K hK => ?_
  unfold Oper.wp
  simp [execOp, ho, resolve, invoke, builtin, hs, hx, hrun, Result.andThen]
  exact hK _ _ (h _ _ _ _ h1 h2)
end
/-- '[]byte(s)'. -/
theorem conv_strL {P : Program} {src dst e : TypeId} (hs : P.underlying src = some .string) (hd : P.underlying dst = some (.slice e)) (he : P.underlying e = some (.int .u8)) (w : World) (s : ByteArray) (hl : s.size ≤ 1000000000000) :
    ∃ w' C, (convert src dst (.string s)).run P w = .ok (.slice (some ⟨w.heap.size, 0, none⟩) s.size C) w' ∧ Lw .u8 w.heap.size w' w.heap.size s.size C (octB' s) ∧ Below w.heap.size w w' := by
  have hge := grownCap_ge w s.size 0 e
  have hle := grownCap_le_maxLen w s.size 0 e (by unfold maxLen; omega)
  generalize hC : grownCap w s.size 0 e = C at *
  have hrun := run_bytes_of_string w src dst e s hs hd he
  rw [hC] at hrun
  have hsize : (bytesRow s C).size = C := by
    simp only [bytesRow, Array.size_append, Array.size_map, Array.size_replicate]
    show s.data.size + (C - s.size) = C
    have : s.data.size = s.size := rfl
    omega
  have hN : (w.drew.alloc (.cells (bytesRow s C) e ((bytesRow s C).size, (bytesRow s C).size + 1))).heap[w.heap.size]? = some (.cells (bytesRow s C) e ((bytesRow s C).size, (bytesRow s C).size + 1)) := heap_alloc_new w.drew _
  have hlen : (octB' s).length = s.size := by unfold octB'; rw [List.length_map, Array.length_toList]; rfl
  refine ⟨_, _, hrun, ⟨Nat.le_refl _, by simp, hlen, hge, hle, fun z hz => ?_, fun i hi => ?_, fun i hi => ?_, fun i hi => ?_⟩, (Below.refl _ _).drew.alloc (Nat.le_refl _) _⟩
  · obtain ⟨b, _, rfl⟩ := List.mem_map.1 hz
    exact mk_u8 (by omega) (by have := b.toNat_lt; omega)
  · rw [cell_of_row _ _ _ _ _ _ hN, Array.getElem?_eq_getElem (by omega)]; rfl
  · generalize bytesRow s C = cur at hN hsize ⊢
    unfold World.frozen?
    dsimp only
    rw [hN]
    simp
    omega
  · have hbs : i < s.data.size := hi
    have hj' : i < (s.data.map fun b => Value.int .u8 b.toNat).size := by simpa using hbs
    rw [cell_of_row _ _ _ _ _ _ hN]
    unfold bytesRow
    rw [Array.getElem?_append_left hj', Array.getElem?_map, Array.getElem?_eq_getElem hbs, List.getD_eq_getElem?_getD]
    simp only [octB', List.getElem?_map, Array.getElem?_toList, Array.getElem?_eq_getElem hbs, Option.map_some, Option.getD_some]
end Go.Proofs.YtefhddbbiheadaaGreat

/-! D30 -/
namespace Go.Proofs.YtefhddbbiheadaaGreat
open Go.RowKit
set_option linter.unusedVariables false

/-- The error, and the length, of a text as one encoded-word. -/
def ewcE (n k : Int) (t : List Int) : Int := if 1 ≤ n ∧ n ≤ 5 then (if k = 1 ∨ k = 2 then layE n t else 3) else 10
def ewcT (n k : Int) (t : List Int) : Nat := (ewTx k (layL n t)).length
def ewcL (n k : Int) (t : List Int) : Int := if ewcE n k t = 0 then ewO n + ewcT n k t else 0
def ewcX (n k : Int) (t : List Int) : Int := if ewcE n k t = 0 then ewcT n k t else 0
/-- The better code. -/
def ewcB (n : Int) (t : List Int) : Int := if ewcE n 1 t = 0 then (if ewcL n 2 t ≤ ewcL n 1 t then 2 else 1) else 0
def ewcF (n k : Int) (t : List Int) (room : Int) : Bool := decide (ewcE n k t = 0) && (decide (t ≠ []) && (decide (ewcL n k t ≤ room) && decide (ewcL n k t ≤ 75)))
/-- How many signs from the first on fit. -/
def ewcP (n k : Int) (t : List Int) (room : Int) : Nat := ((List.range t.length).takeWhile fun i => ewcF n k (t.take (i + 1)) room).length

theorem ewcE_zero {n k : Int} {t : List Int} (h : ewcE n k t = 0) : (1 ≤ n ∧ n ≤ 5) ∧ (k = 1 ∨ k = 2) ∧ t.all (hasR n) = true ∧ layE n t = 0 ∧ layL n t = octsR n t := by
  unfold ewcE at h
  by_cases h1 : 1 ≤ n ∧ n ≤ 5
  · rw [if_pos h1] at h
    by_cases h2 : k = 1 ∨ k = 2
    · rw [if_pos h2] at h
      have h3 := (layE_zero h).2
      exact ⟨h1, h2, h3, h, (lay_in h1 h3).1⟩
    · rw [if_neg h2] at h; exact absurd h (by decide)
  · rw [if_neg h1] at h; exact absurd h (by decide)
theorem nm_size {n : Int} (h : 1 ≤ n ∧ n ≤ 5) : (nmS n).size ≤ 12 ∧ 5 ≤ (nmS n).size := by
  rcases nm_cases h with rfl | rfl | rfl | rfl | rfl <;> decide
theorem ewO_eq {n : Int} (h : 1 ≤ n ∧ n ≤ 5) : ewO n = 7 + (nmS n).size := by unfold ewO; rw [if_pos h]
theorem ewO_bd (n : Int) : 0 ≤ ewO n ∧ ewO n ≤ 19 := by
  unfold ewO
  split
  · rename_i h
    have := nm_size h
    omega
  · omega
theorem ewX_len {n k : Int} (hn : 1 ≤ n ∧ n ≤ 5) (s : List Int) : ((ewX n k s).length : Int) = ewO n + (ewTx k s).length := by
  rw [ewO_eq hn]
  unfold ewX ewMk
  have := nmL_len n
  split <;> (simp only [List.length_append, List.length_cons, List.length_nil]; omega)
theorem layB_len (s : List Int) : (layB s).length = (s.length + 2) / 3 * 4 := by
  unfold layB fill4 bareB
  rw [List.length_append, List.length_replicate, List.length_map, v64_len]
  omega
theorem ewTx_len (k : Int) (s : List Int) : (ewTx k s).length ≤ 4 * s.length := by
  unfold ewTx
  split
  · have := layW_len s; omega
  · rw [layB_len]; omega
theorem ewcT_bd (n k : Int) (t : List Int) : ewcT n k t ≤ 16 * t.length := by
  unfold ewcT
  have h1 := ewTx_len k (layL n t)
  have h2 := layL_len n t
  omega
theorem ewcL_bd (n k : Int) (t : List Int) : 0 ≤ ewcL n k t ∧ ewcL n k t ≤ 19 + 16 * t.length := by
  have h1 := ewO_bd n
  have h2 := ewcT_bd n k t
  unfold ewcL
  split <;> omega
theorem ewcL_no {n k : Int} {t : List Int} (h : ewcE n k t ≠ 0) : ewcL n k t = 0 ∧ ∀ r, ewcF n k t r = false := by
  refine ⟨by unfold ewcL; rw [if_neg h], fun r => ?_⟩
  unfold ewcF
  rw [decide_eq_false h]; rfl
theorem ewcF_iff {n k : Int} {t : List Int} {r : Int} : ewcF n k t r = true ↔ ewcE n k t = 0 ∧ t ≠ [] ∧ ewcL n k t ≤ r ∧ ewcL n k t ≤ 75 := by
  unfold ewcF
  simp [Bool.and_eq_true, decide_eq_true_eq]
theorem layL_ne {n : Int} {t : List Int} (hn : 1 ≤ n ∧ n ≤ 5) (h : t.all (hasR n) = true) (hne : t ≠ []) : layL n t ≠ [] := by
  rw [(lay_in hn h).1]
  cases t with
  | nil => exact absurd rfl hne
  | cons c t =>
    intro hh
    rw [List.all_cons, Bool.and_eq_true] at h
    have h1 := octR_pos h.1
    have h2 := congrArg List.length hh
    unfold octsR at h2
    rw [List.flatMap_cons, List.length_append, List.length_nil] at h2
    omega
/-- What fits is laid as one encoded-word, of just that length (P30.3). -/
theorem ewc_laid {n k : Int} {t : List Int} (h : ewcE n k t = 0) : (ewLE n k (layL n t) = 0 → ((ewL n k (layL n t)).length : Int) = ewcL n k t) ∧ (t ≠ [] → ewcL n k t ≤ 75 → ewLE n k (layL n t) = 0) := by
  obtain ⟨h1, h2, h3, h4, h5⟩ := ewcE_zero h
  have hl : ewcL n k t = ((ewX n k (layL n t)).length : Int) := by
    rw [ewX_len h1]
    unfold ewcL ewcT
    rw [if_pos h]
  refine ⟨fun h0 => ?_, fun hne h75 => ?_⟩
  · unfold ewL
    rw [if_pos h0, hl]
  · unfold ewLE
    rw [if_pos h1, if_pos ⟨h2, layL_ne h1 h3 hne⟩, if_neg (by omega)]

/-! ### lengths never fall; the longest beginning -/
theorem ewcE_take {n k : Int} {t : List Int} (h : ewcE n k t = 0) (j : Nat) : ewcE n k (t.take j) = 0 := by
  obtain ⟨h1, h2, h3, _, _⟩ := ewcE_zero h
  unfold ewcE
  rw [if_pos h1, if_pos h2]
  exact (lay_in h1 (by rw [List.all_eq_true] at h3 ⊢; exact fun x hx => h3 x (List.mem_of_mem_take hx))).2
theorem ewTx_mono (k : Int) (s r : List Int) : (ewTx k s).length ≤ (ewTx k (s ++ r)).length := by
  unfold ewTx
  split
  · rw [layW_app, List.length_append]; omega
  · rw [layB_len, layB_len, List.length_append]
    omega
theorem ewcL_mono {n k : Int} {t : List Int} (h : ewcE n k t = 0) (j : Nat) : ewcL n k (t.take j) ≤ ewcL n k t := by
  have hj := ewcE_take h j
  obtain ⟨_, _, _, _, e1⟩ := ewcE_zero h
  obtain ⟨_, _, _, _, e2⟩ := ewcE_zero hj
  unfold ewcL ewcT
  rw [if_pos h, if_pos hj, e1, e2]
  have e : octsR n t = octsR n (t.take j) ++ octsR n (t.drop j) := by
    unfold octsR
    rw [← List.flatMap_append, List.take_append_drop]
  have := ewTx_mono k (octsR n (t.take j)) (octsR n (t.drop j))
  rw [← e] at this
  omega
theorem tw_range (p : Nat → Bool) : ∀ m : Nat, ((List.range m).takeWhile p).length ≤ m ∧ (∀ i, i < ((List.range m).takeWhile p).length → p i = true) ∧ (((List.range m).takeWhile p).length < m → p ((List.range m).takeWhile p).length = false)
  | 0 => ⟨Nat.le_refl _, fun i hi => absurd hi (Nat.not_lt_zero _), fun h => absurd h (Nat.lt_irrefl _)⟩
  | m + 1 => by
    obtain ⟨h1, h2, h3⟩ := tw_range p m
    rw [List.range_succ, List.takeWhile_append]
    by_cases hl : ((List.range m).takeWhile p).length = (List.range m).length
    · rw [if_pos hl]
      rw [List.length_range] at hl
      cases hp : p m
      · have e : [m].takeWhile p = [] := by rw [List.takeWhile_cons, hp]; rfl
        rw [e, List.append_nil, List.length_range]
        exact ⟨by omega, fun i hi => h2 i (by omega), fun _ => hp⟩
      · have e : [m].takeWhile p = [m] := by rw [List.takeWhile_cons, hp]; rfl
        rw [e, List.length_append, List.length_range, List.length_singleton]
        refine ⟨Nat.le_refl _, fun i hi => ?_, fun h => absurd h (Nat.lt_irrefl _)⟩
        by_cases him : i = m
        · rw [him]; exact hp
        · exact h2 i (by omega)
    · rw [if_neg hl]
      rw [List.length_range] at hl
      exact ⟨by omega, h2, fun _ => h3 (by omega)⟩
theorem ewcP_le (n k : Int) (t : List Int) (r : Int) : ewcP n k t r ≤ t.length := (tw_range _ _).1
theorem ewcP_fit {n k : Int} {t : List Int} {r : Int} {j : Nat} (h : j < ewcP n k t r) : ewcF n k (t.take (j + 1)) r = true := (tw_range _ _).2.1 j h
theorem ewcP_no {n k : Int} {t : List Int} {r : Int} (h : ewcP n k t r < t.length) : ewcF n k (t.take (ewcP n k t r + 1)) r = false := (tw_range (fun i => ewcF n k (t.take (i + 1)) r) t.length).2.2 h
/-- The loop that looks for it. -/
theorem ewcP_at {n k : Int} {t : List Int} {r : Int} {j : Nat} (hj : j ≤ t.length) (hf : ∀ i, i < j → ewcF n k (t.take (i + 1)) r = true) (hn : j < t.length → ewcF n k (t.take (j + 1)) r = false) : ewcP n k t r = j := by
  have h1 := ewcP_le n k t r
  rcases Nat.lt_trichotomy (ewcP n k t r) j with h | h | h
  · have := hf _ h
    rw [ewcP_no (by omega)] at this
    cases this
  · exact h
  · have := ewcP_fit h
    rw [hn (by omega)] at this
    cases this
theorem ewcP_ok {n k : Int} {t : List Int} {r : Int} (h : 0 < ewcP n k t r) : ewcF n k (t.take (ewcP n k t r)) r = true := by
  have := ewcP_fit (n := n) (k := k) (t := t) (r := r) (j := ewcP n k t r - 1) (by omega)
  rwa [show ewcP n k t r - 1 + 1 = ewcP n k t r by omega] at this
end Go.Proofs.YtefhddbbiheadaaGreat
