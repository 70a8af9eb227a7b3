/-
  Texts of ours laid together: Base.
-/
import Derived.WalkKit
import Derived.WalkSpells
import Derived.Handy
import Derived.Deep.DeepCutAuto
import Derived.Deep.QuietTactic
import Derived.BigQuiet

/-! Base -/
namespace Go.Proofs.YtefhddbbiheadaaGreat
open Go.RowKit

theorem hid {p : Prop} (h : p) : Hid p := h
theorem ret_int {k : IntKind} {a b : Int} (h : a = b) : Ending.returned (.int k a) = .returned (.int k b) := by rw [h]
theorem ret_bool {a b : Bool} (h : a = b) : Ending.returned (.bool a) = .returned (.bool b) := by rw [h]
theorem bool_iff {a b : Bool} (h : a = true ↔ b = true) : Value.bool a = .bool b := by rw [Bool.eq_iff_iff.2 h]

/-! ### bytes -/
theorem byte_fin {p : Int → Prop} (h : ∀ n : Fin 256, p (n.val : Int)) (c : Int) (h0 : 0 ≤ c) (h1 : c ≤ 255) : p c := by
  have := h ⟨c.toNat, by omega⟩
  rwa [show ((⟨c.toNat, by omega⟩ : Fin 256).val : Int) = c by simp; omega] at this
theorem wf_u8 {x : Int} (h : (Lit.int .u8 x).wf = true) : 0 ≤ x ∧ x ≤ 255 := bounds_u8 h
theorem mk_u8 {x : Int} (h0 : 0 ≤ x) (h1 : x ≤ 255) : (Lit.int .u8 x).wf = true := WalkArith.wf_u8 (by omega)
theorem wf_i64 {x : Int} (h : (Lit.int .i64 x).wf = true) : -9223372036854775808 ≤ x ∧ x ≤ 9223372036854775807 := bounds_i64 h

/-! ### strings -/
theorem u8_eq (b : UInt8) (c : Int) (h0 : 0 ≤ c) (h1 : c ≤ 255) : (b == c.toNat.toUInt8) = ((b.toNat : Int) == c) := by
  rw [Bool.eq_iff_iff, beq_iff_eq, beq_iff_eq, ← UInt8.toNat_inj]
  simp
  omega
theorem take_snoc (s : ByteArray) (k : Nat) (h : k < s.size) : s.data.toList.take (k + 1) = s.data.toList.take k ++ [s[k]] := by
  rw [List.take_succ_eq_append_getElem (by simpa using h)]; rfl
theorem any_stop (s : ByteArray) (k : Nat) (h : k < s.size) (f : UInt8 → Bool) (hf : f s[k] = true) : s.data.toList.any f = true := by
  rw [List.any_eq_true]; exact ⟨s[k], by simp [ByteArray.getElem_eq_getElem_data], hf⟩
theorem any_on (s : ByteArray) (k : Nat) (h : k < s.size) (f : UInt8 → Bool) (hf : f s[k] = false) (hn : (s.data.toList.take k).any f = false) : (s.data.toList.take (k+1)).any f = false := by
  rw [take_snoc s k h, List.any_append, hn]; simp [hf]
theorem any_end (s : ByteArray) (k : Nat) (h : s.size ≤ k) (f : UInt8 → Bool) (hn : (s.data.toList.take k).any f = false) : s.data.toList.any f = false := by
  rwa [List.take_of_length_le (by simpa using h)] at hn

/-- Does a text have an octet? (as strings.IndexByte tells it) -/
def hasB (s : ByteArray) (c : Int) : Bool := s.data.toList.any (· == c.toNat.toUInt8)
theorem hasB_eq (s : ByteArray) (c : Int) (h0 : 0 ≤ c) (h1 : c ≤ 255) : hasB s c = s.data.toList.any (fun b => (b.toNat : Int) == c) := by
  unfold hasB; simp only [u8_eq _ c h0 h1]

/-! ### slices that are read -/
/-- The slice (a, len, cap) reads as the numbers xs of kind k. -/
structure Reads (k : IntKind) (w : World) (a : Option Addr) (len cap : Nat) (xs : List Int) : Prop where
  size : xs.length = len
  room : len ≤ cap
  top : cap ≤ maxLen
  wf : ∀ x ∈ xs, (Lit.int k x).wf = true
  cell : 0 < len → ∃ b off, a = some ⟨b, off, none⟩ ∧ b < w.heap.size ∧ ∀ i, i < len → w.cell? ⟨b, off + i, none⟩ = some (.int k (xs.getD i 0))

theorem Reads.below {k : IntKind} {w w' : World} {a : Option Addr} {len cap : Nat} {xs : List Int} (h : Reads k w a len cap xs) (hb : Below w.heap.size w w') : Reads k w' a len cap xs :=
  ⟨h.size, h.room, h.top, h.wf, fun hl => by
    obtain ⟨b, off, ha, hlt, hc⟩ := h.cell hl
    exact ⟨b, off, ha, Nat.lt_of_lt_of_le hlt hb.size, fun i hi => (hb.cell (p := ⟨b, off + i, none⟩) hlt).trans (hc i hi)⟩⟩

theorem Reads.nil (k : IntKind) (w : World) (a : Option Addr) (cap : Nat) (h : cap ≤ maxLen) : Reads k w a 0 cap [] :=
  ⟨rfl, Nat.zero_le _, h, (fun _ h => by cases h), (fun h => absurd h (by omega))⟩

theorem Reads.len_le {k : IntKind} {w : World} {a : Option Addr} {len cap : Nat} {xs : List Int} (h : Reads k w a len cap xs) : len ≤ 9223372036854775807 := by
  have h1 := h.room; have h2 := h.top; unfold maxLen at h2; omega

theorem take_next {xs : List Int} {i : Nat} (h : i < xs.length) : xs.take (i + 1) = xs.take i ++ [xs[i]] := by
  rw [List.take_succ_eq_append_getElem h]

/-- Element i: where it lies, what it is. -/
theorem Reads.get {k : IntKind} {w : World} {a : Option Addr} {len cap : Nat} {xs : List Int} (h : Reads k w a len cap xs) {i : Nat} (hi : i < len) :
    ∃ b off x, a = some ⟨b, off, none⟩ ∧ b < w.heap.size ∧ w.cell? ⟨b, off + i, none⟩ = some (.int k x) ∧ Hid (xs[i]? = some x ∧ xs.take (i + 1) = xs.take i ++ [x] ∧ (Lit.int k x).wf = true) := by
  have hx : i < xs.length := by rw [h.size]; exact hi
  obtain ⟨b, off, ha, hb, hc⟩ := h.cell (by omega)
  refine ⟨b, off, xs[i], ha, hb, ?_, ?_, take_next hx, h.wf _ (List.getElem_mem hx)⟩
  · rw [hc i hi, List.getD_eq_getElem?_getD, List.getElem?_eq_getElem hx]; rfl
  · exact List.getElem?_eq_getElem hx

theorem Reads.get8 {w : World} {a : Option Addr} {len cap : Nat} {xs : List Int} (h : Reads .u8 w a len cap xs) {i : Nat} (hi : i < len) :
    ∃ b off x, a = some ⟨b, off, none⟩ ∧ b < w.heap.size ∧ w.cell? ⟨b, off + i, none⟩ = some (.int .u8 x) ∧ 0 ≤ x ∧ x ≤ 255 ∧ Hid (xs[i]? = some x ∧ xs.take (i + 1) = xs.take i ++ [x]) := by
  obtain ⟨b, off, x, ha, hb, hc, hx⟩ := h.get hi
  obtain ⟨h1, h2, h3⟩ := hx.out
  exact ⟨b, off, x, ha, hb, hc, (wf_u8 h3).1, (wf_u8 h3).2, h1, h2⟩

theorem Reads.all {k : IntKind} {w : World} {a : Option Addr} {len cap : Nat} {xs : List Int} (h : Reads k w a len cap xs) {i : Nat} (hi : len ≤ i) : xs.take i = xs :=
  List.take_of_length_le (by rw [h.size]; exact hi)

/-- A piece. -/
theorem Reads.piece {k : IntKind} {w : World} {a : Option Addr} {len cap : Nat} {xs : List Int} (h : Reads k w a len cap xs) {l r : Nat} (hlr : l ≤ r) (hr : r ≤ len) :
    Reads k w (if cap = l then a else a.map (·.add l)) (r - l) (cap - l) ((xs.take r).drop l) := by
  have hs := h.size
  have hrm := h.room
  refine ⟨by simp; omega, by omega, Nat.le_trans (Nat.sub_le _ _) h.top, fun x hx => h.wf x (List.mem_of_mem_take (List.mem_of_mem_drop hx)), fun hl => ?_⟩
  obtain ⟨b, off, ha, hb, hc⟩ := h.cell (by omega)
  subst ha
  rw [if_neg (by omega)]
  refine ⟨b, off + l, by simp [Addr.add_lit], hb, fun i hi => ?_⟩
  rw [Nat.add_assoc, hc (l + i) (by omega)]
  simp [show l + i < r by omega]

/-- A slice literal of the call's own. -/
theorem Reads.lit (k : IntKind) (e : TypeId) (w : World) (xs : List Int) (hm : xs.length ≤ maxLen) (hwf : ∀ x ∈ xs, (Lit.int k x).wf = true) :
    Reads k (w.alloc (.cells (xs.map (Value.int k)).toArray e)) (some ⟨w.heap.size, 0, none⟩) xs.length xs.length xs :=
  ⟨rfl, Nat.le_refl _, hm, hwf, fun hl => ⟨w.heap.size, 0, rfl, by simp, fun i hi => by
    rw [World.cell?_alloc_at _ _ _ _ rfl]
    simp [hi]⟩⟩

/-! ### slices that the call makes -/
/-- The slice value v holds the numbers xs of kind k in a row of the call's own (blocks from 'base' on). -/
def Own (k : IntKind) (e : TypeId) (base : Nat) (w : World) (v : Value) (xs : List Int) : Prop :=
  w.ownsRow base e 1 v xs.length (xs.map (Value.int k)) ∧ ∀ x ∈ xs, (Lit.int k x).wf = true

theorem Own.nil (k : IntKind) (e : TypeId) (base : Nat) (w : World) : Own k e base w (.slice none 0 0) [] := ⟨World.ownsRow_nil _ _ _ _, fun _ h => by cases h⟩

theorem Own.reads {k : IntKind} {e : TypeId} {base : Nat} {w : World} {v : Value} {xs : List Int} (h : Own k e base w v xs) :
    ∃ a cap, v = .slice a xs.length cap ∧ Reads k w a xs.length cap xs := by
  obtain ⟨h1, hwf⟩ := h
  rcases h1.2 with ⟨rfl, hn⟩ | ⟨g, cap, cur, rfl, hg, hb, hnc, hcm, hcs, htk⟩
  · obtain rfl : xs = [] := List.eq_nil_of_length_eq_zero hn
    exact ⟨none, 0, rfl, Reads.nil _ _ _ _ (Nat.zero_le _)⟩
  · refine ⟨_, _, rfl, rfl, hnc, hcm, hwf, fun hl => ⟨g, 0, rfl, (h1.lt g rfl).2, fun i hi => ?_⟩⟩
    rw [Nat.zero_add, h1.cellAt i (by omega)]
    simp [hi]

/-- What the walk knows of the element's type. -/
structure SliceT (P : Program) (t e : TypeId) (k : IntKind) (by_ : Nat) : Prop where
  under : P.underlying t = some (.slice e)
  info : (P.info? e).map (fun i => (i.zero, i.size, i.bytes)) = some (some (.int k 0), 1, by_)
  small : by_ ≤ 8

section
variable {P : Program} {ops : Array Oper} {rest : List Oper} {o : Oper} {a : Act} {Q : Exit → Act → World → Prop} {t e : TypeId} {k : IntKind} {by_ : Nat}

/-- 'append(s, y)'. -/
theorem wpList_push (ST : SliceT P t e k by_) (hgd : o.guard = none) (s x : Operand) (ho : o.op = .call { callee := .builtin .append, args := #[s, x], argTypes := #[t, t] })
    {w0 wr : World} {e' : TypeId} {y : Int} {v : Value} {xs : List Int} (hs : a.eval s = v) (hx : ∃ c, a.eval x = .slice (some ⟨wr.heap.size, 0, none⟩) 1 c)
    (hown : Own k e w0.heap.size wr v xs) (hbel : Below w0.heap.size w0 wr) (hlen : xs.length < 1000000000000) (hwf : (Lit.int k y).wf = true)
    (h : ∀ v' w', Own k e w0.heap.size w' v' (xs ++ [y]) → Below w0.heap.size w0 w' → wpList P ops Q rest (a.put o.dst v') w') :
    wpList P ops Q (o :: rest) a (wr.alloc (.cells #[.int k y] e')) := by
  obtain ⟨i, hi, hz0, hz1, hz2⟩ := info_parts ST.info
  obtain ⟨c, hx⟩ := hx
  have hsm := ST.small
  have hmul : (xs.length + 1) * by_ ≤ (xs.length + 1) * 8 := Nat.mul_le_mul_left _ hsm
  refine wpList_append_own _ hgd s x t ho w0.heap.size e i (.int k 0) 1 by_ ST.under hi hz0 hz1 hz2 rfl (by decide) v xs.length (xs.map (Value.int k)) hs (hown.1.alloc _) ⟨wr.heap.size, 0, none⟩ 1 c [.int k y] hx rfl ?_ ?_ (by unfold maxLen; omega) (by omega)
    (Nat.le_trans hbel.size (by simp)) ?_
  · intro j u hj
    match j, hj with
    | 0, hj => simp at hj; subst hj; simp [Addr.add]
  · intro u hu; simp at hu; subst hu; rfl
  · intro v' w' hown' hgrow _
    refine h v' w' ⟨by simpa using hown', ?_⟩ ((hbel.alloc hbel.size _).grown hgrow (Nat.le_trans hbel.size (by simp)) (fun j hj => (hown.1.lt j hj).1))
    intro z hz
    rcases List.mem_append.1 hz with hz | hz
    · exact hown.2 z hz
    · simp at hz; subst hz; exact hwf

/-- 'append(s, ys...)'. -/
theorem wpList_more (ST : SliceT P t e k by_) (hgd : o.guard = none) (s x : Operand) (ho : o.op = .call { callee := .builtin .append, args := #[s, x], argTypes := #[t, t] })
    {w0 wr : World} {v : Value} {xs ys : List Int} {ao : Option Addr} {m c : Nat} (hs : a.eval s = v) (hx : a.eval x = .slice ao m c)
    (hown : Own k e w0.heap.size wr v xs) (hbel : Below w0.heap.size w0 wr) (hr : Reads k wr ao m c ys) (hlen : xs.length + m < 1000000000000)
    (h : ∀ v' w', Own k e w0.heap.size w' v' (xs ++ ys) → Below w0.heap.size w0 w' → wpList P ops Q rest (a.put o.dst v') w') :
    wpList P ops Q (o :: rest) a wr := by
  obtain ⟨i, hi, hz0, hz1, hz2⟩ := info_parts ST.info
  have hsm := ST.small
  have hsz := hr.size
  by_cases hm : m = 0
  · subst hm
    obtain rfl : ys = [] := List.eq_nil_of_length_eq_zero hsz
    refine wpList_plain hgd fun K hK' => ?_
    have hrun : (Builtin.append_ #[t, t] o.type #[v, .slice ao 0 c]).run P wr = .ok v wr := by
      rcases hown.1.2 with ⟨rfl, _⟩ | ⟨g, cap, cur, rfl, _, _, hnc, _⟩
      · cases ao <;> simp [Builtin.append_, run_underlying ST.under, sizeOf, typeInfo, hi, Builtin.lenOf, Builtin.firstCells, loadCells, loadCellsFrom]
      · cases ao <;> simp [Builtin.append_, run_underlying ST.under, sizeOf, typeInfo, hi, Builtin.lenOf, Builtin.firstCells, hnc, storeCells, loadCells, loadCellsFrom]
    unfold Oper.wp
    simp [execOp, ho, resolve, invoke, builtin, hs, hx, hrun, Result.andThen]
    exact hK' _ _ (h v wr (by simpa using hown) hbel)
  · obtain ⟨b, off, rfl, hb, hc⟩ := hr.cell (by omega)
    have hmul : (xs.length + m) * by_ ≤ (xs.length + m) * 8 := Nat.mul_le_mul_left _ hsm
    refine wpList_append_own _ hgd s x t ho w0.heap.size e i (.int k 0) 1 by_ ST.under hi hz0 hz1 hz2 rfl (by decide) v xs.length (xs.map (Value.int k)) hs hown.1 ⟨b, off, none⟩ m c (ys.map (Value.int k)) hx (by simp [hsz]) ?_ (ints_oneCell _ _) (by unfold maxLen; omega) (by omega)
      hbel.size ?_
    · intro j u hj
      have hjl : j < ys.length := by
        have := (List.getElem?_eq_some_iff.1 hj).1
        simpa using this
      rw [Addr.add_lit, hc j (by omega)]
      simp only [List.getElem?_map, List.getElem?_eq_getElem hjl, Option.map_some, Option.some.injEq] at hj
      subst hj
      simp [hjl]
    · intro v' w' hown' hgrow _
      refine h v' w' ⟨by simpa [hsz] using hown', ?_⟩ (hbel.grown hgrow hbel.size (fun j hj => (hown.1.lt j hj).1))
      intro z hz
      rcases List.mem_append.1 hz with hz | hz
      · exact hown.2 z hz
      · exact hr.wf z hz

/-- 'make([]T, n)'. -/
theorem wpList_zeros (ST : SliceT P t e k by_) (hgd : o.guard = none) (l c : Operand) (ho : o.op = Op.makeSlice t l c)
    {w0 wr : World} {kl kc : IntKind} {n : Nat} (hl : a.eval l = .int kl n) (hc : a.eval c = .int kc n) (hbel : Below w0.heap.size w0 wr) (hlen : n < 1000000000000) (hwf : (Lit.int k 0).wf = true)
    (h : ∀ g w', Own k e w0.heap.size w' (.slice (some ⟨g, 0, none⟩) n n) (List.replicate n 0) → Below w0.heap.size w0 w' → wpList P ops Q rest (a.put o.dst (.slice (some ⟨g, 0, none⟩) n n)) w') :
    wpList P ops Q (o :: rest) a wr := by
  obtain ⟨i, hi, hz0, hz1, hz2⟩ := info_parts ST.info
  have hsm := ST.small
  have hmul : i.bytes * n ≤ 8 * n := Nat.mul_le_mul_right _ (by omega)
  refine wpList_make_full _ hgd l c t ho w0.heap.size e i (.int k 0) 1 ST.under hi hz0 hz1 kl kc n n n hl hc rfl rfl (by omega) (by unfold maxLen; omega) hbel.size ?_
  intro w' hown hgrow
  refine h _ w' ⟨?_, ?_⟩ (hbel.grown hgrow hbel.size (fun j hj => by cases hj))
  · have e1 : (madeCells (Value.int k 0).cells (n * 1)).toList = (List.replicate n (0 : Int)).map (Value.int k) := by
      rw [Nat.mul_one, List.map_replicate]
      exact toList_madeCells_one _ _
    rw [e1] at hown
    simpa using hown
  · intro z hz
    rw [List.eq_of_mem_replicate hz]; exact hwf
end

/-- A store into a row of the call's own. -/
theorem Own.store {k : IntKind} {e : TypeId} {w0 w : World} {g n cap : Nat} {xs : List Int} (h : Own k e w0.heap.size w (.slice (some ⟨g, 0, none⟩) n cap) xs) (hb : Below w0.heap.size w0 w) (j : Nat) {y : Int} (hy : (Lit.int k y).wf = true) :
    Own k e w0.heap.size (w.setCell ⟨g, j, none⟩ (.int k y)) (.slice (some ⟨g, 0, none⟩) n cap) (xs.set j y) ∧ Below w0.heap.size w0 (w.setCell ⟨g, j, none⟩ (.int k y)) := by
  obtain ⟨h1, h2⟩ := h
  have hn : xs.length = n := by
    rcases h1.2 with ⟨h', _⟩ | ⟨_, _, _, h', _⟩
    · simp at h'
    · simp only [Value.slice.injEq] at h'; exact h'.2.1.symm
  subst hn
  refine ⟨⟨?_, ?_⟩, hb.setCell (h1.lt g rfl).1 _⟩
  · have := (h1.stored j (.int k y)).1
    rw [← List.map_set] at this
    simpa using this
  · intro z hz
    rcases List.mem_or_eq_of_mem_set hz with hz | rfl
    · exact h2 z hz
    · exact hy

/-- A cell of a row of the call's own: what it holds; it may be written. -/
theorem Own.at {k : IntKind} {e : TypeId} {base : Nat} {w : World} {g n cap : Nat} {xs : List Int} (h : Own k e base w (.slice (some ⟨g, 0, none⟩) n cap) xs) {j : Nat} (hj : j < xs.length) :
    w.cell? ⟨g, j, none⟩ = some (.int k xs[j]) ∧ w.frozen? ⟨g, j, none⟩ = false := by
  obtain ⟨h1, h2⟩ := h
  have hn : xs.length = n := by
    rcases h1.2 with ⟨h', _⟩ | ⟨_, _, _, h', _⟩
    · simp at h'
    · simp only [Value.slice.injEq] at h'; exact h'.2.1.symm
  subst hn
  refine ⟨?_, h1.frozenAt j⟩
  rw [h1.cellAt j (by omega)]
  simp [hj]

theorem Own.below {k : IntKind} {e : TypeId} {base : Nat} {w w' : World} {v : Value} {xs : List Int} (h : Own k e base w v xs) (hb : Below w.heap.size w w') : Own k e base w' v xs := by
  refine ⟨?_, h.2⟩
  exact h.1.kept (row := none) ⟨hb.os, hb.tape, hb.output, hb.size, fun k hk _ => hb.block k hk⟩ (by
    cases hv : v.ownBlock with
    | none => exact .inl rfl
    | some g => exact .inr (by simp))

theorem Below.drewN {B : Nat} {a w : World} (h : Below B a w) (n : Nat) : Below B a (w.drewN n) := h.trans ⟨rfl, rfl, rfl, Nat.le_refl _, fun _ _ => rfl⟩

theorem Calls.flip {P : Program} {f : FuncId} {args : Array Value} {w : World} {v : Value} (h : Calls P f args w fun e w' => e = .returned v ∧ w = w') : Calls P f args w fun e w' => e = .returned v ∧ w' = w :=
  h.mono fun _ _ ⟨he, hw⟩ => ⟨he, hw.symm⟩

/-- Two steps: what is below the first one's heap. -/
theorem Below.then {a b c : World} (h : Below a.heap.size a b) (h' : Below b.heap.size b c) : Below a.heap.size a c := h.trans (h'.mono h.size)

end Go.Proofs.YtefhddbbiheadaaGreat
