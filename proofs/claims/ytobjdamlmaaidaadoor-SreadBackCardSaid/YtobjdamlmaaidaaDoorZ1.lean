/-
  Texts of ours laid together: Base, Base2, D01, C01, R01, First, D03, D14, R14, R14b.
-/
import Derived.WalkKit
import Derived.WalkSpells
import Derived.Handy
import Derived.Deep.DeepCutAuto
import Derived.Deep.QuietTactic
import Derived.BigQuiet
import Derived.Lib.SlBytesConst
import Derived.Laws.IdiomStrings
import Derived.Deep.AppendLies
import Derived.Deep.RegionLaw
import Derived.Test.YtobjdamlmaaidaaDoorRows
import Derived.Deep.CutBlock

/-! Base -/
namespace Go.Proofs.YtobjdamlmaaidaaDoor
open Go.RowKit

theorem hid {p : Prop} (h : p) : Hid p := h
theorem ret_int {k : IntKind} {a b : Int} (h : a = b) : Ending.returned (.int k a) = .returned (.int k b) := by rw [h]
theorem ret_bool {a b : Bool} (h : a = b) : Ending.returned (.bool a) = .returned (.bool b) := by rw [h]
theorem bool_iff {a b : Bool} (h : a = true ↔ b = true) : Value.bool a = .bool b := by rw [Bool.eq_iff_iff.2 h]

/-! ### bytes -/
theorem byte_fin {p : Int → Prop} (h : ∀ n : Fin 256, p (n.val : Int)) (c : Int) (h0 : 0 ≤ c) (h1 : c ≤ 255) : p c := by
  have := h ⟨c.toNat, by omega⟩
  rwa [show ((⟨c.toNat, by omega⟩ : Fin 256).val : Int) = c by simp; omega] at this
theorem wf_u8 {x : Int} (h : (Lit.int .u8 x).wf = true) : 0 ≤ x ∧ x ≤ 255 := bounds_u8 h
theorem mk_u8 {x : Int} (h0 : 0 ≤ x) (h1 : x ≤ 255) : (Lit.int .u8 x).wf = true := WalkArith.wf_u8 (by omega)
theorem wf_i64 {x : Int} (h : (Lit.int .i64 x).wf = true) : -9223372036854775808 ≤ x ∧ x ≤ 9223372036854775807 := bounds_i64 h

/-! ### strings -/
theorem u8_eq (b : UInt8) (c : Int) (h0 : 0 ≤ c) (h1 : c ≤ 255) : (b == c.toNat.toUInt8) = ((b.toNat : Int) == c) := by
  rw [Bool.eq_iff_iff, beq_iff_eq, beq_iff_eq, ← UInt8.toNat_inj]
  simp
  omega
theorem take_snoc (s : ByteArray) (k : Nat) (h : k < s.size) : s.data.toList.take (k + 1) = s.data.toList.take k ++ [s[k]] := by
  rw [List.take_succ_eq_append_getElem (by simpa using h)]; rfl
theorem any_stop (s : ByteArray) (k : Nat) (h : k < s.size) (f : UInt8 → Bool) (hf : f s[k] = true) : s.data.toList.any f = true := by
  rw [List.any_eq_true]; exact ⟨s[k], by simp [ByteArray.getElem_eq_getElem_data], hf⟩
theorem any_on (s : ByteArray) (k : Nat) (h : k < s.size) (f : UInt8 → Bool) (hf : f s[k] = false) (hn : (s.data.toList.take k).any f = false) : (s.data.toList.take (k+1)).any f = false := by
  rw [take_snoc s k h, List.any_append, hn]; simp [hf]
theorem any_end (s : ByteArray) (k : Nat) (h : s.size ≤ k) (f : UInt8 → Bool) (hn : (s.data.toList.take k).any f = false) : s.data.toList.any f = false := by
  rwa [List.take_of_length_le (by simpa using h)] at hn

/-- Does a text have an octet? (as strings.IndexByte tells it) -/
def hasB (s : ByteArray) (c : Int) : Bool := s.data.toList.any (· == c.toNat.toUInt8)
theorem hasB_eq (s : ByteArray) (c : Int) (h0 : 0 ≤ c) (h1 : c ≤ 255) : hasB s c = s.data.toList.any (fun b => (b.toNat : Int) == c) := by
  unfold hasB; simp only [u8_eq _ c h0 h1]

/-! ### slices that are read -/
/-- The slice (a, len, cap) reads as the numbers xs of kind k. -/
structure Reads (k : IntKind) (w : World) (a : Option Addr) (len cap : Nat) (xs : List Int) : Prop where
  size : xs.length = len
  room : len ≤ cap
  top : cap ≤ maxLen
  wf : ∀ x ∈ xs, (Lit.int k x).wf = true
  cell : 0 < len → ∃ b off, a = some ⟨b, off, none⟩ ∧ b < w.heap.size ∧ ∀ i, i < len → w.cell? ⟨b, off + i, none⟩ = some (.int k (xs.getD i 0))

theorem Reads.below {k : IntKind} {w w' : World} {a : Option Addr} {len cap : Nat} {xs : List Int} (h : Reads k w a len cap xs) (hb : Below w.heap.size w w') : Reads k w' a len cap xs :=
  ⟨h.size, h.room, h.top, h.wf, fun hl => by
    obtain ⟨b, off, ha, hlt, hc⟩ := h.cell hl
    exact ⟨b, off, ha, Nat.lt_of_lt_of_le hlt hb.size, fun i hi => (hb.cell (p := ⟨b, off + i, none⟩) hlt).trans (hc i hi)⟩⟩

theorem Reads.nil (k : IntKind) (w : World) (a : Option Addr) (cap : Nat) (h : cap ≤ maxLen) : Reads k w a 0 cap [] :=
  ⟨rfl, Nat.zero_le _, h, (fun _ h => by cases h), (fun h => absurd h (by omega))⟩

theorem Reads.len_le {k : IntKind} {w : World} {a : Option Addr} {len cap : Nat} {xs : List Int} (h : Reads k w a len cap xs) : len ≤ 9223372036854775807 := by
  have h1 := h.room; have h2 := h.top; unfold maxLen at h2; omega

theorem take_next {xs : List Int} {i : Nat} (h : i < xs.length) : xs.take (i + 1) = xs.take i ++ [xs[i]] := by
  rw [List.take_succ_eq_append_getElem h]

/-- Element i: where it lies, what it is. -/
theorem Reads.get {k : IntKind} {w : World} {a : Option Addr} {len cap : Nat} {xs : List Int} (h : Reads k w a len cap xs) {i : Nat} (hi : i < len) :
    ∃ b off x, a = some ⟨b, off, none⟩ ∧ b < w.heap.size ∧ w.cell? ⟨b, off + i, none⟩ = some (.int k x) ∧ Hid (xs[i]? = some x ∧ xs.take (i + 1) = xs.take i ++ [x] ∧ (Lit.int k x).wf = true) := by
  have hx : i < xs.length := by rw [h.size]; exact hi
  obtain ⟨b, off, ha, hb, hc⟩ := h.cell (by omega)
  refine ⟨b, off, xs[i], ha, hb, ?_, ?_, take_next hx, h.wf _ (List.getElem_mem hx)⟩
  · rw [hc i hi, List.getD_eq_getElem?_getD, List.getElem?_eq_getElem hx]; rfl
  · exact List.getElem?_eq_getElem hx

theorem Reads.get8 {w : World} {a : Option Addr} {len cap : Nat} {xs : List Int} (h : Reads .u8 w a len cap xs) {i : Nat} (hi : i < len) :
    ∃ b off x, a = some ⟨b, off, none⟩ ∧ b < w.heap.size ∧ w.cell? ⟨b, off + i, none⟩ = some (.int .u8 x) ∧ 0 ≤ x ∧ x ≤ 255 ∧ Hid (xs[i]? = some x ∧ xs.take (i + 1) = xs.take i ++ [x]) := by
  obtain ⟨b, off, x, ha, hb, hc, hx⟩ := h.get hi
  obtain ⟨h1, h2, h3⟩ := hx.out
  exact ⟨b, off, x, ha, hb, hc, (wf_u8 h3).1, (wf_u8 h3).2, h1, h2⟩

theorem Reads.all {k : IntKind} {w : World} {a : Option Addr} {len cap : Nat} {xs : List Int} (h : Reads k w a len cap xs) {i : Nat} (hi : len ≤ i) : xs.take i = xs :=
  List.take_of_length_le (by rw [h.size]; exact hi)

/-- A piece. -/
theorem Reads.piece {k : IntKind} {w : World} {a : Option Addr} {len cap : Nat} {xs : List Int} (h : Reads k w a len cap xs) {l r : Nat} (hlr : l ≤ r) (hr : r ≤ len) :
    Reads k w (if cap = l then a else a.map (·.add l)) (r - l) (cap - l) ((xs.take r).drop l) := by
  have hs := h.size
  have hrm := h.room
  refine ⟨by simp; omega, by omega, Nat.le_trans (Nat.sub_le _ _) h.top, fun x hx => h.wf x (List.mem_of_mem_take (List.mem_of_mem_drop hx)), fun hl => ?_⟩
  obtain ⟨b, off, ha, hb, hc⟩ := h.cell (by omega)
  subst ha
  rw [if_neg (by omega)]
  refine ⟨b, off + l, by simp [Addr.add_lit], hb, fun i hi => ?_⟩
  rw [Nat.add_assoc, hc (l + i) (by omega)]
  simp [show l + i < r by omega]

/-- A slice literal of the call's own. -/
theorem Reads.lit (k : IntKind) (e : TypeId) (w : World) (xs : List Int) (hm : xs.length ≤ maxLen) (hwf : ∀ x ∈ xs, (Lit.int k x).wf = true) :
    Reads k (w.alloc (.cells (xs.map (Value.int k)).toArray e)) (some ⟨w.heap.size, 0, none⟩) xs.length xs.length xs :=
  ⟨rfl, Nat.le_refl _, hm, hwf, fun hl => ⟨w.heap.size, 0, rfl, by simp, fun i hi => by
    rw [World.cell?_alloc_at _ _ _ _ rfl]
    simp [hi]⟩⟩

/-! ### slices that the call makes -/
/-- The slice value v holds the numbers xs of kind k in a row of the call's own (blocks from 'base' on). -/
def Own (k : IntKind) (e : TypeId) (base : Nat) (w : World) (v : Value) (xs : List Int) : Prop :=
  w.ownsRow base e 1 v xs.length (xs.map (Value.int k)) ∧ ∀ x ∈ xs, (Lit.int k x).wf = true

theorem Own.nil (k : IntKind) (e : TypeId) (base : Nat) (w : World) : Own k e base w (.slice none 0 0) [] := ⟨World.ownsRow_nil _ _ _ _, fun _ h => by cases h⟩

theorem Own.reads {k : IntKind} {e : TypeId} {base : Nat} {w : World} {v : Value} {xs : List Int} (h : Own k e base w v xs) :
    ∃ a cap, v = .slice a xs.length cap ∧ Reads k w a xs.length cap xs := by
  obtain ⟨h1, hwf⟩ := h
  rcases h1.2 with ⟨rfl, hn⟩ | ⟨g, cap, cur, rfl, hg, hb, hnc, hcm, hcs, htk⟩
  · obtain rfl : xs = [] := List.eq_nil_of_length_eq_zero hn
    exact ⟨none, 0, rfl, Reads.nil _ _ _ _ (Nat.zero_le _)⟩
  · refine ⟨_, _, rfl, rfl, hnc, hcm, hwf, fun hl => ⟨g, 0, rfl, (h1.lt g rfl).2, fun i hi => ?_⟩⟩
    rw [Nat.zero_add, h1.cellAt i (by omega)]
    simp [hi]

/-- What the walk knows of the element's type. -/
structure SliceT (P : Program) (t e : TypeId) (k : IntKind) (by_ : Nat) : Prop where
  under : P.underlying t = some (.slice e)
  info : (P.info? e).map (fun i => (i.zero, i.size, i.bytes)) = some (some (.int k 0), 1, by_)
  small : by_ ≤ 8

section
variable {P : Program} {ops : Array Oper} {rest : List Oper} {o : Oper} {a : Act} {Q : Exit → Act → World → Prop} {t e : TypeId} {k : IntKind} {by_ : Nat}

/-- 'append(s, y)'. -/
theorem wpList_push (ST : SliceT P t e k by_) (hgd : o.guard = none) (s x : Operand) (ho : o.op = .call { callee := .builtin .append, args := #[s, x], argTypes := #[t, t] })
    {w0 wr : World} {e' : TypeId} {y : Int} {v : Value} {xs : List Int} (hs : a.eval s = v) (hx : ∃ c, a.eval x = .slice (some ⟨wr.heap.size, 0, none⟩) 1 c)
    (hown : Own k e w0.heap.size wr v xs) (hbel : Below w0.heap.size w0 wr) (hlen : xs.length < 1000000000000) (hwf : (Lit.int k y).wf = true)
    (h : ∀ v' w', Own k e w0.heap.size w' v' (xs ++ [y]) → Below w0.heap.size w0 w' → wpList P ops Q rest (a.put o.dst v') w') :
    wpList P ops Q (o :: rest) a (wr.alloc (.cells #[.int k y] e')) := by
  obtain ⟨i, hi, hz0, hz1, hz2⟩ := info_parts ST.info
  obtain ⟨c, hx⟩ := hx
  have hsm := ST.small
  have hmul : (xs.length + 1) * by_ ≤ (xs.length + 1) * 8 := Nat.mul_le_mul_left _ hsm
  refine wpList_append_own _ hgd s x t ho w0.heap.size e i (.int k 0) 1 by_ ST.under hi hz0 hz1 hz2 rfl (by decide) v xs.length (xs.map (Value.int k)) hs (hown.1.alloc _) ⟨wr.heap.size, 0, none⟩ 1 c [.int k y] hx rfl ?_ ?_ (by unfold maxLen; omega) (by omega)
    (Nat.le_trans hbel.size (by simp)) ?_
  · intro j u hj
    match j, hj with
    | 0, hj => simp at hj; subst hj; simp [Addr.add]
  · intro u hu; simp at hu; subst hu; rfl
  · intro v' w' hown' hgrow _
    refine h v' w' ⟨by simpa using hown', ?_⟩ ((hbel.alloc hbel.size _).grown hgrow (Nat.le_trans hbel.size (by simp)) (fun j hj => (hown.1.lt j hj).1))
    intro z hz
    rcases List.mem_append.1 hz with hz | hz
    · exact hown.2 z hz
    · simp at hz; subst hz; exact hwf

/-- 'append(s, ys...)'. -/
theorem wpList_more (ST : SliceT P t e k by_) (hgd : o.guard = none) (s x : Operand) (ho : o.op = .call { callee := .builtin .append, args := #[s, x], argTypes := #[t, t] })
    {w0 wr : World} {v : Value} {xs ys : List Int} {ao : Option Addr} {m c : Nat} (hs : a.eval s = v) (hx : a.eval x = .slice ao m c)
    (hown : Own k e w0.heap.size wr v xs) (hbel : Below w0.heap.size w0 wr) (hr : Reads k wr ao m c ys) (hlen : xs.length + m < 1000000000000)
    (h : ∀ v' w', Own k e w0.heap.size w' v' (xs ++ ys) → Below w0.heap.size w0 w' → wpList P ops Q rest (a.put o.dst v') w') :
    wpList P ops Q (o :: rest) a wr := by
  obtain ⟨i, hi, hz0, hz1, hz2⟩ := info_parts ST.info
  have hsm := ST.small
  have hsz := hr.size
  by_cases hm : m = 0
  · subst hm
    obtain rfl : ys = [] := List.eq_nil_of_length_eq_zero hsz
    refine wpList_plain hgd fun K hK' => ?_
    have hrun : (Builtin.append_ #[t, t] o.type #[v, .slice ao 0 c]).run P wr = .ok v wr := by
      rcases hown.1.2 with ⟨rfl, _⟩ | ⟨g, cap, cur, rfl, _, _, hnc, _⟩
      · cases ao <;> simp [Builtin.append_, run_underlying ST.under, sizeOf, typeInfo, hi, Builtin.lenOf, Builtin.firstCells, loadCells, loadCellsFrom]
      · cases ao <;> simp [Builtin.append_, run_underlying ST.under, sizeOf, typeInfo, hi, Builtin.lenOf, Builtin.firstCells, hnc, storeCells, loadCells, loadCellsFrom]
    unfold Oper.wp
    simp [execOp, ho, resolve, invoke, builtin, hs, hx, hrun, Result.andThen]
    exact hK' _ _ (h v wr (by simpa using hown) hbel)
  · obtain ⟨b, off, rfl, hb, hc⟩ := hr.cell (by omega)
    have hmul : (xs.length + m) * by_ ≤ (xs.length + m) * 8 := Nat.mul_le_mul_left _ hsm
    refine wpList_append_own _ hgd s x t ho w0.heap.size e i (.int k 0) 1 by_ ST.under hi hz0 hz1 hz2 rfl (by decide) v xs.length (xs.map (Value.int k)) hs hown.1 ⟨b, off, none⟩ m c (ys.map (Value.int k)) hx (by simp [hsz]) ?_ (ints_oneCell _ _) (by unfold maxLen; omega) (by omega)
      hbel.size ?_
    · intro j u hj
      have hjl : j < ys.length := by
        have := (List.getElem?_eq_some_iff.1 hj).1
        simpa using this
      rw [Addr.add_lit, hc j (by omega)]
      simp only [List.getElem?_map, List.getElem?_eq_getElem hjl, Option.map_some, Option.some.injEq] at hj
      subst hj
      simp [hjl]
    · intro v' w' hown' hgrow _
      refine h v' w' ⟨by simpa [hsz] using hown', ?_⟩ (hbel.grown hgrow hbel.size (fun j hj => (hown.1.lt j hj).1))
      intro z hz
      rcases List.mem_append.1 hz with hz | hz
      · exact hown.2 z hz
      · exact hr.wf z hz

/-- 'make([]T, n)'. -/
theorem wpList_zeros (ST : SliceT P t e k by_) (hgd : o.guard = none) (l c : Operand) (ho : o.op = Op.makeSlice t l c)
    {w0 wr : World} {kl kc : IntKind} {n : Nat} (hl : a.eval l = .int kl n) (hc : a.eval c = .int kc n) (hbel : Below w0.heap.size w0 wr) (hlen : n < 1000000000000) (hwf : (Lit.int k 0).wf = true)
    (h : ∀ g w', Own k e w0.heap.size w' (.slice (some ⟨g, 0, none⟩) n n) (List.replicate n 0) → Below w0.heap.size w0 w' → wpList P ops Q rest (a.put o.dst (.slice (some ⟨g, 0, none⟩) n n)) w') :
    wpList P ops Q (o :: rest) a wr := by
  obtain ⟨i, hi, hz0, hz1, hz2⟩ := info_parts ST.info
  have hsm := ST.small
  have hmul : i.bytes * n ≤ 8 * n := Nat.mul_le_mul_right _ (by omega)
  refine wpList_make_full _ hgd l c t ho w0.heap.size e i (.int k 0) 1 ST.under hi hz0 hz1 kl kc n n n hl hc rfl rfl (by omega) (by unfold maxLen; omega) hbel.size ?_
  intro w' hown hgrow
  refine h _ w' ⟨?_, ?_⟩ (hbel.grown hgrow hbel.size (fun j hj => by cases hj))
  · have e1 : (madeCells (Value.int k 0).cells (n * 1)).toList = (List.replicate n (0 : Int)).map (Value.int k) := by
      rw [Nat.mul_one, List.map_replicate]
      exact toList_madeCells_one _ _
    rw [e1] at hown
    simpa using hown
  · intro z hz
    rw [List.eq_of_mem_replicate hz]; exact hwf
end

/-- A store into a row of the call's own. -/
theorem Own.store {k : IntKind} {e : TypeId} {w0 w : World} {g n cap : Nat} {xs : List Int} (h : Own k e w0.heap.size w (.slice (some ⟨g, 0, none⟩) n cap) xs) (hb : Below w0.heap.size w0 w) (j : Nat) {y : Int} (hy : (Lit.int k y).wf = true) :
    Own k e w0.heap.size (w.setCell ⟨g, j, none⟩ (.int k y)) (.slice (some ⟨g, 0, none⟩) n cap) (xs.set j y) ∧ Below w0.heap.size w0 (w.setCell ⟨g, j, none⟩ (.int k y)) := by
  obtain ⟨h1, h2⟩ := h
  have hn : xs.length = n := by
    rcases h1.2 with ⟨h', _⟩ | ⟨_, _, _, h', _⟩
    · simp at h'
    · simp only [Value.slice.injEq] at h'; exact h'.2.1.symm
  subst hn
  refine ⟨⟨?_, ?_⟩, hb.setCell (h1.lt g rfl).1 _⟩
  · have := (h1.stored j (.int k y)).1
    rw [← List.map_set] at this
    simpa using this
  · intro z hz
    rcases List.mem_or_eq_of_mem_set hz with hz | rfl
    · exact h2 z hz
    · exact hy

/-- A cell of a row of the call's own: what it holds; it may be written. -/
theorem Own.at {k : IntKind} {e : TypeId} {base : Nat} {w : World} {g n cap : Nat} {xs : List Int} (h : Own k e base w (.slice (some ⟨g, 0, none⟩) n cap) xs) {j : Nat} (hj : j < xs.length) :
    w.cell? ⟨g, j, none⟩ = some (.int k xs[j]) ∧ w.frozen? ⟨g, j, none⟩ = false := by
  obtain ⟨h1, h2⟩ := h
  have hn : xs.length = n := by
    rcases h1.2 with ⟨h', _⟩ | ⟨_, _, _, h', _⟩
    · simp at h'
    · simp only [Value.slice.injEq] at h'; exact h'.2.1.symm
  subst hn
  refine ⟨?_, h1.frozenAt j⟩
  rw [h1.cellAt j (by omega)]
  simp [hj]

theorem Own.below {k : IntKind} {e : TypeId} {base : Nat} {w w' : World} {v : Value} {xs : List Int} (h : Own k e base w v xs) (hb : Below w.heap.size w w') : Own k e base w' v xs := by
  refine ⟨?_, h.2⟩
  exact h.1.kept (row := none) ⟨hb.os, hb.tape, hb.output, hb.size, fun k hk _ => hb.block k hk⟩ (by
    cases hv : v.ownBlock with
    | none => exact .inl rfl
    | some g => exact .inr (by simp))

theorem Below.drewN {B : Nat} {a w : World} (h : Below B a w) (n : Nat) : Below B a (w.drewN n) := h.trans ⟨rfl, rfl, rfl, Nat.le_refl _, fun _ _ => rfl⟩

theorem Calls.flip {P : Program} {f : FuncId} {args : Array Value} {w : World} {v : Value} (h : Calls P f args w fun e w' => e = .returned v ∧ w = w') : Calls P f args w fun e w' => e = .returned v ∧ w' = w :=
  h.mono fun _ _ ⟨he, hw⟩ => ⟨he, hw.symm⟩

/-- Two steps: what is below the first one's heap. -/
theorem Below.then {a b c : World} (h : Below a.heap.size a b) (h' : Below b.heap.size b c) : Below a.heap.size a c := h.trans (h'.mono h.size)

end Go.Proofs.YtobjdamlmaaidaaDoor

/-! Base2 -/
namespace Go.Proofs.YtobjdamlmaaidaaDoor
open Go.RowKit

theorem reads_of_ints {k : IntKind} {w : World} {x : Addr} {len cap : Nat} {zs : List Int} (hl : len ≤ cap) (hm : cap ≤ maxLen) (hz : zs.length = cap)
    (hcell : ∀ i, i < zs.length → w.cell? (x.add i) = some (.int k (zs.getD i 0))) (hwz : ∀ n ∈ zs, (Lit.int k n).wf = true) : Reads k w (some x) len cap (zs.take len) :=
  ⟨by simp; omega, hl, hm, fun y hy => hwz y (List.mem_of_mem_take hy), fun hpos => by
    obtain ⟨b, off, rfl, hc⟩ := ints_at hcell (by omega)
    have h0 := hc 0 (by omega)
    refine ⟨b, off, rfl, World.block_lt_of_cell? w _ h0, fun i hi => ?_⟩
    rw [hc i (by omega)]
    simp [hi]⟩

/-- A constant's row, marked. -/
theorem Reads_lit (k : IntKind) (e : TypeId) (fz : Nat × Nat) (w : World) (xs : List Int) (hm : xs.length ≤ maxLen) (hwf : ∀ x ∈ xs, (Lit.int k x).wf = true) :
    Reads k (w.alloc (.cells (xs.map (Value.int k)).toArray e fz)) (some ⟨w.heap.size, 0, none⟩) xs.length xs.length xs :=
  ⟨rfl, Nat.le_refl _, hm, hwf, fun hl => ⟨w.heap.size, 0, rfl, by simp, fun i hi => by
    have hb : (w.alloc (.cells (xs.map (Value.int k)).toArray e fz)).heap[w.heap.size]? = some (.cells (xs.map (Value.int k)).toArray e fz) := heap_alloc_new w _
    rw [cell_of_row _ _ _ _ _ _ hb]
    simp [hi]⟩⟩

/-- The same, its block's number given. -/
theorem Reads_litB (k : IntKind) (e : TypeId) (fz : Nat × Nat) (w : World) (B : Nat) (hB : w.heap.size = B) (xs : List Int) (hm : xs.length ≤ maxLen) (hwf : ∀ x ∈ xs, (Lit.int k x).wf = true) :
    Reads k (w.alloc (.cells (xs.map (Value.int k)).toArray e fz)) (some ⟨B, 0, none⟩) xs.length xs.length xs := by
  subst hB; exact Reads_lit k e fz w xs hm hwf
/-- '[]byte("..")' of a constant, the n-th in a row. -/
theorem conv0 {P : Program} {t e : TypeId} (ht : P.underlying t = some (.slice e)) (he : P.underlying e = some (.int .u8)) (w : World) (C : Array Value) (n c : Nat) :
    (convert t t (.slice (some ⟨w.heap.size, 0, none⟩) n c)).run P (w.alloc (.cells C e)) = .ok (.slice (some ⟨w.heap.size, 0, none⟩) n c) (w.alloc (.cells C e (C.size, C.size + 1))) :=
  Lib.run_convert_bytes_const w t e C n c ht he
theorem convB {P : Program} {t e : TypeId} (ht : P.underlying t = some (.slice e)) (he : P.underlying e = some (.int .u8)) (w : World) (B : Nat) (hB : w.heap.size = B) (C : Array Value) (n c : Nat) :
    (convert t t (.slice (some ⟨B, 0, none⟩) n c)).run P (w.alloc (.cells C e)) = .ok (.slice (some ⟨B, 0, none⟩) n c) (w.alloc (.cells C e (C.size, C.size + 1))) := by
  subst hB; exact Lib.run_convert_bytes_const w t e C n c ht he
theorem conv1 {P : Program} {t e : TypeId} (ht : P.underlying t = some (.slice e)) (he : P.underlying e = some (.int .u8)) (w : World) (o : Obj) (C : Array Value) (n c : Nat) :
    (convert t t (.slice (some ⟨w.heap.size + 1, 0, none⟩) n c)).run P ((w.alloc o).alloc (.cells C e)) = .ok (.slice (some ⟨w.heap.size + 1, 0, none⟩) n c) ((w.alloc o).alloc (.cells C e (C.size, C.size + 1))) := by
  have := Lib.run_convert_bytes_const (P := P) (w.alloc o) t e C n c ht he
  simpa using this
theorem conv2 {P : Program} {t e : TypeId} (ht : P.underlying t = some (.slice e)) (he : P.underlying e = some (.int .u8)) (w : World) (o o' : Obj) (C : Array Value) (n c : Nat) :
    (convert t t (.slice (some ⟨w.heap.size + 2, 0, none⟩) n c)).run P (((w.alloc o).alloc o').alloc (.cells C e)) = .ok (.slice (some ⟨w.heap.size + 2, 0, none⟩) n c) (((w.alloc o).alloc o').alloc (.cells C e (C.size, C.size + 1))) := by
  have := Lib.run_convert_bytes_const (P := P) ((w.alloc o).alloc o') t e C n c ht he
  simpa using this

section
variable {P : Program} {ops : Array Oper} {rest : List Oper} {o : Oper} {a : Act} {Q : Exit → Act → World → Prop} {t e : TypeId} {k : IntKind} {by_ : Nat}

/-- 'append(s, y1, y2, ..)': the literal's row is the newest block. -/
theorem wpList_pushs (ST : SliceT P t e k by_) (ys : List Int) (hgd : o.guard = none) (s x : Operand) (ho : o.op = .call { callee := .builtin .append, args := #[s, x], argTypes := #[t, t] })
    {w0 wr : World} {e' : TypeId} {v : Value} {xs : List Int} (hs : a.eval s = v) (hx : ∃ c, a.eval x = .slice (some ⟨wr.heap.size, 0, none⟩) ys.length c)
    (hown : Own k e w0.heap.size wr v xs) (hbel : Below w0.heap.size w0 wr) (hlen : xs.length + ys.length < 1000000000000) (hwf : ∀ y ∈ ys, (Lit.int k y).wf = true)
    (h : ∀ v' w', Own k e w0.heap.size w' v' (xs ++ ys) → Below w0.heap.size w0 w' → wpList P ops Q rest (a.put o.dst v') w') :
    wpList P ops Q (o :: rest) a (wr.alloc (.cells (ys.map (Value.int k)).toArray e')) := by
  obtain ⟨i, hi, hz0, hz1, hz2⟩ := info_parts ST.info
  obtain ⟨c, hx⟩ := hx
  have hsm := ST.small
  have hmul : (xs.length + ys.length) * by_ ≤ (xs.length + ys.length) * 8 := Nat.mul_le_mul_left _ hsm
  refine wpList_append_own _ hgd s x t ho w0.heap.size e i (.int k 0) 1 by_ ST.under hi hz0 hz1 hz2 rfl (by decide) v xs.length (xs.map (Value.int k)) hs (hown.1.alloc _) ⟨wr.heap.size, 0, none⟩ ys.length c (ys.map (Value.int k)) hx (by simp) ?_ (ints_oneCell _ _) (by unfold maxLen; omega) (by omega)
    (Nat.le_trans hbel.size (by simp)) ?_
  · intro j u hj
    rw [Addr.add_lit, World.cell?_alloc_at _ _ _ _ rfl]
    simpa using hj
  · intro v' w' hown' hgrow _
    refine h v' w' ⟨by simpa using hown', ?_⟩ ((hbel.alloc hbel.size _).grown hgrow (Nat.le_trans hbel.size (by simp)) (fun j hj => (hown.1.lt j hj).1))
    intro z hz
    rcases List.mem_append.1 hz with hz | hz
    · exact hown.2 z hz
    · exact hwf z hz

/-- 'make([]T, 0, n)'. -/
theorem wpList_make0 (ST : SliceT P t e k by_) (hgd : o.guard = none) (l c : Operand) (ho : o.op = Op.makeSlice t l c)
    {w0 wr : World} {kl kc : IntKind} {n : Nat} (hl : a.eval l = .int kl 0) (hc : a.eval c = .int kc n) (hbel : Below w0.heap.size w0 wr) (hlen : n < 1000000000000)
    (h : ∀ v' w', Own k e w0.heap.size w' v' [] → Below w0.heap.size w0 w' → wpList P ops Q rest (a.put o.dst v') w') :
    wpList P ops Q (o :: rest) a wr := by
  obtain ⟨i, hi, hz0, hz1, hz2⟩ := info_parts ST.info
  have hsm := ST.small
  have hmul : i.bytes * n ≤ 8 * n := Nat.mul_le_mul_right _ (by omega)
  refine wpList_make_own _ hgd l c t ho w0.heap.size e i (.int k 0) 1 ST.under hi hz0 hz1 kl kc n n hl hc rfl (by omega) (by unfold maxLen; omega) hbel.size ?_
  intro w' hown hgrow
  exact h _ w' ⟨by simpa using hown, fun x hx => by cases hx⟩ (hbel.grown hgrow hbel.size (fun j hj => by cases hj))
end

section
variable {P : Program} {ops : Array Oper} {o : Oper} {a : Act} {K : Act → World → Prop} {Q : Exit → Act → World → Prop} {E : Prop} {t e : TypeId} {k : IntKind} {by_ : Nat}

/-- 'append(s, y1, y2, ..)' as a step of a region that draws its order. -/
theorem step_pushs (ST : SliceT P t e k by_) (ys : List Int) (hgd : o.guard = none) (s x : Operand) (ho : o.op = .call { callee := .builtin .append, args := #[s, x], argTypes := #[t, t] })
    {w0 wr : World} {e' : TypeId} {v : Value} {xs : List Int} (hs : a.eval s = v) (hx : ∃ c, a.eval x = .slice (some ⟨wr.heap.size, 0, none⟩) ys.length c) (hy : 0 < ys.length)
    (hown : Own k e w0.heap.size wr v xs) (hbel : Below w0.heap.size w0 wr) (hlen : xs.length + ys.length < 1000000000000) (hwf : ∀ y ∈ ys, (Lit.int k y).wf = true)
    (h : ∀ v' w', Own k e w0.heap.size w' v' (xs ++ ys) → Below w0.heap.size w0 w' → K (a.put o.dst v') w') :
    if Region.wanted o (yielded ops a.tmps) = true then Oper.wp P o a (wr.alloc (.cells (ys.map (Value.int k)).toArray e')) K Q else E := by
  obtain ⟨i, hi, hz0, hz1, hz2⟩ := info_parts ST.info
  obtain ⟨c, hx⟩ := hx
  have hsm := ST.small
  have hmul : (xs.length + ys.length) * by_ ≤ (xs.length + ys.length) * 8 := Nat.mul_le_mul_left _ hsm
  have hw : Region.wanted o (yielded ops a.tmps) = true := by simp [Region.wanted, hgd]
  rw [if_pos hw]
  refine wp_append_lies _ s x t ho w0.heap.size e i (.int k 0) 1 by_ ST.under hi hz0 hz1 hz2 rfl (by decide) v xs.length (xs.map (Value.int k)) hs (hown.1.alloc _) ⟨wr.heap.size, 0, none⟩ ys.length c (ys.map (Value.int k)) hx (by simp) ?_ (ints_oneCell _ _) hy (by unfold maxLen; omega) (by omega)
    (Nat.le_trans hbel.size (by simp)) _ rfl ?_
  · intro j u hj
    rw [Addr.add_lit, World.cell?_alloc_at _ _ _ _ rfl]
    simpa using hj
  · intro g cap w' hown' hgrow _ _
    refine h _ w' ⟨by simpa using hown', ?_⟩ ((hbel.alloc hbel.size _).grown hgrow (Nat.le_trans hbel.size (by simp)) (fun j hj => (hown.1.lt j hj).1))
    intro z hz
    rcases List.mem_append.1 hz with hz | hz
    · exact hown.2 z hz
    · exact hwf z hz
end

theorem ret_ib {k : IntKind} {a b : Int} {c d : Bool} (h : a = b) (h' : c = d) : Ending.returned (.tuple #[.int k a, .bool c]) = .returned (.tuple #[.int k b, .bool d]) := by rw [h, h']
theorem ret_si {a : Option Addr} {l c : Nat} {k : IntKind} {x y : Int} (h : x = y) : Ending.returned (.tuple #[.slice a l c, .int k x]) = .returned (.tuple #[.slice a l c, .int k y]) := by rw [h]
/-- A slice value of the call's own, given back. -/
theorem Own.back {w0 w : World} {v : Value} {xs : List Int} {e : TypeId} (h : Own .u8 e w0.heap.size w v xs) : ∃ a' len' cap', v = .slice a' len' cap' ∧ Reads .u8 w a' len' cap' xs := by
  obtain ⟨a', cap', hv, hr⟩ := h.reads
  exact ⟨a', _, cap', hv, hr⟩
theorem Own.drew' {k : IntKind} {e : TypeId} {base : Nat} {w : World} {v : Value} {xs : List Int} (h : Own k e base w v xs) : Own k e base w.drew v xs := h.below ⟨rfl, rfl, rfl, Nat.le_refl _, fun _ _ => rfl⟩
theorem below_drew {B : Nat} {a w : World} (h : Below B a w) : Below B a w.drew := h.trans ⟨rfl, rfl, rfl, Nat.le_refl _, fun _ _ => rfl⟩
/-- The text of octets. -/
def strB (xs : List Int) : ByteArray := ⟨(xs.map fun x => UInt8.ofNat x.toNat).toArray⟩
/-- 'string(b)'. -/
theorem Reads.string {P : Program} {src dst e : TypeId} (hs : P.underlying src = some (.slice e)) (he : P.underlying e = some (.int .u8)) (hd : P.underlying dst = some .string)
    {w : World} {a : Option Addr} {len cap : Nat} {xs : List Int} (h : Reads .u8 w a len cap xs) : (convert src dst (.slice a len cap)).run P w = .ok (.string (strB xs)) w := by
  have hl : (xs.map fun x => UInt8.ofNat x.toNat).length = len := by simp [h.size]
  cases a with
  | none =>
    have h0 : len = 0 := by
      rcases Nat.eq_zero_or_pos len with h0 | h0
      · exact h0
      · obtain ⟨_, _, ha, _⟩ := h.cell h0; cases ha
    subst h0
    obtain rfl : xs = [] := List.eq_nil_of_length_eq_zero h.size
    rw [run_convert_bytes_string w src dst e none 0 cap hs he hd]
    rfl
  | some p =>
    have := run_convert_bytes_back (P := P) w src dst e p cap (xs.map fun x => UInt8.ofNat x.toNat) hs he hd (fun j hj => by
      obtain ⟨b, off, ha, _, hc⟩ := h.cell (by omega)
      cases ha
      have hjx : j < xs.length := by simpa using hj
      rw [Addr.add_lit, hc j (by omega)]
      have hw := wf_u8 (h.wf _ (List.getElem_mem hjx))
      simp [hjx]
      omega)
    rw [hl] at this
    exact this

theorem below_then {a b c : World} (h : Below a.heap.size a b) (h' : Below b.heap.size b c) : Below a.heap.size a c := h.trans (h'.mono h.size)
theorem below_then' {a b c : World} {B : Nat} (h : Below B a b) (h' : Below b.heap.size b c) (hB : B ≤ a.heap.size) : Below B a c := h.trans (h'.mono (Nat.le_trans hB h.size))

/-- A beginning. -/
theorem Reads.pre {k : IntKind} {w : World} {a : Option Addr} {len cap : Nat} {xs : List Int} (h : Reads k w a len cap xs) {n : Nat} (hn : n ≤ len) : Reads k w a n cap (xs.take n) := by
  have hs := h.size
  have hr := h.room
  refine ⟨by simp; omega, by omega, h.top, fun x hx => h.wf x (List.mem_of_mem_take hx), fun hl => ?_⟩
  obtain ⟨b, off, ha, hb, hc⟩ := h.cell (by omega)
  refine ⟨b, off, ha, hb, fun i hi => ?_⟩
  rw [hc i (by omega)]
  simp [hi]

end Go.Proofs.YtobjdamlmaaidaaDoor

/-! D01 -/
namespace Go.Proofs.YtobjdamlmaaidaaDoor
open Go.RowKit

def lowI (c : Int) : Int := if 65 ≤ c ∧ c ≤ 90 then c + 32 else c
theorem low_bd (c : Int) (h0 : 0 ≤ c) (h1 : c ≤ 255) : 0 ≤ lowI c ∧ lowI c ≤ 255 := by unfold lowI; split <;> omega
def alnumI (c : Int) : Int := if 48 ≤ c ∧ c ≤ 57 then 8 else if 97 ≤ lowI c ∧ lowI c ≤ 122 then 16 else 0
abbrev spS : ByteArray := { data := #[40, 41, 60, 62, 64, 44, 59, 58, 92, 34, 47, 91, 93, 63, 61] }
abbrev noS : ByteArray := { data := #[42, 39, 37] }
abbrev woS : ByteArray := { data := #[33, 42, 43, 45, 47] }
abbrev baS : ByteArray := { data := #[43, 47] }
def synI (c : Int) : Int := if hasB spS c = true then 32 else if hasB noS c = true then 64 else 320
def codI (c : Int) : Int := if (alnumI c != 0) = true then 640 else if hasB woS c = true then (if hasB baS c = true then bits BinOp.or IntKind.i64 (bits BinOp.or IntKind.i64 0 128) 512 else bits BinOp.or IntKind.i64 0 128) else (if hasB baS c = true then bits BinOp.or IntKind.i64 0 512 else 0)
def kindI (c : Int) : Int := if c = 9 then 3 else if c = 32 then 2 else if c < 32 ∨ c = 127 then 1 else if 127 < c then 0 else
  bits BinOp.or IntKind.i64 (bits BinOp.or IntKind.i64 (bits BinOp.or IntKind.i64 4 (alnumI c)) (synI c)) (codI c)
/-- Is an octet of one of some kinds? -/
def isB (kinds c : Int) : Bool := bits BinOp.and IntKind.i64 (kindI c) kinds != 0
def cntI (f : Int → Bool) (xs : List Int) : Int := ((xs.filter f).length : Nat)
theorem cnt_nil (f : Int → Bool) : cntI f [] = 0 := rfl
theorem cnt_bd (f : Int → Bool) (xs : List Int) (k : Nat) : 0 ≤ cntI f (xs.take k) ∧ cntI f (xs.take k) ≤ k := by
  unfold cntI
  have h1 := List.length_filter_le f (xs.take k)
  have h2 := List.length_take_le k xs
  omega
theorem cnt_yes {f : Int → Bool} {xs : List Int} {k : Nat} {x : Int} (h : xs.take (k + 1) = xs.take k ++ [x]) (hf : f x = true) : cntI f (xs.take (k + 1)) = cntI f (xs.take k) + 1 := by
  rw [h]; simp [cntI, List.filter_append, hf]
theorem cnt_no {f : Int → Bool} {xs : List Int} {k : Nat} {x : Int} (h : xs.take (k + 1) = xs.take k ++ [x]) (hf : f x = false) : cntI f (xs.take (k + 1)) = cntI f (xs.take k) := by
  rw [h]; simp [cntI, List.filter_append, hf]
theorem all_yes {f : Int → Bool} {xs : List Int} {k : Nat} {x : Int} (h : xs.take (k + 1) = xs.take k ++ [x]) (hn : (xs.take k).all f = true) (hf : f x = true) : (xs.take (k + 1)).all f = true := by
  rw [h, List.all_append, hn]; simp [hf]
theorem all_no {f : Int → Bool} {xs : List Int} {k : Nat} {x : Int} (h : xs[k]? = some x) (hf : f x = false) : xs.all f = false := by
  rw [List.all_eq_false]; exact ⟨x, List.mem_of_getElem? h, by simp [hf]⟩
theorem eq_no {xs ys : List Int} {k : Nat} {x y : Int} (hx : xs[k]? = some x) (hy : ys[k]? = some y) (h : (x != y) = true) : decide (xs = ys) = false := by
  rw [decide_eq_false_iff_not]
  rintro rfl
  rw [hx] at hy
  cases hy
  simp at h
theorem eq_len {xs ys : List Int} (h : xs.length ≠ ys.length) : decide (xs = ys) = false := by
  rw [decide_eq_false_iff_not]
  rintro rfl
  exact h rfl
theorem eq_yes {xs ys : List Int} {k : Nat} {x y : Int} (hx : xs.take (k + 1) = xs.take k ++ [x]) (hy : ys.take (k + 1) = ys.take k ++ [y]) (hn : xs.take k = ys.take k) (h : (x != y) = false) : xs.take (k + 1) = ys.take (k + 1) := by
  rw [hx, hy, hn, show x = y by simpa using h]
theorem map_take_wf {xs : List Int} (f : Int → Int) (hf : ∀ x, 0 ≤ x → x ≤ 255 → (Lit.int .u8 (f x)).wf = true) (h : ∀ x ∈ xs, (Lit.int .u8 x).wf = true) (x : Int) (hx : x ∈ xs.map f) : (Lit.int .u8 x).wf = true := by
  obtain ⟨y, hy, rfl⟩ := List.mem_map.1 hx
  exact hf y (wf_u8 (h y hy)).1 (wf_u8 (h y hy)).2
theorem low_wf (x : Int) (h0 : 0 ≤ x) (h1 : x ≤ 255) : (Lit.int .u8 (lowI x)).wf = true := mk_u8 (low_bd x h0 h1).1 (low_bd x h0 h1).2
/-- A row that is filled from the front. -/
def fill (f : Int → Int) (xs : List Int) (k : Nat) : List Int := (xs.take k).map f ++ List.replicate (xs.length - k) 0
theorem fill_len (f : Int → Int) (xs : List Int) (k : Nat) (h : k ≤ xs.length) : (fill f xs k).length = xs.length := by simp [fill]; omega
theorem fill_zero (f : Int → Int) (xs : List Int) : fill f xs 0 = List.replicate xs.length 0 := by simp [fill]
theorem fill_all (f : Int → Int) (xs : List Int) (k : Nat) (h : xs.length ≤ k) : fill f xs k = xs.map f := by simp [fill, List.take_of_length_le h, show xs.length - k = 0 by omega]
theorem fill_set (f : Int → Int) {xs : List Int} {k : Nat} {x : Int} (hk : k < xs.length) (h : xs.take (k + 1) = xs.take k ++ [x]) : (fill f xs k).set k (f x) = fill f xs (k + 1) := by
  unfold fill
  rw [h, List.set_append_right _ _ (by simp; omega)]
  have e : xs.length - k = (xs.length - (k + 1)) + 1 := by omega
  rw [e, List.replicate_succ]
  simp [show k - min k xs.length = 0 by omega]
def frontN (f : Int → Bool) (xs : List Int) : Nat := (xs.takeWhile f).length
def backN (f : Int → Bool) (xs : List Int) (a : Nat) : Nat → Nat
  | 0 => 0
  | n + 1 => if a < n + 1 ∧ f (xs.getD n 0) = true then backN f xs a n else n + 1
def trimL (f : Int → Bool) (xs : List Int) : List Int := (xs.take (backN f xs (frontN f xs) xs.length)).drop (frontN f xs)
theorem front_step {f : Int → Bool} {xs : List Int} {k : Nat} {x : Int} (hx : xs[k]? = some x) (hf : f x = true) : ((xs.drop k).takeWhile f).length = ((xs.drop (k + 1)).takeWhile f).length + 1 := by
  have hk : k < xs.length := (List.getElem?_eq_some_iff.1 hx).1
  have e : xs[k] = x := (List.getElem?_eq_some_iff.1 hx).2
  rw [List.drop_eq_getElem_cons hk, e]; simp [hf]
theorem front_stop {f : Int → Bool} {xs : List Int} {k : Nat} {x : Int} (hx : xs[k]? = some x) (hf : f x = false) : ((xs.drop k).takeWhile f).length = 0 := by
  have hk : k < xs.length := (List.getElem?_eq_some_iff.1 hx).1
  have e : xs[k] = x := (List.getElem?_eq_some_iff.1 hx).2
  rw [List.drop_eq_getElem_cons hk, e]; simp [hf]
theorem front_end {f : Int → Bool} {xs : List Int} {k : Nat} (h : xs.length ≤ k) : ((xs.drop k).takeWhile f).length = 0 := by
  rw [List.drop_of_length_le h]; rfl
theorem back_step {f : Int → Bool} {xs : List Int} {a m : Nat} {x : Int} (h : a < m) (hx : xs[m - 1]? = some x) (hf : f x = true) : backN f xs a m = backN f xs a (m - 1) := by
  obtain ⟨m, rfl⟩ : ∃ j, m = j + 1 := ⟨m - 1, by omega⟩
  simp only [Nat.add_sub_cancel] at hx ⊢
  rw [backN, if_pos ⟨h, by rw [List.getD_eq_getElem?_getD, hx]; exact hf⟩]
theorem back_stop {f : Int → Bool} {xs : List Int} {a m : Nat} {x : Int} (h : a < m) (hx : xs[m - 1]? = some x) (hf : f x = false) : backN f xs a m = m := by
  obtain ⟨m, rfl⟩ : ∃ j, m = j + 1 := ⟨m - 1, by omega⟩
  simp only [Nat.add_sub_cancel] at hx
  rw [backN, if_neg (fun hh => by rw [List.getD_eq_getElem?_getD, hx] at hh; simp [hf] at hh)]
theorem back_end {f : Int → Bool} {xs : List Int} {a m : Nat} (h : m ≤ a) : backN f xs a m = m := by
  cases m with
  | zero => rfl
  | succ m => rw [backN, if_neg (fun hh => by omega)]
theorem same_no {xs ys : List Int} {k : Nat} {x y : Int} (hx : xs[k]? = some x) (hy : ys[k]? = some y) (h : (lowI x != lowI y) = true) : decide (xs.map lowI = ys.map lowI) = false := by
  refine eq_no (k := k) (x := lowI x) (y := lowI y) ?_ ?_ h <;> simp [hx, hy]
theorem same_yes {xs ys : List Int} {k : Nat} {x y : Int} (hx : xs.take (k + 1) = xs.take k ++ [x]) (hy : ys.take (k + 1) = ys.take k ++ [y]) (hn : (xs.take k).map lowI = (ys.take k).map lowI) (h : (lowI x != lowI y) = false) : (xs.take (k + 1)).map lowI = (ys.take (k + 1)).map lowI := by
  rw [hx, hy, List.map_append, List.map_append, hn]; simp; simpa using h

end Go.Proofs.YtobjdamlmaaidaaDoor

/-! C01 -/
namespace Go.Proofs.YtobjdamlmaaidaaDoor
open Go.RowKit
set_option linter.unusedVariables false

theorem CT8 : SliceT Tryd.prog 25 5 .u8 1 := ⟨Tryd.underlying25, by kernel_rfl, by decide⟩

theorem lower_c (c : Int) (w : World) (h0 : 0 ≤ c) (h1 : c ≤ 255) :
    Calls Tryd.prog 86 #[.int .u8 c] w fun e w' => e = .returned (.int .u8 (lowI c)) ∧ w = w' := by
  go_enter Tryd.func86, Tryd.ntmps86
  go_wp2
  all_goals (go_ret; exact ⟨ret_int (by unfold lowI; split <;> omega), rfl⟩)

end Go.Proofs.YtobjdamlmaaidaaDoor

/-! R01 -/
namespace Go.Proofs.YtobjdamlmaaidaaDoor
open Go.RowKit

theorem ST8 : SliceT Tryd.prog 25 5 .u8 1 := ⟨Tryd.underlying25, by kernel_rfl, by decide⟩

set_option maxHeartbeats 1000000 in
theorem like_r (a : Option Addr) (len cap : Nat) (xs : List Int) (a2 : Option Addr) (len2 cap2 : Nat) (ys : List Int) (w : World) (hr : Reads .u8 w a len cap xs) (hr2 : Reads .u8 w a2 len2 cap2 ys) :
    Calls Tryd.prog 12 #[.slice a len cap, .slice a2 len2 cap2] w fun e w' => e = .returned (.bool (decide (xs = ys))) ∧ ∃ n, w' = w.drewN n := by
  have hl := hr.len_le
  have hl2 := hr2.len_le
  have HR := hid hr
  have HR2 := hid hr2
  clear hr hr2
  by_cases he : len = len2
  · subst he
    go_enter Tryd.func12, Tryd.ntmps12
    go_wp2
    go_loopw [5] (fun i wr => ∃ k : Nat, k ≤ len ∧ i = .int .i64 k ∧ Hid (xs.take k = ys.take k) ∧ ∃ n, wr = w.drewN n) (fun i _ => len - (intOf i).toNat)
    case atStart => exact ⟨0, Nat.zero_le _, rfl, rfl, 0, rfl⟩
    case round =>
      obtain ⟨k, hk, rfl, hn, n, rfl⟩ := hrel
      by_cases hlt : k < len
      · obtain ⟨b, off, x, rfl, _, hc, h0, h1, hx⟩ := HR.out.get8 hlt
        obtain ⟨b2, off2, y, rfl, _, hc2, h02, h12, hy⟩ := HR2.out.get8 hlt
        go_wp2
        go_quiet (fail)
        go_wp2
        · go_ret
          exact ⟨ret_bool (eq_no hx.out.1 hy.out.1 ‹_›).symm, by simp only [World.drewN_drewN]; exact ⟨_, rfl⟩⟩
        · go_roundw
          case rel => exact ⟨k + 1, by omega, by go_num, eq_yes hx.out.2 hy.out.2 hn.out ‹_›, _, rfl⟩
          case measure => simp [intOf]; omega
      · go_wp2
        go_ret
        exact ⟨ret_bool (by rw [← HR.out.all (show len ≤ k by omega), ← HR2.out.all (show len ≤ k by omega)]; exact (decide_eq_true hn.out).symm), _, rfl⟩
  · have hne : ((len : Int) != len2) = true := by simp; omega
    go_enter Tryd.func12, Tryd.ntmps12
    go_wp2
    go_ret
    exact ⟨ret_bool (eq_len (by rw [HR.out.size, HR2.out.size]; exact he)).symm, 0, rfl⟩

end Go.Proofs.YtobjdamlmaaidaaDoor

/-! First -/
namespace Go.Proofs.YtobjdamlmaaidaaDoor
open Go.RowKit
set_option linter.unusedVariables false

theorem ret_ii {k k2 : IntKind} {a b c d : Int} (h : a = b) (h' : c = d) : Ending.returned (.tuple #[.int k a, .int k2 c]) = .returned (.tuple #[.int k b, .int k2 d]) := by rw [h, h']
theorem own_mono {k : IntKind} {e : TypeId} {base base' : Nat} {w : World} {v : Value} {xs : List Int} (h : Own k e base w v xs) (hb : base' ≤ base) : Own k e base' w v xs := by
  refine ⟨⟨h.1.1, ?_⟩, h.2⟩
  rcases h.1.2 with h' | ⟨g, cap, cur, h1, h2, h3⟩
  · exact .inl h'
  · exact .inr ⟨g, cap, cur, h1, Nat.le_trans hb h2, h3⟩
/-- A slice's length, for a measure. -/
def lenV : Value → Nat | .slice _ n _ => n | _ => 0
/-- The first of 1 .. m that a test holds of; 0: none. -/
def first1 (f : Int → Bool) (m : Nat) : Int := match (List.range m).find? (fun n : Nat => f ((n : Int) + 1)) with | some n => (n : Int) + 1 | none => 0
theorem first1_hit {f : Int → Bool} {m k : Nat} (hk : k < m) (hf : f ((k : Int) + 1) = true) (hn : ∀ j : Nat, j < k → f ((j : Int) + 1) = false) : first1 f m = (k : Int) + 1 := by
  unfold first1
  have : (List.range m).find? (fun n : Nat => f ((n : Int) + 1)) = some k := by
    rw [List.find?_range_eq_some]
    exact ⟨hf, by simpa using hk, fun j hj => by simp [hn j hj]⟩
  rw [this]
theorem first1_no {f : Int → Bool} {m : Nat} (hn : ∀ j : Nat, j < m → f ((j : Int) + 1) = false) : first1 f m = 0 := by
  unfold first1
  have : (List.range m).find? (fun n : Nat => f ((n : Int) + 1)) = none := by
    rw [List.find?_range_eq_none]
    exact fun j hj => by simp [hn j hj]
  rw [this]
theorem first1_zero {f : Int → Bool} {m : Nat} (h : first1 f m = 0) : ∀ j : Nat, j < m → f ((j : Int) + 1) = false := by
  unfold first1 at h
  cases hf : (List.range m).find? (fun n : Nat => f ((n : Int) + 1)) with
  | none =>
    rw [List.find?_range_eq_none] at hf
    intro j hj
    have := hf j hj
    simpa using this
  | some k =>
    rw [hf] at h
    exfalso
    have : (k : Int) + 1 = 0 := h
    omega
theorem first1_some {f : Int → Bool} {m : Nat} (h : first1 f m ≠ 0) : ∃ k : Nat, k < m ∧ first1 f m = (k : Int) + 1 ∧ f ((k : Int) + 1) = true ∧ ∀ j : Nat, j < k → f ((j : Int) + 1) = false := by
  unfold first1 at h ⊢
  cases hf : (List.range m).find? (fun n : Nat => f ((n : Int) + 1)) with
  | none => rw [hf] at h; exact absurd rfl h
  | some k =>
    rw [List.find?_range_eq_some] at hf
    obtain ⟨h1, h2, h3⟩ := hf
    exact ⟨k, by simpa using h2, rfl, h1, fun j hj => by have := h3 j hj; simpa using this⟩
end Go.Proofs.YtobjdamlmaaidaaDoor

/-! D03 -/
namespace Go.Proofs.YtobjdamlmaaidaaDoor
open Go.RowKit
set_option linter.unusedVariables false

theorem wf_r {x : Int} (h : (Lit.int .i32 x).wf = true) : -2147483648 ≤ x ∧ x ≤ 2147483647 := bounds_i32 h
theorem mk_r {x : Int} (h0 : -2147483648 ≤ x) (h1 : x ≤ 2147483647) : (Lit.int .i32 x).wf = true := WalkArith.wf_i32 (by omega)
theorem Reads.getR {w : World} {a : Option Addr} {len cap : Nat} {xs : List Int} (h : Reads .i32 w a len cap xs) {i : Nat} (hi : i < len) :
    ∃ b off x, a = some ⟨b, off, none⟩ ∧ b < w.heap.size ∧ w.cell? ⟨b, off + i, none⟩ = some (.int .i32 x) ∧ -2147483648 ≤ x ∧ x ≤ 2147483647 ∧ Hid (xs[i]? = some x ∧ xs.take (i + 1) = xs.take i ++ [x]) := by
  obtain ⟨b, off, x, ha, hb, hc, hx⟩ := h.get hi
  obtain ⟨h1, h2, h3⟩ := hx.out
  exact ⟨b, off, x, ha, hb, hc, (wf_r h3).1, (wf_r h3).2, h1, h2⟩

/-- A surrogate, a scalar value. -/
def surB (c : Int) : Bool := decide (55296 ≤ c ∧ c ≤ 57343)
def scB (c : Int) : Bool := decide (0 ≤ c ∧ c ≤ 1114111 ∧ ¬ (55296 ≤ c ∧ c ≤ 57343))
theorem scB_iff (c : Int) : scB c = true ↔ 0 ≤ c ∧ c ≤ 1114111 ∧ ¬ (55296 ≤ c ∧ c ≤ 57343) := decide_eq_true_iff
theorem scB_not (c : Int) : scB c = false ↔ c < 0 ∨ 1114111 < c ∨ (55296 ≤ c ∧ c ≤ 57343) := by unfold scB; rw [decide_eq_false_iff_not]; omega
theorem surB_iff (c : Int) : surB c = true ↔ 55296 ≤ c ∧ c ≤ 57343 := decide_eq_true_iff
theorem surB_not (c : Int) : surB c = false ↔ ¬ (55296 ≤ c ∧ c ≤ 57343) := decide_eq_false_iff_not
theorem sc_of {c : Int} (h0 : 0 ≤ c) (h1 : c ≤ 1114111) : (!surB c) = scB c := by
  rw [Bool.eq_iff_iff]; unfold scB surB; simp; omega
theorem max_if (m x : Int) : (if m < x then x else m) = max m x := by split <;> omega
def planeI (c : Int) : Int := if scB c = true then c / 65536 else -1
def mendI (c : Int) : Int := if scB c = true then c else 65533
def endB (c : Int) : Bool := decide (c = 13 ∨ c = 10 ∨ c = 0)
def plainB (c : Int) : Bool := decide (32 ≤ c ∧ c ≤ 126)
/-- The place of the first number of which f holds, or -1. -/
def idxI (f : Int → Bool) (xs : List Int) : Int := match xs.findIdx? f with | some i => (i : Int) | none => -1
def mostI (xs : List Int) : Int := xs.foldl max 0
def checkI (xs : List Int) : Int := if xs.all scB = true then (if xs.any endB = true then 8 else 0) else 7

theorem none_yes {f : Int → Bool} {xs : List Int} {k : Nat} {x : Int} (h : xs.take (k + 1) = xs.take k ++ [x]) (hn : (xs.take k).any f = false) (hf : f x = false) : (xs.take (k + 1)).any f = false := by
  rw [h, List.any_append, hn]; simp [hf]
theorem any_hit {f : Int → Bool} {xs : List Int} {k : Nat} {x : Int} (h : xs[k]? = some x) (hf : f x = true) : xs.any f = true := by
  rw [List.any_eq_true]; exact ⟨x, List.mem_of_getElem? h, hf⟩
theorem idx_none {f : Int → Bool} {xs : List Int} (h : xs.any f = false) : idxI f xs = -1 := by
  unfold idxI
  have : xs.findIdx? f = none := by
    rw [List.findIdx?_eq_none_iff]
    intro x hx
    rw [List.any_eq_false] at h
    simpa using h x hx
  rw [this]
theorem idx_hit {f : Int → Bool} {xs : List Int} {k : Nat} {x : Int} (h : xs[k]? = some x) (hn : (xs.take k).any f = false) (hf : f x = true) : idxI f xs = k := by
  unfold idxI
  have hk : k < xs.length := (List.getElem?_eq_some_iff.1 h).1
  have hx : xs[k] = x := (List.getElem?_eq_some_iff.1 h).2
  have : xs.findIdx? f = some k := by
    rw [List.findIdx?_eq_some_iff_getElem]
    refine ⟨hk, by rw [hx]; exact hf, fun j hj => ?_⟩
    rw [List.any_eq_false] at hn
    have hm : xs[j] ∈ xs.take k := by
      rw [List.mem_take_iff_getElem]
      exact ⟨j, by omega, rfl⟩
    have := hn _ hm
    simpa using this
  rw [this]
theorem idx_bd (f : Int → Bool) (xs : List Int) : -1 ≤ idxI f xs ∧ idxI f xs ≤ xs.length := by
  unfold idxI
  cases h : xs.findIdx? f with
  | none => simp
  | some i =>
    rw [List.findIdx?_eq_some_iff_getElem] at h
    obtain ⟨h, _⟩ := h
    simp; omega
theorem idx_neg (f : Int → Bool) (xs : List Int) : decide (idxI f xs < 0) = xs.all (fun c => !f c) := by
  unfold idxI
  cases h : xs.findIdx? f with
  | none =>
    rw [List.findIdx?_eq_none_iff] at h
    have : xs.all (fun c => !f c) = true := by rw [List.all_eq_true]; intro x hx; simp [h x hx]
    rw [this]; simp
  | some i =>
    rw [List.findIdx?_eq_some_iff_getElem] at h
    obtain ⟨hi, h1, _⟩ := h
    have : xs.all (fun c => !f c) = false := by rw [List.all_eq_false]; exact ⟨xs[i], List.getElem_mem hi, by simp [h1]⟩
    rw [this]; simp
theorem idx_pos (f : Int → Bool) (xs : List Int) : decide (0 ≤ idxI f xs) = xs.any f := by
  have h := idx_neg f xs
  have e : xs.all (fun c => !f c) = !xs.any f := by simp [List.all_eq_not_any_not]
  rw [e] at h
  rw [show decide (0 ≤ idxI f xs) = !decide (idxI f xs < 0) by rw [Bool.eq_iff_iff]; simp, h]; simp
theorem most_snoc {xs : List Int} {k : Nat} {x : Int} (h : xs.take (k + 1) = xs.take k ++ [x]) : mostI (xs.take (k + 1)) = max (mostI (xs.take k)) x := by
  rw [h]; simp [mostI]
theorem most_bd : ∀ (xs : List Int) (m : Int), 0 ≤ m → m ≤ 2147483647 → (∀ x ∈ xs, x ≤ 2147483647) → 0 ≤ xs.foldl max m ∧ xs.foldl max m ≤ 2147483647
  | [], m, h0, h1, _ => ⟨h0, h1⟩
  | x :: xs, m, h0, h1, h => by
    have hx := h x (List.mem_cons_self)
    exact most_bd xs (max m x) (by omega) (by omega) (fun y hy => h y (List.mem_cons_of_mem _ hy))
theorem mostI_bd {w : World} {a : Option Addr} {len cap : Nat} {xs : List Int} (h : Reads .i32 w a len cap xs) (k : Nat) : 0 ≤ mostI (xs.take k) ∧ mostI (xs.take k) ≤ 2147483647 :=
  most_bd _ 0 (by omega) (by omega) (fun x hx => (wf_r (h.wf x (List.mem_of_mem_take hx))).2)
theorem mend_bd (c : Int) (h0 : -2147483648 ≤ c) (h1 : c ≤ 2147483647) : (Lit.int .i32 (mendI c)).wf = true := by
  unfold mendI; split
  · exact mk_r h0 h1
  · exact mk_r (by omega) (by omega)
theorem mend_sc (c : Int) : scB (mendI c) = true := by
  unfold mendI; split
  · assumption
  · decide
theorem mend_right (xs : List Int) : (xs.map mendI).all scB = true := by
  rw [List.all_eq_true]; intro x hx
  obtain ⟨y, _, rfl⟩ := List.mem_map.1 hx
  exact mend_sc y
theorem mend_of {y : Int} (h : scB y = true) : mendI y = y := by unfold mendI; rw [if_pos h]
theorem mend_mend (xs : List Int) : (xs.map mendI).map mendI = xs.map mendI := by
  rw [List.map_map]
  exact List.map_congr_left fun x _ => mend_of (mend_sc x)
theorem mend_self (xs : List Int) : xs.all scB = decide (xs.map mendI = xs) := by
  rw [Bool.eq_iff_iff, decide_eq_true_iff, List.all_eq_true]
  constructor
  · intro h
    have : xs.map mendI = xs.map id := List.map_congr_left fun x hx => by unfold mendI; rw [if_pos (h x hx)]; rfl
    simpa using this
  · intro h x hx
    rw [← h] at hx
    obtain ⟨y, _, rfl⟩ := List.mem_map.1 hx
    exact mend_sc y
theorem map_wfR {xs : List Int} (f : Int → Int) (hf : ∀ x, -2147483648 ≤ x → x ≤ 2147483647 → (Lit.int .i32 (f x)).wf = true) (h : ∀ x ∈ xs, (Lit.int .i32 x).wf = true) (x : Int) (hx : x ∈ xs.map f) : (Lit.int .i32 x).wf = true := by
  obtain ⟨y, hy, rfl⟩ := List.mem_map.1 hx
  exact hf y (wf_r (h y hy)).1 (wf_r (h y hy)).2

end Go.Proofs.YtobjdamlmaaidaaDoor

/-! D14 -/
namespace Go.Proofs.YtobjdamlmaaidaaDoor
open Go.RowKit
set_option linter.unusedVariables false

/-- The digit of a number from 0 to 63; a digit's number. -/
def dg64 (k : Int) : Int := if k < 26 then 65 + k else if k < 52 then 71 + k else if k < 62 then k - 4 else if k = 62 then 43 else 47
def valN (c : Int) : Option Nat := (List.range 64).find? (fun n : Nat => decide (dg64 n = c))
def valI (c : Int) : Int := match valN c with | some n => (n : Int) | none => 0
def isDig (c : Int) : Bool := (valN c).isSome
/-- The digits' numbers of octets; the code, bare and filled up. -/
def v64 : List Int → List Int
  | [] => []
  | [a] => [a / 4, a % 4 * 16]
  | [a, b] => [a / 4, a % 4 * 16 + b / 16, b % 16 * 4]
  | a :: b :: c :: r => (a / 4) :: (a % 4 * 16 + b / 16) :: (b % 16 * 4 + c / 64) :: (c % 64) :: v64 r
def bareB (xs : List Int) : List Int := (v64 xs).map dg64
def fill4 (xs : List Int) : List Int := xs ++ List.replicate ((4 - xs.length % 4) % 4) 61
def layB (xs : List Int) : List Int := fill4 (bareB xs)
/-- Digits' numbers as octets; are the bits that are left over 0? -/
def rd64 : List Int → List Int
  | p :: q :: r :: s :: t => (p * 4 + q / 16) :: (q % 16 * 16 + r / 4) :: (r % 4 * 64 + s) :: rd64 t
  | [p, q, r] => [p * 4 + q / 16, q % 16 * 16 + r / 4]
  | [p, q] => [p * 4 + q / 16]
  | _ => []
def ok64 : List Int → Bool
  | _ :: _ :: _ :: _ :: t => ok64 t
  | [_, _, r] => decide (r % 4 = 0)
  | [_, q] => decide (q % 16 = 0)
  | [p] => decide (p = 0)
  | [] => true
/-- How much of a code is left without at most two that fill up. -/
def eqEnd (xs : List Int) : Nat := if 0 < xs.length ∧ xs.getD (xs.length - 1) 0 = 61 then (if 1 < xs.length ∧ xs.getD (xs.length - 2) 0 = 61 then xs.length - 2 else xs.length - 1) else xs.length
def codD (xs : List Int) : List Int := xs.take (eqEnd xs)
def codE (xs : List Int) : Int := if (codD xs).all isDig = true then (if xs.length % 4 = 0 then (if ok64 ((codD xs).map valI) = true then 0 else 3) else 4) else 3
def codL (xs : List Int) : List Int := if codE xs = 0 then rd64 ((codD xs).map valI) else []
def lenB (n : Int) : Int := if n < 1 then 0 else (n - 1) / 3 * 4 + 4

/-! ### digits -/
def V6 (v : Int) : Prop := 0 ≤ v ∧ v ≤ 63
def O8 (x : Int) : Prop := 0 ≤ x ∧ x ≤ 255
theorem dig_val (n : Nat) (h : n < 64) : valN (dg64 n) = some n := by
  have : ∀ n : Fin 64, valN (dg64 (n.val : Int)) = some n.val := by decide +kernel
  exact this ⟨n, h⟩
theorem val_of {c : Int} {n : Nat} (h : valN c = some n) : n < 64 ∧ dg64 n = c ∧ valI c = n ∧ isDig c = true := by
  have h' := h
  unfold valN at h
  rw [List.find?_range_eq_some] at h
  obtain ⟨h1, h2, _⟩ := h
  exact ⟨by simpa using h2, of_decide_eq_true h1, by unfold valI; rw [h'], by unfold isDig; rw [h']; rfl⟩
theorem val_no {c : Int} (h : valN c = none) : valI c = 0 ∧ isDig c = false := ⟨by unfold valI; rw [h], by unfold isDig; rw [h]; rfl⟩
theorem val_hit {c : Int} {k : Nat} (hk : k < 64) (hs : dg64 k = c) : valN c = some k := by rw [← hs]; exact dig_val k hk
theorem val_none {c : Int} (hn : ∀ j : Nat, j < 64 → ¬ dg64 j = c) : valN c = none := by
  unfold valN
  rw [List.find?_range_eq_none]
  exact fun j hj => by rw [decide_eq_false (hn j hj)]; rfl
theorem val_bd (c : Int) : V6 (valI c) := by
  cases h : valN c with
  | none => rw [(val_no h).1]; exact ⟨by omega, by omega⟩
  | some n => have := val_of h; rw [this.2.2.1]; exact ⟨by omega, by omega⟩
theorem dig_of_val {c : Int} (h : isDig c = true) : dg64 (valI c) = c := by
  unfold isDig at h
  obtain ⟨n, hn⟩ := Option.isSome_iff_exists.1 h
  have := val_of hn
  rw [this.2.2.1]; exact this.2.1
theorem val_dig {v : Int} (h : V6 v) : valI (dg64 v) = v ∧ isDig (dg64 v) = true := by
  have e : ((v.toNat : Nat) : Int) = v := by have := h.1; omega
  have := val_of (dig_val v.toNat (by have := h.2; omega))
  rw [e] at this
  exact ⟨this.2.2.1, this.2.2.2⟩
theorem dig_bd {v : Int} (h : V6 v) : 43 ≤ dg64 v ∧ dg64 v ≤ 122 ∧ dg64 v ≠ 61 := by
  obtain ⟨h0, h1⟩ := h
  unfold dg64
  (repeat' split) <;> omega
theorem dg_wf {v : Int} (h : V6 v) : (Lit.int .u8 (dg64 v)).wf = true := mk_u8 (by have := dig_bd h; omega) (by have := dig_bd h; omega)
theorem isDig_61 : isDig 61 = false := by decide +kernel

/-! ### by threes and by fours -/
theorem ind3 {p : List Int → Prop} (h0 : p []) (h1 : ∀ a, p [a]) (h2 : ∀ a b, p [a, b]) (h3 : ∀ a b c r, p r → p (a :: b :: c :: r)) : ∀ xs, p xs
  | [] => h0
  | [a] => h1 a
  | [a, b] => h2 a b
  | a :: b :: c :: r => h3 a b c r (ind3 h0 h1 h2 h3 r)
theorem ind4 {p : List Int → Prop} (h0 : p []) (h1 : ∀ a, p [a]) (h2 : ∀ a b, p [a, b]) (h3 : ∀ a b c, p [a, b, c]) (h4 : ∀ a b c d r, p r → p (a :: b :: c :: d :: r)) : ∀ xs, p xs
  | [] => h0
  | [a] => h1 a
  | [a, b] => h2 a b
  | [a, b, c] => h3 a b c
  | a :: b :: c :: d :: r => h4 a b c d r (ind4 h0 h1 h2 h3 h4 r)
theorem v64_bd : ∀ xs : List Int, (∀ x ∈ xs, O8 x) → ∀ v ∈ v64 xs, V6 v := by
  refine ind3 ?_ ?_ ?_ ?_
  · intro _ v hv; cases hv
  · intro a h v hv
    have ha := h a (by simp)
    unfold O8 at ha
    simp only [v64, List.mem_cons, List.not_mem_nil, or_false] at hv
    unfold V6
    omega
  · intro a b h v hv
    have ha := h a (by simp)
    have hb := h b (by simp)
    unfold O8 at ha hb
    simp only [v64, List.mem_cons, List.not_mem_nil, or_false] at hv
    unfold V6
    omega
  · intro a b c r ih h v hv
    have ha := h a (by simp)
    have hb := h b (by simp)
    have hc := h c (by simp)
    unfold O8 at ha hb hc
    simp only [v64, List.mem_cons] at hv
    rcases hv with h1 | h1 | h1 | h1 | h1
    · unfold V6; omega
    · unfold V6; omega
    · unfold V6; omega
    · unfold V6; omega
    · exact ih (fun x hx => h x (by simp [hx])) v h1
theorem rd64_bd : ∀ vs : List Int, (∀ v ∈ vs, V6 v) → ∀ x ∈ rd64 vs, O8 x := by
  refine ind4 ?_ ?_ ?_ ?_ ?_
  · intro _ v hv; cases hv
  · intro a h v hv; cases hv
  · intro a b h v hv
    have ha := h a (by simp)
    have hb := h b (by simp)
    unfold V6 at ha hb
    simp only [rd64, List.mem_cons, List.not_mem_nil, or_false] at hv
    unfold O8
    omega
  · intro a b c h v hv
    have ha := h a (by simp)
    have hb := h b (by simp)
    have hc := h c (by simp)
    unfold V6 at ha hb hc
    simp only [rd64, List.mem_cons, List.not_mem_nil, or_false] at hv
    unfold O8
    omega
  · intro a b c d r ih h v hv
    have ha := h a (by simp)
    have hb := h b (by simp)
    have hc := h c (by simp)
    have hd := h d (by simp)
    unfold V6 at ha hb hc hd
    simp only [rd64, List.mem_cons] at hv
    rcases hv with h1 | h1 | h1 | h1
    · unfold O8; omega
    · unfold O8; omega
    · unfold O8; omega
    · exact ih (fun x hx => h x (by simp [hx])) v h1
/-- What is laid is read (P14.3). -/
theorem rd_v64 : ∀ xs : List Int, (∀ x ∈ xs, O8 x) → rd64 (v64 xs) = xs ∧ ok64 (v64 xs) = true := by
  refine ind3 ?_ ?_ ?_ ?_
  · intro _; exact ⟨rfl, rfl⟩
  · intro a h
    have ha := h a (by simp)
    unfold O8 at ha
    simp only [v64, rd64, ok64, decide_eq_true_eq]
    refine ⟨?_, by omega⟩
    congr 1
    omega
  · intro a b h
    have ha := h a (by simp)
    have hb := h b (by simp)
    unfold O8 at ha hb
    simp only [v64, rd64, ok64, decide_eq_true_eq]
    refine ⟨?_, by omega⟩
    congr 1
    · omega
    · congr 1
      omega
  · intro a b c r ih h
    have ha := h a (by simp)
    have hb := h b (by simp)
    have hc := h c (by simp)
    unfold O8 at ha hb hc
    have i := ih (fun x hx => h x (by simp [hx]))
    simp only [v64, rd64, ok64, i.1, i.2, and_true]
    congr 1
    · omega
    · congr 1
      · omega
      · congr 1
        omega
/-- What is read is laid as the same. -/
theorem v_rd64 : ∀ vs : List Int, (∀ v ∈ vs, V6 v) → ok64 vs = true → vs.length % 4 ≠ 1 → v64 (rd64 vs) = vs := by
  refine ind4 ?_ ?_ ?_ ?_ ?_
  · intro _ _ _; rfl
  · intro a h h2 h3; simp at h3
  · intro a b h h2 _
    have ha := h a (by simp)
    have hb := h b (by simp)
    unfold V6 at ha hb
    simp only [ok64, decide_eq_true_eq] at h2
    simp only [rd64, v64]
    congr 1
    · omega
    · congr 1
      omega
  · intro a b c h h2 _
    have ha := h a (by simp)
    have hb := h b (by simp)
    have hc := h c (by simp)
    unfold V6 at ha hb hc
    simp only [ok64, decide_eq_true_eq] at h2
    simp only [rd64, v64]
    congr 1
    · omega
    · congr 1
      · omega
      · congr 1
        omega
  · intro a b c d r ih h h2 h3
    have ha := h a (by simp)
    have hb := h b (by simp)
    have hc := h c (by simp)
    have hd := h d (by simp)
    unfold V6 at ha hb hc hd
    have i := ih (fun x hx => h x (by simp [hx])) h2 (by simp only [List.length_cons] at h3; omega)
    simp only [rd64, v64, i]
    congr 1
    · omega
    · congr 1
      · omega
      · congr 1
        · omega
        · congr 1
          omega
theorem v64_len : ∀ xs : List Int, (v64 xs).length = xs.length + (xs.length + 2) / 3 := by
  refine ind3 rfl (fun _ => by simp [v64]) (fun _ _ => by simp [v64]) ?_
  intro a b c r ih
  simp only [v64, List.length_cons, ih]
  omega
theorem v64_mod (xs : List Int) : (v64 xs).length % 4 ≠ 1 := by rw [v64_len]; omega
theorem rd64_len : ∀ vs : List Int, (rd64 vs).length = vs.length * 3 / 4 := by
  refine ind4 rfl (fun _ => by simp [rd64]) (fun _ _ => by simp [rd64]) (fun _ _ _ => by simp [rd64]) ?_
  intro a b c d r ih
  simp only [rd64, List.length_cons, ih]
  omega

/-! ### the same, bit by bit -/
def bit8 (x : Int) : List Int := [x / 128 % 2, x / 64 % 2, x / 32 % 2, x / 16 % 2, x / 8 % 2, x / 4 % 2, x / 2 % 2, x % 2]
def bit6 (x : Int) : List Int := [x / 32 % 2, x / 16 % 2, x / 8 % 2, x / 4 % 2, x / 2 % 2, x % 2]
def bits8 (xs : List Int) : List Int := xs.flatMap bit8
def bits6 (vs : List Int) : List Int := vs.flatMap bit6
def numL (l : List Int) : Int := l.foldl (fun n b => 2 * n + b) 0
def pad6 (l : List Int) : List Int := l ++ List.replicate ((6 - l.length % 6) % 6) 0
/-- A list in parts of n, a number of each. -/
def parts (n : Nat) (f : List Int → Int) (l : List Int) : List Int := (List.range (l.length / n)).map (fun j => f ((l.drop (j * n)).take n))
theorem parts_app {n : Nat} (hn : 0 < n) (f : List Int → Int) {a : List Int} (ha : a.length = n) (l : List Int) : parts n f (a ++ l) = f a :: parts n f l := by
  unfold parts
  have e : (a ++ l).length / n = l.length / n + 1 := by rw [List.length_append, ha, Nat.add_comm, Nat.add_div_right _ hn]
  rw [e, List.range_succ_eq_map, List.map_cons, List.map_map]
  congr 1
  · rw [Nat.zero_mul, List.drop_zero, ← ha, List.take_left]
  · refine List.map_congr_left fun j _ => ?_
    show f (((a ++ l).drop ((j + 1) * n)).take n) = f ((l.drop (j * n)).take n)
    rw [Nat.add_mul, Nat.one_mul, Nat.add_comm, ← List.drop_drop, ← ha, List.drop_left]
theorem parts6_cons (f : List Int → Int) (a b c d e g : Int) (r : List Int) : parts 6 f (a :: b :: c :: d :: e :: g :: r) = f [a, b, c, d, e, g] :: parts 6 f r := parts_app (n := 6) (by decide) f (a := [a, b, c, d, e, g]) rfl r
theorem parts8_cons (f : List Int → Int) (a b c d e g h k : Int) (r : List Int) : parts 8 f (a :: b :: c :: d :: e :: g :: h :: k :: r) = f [a, b, c, d, e, g, h, k] :: parts 8 f r := parts_app (n := 8) (by decide) f (a := [a, b, c, d, e, g, h, k]) rfl r
theorem parts_short {n : Nat} (f : List Int → Int) {l : List Int} (h : l.length < n) : parts n f l = [] := by
  unfold parts
  rw [Nat.div_eq_of_lt h]; rfl
theorem pad6_app {a l : List Int} (ha : a.length % 6 = 0) : pad6 (a ++ l) = a ++ pad6 l := by
  unfold pad6
  rw [List.append_assoc, List.length_append, show (a.length + l.length) % 6 = l.length % 6 by omega]
theorem bits8_cons (x : Int) (r : List Int) : bits8 (x :: r) = bit8 x ++ bits8 r := by unfold bits8; rw [List.flatMap_cons]
theorem bits6_cons (x : Int) (r : List Int) : bits6 (x :: r) = bit6 x ++ bits6 r := by unfold bits6; rw [List.flatMap_cons]
theorem bits8_len : ∀ xs : List Int, (bits8 xs).length = 8 * xs.length := by
  intro xs
  induction xs with
  | nil => rfl
  | cons x r ih => rw [bits8_cons, List.length_append, ih, List.length_cons]; simp [bit8]; omega
theorem bits6_len : ∀ xs : List Int, (bits6 xs).length = 6 * xs.length := by
  intro xs
  induction xs with
  | nil => rfl
  | cons x r ih => rw [bits6_cons, List.length_append, ih, List.length_cons]; simp [bit6]; omega
theorem num6 (x : Int) (h : V6 x) : numL (bit6 x) = x := by
  unfold V6 at h
  simp only [numL, bit6, List.foldl_cons, List.foldl_nil]
  omega
theorem cons2 {a b : Int} {l m : List Int} (h : a = b) (h' : l = m) : a :: l = b :: m := by rw [h, h']
theorem dig2 {a b : Int} (h : a = b) : dg64 a = dg64 b := by rw [h]
theorem bare_bits : ∀ xs : List Int, (∀ x ∈ xs, O8 x) → parts 6 (fun l => dg64 (numL l)) (pad6 (bits8 xs)) = bareB xs := by
  unfold bareB
  refine ind3 ?_ ?_ ?_ ?_
  · intro _; rfl
  · intro a h
    have ha := h a (by simp)
    unfold O8 at ha
    rw [show pad6 (bits8 [a]) = [a / 128 % 2, a / 64 % 2, a / 32 % 2, a / 16 % 2, a / 8 % 2, a / 4 % 2, a / 2 % 2, a % 2, 0, 0, 0, 0] by simp [pad6, bits8, bit8], parts6_cons, parts6_cons, parts_short _ (by decide)]
    simp only [v64, List.map_cons, List.map_nil, numL, List.foldl_cons, List.foldl_nil]
    exact cons2 (dig2 (by omega)) (cons2 (dig2 (by omega)) rfl)
  · intro a b h
    have ha := h a (by simp)
    have hb := h b (by simp)
    unfold O8 at ha hb
    rw [show pad6 (bits8 [a, b]) = [a / 128 % 2, a / 64 % 2, a / 32 % 2, a / 16 % 2, a / 8 % 2, a / 4 % 2, a / 2 % 2, a % 2, b / 128 % 2, b / 64 % 2, b / 32 % 2, b / 16 % 2, b / 8 % 2, b / 4 % 2, b / 2 % 2, b % 2, 0, 0] by simp [pad6, bits8, bit8], parts6_cons, parts6_cons, parts6_cons, parts_short _ (by decide)]
    simp only [v64, List.map_cons, List.map_nil, numL, List.foldl_cons, List.foldl_nil]
    exact cons2 (dig2 (by omega)) (cons2 (dig2 (by omega)) (cons2 (dig2 (by omega)) rfl))
  · intro a b c r ih h
    have ha := h a (by simp)
    have hb := h b (by simp)
    have hc := h c (by simp)
    unfold O8 at ha hb hc
    have i := ih (fun x hx => h x (by simp [hx]))
    rw [bits8_cons, bits8_cons, bits8_cons, ← List.append_assoc, ← List.append_assoc, pad6_app (by simp [bit8])]
    rw [show bit8 a ++ bit8 b ++ bit8 c ++ pad6 (bits8 r) = a / 128 % 2 :: a / 64 % 2 :: a / 32 % 2 :: a / 16 % 2 :: a / 8 % 2 :: a / 4 % 2 :: a / 2 % 2 :: a % 2 :: b / 128 % 2 :: b / 64 % 2 :: b / 32 % 2 :: b / 16 % 2 :: b / 8 % 2 :: b / 4 % 2 :: b / 2 % 2 :: b % 2 :: c / 128 % 2 :: c / 64 % 2 :: c / 32 % 2 :: c / 16 % 2 :: c / 8 % 2 :: c / 4 % 2 :: c / 2 % 2 :: c % 2 :: pad6 (bits8 r) from rfl, parts6_cons, parts6_cons, parts6_cons, parts6_cons, i]
    simp only [v64, List.map_cons, numL, List.foldl_cons, List.foldl_nil]
    exact cons2 (dig2 (by omega)) (cons2 (dig2 (by omega)) (cons2 (dig2 (by omega)) (cons2 (dig2 (by omega)) rfl)))
theorem rd_bits : ∀ vs : List Int, (∀ v ∈ vs, V6 v) → parts 8 numL (bits6 vs) = rd64 vs ∧ decide (numL ((bits6 vs).drop (8 * ((bits6 vs).length / 8))) = 0) = ok64 vs := by
  refine ind4 ?_ ?_ ?_ ?_ ?_
  · intro _; exact ⟨rfl, rfl⟩
  · intro p h
    have hp := h p (by simp)
    refine ⟨parts_short _ (by simp [bits6, bit6]), ?_⟩
    rw [show (bits6 [p]).drop (8 * ((bits6 [p]).length / 8)) = bit6 p by simp [bits6, bit6], num6 p hp]
    rfl
  · intro p q h
    have hp := h p (by simp)
    have hq := h q (by simp)
    unfold V6 at hp hq
    refine ⟨?_, ?_⟩
    · rw [show bits6 [p, q] = [p / 32 % 2, p / 16 % 2, p / 8 % 2, p / 4 % 2, p / 2 % 2, p % 2, q / 32 % 2, q / 16 % 2, q / 8 % 2, q / 4 % 2, q / 2 % 2, q % 2] from rfl, parts8_cons, parts_short _ (by simp)]
      simp only [rd64, numL, List.foldl_cons, List.foldl_nil]
      congr 1
      omega
    · rw [show (bits6 [p, q]).drop (8 * ((bits6 [p, q]).length / 8)) = [q / 8 % 2, q / 4 % 2, q / 2 % 2, q % 2] by simp [bits6, bit6], show ok64 [p, q] = decide (q % 16 = 0) from rfl, decide_eq_decide]
      simp only [numL, List.foldl_cons, List.foldl_nil]
      omega
  · intro p q r h
    have hp := h p (by simp)
    have hq := h q (by simp)
    have hr := h r (by simp)
    unfold V6 at hp hq hr
    refine ⟨?_, ?_⟩
    · rw [show bits6 [p, q, r] = [p / 32 % 2, p / 16 % 2, p / 8 % 2, p / 4 % 2, p / 2 % 2, p % 2, q / 32 % 2, q / 16 % 2, q / 8 % 2, q / 4 % 2, q / 2 % 2, q % 2, r / 32 % 2, r / 16 % 2, r / 8 % 2, r / 4 % 2, r / 2 % 2, r % 2] from rfl, parts8_cons, parts8_cons, parts_short _ (by simp)]
      simp only [rd64, numL, List.foldl_cons, List.foldl_nil]
      congr 1
      · omega
      · congr 1
        omega
    · rw [show (bits6 [p, q, r]).drop (8 * ((bits6 [p, q, r]).length / 8)) = [r / 2 % 2, r % 2] by simp [bits6, bit6], show ok64 [p, q, r] = decide (r % 4 = 0) from rfl, decide_eq_decide]
      simp only [numL, List.foldl_cons, List.foldl_nil]
      omega
  · intro p q r s t ih h
    have hp := h p (by simp)
    have hq := h q (by simp)
    have hr := h r (by simp)
    have hs := h s (by simp)
    unfold V6 at hp hq hr hs
    have i := ih (fun x hx => h x (by simp [hx]))
    have e : bits6 (p :: q :: r :: s :: t) = p / 32 % 2 :: p / 16 % 2 :: p / 8 % 2 :: p / 4 % 2 :: p / 2 % 2 :: p % 2 :: q / 32 % 2 :: q / 16 % 2 :: q / 8 % 2 :: q / 4 % 2 :: q / 2 % 2 :: q % 2 :: r / 32 % 2 :: r / 16 % 2 :: r / 8 % 2 :: r / 4 % 2 :: r / 2 % 2 :: r % 2 :: s / 32 % 2 :: s / 16 % 2 :: s / 8 % 2 :: s / 4 % 2 :: s / 2 % 2 :: s % 2 :: bits6 t := by
      rw [bits6_cons, bits6_cons, bits6_cons, bits6_cons]; rfl
    refine ⟨?_, ?_⟩
    · rw [e, parts8_cons, parts8_cons, parts8_cons, i.1]
      simp only [rd64, numL, List.foldl_cons, List.foldl_nil]
      congr 1
      · omega
      · congr 1
        · omega
        · congr 1
          omega
    · rw [show ok64 (p :: q :: r :: s :: t) = ok64 t from rfl, ← i.2]
      have hl : (bits6 (p :: q :: r :: s :: t)).length = 24 + (bits6 t).length := by rw [bits6_len, bits6_len]; simp only [List.length_cons]; omega
      rw [hl, show 8 * ((24 + (bits6 t).length) / 8) = 24 + 8 * ((bits6 t).length / 8) by omega, ← List.drop_drop, show (bits6 (p :: q :: r :: s :: t)).drop 24 = bits6 t by rw [e]; rfl]
end Go.Proofs.YtobjdamlmaaidaaDoor

/-! R14 -/
namespace Go.Proofs.YtobjdamlmaaidaaDoor
open Go.RowKit
set_option linter.unusedVariables false

set_option maxHeartbeats 1000000 in
theorem ref14_Digit (n : Int) (w : World) :
    Calls Tryd.prog 35 #[.int .i64 n] w fun e w' => e = .returned (.int .u8 (dg64 (n % 64))) ∧ w = w' := by
  by_cases h0 : 0 ≤ n
  · go_enter Tryd.func35, Tryd.ntmps35
    go_wp2
    all_goals
      go_ret
      exact ⟨ret_int (by (try simp only [beq_iff_eq, beq_eq_false_iff_ne] at *); unfold dg64; (repeat' split) <;> omega), rfl⟩
  · obtain ⟨m, hm, rfl⟩ : ∃ m : Int, 0 ≤ m ∧ n = -m := ⟨-n, by omega, by omega⟩
    have ht : Int.tmod (-m) 64 = -(m % 64) := by rw [Int.neg_tmod, Int.tmod_eq_emod_of_nonneg hm]
    have hn : (-m) % 64 = (-(m % 64) + 64) % 64 := by omega
    have h1 : 0 ≤ -(m % 64) + 64 := by omega
    rw [hn]
    go_enter Tryd.func35, Tryd.ntmps35
    go_wp2
    all_goals
      go_ret
      exact ⟨ret_int (by (try simp only [beq_iff_eq, beq_eq_false_iff_ne] at *); unfold dg64; (repeat' split) <;> omega), rfl⟩
theorem num_snoc {l : List Int} {k : Nat} {b : Int} (h : l.take (k + 1) = l.take k ++ [b]) : numL (l.take (k + 1)) = 2 * numL (l.take k) + b := by
  unfold numL; rw [h, List.foldl_append]; rfl
theorem num_lt : ∀ (l : List Int) (n : Int), (∀ b ∈ l, b = 0 ∨ b = 1) → 0 ≤ n → 0 ≤ l.foldl (fun n b => 2 * n + b) n ∧ l.foldl (fun n b => 2 * n + b) n < (n + 1) * 2 ^ l.length := by
  intro l
  induction l with
  | nil => intro n _ h; simp; omega
  | cons b l ih =>
    intro n hb h
    have h1 := hb b (by simp)
    have h2 := ih (2 * n + b) (fun x hx => hb x (by simp [hx])) (by omega)
    rw [List.foldl_cons, List.length_cons]
    refine ⟨h2.1, Int.lt_of_lt_of_le h2.2 ?_⟩
    have e : (n + 1) * 2 ^ (l.length + 1) = (2 * n + 2) * 2 ^ l.length := by rw [Int.pow_succ, Int.mul_comm (2 ^ l.length) 2, ← Int.mul_assoc]; congr 1; omega
    rw [e]
    exact Int.mul_le_mul_of_nonneg_right (by omega) (Int.pow_nonneg (by omega))
theorem num_bd {l : List Int} (hb : ∀ b ∈ l, b = 0 ∨ b = 1) (h : l.length ≤ 8) : 0 ≤ numL l ∧ numL l ≤ 255 := by
  have h1 := num_lt l 0 hb (Int.le_refl _)
  have h2 : (2 : Int) ^ l.length ≤ 2 ^ 8 := by
    have := Nat.pow_le_pow_right (n := 2) (by omega) h
    exact_mod_cast this
  unfold numL
  have e : (2 : Int) ^ 8 = 256 := by decide
  omega
set_option maxHeartbeats 1000000 in
theorem ref14_number (a : Option Addr) (len cap : Nat) (xs : List Int) (w : World) (hr : Reads .i64 w a len cap xs) (hb : ∀ b ∈ xs, b = 0 ∨ b = 1) (hN : len ≤ 8) :
    Calls Tryd.prog 36 #[.slice a len cap] w fun e w' => e = .returned (.int .i64 (numL xs)) ∧ w = w' := by
  have HR := hid hr
  have hsz := hr.size
  have HB := hid hb
  clear hr hb
  go_enter Tryd.func36, Tryd.ntmps36
  go_wp2
  go_loop [3, 4] (fun s i => ∃ k : Nat, ∃ m : Int, k ≤ len ∧ i = .int .i64 k ∧ s = .int .i64 m ∧ 0 ≤ m ∧ m ≤ 255 ∧ Hid (m = numL (xs.take k))) (fun _ i => len - (intOf i).toNat)
  case atStart => exact ⟨0, 0, Nat.zero_le _, rfl, rfl, by omega, by omega, rfl⟩
  case round =>
    obtain ⟨k, m, hk, rfl, rfl, h0, h1, hn⟩ := hrel
    by_cases hlt : k < len
    · obtain ⟨b, off, x, rfl, _, hc, hx⟩ := HR.out.get hlt
      have h01 := HB.out x (List.mem_of_getElem? hx.out.1)
      have hq := num_bd (l := xs.take (k + 1)) (fun b hb => HB.out b (List.mem_of_mem_take hb)) (by rw [List.length_take]; omega)
      rw [num_snoc hx.out.2.1, ← hn.out] at hq
      have hS : Hid (2 * m + x = numL (xs.take (k + 1))) := by unfold Hid; rw [num_snoc hx.out.2.1, ← hn.out]
      go_wp2
      go_round
      case rel => exact ⟨k + 1, 2 * m + x, by omega, by go_num, by go_num, hq.1, hq.2, hS⟩
      case measure => simp [intOf]; omega
    · go_wp2
      go_ret
      exact ⟨ret_int (by rw [hn.out, HR.out.all (show len ≤ k by omega)]), rfl⟩
theorem STN : SliceT Tryd.prog 66 3 .i64 8 := ⟨Tryd.underlying66, by kernel_rfl, by decide⟩
theorem bit_wf {y : Int} (h0 : 0 ≤ y) (h1 : y ≤ 1) : (Lit.int .i64 y).wf = true := WalkArith.wf_i64 (by omega)
theorem bits8_snoc {xs : List Int} {k : Nat} {x : Int} (h : xs.take (k + 1) = xs.take k ++ [x]) : bits8 (xs.take (k + 1)) = bits8 (xs.take k) ++ bit8 x := by
  unfold bits8; rw [h, List.flatMap_append]; simp
theorem bits8_take (xs : List Int) (k : Nat) : (bits8 (xs.take k)).length ≤ 8 * xs.length := by
  rw [bits8_len, List.length_take]; omega
set_option maxHeartbeats 4000000 in
theorem ref14_Bits (a : Option Addr) (len cap : Nat) (xs : List Int) (w : World) (hr : Reads .u8 w a len cap xs) (hN : len < 100000000) :
    Calls Tryd.prog 34 #[.slice a len cap] w fun e w' => ∃ v, e = .returned v ∧ Own .i64 3 w.heap.size w' v (bits8 xs) ∧ Below w.heap.size w w' := by
  have HR := hid hr
  have hsz := hr.size
  clear hr
  go_enter Tryd.func34, Tryd.ntmps34
  go_wp2
  go_loopw [3, 4] (fun v i wr => ∃ k : Nat, k ≤ len ∧ i = .int .i64 k ∧ Own .i64 3 w.heap.size wr v (bits8 (xs.take k)) ∧ Below w.heap.size w wr) (fun _ i _ => len - (intOf i).toNat)
  case atStart => exact ⟨0, Nat.zero_le _, rfl, Own.nil _ _ _ _, Below.refl _ _⟩
  case round =>
    obtain ⟨k, hk, rfl, hown', hbel'⟩ := hrel
    by_cases hlt : k < len
    · obtain ⟨b, off, x, rfl, _, hc, h0, h1, hx⟩ := (HR.out.below hbel').get8 hlt
      clear hc
      have hbl := bits8_take xs k
      rw [hsz] at hbl
      go_wp2
      go_loopw [3, 5] (fun v i wr => ∃ j : Nat, j ≤ 8 ∧ i = .int .i64 (7 - (j : Int)) ∧ Own .i64 3 w.heap.size wr v (bits8 (xs.take k) ++ (bit8 x).take j) ∧ Below w.heap.size w wr) (fun _ i _ => (intOf i + 1).toNat)
      case atStart => exact ⟨0, Nat.zero_le _, rfl, by simpa using hown', hbel'⟩
      case round =>
        obtain ⟨j, hj, rfl, hown2, hbel2⟩ := hrel
        by_cases hjl : j < 8
        · obtain ⟨b2, off2, y, hA, _, hc, _, _, hy⟩ := (HR.out.below hbel2).get8 hlt
          cases hA
          obtain rfl : x = y := by have h1 := hx.out.1; rw [hy.out.1] at h1; exact (Option.some.inj h1).symm
          have hq : j = 0 ∨ j = 1 ∨ j = 2 ∨ j = 3 ∨ j = 4 ∨ j = 5 ∨ j = 6 ∨ j = 7 := by omega
          rcases hq with rfl | rfl | rfl | rfl | rfl | rfl | rfl | rfl
          all_goals
            go_wp2_with (at_builtin; go_must (refine wpList_push STN rfl _ _ rfl rfl ⟨_, rfl⟩ hown2 hbel2 (by simp [bit8]; omega) (bit_wf (by omega) (by omega)) ?_); intro v' w' ho2 hb3)
            rw [List.append_assoc] at ho2
            clear hown2 hbel2 hown' hbel'
            go_wp2
            go_roundw
            case rel =>
              first
              | exact ⟨1, by omega, by go_num, ho2, hb3⟩
              | exact ⟨2, by omega, by go_num, ho2, hb3⟩
              | exact ⟨3, by omega, by go_num, ho2, hb3⟩
              | exact ⟨4, by omega, by go_num, ho2, hb3⟩
              | exact ⟨5, by omega, by go_num, ho2, hb3⟩
              | exact ⟨6, by omega, by go_num, ho2, hb3⟩
              | exact ⟨7, by omega, by go_num, ho2, hb3⟩
              | exact ⟨8, by omega, by go_num, ho2, hb3⟩
            case measure => simp [intOf]
        · obtain rfl : j = 8 := by omega
          have e1 : Hid (bits8 (xs.take k) ++ (bit8 x).take 8 = bits8 (xs.take (k + 1))) := by unfold Hid; rw [bits8_snoc hx.out.2]; rfl
          rw [e1.out] at hown2
          clear hown' hbel'
          go_wp2
          go_roundw
          case rel => exact ⟨k + 1, by omega, by go_num, hown2, hbel2⟩
          case measure => simp [intOf]; omega
    · rw [HR.out.all (show len ≤ k by omega)] at hown'
      go_wp2
      go_ret
      exact ⟨_, rfl, hown', hbel'⟩
theorem parts_snoc (n : Nat) (f : List Int → Int) (L : List Int) (j : Nat) : (List.range (j + 1)).map (fun t => f ((L.drop (t * n)).take n)) = (List.range j).map (fun t => f ((L.drop (t * n)).take n)) ++ [f ((L.drop (j * n)).take n)] := by
  rw [List.range_succ, List.map_append]; rfl
theorem bits8_01 (xs : List Int) : ∀ b ∈ bits8 xs, b = 0 ∨ b = 1 := by
  intro b hb
  unfold bits8 bit8 at hb
  rw [List.mem_flatMap] at hb
  obtain ⟨x, _, hb⟩ := hb
  simp only [List.mem_cons, List.not_mem_nil, or_false] at hb
  omega
theorem pad6_01 (xs : List Int) : ∀ b ∈ pad6 (bits8 xs), b = 0 ∨ b = 1 := by
  intro b hb
  unfold pad6 at hb
  rw [List.mem_append] at hb
  rcases hb with hb | hb
  · exact bits8_01 xs b hb
  · exact .inl (List.eq_of_mem_replicate hb)
theorem num6_bd {l : List Int} (hb : ∀ b ∈ l, b = 0 ∨ b = 1) (h : l.length ≤ 6) : 0 ≤ numL l ∧ numL l ≤ 63 := by
  have h1 := num_lt l 0 hb (Int.le_refl _)
  have h2 : (2 : Int) ^ l.length ≤ 2 ^ 6 := by
    have := Nat.pow_le_pow_right (n := 2) (by omega) h
    exact_mod_cast this
  unfold numL
  have e : (2 : Int) ^ 6 = 64 := by decide
  omega
theorem pad6_len (l : List Int) : (pad6 l).length % 6 = 0 ∧ (pad6 l).length ≤ l.length + 5 := by
  unfold pad6
  rw [List.length_append, List.length_replicate]
  omega
set_option maxHeartbeats 4000000 in
theorem ref14_Bare (a : Option Addr) (len cap : Nat) (xs : List Int) (w : World) (hr : Reads .u8 w a len cap xs) (hN : len < 100000000) :
    Calls Tryd.prog 24 #[.slice a len cap] w fun e w' => ∃ v, e = .returned v ∧ Own .u8 5 w.heap.size w' v (bareB xs) ∧ Below w.heap.size w w' := by
  have HR := hid hr
  have hsz := hr.size
  have HB := hid (bare_bits xs fun x hx => wf_u8 (hr.wf x hx))
  clear hr
  have hbl := bits8_len xs
  rw [hsz] at hbl
  obtain ⟨m, hm⟩ : ∃ m, m = (6 - (8 * len) % 6) % 6 := ⟨_, rfl⟩
  have hm6 : (8 * len + m) % 6 = 0 := by omega
  have HP : Hid (pad6 (bits8 xs) = bits8 xs ++ List.replicate m 0) := by unfold Hid pad6; rw [hbl, hm]
  go_enter Tryd.func24, Tryd.ntmps24
  go_wp2_with (go_at_call 34; (with_reducible refine (ref14_Bits _ _ _ _ _ HR.out hN).mono ?_); rintro e w1 ⟨v1, rfl, ho1, hb1⟩)
  go_loopw [3] (fun v wr => ∃ j : Nat, j ≤ m ∧ Own .i64 3 w.heap.size wr v (bits8 xs ++ List.replicate j 0) ∧ Below w.heap.size w wr) (fun v _ => 8 * len + m - lenV v)
  case atStart => exact ⟨0, Nat.zero_le _, by simpa using ho1, hb1⟩
  case round =>
    obtain ⟨j, hj, hown, hbel⟩ := hrel
    have hlen : (bits8 xs ++ List.replicate j (0 : Int)).length = 8 * len + j := by rw [List.length_append, List.length_replicate, hbl]
    obtain ⟨a3, c3, hv3, hrd3⟩ := hown.reads
    rw [hlen] at hv3 hrd3
    subst hv3
    have HB' := HB.out
    clear HB
    by_cases hjm : j < m
    · have hne : ¬ ((8 * len + j : Nat) : Int) % 6 = 0 := by omega
      have e1 : Hid (bits8 xs ++ List.replicate j 0 ++ [0] = bits8 xs ++ List.replicate (j + 1) 0) := by unfold Hid; rw [List.append_assoc, ← List.replicate_succ']
      clear hrd3
      go_wp2_with (at_builtin; go_must (refine wpList_push STN rfl _ _ rfl rfl ⟨_, rfl⟩ hown hbel (by rw [hlen]; omega) (bit_wf (by omega) (by omega)) ?_); intro v' w' ho2 hb3)
      rw [e1.out] at ho2
      obtain ⟨a4, c4, hv4, hrd4⟩ := ho2.reads
      have hl4 : (bits8 xs ++ List.replicate (j + 1) (0 : Int)).length = 8 * len + (j + 1) := by rw [List.length_append, List.length_replicate, hbl]
      rw [hl4] at hv4
      clear hown hbel hrd4
      go_wp2
      go_roundw
      case rel => exact ⟨j + 1, by omega, ho2, hb3⟩
      case measure => rw [hv4]; simp only [lenV]; omega
    · obtain rfl : j = m := by omega
      rw [← HP.out] at hrd3
      have h0 : ((8 * len + j : Nat) : Int) % 6 = 0 := by omega
      obtain ⟨M, hM⟩ : ∃ M, 8 * len + j = 6 * M := ⟨(8 * len + j) / 6, by omega⟩
      rw [hM] at hrd3 h0 ⊢
      have HL := hid hrd3
      have hLs := hrd3.size
      have hroom := hrd3.room
      have hE : Hid (parts 6 (fun l => dg64 (numL l)) (pad6 (bits8 xs)) = (List.range M).map (fun t => dg64 (numL (((pad6 (bits8 xs)).drop (t * 6)).take 6)))) := by
        unfold Hid parts
        rw [hLs, Nat.mul_div_cancel_left _ (by omega)]
      rw [hE.out] at HB'
      have HB := hid HB'
      have H01 := hid (pad6_01 xs)
      obtain ⟨L, hL⟩ : ∃ L, L = pad6 (bits8 xs) := ⟨_, rfl⟩
      rw [← hL] at HL HB H01 hLs
      clear hE HB' hrd3 hown hL HP
      go_wp2
      go_loopw [4, 5] (fun v i w2 => ∃ t : Nat, t ≤ M ∧ i = .int .i64 ((6 * t : Nat) : Int) ∧ Own .u8 5 wr.heap.size w2 v ((List.range t).map (fun t => dg64 (numL ((L.drop (t * 6)).take 6)))) ∧ Below wr.heap.size wr w2) (fun _ i _ => 6 * M - (intOf i).toNat)
      case atStart => exact ⟨0, Nat.zero_le _, rfl, Own.nil _ _ _ _, Below.refl _ _⟩
      case round =>
        obtain ⟨t, ht, rfl, hown2, hbel2⟩ := hrel
        by_cases htM : t < M
        · have hpc := (HL.out.below hbel2).piece (l := 6 * t) (r := 6 * t + 6) (by omega) (by omega)
          have hne : ¬ c3 = 6 * t := by omega
          rw [if_neg hne, List.drop_take, show 6 * t + 6 - 6 * t = 6 by omega] at hpc
          have hq01 : ∀ b ∈ (L.drop (6 * t)).take 6, b = 0 ∨ b = 1 := fun b hb => H01.out b (List.mem_of_mem_drop (List.mem_of_mem_take hb))
          have hbd := num6_bd hq01 (by rw [List.length_take]; omega)
          have HPC := hid hpc
          have HQ := hid hq01
          clear hpc hq01
          have e1 := parts_snoc 6 (fun l => dg64 (numL l)) L t
          rw [Nat.mul_comm t 6] at e1
          have E1 := hid e1
          clear e1
          have hmod : numL ((L.drop (6 * t)).take 6) % 64 = numL ((L.drop (6 * t)).take 6) := by omega
          go_wp2_with (first
            | (go_at_call 36; (with_reducible refine (ref14_number _ _ _ _ _ HPC.out HQ.out (by omega)).mono ?_); rintro e w4 ⟨rfl, rfl⟩)
            | (go_at_call 35; (with_reducible refine (ref14_Digit _ _).mono ?_); rintro e w4 ⟨rfl, rfl⟩; try rw [hmod])
            | (at_builtin; go_must (refine wpList_push ST8 rfl _ _ rfl rfl ⟨_, rfl⟩ hown2 hbel2 (by simp; omega) (dg_wf hbd) ?_); intro v' w' ho2 hb3))
          rw [← E1.out] at ho2
          clear hown2 hbel2
          go_wp2
          go_roundw
          case rel => exact ⟨t + 1, by omega, by go_num, ho2, hb3⟩
          case measure => simp [intOf]; omega
        · obtain rfl : t = M := by omega
          rw [HB.out] at hown2
          go_wp2
          go_ret
          exact ⟨_, rfl, own_mono hown2 hbel.size, below_then hbel hbel2⟩
end Go.Proofs.YtobjdamlmaaidaaDoor

/-! R14b -/
namespace Go.Proofs.YtobjdamlmaaidaaDoor
open Go.RowKit
set_option linter.unusedVariables false

theorem eqEnd_le (xs : List Int) : eqEnd xs ≤ xs.length := by unfold eqEnd; (repeat' split) <;> omega
end Go.Proofs.YtobjdamlmaaidaaDoor
