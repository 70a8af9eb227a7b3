/-
  More lemmas of my own that speak of no program.
-/
import Derived.Test.YtdipabcoeloeoaaBase
import Derived.Lib.SlBytesConst
import Derived.Laws.IdiomStrings
import Derived.Deep.AppendLies
import Derived.Deep.RegionLaw
namespace Go.Proofs.Ytdipabcoeloeoaa
open Go.RowKit

theorem reads_of_ints {k : IntKind} {w : World} {x : Addr} {len cap : Nat} {zs : List Int} (hl : len ≤ cap) (hm : cap ≤ maxLen) (hz : zs.length = cap)
    (hcell : ∀ i, i < zs.length → w.cell? (x.add i) = some (.int k (zs.getD i 0))) (hwz : ∀ n ∈ zs, (Lit.int k n).wf = true) : Reads k w (some x) len cap (zs.take len) :=
  ⟨by simp; omega, hl, hm, fun y hy => hwz y (List.mem_of_mem_take hy), fun hpos => by
    obtain ⟨b, off, rfl, hc⟩ := ints_at hcell (by omega)
    have h0 := hc 0 (by omega)
    refine ⟨b, off, rfl, World.block_lt_of_cell? w _ h0, fun i hi => ?_⟩
    rw [hc i (by omega)]
    simp [hi]⟩

/-- A constant's row, marked. -/
theorem Reads_lit (k : IntKind) (e : TypeId) (fz : Nat × Nat) (w : World) (xs : List Int) (hm : xs.length ≤ maxLen) (hwf : ∀ x ∈ xs, (Lit.int k x).wf = true) :
    Reads k (w.alloc (.cells (xs.map (Value.int k)).toArray e fz)) (some ⟨w.heap.size, 0, none⟩) xs.length xs.length xs :=
  ⟨rfl, Nat.le_refl _, hm, hwf, fun hl => ⟨w.heap.size, 0, rfl, by simp, fun i hi => by
    have hb : (w.alloc (.cells (xs.map (Value.int k)).toArray e fz)).heap[w.heap.size]? = some (.cells (xs.map (Value.int k)).toArray e fz) := heap_alloc_new w _
    rw [cell_of_row _ _ _ _ _ _ hb]
    simp [hi]⟩⟩

/-- The same, its block's number given. -/
theorem Reads_litB (k : IntKind) (e : TypeId) (fz : Nat × Nat) (w : World) (B : Nat) (hB : w.heap.size = B) (xs : List Int) (hm : xs.length ≤ maxLen) (hwf : ∀ x ∈ xs, (Lit.int k x).wf = true) :
    Reads k (w.alloc (.cells (xs.map (Value.int k)).toArray e fz)) (some ⟨B, 0, none⟩) xs.length xs.length xs := by
  subst hB; exact Reads_lit k e fz w xs hm hwf
/-- '[]byte("..")' of a constant, the n-th in a row. -/
theorem conv0 {P : Program} {t e : TypeId} (ht : P.underlying t = some (.slice e)) (he : P.underlying e = some (.int .u8)) (w : World) (C : Array Value) (n c : Nat) :
    (convert t t (.slice (some ⟨w.heap.size, 0, none⟩) n c)).run P (w.alloc (.cells C e)) = .ok (.slice (some ⟨w.heap.size, 0, none⟩) n c) (w.alloc (.cells C e (C.size, C.size + 1))) :=
  Lib.run_convert_bytes_const w t e C n c ht he
theorem convB {P : Program} {t e : TypeId} (ht : P.underlying t = some (.slice e)) (he : P.underlying e = some (.int .u8)) (w : World) (B : Nat) (hB : w.heap.size = B) (C : Array Value) (n c : Nat) :
    (convert t t (.slice (some ⟨B, 0, none⟩) n c)).run P (w.alloc (.cells C e)) = .ok (.slice (some ⟨B, 0, none⟩) n c) (w.alloc (.cells C e (C.size, C.size + 1))) := by
  subst hB; exact Lib.run_convert_bytes_const w t e C n c ht he
theorem conv1 {P : Program} {t e : TypeId} (ht : P.underlying t = some (.slice e)) (he : P.underlying e = some (.int .u8)) (w : World) (o : Obj) (C : Array Value) (n c : Nat) :
    (convert t t (.slice (some ⟨w.heap.size + 1, 0, none⟩) n c)).run P ((w.alloc o).alloc (.cells C e)) = .ok (.slice (some ⟨w.heap.size + 1, 0, none⟩) n c) ((w.alloc o).alloc (.cells C e (C.size, C.size + 1))) := by
  have := Lib.run_convert_bytes_const (P := P) (w.alloc o) t e C n c ht he
  simpa using this
theorem conv2 {P : Program} {t e : TypeId} (ht : P.underlying t = some (.slice e)) (he : P.underlying e = some (.int .u8)) (w : World) (o o' : Obj) (C : Array Value) (n c : Nat) :
    (convert t t (.slice (some ⟨w.heap.size + 2, 0, none⟩) n c)).run P (((w.alloc o).alloc o').alloc (.cells C e)) = .ok (.slice (some ⟨w.heap.size + 2, 0, none⟩) n c) (((w.alloc o).alloc o').alloc (.cells C e (C.size, C.size + 1))) := by
  have := Lib.run_convert_bytes_const (P := P) ((w.alloc o).alloc o') t e C n c ht he
  simpa using this

section
variable {P : Program} {ops : Array Oper} {rest : List Oper} {o : Oper} {a : Act} {Q : Exit → Act → World → Prop} {t e : TypeId} {k : IntKind} {by_ : Nat}

/-- 'append(s, y1, y2, ..)': the literal's row is the newest block. -/
theorem wpList_pushs (ST : SliceT P t e k by_) (ys : List Int) (hgd : o.guard = none) (s x : Operand) (ho : o.op = .call { callee := .builtin .append, args := #[s, x], argTypes := #[t, t] })
    {w0 wr : World} {e' : TypeId} {v : Value} {xs : List Int} (hs : a.eval s = v) (hx : ∃ c, a.eval x = .slice (some ⟨wr.heap.size, 0, none⟩) ys.length c)
    (hown : Own k e w0.heap.size wr v xs) (hbel : Below w0.heap.size w0 wr) (hlen : xs.length + ys.length < 1000000000000) (hwf : ∀ y ∈ ys, (Lit.int k y).wf = true)
    (h : ∀ v' w', Own k e w0.heap.size w' v' (xs ++ ys) → Below w0.heap.size w0 w' → wpList P ops Q rest (a.put o.dst v') w') :
    wpList P ops Q (o :: rest) a (wr.alloc (.cells (ys.map (Value.int k)).toArray e')) := by
  obtain ⟨i, hi, hz0, hz1, hz2⟩ := info_parts ST.info
  obtain ⟨c, hx⟩ := hx
  have hsm := ST.small
  have hmul : (xs.length + ys.length) * by_ ≤ (xs.length + ys.length) * 8 := Nat.mul_le_mul_left _ hsm
  refine wpList_append_own _ hgd s x t ho w0.heap.size e i (.int k 0) 1 by_ ST.under hi hz0 hz1 hz2 rfl (by decide) v xs.length (xs.map (Value.int k)) hs (hown.1.alloc _) ⟨wr.heap.size, 0, none⟩ ys.length c (ys.map (Value.int k)) hx (by simp) ?_ (ints_oneCell _ _) (by unfold maxLen; omega) (by omega)
    (Nat.le_trans hbel.size (by simp)) ?_
  · intro j u hj
    rw [Addr.add_lit, World.cell?_alloc_at _ _ _ _ rfl]
    simpa using hj
  · intro v' w' hown' hgrow _
    refine h v' w' ⟨by simpa using hown', ?_⟩ ((hbel.alloc hbel.size _).grown hgrow (Nat.le_trans hbel.size (by simp)) (fun j hj => (hown.1.lt j hj).1))
    intro z hz
    rcases List.mem_append.1 hz with hz | hz
    · exact hown.2 z hz
    · exact hwf z hz

/-- 'make([]T, 0, n)'. -/
theorem wpList_make0 (ST : SliceT P t e k by_) (hgd : o.guard = none) (l c : Operand) (ho : o.op = Op.makeSlice t l c)
    {w0 wr : World} {kl kc : IntKind} {n : Nat} (hl : a.eval l = .int kl 0) (hc : a.eval c = .int kc n) (hbel : Below w0.heap.size w0 wr) (hlen : n < 1000000000000)
    (h : ∀ v' w', Own k e w0.heap.size w' v' [] → Below w0.heap.size w0 w' → wpList P ops Q rest (a.put o.dst v') w') :
    wpList P ops Q (o :: rest) a wr := by
  obtain ⟨i, hi, hz0, hz1, hz2⟩ := info_parts ST.info
  have hsm := ST.small
  have hmul : i.bytes * n ≤ 8 * n := Nat.mul_le_mul_right _ (by omega)
  refine wpList_make_own _ hgd l c t ho w0.heap.size e i (.int k 0) 1 ST.under hi hz0 hz1 kl kc n n hl hc rfl (by omega) (by unfold maxLen; omega) hbel.size ?_
  intro w' hown hgrow
  exact h _ w' ⟨by simpa using hown, fun x hx => by cases hx⟩ (hbel.grown hgrow hbel.size (fun j hj => by cases hj))
end

section
variable {P : Program} {ops : Array Oper} {o : Oper} {a : Act} {K : Act → World → Prop} {Q : Exit → Act → World → Prop} {E : Prop} {t e : TypeId} {k : IntKind} {by_ : Nat}

/-- 'append(s, y1, y2, ..)' as a step of a region that draws its order. -/
theorem step_pushs (ST : SliceT P t e k by_) (ys : List Int) (hgd : o.guard = none) (s x : Operand) (ho : o.op = .call { callee := .builtin .append, args := #[s, x], argTypes := #[t, t] })
    {w0 wr : World} {e' : TypeId} {v : Value} {xs : List Int} (hs : a.eval s = v) (hx : ∃ c, a.eval x = .slice (some ⟨wr.heap.size, 0, none⟩) ys.length c) (hy : 0 < ys.length)
    (hown : Own k e w0.heap.size wr v xs) (hbel : Below w0.heap.size w0 wr) (hlen : xs.length + ys.length < 1000000000000) (hwf : ∀ y ∈ ys, (Lit.int k y).wf = true)
    (h : ∀ v' w', Own k e w0.heap.size w' v' (xs ++ ys) → Below w0.heap.size w0 w' → K (a.put o.dst v') w') :
    if Region.wanted o (yielded ops a.tmps) = true then Oper.wp P o a (wr.alloc (.cells (ys.map (Value.int k)).toArray e')) K Q else E := by
  obtain ⟨i, hi, hz0, hz1, hz2⟩ := info_parts ST.info
  obtain ⟨c, hx⟩ := hx
  have hsm := ST.small
  have hmul : (xs.length + ys.length) * by_ ≤ (xs.length + ys.length) * 8 := Nat.mul_le_mul_left _ hsm
  have hw : Region.wanted o (yielded ops a.tmps) = true := by simp [Region.wanted, hgd]
  rw [if_pos hw]
  refine wp_append_lies _ s x t ho w0.heap.size e i (.int k 0) 1 by_ ST.under hi hz0 hz1 hz2 rfl (by decide) v xs.length (xs.map (Value.int k)) hs (hown.1.alloc _) ⟨wr.heap.size, 0, none⟩ ys.length c (ys.map (Value.int k)) hx (by simp) ?_ (ints_oneCell _ _) hy (by unfold maxLen; omega) (by omega)
    (Nat.le_trans hbel.size (by simp)) _ rfl ?_
  · intro j u hj
    rw [Addr.add_lit, World.cell?_alloc_at _ _ _ _ rfl]
    simpa using hj
  · intro g cap w' hown' hgrow _ _
    refine h _ w' ⟨by simpa using hown', ?_⟩ ((hbel.alloc hbel.size _).grown hgrow (Nat.le_trans hbel.size (by simp)) (fun j hj => (hown.1.lt j hj).1))
    intro z hz
    rcases List.mem_append.1 hz with hz | hz
    · exact hown.2 z hz
    · exact hwf z hz
end

theorem ret_ib {k : IntKind} {a b : Int} {c d : Bool} (h : a = b) (h' : c = d) : Ending.returned (.tuple #[.int k a, .bool c]) = .returned (.tuple #[.int k b, .bool d]) := by rw [h, h']
theorem ret_si {a : Option Addr} {l c : Nat} {k : IntKind} {x y : Int} (h : x = y) : Ending.returned (.tuple #[.slice a l c, .int k x]) = .returned (.tuple #[.slice a l c, .int k y]) := by rw [h]
/-- A slice value of the call's own, given back. -/
theorem Own.back {w0 w : World} {v : Value} {xs : List Int} {e : TypeId} (h : Own .u8 e w0.heap.size w v xs) : ∃ a' len' cap', v = .slice a' len' cap' ∧ Reads .u8 w a' len' cap' xs := by
  obtain ⟨a', cap', hv, hr⟩ := h.reads
  exact ⟨a', _, cap', hv, hr⟩
theorem Own.drew' {k : IntKind} {e : TypeId} {base : Nat} {w : World} {v : Value} {xs : List Int} (h : Own k e base w v xs) : Own k e base w.drew v xs := h.below ⟨rfl, rfl, rfl, Nat.le_refl _, fun _ _ => rfl⟩
theorem below_drew {B : Nat} {a w : World} (h : Below B a w) : Below B a w.drew := h.trans ⟨rfl, rfl, rfl, Nat.le_refl _, fun _ _ => rfl⟩
/-- The text of octets. -/
def strB (xs : List Int) : ByteArray := ⟨(xs.map fun x => UInt8.ofNat x.toNat).toArray⟩
/-- 'string(b)'. -/
theorem Reads.string {P : Program} {src dst e : TypeId} (hs : P.underlying src = some (.slice e)) (he : P.underlying e = some (.int .u8)) (hd : P.underlying dst = some .string)
    {w : World} {a : Option Addr} {len cap : Nat} {xs : List Int} (h : Reads .u8 w a len cap xs) : (convert src dst (.slice a len cap)).run P w = .ok (.string (strB xs)) w := by
  have hl : (xs.map fun x => UInt8.ofNat x.toNat).length = len := by simp [h.size]
  cases a with
  | none =>
    have h0 : len = 0 := by
      rcases Nat.eq_zero_or_pos len with h0 | h0
      · exact h0
      · obtain ⟨_, _, ha, _⟩ := h.cell h0; cases ha
    subst h0
    obtain rfl : xs = [] := List.eq_nil_of_length_eq_zero h.size
    rw [run_convert_bytes_string w src dst e none 0 cap hs he hd]
    rfl
  | some p =>
    have := run_convert_bytes_back (P := P) w src dst e p cap (xs.map fun x => UInt8.ofNat x.toNat) hs he hd (fun j hj => by
      obtain ⟨b, off, ha, _, hc⟩ := h.cell (by omega)
      cases ha
      have hjx : j < xs.length := by simpa using hj
      rw [Addr.add_lit, hc j (by omega)]
      have hw := wf_u8 (h.wf _ (List.getElem_mem hjx))
      simp [hjx]
      omega)
    rw [hl] at this
    exact this

theorem below_then {a b c : World} (h : Below a.heap.size a b) (h' : Below b.heap.size b c) : Below a.heap.size a c := h.trans (h'.mono h.size)
theorem below_then' {a b c : World} {B : Nat} (h : Below B a b) (h' : Below b.heap.size b c) (hB : B ≤ a.heap.size) : Below B a c := h.trans (h'.mono (Nat.le_trans hB h.size))

/-- A beginning. -/
theorem Reads.pre {k : IntKind} {w : World} {a : Option Addr} {len cap : Nat} {xs : List Int} (h : Reads k w a len cap xs) {n : Nat} (hn : n ≤ len) : Reads k w a n cap (xs.take n) := by
  have hs := h.size
  have hr := h.room
  refine ⟨by simp; omega, by omega, h.top, fun x hx => h.wf x (List.mem_of_mem_take hx), fun hl => ?_⟩
  obtain ⟨b, off, ha, hb, hc⟩ := h.cell (by omega)
  refine ⟨b, off, ha, hb, fun i hi => ?_⟩
  rw [hc i (by omega)]
  simp [hi]

end Go.Proofs.Ytdipabcoeloeoaa
