/-
  Texts of ours laid together: Base2, D01.
-/
import Derived.Lib.SlBytesConst
import Derived.Laws.IdiomStrings
import Derived.Deep.AppendLies
import Derived.Deep.RegionLaw
import Derived.Test.YtefhddbbiheadaaGreatZ1

/-! Base2 -/
namespace Go.Proofs.YtefhddbbiheadaaGreat
open Go.RowKit

theorem reads_of_ints {k : IntKind} {w : World} {x : Addr} {len cap : Nat} {zs : List Int} (hl : len ≤ cap) (hm : cap ≤ maxLen) (hz : zs.length = cap)
    (hcell : ∀ i, i < zs.length → w.cell? (x.add i) = some (.int k (zs.getD i 0))) (hwz : ∀ n ∈ zs, (Lit.int k n).wf = true) : Reads k w (some x) len cap (zs.take len) :=
  ⟨by simp; omega, hl, hm, fun y hy => hwz y (List.mem_of_mem_take hy), fun hpos => by
    obtain ⟨b, off, rfl, hc⟩ := ints_at hcell (by omega)
    have h0 := hc 0 (by omega)
    refine ⟨b, off, rfl, World.block_lt_of_cell? w _ h0, fun i hi => ?_⟩
    rw [hc i (by omega)]
    simp [hi]⟩

/-- A constant's row, marked. -/
theorem Reads_lit (k : IntKind) (e : TypeId) (fz : Nat × Nat) (w : World) (xs : List Int) (hm : xs.length ≤ maxLen) (hwf : ∀ x ∈ xs, (Lit.int k x).wf = true) :
    Reads k (w.alloc (.cells (xs.map (Value.int k)).toArray e fz)) (some ⟨w.heap.size, 0, none⟩) xs.length xs.length xs :=
  ⟨rfl, Nat.le_refl _, hm, hwf, fun hl => ⟨w.heap.size, 0, rfl, by simp, fun i hi => by
    have hb : (w.alloc (.cells (xs.map (Value.int k)).toArray e fz)).heap[w.heap.size]? = some (.cells (xs.map (Value.int k)).toArray e fz) := heap_alloc_new w _
    rw [cell_of_row _ _ _ _ _ _ hb]
    simp [hi]⟩⟩

/-- The same, its block's number given. -/
theorem Reads_litB (k : IntKind) (e : TypeId) (fz : Nat × Nat) (w : World) (B : Nat) (hB : w.heap.size = B) (xs : List Int) (hm : xs.length ≤ maxLen) (hwf : ∀ x ∈ xs, (Lit.int k x).wf = true) :
    Reads k (w.alloc (.cells (xs.map (Value.int k)).toArray e fz)) (some ⟨B, 0, none⟩) xs.length xs.length xs := by
  subst hB; exact Reads_lit k e fz w xs hm hwf
/-- '[]byte("..")' of a constant, the n-th in a row. -/
theorem conv0 {P : Program} {t e : TypeId} (ht : P.underlying t = some (.slice e)) (he : P.underlying e = some (.int .u8)) (w : World) (C : Array Value) (n c : Nat) :
    (convert t t (.slice (some ⟨w.heap.size, 0, none⟩) n c)).run P (w.alloc (.cells C e)) = .ok (.slice (some ⟨w.heap.size, 0, none⟩) n c) (w.alloc (.cells C e (C.size, C.size + 1))) :=
  Lib.run_convert_bytes_const w t e C n c ht he
theorem convB {P : Program} {t e : TypeId} (ht : P.underlying t = some (.slice e)) (he : P.underlying e = some (.int .u8)) (w : World) (B : Nat) (hB : w.heap.size = B) (C : Array Value) (n c : Nat) :
    (convert t t (.slice (some ⟨B, 0, none⟩) n c)).run P (w.alloc (.cells C e)) = .ok (.slice (some ⟨B, 0, none⟩) n c) (w.alloc (.cells C e (C.size, C.size + 1))) := by
  subst hB; exact Lib.run_convert_bytes_const w t e C n c ht he
theorem conv1 {P : Program} {t e : TypeId} (ht : P.underlying t = some (.slice e)) (he : P.underlying e = some (.int .u8)) (w : World) (o : Obj) (C : Array Value) (n c : Nat) :
    (convert t t (.slice (some ⟨w.heap.size + 1, 0, none⟩) n c)).run P ((w.alloc o).alloc (.cells C e)) = .ok (.slice (some ⟨w.heap.size + 1, 0, none⟩) n c) ((w.alloc o).alloc (.cells C e (C.size, C.size + 1))) := by
  have := Lib.run_convert_bytes_const (P := P) (w.alloc o) t e C n c ht he
  simpa using this
theorem conv2 {P : Program} {t e : TypeId} (ht : P.underlying t = some (.slice e)) (he : P.underlying e = some (.int .u8)) (w : World) (o o' : Obj) (C : Array Value) (n c : Nat) :
    (convert t t (.slice (some ⟨w.heap.size + 2, 0, none⟩) n c)).run P (((w.alloc o).alloc o').alloc (.cells C e)) = .ok (.slice (some ⟨w.heap.size + 2, 0, none⟩) n c) (((w.alloc o).alloc o').alloc (.cells C e (C.size, C.size + 1))) := by
  have := Lib.run_convert_bytes_const (P := P) ((w.alloc o).alloc o') t e C n c ht he
  simpa using this

section
variable {P : Program} {ops : Array Oper} {rest : List Oper} {o : Oper} {a : Act} {Q : Exit → Act → World → Prop} {t e : TypeId} {k : IntKind} {by_ : Nat}

/-- 'append(s, y1, y2, ..)': the literal's row is the newest block. -/
theorem wpList_pushs (ST : SliceT P t e k by_) (ys : List Int) (hgd : o.guard = none) (s x : Operand) (ho : o.op = .call { callee := .builtin .append, args := #[s, x], argTypes := #[t, t] })
    {w0 wr : World} {e' : TypeId} {v : Value} {xs : List Int} (hs : a.eval s = v) (hx : ∃ c, a.eval x = .slice (some ⟨wr.heap.size, 0, none⟩) ys.length c)
    (hown : Own k e w0.heap.size wr v xs) (hbel : Below w0.heap.size w0 wr) (hlen : xs.length + ys.length < 1000000000000) (hwf : ∀ y ∈ ys, (Lit.int k y).wf = true)
    (h : ∀ v' w', Own k e w0.heap.size w' v' (xs ++ ys) → Below w0.heap.size w0 w' → wpList P ops Q rest (a.put o.dst v') w') :
    wpList P ops Q (o :: rest) a (wr.alloc (.cells (ys.map (Value.int k)).toArray e')) := by
  obtain ⟨i, hi, hz0, hz1, hz2⟩ := info_parts ST.info
  obtain ⟨c, hx⟩ := hx
  have hsm := ST.small
  have hmul : (xs.length + ys.length) * by_ ≤ (xs.length + ys.length) * 8 := Nat.mul_le_mul_left _ hsm
  refine wpList_append_own _ hgd s x t ho w0.heap.size e i (.int k 0) 1 by_ ST.under hi hz0 hz1 hz2 rfl (by decide) v xs.length (xs.map (Value.int k)) hs (hown.1.alloc _) ⟨wr.heap.size, 0, none⟩ ys.length c (ys.map (Value.int k)) hx (by simp) ?_ (ints_oneCell _ _) (by unfold maxLen; omega) (by omega)
    (Nat.le_trans hbel.size (by simp)) ?_
  · intro j u hj
    rw [Addr.add_lit, World.cell?_alloc_at _ _ _ _ rfl]
    simpa using hj
  · intro v' w' hown' hgrow _
    refine h v' w' ⟨by simpa using hown', ?_⟩ ((hbel.alloc hbel.size _).grown hgrow (Nat.le_trans hbel.size (by simp)) (fun j hj => (hown.1.lt j hj).1))
    intro z hz
    rcases List.mem_append.1 hz with hz | hz
    · exact hown.2 z hz
    · exact hwf z hz

/-- 'make([]T, 0, n)'. -/
theorem wpList_make0 (ST : SliceT P t e k by_) (hgd : o.guard = none) (l c : Operand) (ho : o.op = Op.makeSlice t l c)
    {w0 wr : World} {kl kc : IntKind} {n : Nat} (hl : a.eval l = .int kl 0) (hc : a.eval c = .int kc n) (hbel : Below w0.heap.size w0 wr) (hlen : n < 1000000000000)
    (h : ∀ v' w', Own k e w0.heap.size w' v' [] → Below w0.heap.size w0 w' → wpList P ops Q rest (a.put o.dst v') w') :
    wpList P ops Q (o :: rest) a wr := by
  obtain ⟨i, hi, hz0, hz1, hz2⟩ := info_parts ST.info
  have hsm := ST.small
  have hmul : i.bytes * n ≤ 8 * n := Nat.mul_le_mul_right _ (by omega)
  refine wpList_make_own _ hgd l c t ho w0.heap.size e i (.int k 0) 1 ST.under hi hz0 hz1 kl kc n n hl hc rfl (by omega) (by unfold maxLen; omega) hbel.size ?_
  intro w' hown hgrow
  exact h _ w' ⟨by simpa using hown, fun x hx => by cases hx⟩ (hbel.grown hgrow hbel.size (fun j hj => by cases hj))
end

section
variable {P : Program} {ops : Array Oper} {o : Oper} {a : Act} {K : Act → World → Prop} {Q : Exit → Act → World → Prop} {E : Prop} {t e : TypeId} {k : IntKind} {by_ : Nat}

/-- 'append(s, y1, y2, ..)' as a step of a region that draws its order. -/
theorem step_pushs (ST : SliceT P t e k by_) (ys : List Int) (hgd : o.guard = none) (s x : Operand) (ho : o.op = .call { callee := .builtin .append, args := #[s, x], argTypes := #[t, t] })
    {w0 wr : World} {e' : TypeId} {v : Value} {xs : List Int} (hs : a.eval s = v) (hx : ∃ c, a.eval x = .slice (some ⟨wr.heap.size, 0, none⟩) ys.length c) (hy : 0 < ys.length)
    (hown : Own k e w0.heap.size wr v xs) (hbel : Below w0.heap.size w0 wr) (hlen : xs.length + ys.length < 1000000000000) (hwf : ∀ y ∈ ys, (Lit.int k y).wf = true)
    (h : ∀ v' w', Own k e w0.heap.size w' v' (xs ++ ys) → Below w0.heap.size w0 w' → K (a.put o.dst v') w') :
    if Region.wanted o (yielded ops a.tmps) = true then Oper.wp P o a (wr.alloc (.cells (ys.map (Value.int k)).toArray e')) K Q else E := by
  obtain ⟨i, hi, hz0, hz1, hz2⟩ := info_parts ST.info
  obtain ⟨c, hx⟩ := hx
  have hsm := ST.small
  have hmul : (xs.length + ys.length) * by_ ≤ (xs.length + ys.length) * 8 := Nat.mul_le_mul_left _ hsm
  have hw : Region.wanted o (yielded ops a.tmps) = true := by simp [Region.wanted, hgd]
  rw [if_pos hw]
  refine wp_append_lies _ s x t ho w0.heap.size e i (.int k 0) 1 by_ ST.under hi hz0 hz1 hz2 rfl (by decide) v xs.length (xs.map (Value.int k)) hs (hown.1.alloc _) ⟨wr.heap.size, 0, none⟩ ys.length c (ys.map (Value.int k)) hx (by simp) ?_ (ints_oneCell _ _) hy (by unfold maxLen; omega) (by omega)
    (Nat.le_trans hbel.size (by simp)) _ rfl ?_
  · intro j u hj
    rw [Addr.add_lit, World.cell?_alloc_at _ _ _ _ rfl]
    simpa using hj
  · intro g cap w' hown' hgrow _ _
    refine h _ w' ⟨by simpa using hown', ?_⟩ ((hbel.alloc hbel.size _).grown hgrow (Nat.le_trans hbel.size (by simp)) (fun j hj => (hown.1.lt j hj).1))
    intro z hz
    rcases List.mem_append.1 hz with hz | hz
    · exact hown.2 z hz
    · exact hwf z hz
end

theorem ret_ib {k : IntKind} {a b : Int} {c d : Bool} (h : a = b) (h' : c = d) : Ending.returned (.tuple #[.int k a, .bool c]) = .returned (.tuple #[.int k b, .bool d]) := by rw [h, h']
theorem ret_si {a : Option Addr} {l c : Nat} {k : IntKind} {x y : Int} (h : x = y) : Ending.returned (.tuple #[.slice a l c, .int k x]) = .returned (.tuple #[.slice a l c, .int k y]) := by rw [h]
/-- A slice value of the call's own, given back. -/
theorem Own.back {w0 w : World} {v : Value} {xs : List Int} {e : TypeId} (h : Own .u8 e w0.heap.size w v xs) : ∃ a' len' cap', v = .slice a' len' cap' ∧ Reads .u8 w a' len' cap' xs := by
  obtain ⟨a', cap', hv, hr⟩ := h.reads
  exact ⟨a', _, cap', hv, hr⟩
theorem Own.drew' {k : IntKind} {e : TypeId} {base : Nat} {w : World} {v : Value} {xs : List Int} (h : Own k e base w v xs) : Own k e base w.drew v xs := h.below ⟨rfl, rfl, rfl, Nat.le_refl _, fun _ _ => rfl⟩
theorem below_drew {B : Nat} {a w : World} (h : Below B a w) : Below B a w.drew := h.trans ⟨rfl, rfl, rfl, Nat.le_refl _, fun _ _ => rfl⟩
/-- The text of octets. -/
def strB (xs : List Int) : ByteArray := ⟨(xs.map fun x => UInt8.ofNat x.toNat).toArray⟩
/-- 'string(b)'. -/
theorem Reads.string {P : Program} {src dst e : TypeId} (hs : P.underlying src = some (.slice e)) (he : P.underlying e = some (.int .u8)) (hd : P.underlying dst = some .string)
    {w : World} {a : Option Addr} {len cap : Nat} {xs : List Int} (h : Reads .u8 w a len cap xs) : (convert src dst (.slice a len cap)).run P w = .ok (.string (strB xs)) w := by
  have hl : (xs.map fun x => UInt8.ofNat x.toNat).length = len := by simp [h.size]
  cases a with
  | none =>
    have h0 : len = 0 := by
      rcases Nat.eq_zero_or_pos len with h0 | h0
      · exact h0
      · obtain ⟨_, _, ha, _⟩ := h.cell h0; cases ha
    subst h0
    obtain rfl : xs = [] := List.eq_nil_of_length_eq_zero h.size
    rw [run_convert_bytes_string w src dst e none 0 cap hs he hd]
    rfl
  | some p =>
    have := run_convert_bytes_back (P := P) w src dst e p cap (xs.map fun x => UInt8.ofNat x.toNat) hs he hd (fun j hj => by
      obtain ⟨b, off, ha, _, hc⟩ := h.cell (by omega)
      cases ha
      have hjx : j < xs.length := by simpa using hj
      rw [Addr.add_lit, hc j (by omega)]
      have hw := wf_u8 (h.wf _ (List.getElem_mem hjx))
      simp [hjx]
      omega)
    rw [hl] at this
    exact this

theorem below_then {a b c : World} (h : Below a.heap.size a b) (h' : Below b.heap.size b c) : Below a.heap.size a c := h.trans (h'.mono h.size)
theorem below_then' {a b c : World} {B : Nat} (h : Below B a b) (h' : Below b.heap.size b c) (hB : B ≤ a.heap.size) : Below B a c := h.trans (h'.mono (Nat.le_trans hB h.size))

/-- A beginning. -/
theorem Reads.pre {k : IntKind} {w : World} {a : Option Addr} {len cap : Nat} {xs : List Int} (h : Reads k w a len cap xs) {n : Nat} (hn : n ≤ len) : Reads k w a n cap (xs.take n) := by
  have hs := h.size
  have hr := h.room
  refine ⟨by simp; omega, by omega, h.top, fun x hx => h.wf x (List.mem_of_mem_take hx), fun hl => ?_⟩
  obtain ⟨b, off, ha, hb, hc⟩ := h.cell (by omega)
  refine ⟨b, off, ha, hb, fun i hi => ?_⟩
  rw [hc i (by omega)]
  simp [hi]

end Go.Proofs.YtefhddbbiheadaaGreat

/-! D01 -/
namespace Go.Proofs.YtefhddbbiheadaaGreat
open Go.RowKit

def lowI (c : Int) : Int := if 65 ≤ c ∧ c ≤ 90 then c + 32 else c
theorem low_bd (c : Int) (h0 : 0 ≤ c) (h1 : c ≤ 255) : 0 ≤ lowI c ∧ lowI c ≤ 255 := by unfold lowI; split <;> omega
def alnumI (c : Int) : Int := if 48 ≤ c ∧ c ≤ 57 then 8 else if 97 ≤ lowI c ∧ lowI c ≤ 122 then 16 else 0
abbrev spS : ByteArray := { data := #[40, 41, 60, 62, 64, 44, 59, 58, 92, 34, 47, 91, 93, 63, 61] }
abbrev noS : ByteArray := { data := #[42, 39, 37] }
abbrev woS : ByteArray := { data := #[33, 42, 43, 45, 47] }
abbrev baS : ByteArray := { data := #[43, 47] }
def synI (c : Int) : Int := if hasB spS c = true then 32 else if hasB noS c = true then 64 else 320
def codI (c : Int) : Int := if (alnumI c != 0) = true then 640 else if hasB woS c = true then (if hasB baS c = true then bits BinOp.or IntKind.i64 (bits BinOp.or IntKind.i64 0 128) 512 else bits BinOp.or IntKind.i64 0 128) else (if hasB baS c = true then bits BinOp.or IntKind.i64 0 512 else 0)
def kindI (c : Int) : Int := if c = 9 then 3 else if c = 32 then 2 else if c < 32 ∨ c = 127 then 1 else if 127 < c then 0 else
  bits BinOp.or IntKind.i64 (bits BinOp.or IntKind.i64 (bits BinOp.or IntKind.i64 4 (alnumI c)) (synI c)) (codI c)
/-- Is an octet of one of some kinds? -/
def isB (kinds c : Int) : Bool := bits BinOp.and IntKind.i64 (kindI c) kinds != 0
def cntI (f : Int → Bool) (xs : List Int) : Int := ((xs.filter f).length : Nat)
theorem cnt_nil (f : Int → Bool) : cntI f [] = 0 := rfl
theorem cnt_bd (f : Int → Bool) (xs : List Int) (k : Nat) : 0 ≤ cntI f (xs.take k) ∧ cntI f (xs.take k) ≤ k := by
  unfold cntI
  have h1 := List.length_filter_le f (xs.take k)
  have h2 := List.length_take_le k xs
  omega
theorem cnt_yes {f : Int → Bool} {xs : List Int} {k : Nat} {x : Int} (h : xs.take (k + 1) = xs.take k ++ [x]) (hf : f x = true) : cntI f (xs.take (k + 1)) = cntI f (xs.take k) + 1 := by
  rw [h]; simp [cntI, List.filter_append, hf]
theorem cnt_no {f : Int → Bool} {xs : List Int} {k : Nat} {x : Int} (h : xs.take (k + 1) = xs.take k ++ [x]) (hf : f x = false) : cntI f (xs.take (k + 1)) = cntI f (xs.take k) := by
  rw [h]; simp [cntI, List.filter_append, hf]
theorem all_yes {f : Int → Bool} {xs : List Int} {k : Nat} {x : Int} (h : xs.take (k + 1) = xs.take k ++ [x]) (hn : (xs.take k).all f = true) (hf : f x = true) : (xs.take (k + 1)).all f = true := by
  rw [h, List.all_append, hn]; simp [hf]
theorem all_no {f : Int → Bool} {xs : List Int} {k : Nat} {x : Int} (h : xs[k]? = some x) (hf : f x = false) : xs.all f = false := by
  rw [List.all_eq_false]; exact ⟨x, List.mem_of_getElem? h, by simp [hf]⟩
theorem eq_no {xs ys : List Int} {k : Nat} {x y : Int} (hx : xs[k]? = some x) (hy : ys[k]? = some y) (h : (x != y) = true) : decide (xs = ys) = false := by
  rw [decide_eq_false_iff_not]
  rintro rfl
  rw [hx] at hy
  cases hy
  simp at h
theorem eq_len {xs ys : List Int} (h : xs.length ≠ ys.length) : decide (xs = ys) = false := by
  rw [decide_eq_false_iff_not]
  rintro rfl
  exact h rfl
theorem eq_yes {xs ys : List Int} {k : Nat} {x y : Int} (hx : xs.take (k + 1) = xs.take k ++ [x]) (hy : ys.take (k + 1) = ys.take k ++ [y]) (hn : xs.take k = ys.take k) (h : (x != y) = false) : xs.take (k + 1) = ys.take (k + 1) := by
  rw [hx, hy, hn, show x = y by simpa using h]
theorem map_take_wf {xs : List Int} (f : Int → Int) (hf : ∀ x, 0 ≤ x → x ≤ 255 → (Lit.int .u8 (f x)).wf = true) (h : ∀ x ∈ xs, (Lit.int .u8 x).wf = true) (x : Int) (hx : x ∈ xs.map f) : (Lit.int .u8 x).wf = true := by
  obtain ⟨y, hy, rfl⟩ := List.mem_map.1 hx
  exact hf y (wf_u8 (h y hy)).1 (wf_u8 (h y hy)).2
theorem low_wf (x : Int) (h0 : 0 ≤ x) (h1 : x ≤ 255) : (Lit.int .u8 (lowI x)).wf = true := mk_u8 (low_bd x h0 h1).1 (low_bd x h0 h1).2
/-- A row that is filled from the front. -/
def fill (f : Int → Int) (xs : List Int) (k : Nat) : List Int := (xs.take k).map f ++ List.replicate (xs.length - k) 0
theorem fill_len (f : Int → Int) (xs : List Int) (k : Nat) (h : k ≤ xs.length) : (fill f xs k).length = xs.length := by simp [fill]; omega
theorem fill_zero (f : Int → Int) (xs : List Int) : fill f xs 0 = List.replicate xs.length 0 := by simp [fill]
theorem fill_all (f : Int → Int) (xs : List Int) (k : Nat) (h : xs.length ≤ k) : fill f xs k = xs.map f := by simp [fill, List.take_of_length_le h, show xs.length - k = 0 by omega]
theorem fill_set (f : Int → Int) {xs : List Int} {k : Nat} {x : Int} (hk : k < xs.length) (h : xs.take (k + 1) = xs.take k ++ [x]) : (fill f xs k).set k (f x) = fill f xs (k + 1) := by
  unfold fill
  rw [h, List.set_append_right _ _ (by simp; omega)]
  have e : xs.length - k = (xs.length - (k + 1)) + 1 := by omega
  rw [e, List.replicate_succ]
  simp [show k - min k xs.length = 0 by omega]
def frontN (f : Int → Bool) (xs : List Int) : Nat := (xs.takeWhile f).length
def backN (f : Int → Bool) (xs : List Int) (a : Nat) : Nat → Nat
  | 0 => 0
  | n + 1 => if a < n + 1 ∧ f (xs.getD n 0) = true then backN f xs a n else n + 1
def trimL (f : Int → Bool) (xs : List Int) : List Int := (xs.take (backN f xs (frontN f xs) xs.length)).drop (frontN f xs)
theorem front_step {f : Int → Bool} {xs : List Int} {k : Nat} {x : Int} (hx : xs[k]? = some x) (hf : f x = true) : ((xs.drop k).takeWhile f).length = ((xs.drop (k + 1)).takeWhile f).length + 1 := by
  have hk : k < xs.length := (List.getElem?_eq_some_iff.1 hx).1
  have e : xs[k] = x := (List.getElem?_eq_some_iff.1 hx).2
  rw [List.drop_eq_getElem_cons hk, e]; simp [hf]
theorem front_stop {f : Int → Bool} {xs : List Int} {k : Nat} {x : Int} (hx : xs[k]? = some x) (hf : f x = false) : ((xs.drop k).takeWhile f).length = 0 := by
  have hk : k < xs.length := (List.getElem?_eq_some_iff.1 hx).1
  have e : xs[k] = x := (List.getElem?_eq_some_iff.1 hx).2
  rw [List.drop_eq_getElem_cons hk, e]; simp [hf]
theorem front_end {f : Int → Bool} {xs : List Int} {k : Nat} (h : xs.length ≤ k) : ((xs.drop k).takeWhile f).length = 0 := by
  rw [List.drop_of_length_le h]; rfl
theorem back_step {f : Int → Bool} {xs : List Int} {a m : Nat} {x : Int} (h : a < m) (hx : xs[m - 1]? = some x) (hf : f x = true) : backN f xs a m = backN f xs a (m - 1) := by
  obtain ⟨m, rfl⟩ : ∃ j, m = j + 1 := ⟨m - 1, by omega⟩
  simp only [Nat.add_sub_cancel] at hx ⊢
  rw [backN, if_pos ⟨h, by rw [List.getD_eq_getElem?_getD, hx]; exact hf⟩]
theorem back_stop {f : Int → Bool} {xs : List Int} {a m : Nat} {x : Int} (h : a < m) (hx : xs[m - 1]? = some x) (hf : f x = false) : backN f xs a m = m := by
  obtain ⟨m, rfl⟩ : ∃ j, m = j + 1 := ⟨m - 1, by omega⟩
  simp only [Nat.add_sub_cancel] at hx
  rw [backN, if_neg (fun hh => by rw [List.getD_eq_getElem?_getD, hx] at hh; simp [hf] at hh)]
theorem back_end {f : Int → Bool} {xs : List Int} {a m : Nat} (h : m ≤ a) : backN f xs a m = m := by
  cases m with
  | zero => rfl
  | succ m => rw [backN, if_neg (fun hh => by omega)]
theorem same_no {xs ys : List Int} {k : Nat} {x y : Int} (hx : xs[k]? = some x) (hy : ys[k]? = some y) (h : (lowI x != lowI y) = true) : decide (xs.map lowI = ys.map lowI) = false := by
  refine eq_no (k := k) (x := lowI x) (y := lowI y) ?_ ?_ h <;> simp [hx, hy]
theorem same_yes {xs ys : List Int} {k : Nat} {x y : Int} (hx : xs.take (k + 1) = xs.take k ++ [x]) (hy : ys.take (k + 1) = ys.take k ++ [y]) (hn : (xs.take k).map lowI = (ys.take k).map lowI) (h : (lowI x != lowI y) = false) : (xs.take (k + 1)).map lowI = (ys.take (k + 1)).map lowI := by
  rw [hx, hy, List.map_append, List.map_append, hn]; simp; simpa using h

end Go.Proofs.YtefhddbbiheadaaGreat
