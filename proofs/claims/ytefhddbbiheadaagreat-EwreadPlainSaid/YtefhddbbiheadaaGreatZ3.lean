/-
  Texts of ours laid together: D03, First, D11, D08, D09.
-/
import Derived.Test.YtefhddbbiheadaaGreatZ2

/-! D03 -/
namespace Go.Proofs.YtefhddbbiheadaaGreat
open Go.RowKit
set_option linter.unusedVariables false

theorem wf_r {x : Int} (h : (Lit.int .i32 x).wf = true) : -2147483648 ≤ x ∧ x ≤ 2147483647 := bounds_i32 h
theorem mk_r {x : Int} (h0 : -2147483648 ≤ x) (h1 : x ≤ 2147483647) : (Lit.int .i32 x).wf = true := WalkArith.wf_i32 (by omega)
theorem Reads.getR {w : World} {a : Option Addr} {len cap : Nat} {xs : List Int} (h : Reads .i32 w a len cap xs) {i : Nat} (hi : i < len) :
    ∃ b off x, a = some ⟨b, off, none⟩ ∧ b < w.heap.size ∧ w.cell? ⟨b, off + i, none⟩ = some (.int .i32 x) ∧ -2147483648 ≤ x ∧ x ≤ 2147483647 ∧ Hid (xs[i]? = some x ∧ xs.take (i + 1) = xs.take i ++ [x]) := by
  obtain ⟨b, off, x, ha, hb, hc, hx⟩ := h.get hi
  obtain ⟨h1, h2, h3⟩ := hx.out
  exact ⟨b, off, x, ha, hb, hc, (wf_r h3).1, (wf_r h3).2, h1, h2⟩

/-- A surrogate, a scalar value. -/
def surB (c : Int) : Bool := decide (55296 ≤ c ∧ c ≤ 57343)
def scB (c : Int) : Bool := decide (0 ≤ c ∧ c ≤ 1114111 ∧ ¬ (55296 ≤ c ∧ c ≤ 57343))
theorem scB_iff (c : Int) : scB c = true ↔ 0 ≤ c ∧ c ≤ 1114111 ∧ ¬ (55296 ≤ c ∧ c ≤ 57343) := decide_eq_true_iff
theorem scB_not (c : Int) : scB c = false ↔ c < 0 ∨ 1114111 < c ∨ (55296 ≤ c ∧ c ≤ 57343) := by unfold scB; rw [decide_eq_false_iff_not]; omega
theorem surB_iff (c : Int) : surB c = true ↔ 55296 ≤ c ∧ c ≤ 57343 := decide_eq_true_iff
theorem surB_not (c : Int) : surB c = false ↔ ¬ (55296 ≤ c ∧ c ≤ 57343) := decide_eq_false_iff_not
theorem sc_of {c : Int} (h0 : 0 ≤ c) (h1 : c ≤ 1114111) : (!surB c) = scB c := by
  rw [Bool.eq_iff_iff]; unfold scB surB; simp; omega
theorem max_if (m x : Int) : (if m < x then x else m) = max m x := by split <;> omega
def planeI (c : Int) : Int := if scB c = true then c / 65536 else -1
def mendI (c : Int) : Int := if scB c = true then c else 65533
def endB (c : Int) : Bool := decide (c = 13 ∨ c = 10 ∨ c = 0)
def plainB (c : Int) : Bool := decide (32 ≤ c ∧ c ≤ 126)
/-- The place of the first number of which f holds, or -1. -/
def idxI (f : Int → Bool) (xs : List Int) : Int := match xs.findIdx? f with | some i => (i : Int) | none => -1
def mostI (xs : List Int) : Int := xs.foldl max 0
def checkI (xs : List Int) : Int := if xs.all scB = true then (if xs.any endB = true then 8 else 0) else 7

theorem none_yes {f : Int → Bool} {xs : List Int} {k : Nat} {x : Int} (h : xs.take (k + 1) = xs.take k ++ [x]) (hn : (xs.take k).any f = false) (hf : f x = false) : (xs.take (k + 1)).any f = false := by
  rw [h, List.any_append, hn]; simp [hf]
theorem any_hit {f : Int → Bool} {xs : List Int} {k : Nat} {x : Int} (h : xs[k]? = some x) (hf : f x = true) : xs.any f = true := by
  rw [List.any_eq_true]; exact ⟨x, List.mem_of_getElem? h, hf⟩
theorem idx_none {f : Int → Bool} {xs : List Int} (h : xs.any f = false) : idxI f xs = -1 := by
  unfold idxI
  have : xs.findIdx? f = none := by
    rw [List.findIdx?_eq_none_iff]
    intro x hx
    rw [List.any_eq_false] at h
    simpa using h x hx
  rw [this]
theorem idx_hit {f : Int → Bool} {xs : List Int} {k : Nat} {x : Int} (h : xs[k]? = some x) (hn : (xs.take k).any f = false) (hf : f x = true) : idxI f xs = k := by
  unfold idxI
  have hk : k < xs.length := (List.getElem?_eq_some_iff.1 h).1
  have hx : xs[k] = x := (List.getElem?_eq_some_iff.1 h).2
  have : xs.findIdx? f = some k := by
    rw [List.findIdx?_eq_some_iff_getElem]
    refine ⟨hk, by rw [hx]; exact hf, fun j hj => ?_⟩
    rw [List.any_eq_false] at hn
    have hm : xs[j] ∈ xs.take k := by
      rw [List.mem_take_iff_getElem]
      exact ⟨j, by omega, rfl⟩
    have := hn _ hm
    simpa using this
  rw [this]
theorem idx_bd (f : Int → Bool) (xs : List Int) : -1 ≤ idxI f xs ∧ idxI f xs ≤ xs.length := by
  unfold idxI
  cases h : xs.findIdx? f with
  | none => simp
  | some i =>
    rw [List.findIdx?_eq_some_iff_getElem] at h
    obtain ⟨h, _⟩ := h
    simp; omega
theorem idx_neg (f : Int → Bool) (xs : List Int) : decide (idxI f xs < 0) = xs.all (fun c => !f c) := by
  unfold idxI
  cases h : xs.findIdx? f with
  | none =>
    rw [List.findIdx?_eq_none_iff] at h
    have : xs.all (fun c => !f c) = true := by rw [List.all_eq_true]; intro x hx; simp [h x hx]
    rw [this]; simp
  | some i =>
    rw [List.findIdx?_eq_some_iff_getElem] at h
    obtain ⟨hi, h1, _⟩ := h
    have : xs.all (fun c => !f c) = false := by rw [List.all_eq_false]; exact ⟨xs[i], List.getElem_mem hi, by simp [h1]⟩
    rw [this]; simp
theorem idx_pos (f : Int → Bool) (xs : List Int) : decide (0 ≤ idxI f xs) = xs.any f := by
  have h := idx_neg f xs
  have e : xs.all (fun c => !f c) = !xs.any f := by simp [List.all_eq_not_any_not]
  rw [e] at h
  rw [show decide (0 ≤ idxI f xs) = !decide (idxI f xs < 0) by rw [Bool.eq_iff_iff]; simp, h]; simp
theorem most_snoc {xs : List Int} {k : Nat} {x : Int} (h : xs.take (k + 1) = xs.take k ++ [x]) : mostI (xs.take (k + 1)) = max (mostI (xs.take k)) x := by
  rw [h]; simp [mostI]
theorem most_bd : ∀ (xs : List Int) (m : Int), 0 ≤ m → m ≤ 2147483647 → (∀ x ∈ xs, x ≤ 2147483647) → 0 ≤ xs.foldl max m ∧ xs.foldl max m ≤ 2147483647
  | [], m, h0, h1, _ => ⟨h0, h1⟩
  | x :: xs, m, h0, h1, h => by
    have hx := h x (List.mem_cons_self)
    exact most_bd xs (max m x) (by omega) (by omega) (fun y hy => h y (List.mem_cons_of_mem _ hy))
theorem mostI_bd {w : World} {a : Option Addr} {len cap : Nat} {xs : List Int} (h : Reads .i32 w a len cap xs) (k : Nat) : 0 ≤ mostI (xs.take k) ∧ mostI (xs.take k) ≤ 2147483647 :=
  most_bd _ 0 (by omega) (by omega) (fun x hx => (wf_r (h.wf x (List.mem_of_mem_take hx))).2)
theorem mend_bd (c : Int) (h0 : -2147483648 ≤ c) (h1 : c ≤ 2147483647) : (Lit.int .i32 (mendI c)).wf = true := by
  unfold mendI; split
  · exact mk_r h0 h1
  · exact mk_r (by omega) (by omega)
theorem mend_sc (c : Int) : scB (mendI c) = true := by
  unfold mendI; split
  · assumption
  · decide
theorem mend_right (xs : List Int) : (xs.map mendI).all scB = true := by
  rw [List.all_eq_true]; intro x hx
  obtain ⟨y, _, rfl⟩ := List.mem_map.1 hx
  exact mend_sc y
theorem mend_of {y : Int} (h : scB y = true) : mendI y = y := by unfold mendI; rw [if_pos h]
theorem mend_mend (xs : List Int) : (xs.map mendI).map mendI = xs.map mendI := by
  rw [List.map_map]
  exact List.map_congr_left fun x _ => mend_of (mend_sc x)
theorem mend_self (xs : List Int) : xs.all scB = decide (xs.map mendI = xs) := by
  rw [Bool.eq_iff_iff, decide_eq_true_iff, List.all_eq_true]
  constructor
  · intro h
    have : xs.map mendI = xs.map id := List.map_congr_left fun x hx => by unfold mendI; rw [if_pos (h x hx)]; rfl
    simpa using this
  · intro h x hx
    rw [← h] at hx
    obtain ⟨y, _, rfl⟩ := List.mem_map.1 hx
    exact mend_sc y
theorem map_wfR {xs : List Int} (f : Int → Int) (hf : ∀ x, -2147483648 ≤ x → x ≤ 2147483647 → (Lit.int .i32 (f x)).wf = true) (h : ∀ x ∈ xs, (Lit.int .i32 x).wf = true) (x : Int) (hx : x ∈ xs.map f) : (Lit.int .i32 x).wf = true := by
  obtain ⟨y, hy, rfl⟩ := List.mem_map.1 hx
  exact hf y (wf_r (h y hy)).1 (wf_r (h y hy)).2

end Go.Proofs.YtefhddbbiheadaaGreat

/-! First -/
namespace Go.Proofs.YtefhddbbiheadaaGreat
open Go.RowKit
set_option linter.unusedVariables false

theorem ret_ii {k k2 : IntKind} {a b c d : Int} (h : a = b) (h' : c = d) : Ending.returned (.tuple #[.int k a, .int k2 c]) = .returned (.tuple #[.int k b, .int k2 d]) := by rw [h, h']
theorem own_mono {k : IntKind} {e : TypeId} {base base' : Nat} {w : World} {v : Value} {xs : List Int} (h : Own k e base w v xs) (hb : base' ≤ base) : Own k e base' w v xs := by
  refine ⟨⟨h.1.1, ?_⟩, h.2⟩
  rcases h.1.2 with h' | ⟨g, cap, cur, h1, h2, h3⟩
  · exact .inl h'
  · exact .inr ⟨g, cap, cur, h1, Nat.le_trans hb h2, h3⟩
/-- A slice's length, for a measure. -/
def lenV : Value → Nat | .slice _ n _ => n | _ => 0
/-- The first of 1 .. m that a test holds of; 0: none. -/
def first1 (f : Int → Bool) (m : Nat) : Int := match (List.range m).find? (fun n : Nat => f ((n : Int) + 1)) with | some n => (n : Int) + 1 | none => 0
theorem first1_hit {f : Int → Bool} {m k : Nat} (hk : k < m) (hf : f ((k : Int) + 1) = true) (hn : ∀ j : Nat, j < k → f ((j : Int) + 1) = false) : first1 f m = (k : Int) + 1 := by
  unfold first1
  have : (List.range m).find? (fun n : Nat => f ((n : Int) + 1)) = some k := by
    rw [List.find?_range_eq_some]
    exact ⟨hf, by simpa using hk, fun j hj => by simp [hn j hj]⟩
  rw [this]
theorem first1_no {f : Int → Bool} {m : Nat} (hn : ∀ j : Nat, j < m → f ((j : Int) + 1) = false) : first1 f m = 0 := by
  unfold first1
  have : (List.range m).find? (fun n : Nat => f ((n : Int) + 1)) = none := by
    rw [List.find?_range_eq_none]
    exact fun j hj => by simp [hn j hj]
  rw [this]
theorem first1_zero {f : Int → Bool} {m : Nat} (h : first1 f m = 0) : ∀ j : Nat, j < m → f ((j : Int) + 1) = false := by
  unfold first1 at h
  cases hf : (List.range m).find? (fun n : Nat => f ((n : Int) + 1)) with
  | none =>
    rw [List.find?_range_eq_none] at hf
    intro j hj
    have := hf j hj
    simpa using this
  | some k =>
    rw [hf] at h
    exfalso
    have : (k : Int) + 1 = 0 := h
    omega
theorem first1_some {f : Int → Bool} {m : Nat} (h : first1 f m ≠ 0) : ∃ k : Nat, k < m ∧ first1 f m = (k : Int) + 1 ∧ f ((k : Int) + 1) = true ∧ ∀ j : Nat, j < k → f ((j : Int) + 1) = false := by
  unfold first1 at h ⊢
  cases hf : (List.range m).find? (fun n : Nat => f ((n : Int) + 1)) with
  | none => rw [hf] at h; exact absurd rfl h
  | some k =>
    rw [List.find?_range_eq_some] at hf
    obtain ⟨h1, h2, h3⟩ := hf
    exact ⟨k, by simpa using h2, rfl, h1, fun j hj => by have := h3 j hj; simpa using this⟩
end Go.Proofs.YtefhddbbiheadaaGreat

/-! D11 -/
namespace Go.Proofs.YtefhddbbiheadaaGreat
open Go.RowKit
set_option linter.unusedVariables false

/-- A charset's names (of none: nothing), the first one is told; a transfer encoding's name. -/
def nm11 (n : Int) : List ByteArray :=
  if n = 1 then [⟨#[117, 115, 45, 97, 115, 99, 105, 105]⟩, ⟨#[97, 115, 99, 105, 105]⟩, ⟨#[97, 110, 115, 105, 95, 120, 51, 46, 52, 45, 49, 57, 54, 56]⟩, ⟨#[105, 115, 111, 54, 52, 54, 45, 117, 115]⟩]
  else if n = 2 then [⟨#[105, 115, 111, 45, 56, 56, 53, 57, 45, 49]⟩, ⟨#[105, 115, 111, 95, 56, 56, 53, 57, 45, 49]⟩, ⟨#[108, 97, 116, 105, 110, 49]⟩, ⟨#[108, 49]⟩]
  else if n = 3 then [⟨#[105, 115, 111, 45, 56, 56, 53, 57, 45, 49, 53]⟩, ⟨#[105, 115, 111, 95, 56, 56, 53, 57, 45, 49, 53]⟩, ⟨#[108, 97, 116, 105, 110, 45, 57]⟩]
  else if n = 4 then [⟨#[119, 105, 110, 100, 111, 119, 115, 45, 49, 50, 53, 50]⟩, ⟨#[99, 112, 49, 50, 53, 50]⟩]
  else if n = 5 then [⟨#[117, 116, 102, 45, 56]⟩, ⟨#[117, 116, 102, 56]⟩]
  else []
def cd11 (n : Int) : ByteArray :=
  if n = 1 then ⟨#[55, 98, 105, 116]⟩ else if n = 2 then ⟨#[113, 117, 111, 116, 101, 100, 45, 112, 114, 105, 110, 116, 97, 98, 108, 101]⟩ else if n = 3 then ⟨#[98, 97, 115, 101, 54, 52]⟩ else ⟨#[]⟩
def hasN (b : ByteArray) (n : Int) : Bool := (nm11 n).any (fun s => decide (s = b))
def csN (b : ByteArray) : Int := first1 (hasN b) 5
def csNE (b : ByteArray) : Int := if csN b = 0 then 10 else 0
def cdN (b : ByteArray) : Int := first1 (fun n => decide (b = cd11 n)) 3
def cdNE (b : ByteArray) : Int := if cdN b = 0 then 11 else 0
/-- Without a language, and blanks at the ends; folded, as a string. -/
def noStar (x : Int) : Bool := decide (x ≠ 42)
def bareL (xs : List Int) : List Int := trimL (isB 2) (xs.takeWhile noStar)
def keyB (xs : List Int) : ByteArray := strB ((bareL xs).map lowI)
def keyC (xs : List Int) : ByteArray := strB ((trimL (isB 2) xs).map lowI)

theorem cs_hit {b : ByteArray} {k : Nat} (hk : k < 5) (hb : hasN b ((k : Int) + 1) = true) (hn : ∀ j : Nat, j < k → hasN b ((j : Int) + 1) = false) : csN b = (k : Int) + 1 ∧ csNE b = 0 := by
  have h : csN b = (k : Int) + 1 := first1_hit hk hb hn
  refine ⟨h, ?_⟩
  unfold csNE
  rw [h, if_neg (by omega)]
theorem cs_no {b : ByteArray} (hn : ∀ j : Nat, j < 5 → hasN b ((j : Int) + 1) = false) : csN b = 0 ∧ csNE b = 10 := by
  have h : csN b = 0 := first1_no hn
  refine ⟨h, ?_⟩
  unfold csNE
  rw [h, if_pos rfl]
theorem cd_hit {b : ByteArray} {k : Nat} (hk : k < 3) (hb : b = cd11 ((k : Int) + 1)) (hn : ∀ j : Nat, j < k → ¬ b = cd11 ((j : Int) + 1)) : cdN b = (k : Int) + 1 ∧ cdNE b = 0 := by
  have h : cdN b = (k : Int) + 1 := first1_hit hk (decide_eq_true hb) (fun j hj => decide_eq_false (hn j hj))
  refine ⟨h, ?_⟩
  unfold cdNE
  rw [h, if_neg (by omega)]
theorem cd_no {b : ByteArray} (hn : ∀ j : Nat, j < 3 → ¬ b = cd11 ((j : Int) + 1)) : cdN b = 0 ∧ cdNE b = 11 := by
  have h : cdN b = 0 := first1_no (fun j hj => decide_eq_false (hn j hj))
  refine ⟨h, ?_⟩
  unfold cdNE
  rw [h, if_pos rfl]
/-- Strings compared, as the walk leaves it. -/
theorem str_yes {s b : ByteArray} (h : s = b) : (s.toList == b.toList) = true := by rw [h]; simp
theorem str_no {s b : ByteArray} (h : ¬ s = b) : (s.toList == b.toList) = false := by
  rw [beq_eq_false_iff_ne]
  intro he
  rw [Go.ByteArray.toList_eq, Go.ByteArray.toList_eq] at he
  exact h (ByteArray.ext (Array.toList_inj.1 he))
/-- The first k of a row of strings are none of them b. -/
theorem strs_on {ss : List ByteArray} {b s : ByteArray} {k : Nat} (hs : ss[k]? = some s) (hn : (ss.take k).any (fun s => decide (s = b)) = false) (h : ¬ s = b) : (ss.take (k + 1)).any (fun s => decide (s = b)) = false := by
  have hk : k < ss.length := (List.getElem?_eq_some_iff.1 hs).1
  rw [List.getElem?_eq_getElem hk] at hs
  rw [List.take_succ_eq_append_getElem hk, List.any_append, hn, Option.some.inj hs]
  simp [h]
theorem strs_hit {ss : List ByteArray} {b s : ByteArray} {k : Nat} (hs : ss[k]? = some s) (h : s = b) : ss.any (fun s => decide (s = b)) = true := by
  rw [List.any_eq_true]
  exact ⟨s, List.mem_of_getElem? hs, decide_eq_true h⟩
theorem strs_end {ss : List ByteArray} {b : ByteArray} {k : Nat} (hk : ss.length ≤ k) (hn : (ss.take k).any (fun s => decide (s = b)) = false) : ss.any (fun s => decide (s = b)) = false := by
  rwa [List.take_of_length_le hk] at hn
theorem trim_le (f : Int → Bool) (xs : List Int) : (trimL f xs).length ≤ xs.length := by
  unfold trimL
  simp only [List.length_drop, List.length_take]
  omega
theorem bare_le (xs : List Int) : (bareL xs).length ≤ xs.length := Nat.le_trans (trim_le _ _) (List.takeWhile_sublist _).length_le
theorem nm_len (n : Int) : (nm11 n).length ≤ 4 := by
  unfold nm11
  repeat' split
  all_goals decide

/-- A row of strings that is read. -/
def Txts (w : World) (a : Option Addr) (ss : List ByteArray) : Prop := ∀ i s, ss[i]? = some s → ∃ b off, a = some ⟨b, off, none⟩ ∧ b < w.heap.size ∧ w.cell? ⟨b, off + i, none⟩ = some (.string s)
theorem Txts.lit (w : World) (e : TypeId) (ss : List ByteArray) : Txts (w.alloc (.cells (ss.map Value.string).toArray e)) (some ⟨w.heap.size, 0, none⟩) ss := by
  intro i s hs
  have hb : (w.alloc (.cells (ss.map Value.string).toArray e)).heap[w.heap.size]? = some (.cells (ss.map Value.string).toArray e) := heap_alloc_new w _
  refine ⟨_, _, rfl, by simp, ?_⟩
  rw [cell_of_row _ _ _ _ _ _ hb]
  simp [hs]
theorem Txts.below {w w' : World} {a : Option Addr} {ss : List ByteArray} (h : Txts w a ss) (hb : Below w.heap.size w w') : Txts w' a ss := by
  intro i s hs
  obtain ⟨b, off, ha, hl, hc⟩ := h i s hs
  exact ⟨b, off, ha, Nat.lt_of_lt_of_le hl hb.size, by rw [hb.cell hl]; exact hc⟩
theorem Txts.none (w : World) (a : Option Addr) : Txts w a [] := by
  intro i s hs
  simp at hs
end Go.Proofs.YtefhddbbiheadaaGreat

/-! D08 -/
namespace Go.Proofs.YtefhddbbiheadaaGreat
open Go.RowKit
set_option linter.unusedVariables false

/-- The first octet whose sign is c. -/
def putN (sg : Int → Int) (c : Int) : Option Nat := (List.range 256).find? (fun n => decide (sg n = c ∧ c ≠ 65533))
def hasI (sg : Int → Int) (c : Int) : Bool := (putN sg c).isSome
def putI (sg : Int → Int) (c : Int) : Int := match putN sg c with | some n => (n : Int) | none => 0
/-- A text's octets, the error. -/
def csL (sg : Int → Int) (xs : List Int) : List Int := if xs.all (hasI sg) = true then xs.map (putI sg) else []
def csE (sg : Int → Int) (xs : List Int) : Int := if xs.all (hasI sg) = true then 0 else 9

theorem put_hit {sg : Int → Int} {c : Int} {k : Nat} (hk : k < 256) (hs : sg k = c) (hc : c ≠ 65533) (hn : ∀ j : Nat, j < k → ¬ (sg j = c ∧ c ≠ 65533)) : putN sg c = some k := by
  unfold putN
  rw [List.find?_range_eq_some]
  exact ⟨by simp [hs, hc], by simpa using hk, fun j hj => by rw [decide_eq_false (hn j hj)]; rfl⟩
theorem put_none {sg : Int → Int} {c : Int} (hn : ∀ j : Nat, j < 256 → ¬ (sg j = c ∧ c ≠ 65533)) : putN sg c = none := by
  unfold putN
  rw [List.find?_range_eq_none]
  exact fun j hj => by rw [decide_eq_false (hn j hj)]; rfl
theorem put_some {sg : Int → Int} {c : Int} {k : Nat} (h : putN sg c = some k) : k < 256 ∧ sg k = c ∧ c ≠ 65533 := by
  unfold putN at h
  rw [List.find?_range_eq_some] at h
  obtain ⟨h1, h2, _⟩ := h
  have h1' := of_decide_eq_true h1
  exact ⟨by simpa using h2, h1'.1, h1'.2⟩
theorem put_bd (sg : Int → Int) (c : Int) : 0 ≤ putI sg c ∧ putI sg c ≤ 255 := by
  unfold putI
  cases h : putN sg c with
  | none => simp
  | some k => have := (put_some h).1; simp only []; omega
theorem put_wf (sg : Int → Int) (c : Int) : (Lit.int .u8 (putI sg c)).wf = true := mk_u8 (put_bd sg c).1 (put_bd sg c).2
/-- What is laid is read. -/
theorem put_sg {sg : Int → Int} {c : Int} (h : hasI sg c = true) : sg (putI sg c) = c ∧ c ≠ 65533 := by
  unfold hasI at h
  unfold putI
  cases hp : putN sg c with
  | none => rw [hp] at h; cases h
  | some k => exact (put_some hp).2
theorem put_of {sg : Int → Int} {c : Int} {k : Nat} (h : putN sg c = some k) : putI sg c = k ∧ hasI sg c = true := by
  unfold putI hasI; rw [h]; exact ⟨rfl, rfl⟩
theorem put_no {sg : Int → Int} {c : Int} (h : putN sg c = none) : putI sg c = 0 ∧ hasI sg c = false := by
  unfold putI hasI; rw [h]; exact ⟨rfl, rfl⟩
theorem putI_no {sg : Int → Int} {c : Int} (h : hasI sg c = false) : putI sg c = 0 := by
  unfold hasI at h
  cases hp : putN sg c with
  | none => exact (put_no hp).1
  | some k => rw [hp] at h; cases h
/-- No two octets have one sign. -/
def Once (sg : Int → Int) : Prop := ∀ n : Nat, n < 256 → sg n ≠ 65533 → putN sg (sg n) = some n
theorem once_put {sg : Int → Int} (ho : Once sg) {x : Int} (h0 : 0 ≤ x) (h1 : x ≤ 255) (h : sg x ≠ 65533) : putI sg (sg x) = x ∧ hasI sg (sg x) = true := by
  have := ho x.toNat (by omega)
  rw [show ((x.toNat : Nat) : Int) = x by omega] at this
  have h2 := put_of (this h)
  rw [show ((x.toNat : Nat) : Int) = x by omega] at h2
  exact h2
theorem cs_read {sg : Int → Int} {xs : List Int} (h : xs.all (hasI sg) = true) : (xs.map (putI sg)).map sg = xs := by
  rw [List.map_map]
  have : xs.map (sg ∘ putI sg) = xs.map id := List.map_congr_left fun x hx => (put_sg (List.all_eq_true.1 h x hx)).1
  simpa using this
theorem cs_lack (sg : Int → Int) (xs : List Int) : decide (idxI (fun c => !hasI sg c) xs < 0) = xs.all (hasI sg) := by
  rw [idx_neg]; simp
theorem cs_back {sg : Int → Int} (ho : Once sg) {xs : List Int} (hx : ∀ x ∈ xs, (Lit.int .u8 x).wf = true) (h : (xs.map sg).any (fun c => decide (c = 65533)) = false) : (xs.map sg).all (hasI sg) = true ∧ (xs.map sg).map (putI sg) = xs := by
  have h' : ∀ x ∈ xs, sg x ≠ 65533 := by
    intro x hx' he
    rw [List.any_eq_false] at h
    have := h (sg x) (List.mem_map_of_mem hx')
    simp [he] at this
  have hq : ∀ x ∈ xs, putI sg (sg x) = x ∧ hasI sg (sg x) = true := fun x hm => once_put ho (wf_u8 (hx x hm)).1 (wf_u8 (hx x hm)).2 (h' x hm)
  constructor
  · rw [List.all_eq_true]
    intro y hy
    obtain ⟨x, hm, rfl⟩ := List.mem_map.1 hy
    exact (hq x hm).2
  · rw [List.map_map]
    have : xs.map (putI sg ∘ sg) = xs.map id := List.map_congr_left fun x hm => (hq x hm).1
    simpa using this

/-- ISO-8859-1. -/
def sg08 (x : Int) : Int := x
theorem once08 : Once sg08 := fun n hn h => put_hit hn rfl h fun j hj h2 => by
  have := h2.1
  simp only [sg08] at this
  omega
theorem sg08_wf (x : Int) (h0 : 0 ≤ x) (h1 : x ≤ 255) : (Lit.int .i32 (sg08 x)).wf = true := mk_r (by unfold sg08; omega) (by unfold sg08; omega)
theorem put08 (c : Int) (h0 : 0 ≤ c) (h1 : c < 256) : putI sg08 c = c ∧ hasI sg08 c = true :=
  once_put once08 (x := c) h0 (by omega) (by unfold sg08; omega)
theorem no08 (c : Int) (h : ¬ (0 ≤ c ∧ c < 256)) : hasI sg08 c = false := by
  refine (put_no (put_none fun j hj h2 => h ?_)).2
  have := h2.1
  simp only [sg08] at this
  omega
theorem has08 (c : Int) : hasI sg08 c = decide (0 ≤ c ∧ c < 256) := by
  by_cases h : 0 ≤ c ∧ c < 256
  · rw [(put08 c h.1 h.2).2, decide_eq_true h]
  · rw [no08 c h, decide_eq_false h]

end Go.Proofs.YtefhddbbiheadaaGreat

/-! D09 -/
namespace Go.Proofs.YtefhddbbiheadaaGreat
open Go.RowKit
set_option linter.unusedVariables false

def sg09 (x : Int) : Int := if x = 164 then 8364 else if x = 166 then 352 else if x = 168 then 353 else if x = 180 then 381 else if x = 184 then 382 else if x = 188 then 338 else if x = 189 then 339 else if x = 190 then 376 else x
theorem sg09_bd (x : Int) (h0 : 0 ≤ x) (h1 : x ≤ 255) : 0 ≤ sg09 x ∧ sg09 x ≤ 8364 := by
  unfold sg09
  repeat' split
  all_goals omega
theorem sg09_wf (x : Int) (h0 : 0 ≤ x) (h1 : x ≤ 255) : (Lit.int .i32 (sg09 x)).wf = true := mk_r (by have := sg09_bd x h0 h1; omega) (by have := sg09_bd x h0 h1; omega)
set_option maxRecDepth 100000 in
theorem once09 : Once sg09 := by
  have h : ∀ n : Fin 256, putN sg09 (sg09 (n.val : Int)) = some n.val := by decide +kernel
  intro n hn _
  exact h ⟨n, hn⟩

end Go.Proofs.YtefhddbbiheadaaGreat
