/-
  Layer 11, in plain words: the names of charsets and of transfer encodings.
-/
import Derived.Test.YtffjiidegnblbaaD01
import Derived.Test.YtffjiidegnblbaaD03
import Derived.Test.YtffjiidegnblbaaBase2
import Derived.Test.YtffjiidegnblbaaFirst
namespace Go.Proofs.Ytffjiidegnblbaa
open Go.RowKit
set_option linter.unusedVariables false

/-- A charset's names (of none: nothing), the first one is told; a transfer encoding's name. -/
def nm11 (n : Int) : List ByteArray :=
  if n = 1 then [⟨#[117, 115, 45, 97, 115, 99, 105, 105]⟩, ⟨#[97, 115, 99, 105, 105]⟩, ⟨#[97, 110, 115, 105, 95, 120, 51, 46, 52, 45, 49, 57, 54, 56]⟩, ⟨#[105, 115, 111, 54, 52, 54, 45, 117, 115]⟩]
  else if n = 2 then [⟨#[105, 115, 111, 45, 56, 56, 53, 57, 45, 49]⟩, ⟨#[105, 115, 111, 95, 56, 56, 53, 57, 45, 49]⟩, ⟨#[108, 97, 116, 105, 110, 49]⟩, ⟨#[108, 49]⟩]
  else if n = 3 then [⟨#[105, 115, 111, 45, 56, 56, 53, 57, 45, 49, 53]⟩, ⟨#[105, 115, 111, 95, 56, 56, 53, 57, 45, 49, 53]⟩, ⟨#[108, 97, 116, 105, 110, 45, 57]⟩]
  else if n = 4 then [⟨#[119, 105, 110, 100, 111, 119, 115, 45, 49, 50, 53, 50]⟩, ⟨#[99, 112, 49, 50, 53, 50]⟩]
  else if n = 5 then [⟨#[117, 116, 102, 45, 56]⟩, ⟨#[117, 116, 102, 56]⟩]
  else []
def cd11 (n : Int) : ByteArray :=
  if n = 1 then ⟨#[55, 98, 105, 116]⟩ else if n = 2 then ⟨#[113, 117, 111, 116, 101, 100, 45, 112, 114, 105, 110, 116, 97, 98, 108, 101]⟩ else if n = 3 then ⟨#[98, 97, 115, 101, 54, 52]⟩ else ⟨#[]⟩
def hasN (b : ByteArray) (n : Int) : Bool := (nm11 n).any (fun s => decide (s = b))
def csN (b : ByteArray) : Int := first1 (hasN b) 5
def csNE (b : ByteArray) : Int := if csN b = 0 then 10 else 0
def cdN (b : ByteArray) : Int := first1 (fun n => decide (b = cd11 n)) 3
def cdNE (b : ByteArray) : Int := if cdN b = 0 then 11 else 0
/-- Without a language, and blanks at the ends; folded, as a string. -/
def noStar (x : Int) : Bool := decide (x ≠ 42)
def bareL (xs : List Int) : List Int := trimL (isB 2) (xs.takeWhile noStar)
def keyB (xs : List Int) : ByteArray := strB ((bareL xs).map lowI)
def keyC (xs : List Int) : ByteArray := strB ((trimL (isB 2) xs).map lowI)

theorem cs_hit {b : ByteArray} {k : Nat} (hk : k < 5) (hb : hasN b ((k : Int) + 1) = true) (hn : ∀ j : Nat, j < k → hasN b ((j : Int) + 1) = false) : csN b = (k : Int) + 1 ∧ csNE b = 0 := by
  have h : csN b = (k : Int) + 1 := first1_hit hk hb hn
  refine ⟨h, ?_⟩
  unfold csNE
  rw [h, if_neg (by omega)]
theorem cs_no {b : ByteArray} (hn : ∀ j : Nat, j < 5 → hasN b ((j : Int) + 1) = false) : csN b = 0 ∧ csNE b = 10 := by
  have h : csN b = 0 := first1_no hn
  refine ⟨h, ?_⟩
  unfold csNE
  rw [h, if_pos rfl]
theorem cd_hit {b : ByteArray} {k : Nat} (hk : k < 3) (hb : b = cd11 ((k : Int) + 1)) (hn : ∀ j : Nat, j < k → ¬ b = cd11 ((j : Int) + 1)) : cdN b = (k : Int) + 1 ∧ cdNE b = 0 := by
  have h : cdN b = (k : Int) + 1 := first1_hit hk (decide_eq_true hb) (fun j hj => decide_eq_false (hn j hj))
  refine ⟨h, ?_⟩
  unfold cdNE
  rw [h, if_neg (by omega)]
theorem cd_no {b : ByteArray} (hn : ∀ j : Nat, j < 3 → ¬ b = cd11 ((j : Int) + 1)) : cdN b = 0 ∧ cdNE b = 11 := by
  have h : cdN b = 0 := first1_no (fun j hj => decide_eq_false (hn j hj))
  refine ⟨h, ?_⟩
  unfold cdNE
  rw [h, if_pos rfl]
/-- Strings compared, as the walk leaves it. -/
theorem str_yes {s b : ByteArray} (h : s = b) : (s.toList == b.toList) = true := by rw [h]; simp
theorem str_no {s b : ByteArray} (h : ¬ s = b) : (s.toList == b.toList) = false := by
  rw [beq_eq_false_iff_ne]
  intro he
  rw [Go.ByteArray.toList_eq, Go.ByteArray.toList_eq] at he
  exact h (ByteArray.ext (Array.toList_inj.1 he))
/-- The first k of a row of strings are none of them b. -/
theorem strs_on {ss : List ByteArray} {b s : ByteArray} {k : Nat} (hs : ss[k]? = some s) (hn : (ss.take k).any (fun s => decide (s = b)) = false) (h : ¬ s = b) : (ss.take (k + 1)).any (fun s => decide (s = b)) = false := by
  have hk : k < ss.length := (List.getElem?_eq_some_iff.1 hs).1
  rw [List.getElem?_eq_getElem hk] at hs
  rw [List.take_succ_eq_append_getElem hk, List.any_append, hn, Option.some.inj hs]
  simp [h]
theorem strs_hit {ss : List ByteArray} {b s : ByteArray} {k : Nat} (hs : ss[k]? = some s) (h : s = b) : ss.any (fun s => decide (s = b)) = true := by
  rw [List.any_eq_true]
  exact ⟨s, List.mem_of_getElem? hs, decide_eq_true h⟩
theorem strs_end {ss : List ByteArray} {b : ByteArray} {k : Nat} (hk : ss.length ≤ k) (hn : (ss.take k).any (fun s => decide (s = b)) = false) : ss.any (fun s => decide (s = b)) = false := by
  rwa [List.take_of_length_le hk] at hn
theorem trim_le (f : Int → Bool) (xs : List Int) : (trimL f xs).length ≤ xs.length := by
  unfold trimL
  simp only [List.length_drop, List.length_take]
  omega
theorem bare_le (xs : List Int) : (bareL xs).length ≤ xs.length := Nat.le_trans (trim_le _ _) (List.takeWhile_sublist _).length_le
theorem nm_len (n : Int) : (nm11 n).length ≤ 4 := by
  unfold nm11
  repeat' split
  all_goals decide

/-- A row of strings that is read. -/
def Txts (w : World) (a : Option Addr) (ss : List ByteArray) : Prop := ∀ i s, ss[i]? = some s → ∃ b off, a = some ⟨b, off, none⟩ ∧ b < w.heap.size ∧ w.cell? ⟨b, off + i, none⟩ = some (.string s)
theorem Txts.lit (w : World) (e : TypeId) (ss : List ByteArray) : Txts (w.alloc (.cells (ss.map Value.string).toArray e)) (some ⟨w.heap.size, 0, none⟩) ss := by
  intro i s hs
  have hb : (w.alloc (.cells (ss.map Value.string).toArray e)).heap[w.heap.size]? = some (.cells (ss.map Value.string).toArray e) := heap_alloc_new w _
  refine ⟨_, _, rfl, by simp, ?_⟩
  rw [cell_of_row _ _ _ _ _ _ hb]
  simp [hs]
theorem Txts.below {w w' : World} {a : Option Addr} {ss : List ByteArray} (h : Txts w a ss) (hb : Below w.heap.size w w') : Txts w' a ss := by
  intro i s hs
  obtain ⟨b, off, ha, hl, hc⟩ := h i s hs
  exact ⟨b, off, ha, Nat.lt_of_lt_of_le hl hb.size, by rw [hb.cell hl]; exact hc⟩
theorem Txts.none (w : World) (a : Option Addr) : Txts w a [] := by
  intro i s hs
  simp at hs
end Go.Proofs.Ytffjiidegnblbaa
