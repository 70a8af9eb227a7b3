/-
  Layer 1, in plain words: octets and their kinds, texts folded, trimmed.
-/
import Derived.Test.YtdipabcoeloeoaaBase
import Derived.Test.YtdipabcoeloeoaaBase2
namespace Go.Proofs.Ytdipabcoeloeoaa
open Go.RowKit

def lowI (c : Int) : Int := if 65 ≤ c ∧ c ≤ 90 then c + 32 else c
theorem low_bd (c : Int) (h0 : 0 ≤ c) (h1 : c ≤ 255) : 0 ≤ lowI c ∧ lowI c ≤ 255 := by unfold lowI; split <;> omega
def alnumI (c : Int) : Int := if 48 ≤ c ∧ c ≤ 57 then 8 else if 97 ≤ lowI c ∧ lowI c ≤ 122 then 16 else 0
abbrev spS : ByteArray := { data := #[40, 41, 60, 62, 64, 44, 59, 58, 92, 34, 47, 91, 93, 63, 61] }
abbrev noS : ByteArray := { data := #[42, 39, 37] }
abbrev woS : ByteArray := { data := #[33, 42, 43, 45, 47] }
abbrev baS : ByteArray := { data := #[43, 47] }
def synI (c : Int) : Int := if hasB spS c = true then 32 else if hasB noS c = true then 64 else 320
def codI (c : Int) : Int := if (alnumI c != 0) = true then 640 else if hasB woS c = true then (if hasB baS c = true then bits BinOp.or IntKind.i64 (bits BinOp.or IntKind.i64 0 128) 512 else bits BinOp.or IntKind.i64 0 128) else (if hasB baS c = true then bits BinOp.or IntKind.i64 0 512 else 0)
def kindI (c : Int) : Int := if c = 9 then 3 else if c = 32 then 2 else if c < 32 ∨ c = 127 then 1 else if 127 < c then 0 else
  bits BinOp.or IntKind.i64 (bits BinOp.or IntKind.i64 (bits BinOp.or IntKind.i64 4 (alnumI c)) (synI c)) (codI c)
/-- Is an octet of one of some kinds? -/
def isB (kinds c : Int) : Bool := bits BinOp.and IntKind.i64 (kindI c) kinds != 0
def cntI (f : Int → Bool) (xs : List Int) : Int := ((xs.filter f).length : Nat)
theorem cnt_nil (f : Int → Bool) : cntI f [] = 0 := rfl
theorem cnt_bd (f : Int → Bool) (xs : List Int) (k : Nat) : 0 ≤ cntI f (xs.take k) ∧ cntI f (xs.take k) ≤ k := by
  unfold cntI
  have h1 := List.length_filter_le f (xs.take k)
  have h2 := List.length_take_le k xs
  omega
theorem cnt_yes {f : Int → Bool} {xs : List Int} {k : Nat} {x : Int} (h : xs.take (k + 1) = xs.take k ++ [x]) (hf : f x = true) : cntI f (xs.take (k + 1)) = cntI f (xs.take k) + 1 := by
  rw [h]; simp [cntI, List.filter_append, hf]
theorem cnt_no {f : Int → Bool} {xs : List Int} {k : Nat} {x : Int} (h : xs.take (k + 1) = xs.take k ++ [x]) (hf : f x = false) : cntI f (xs.take (k + 1)) = cntI f (xs.take k) := by
  rw [h]; simp [cntI, List.filter_append, hf]
theorem all_yes {f : Int → Bool} {xs : List Int} {k : Nat} {x : Int} (h : xs.take (k + 1) = xs.take k ++ [x]) (hn : (xs.take k).all f = true) (hf : f x = true) : (xs.take (k + 1)).all f = true := by
  rw [h, List.all_append, hn]; simp [hf]
theorem all_no {f : Int → Bool} {xs : List Int} {k : Nat} {x : Int} (h : xs[k]? = some x) (hf : f x = false) : xs.all f = false := by
  rw [List.all_eq_false]; exact ⟨x, List.mem_of_getElem? h, by simp [hf]⟩
theorem eq_no {xs ys : List Int} {k : Nat} {x y : Int} (hx : xs[k]? = some x) (hy : ys[k]? = some y) (h : (x != y) = true) : decide (xs = ys) = false := by
  rw [decide_eq_false_iff_not]
  rintro rfl
  rw [hx] at hy
  cases hy
  simp at h
theorem eq_len {xs ys : List Int} (h : xs.length ≠ ys.length) : decide (xs = ys) = false := by
  rw [decide_eq_false_iff_not]
  rintro rfl
  exact h rfl
theorem eq_yes {xs ys : List Int} {k : Nat} {x y : Int} (hx : xs.take (k + 1) = xs.take k ++ [x]) (hy : ys.take (k + 1) = ys.take k ++ [y]) (hn : xs.take k = ys.take k) (h : (x != y) = false) : xs.take (k + 1) = ys.take (k + 1) := by
  rw [hx, hy, hn, show x = y by simpa using h]
theorem map_take_wf {xs : List Int} (f : Int → Int) (hf : ∀ x, 0 ≤ x → x ≤ 255 → (Lit.int .u8 (f x)).wf = true) (h : ∀ x ∈ xs, (Lit.int .u8 x).wf = true) (x : Int) (hx : x ∈ xs.map f) : (Lit.int .u8 x).wf = true := by
  obtain ⟨y, hy, rfl⟩ := List.mem_map.1 hx
  exact hf y (wf_u8 (h y hy)).1 (wf_u8 (h y hy)).2
theorem low_wf (x : Int) (h0 : 0 ≤ x) (h1 : x ≤ 255) : (Lit.int .u8 (lowI x)).wf = true := mk_u8 (low_bd x h0 h1).1 (low_bd x h0 h1).2
/-- A row that is filled from the front. -/
def fill (f : Int → Int) (xs : List Int) (k : Nat) : List Int := (xs.take k).map f ++ List.replicate (xs.length - k) 0
theorem fill_len (f : Int → Int) (xs : List Int) (k : Nat) (h : k ≤ xs.length) : (fill f xs k).length = xs.length := by simp [fill]; omega
theorem fill_zero (f : Int → Int) (xs : List Int) : fill f xs 0 = List.replicate xs.length 0 := by simp [fill]
theorem fill_all (f : Int → Int) (xs : List Int) (k : Nat) (h : xs.length ≤ k) : fill f xs k = xs.map f := by simp [fill, List.take_of_length_le h, show xs.length - k = 0 by omega]
theorem fill_set (f : Int → Int) {xs : List Int} {k : Nat} {x : Int} (hk : k < xs.length) (h : xs.take (k + 1) = xs.take k ++ [x]) : (fill f xs k).set k (f x) = fill f xs (k + 1) := by
  unfold fill
  rw [h, List.set_append_right _ _ (by simp; omega)]
  have e : xs.length - k = (xs.length - (k + 1)) + 1 := by omega
  rw [e, List.replicate_succ]
  simp [show k - min k xs.length = 0 by omega]
def frontN (f : Int → Bool) (xs : List Int) : Nat := (xs.takeWhile f).length
def backN (f : Int → Bool) (xs : List Int) (a : Nat) : Nat → Nat
  | 0 => 0
  | n + 1 => if a < n + 1 ∧ f (xs.getD n 0) = true then backN f xs a n else n + 1
def trimL (f : Int → Bool) (xs : List Int) : List Int := (xs.take (backN f xs (frontN f xs) xs.length)).drop (frontN f xs)
theorem front_step {f : Int → Bool} {xs : List Int} {k : Nat} {x : Int} (hx : xs[k]? = some x) (hf : f x = true) : ((xs.drop k).takeWhile f).length = ((xs.drop (k + 1)).takeWhile f).length + 1 := by
  have hk : k < xs.length := (List.getElem?_eq_some_iff.1 hx).1
  have e : xs[k] = x := (List.getElem?_eq_some_iff.1 hx).2
  rw [List.drop_eq_getElem_cons hk, e]; simp [hf]
theorem front_stop {f : Int → Bool} {xs : List Int} {k : Nat} {x : Int} (hx : xs[k]? = some x) (hf : f x = false) : ((xs.drop k).takeWhile f).length = 0 := by
  have hk : k < xs.length := (List.getElem?_eq_some_iff.1 hx).1
  have e : xs[k] = x := (List.getElem?_eq_some_iff.1 hx).2
  rw [List.drop_eq_getElem_cons hk, e]; simp [hf]
theorem front_end {f : Int → Bool} {xs : List Int} {k : Nat} (h : xs.length ≤ k) : ((xs.drop k).takeWhile f).length = 0 := by
  rw [List.drop_of_length_le h]; rfl
theorem back_step {f : Int → Bool} {xs : List Int} {a m : Nat} {x : Int} (h : a < m) (hx : xs[m - 1]? = some x) (hf : f x = true) : backN f xs a m = backN f xs a (m - 1) := by
  obtain ⟨m, rfl⟩ : ∃ j, m = j + 1 := ⟨m - 1, by omega⟩
  simp only [Nat.add_sub_cancel] at hx ⊢
  rw [backN, if_pos ⟨h, by rw [List.getD_eq_getElem?_getD, hx]; exact hf⟩]
theorem back_stop {f : Int → Bool} {xs : List Int} {a m : Nat} {x : Int} (h : a < m) (hx : xs[m - 1]? = some x) (hf : f x = false) : backN f xs a m = m := by
  obtain ⟨m, rfl⟩ : ∃ j, m = j + 1 := ⟨m - 1, by omega⟩
  simp only [Nat.add_sub_cancel] at hx
  rw [backN, if_neg (fun hh => by rw [List.getD_eq_getElem?_getD, hx] at hh; simp [hf] at hh)]
theorem back_end {f : Int → Bool} {xs : List Int} {a m : Nat} (h : m ≤ a) : backN f xs a m = m := by
  cases m with
  | zero => rfl
  | succ m => rw [backN, if_neg (fun hh => by omega)]
theorem same_no {xs ys : List Int} {k : Nat} {x y : Int} (hx : xs[k]? = some x) (hy : ys[k]? = some y) (h : (lowI x != lowI y) = true) : decide (xs.map lowI = ys.map lowI) = false := by
  refine eq_no (k := k) (x := lowI x) (y := lowI y) ?_ ?_ h <;> simp [hx, hy]
theorem same_yes {xs ys : List Int} {k : Nat} {x y : Int} (hx : xs.take (k + 1) = xs.take k ++ [x]) (hy : ys.take (k + 1) = ys.take k ++ [y]) (hn : (xs.take k).map lowI = (ys.take k).map lowI) (h : (lowI x != lowI y) = false) : (xs.take (k + 1)).map lowI = (ys.take (k + 1)).map lowI := by
  rw [hx, hy, List.map_append, List.map_append, hn]; simp; simpa using h

end Go.Proofs.Ytdipabcoeloeoaa
