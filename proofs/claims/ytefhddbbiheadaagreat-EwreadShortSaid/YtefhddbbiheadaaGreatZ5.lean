/-
  Texts of ours laid together: D04.
-/
import Derived.Test.YtefhddbbiheadaaGreatZ4

/-! D04 -/
namespace Go.Proofs.YtefhddbbiheadaaGreat
open Go.RowKit
set_option linter.unusedVariables false

/-- The first element: where it lies. -/
theorem Reads.head8 {w : World} {a : Option Addr} {len cap : Nat} {x : Int} {r : List Int} (h : Reads .u8 w a len cap (x :: r)) :
    ∃ b off, a = some ⟨b, off, none⟩ ∧ b < w.heap.size ∧ w.cell? ⟨b, off, none⟩ = some (.int .u8 x) ∧ 0 ≤ x ∧ x ≤ 255 := by
  have hl : 0 < len := by have := h.size; simp at this; omega
  obtain ⟨b, off, y, rfl, hb, hc, h0, h1, hx⟩ := h.get8 hl
  obtain rfl : x = y := by have := hx.out.1; simpa using this
  exact ⟨b, off, rfl, hb, by simpa using hc, h0, h1⟩

/-- How many octets a number has; which. -/
def lenI (c : Int) : Nat := if scB c = true then (if c < 128 then 1 else if c < 2048 then 2 else if c < 65536 then 3 else 4) else 0
def octs (c : Int) : List Int :=
  if scB c = true then
    (if c < 128 then [c] else if c < 2048 then [192 + c / 64, 128 + c % 64] else if c < 65536 then [224 + c / 4096, 128 + c / 64 % 64, 128 + c % 64]
     else [240 + c / 262144, 128 + c / 4096 % 64, 128 + c / 64 % 64, 128 + c % 64])
  else []
theorem octs_len (c : Int) : (octs c).length = lenI c := by
  unfold octs lenI; (repeat' split) <;> rfl
theorem len_pos (c : Int) : (0 < lenI c) ↔ scB c = true := by
  unfold lenI; split
  · (repeat' split) <;> simp_all
  · simp_all
theorem lenI_le (c : Int) : lenI c ≤ 4 := by unfold lenI; (repeat' split) <;> omega
theorem octs_wf (c : Int) : ∀ x ∈ octs c, (Lit.int .u8 x).wf = true := by
  intro x hx
  unfold octs at hx
  split at hx
  · rename_i h
    have := (scB_iff c).1 h
    (repeat' split at hx) <;> simp only [List.mem_cons, List.not_mem_nil, or_false] at hx
    · subst hx; exact mk_u8 (by omega) (by omega)
    · rcases hx with rfl | rfl <;> exact mk_u8 (by omega) (by omega)
    · rcases hx with rfl | rfl | rfl <;> exact mk_u8 (by omega) (by omega)
    · rcases hx with rfl | rfl | rfl | rfl <;> exact mk_u8 (by omega) (by omega)
  · cases hx

/-- How many octets begin so; does an octet follow; may it stand there. -/
def startN (a : Int) : Nat := if a < 128 then 1 else if a < 194 then 0 else if a < 224 then 2 else if a < 240 then 3 else if a ≤ 244 then 4 else 0
def folB (y : Int) : Bool := decide (128 ≤ y ∧ y ≤ 191)
def loU (a : Int) : Int := if a = 224 then 160 else if a = 240 then 144 else 128
def hiU (a : Int) : Int := if a = 237 then 159 else if a = 244 then 143 else 191
def okU (a : Int) (i : Nat) (y : Int) : Bool := if i = 1 then decide (loU a ≤ y ∧ y ≤ hiU a) else folB y
def runU (a : Int) : Nat → List Int → Nat
  | _, [] => 0
  | i, y :: r => if i < startN a ∧ okU a i y = true then 1 + runU a (i + 1) r else 0
/-- How many octets are well formed so far. -/
def farN : List Int → Nat
  | [] => 0
  | a :: r => if startN a = 0 then 0 else 1 + runU a 1 r
def markI (n : Nat) : Int := if n = 2 then 192 else if n = 3 then 224 else if n = 4 then 240 else 0
def accU (c : Int) (ys : List Int) : Int := ys.foldl (fun c y => 64 * c + (y - 128)) c
/-- The bits of the octets that are well formed so far. -/
def topU (a : Int) (r : List Int) (k : Nat) : Int := accU (a - markI (startN a)) (r.take (k - 1))
def whole (xs : List Int) : Bool := decide (xs.head?.map startN = some (farN xs) ∧ 0 < farN xs)
def takC (xs : List Int) : Int := if whole xs = true then topU (xs.headD 0) xs.tail (farN xs) else 0
def takN (xs : List Int) : Nat := if xs = [] then 0 else max (farN xs) 1
def takE (xs : List Int) : Int := if whole xs = true then 0 else if farN xs = xs.length then 4 else 3
def subN (xs : List Int) : Nat := if takE xs = 0 then 0 else takN xs

theorem startN_le (a : Int) : startN a ≤ 4 := by unfold startN; (repeat' split) <;> omega
theorem run_step {a : Int} {r : List Int} {k : Nat} {y : Int} (hk : 1 ≤ k) (hy : r[k - 1]? = some y) (h1 : k < startN a) (h2 : okU a k y = true) :
    k + runU a k (r.drop (k - 1)) = (k + 1) + runU a (k + 1) (r.drop (k + 1 - 1)) := by
  have hl : k - 1 < r.length := (List.getElem?_eq_some_iff.1 hy).1
  have e : r[k - 1] = y := (List.getElem?_eq_some_iff.1 hy).2
  rw [List.drop_eq_getElem_cons hl, e, runU, if_pos ⟨h1, h2⟩, show k - 1 + 1 = k + 1 - 1 by omega]; omega
theorem run_stop {a : Int} {r : List Int} {k : Nat} {y : Int} (hk : 1 ≤ k) (hy : r[k - 1]? = some y) (h : ¬ (k < startN a) ∨ okU a k y = false) :
    k + runU a k (r.drop (k - 1)) = k := by
  have hl : k - 1 < r.length := (List.getElem?_eq_some_iff.1 hy).1
  have e : r[k - 1] = y := (List.getElem?_eq_some_iff.1 hy).2
  have hn : ¬ (k < startN a ∧ okU a k y = true) := by
    rcases h with h | h
    · exact fun hh => h hh.1
    · exact fun hh => by rw [h] at hh; exact absurd hh.2 (by decide)
  rw [List.drop_eq_getElem_cons hl, e, runU, if_neg hn]; rfl
theorem run_end {a : Int} {r : List Int} {k : Nat} (h : r.length ≤ k - 1) : k + runU a k (r.drop (k - 1)) = k := by
  rw [List.drop_of_length_le h]; rfl
theorem run_full {a : Int} {r : List Int} {k : Nat} (h : startN a ≤ k) : k + runU a k (r.drop (k - 1)) = k := by
  cases hr : r.drop (k - 1) with
  | nil => rfl
  | cons y r' => rw [runU, if_neg (by omega)]; rfl
theorem run_le (a : Int) : ∀ (r : List Int) (i : Nat), runU a i r ≤ r.length
  | [], _ => Nat.le_refl _
  | y :: r, i => by
    rw [runU]; split
    · have := run_le a r (i + 1); simp; omega
    · exact Nat.zero_le _
theorem far_le (xs : List Int) : farN xs ≤ xs.length := by
  cases xs with
  | nil => exact Nat.le_refl _
  | cons a r => rw [farN]; split
                · exact Nat.zero_le _
                · have := run_le a r 1; simp; omega
theorem run_max (a : Int) : ∀ (r : List Int) (i : Nat), 1 ≤ startN a → i ≤ startN a → i + runU a i r ≤ startN a
  | [], i, _, h => by simpa [runU] using h
  | y :: r, i, h1, h => by
    rw [runU]; split
    · rename_i hh; have := run_max a r (i + 1) h1 (by omega); omega
    · simpa using h
theorem far_max {a : Int} {r : List Int} : farN (a :: r) ≤ startN a := by
  rw [farN]; split
  · omega
  · exact run_max a r 1 (by omega) (by omega)

theorem run_ok (a : Int) : ∀ (r : List Int) (i j : Nat), j < runU a i r → ∃ y, r[j]? = some y ∧ okU a (i + j) y = true
  | [], _, _, h => by simp [runU] at h
  | y :: r, i, j, h => by
    rw [runU] at h
    split at h
    · rename_i hh
      cases j with
      | zero => exact ⟨y, rfl, by simpa using hh.2⟩
      | succ j =>
        obtain ⟨z, h1, h2⟩ := run_ok a r (i + 1) j (by omega)
        exact ⟨z, by simpa using h1, by rwa [show i + (j + 1) = i + 1 + j by omega]⟩
    · omega
theorem far_ok {a y : Int} {r : List Int} {k : Nat} (hk : 1 ≤ k) (h : k < farN (a :: r)) (hy : r[k - 1]? = some y) : okU a k y = true := by
  rw [farN] at h
  split at h
  · omega
  · obtain ⟨z, h1, h2⟩ := run_ok a r 1 (k - 1) (by omega)
    rw [hy] at h1
    cases h1
    rwa [show 1 + (k - 1) = k by omega] at h2

/-- The bits of what is well formed so far, and of what is left. -/
def shf (l : Nat) : Int := if l = 0 then 1 else if l = 1 then 64 else if l = 2 then 4096 else 262144
def topGood (a : Int) (k : Nat) (t : Int) : Prop := (k = 1 ∧ t = a - markI (startN a)) ∨ (2 ≤ k ∧ lenI (t * shf (startN a - k)) = startN a)

theorem acc_snoc (c : Int) (ys : List Int) (y : Int) : accU c (ys ++ [y]) = 64 * accU c ys + (y - 128) := by simp [accU]
theorem top_one (a : Int) (r : List Int) : topU a r 1 = a - markI (startN a) := by simp [topU, accU]
theorem top_next {a : Int} {r : List Int} {k : Nat} {y : Int} (hk : 1 ≤ k) (h : r.take (k - 1 + 1) = r.take (k - 1) ++ [y]) : topU a r (k + 1) = 64 * topU a r k + (y - 128) := by
  unfold topU
  rw [show k + 1 - 1 = k - 1 + 1 by omega, h, acc_snoc]

/-- The number's length, as arithmetic. -/
theorem lenI_1 {c : Int} : lenI c = 1 ↔ 0 ≤ c ∧ c < 128 := by
  unfold lenI scB; simp only [decide_eq_true_eq]; (repeat' split) <;> omega
theorem lenI_2 {c : Int} : lenI c = 2 ↔ 128 ≤ c ∧ c < 2048 := by
  unfold lenI scB; simp only [decide_eq_true_eq]; (repeat' split) <;> omega
theorem lenI_3 {c : Int} : lenI c = 3 ↔ 2048 ≤ c ∧ c < 65536 ∧ ¬ (55296 ≤ c ∧ c ≤ 57343) := by
  unfold lenI scB; simp only [decide_eq_true_eq]; (repeat' split) <;> omega
theorem lenI_4 {c : Int} : lenI c = 4 ↔ 65536 ≤ c ∧ c ≤ 1114111 := by
  unfold lenI scB; simp only [decide_eq_true_eq]; (repeat' split) <;> omega
theorem start_2 {a : Int} : startN a = 2 ↔ 194 ≤ a ∧ a < 224 := by unfold startN; (repeat' split) <;> omega
theorem start_3 {a : Int} : startN a = 3 ↔ 224 ≤ a ∧ a < 240 := by unfold startN; (repeat' split) <;> omega
theorem start_4 {a : Int} : startN a = 4 ↔ 240 ≤ a ∧ a ≤ 244 := by unfold startN; (repeat' split) <;> omega
theorem start_1 {a : Int} : startN a = 1 ↔ a < 128 := by unfold startN; (repeat' split) <;> omega
theorem fol_iff (y : Int) : folB y = true ↔ 128 ≤ y ∧ y ≤ 191 := decide_eq_true_iff

/-- The program's test of one octet more is the document's. -/
theorem some_iff {a y t : Int} {k : Nat} (hk : 1 ≤ k) (hkw : k < startN a) (hg : topGood a k t) (hy : folB y = true) :
    lenI ((64 * t + (y - 128)) * shf (startN a - k - 1)) = startN a ↔ okU a k y = true := by
  rw [fol_iff] at hy
  have hs := startN_le a
  rcases hg with ⟨rfl, rfl⟩ | ⟨h2, hg⟩
  · have hok : okU a 1 y = true ↔ loU a ≤ y ∧ y ≤ hiU a := by simp [okU]
    rw [hok]
    rcases (show startN a = 2 ∨ startN a = 3 ∨ startN a = 4 by omega) with h | h | h
    · rw [h, show shf (2 - 1 - 1) = 1 by rfl, show markI 2 = 192 by rfl, lenI_2]
      rw [start_2] at h
      unfold loU hiU; (repeat' split) <;> omega
    · rw [h, show shf (3 - 1 - 1) = 64 by rfl, show markI 3 = 224 by rfl, lenI_3]
      rw [start_3] at h
      unfold loU hiU; (repeat' split) <;> omega
    · rw [h, show shf (4 - 1 - 1) = 4096 by rfl, show markI 4 = 240 by rfl, lenI_4]
      rw [start_4] at h
      unfold loU hiU; (repeat' split) <;> omega
  · have hok : okU a k y = true := by unfold okU; rw [if_neg (by omega)]; rw [fol_iff]; exact hy
    rw [hok]
    simp only [iff_true]
    rcases (show (startN a = 3 ∧ k = 2) ∨ (startN a = 4 ∧ k = 2) ∨ (startN a = 4 ∧ k = 3) by omega) with ⟨h, rfl⟩ | ⟨h, rfl⟩ | ⟨h, rfl⟩
    · rw [h, show shf (3 - 2) = 64 by rfl, lenI_3] at hg
      rw [h, show shf (3 - 2 - 1) = 1 by rfl, lenI_3]; omega
    · rw [h, show shf (4 - 2) = 4096 by rfl, lenI_4] at hg
      rw [h, show shf (4 - 2 - 1) = 64 by rfl, lenI_4]; omega
    · rw [h, show shf (4 - 3) = 64 by rfl, lenI_4] at hg
      rw [h, show shf (4 - 3 - 1) = 1 by rfl, lenI_4]; omega
theorem good_next {a y t : Int} {k : Nat} (hk : 1 ≤ k) (hkw : k < startN a) (hg : topGood a k t) (hf : folB y = true) (hy : okU a k y = true) : topGood a (k + 1) (64 * t + (y - 128)) :=
  .inr ⟨by omega, by have := (some_iff hk hkw hg hf).2 hy; rwa [show startN a - (k + 1) = startN a - k - 1 by omega]⟩
theorem ok_fol {a y : Int} {k : Nat} (h : okU a k y = true) : folB y = true := by
  rw [fol_iff]
  unfold okU at h
  split at h
  · rw [decide_eq_true_iff] at h
    unfold loU hiU at h; (repeat' split at h) <;> omega
  · exact (fol_iff y).1 h
theorem good_bd {a t : Int} {k : Nat} (h0 : 0 ≤ a) (hk : 1 ≤ k) (hkw : k ≤ startN a) (hg : topGood a k t) : 0 ≤ t ∧ t ≤ 1114111 ∧ (k < startN a → 0 ≤ t ∧ t ≤ 17407) ∧ (k + 2 ≤ startN a → t ≤ 271) ∧ (k + 3 ≤ startN a → t ≤ 4) := by
  have hs := startN_le a
  rcases hg with ⟨rfl, rfl⟩ | ⟨h2, hg⟩
  · rcases (show startN a = 1 ∨ startN a = 2 ∨ startN a = 3 ∨ startN a = 4 by omega) with h | h | h | h
    · rw [h]; rw [start_1] at h; simp only [markI]; simp; omega
    · rw [h]; rw [start_2] at h; simp only [markI]; simp; omega
    · rw [h]; rw [start_3] at h; simp only [markI]; simp; omega
    · rw [h]; rw [start_4] at h; simp only [markI]; simp; omega
  · rcases (show (startN a = 2 ∧ k = 2) ∨ (startN a = 3 ∧ k = 2) ∨ (startN a = 3 ∧ k = 3) ∨ (startN a = 4 ∧ k = 2) ∨ (startN a = 4 ∧ k = 3) ∨ (startN a = 4 ∧ k = 4) by omega) with ⟨h, rfl⟩ | ⟨h, rfl⟩ | ⟨h, rfl⟩ | ⟨h, rfl⟩ | ⟨h, rfl⟩ | ⟨h, rfl⟩
    · rw [h, show shf (2 - 2) = 1 by rfl, lenI_2] at hg; omega
    · rw [h, show shf (3 - 2) = 64 by rfl, lenI_3] at hg; omega
    · rw [h, show shf (3 - 3) = 1 by rfl, lenI_3] at hg; omega
    · rw [h, show shf (4 - 2) = 4096 by rfl, lenI_4] at hg; omega
    · rw [h, show shf (4 - 3) = 64 by rfl, lenI_4] at hg; omega
    · rw [h, show shf (4 - 4) = 1 by rfl, lenI_4] at hg; omega

theorem tail_get {a y : Int} {r : List Int} {k : Nat} (hk : 1 ≤ k) (h : (a :: r)[k]? = some y) : r[k - 1]? = some y := by
  obtain ⟨k, rfl⟩ : ∃ m, k = m + 1 := ⟨k - 1, by omega⟩
  simpa using h
theorem tail_take {y : Int} {r : List Int} {k : Nat} (h : r[k - 1]? = some y) : r.take (k - 1 + 1) = r.take (k - 1) ++ [y] := by
  have hl := (List.getElem?_eq_some_iff.1 h).1
  have e := (List.getElem?_eq_some_iff.1 h).2
  rw [take_next hl, e]
theorem far_cons {a : Int} {r : List Int} (h : startN a ≠ 0) : farN (a :: r) = 1 + runU a 1 (r.drop (1 - 1)) := by rw [farN, if_neg h]; rfl
theorem far_zero {a : Int} {r : List Int} (h : startN a = 0) : farN (a :: r) = 0 := by rw [farN, if_pos h]
theorem ok_one {a y : Int} : okU a 1 y = true ↔ loU a ≤ y ∧ y ≤ hiU a := by simp [okU]
theorem ok_two {a y : Int} {k : Nat} (hk : k ≠ 1) : okU a k y = true ↔ 128 ≤ y ∧ y ≤ 191 := by unfold okU; rw [if_neg hk, fol_iff]

/-- Take's answers, from the far end. -/
theorem take_of {a : Int} {r : List Int} : whole (a :: r) = decide (startN a = farN (a :: r) ∧ 0 < farN (a :: r)) := by
  unfold whole; simp

theorem take_nil : takC [] = 0 ∧ takN [] = 0 ∧ takE [] = 4 := by decide
theorem take_whole {a : Int} {r : List Int} (h : startN a = farN (a :: r)) (h0 : 0 < farN (a :: r)) : takC (a :: r) = topU a r (farN (a :: r)) ∧ takN (a :: r) = farN (a :: r) ∧ takE (a :: r) = 0 := by
  have hw : whole (a :: r) = true := by rw [take_of]; exact decide_eq_true ⟨h, h0⟩
  refine ⟨by unfold takC; rw [if_pos hw]; rfl, by unfold takN; rw [if_neg (by simp)]; omega, by unfold takE; rw [if_pos hw]⟩
theorem take_part {a : Int} {r : List Int} (h : ¬ (startN a = farN (a :: r) ∧ 0 < farN (a :: r))) (h1 : farN (a :: r) = (a :: r).length) : takC (a :: r) = 0 ∧ takN (a :: r) = farN (a :: r) ∧ takE (a :: r) = 4 := by
  have hw : whole (a :: r) = false := by rw [take_of]; exact decide_eq_false h
  refine ⟨by unfold takC; rw [hw]; rfl, by unfold takN; rw [if_neg (by simp)]; simp at h1; omega, by unfold takE; rw [hw, if_neg (by simp), if_pos h1]⟩
theorem take_form {a : Int} {r : List Int} (h : ¬ (startN a = farN (a :: r) ∧ 0 < farN (a :: r))) (h1 : farN (a :: r) ≠ (a :: r).length) : takC (a :: r) = 0 ∧ takN (a :: r) = max (farN (a :: r)) 1 ∧ takE (a :: r) = 3 := by
  have hw : whole (a :: r) = false := by rw [take_of]; exact decide_eq_false h
  refine ⟨by unfold takC; rw [hw]; rfl, by unfold takN; rw [if_neg (by simp)], by unfold takE; rw [hw, if_neg (by simp), if_neg h1]⟩

end Go.Proofs.YtefhddbbiheadaaGreat
