/-
  Layer 3, in plain words: scalar values, surrogates, texts.
-/
import Derived.Test.YtdipabcoeloeoaaD01
namespace Go.Proofs.Ytdipabcoeloeoaa
open Go.RowKit
set_option linter.unusedVariables false

theorem wf_r {x : Int} (h : (Lit.int .i32 x).wf = true) : -2147483648 ≤ x ∧ x ≤ 2147483647 := bounds_i32 h
theorem mk_r {x : Int} (h0 : -2147483648 ≤ x) (h1 : x ≤ 2147483647) : (Lit.int .i32 x).wf = true := WalkArith.wf_i32 (by omega)
theorem Reads.getR {w : World} {a : Option Addr} {len cap : Nat} {xs : List Int} (h : Reads .i32 w a len cap xs) {i : Nat} (hi : i < len) :
    ∃ b off x, a = some ⟨b, off, none⟩ ∧ b < w.heap.size ∧ w.cell? ⟨b, off + i, none⟩ = some (.int .i32 x) ∧ -2147483648 ≤ x ∧ x ≤ 2147483647 ∧ Hid (xs[i]? = some x ∧ xs.take (i + 1) = xs.take i ++ [x]) := by
  obtain ⟨b, off, x, ha, hb, hc, hx⟩ := h.get hi
  obtain ⟨h1, h2, h3⟩ := hx.out
  exact ⟨b, off, x, ha, hb, hc, (wf_r h3).1, (wf_r h3).2, h1, h2⟩

/-- A surrogate, a scalar value. -/
def surB (c : Int) : Bool := decide (55296 ≤ c ∧ c ≤ 57343)
def scB (c : Int) : Bool := decide (0 ≤ c ∧ c ≤ 1114111 ∧ ¬ (55296 ≤ c ∧ c ≤ 57343))
theorem scB_iff (c : Int) : scB c = true ↔ 0 ≤ c ∧ c ≤ 1114111 ∧ ¬ (55296 ≤ c ∧ c ≤ 57343) := decide_eq_true_iff
theorem scB_not (c : Int) : scB c = false ↔ c < 0 ∨ 1114111 < c ∨ (55296 ≤ c ∧ c ≤ 57343) := by unfold scB; rw [decide_eq_false_iff_not]; omega
theorem surB_iff (c : Int) : surB c = true ↔ 55296 ≤ c ∧ c ≤ 57343 := decide_eq_true_iff
theorem surB_not (c : Int) : surB c = false ↔ ¬ (55296 ≤ c ∧ c ≤ 57343) := decide_eq_false_iff_not
theorem sc_of {c : Int} (h0 : 0 ≤ c) (h1 : c ≤ 1114111) : (!surB c) = scB c := by
  rw [Bool.eq_iff_iff]; unfold scB surB; simp; omega
theorem max_if (m x : Int) : (if m < x then x else m) = max m x := by split <;> omega
def planeI (c : Int) : Int := if scB c = true then c / 65536 else -1
def mendI (c : Int) : Int := if scB c = true then c else 65533
def endB (c : Int) : Bool := decide (c = 13 ∨ c = 10 ∨ c = 0)
def plainB (c : Int) : Bool := decide (32 ≤ c ∧ c ≤ 126)
/-- The place of the first number of which f holds, or -1. -/
def idxI (f : Int → Bool) (xs : List Int) : Int := match xs.findIdx? f with | some i => (i : Int) | none => -1
def mostI (xs : List Int) : Int := xs.foldl max 0
def checkI (xs : List Int) : Int := if xs.all scB = true then (if xs.any endB = true then 8 else 0) else 7

theorem none_yes {f : Int → Bool} {xs : List Int} {k : Nat} {x : Int} (h : xs.take (k + 1) = xs.take k ++ [x]) (hn : (xs.take k).any f = false) (hf : f x = false) : (xs.take (k + 1)).any f = false := by
  rw [h, List.any_append, hn]; simp [hf]
theorem any_hit {f : Int → Bool} {xs : List Int} {k : Nat} {x : Int} (h : xs[k]? = some x) (hf : f x = true) : xs.any f = true := by
  rw [List.any_eq_true]; exact ⟨x, List.mem_of_getElem? h, hf⟩
theorem idx_none {f : Int → Bool} {xs : List Int} (h : xs.any f = false) : idxI f xs = -1 := by
  unfold idxI
  have : xs.findIdx? f = none := by
    rw [List.findIdx?_eq_none_iff]
    intro x hx
    rw [List.any_eq_false] at h
    simpa using h x hx
  rw [this]
theorem idx_hit {f : Int → Bool} {xs : List Int} {k : Nat} {x : Int} (h : xs[k]? = some x) (hn : (xs.take k).any f = false) (hf : f x = true) : idxI f xs = k := by
  unfold idxI
  have hk : k < xs.length := (List.getElem?_eq_some_iff.1 h).1
  have hx : xs[k] = x := (List.getElem?_eq_some_iff.1 h).2
  have : xs.findIdx? f = some k := by
    rw [List.findIdx?_eq_some_iff_getElem]
    refine ⟨hk, by rw [hx]; exact hf, fun j hj => ?_⟩
    rw [List.any_eq_false] at hn
    have hm : xs[j] ∈ xs.take k := by
      rw [List.mem_take_iff_getElem]
      exact ⟨j, by omega, rfl⟩
    have := hn _ hm
    simpa using this
  rw [this]
theorem idx_bd (f : Int → Bool) (xs : List Int) : -1 ≤ idxI f xs ∧ idxI f xs ≤ xs.length := by
  unfold idxI
  cases h : xs.findIdx? f with
  | none => simp
  | some i =>
    rw [List.findIdx?_eq_some_iff_getElem] at h
    obtain ⟨h, _⟩ := h
    simp; omega
theorem idx_neg (f : Int → Bool) (xs : List Int) : decide (idxI f xs < 0) = xs.all (fun c => !f c) := by
  unfold idxI
  cases h : xs.findIdx? f with
  | none =>
    rw [List.findIdx?_eq_none_iff] at h
    have : xs.all (fun c => !f c) = true := by rw [List.all_eq_true]; intro x hx; simp [h x hx]
    rw [this]; simp
  | some i =>
    rw [List.findIdx?_eq_some_iff_getElem] at h
    obtain ⟨hi, h1, _⟩ := h
    have : xs.all (fun c => !f c) = false := by rw [List.all_eq_false]; exact ⟨xs[i], List.getElem_mem hi, by simp [h1]⟩
    rw [this]; simp
theorem idx_pos (f : Int → Bool) (xs : List Int) : decide (0 ≤ idxI f xs) = xs.any f := by
  have h := idx_neg f xs
  have e : xs.all (fun c => !f c) = !xs.any f := by simp [List.all_eq_not_any_not]
  rw [e] at h
  rw [show decide (0 ≤ idxI f xs) = !decide (idxI f xs < 0) by rw [Bool.eq_iff_iff]; simp, h]; simp
theorem most_snoc {xs : List Int} {k : Nat} {x : Int} (h : xs.take (k + 1) = xs.take k ++ [x]) : mostI (xs.take (k + 1)) = max (mostI (xs.take k)) x := by
  rw [h]; simp [mostI]
theorem most_bd : ∀ (xs : List Int) (m : Int), 0 ≤ m → m ≤ 2147483647 → (∀ x ∈ xs, x ≤ 2147483647) → 0 ≤ xs.foldl max m ∧ xs.foldl max m ≤ 2147483647
  | [], m, h0, h1, _ => ⟨h0, h1⟩
  | x :: xs, m, h0, h1, h => by
    have hx := h x (List.mem_cons_self)
    exact most_bd xs (max m x) (by omega) (by omega) (fun y hy => h y (List.mem_cons_of_mem _ hy))
theorem mostI_bd {w : World} {a : Option Addr} {len cap : Nat} {xs : List Int} (h : Reads .i32 w a len cap xs) (k : Nat) : 0 ≤ mostI (xs.take k) ∧ mostI (xs.take k) ≤ 2147483647 :=
  most_bd _ 0 (by omega) (by omega) (fun x hx => (wf_r (h.wf x (List.mem_of_mem_take hx))).2)
theorem mend_bd (c : Int) (h0 : -2147483648 ≤ c) (h1 : c ≤ 2147483647) : (Lit.int .i32 (mendI c)).wf = true := by
  unfold mendI; split
  · exact mk_r h0 h1
  · exact mk_r (by omega) (by omega)
theorem mend_sc (c : Int) : scB (mendI c) = true := by
  unfold mendI; split
  · assumption
  · decide
theorem mend_right (xs : List Int) : (xs.map mendI).all scB = true := by
  rw [List.all_eq_true]; intro x hx
  obtain ⟨y, _, rfl⟩ := List.mem_map.1 hx
  exact mend_sc y
theorem mend_of {y : Int} (h : scB y = true) : mendI y = y := by unfold mendI; rw [if_pos h]
theorem mend_mend (xs : List Int) : (xs.map mendI).map mendI = xs.map mendI := by
  rw [List.map_map]
  exact List.map_congr_left fun x _ => mend_of (mend_sc x)
theorem mend_self (xs : List Int) : xs.all scB = decide (xs.map mendI = xs) := by
  rw [Bool.eq_iff_iff, decide_eq_true_iff, List.all_eq_true]
  constructor
  · intro h
    have : xs.map mendI = xs.map id := List.map_congr_left fun x hx => by unfold mendI; rw [if_pos (h x hx)]; rfl
    simpa using this
  · intro h x hx
    rw [← h] at hx
    obtain ⟨y, _, rfl⟩ := List.mem_map.1 hx
    exact mend_sc y
theorem map_wfR {xs : List Int} (f : Int → Int) (hf : ∀ x, -2147483648 ≤ x → x ≤ 2147483647 → (Lit.int .i32 (f x)).wf = true) (h : ∀ x ∈ xs, (Lit.int .i32 x).wf = true) (x : Int) (hx : x ∈ xs.map f) : (Lit.int .i32 x).wf = true := by
  obtain ⟨y, hy, rfl⟩ := List.mem_map.1 hx
  exact hf y (wf_r (h y hy)).1 (wf_r (h y hy)).2

end Go.Proofs.Ytdipabcoeloeoaa
