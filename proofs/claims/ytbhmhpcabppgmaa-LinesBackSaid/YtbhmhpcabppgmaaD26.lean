/-
  Layer 26, in plain words: octets in lines.
-/
import Derived.Test.YtbhmhpcabppgmaaD18b
namespace Go.Proofs.Ytbhmhpcabppgmaa
open Go.RowKit
set_option linter.unusedVariables false

/-- All lines, each with its end. -/
def linJ (l : List (List Int)) : List Int := l.flatMap fun x => x ++ [13, 10]
/-- How many bare ends there are, behind p. -/
def barC : Int → List Int → Nat
  | _, [] => 0
  | p, x :: r => (if (x = 13 ∧ r.head? ≠ some 10) ∨ (x = 10 ∧ p ≠ 13) then 1 else 0) + barC x r
def lngF (l : List (List Int)) : Int := l.foldl (fun m x => if m < (x.length : Int) then (x.length : Int) else m) 0
def fitL (first most : Int) (l : List (List Int)) : Bool := l.all (fun x => decide ((x.length : Int) ≤ most)) && (match l.head? with | none => true | some x => decide ((x.length : Int) ≤ most - first))
def fitB (s : List Int) (first most : Int) : Bool := if first < 0 ∨ most < 0 then false else fitL first most (linL s)
def is0 (x : Int) : Bool := decide (x = 0)
def isHi (x : Int) : Bool := decide (127 < x)
def sevE (s : List Int) (most : Int) : Int := if s.any is0 = true then 8 else if 0 < barC 0 s then 8 else if s.any isHi = true then 9 else if (linL s).any (fun x => decide (most < (x.length : Int))) = true then 12 else 0
def whlL (s : List Int) : List Int := if linE s = true then s else s ++ [13, 10]

theorem linJ_cons (x : List Int) (l : List (List Int)) : linJ (x :: l) = x ++ [13, 10] ++ linJ l := by simp [linJ]
theorem linJ_app (a b : List (List Int)) : linJ (a ++ b) = linJ a ++ linJ b := by simp [linJ]
theorem linJ_snoc {l : List (List Int)} {k : Nat} {x : List Int} (h : l.take (k + 1) = l.take k ++ [x]) : linJ (l.take (k + 1)) = linJ (l.take k) ++ x ++ [13, 10] := by rw [h, linJ_app]; simp [linJ]
theorem linJ_take (l : List (List Int)) (k : Nat) : (linJ (l.take k)).length ≤ (linJ l).length := by
  have h : linJ l = linJ (l.take k) ++ linJ (l.drop k) := by rw [← linJ_app, List.take_append_drop]
  rw [h, List.length_append]
  omega
theorem linJ_mem {l : List (List Int)} {x : List Int} (h : x ∈ l) : x.length ≤ (linJ l).length := by
  induction l with
  | nil => cases h
  | cons y l ih =>
    rw [linJ_cons, List.length_append, List.length_append]
    rcases List.mem_cons.1 h with rfl | h
    · omega
    · have := ih h; omega
theorem linJ_le {l : List (List Int)} {m : Nat} (h : ∀ x ∈ l, x.length ≤ m) : (linJ l).length ≤ l.length * (m + 2) := by
  induction l with
  | nil => simp [linJ]
  | cons y l ih =>
    have h1 := h y (List.mem_cons_self ..)
    have h2 := ih fun x hx => h x (List.mem_cons_of_mem _ hx)
    rw [linJ_cons, List.length_cons, Nat.add_mul]
    simp only [List.length_append, List.length_cons, List.length_nil]
    omega
theorem linJ_linS (s acc : List Int) : linJ (linS s acc) = acc ++ s ++ [13, 10] := by
  induction s, acc using linS.induct with
  | case1 acc => simp [linS, linJ]
  | case2 x acc => simp [linS, linJ]
  | case3 x y r acc h ih =>
    obtain ⟨rfl, rfl⟩ := h
    rw [lin_line, linJ_cons, ih]
    simp
  | case4 x y r acc h ih =>
    rw [linS, if_neg h, ih]
    simp
theorem linE_iff {s : List Int} : linE s = true ↔ ∃ l, linA s = l ++ [[]] := by
  unfold linE
  rw [beq_iff_eq]
  refine ⟨fun h => ?_, fun ⟨l, h⟩ => by rw [h, List.getLast?_concat]⟩
  obtain ⟨l, x, hx⟩ : ∃ l x, linA s = l ++ [x] := ⟨_, _, (List.dropLast_concat_getLast (linS_ne s [])).symm⟩
  rw [hx, List.getLast?_concat] at h
  cases h
  exact ⟨l, hx⟩
/-- Lines that are split are joined to s, whole. -/
theorem join_split (s : List Int) : linJ (linL s) = whlL s := by
  have h := linJ_linS s []
  rw [List.nil_append] at h
  cases hE : linE s
  · unfold linL whlL
    rw [hE, if_neg (by decide), if_neg (by decide)]
    exact h
  · obtain ⟨l, hl⟩ := linE_iff.1 hE
    unfold linL whlL
    rw [hE, if_pos rfl, if_pos rfl, hl, List.dropLast_concat]
    have h2 : linJ (linA s) = s ++ [13, 10] := h
    rw [hl, linJ_app] at h2
    have e : linJ [[]] = [13, 10] := by simp [linJ]
    rw [e] at h2
    exact List.append_cancel_right h2
theorem linS_end (s acc : List Int) : linS (s ++ [13, 10]) acc = linS s acc ++ [[]] := by
  induction s, acc using linS.induct with
  | case1 acc => simp [linS]
  | case2 x acc =>
    rw [List.singleton_append, lin_on acc (by simp), lin_line]
    simp [linS]
  | case3 x y r acc h ih =>
    obtain ⟨rfl, rfl⟩ := h
    rw [lin_line, List.cons_append, List.cons_append, lin_line, ih]
    rfl
  | case4 x y r acc h ih =>
    rw [List.cons_append, lin_on acc (by simpa using h), lin_on acc (by simpa using h), ih]
/-- .. and are split to the same. -/
theorem split_whole (s : List Int) : linL (whlL s) = linL s ∧ linE (whlL s) = true := by
  cases hE : linE s
  · have e : whlL s = s ++ [13, 10] := by unfold whlL; rw [hE, if_neg (by decide)]
    have hA : linA (s ++ [13, 10]) = linA s ++ [[]] := linS_end s []
    have hE2 : linE (s ++ [13, 10]) = true := linE_iff.2 ⟨_, hA⟩
    rw [e]
    refine ⟨?_, hE2⟩
    unfold linL
    rw [hE2, hE, if_pos rfl, if_neg (by decide), hA, List.dropLast_concat]
  · have e : whlL s = s := by unfold whlL; rw [if_pos hE]
    rw [e]
    exact ⟨rfl, hE⟩
theorem linL_len (s : List Int) : (linL s).length ≤ s.length + 1 ∧ ∀ x ∈ linL s, x.length ≤ s.length := by
  have key : ∀ s acc : List Int, (linS s acc).length ≤ s.length + 1 ∧ ∀ x ∈ linS s acc, x.length ≤ acc.length + s.length := by
    intro s acc
    induction s, acc using linS.induct with
    | case1 acc => simp [linS]
    | case2 x acc => simp [linS]
    | case3 x y r acc h ih =>
      obtain ⟨rfl, rfl⟩ := h
      rw [lin_line]
      refine ⟨by simp; omega, fun z hz => ?_⟩
      rcases List.mem_cons.1 hz with rfl | hz
      · simp
      · have := ih.2 z hz; simp at this ⊢; omega
    | case4 x y r acc h ih =>
      rw [linS, if_neg h]
      refine ⟨by have := ih.1; simp at this ⊢; omega, fun z hz => ?_⟩
      have := ih.2 z hz
      simp at this ⊢; omega
  have h := key s []
  have hsub : ∀ x ∈ linL s, x ∈ linA s := by
    intro x hx
    unfold linL at hx
    split at hx
    · exact (List.dropLast_sublist _).subset hx
    · exact hx
  refine ⟨?_, fun x hx => by have := h.2 x (hsub x hx); simpa using this⟩
  unfold linL
  split
  · rw [List.length_dropLast]; have := h.1; unfold linA; omega
  · exact h.1
theorem lng_snoc {l : List (List Int)} {k : Nat} {x : List Int} (h : l.take (k + 1) = l.take k ++ [x]) : lngF (l.take (k + 1)) = if lngF (l.take k) < (x.length : Int) then (x.length : Int) else lngF (l.take k) := by
  unfold lngF; rw [h, List.foldl_append]; rfl
theorem lng_bd {m : Nat} : ∀ l : List (List Int), (∀ x ∈ l, x.length ≤ m) → 0 ≤ lngF l ∧ lngF l ≤ m := by
  have key : ∀ (l : List (List Int)) (a : Int), (∀ x ∈ l, x.length ≤ m) → 0 ≤ a → a ≤ m → 0 ≤ l.foldl (fun m x => if m < (x.length : Int) then (x.length : Int) else m) a ∧ l.foldl (fun m x => if m < (x.length : Int) then (x.length : Int) else m) a ≤ m := by
    intro l
    induction l with
    | nil => intro a _ h0 h1; exact ⟨h0, h1⟩
    | cons y l ih =>
      intro a h h0 h1
      have hy := h y (List.mem_cons_self ..)
      rw [List.foldl_cons]
      refine ih _ (fun x hx => h x (List.mem_cons_of_mem _ hx)) ?_ ?_ <;> (split <;> omega)
  exact fun l h => key l 0 h (Int.le_refl _) (by omega)
theorem barC_le : ∀ (s : List Int) (p : Int), barC p s ≤ s.length
  | [], _ => Nat.le_refl _
  | x :: r, p => by
    have h := barC_le r x
    rw [barC, List.length_cons]
    split <;> omega
theorem whlL_len (s : List Int) : (whlL s).length = s.length + (if linE s = true then 0 else 2) ∧ (whlL s).take s.length = s := by
  unfold whlL
  cases linE s
  · refine ⟨by simp, by simp⟩
  · refine ⟨by simp, by simp⟩
end Go.Proofs.Ytbhmhpcabppgmaa
