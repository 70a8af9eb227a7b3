/-
  Layer 22, in plain words: texts as UTF-7.
-/
import Derived.Test.YtobjdamlmaaidaaDoorD06
import Derived.Test.YtobjdamlmaaidaaDoorD14
namespace Go.Proofs.YtobjdamlmaaidaaDoor
open Go.RowKit
set_option linter.unusedVariables false

def dirT : List Int := [39, 40, 41, 44, 45, 46, 47, 58, 63, 32, 9, 13, 10]
def dirB (c : Int) : Bool := decide (65 ≤ c ∧ c ≤ 90) || decide (97 ≤ c ∧ c ≤ 122) || decide (48 ≤ c ∧ c ≤ 57) || dirT.any (fun x => decide (x = c))
def codU (t : List Int) : List Int := if t.all scB = true then bareB (ocU (unL t)) else []
/-- A run is closed (none: nothing is laid); what is laid, behind a run that is open. -/
def closeU (run : List Int) : List Int := if run = [] then [] else 43 :: (codU run ++ [45])
def layU : List Int → List Int → List Int
  | [], run => closeU run
  | c :: r, run => if dirB c = true then closeU run ++ (c :: layU r []) else if run = [] ∧ c = 43 then 43 :: 45 :: layU r [] else layU r (run ++ [c])
def runN : List Int → Bool → Nat
  | [], _ => 0
  | c :: r, b => if dirB c = true then runN r false else if b = false ∧ c ≠ 43 then 1 + runN r true else runN r b
theorem runN_le : ∀ (xs : List Int) (b : Bool), runN xs b ≤ xs.length
  | [], _ => Nat.le_refl _
  | c :: r, b => by
    have h1 := runN_le r false
    have h2 := runN_le r true
    have h3 := runN_le r b
    rw [runN, List.length_cons]
    split
    · omega
    · split <;> omega
def sevB (x : Int) : Bool := decide (x ≤ 126) && (decide (32 ≤ x) || decide (x = 9) || decide (x = 10) || decide (x = 13))
def lay7 (t : List Int) : List Int := if t.all scB = true then layU t [] else []
def lay7E (t : List Int) : Int := if t.all scB = true then 0 else 7

theorem dir_bd {c : Int} (h : dirB c = true) : 9 ≤ c ∧ c ≤ 122 := by
  unfold dirB dirT at h
  simp only [List.any_cons, List.any_nil, Bool.or_eq_true, decide_eq_true_eq, Bool.or_false] at h
  omega
theorem dir_sev {c : Int} (h : dirB c = true) : sevB c = true := by
  unfold dirB dirT at h
  simp only [List.any_cons, List.any_nil, Bool.or_eq_true, decide_eq_true_eq, Bool.or_false] at h
  unfold sevB
  simp only [Bool.and_eq_true, Bool.or_eq_true, decide_eq_true_eq]
  omega
theorem dir_sc {c : Int} (h : dirB c = true) : scB c = true := by
  have := dir_bd h
  exact (scB_iff c).2 (by omega)
theorem layU_run : ∀ (u rest acc : List Int), (∀ x ∈ u, dirB x = false) → acc ≠ [] → layU (u ++ rest) acc = layU rest (acc ++ u)
  | [], rest, acc, _, _ => by simp
  | x :: u, rest, acc, h, ha => by
    have hx := h x (List.mem_cons_self ..)
    rw [List.cons_append, layU, if_neg (by rw [hx]; decide), if_neg (fun hh => ha hh.1), layU_run u rest (acc ++ [x]) (fun y hy => h y (List.mem_cons_of_mem _ hy)) (by simp)]
    simp
/-- A run stops ahead of a direct sign, or at the end. -/
def stopU (r : List Int) : Prop := r = [] ∨ ∃ c s, r = c :: s ∧ dirB c = true
theorem layU_stop {rest acc : List Int} (h : stopU rest) : layU rest acc = closeU acc ++ layU rest [] := by
  rcases h with rfl | ⟨c, s, rfl, hc⟩
  · simp [layU, closeU]
  · rw [layU, layU, if_pos hc, if_pos hc]; rfl
theorem layU_one {u rest : List Int} {x : Int} (hx : dirB x = false) (h43 : x ≠ 43) (hu : ∀ y ∈ u, dirB y = false) (h : stopU rest) : layU (x :: (u ++ rest)) [] = 43 :: (codU (x :: u) ++ (45 :: layU rest [])) := by
  rw [layU, if_neg (by rw [hx]; decide), if_neg (fun hh => h43 hh.2), List.nil_append, layU_run u rest [x] hu (by simp), layU_stop h]
  unfold closeU
  rw [if_neg (by simp)]
  simp
theorem layU_dir {c : Int} (h : dirB c = true) (r : List Int) : layU (c :: r) [] = c :: layU r [] := by
  rw [layU, if_pos h]; rfl
theorem layU_plus (r : List Int) : layU (43 :: r) [] = 43 :: 45 :: layU r [] := by
  rw [layU, if_neg (by decide), if_pos ⟨rfl, rfl⟩]
/-- A text of direct signs is itself, and has no run (P22.3). -/
theorem layU_all : ∀ {t : List Int}, t.all dirB = true → layU t [] = t ∧ runN t false = 0
  | [], _ => ⟨rfl, rfl⟩
  | c :: t, h => by
    simp only [List.all_cons, Bool.and_eq_true] at h
    have ih := layU_all h.2
    rw [layU_dir h.1, ih.1, runN, if_pos h.1]
    exact ⟨rfl, ih.2⟩
theorem sev_dig : ∀ n : Fin 64, sevB (dg64 (n.val : Int)) = true := by decide +kernel
theorem bare_sev {xs : List Int} (hb : ∀ v ∈ v64 xs, V6 v) : (bareB xs).all sevB = true := by
  unfold bareB
  rw [List.all_map, List.all_eq_true]
  intro v hv
  have h := hb v hv
  have := sev_dig ⟨v.toNat, by have := h.1; have := h.2; omega⟩
  rwa [show ((⟨v.toNat, by have := h.1; have := h.2; omega⟩ : Fin 64).val : Int) = v by simp; have := h.1; omega] at this
end Go.Proofs.YtobjdamlmaaidaaDoor
