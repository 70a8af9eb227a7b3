/-
  Layer 17, in plain words: Base64 of mailboxes' names.
-/
import Derived.Test.YtnbhheahfmknfaaDoorD14b
namespace Go.Proofs.YtnbhheahfmknfaaDoor
open Go.RowKit
set_option linter.unusedVariables false

def turnI (a b x : Int) : Int := if x = a then b else x
def turnL (a b : Int) (xs : List Int) : List Int := xs.map (turnI a b)
def valM (c : Int) : Int := if c = 44 then 63 else if c = 47 then 0 else valI c
def isM (c : Int) : Bool := if c = 44 then true else if c = 47 then false else isDig c
def layM (xs : List Int) : List Int := turnL 47 44 (bareB xs)
def lenM (n : Int) : Int := if n < 1 then 0 else n / 3 * 4 + (if n % 3 = 0 then 0 else if n % 3 = 1 then 2 else 3)
def modE (xs : List Int) : Int := if xs.all isM = true then (if xs.length % 4 = 1 then 4 else if ok64 ((turnL 44 47 xs).map valI) = true then 0 else 3) else 3
def modL (xs : List Int) : List Int := if modE xs = 0 then rd64 ((turnL 44 47 xs).map valI) else []

theorem turn_wf {a b : Int} (hb : 0 ≤ b ∧ b ≤ 255) {x : Int} (h0 : 0 ≤ x) (h1 : x ≤ 255) : (Lit.int .u8 (turnI a b x)).wf = true := by
  unfold turnI; split
  · exact mk_u8 hb.1 hb.2
  · exact mk_u8 h0 h1
theorem val_44 : valN 44 = none := by decide +kernel
theorem val_47 : valN 47 = some 63 := by decide +kernel
/-- A digit of the modified code is the usual one's. -/
theorem isM_dig {c : Int} (h : isM c = true) : isDig (turnI 44 47 c) = true ∧ valI (turnI 44 47 c) = valM c := by
  unfold isM at h
  unfold turnI valM
  by_cases h1 : c = 44
  · rw [if_pos h1, if_pos h1]
    have := val_of val_47
    exact ⟨this.2.2.2, this.2.2.1⟩
  · rw [if_neg h1] at h ⊢
    by_cases h2 : c = 47
    · rw [if_pos h2] at h; cases h
    · rw [if_neg h2] at h
      rw [if_neg h1, if_neg h2]
      exact ⟨h, rfl⟩
theorem turnL_dig {xs : List Int} (h : xs.all isM = true) : (turnL 44 47 xs).all isDig = true := by
  unfold turnL
  rw [List.all_map, List.all_eq_true]
  exact fun x hx => (isM_dig (List.all_eq_true.1 h x hx)).1
theorem turnV6 (xs : List Int) : ∀ v ∈ (turnL 44 47 xs).map valI, V6 v := by
  intro v hv
  obtain ⟨c, _, rfl⟩ := List.mem_map.1 hv
  exact val_bd c
/-- A usual digit, turned and turned back. -/
theorem turn_back {c : Int} (h : isDig c = true) : turnI 44 47 (turnI 47 44 c) = c ∧ isM (turnI 47 44 c) = true := by
  unfold turnI isM
  by_cases h1 : c = 47
  · rw [if_pos h1, if_pos rfl, if_pos rfl]; exact ⟨h1.symm, rfl⟩
  · rw [if_neg h1]
    have h4 : c ≠ 44 := by
      rintro rfl
      have := (val_no val_44).2
      rw [this] at h; cases h
    rw [if_neg h4, if_neg h4, if_neg h1]
    exact ⟨rfl, h⟩
theorem turn_fore {c : Int} (h : isM c = true) : turnI 47 44 (turnI 44 47 c) = c := by
  unfold isM at h
  unfold turnI
  by_cases h1 : c = 44
  · rw [if_pos h1, if_pos rfl]; exact h1.symm
  · rw [if_neg h1] at h ⊢
    by_cases h2 : c = 47
    · rw [if_pos h2] at h; cases h
    · rw [if_neg h2]
/-- What is laid is read (P17.3). -/
theorem mod_lay {xs : List Int} (h : ∀ x ∈ xs, O8 x) : modE (layM xs) = 0 ∧ modL (layM xs) = xs := by
  have hd := bare_dig h
  have hr := rd_v64 xs h
  have ht : turnL 44 47 (layM xs) = bareB xs := by
    unfold layM turnL
    rw [List.map_map]
    conv => rhs; rw [← List.map_id (bareB xs)]
    exact List.map_congr_left fun c hc => (turn_back (List.all_eq_true.1 hd.1 c hc)).1
  have ha : (layM xs).all isM = true := by
    unfold layM turnL
    rw [List.all_map, List.all_eq_true]
    exact fun c hc => (turn_back (List.all_eq_true.1 hd.1 c hc)).2
  have hl : (layM xs).length % 4 ≠ 1 := by
    unfold layM turnL bareB
    rw [List.length_map, List.length_map]
    exact v64_mod xs
  have e : modE (layM xs) = 0 := by unfold modE; rw [if_pos ha, if_neg hl, ht, hd.2, if_pos hr.2]
  exact ⟨e, by unfold modL; rw [if_pos e, ht, hd.2, hr.1]⟩
/-- What is read is laid as the same. -/
theorem lay_mod {s : List Int} (h : modE s = 0) : layM (modL s) = s := by
  have h' := h
  unfold modE at h
  split at h
  · rename_i h1
    split at h
    · omega
    · rename_i h2
      split at h
      · rename_i h3
        have hd := turnL_dig h1
        have hb : bareB (modL s) = turnL 44 47 s := by
          unfold bareB modL
          rw [if_pos h', v_rd64 _ (turnV6 s) h3 (by rw [List.length_map]; unfold turnL; rw [List.length_map]; exact h2), List.map_map]
          conv => rhs; rw [← List.map_id (turnL 44 47 s)]
          exact List.map_congr_left fun c hc => dig_of_val (List.all_eq_true.1 hd c hc)
        unfold layM
        rw [hb]
        unfold turnL
        rw [List.map_map]
        conv => rhs; rw [← List.map_id s]
        exact List.map_congr_left fun c hc => turn_fore (List.all_eq_true.1 h1 c hc)
      · omega
  · omega
theorem mod_no {s : List Int} (h : modE s ≠ 0) : modL s = [] := by unfold modL; rw [if_neg h]
end Go.Proofs.YtnbhheahfmknfaaDoor
