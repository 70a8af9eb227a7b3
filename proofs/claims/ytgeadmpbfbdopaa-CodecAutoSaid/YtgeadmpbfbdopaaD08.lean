/-
  Layers 8 to 10, in plain words: a charset of one octet a sign, told by the sign of each octet (65533: it has none); ISO-8859-1.
-/
import Derived.Test.YtgeadmpbfbdopaaD03
namespace Go.Proofs.Ytgeadmpbfbdopaa
open Go.RowKit
set_option linter.unusedVariables false

/-- The first octet whose sign is c. -/
def putN (sg : Int → Int) (c : Int) : Option Nat := (List.range 256).find? (fun n => decide (sg n = c ∧ c ≠ 65533))
def hasI (sg : Int → Int) (c : Int) : Bool := (putN sg c).isSome
def putI (sg : Int → Int) (c : Int) : Int := match putN sg c with | some n => (n : Int) | none => 0
/-- A text's octets, the error. -/
def csL (sg : Int → Int) (xs : List Int) : List Int := if xs.all (hasI sg) = true then xs.map (putI sg) else []
def csE (sg : Int → Int) (xs : List Int) : Int := if xs.all (hasI sg) = true then 0 else 9

theorem put_hit {sg : Int → Int} {c : Int} {k : Nat} (hk : k < 256) (hs : sg k = c) (hc : c ≠ 65533) (hn : ∀ j : Nat, j < k → ¬ (sg j = c ∧ c ≠ 65533)) : putN sg c = some k := by
  unfold putN
  rw [List.find?_range_eq_some]
  exact ⟨by simp [hs, hc], by simpa using hk, fun j hj => by rw [decide_eq_false (hn j hj)]; rfl⟩
theorem put_none {sg : Int → Int} {c : Int} (hn : ∀ j : Nat, j < 256 → ¬ (sg j = c ∧ c ≠ 65533)) : putN sg c = none := by
  unfold putN
  rw [List.find?_range_eq_none]
  exact fun j hj => by rw [decide_eq_false (hn j hj)]; rfl
theorem put_some {sg : Int → Int} {c : Int} {k : Nat} (h : putN sg c = some k) : k < 256 ∧ sg k = c ∧ c ≠ 65533 := by
  unfold putN at h
  rw [List.find?_range_eq_some] at h
  obtain ⟨h1, h2, _⟩ := h
  have h1' := of_decide_eq_true h1
  exact ⟨by simpa using h2, h1'.1, h1'.2⟩
theorem put_bd (sg : Int → Int) (c : Int) : 0 ≤ putI sg c ∧ putI sg c ≤ 255 := by
  unfold putI
  cases h : putN sg c with
  | none => simp
  | some k => have := (put_some h).1; simp only []; omega
theorem put_wf (sg : Int → Int) (c : Int) : (Lit.int .u8 (putI sg c)).wf = true := mk_u8 (put_bd sg c).1 (put_bd sg c).2
/-- What is laid is read. -/
theorem put_sg {sg : Int → Int} {c : Int} (h : hasI sg c = true) : sg (putI sg c) = c ∧ c ≠ 65533 := by
  unfold hasI at h
  unfold putI
  cases hp : putN sg c with
  | none => rw [hp] at h; cases h
  | some k => exact (put_some hp).2
theorem put_of {sg : Int → Int} {c : Int} {k : Nat} (h : putN sg c = some k) : putI sg c = k ∧ hasI sg c = true := by
  unfold putI hasI; rw [h]; exact ⟨rfl, rfl⟩
theorem put_no {sg : Int → Int} {c : Int} (h : putN sg c = none) : putI sg c = 0 ∧ hasI sg c = false := by
  unfold putI hasI; rw [h]; exact ⟨rfl, rfl⟩
theorem putI_no {sg : Int → Int} {c : Int} (h : hasI sg c = false) : putI sg c = 0 := by
  unfold hasI at h
  cases hp : putN sg c with
  | none => exact (put_no hp).1
  | some k => rw [hp] at h; cases h
/-- No two octets have one sign. -/
def Once (sg : Int → Int) : Prop := ∀ n : Nat, n < 256 → sg n ≠ 65533 → putN sg (sg n) = some n
theorem once_put {sg : Int → Int} (ho : Once sg) {x : Int} (h0 : 0 ≤ x) (h1 : x ≤ 255) (h : sg x ≠ 65533) : putI sg (sg x) = x ∧ hasI sg (sg x) = true := by
  have := ho x.toNat (by omega)
  rw [show ((x.toNat : Nat) : Int) = x by omega] at this
  have h2 := put_of (this h)
  rw [show ((x.toNat : Nat) : Int) = x by omega] at h2
  exact h2
theorem cs_read {sg : Int → Int} {xs : List Int} (h : xs.all (hasI sg) = true) : (xs.map (putI sg)).map sg = xs := by
  rw [List.map_map]
  have : xs.map (sg ∘ putI sg) = xs.map id := List.map_congr_left fun x hx => (put_sg (List.all_eq_true.1 h x hx)).1
  simpa using this
theorem cs_lack (sg : Int → Int) (xs : List Int) : decide (idxI (fun c => !hasI sg c) xs < 0) = xs.all (hasI sg) := by
  rw [idx_neg]; simp
theorem cs_back {sg : Int → Int} (ho : Once sg) {xs : List Int} (hx : ∀ x ∈ xs, (Lit.int .u8 x).wf = true) (h : (xs.map sg).any (fun c => decide (c = 65533)) = false) : (xs.map sg).all (hasI sg) = true ∧ (xs.map sg).map (putI sg) = xs := by
  have h' : ∀ x ∈ xs, sg x ≠ 65533 := by
    intro x hx' he
    rw [List.any_eq_false] at h
    have := h (sg x) (List.mem_map_of_mem hx')
    simp [he] at this
  have hq : ∀ x ∈ xs, putI sg (sg x) = x ∧ hasI sg (sg x) = true := fun x hm => once_put ho (wf_u8 (hx x hm)).1 (wf_u8 (hx x hm)).2 (h' x hm)
  constructor
  · rw [List.all_eq_true]
    intro y hy
    obtain ⟨x, hm, rfl⟩ := List.mem_map.1 hy
    exact (hq x hm).2
  · rw [List.map_map]
    have : xs.map (putI sg ∘ sg) = xs.map id := List.map_congr_left fun x hm => (hq x hm).1
    simpa using this

/-- ISO-8859-1. -/
def sg08 (x : Int) : Int := x
theorem once08 : Once sg08 := fun n hn h => put_hit hn rfl h fun j hj h2 => by
  have := h2.1
  simp only [sg08] at this
  omega
theorem sg08_wf (x : Int) (h0 : 0 ≤ x) (h1 : x ≤ 255) : (Lit.int .i32 (sg08 x)).wf = true := mk_r (by unfold sg08; omega) (by unfold sg08; omega)
theorem put08 (c : Int) (h0 : 0 ≤ c) (h1 : c < 256) : putI sg08 c = c ∧ hasI sg08 c = true :=
  once_put once08 (x := c) h0 (by omega) (by unfold sg08; omega)
theorem no08 (c : Int) (h : ¬ (0 ≤ c ∧ c < 256)) : hasI sg08 c = false := by
  refine (put_no (put_none fun j hj h2 => h ?_)).2
  have := h2.1
  simp only [sg08] at this
  omega
theorem has08 (c : Int) : hasI sg08 c = decide (0 ≤ c ∧ c < 256) := by
  by_cases h : 0 ≤ c ∧ c < 256
  · rw [(put08 c h.1 h.2).2, decide_eq_true h]
  · rw [no08 c h, decide_eq_false h]

end Go.Proofs.Ytgeadmpbfbdopaa
