/-
  Texts of ours laid together: D06, D22.
-/
import Derived.Test.YtiacijodoojgoaaDoorZ11

/-! D06 -/
namespace Go.Proofs.YtiacijodoojgoaaDoor
open Go.RowKit
set_option linter.unusedVariables false

theorem wf_u16 {x : Int} (h : (Lit.int .u16 x).wf = true) : 0 ≤ x ∧ x ≤ 65535 := bounds_u16 h
theorem mk_u16 {x : Int} (h0 : 0 ≤ x) (h1 : x ≤ 65535) : (Lit.int .u16 x).wf = true := WalkArith.wf_u16 (by omega)
theorem Reads.get16 {w : World} {a : Option Addr} {len cap : Nat} {xs : List Int} (h : Reads .u16 w a len cap xs) {i : Nat} (hi : i < len) :
    ∃ b off x, a = some ⟨b, off, none⟩ ∧ b < w.heap.size ∧ w.cell? ⟨b, off + i, none⟩ = some (.int .u16 x) ∧ 0 ≤ x ∧ x ≤ 65535 ∧ Hid (xs[i]? = some x ∧ xs.take (i + 1) = xs.take i ++ [x]) := by
  obtain ⟨b, off, x, ha, hb, hc, hx⟩ := h.get hi
  obtain ⟨h1, h2, h3⟩ := hx.out
  exact ⟨b, off, x, ha, hb, hc, (wf_u16 h3).1, (wf_u16 h3).2, h1, h2⟩

/-- High and low surrogates; a sign's units. -/
def hiB (u : Int) : Bool := decide (55296 ≤ u ∧ u ≤ 56319)
def loB (u : Int) : Bool := decide (56320 ≤ u ∧ u ≤ 57343)
def uns (c : Int) : List Int := if scB c = true then (if c < 65536 then [c] else [55296 + (c - 65536) / 1024, 56320 + (c - 65536) % 1024]) else []
def lenU (c : Int) : Nat := (uns c).length
def unL (t : List Int) : List Int := t.flatMap uns
def pairU (x y : Int) : Int := 65536 + 1024 * (x - 55296) + (y - 56320)
theorem hiB_iff (u : Int) : hiB u = true ↔ 55296 ≤ u ∧ u ≤ 56319 := decide_eq_true_iff
theorem loB_iff (u : Int) : loB u = true ↔ 56320 ≤ u ∧ u ≤ 57343 := decide_eq_true_iff
theorem hi_lo (u : Int) : surB u = (hiB u || loB u) := by rw [Bool.eq_iff_iff, Bool.or_eq_true, surB_iff, hiB_iff, loB_iff]; omega
theorem hi_clear (u : Int) : (1024 * (u / 1024) == 55296) = hiB u := by rw [Bool.eq_iff_iff, beq_iff_eq, hiB_iff]; omega
theorem lo_clear (u : Int) : (1024 * (u / 1024) == 56320) = loB u := by rw [Bool.eq_iff_iff, beq_iff_eq, loB_iff]; omega

theorem lenU_le (c : Int) : lenU c ≤ 2 := by unfold lenU uns; (repeat' split) <;> simp
theorem uns_wf (c : Int) : ∀ x ∈ uns c, (Lit.int .u16 x).wf = true := by
  intro x hx
  unfold uns at hx
  split at hx
  · rename_i h
    have := (scB_iff c).1 h
    split at hx
    · simp at hx; subst hx; exact mk_u16 (by omega) (by omega)
    · simp at hx
      rcases hx with rfl | rfl
      · exact mk_u16 (by omega) (by omega)
      · exact mk_u16 (by omega) (by omega)
  · cases hx
theorem unL_app (a b : List Int) : unL (a ++ b) = unL a ++ unL b := by simp [unL]
theorem unL_snoc {xs : List Int} {k : Nat} {x : Int} (h : xs.take (k + 1) = xs.take k ++ [x]) : unL (xs.take (k + 1)) = unL (xs.take k) ++ uns x := by rw [h, unL_app]; simp [unL]
theorem unL_wf (t : List Int) : ∀ x ∈ unL t, (Lit.int .u16 x).wf = true := by
  intro x hx
  obtain ⟨c, _, hc⟩ := List.mem_flatMap.1 hx
  exact uns_wf c x hc
theorem unL_bd (t : List Int) : ∀ x ∈ unL t, 0 ≤ x ∧ x ≤ 65535 := fun x hx => wf_u16 (unL_wf t x hx)
theorem unL_len : ∀ t : List Int, (unL t).length ≤ 2 * t.length
  | [] => Nat.le_refl _
  | c :: t => by
    have h := unL_len t
    have h2 := lenU_le c
    unfold lenU at h2
    rw [show unL (c :: t) = uns c ++ unL t from rfl, List.length_append]; simp; omega
theorem unL_take (t : List Int) (k : Nat) : (unL (t.take k)).length ≤ 2 * t.length := by
  have h := unL_len (t.take k); simp at h; omega

/-- Is there a pair in front? What is read next, of how many units. -/
def utP : List Int → Bool
  | x :: y :: _ => hiB x && loB y
  | _ => false
def utN (xs : List Int) : Nat := if utP xs = true then 2 else 1
def ut1 (xs : List Int) : Int × Int :=
  if utP xs = true then (pairU (xs.getD 0 0) (xs.getD 1 0), 0)
  else if surB (xs.getD 0 0) = true then (65533, if xs.length = 1 ∧ hiB (xs.getD 0 0) = true then 4 else 3)
  else (xs.getD 0 0, 0)
/-- What units are read as, each sign with what is told of it. -/
def usigs : List Int → List (Int × Int)
  | [] => []
  | [x] => [ut1 [x]]
  | x :: y :: r => if utP (x :: y :: r) = true then ut1 (x :: y :: r) :: usigs r else ut1 (x :: y :: r) :: usigs (y :: r)
def utxt (xs : List Int) : List Int := (usigs xs).map Prod.fst
def ustr (xs : List Int) : List Int := if errP (usigs xs) = 0 then utxt xs else []

theorem utN_pos (xs : List Int) : 0 < utN xs := by unfold utN; split <;> omega
theorem utN_le {xs : List Int} (h : xs ≠ []) : utN xs ≤ xs.length := by
  unfold utN
  match xs, h with
  | [], h => exact absurd rfl h
  | [x], _ => simp [utP]
  | x :: y :: r, _ => split <;> simp <;> omega
theorem usigs_nil : usigs [] = [] := rfl
theorem usigs_cons {xs : List Int} (h : xs ≠ []) : usigs xs = ut1 xs :: usigs (xs.drop (utN xs)) := by
  match xs, h with
  | [], h => exact absurd rfl h
  | [x], _ => rfl
  | x :: y :: r, _ =>
    rw [usigs]
    unfold utN
    split <;> rfl
theorem usigs_ind {p : List Int → Prop} (h0 : p []) (h1 : ∀ xs, xs ≠ [] → p (xs.drop (utN xs)) → p xs) : ∀ xs, p xs := by
  have key : ∀ (n : Nat) (xs : List Int), xs.length ≤ n → p xs := by
    intro n
    induction n with
    | zero => intro xs h; obtain rfl : xs = [] := List.eq_nil_of_length_eq_zero (by omega)
              exact h0
    | succ n ih =>
      intro xs h
      by_cases he : xs = []
      · subst he; exact h0
      · exact h1 xs he (ih _ (by have := utN_pos xs; simp; omega))
  exact fun xs => key _ xs (Nat.le_refl _)
theorem utxt_len (xs : List Int) : (utxt xs).length = (usigs xs).length := by simp [utxt]
theorem usigs_len : ∀ xs : List Int, (usigs xs).length ≤ xs.length := by
  refine usigs_ind (Nat.le_refl _) fun xs h ih => ?_
  have hp := utN_pos xs
  have hl : 0 < xs.length := List.length_pos_iff.2 h
  rw [usigs_cons h]; simp at ih ⊢; omega
theorem ut_fst_sc {xs : List Int} (hne : xs ≠ []) (hb : ∀ x ∈ xs, 0 ≤ x ∧ x ≤ 65535) : scB (ut1 xs).1 = true := by
  match xs, hne with
  | [], h => exact absurd rfl h
  | [x], _ =>
    have h0 := hb x (by simp)
    unfold ut1 utP
    simp only [List.getD_cons_zero]
    rw [if_neg (by simp)]
    split
    · simp only; decide
    · rename_i h
      rw [Bool.not_eq_true, surB_not] at h
      rw [scB_iff]; simp only; omega
  | x :: y :: r, _ =>
    have h0 := hb x (by simp)
    have h1 := hb y (by simp)
    unfold ut1 utP
    simp only [List.getD_cons_zero, List.getD_cons_succ]
    split
    · rename_i h
      rw [Bool.and_eq_true, hiB_iff, loB_iff] at h
      rw [scB_iff]; simp only [pairU]; omega
    · split
      · simp only; decide
      · rename_i _ h
        rw [Bool.not_eq_true, surB_not] at h
        rw [scB_iff]; simp only; omega
theorem bd16_drop {xs : List Int} (n : Nat) (hb : ∀ x ∈ xs, 0 ≤ x ∧ x ≤ 65535) : ∀ x ∈ xs.drop n, 0 ≤ x ∧ x ≤ 65535 := fun x hx => hb x (List.mem_of_mem_drop hx)
/-- What is read is right. -/
theorem utxt_sc : ∀ xs : List Int, (∀ x ∈ xs, 0 ≤ x ∧ x ≤ 65535) → (utxt xs).all scB = true := by
  refine usigs_ind (fun _ => rfl) fun xs h ih hb => ?_
  unfold utxt
  rw [usigs_cons h, List.map_cons, List.all_cons, ut_fst_sc h hb, Bool.true_and]
  exact ih (bd16_drop _ hb)
theorem utxt_wf {xs : List Int} (hb : ∀ x ∈ xs, 0 ≤ x ∧ x ≤ 65535) : ∀ x ∈ utxt xs, (Lit.int .i32 x).wf = true := by
  intro x hx
  have h := List.all_eq_true.1 (utxt_sc xs hb) x hx
  have := (scB_iff x).1 h
  exact mk_r (by omega) (by omega)
/-- A sign's units, read again. -/
theorem ut_uns (c : Int) (r : List Int) (h : scB c = true) : ut1 (uns c ++ r) = (c, 0) ∧ (uns c ++ r).drop (utN (uns c ++ r)) = r ∧ uns c ++ r ≠ [] := by
  have hc := (scB_iff c).1 h
  by_cases h1 : c < 65536
  · have e : uns c = [c] := by unfold uns; rw [if_pos h, if_pos h1]
    have hh : hiB c = false := by unfold hiB; rw [decide_eq_false_iff_not]; omega
    have hp : utP (c :: r) = false := by cases r <;> simp [utP, hh]
    have hs : surB c = false := (surB_not c).2 (by omega)
    rw [e]
    refine ⟨?_, ?_, by simp⟩
    · simp [ut1, hp, hs]
    · simp [utN, hp]
  · have e : uns c = [55296 + (c - 65536) / 1024, 56320 + (c - 65536) % 1024] := by unfold uns; rw [if_pos h, if_neg h1]
    have hh : hiB (55296 + (c - 65536) / 1024) = true := (hiB_iff _).2 (by omega)
    have hl : loB (56320 + (c - 65536) % 1024) = true := (loB_iff _).2 (by omega)
    have hp : utP ((55296 + (c - 65536) / 1024) :: (56320 + (c - 65536) % 1024) :: r) = true := by simp [utP, hh, hl]
    rw [e]
    refine ⟨?_, ?_, by simp⟩
    · simp only [ut1, List.cons_append, List.nil_append, hp, if_true, List.getD_cons_zero, List.getD_cons_succ, pairU, Prod.mk.injEq, and_true]; omega
    · simp [utN, hp]
theorem usigs_unL : ∀ (t rest : List Int), t.all scB = true → usigs (unL t ++ rest) = t.map (fun c => (c, 0)) ++ usigs rest
  | [], rest, _ => rfl
  | c :: t, rest, h => by
    rw [List.all_cons, Bool.and_eq_true] at h
    obtain ⟨h1, h2, h3⟩ := ut_uns c (unL t ++ rest) h.1
    rw [show unL (c :: t) ++ rest = uns c ++ (unL t ++ rest) by rw [show unL (c :: t) = uns c ++ unL t from rfl, List.append_assoc]]
    rw [usigs_cons h3, h1, h2, usigs_unL t rest h.2]; rfl
/-- What is laid is read. -/
theorem usigs_laid {t : List Int} (h : t.all scB = true) : usigs (unL t) = t.map (fun c => (c, 0)) := by
  have := usigs_unL t [] h
  simpa [usigs_nil] using this
theorem utxt_laid {t : List Int} (h : t.all scB = true) : utxt (unL t) = t := by unfold utxt; rw [usigs_laid h]; simp [Function.comp_def]
theorem uerr_laid {t : List Int} (h : t.all scB = true) : errP (usigs (unL t)) = 0 := by
  rw [usigs_laid h, errP_zero]; intro p hp; obtain ⟨c, _, rfl⟩ := List.mem_map.1 hp; rfl
theorem ustr_laid {t : List Int} (h : t.all scB = true) : ustr (unL t) = t := by unfold ustr; rw [if_pos (uerr_laid h), utxt_laid h]
theorem uns_pair {x y : Int} (h : (hiB x && loB y) = true) : uns (pairU x y) = [x, y] := by
  rw [Bool.and_eq_true, hiB_iff, loB_iff] at h
  unfold uns pairU
  rw [if_pos ((scB_iff _).2 (by omega)), if_neg (by omega)]
  congr 1
  · omega
  · congr 1; omega
/-- A sign that is read without an error is laid as its units; with one, otherwise. -/
theorem uns_ut {xs : List Int} (hne : xs ≠ []) (hb : ∀ x ∈ xs, 0 ≤ x ∧ x ≤ 65535) (r : List Int) :
    (uns (ut1 xs).1 ++ r = xs ↔ (ut1 xs).2 = 0 ∧ r = xs.drop (utN xs)) := by
  match xs, hne with
  | [], h => exact absurd rfl h
  | [x], _ =>
    have h0 := hb x (by simp)
    have hp : utP [x] = false := rfl
    cases hs : surB x
    · have := (surB_not x).1 hs
      simp [ut1, utN, hp, hs, uns, show scB x = true from (scB_iff x).2 (by omega), show x < 65536 by omega]
    · have := (surB_iff x).1 hs
      have e : uns 65533 = [65533] := by decide
      simp [ut1, utN, hp, hs, e]
      intro _
      constructor
      · intro h; omega
      · intro h; split at h <;> simp at h
  | x :: y :: r', _ =>
    have h0 := hb x (by simp)
    have h1 := hb y (by simp)
    cases hp : utP (x :: y :: r')
    · cases hs : surB x
      · have := (surB_not x).1 hs
        simp [ut1, utN, hp, hs, uns, show scB x = true from (scB_iff x).2 (by omega), show x < 65536 by omega]
      · have := (surB_iff x).1 hs
        have e : uns 65533 = [65533] := by decide
        simp [ut1, utN, hp, hs, e]
        omega
    · have h2 := uns_pair (x := x) (y := y) hp
      simp [ut1, utN, hp, h2]
/-- What is read is laid as the same units, if these were right, and only then. -/
theorem unL_back : ∀ xs : List Int, (∀ x ∈ xs, 0 ≤ x ∧ x ≤ 65535) → (unL (utxt xs) = xs ↔ errP (usigs xs) = 0) := by
  refine usigs_ind (fun _ => by simp [utxt, usigs_nil, unL, errP]) fun xs h ih hb => ?_
  have hi := ih (bd16_drop _ hb)
  have hu := uns_ut h hb (unL (utxt (xs.drop (utN xs))))
  have e : unL (utxt xs) = uns (ut1 xs).1 ++ unL (utxt (xs.drop (utN xs))) := by
    unfold utxt; rw [usigs_cons h, List.map_cons]; rfl
  rw [e, hu, hi, usigs_cons h, errP]
  split
  · rename_i h0; simp [h0]
  · rename_i h0; simp [h0]

/-- Does a list begin so? -/
def hdB (f : Int → Bool) : List Int → Bool
  | [] => false
  | x :: _ => f x
theorem utP_hd (xs : List Int) : utP xs = (hdB hiB xs && hdB loB (xs.drop 1)) := by
  match xs with
  | [] => rfl
  | [x] => simp [utP, hdB]
  | x :: y :: r => rfl

/-- Units as octets, octets as units. -/
def ocU (u : List Int) : List Int := u.flatMap fun x => [x / 256, x % 256]
def prU : List Int → List Int
  | x :: y :: r => (256 * x + y) :: prU r
  | _ => []
theorem ocU_snoc {xs : List Int} {k : Nat} {x : Int} (h : xs.take (k + 1) = xs.take k ++ [x]) : ocU (xs.take (k + 1)) = ocU (xs.take k) ++ [x / 256, x % 256] := by rw [h]; simp [ocU]
theorem ocU_len (u : List Int) : (ocU u).length = 2 * u.length := by
  induction u with
  | nil => rfl
  | cons x u ih => rw [show ocU (x :: u) = x / 256 :: x % 256 :: ocU u from rfl]; simp [ih]; omega
theorem ocU_wf {u : List Int} (hb : ∀ x ∈ u, 0 ≤ x ∧ x ≤ 65535) : ∀ x ∈ ocU u, (Lit.int .u8 x).wf = true := by
  intro x hx
  obtain ⟨c, hc, h⟩ := List.mem_flatMap.1 hx
  have := hb c hc
  simp at h
  rcases h with rfl | rfl <;> exact mk_u8 (by omega) (by omega)
theorem prU_ocU : ∀ u : List Int, prU (ocU u) = u
  | [] => rfl
  | x :: u => by
    rw [show ocU (x :: u) = x / 256 :: x % 256 :: ocU u from rfl, prU, prU_ocU u]
    congr 1; omega
theorem prU_len : ∀ s : List Int, (prU s).length = s.length / 2
  | [] => rfl
  | [_] => by simp [prU]
  | x :: y :: r => by rw [prU, List.length_cons, prU_len r]; simp; omega
theorem ocU_prU : ∀ s : List Int, s.length % 2 = 0 → (∀ x ∈ s, 0 ≤ x ∧ x ≤ 255) → ocU (prU s) = s
  | [], _, _ => rfl
  | [_], h, _ => by simp at h
  | x :: y :: r, h, hb => by
    have h0 := hb x (by simp)
    have h1 := hb y (by simp)
    rw [prU, show ocU ((256 * x + y) :: prU r) = (256 * x + y) / 256 :: (256 * x + y) % 256 :: ocU (prU r) from rfl, ocU_prU r (by simp at h; omega) (fun z hz => hb z (by simp [hz]))]
    congr 1
    · omega
    · congr 1; omega
theorem prU_wf : ∀ s : List Int, (∀ x ∈ s, 0 ≤ x ∧ x ≤ 255) → ∀ x ∈ prU s, (Lit.int .u16 x).wf = true
  | [], _, x, hx => by cases hx
  | [_], _, x, hx => by cases hx
  | a :: b :: r, hb, x, hx => by
    rw [prU] at hx
    have h0 := hb a (by simp)
    have h1 := hb b (by simp)
    rcases List.mem_cons.1 hx with rfl | hx
    · exact mk_u16 (by omega) (by omega)
    · exact prU_wf r (fun z hz => hb z (by simp [hz])) x hx
theorem prU_step {s : List Int} {k : Nat} {x y : Int} (h0 : s[k]? = some x) (h1 : s[k + 1]? = some y) : prU (s.drop k) = (256 * x + y) :: prU (s.drop (k + 2)) := by
  have hk : k + 1 < s.length := (List.getElem?_eq_some_iff.1 h1).1
  have e0 : s[k] = x := (List.getElem?_eq_some_iff.1 h0).2
  have e1 : s[k + 1] = y := (List.getElem?_eq_some_iff.1 h1).2
  rw [List.drop_eq_getElem_cons (by omega), List.drop_eq_getElem_cons hk, e0, e1, prU]

end Go.Proofs.YtiacijodoojgoaaDoor

/-! D22 -/
namespace Go.Proofs.YtiacijodoojgoaaDoor
open Go.RowKit
set_option linter.unusedVariables false

def dirT : List Int := [39, 40, 41, 44, 45, 46, 47, 58, 63, 32, 9, 13, 10]
def dirB (c : Int) : Bool := decide (65 ≤ c ∧ c ≤ 90) || decide (97 ≤ c ∧ c ≤ 122) || decide (48 ≤ c ∧ c ≤ 57) || dirT.any (fun x => decide (x = c))
def codU (t : List Int) : List Int := if t.all scB = true then bareB (ocU (unL t)) else []
/-- A run is closed (none: nothing is laid); what is laid, behind a run that is open. -/
def closeU (run : List Int) : List Int := if run = [] then [] else 43 :: (codU run ++ [45])
def layU : List Int → List Int → List Int
  | [], run => closeU run
  | c :: r, run => if dirB c = true then closeU run ++ (c :: layU r []) else if run = [] ∧ c = 43 then 43 :: 45 :: layU r [] else layU r (run ++ [c])
def runN : List Int → Bool → Nat
  | [], _ => 0
  | c :: r, b => if dirB c = true then runN r false else if b = false ∧ c ≠ 43 then 1 + runN r true else runN r b
theorem runN_le : ∀ (xs : List Int) (b : Bool), runN xs b ≤ xs.length
  | [], _ => Nat.le_refl _
  | c :: r, b => by
    have h1 := runN_le r false
    have h2 := runN_le r true
    have h3 := runN_le r b
    rw [runN, List.length_cons]
    split
    · omega
    · split <;> omega
def sevB (x : Int) : Bool := decide (x ≤ 126) && (decide (32 ≤ x) || decide (x = 9) || decide (x = 10) || decide (x = 13))
def lay7 (t : List Int) : List Int := if t.all scB = true then layU t [] else []
def lay7E (t : List Int) : Int := if t.all scB = true then 0 else 7

theorem dir_bd {c : Int} (h : dirB c = true) : 9 ≤ c ∧ c ≤ 122 := by
  unfold dirB dirT at h
  simp only [List.any_cons, List.any_nil, Bool.or_eq_true, decide_eq_true_eq, Bool.or_false] at h
  omega
theorem dir_sev {c : Int} (h : dirB c = true) : sevB c = true := by
  unfold dirB dirT at h
  simp only [List.any_cons, List.any_nil, Bool.or_eq_true, decide_eq_true_eq, Bool.or_false] at h
  unfold sevB
  simp only [Bool.and_eq_true, Bool.or_eq_true, decide_eq_true_eq]
  omega
theorem dir_sc {c : Int} (h : dirB c = true) : scB c = true := by
  have := dir_bd h
  exact (scB_iff c).2 (by omega)
theorem layU_run : ∀ (u rest acc : List Int), (∀ x ∈ u, dirB x = false) → acc ≠ [] → layU (u ++ rest) acc = layU rest (acc ++ u)
  | [], rest, acc, _, _ => by simp
  | x :: u, rest, acc, h, ha => by
    have hx := h x (List.mem_cons_self ..)
    rw [List.cons_append, layU, if_neg (by rw [hx]; decide), if_neg (fun hh => ha hh.1), layU_run u rest (acc ++ [x]) (fun y hy => h y (List.mem_cons_of_mem _ hy)) (by simp)]
    simp
/-- A run stops ahead of a direct sign, or at the end. -/
def stopU (r : List Int) : Prop := r = [] ∨ ∃ c s, r = c :: s ∧ dirB c = true
theorem layU_stop {rest acc : List Int} (h : stopU rest) : layU rest acc = closeU acc ++ layU rest [] := by
  rcases h with rfl | ⟨c, s, rfl, hc⟩
  · simp [layU, closeU]
  · rw [layU, layU, if_pos hc, if_pos hc]; rfl
theorem layU_one {u rest : List Int} {x : Int} (hx : dirB x = false) (h43 : x ≠ 43) (hu : ∀ y ∈ u, dirB y = false) (h : stopU rest) : layU (x :: (u ++ rest)) [] = 43 :: (codU (x :: u) ++ (45 :: layU rest [])) := by
  rw [layU, if_neg (by rw [hx]; decide), if_neg (fun hh => h43 hh.2), List.nil_append, layU_run u rest [x] hu (by simp), layU_stop h]
  unfold closeU
  rw [if_neg (by simp)]
  simp
theorem layU_dir {c : Int} (h : dirB c = true) (r : List Int) : layU (c :: r) [] = c :: layU r [] := by
  rw [layU, if_pos h]; rfl
theorem layU_plus (r : List Int) : layU (43 :: r) [] = 43 :: 45 :: layU r [] := by
  rw [layU, if_neg (by decide), if_pos ⟨rfl, rfl⟩]
/-- A text of direct signs is itself, and has no run (P22.3). -/
theorem layU_all : ∀ {t : List Int}, t.all dirB = true → layU t [] = t ∧ runN t false = 0
  | [], _ => ⟨rfl, rfl⟩
  | c :: t, h => by
    simp only [List.all_cons, Bool.and_eq_true] at h
    have ih := layU_all h.2
    rw [layU_dir h.1, ih.1, runN, if_pos h.1]
    exact ⟨rfl, ih.2⟩
theorem sev_dig : ∀ n : Fin 64, sevB (dg64 (n.val : Int)) = true := by decide +kernel
theorem bare_sev {xs : List Int} (hb : ∀ v ∈ v64 xs, V6 v) : (bareB xs).all sevB = true := by
  unfold bareB
  rw [List.all_map, List.all_eq_true]
  intro v hv
  have h := hb v hv
  have := sev_dig ⟨v.toNat, by have := h.1; have := h.2; omega⟩
  rwa [show ((⟨v.toNat, by have := h.1; have := h.2; omega⟩ : Fin 64).val : Int) = v by simp; have := h.1; omega] at this
end Go.Proofs.YtiacijodoojgoaaDoor
