/-
  Layer 26, in plain words: lines as the program finds them, one after another.
-/
import Derived.Test.YtbhmhpcabppgmaaD26
import Derived.Test.YtbhmhpcabppgmaaNoCr
namespace Go.Proofs.Ytbhmhpcabppgmaa
open Go.RowKit
set_option linter.unusedVariables false

theorem linL_nil : linL [] = [] := by decide +kernel
/-- Octets without an end, ahead of the rest. -/
theorem linS_run : ∀ (i : Nat) (s acc : List Int), NoCr s i → i ≤ s.length → linS s acc = linS (s.drop i) (acc ++ s.take i)
  | 0, s, acc, _, _ => by simp
  | i + 1, [], acc, _, h => by simp at h
  | i + 1, x :: s, acc, hn, hi => by
    rw [lin_on acc hn.head, linS_run i s (acc ++ [x]) hn.tail (by simpa using hi)]
    simp
theorem drop_two26 {s : List Int} {i : Nat} {x y : Int} (h1 : s[i]? = some x) (h2 : s[i + 1]? = some y) : s.drop i = x :: y :: s.drop (i + 2) := by
  obtain ⟨l1, e1⟩ := List.getElem?_eq_some_iff.1 h1
  obtain ⟨l2, e2⟩ := List.getElem?_eq_some_iff.1 h2
  rw [List.drop_eq_getElem_cons l1, List.drop_eq_getElem_cons l2, e1, e2]
theorem linA_cut {s : List Int} {i : Nat} (hn : NoCr s i) (h1 : s[i]? = some 13) (h2 : s[i + 1]? = some 10) : linA s = s.take i :: linA (s.drop (i + 2)) := by
  have hl : i < s.length := (List.getElem?_eq_some_iff.1 h1).1
  unfold linA
  rw [linS_run i s [] hn (by omega), drop_two26 h1 h2, lin_line, List.nil_append]
theorem linA_open {s : List Int} (hn : NoCr s s.length) : linA s = [s] := by
  unfold linA
  rw [linS_run s.length s [] hn (Nat.le_refl _), List.drop_length, List.take_length, List.nil_append]
  rfl
/-- A line that ends, and the rest. -/
theorem linL_cut {s : List Int} {i : Nat} (hn : NoCr s i) (h1 : s[i]? = some 13) (h2 : s[i + 1]? = some 10) : linL s = s.take i :: linL (s.drop (i + 2)) ∧ linE s = linE (s.drop (i + 2)) := by
  have hA := linA_cut hn h1 h2
  have hne : linA (s.drop (i + 2)) ≠ [] := linS_ne _ _
  have hE : linE s = linE (s.drop (i + 2)) := by
    unfold linE
    rw [hA, List.getLast?_cons, List.getLast?_eq_some_getLast hne]
    rfl
  refine ⟨?_, hE⟩
  unfold linL
  rw [hE, hA]
  cases linE (s.drop (i + 2))
  · rfl
  · rw [if_pos rfl, if_pos rfl, List.dropLast_cons_of_ne_nil hne]
/-- What does not end. -/
theorem linL_open {s : List Int} (hn : NoCr s s.length) (h0 : 0 < s.length) : linL s = [s] ∧ linE s = false := by
  have hA := linA_open hn
  have hE : linE s = false := by
    unfold linE
    rw [hA]
    cases s with
    | nil => simp at h0
    | cons x s => rfl
  refine ⟨?_, hE⟩
  unfold linL
  rw [hE, if_neg (by decide), hA]
/-- Whether the last line ends: by the last two octets. -/
theorem linE_two (s : List Int) : linE s = decide (s.length = 0 ∨ (2 ≤ s.length ∧ s.drop (s.length - 2) = [13, 10])) := by
  rw [Bool.eq_iff_iff, decide_eq_true_iff, linE_iff]
  constructor
  · rintro ⟨l, hl⟩
    have h := linJ_linS s []
    have h2 : linJ (linA s) = s ++ [13, 10] := h
    rw [hl, linJ_app] at h2
    have e : linJ [[]] = [13, 10] := by simp [linJ]
    rw [e] at h2
    have hs := (List.append_cancel_right h2).symm
    rcases List.eq_nil_or_concat l with rfl | ⟨l', x, rfl⟩
    · left; rw [hs]; rfl
    · rw [List.concat_eq_append] at hs
      right
      have h3 : s = (linJ l' ++ x) ++ [13, 10] := by rw [hs, linJ_app]; simp [linJ]
      rw [h3]
      refine ⟨by simp only [List.length_append, List.length_cons, List.length_nil]; omega, ?_⟩
      have hk : (linJ l' ++ x ++ [13, 10]).length - 2 = (linJ l' ++ x).length := by simp only [List.length_append, List.length_cons, List.length_nil]; omega
      rw [hk, List.drop_left]
  · rintro (h | ⟨h, h2⟩)
    · obtain rfl : s = [] := List.eq_nil_of_length_eq_zero h
      exact ⟨[], rfl⟩
    · have e : s = s.take (s.length - 2) ++ [13, 10] := by rw [← h2, List.take_append_drop]
      exact ⟨linA (s.take (s.length - 2)), by
        have := linS_end (s.take (s.length - 2)) []
        rw [← e] at this
        exact this⟩

/-- How many whole ends there are. -/
def crN : List Int → Nat
  | [] => 0
  | [_] => 0
  | x :: y :: r => if x = 13 ∧ y = 10 then 1 + crN r else crN (y :: r)
theorem crN_line (r : List Int) : crN (13 :: 10 :: r) = 1 + crN r := by rw [crN, if_pos ⟨rfl, rfl⟩]
theorem crN_on {x : Int} {r : List Int} (h : ¬ (x = 13 ∧ r.head? = some 10)) : crN (x :: r) = crN r := by
  cases r with
  | nil => rfl
  | cons y r => rw [crN, if_neg (by simpa using h)]
theorem crN_run : ∀ (i : Nat) (s : List Int), NoCr s i → i ≤ s.length → crN s = crN (s.drop i)
  | 0, s, _, _ => by simp
  | i + 1, [], _, h => by simp at h
  | i + 1, x :: s, hn, hi => by rw [crN_on hn.head, crN_run i s hn.tail (by simpa using hi), List.drop_succ_cons]
theorem crN_none {s : List Int} (h : NoCr s s.length) : crN s = 0 := by rw [crN_run s.length s h (Nat.le_refl _), List.drop_length]; rfl
theorem crN_hit {s : List Int} {i : Nat} (hn : NoCr s i) (h1 : s[i]? = some 13) (h2 : s[i + 1]? = some 10) : crN s = 1 + crN (s.drop (i + 2)) := by
  have hl : i < s.length := (List.getElem?_eq_some_iff.1 h1).1
  rw [crN_run i s hn (by omega), drop_two26 h1 h2, crN_line]
/-- A bare end is none of a whole one. -/
theorem bar_cr : ∀ (s : List Int) (p : Int), (p = 13 → s.head? ≠ some 10) → barC p s + 2 * crN s = s.count 13 + s.count 10
  | [], p, _ => rfl
  | [x], p, hp => by
    rw [barC, barC, crN]
    by_cases h1 : x = 13
    · subst h1; simp
    · by_cases h2 : x = 10
      · subst h2
        have : p ≠ 13 := fun e => hp e rfl
        simp [this]
      · simp [h1, h2]
  | x :: y :: r, p, hp => by
    by_cases h : x = 13 ∧ y = 10
    · obtain ⟨rfl, rfl⟩ := h
      have ih := bar_cr r 10 (fun e => by simp at e)
      rw [crN_line, barC, barC, if_neg (by simp), if_neg (by simp)]
      simp only [List.count_cons]
      generalize barC 10 r = A at *
      generalize crN r = B at *
      generalize r.count 13 = C at *
      generalize r.count 10 = D at *
      simp
      omega
    · have ih := bar_cr (y :: r) x (fun e h2 => h ⟨e, by simpa using h2⟩)
      have c1 : (x :: y :: r).count 13 = (y :: r).count 13 + (if (x == 13) = true then 1 else 0) := List.count_cons
      have c2 : (x :: y :: r).count 10 = (y :: r).count 10 + (if (x == 10) = true then 1 else 0) := List.count_cons
      rw [crN_on (by simpa using h), barC, c1, c2]
      clear c1 c2
      have hh : (y :: r).head? = some y := rfl
      rw [hh]
      generalize barC x (y :: r) = A at *
      generalize crN (y :: r) = B at *
      generalize (y :: r).count 13 = C at *
      generalize (y :: r).count 10 = D at *
      by_cases h1 : x = 13
      · subst h1
        have : y ≠ 10 := fun e => h ⟨rfl, e⟩
        rw [if_pos (.inl ⟨rfl, by simpa using this⟩)]
        simp
        omega
      · by_cases h2 : x = 10
        · subst h2
          have : p ≠ 13 := fun e => hp e rfl
          rw [if_pos (.inr ⟨rfl, this⟩)]
          simp
          omega
        · rw [if_neg (by simp [h1, h2])]
          simp [h1, h2]
          omega
theorem crN_le : ∀ s : List Int, 2 * crN s ≤ s.length
  | [] => Nat.le_refl _
  | [_] => by simp [crN]
  | x :: y :: r => by
    rw [crN]
    split
    · have := crN_le r; simp only [List.length_cons]; omega
    · have := crN_le (y :: r); simp only [List.length_cons] at this ⊢; omega

/-- The lines' places, as they are cut off: where they begin, how long they are. -/
abbrev LPn (L : Nat) := { x : Nat × Nat // x.1 + x.2 ≤ L ∧ x.1 < L }
def encN {L : Nat} (b off cap : Nat) (x : LPn L) : Array Value := #[.slice (some ⟨b, off + x.1.1, none⟩) x.1.2 (cap - x.1.1)]
def pcN (xs : List Int) (x : Nat × Nat) : List Int := (xs.drop x.1).take x.2
def valN {L : Nat} (xs : List Int) (pre : List (LPn L)) : List (List Int) := pre.map fun x => pcN xs x.1
theorem valN_snoc {L : Nat} (xs : List Int) (pre : List (LPn L)) (x : LPn L) : valN xs (pre ++ [x]) = valN xs pre ++ [pcN xs x.1] := by simp [valN]
theorem pcN_len {L : Nat} {xs : List Int} (hsz : xs.length = L) (x : LPn L) : (pcN xs x.1).length = x.1.2 := by
  obtain ⟨⟨p, f⟩, h1, h2⟩ := x
  unfold pcN
  dsimp only at *
  rw [List.length_take, List.length_drop]
  omega
theorem lpn_read {L b off cap : Nat} {a : Option Addr} {xs : List Int} {w : World} (hr : Reads .u8 w a L cap xs) (ha : 0 < L → a = some ⟨b, off, none⟩) (x : LPn L) :
    Reads .u8 w (some ⟨b, off + x.1.1, none⟩) x.1.2 (cap - x.1.1) (pcN xs x.1) := by
  obtain ⟨⟨p, f⟩, h1, h2⟩ := x
  dsimp only at h1 h2 ⊢
  have hrm := hr.room
  have hp := hr.piece (l := p) (r := L) (by omega) (Nat.le_refl _)
  rw [ha (by omega), List.take_of_length_le (by rw [hr.size]; exact Nat.le_refl _), if_neg (by omega), Option.map_some, Addr.add_lit] at hp
  exact hp.pre (by omega)

/-- The longest line so far, one more. -/
theorem lng_one (l : List (List Int)) (x : List Int) : lngF (l ++ [x]) = if lngF l < (x.length : Int) then (x.length : Int) else lngF l := by
  unfold lngF; rw [List.foldl_append]; rfl
theorem lngF_zero (s : List Int) (h : s.length = 0) : lngF (linL s) = 0 := by
  obtain rfl : s = [] := List.eq_nil_of_length_eq_zero h
  rw [linL_nil]; rfl
theorem lng_any : ∀ (l : List (List Int)) (m : Int), (l ≠ [] ∨ 0 ≤ m) → (decide (m < lngF l) = l.any fun x => decide (m < (x.length : Int))) := by
  have key : ∀ (l : List (List Int)) (a m : Int), decide (m < l.foldl (fun m x => if m < (x.length : Int) then (x.length : Int) else m) a) = (decide (m < a) || l.any fun x => decide (m < (x.length : Int))) := by
    intro l
    induction l with
    | nil => intro a m; rw [List.foldl_nil, List.any_nil, Bool.or_false]
    | cons y l ih =>
      intro a m
      rw [List.foldl_cons, ih, List.any_cons, ← Bool.or_assoc]
      congr 1
      rw [Bool.eq_iff_iff, Bool.or_eq_true, decide_eq_true_iff, decide_eq_true_iff, decide_eq_true_iff]
      split <;> omega
  intro l m h
  unfold lngF
  rw [key]
  rcases h with h | h
  · cases l with
    | nil => exact absurd rfl h
    | cons y l =>
      rw [List.any_cons, ← Bool.or_assoc]
      congr 1
      rw [Bool.eq_iff_iff, Bool.or_eq_true, decide_eq_true_iff, decide_eq_true_iff]
      omega
  · rw [decide_eq_false (by omega), Bool.false_or]
theorem linL_ne {s : List Int} (h : 0 < s.length) : linL s ≠ [] := by
  intro e
  have hj := join_split s
  rw [e] at hj
  have hw := (whlL_len s).1
  rw [← hj] at hw
  simp [linJ] at hw
  omega
/-- Are lines short enough, line by line? -/
def fitR (first most : Int) : List (List Int) → Bool
  | [] => true
  | x :: l => decide ((x.length : Int) ≤ most - first) && l.all fun x => decide ((x.length : Int) ≤ most)
theorem fitL_R {first most : Int} (h : 0 ≤ first) (l : List (List Int)) : fitL first most l = fitR first most l := by
  cases l with
  | nil => rfl
  | cons x l =>
    unfold fitL fitR
    rw [List.all_cons, List.head?_cons]
    dsimp only
    rw [Bool.eq_iff_iff]
    simp only [Bool.and_eq_true, decide_eq_true_iff]
    constructor
    · rintro ⟨⟨_, h2⟩, h3⟩; exact ⟨h3, h2⟩
    · rintro ⟨h3, h2⟩; exact ⟨⟨by omega, h2⟩, h3⟩
/-- The room of the next line. -/
def roomN (first most : Int) (k : Nat) : Int := if k = 0 then most - first else most
theorem fitR_snoc (first most : Int) (l : List (List Int)) (x : List Int) : fitR first most (l ++ [x]) = (fitR first most l && decide ((x.length : Int) ≤ roomN first most l.length)) := by
  cases l with
  | nil => simp [fitR, roomN]
  | cons y l => simp [fitR, roomN, Bool.and_assoc]
theorem fitR_pre {first most : Int} {l m : List (List Int)} (h : l <+: m) (hf : fitR first most l = false) : fitR first most m = false := by
  obtain ⟨t, rfl⟩ := h
  induction t generalizing l with
  | nil => rwa [List.append_nil]
  | cons x t ih => rw [List.append_cons]; exact ih (by rw [fitR_snoc, hf, Bool.false_and])
theorem fitB_R {s : List Int} {first most : Int} (h1 : 0 ≤ first) (h2 : 0 ≤ most) : fitB s first most = fitR first most (linL s) := by
  unfold fitB
  rw [if_neg (by omega), fitL_R h1]
end Go.Proofs.Ytbhmhpcabppgmaa
