/-
  Layer 18, in plain words: as the program goes (octet by octet, line by line).
-/
import Derived.Test.YtldmoopdffenfaaDoorD18c
import Derived.Test.YtldmoopdffenfaaDoorD02b
import Derived.Test.YtldmoopdffenfaaDoorNoCr
namespace Go.Proofs.YtldmoopdffenfaaDoor
open Go.RowKit
set_option linter.unusedVariables false

/-! ### octet by octet -/
/-- How long the break is that octets begin with, or 0. -/
def brkN : List Int → Nat
  | [] => 0
  | x :: r => if x = 13 ∧ r.head? = some 10 then 2 else if x = 13 ∨ x = 10 then 1 else 0
theorem brkN_cons (x : Int) (r : List Int) : brkN (x :: r) = if x = 13 ∧ r.head? = some 10 then 2 else if x = 13 ∨ x = 10 then 1 else 0 := rfl
theorem brkN_le (xs : List Int) : brkN xs ≤ xs.length := by
  cases xs with
  | nil => exact Nat.le_refl _
  | cons x r =>
    rw [brkN_cons]
    by_cases h : x = 13 ∧ r.head? = some 10
    · rw [if_pos h]
      cases r with
      | nil => cases h.2
      | cons y r => simp
    · rw [if_neg h]
      split <;> simp
theorem brkN_bd (xs : List Int) : brkN xs ≤ 2 := by
  cases xs with
  | nil => exact Nat.zero_le _
  | cons x r =>
    rw [brkN_cons]
    split
    · exact Nat.le_refl _
    · split <;> omega
theorem brkL_hit {xs : List Int} (h : 0 < brkN xs) : brkL xs = 13 :: 10 :: brkL (xs.drop (brkN xs)) := by
  cases xs with
  | nil => cases h
  | cons x r =>
    by_cases h2 : x = 13 ∧ r.head? = some 10
    · obtain ⟨rfl, hr⟩ := h2
      cases r with
      | nil => cases hr
      | cons y r =>
        simp only [List.head?_cons, Option.some.injEq] at hr
        subst hr
        rw [brkN_cons, if_pos ⟨rfl, rfl⟩]
        exact brk_two r
    · by_cases hx : x = 13 ∨ x = 10
      · rw [brkN_cons, if_neg h2, if_pos hx]
        exact brk_one hx h2
      · rw [brkN_cons, if_neg h2, if_neg hx] at h; cases h
theorem brkN_no {x : Int} {r : List Int} (h : brkN (x :: r) = 0) : x ≠ 13 ∧ x ≠ 10 := by
  rw [brkN_cons] at h
  by_cases h2 : x = 13 ∧ r.head? = some 10
  · rw [if_pos h2] at h; cases h
  · rw [if_neg h2] at h
    by_cases hx : x = 13 ∨ x = 10
    · rw [if_pos hx] at h; cases h
    · exact ⟨fun e => hx (.inl e), fun e => hx (.inr e)⟩
theorem brkL_miss {x : Int} {r : List Int} (h : brkN (x :: r) = 0) : brkL (x :: r) = x :: brkL r := brk_plain (brkN_no h).1 (brkN_no h).2 r
theorem brkL_head (r : List Int) : (brkL r).head? = some 13 ↔ 0 < brkN r := by
  constructor
  · intro h
    cases r with
    | nil => cases h
    | cons x r =>
      rcases Nat.eq_zero_or_pos (brkN (x :: r)) with h0 | h0
      · rw [brkL_miss h0] at h
        exact absurd (Option.some.inj h) (brkN_no h0).1
      · exact h0
  · intro h
    rw [brkL_hit h]; rfl
/-- What is laid, the line having m octets. -/
def lypQ (xs : List Int) (m : Nat) : List Int := layS (brkL xs) false m
theorem lypQ_nil (m : Nat) : lypQ [] m = if 0 < m then [61, 13, 10] else [] := rfl
theorem lypQ_hit {xs : List Int} (h : 0 < brkN xs) (m : Nat) : lypQ xs m = [13, 10] ++ lypQ (xs.drop (brkN xs)) 0 := by
  unfold lypQ
  rw [brkL_hit h, lay_cr]; rfl
theorem lypQ_unit {x : Int} {r : List Int} (h : brkN (x :: r) = 0) (m : Nat) : lypQ (x :: r) m =
    if 75 < m + (unitL x (decide (0 < brkN r))).length then [61, 13, 10] ++ (unitL x (decide (0 < brkN r)) ++ lypQ r (unitL x (decide (0 < brkN r))).length)
    else unitL x (decide (0 < brkN r)) ++ lypQ r (m + (unitL x (decide (0 < brkN r))).length) := by
  have e : decide ((brkL r).head? = some 13) = decide (0 < brkN r) := by rw [Bool.eq_iff_iff, decide_eq_true_eq, decide_eq_true_eq]; exact brkL_head r
  unfold lypQ
  rw [brkL_miss h, lay_unit (brkN_no h).1, e]; rfl
theorem unitL_wf {c : Int} (e : Bool) (h0 : 0 ≤ c) (h1 : c ≤ 255) : ∀ y ∈ unitL c e, (Lit.int .u8 y).wf = true := by
  intro y hy
  unfold unitL at hy
  split at hy
  · simp only [List.mem_cons, List.not_mem_nil, or_false] at hy
    subst hy
    exact mk_u8 h0 h1
  · exact dig3_wf 61 c (by decide) h0 h1 y hy

/-! ### line by line -/
theorem linS_open : ∀ (s acc : List Int), NoCr s s.length → linS s acc = [acc ++ s]
  | [], acc, _ => by rw [linS, List.append_nil]
  | x :: s, acc, h => by
    rw [lin_on acc h.head, linS_open s _ h.tail]; simp
theorem linS_cut : ∀ (i : Nat) (s acc : List Int), NoCr s i → s[i]? = some 13 → s[i + 1]? = some 10 → linS s acc = (acc ++ s.take i) :: linS (s.drop (i + 2)) []
  | 0, s, acc, _, h1, h2 => by
    match s, h1, h2 with
    | x :: y :: s, h1, h2 =>
      simp only [List.getElem?_cons_zero, Option.some.injEq, Nat.zero_add, List.getElem?_cons_succ] at h1 h2
      subst h1
      subst h2
      rw [lin_line]; simp
  | i + 1, s, acc, h, h1, h2 => by
    match s, h1, h2 with
    | x :: s, h1, h2 =>
      rw [lin_on acc h.head, linS_cut i s _ h.tail (by simpa using h1) (by simpa using h2)]; simp
theorem linA_cut {s : List Int} {i : Nat} (hn : NoCr s i) (h1 : s[i]? = some 13) (h2 : s[i + 1]? = some 10) : linA s = s.take i :: linA (s.drop (i + 2)) := by
  unfold linA
  rw [linS_cut i s [] hn h1 h2]; rfl
theorem linE_cut {s : List Int} {i : Nat} (hn : NoCr s i) (h1 : s[i]? = some 13) (h2 : s[i + 1]? = some 10) : linE s = linE (s.drop (i + 2)) ∧ linL s = s.take i :: linL (s.drop (i + 2)) := by
  have hA := linA_cut hn h1 h2
  have hne : linA (s.drop (i + 2)) ≠ [] := linS_ne _ _
  have hE : linE s = linE (s.drop (i + 2)) := by
    unfold linE
    rw [hA, List.getLast?_cons_of_ne_nil hne]
  refine ⟨hE, ?_⟩
  unfold linL
  rw [hE, hA, List.dropLast_cons_of_ne_nil hne]
  split <;> rfl
/-- A line's fault. -/
def faultI (l : List Int) (ends : Bool) : Int := if 76 < l.length then 12 else if ends = false then 4 else if rgtB l = true then 0 else 3
theorem chk_open {s : List Int} (h0 : 0 < s.length) (hn : NoCr s s.length) : checkQ s = faultI s false ∧ faultI s false ≠ 0 := by
  have hA : linA s = [s] := by unfold linA; rw [linS_open s [] hn]; rfl
  have hE : linE s = false := by
    unfold linE
    rw [hA]
    cases s with
    | nil => cases h0
    | cons x s => rfl
  have hL : linL s = [s] := by unfold linL; rw [hE, if_neg (by decide), hA]
  unfold checkQ faultI
  rw [hL, hE, chkQ]
  constructor
  · split
    · rfl
    · rw [if_pos ⟨rfl, rfl⟩, if_pos rfl]
  · split
    · decide
    · rw [if_pos rfl]; decide
theorem chk_cut {s : List Int} {i : Nat} (hn : NoCr s i) (h1 : s[i]? = some 13) (h2 : s[i + 1]? = some 10) : checkQ s = if faultI (s.take i) true = 0 then checkQ (s.drop (i + 2)) else faultI (s.take i) true := by
  obtain ⟨hE, hL⟩ := linE_cut hn h1 h2
  unfold checkQ faultI
  rw [hL, hE, chkQ]
  by_cases h76 : 76 < (s.take i).length
  · rw [if_pos h76, if_pos h76, if_neg (by decide)]
  · rw [if_neg h76, if_neg h76, if_neg (show ¬ (true = false) by decide)]
    have hne : ¬ (linL (s.drop (i + 2)) = [] ∧ linE (s.drop (i + 2)) = false) := by
      rintro ⟨hl, he⟩
      unfold linL at hl
      rw [he, if_neg (by decide)] at hl
      exact linS_ne _ _ hl
    rw [if_neg hne]
    by_cases hr : rgtB (s.take i) = true
    · rw [if_pos hr, if_pos hr, if_pos rfl]
    · rw [if_neg hr, if_neg hr, if_neg (by decide)]
theorem chk_nil : checkQ [] = 0 := rfl

/-! ### signs of a line -/
theorem kinds6 : ∀ n : Fin 256, isB 6 (n.val : Int) = (isB 2 (n.val : Int) || isB 4 (n.val : Int)) := by decide +kernel
theorem is6 {c : Int} (h0 : 0 ≤ c) (h1 : c ≤ 255) : isB 6 c = (isB 2 c || isB 4 c) := byte_fin (p := fun c => isB 6 c = (isB 2 c || isB 4 c)) kinds6 c h0 h1
theorem dig_cap {a : Int} (h : hexO a = true) : (digI (hexV a) = a) ↔ capB a = true := by
  unfold hexO at h
  simp only [Bool.or_eq_true, Bool.and_eq_true, decide_eq_true_eq] at h
  unfold capB digI hexV
  simp only [Bool.not_eq_true', Bool.and_eq_false_iff, decide_eq_false_iff_not]
  constructor
  · intro hh
    (repeat' split at hh) <;> omega
  · intro hh
    (repeat' split) <;> omega
theorem take3 {l : List Int} {i : Nat} {x a b : Int} (h0 : l[i]? = some x) (h1 : l[i + 1]? = some a) (h2 : l[i + 2]? = some b) : (l.drop i).take 3 = [x, a, b] := by
  have e : l.drop i = x :: a :: b :: l.drop (i + 3) := by
    have f : ∀ {k : Nat} {z : Int}, l[k]? = some z → l.drop k = z :: l.drop (k + 1) := by
      intro k z hz
      have hk := (List.getElem?_eq_some_iff.1 hz).1
      rw [List.drop_eq_getElem_cons hk, (List.getElem?_eq_some_iff.1 hz).2]
    rw [f h0, f h1, f h2]
  rw [e]; rfl
/-- An escape with capitals. -/
theorem esc_same (l : List Int) (i : Nat) : escAt l i = (takeOk l i 61 && ((l.drop i).take 3).all capB) := by
  unfold escAt
  cases hok : takeOk l i 61
  · rfl
  · rw [Bool.true_and, Bool.true_and]
    have hok' := hok
    unfold takeOk at hok'
    simp only [Bool.and_eq_true, decide_eq_true_eq, beq_iff_eq, Int.toNat_natCast] at hok'
    obtain ⟨⟨⟨⟨_, hl⟩, g0⟩, g1⟩, g2⟩ := hok'
    have hi : i + 2 < l.length := by omega
    have q0 : l[i]? = some 61 := by
      rw [List.getD_eq_getElem?_getD, List.getElem?_eq_getElem (by omega)] at g0
      rw [List.getElem?_eq_getElem (by omega)]
      exact congrArg some g0
    obtain ⟨x1, q1⟩ : ∃ x1, l[i + 1]? = some x1 := ⟨_, List.getElem?_eq_getElem (by omega)⟩
    obtain ⟨x2, q2⟩ : ∃ x2, l[i + 2]? = some x2 := ⟨_, List.getElem?_eq_getElem (by omega)⟩
    rw [List.getD_eq_getElem?_getD, q1] at g1
    rw [List.getD_eq_getElem?_getD, q2] at g2
    have g1' : hexO x1 = true := g1
    have g2' : hexO x2 = true := g2
    have hv : takeV l i 61 = 16 * hexV x1 + hexV x2 := by
      rw [(take_at q0 q1 q2).2, if_pos (by rw [g1', g2']; rfl)]
    have b1 := hexV_bd x1
    have b2 := hexV_bd x2
    rw [hv, take3 q0 q1 q2, esc_eq, show (16 * hexV x1 + hexV x2) / 16 = hexV x1 by omega, show (16 * hexV x1 + hexV x2) % 16 = hexV x2 by omega, Bool.eq_iff_iff, decide_eq_true_eq]
    have c1 := dig_cap g1'
    have c2 := dig_cap g2'
    simp only [List.cons.injEq, true_and, and_true, List.all_cons, List.all_nil, Bool.and_true, Bool.and_eq_true]
    rw [c1, c2]
    constructor
    · intro h; exact ⟨by decide, h⟩
    · intro h; exact h.2
/-- How far a line's signs may stand. -/
theorem sgn_bad {l : List Int} {i : Nat} {x : Int} (hx : l[i]? = some x) (h0 : 0 ≤ x) (h1 : x ≤ 255) : sgnOk l i = (isB 6 x && (if x = 61 ∧ i + 1 < l.length then escAt l i else true)) := by
  have e : l.getD i 0 = x := by rw [List.getD_eq_getElem?_getD, hx]; rfl
  unfold sgnOk
  rw [e, is6 h0 h1]

/-! ### lines that end softly -/
def sftA : List (List Int) → Nat
  | [] => 0
  | [_] => 0
  | l :: m :: r => (if l.getLast? = some 61 then 1 else 0) + sftA (m :: r)
theorem sftA_cons {r : List (List Int)} (l : List Int) (h : r ≠ []) : sftA (l :: r) = (if l.getLast? = some 61 then 1 else 0) + sftA r := by
  cases r with
  | nil => exact absurd rfl h
  | cons m r => rfl
theorem sft_open : ∀ A : List (List Int), sftQ A false = sftA A
  | [] => rfl
  | [l] => by rw [sftQ, if_neg (by rintro ⟨_, h | h⟩; · cases h
                                   · exact h rfl)]; rfl
  | l :: m :: r => by
    rw [sftQ, sft_open (m :: r), sftA]
    congr 1
    by_cases h : l.getLast? = some 61
    · rw [if_pos ⟨h, .inr (by simp)⟩, if_pos h]
    · rw [if_neg (fun hh => h hh.1), if_neg h]
theorem sft_shut : ∀ A : List (List Int), sftQ A.dropLast true = sftA A
  | [] => rfl
  | [l] => rfl
  | l :: m :: r => by
    rw [List.dropLast_cons_of_ne_nil (by simp), sft_cons, sft_shut (m :: r), sftA]
theorem soft_A (s : List Int) : softQ s = sftA (linA s) := by
  unfold softQ linL
  cases h : linE s
  · rw [if_neg (by decide)]; exact sft_open _
  · rw [if_pos rfl]; exact sft_shut _
/-- How often 61, 13, 10 stands; the octet ahead is p. -/
def c3 : List Int → Option Int → Nat
  | [], _ => 0
  | [_], _ => 0
  | x :: y :: r, p => if x = 13 ∧ y = 10 then (if p = some 61 then 1 else 0) + c3 r none else c3 (y :: r) (some x)
theorem sftA_c3 : ∀ (n : Nat) (s acc : List Int), s.length ≤ n → sftA (linS s acc) = c3 s acc.getLast?
  | _, [], acc, _ => rfl
  | _, [x], acc, _ => rfl
  | 0, x :: y :: r, acc, h => by simp at h
  | n + 1, x :: y :: r, acc, h => by
    simp only [List.length_cons] at h
    rw [c3]
    by_cases hh : x = 13 ∧ y = 10
    · obtain ⟨rfl, rfl⟩ := hh
      rw [if_pos ⟨rfl, rfl⟩, lin_line, sftA_cons _ (linS_ne _ _), sftA_c3 n r [] (by omega)]; rfl
    · rw [if_neg hh, linS, if_neg hh, sftA_c3 n (y :: r) _ (by simp only [List.length_cons]; omega), List.getLast?_concat]
theorem soft_c3 (s : List Int) : softQ s = c3 s none := by rw [soft_A]; exact sftA_c3 _ s [] (Nat.le_refl _)
/-- 61, 13, 10 at a place. -/
def At3 (s : List Int) (i : Nat) : Prop := s[i]? = some 61 ∧ s[i + 1]? = some 13 ∧ s[i + 2]? = some 10
theorem c3_none : ∀ (n : Nat) (s : List Int) (p : Option Int), s.length ≤ n → (∀ j, ¬ At3 s j) → ¬ (p = some 61 ∧ s[0]? = some 13 ∧ s[1]? = some 10) → c3 s p = 0
  | _, [], _, _, _, _ => rfl
  | _, [x], _, _, _, _ => rfl
  | 0, x :: y :: r, _, h, _, _ => by simp at h
  | n + 1, x :: y :: r, p, h, hn, hp => by
    simp only [List.length_cons] at h
    rw [c3]
    by_cases hh : x = 13 ∧ y = 10
    · obtain ⟨rfl, rfl⟩ := hh
      rw [if_pos ⟨rfl, rfl⟩, if_neg (fun e => hp ⟨e, rfl, rfl⟩), c3_none n r none (by omega) (fun j hj => hn (j + 2) hj) (fun e => by cases e.1)]
    · rw [if_neg hh]
      exact c3_none n (y :: r) (some x) (by simp only [List.length_cons]; omega) (fun j hj => hn (j + 1) hj) (fun e => hn 0 ⟨e.1, e.2.1, e.2.2⟩)
theorem c3_hit : ∀ (n : Nat) (s : List Int) (p : Option Int) (i : Nat), s.length ≤ n → At3 s i → (∀ j, j < i → ¬ At3 s j) → ¬ (p = some 61 ∧ s[0]? = some 13 ∧ s[1]? = some 10) → c3 s p = 1 + c3 (s.drop (i + 3)) none
  | _, [], _, _, _, h, _, _ => by cases h.1
  | _, [x], _, i, _, h, _, _ => by have := (List.getElem?_eq_some_iff.1 h.2.1).1; simp at this
  | 0, x :: y :: r, _, _, h, _, _, _ => by simp at h
  | n + 1, x :: y :: r, p, 0, h, h3, _, _ => by
    obtain ⟨e0, e1, e2⟩ := h3
    simp only [List.length_cons] at h
    match r, e2, h with
    | z :: r, f2, h =>
      simp only [List.getElem?_cons_zero, Option.some.injEq, Nat.zero_add, List.getElem?_cons_succ] at e0 e1 f2
      subst e0
      subst e1
      subst f2
      rw [c3, if_neg (by decide), c3, if_pos ⟨rfl, rfl⟩, if_pos rfl]; rfl
  | n + 1, x :: y :: r, p, i + 1, h, h3, hn, hp => by
    simp only [List.length_cons] at h
    rw [c3]
    by_cases hh : x = 13 ∧ y = 10
    · obtain ⟨rfl, rfl⟩ := hh
      match i, h3, hn with
      | 0, h3, _ => have := h3.1; simp at this
      | i + 1, h3, hn =>
        rw [if_pos ⟨rfl, rfl⟩, if_neg (fun e => hp ⟨e, rfl, rfl⟩), c3_hit n r none i (by omega) h3 (fun j hj hh => hn (j + 2) (by omega) hh) (fun e => by cases e.1), Nat.zero_add]; rfl
    · rw [if_neg hh, c3_hit n (y :: r) (some x) i (by simp only [List.length_cons]; omega) h3 (fun j hj hh => hn (j + 1) (by omega) hh) (fun e => hn 0 (by omega) ⟨e.1, e.2.1, e.2.2⟩)]; rfl
end Go.Proofs.YtldmoopdffenfaaDoor
