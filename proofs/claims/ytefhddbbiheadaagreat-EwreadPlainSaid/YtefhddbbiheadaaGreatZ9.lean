/-
  Texts of ours laid together: D14b, D02, Esq.
-/
import Derived.Test.YtefhddbbiheadaaGreatZ8

/-! D14b -/
namespace Go.Proofs.YtefhddbbiheadaaGreat
open Go.RowKit
set_option linter.unusedVariables false

theorem eqEnd_app {l : List Int} (h : ∀ x ∈ l, x ≠ 61) {p : Nat} (hp : p ≤ 2) : eqEnd (l ++ List.replicate p 61) = l.length := by
  have hl : ∀ i, i < l.length → (l ++ List.replicate p (61 : Int)).getD i 0 ≠ 61 := by
    intro i hi
    rw [List.getD_eq_getElem?_getD, List.getElem?_append_left hi, List.getElem?_eq_getElem hi]
    exact h _ (List.getElem_mem _)
  have hr : ∀ i, l.length ≤ i → i < l.length + p → (l ++ List.replicate p (61 : Int)).getD i 0 = 61 := by
    intro i h1 h2
    rw [List.getD_eq_getElem?_getD, List.getElem?_append_right h1, List.getElem?_replicate, if_pos (by omega)]
    rfl
  have hlen : (l ++ List.replicate p (61 : Int)).length = l.length + p := by rw [List.length_append, List.length_replicate]
  unfold eqEnd
  rw [hlen]
  have hq : p = 0 ∨ p = 1 ∨ p = 2 := by omega
  rcases hq with rfl | rfl | rfl
  · rw [if_neg]
    · rfl
    · rintro ⟨h1, h2⟩
      exact hl (l.length + 0 - 1) (by omega) h2
  · rw [if_pos ⟨by omega, hr _ (by omega) (by omega)⟩, if_neg]
    · rfl
    · rintro ⟨h1, h2⟩
      exact hl (l.length + 1 - 2) (by omega) h2
  · rw [if_pos ⟨by omega, hr _ (by omega) (by omega)⟩, if_pos ⟨by omega, hr _ (by omega) (by omega)⟩]
    rfl
theorem eqEnd_split (xs : List Int) : xs = xs.take (eqEnd xs) ++ List.replicate (xs.length - eqEnd xs) 61 ∧ xs.length - eqEnd xs ≤ 2 ∧ eqEnd xs ≤ xs.length := by
  have get : ∀ i, i < xs.length → xs[i]? = some (xs.getD i 0) := by
    intro i hi
    rw [List.getD_eq_getElem?_getD, List.getElem?_eq_getElem hi]; rfl
  have key : ∀ E, E ≤ xs.length → (∀ i, E ≤ i → i < xs.length → xs.getD i 0 = 61) → xs = xs.take E ++ List.replicate (xs.length - E) 61 := by
    intro E hE h
    refine List.ext_getElem? fun i => ?_
    by_cases hi : i < E
    · rw [List.getElem?_append_left (by rw [List.length_take]; omega), List.getElem?_take, if_pos hi]
    · rw [List.getElem?_append_right (by rw [List.length_take]; omega), List.length_take, List.getElem?_replicate]
      by_cases hi2 : i < xs.length
      · rw [if_pos (by omega), get i hi2, h i (by omega) hi2]
      · rw [if_neg (by omega), List.getElem?_eq_none (by omega)]
  unfold eqEnd
  split
  · rename_i h1
    split
    · rename_i h2
      refine ⟨key _ (by omega) fun i h3 h4 => ?_, by omega, by omega⟩
      have hq : i = xs.length - 1 ∨ i = xs.length - 2 := by omega
      rcases hq with rfl | rfl
      · exact h1.2
      · exact h2.2
    · refine ⟨key _ (by omega) fun i h3 h4 => ?_, by omega, by omega⟩
      obtain rfl : i = xs.length - 1 := by omega
      exact h1.2
  · exact ⟨key _ (Nat.le_refl _) fun i h3 h4 => by omega, by omega, Nat.le_refl _⟩
theorem dig_ne {c : Int} (h : isDig c = true) : c ≠ 61 := by
  rintro rfl
  rw [isDig_61] at h
  cases h
theorem bare_dig {xs : List Int} (h : ∀ x ∈ xs, O8 x) : (bareB xs).all isDig = true ∧ (bareB xs).map valI = v64 xs := by
  have hv := v64_bd xs h
  unfold bareB
  refine ⟨?_, ?_⟩
  · rw [List.all_map, List.all_eq_true]
    exact fun v hv' => (val_dig (hv v hv')).2
  · rw [List.map_map]
    conv => rhs; rw [← List.map_id (v64 xs)]
    exact List.map_congr_left fun v hv' => (val_dig (hv v hv')).1
/-- What is laid is read. -/
theorem cod_lay {xs : List Int} (h : ∀ x ∈ xs, O8 x) : codE (layB xs) = 0 ∧ codL (layB xs) = xs := by
  have hd := bare_dig h
  have hm := v64_mod xs
  have hbl : (bareB xs).length = (v64 xs).length := by unfold bareB; rw [List.length_map]
  have hE : eqEnd (layB xs) = (bareB xs).length := by
    unfold layB fill4
    refine eqEnd_app (fun x hx => dig_ne (List.all_eq_true.1 hd.1 x hx)) ?_
    rw [hbl]; omega
  have hD : codD (layB xs) = bareB xs := by
    unfold codD
    rw [hE]
    unfold layB fill4
    rw [List.take_left]
  have hl : (layB xs).length % 4 = 0 := by
    unfold layB fill4
    rw [List.length_append, List.length_replicate]; omega
  have hr := rd_v64 xs h
  have e : codE (layB xs) = 0 := by
    unfold codE
    rw [hD, if_pos hd.1, if_pos hl, hd.2, if_pos hr.2]
  refine ⟨e, ?_⟩
  unfold codL
  rw [if_pos e, hD, hd.2, hr.1]
theorem cod_ok {s : List Int} (h : codE s = 0) : (codD s).all isDig = true ∧ s.length % 4 = 0 ∧ ok64 ((codD s).map valI) = true ∧ codL s = rd64 ((codD s).map valI) := by
  have h' := h
  unfold codE at h
  split at h
  · rename_i h1
    split at h
    · rename_i h2
      split at h
      · rename_i h3
        exact ⟨h1, h2, h3, by unfold codL; rw [if_pos h']⟩
      · omega
    · omega
  · omega
theorem codD_v6 (s : List Int) : ∀ v ∈ (codD s).map valI, V6 v := by
  intro v hv
  obtain ⟨c, _, rfl⟩ := List.mem_map.1 hv
  exact val_bd c
/-- What is read is laid as the same. -/
theorem lay_cod {s : List Int} (h : codE s = 0) : layB (codL s) = s := by
  obtain ⟨h1, h2, h3, h4⟩ := cod_ok h
  obtain ⟨e1, e2, e3⟩ := eqEnd_split s
  have hl : (codD s).length = eqEnd s := by unfold codD; rw [List.length_take]; omega
  have hb : bareB (codL s) = codD s := by
    unfold bareB
    rw [h4, v_rd64 _ (codD_v6 s) h3 (by rw [List.length_map, hl]; omega), List.map_map]
    conv => rhs; rw [← List.map_id (codD s)]
    exact List.map_congr_left fun c hc => dig_of_val (List.all_eq_true.1 h1 c hc)
  unfold layB fill4
  rw [hb, hl, show (4 - eqEnd s % 4) % 4 = s.length - eqEnd s by omega]
  unfold codD
  exact e1.symm
theorem codL_o8 (s : List Int) : ∀ x ∈ codL s, O8 x := by
  intro x hx
  unfold codL at hx
  split at hx
  · exact rd64_bd _ (codD_v6 s) x hx
  · cases hx
theorem cod_no {s : List Int} (h : codE s ≠ 0) : codL s = [] := by unfold codL; rw [if_neg h]

/-! ### loosely -/
theorem dig_cod {s : List Int} (h : codE s = 0) : digL s = codD s := by
  obtain ⟨h1, h2, h3, h4⟩ := cod_ok h
  obtain ⟨e1, e2, e3⟩ := eqEnd_split s
  have hc : cutEq s = codD s := by
    unfold cutEq codD
    refine cut_at ?_ ?_
    · rw [List.all_eq_true]
      intro x hx
      exact decide_eq_true (dig_ne (List.all_eq_true.1 h1 x hx))
    · by_cases hE : eqEnd s = s.length
      · exact .inl (by omega)
      · refine .inr ⟨61, ?_, by decide⟩
        have hx : s[eqEnd s]? = (s.take (eqEnd s) ++ List.replicate (s.length - eqEnd s) 61)[eqEnd s]? := by rw [← e1]
        rw [hx, List.getElem?_append_right (by rw [List.length_take]; omega), List.getElem?_replicate, if_pos (by rw [List.length_take]; omega)]
  unfold digL
  rw [hc]
  exact List.filter_eq_self.2 fun x hx => List.all_eq_true.1 h1 x hx
theorem loo_cod {s : List Int} (h : codE s = 0) : looL s = codL s ∧ clnL s = s := by
  have e : looL s = codL s := by unfold looL; rw [dig_cod h, (cod_ok h).2.2.2]
  exact ⟨e, by unfold clnL; rw [e, lay_cod h]⟩
theorem looL_o8 (s : List Int) : ∀ x ∈ looL s, O8 x := rd64_bd _ (digL_v6 s)
theorem cod_cln (s : List Int) : codE (clnL s) = 0 ∧ codL (clnL s) = looL s ∧ clnL (clnL s) = clnL s := by
  have h := cod_lay (looL_o8 s)
  exact ⟨h.1, h.2, (loo_cod (s := clnL s) h.1).2⟩
/-- Whatever is put between the digits plays no part. -/
theorem dig_mixed {m d behind : List Int} (h1 : m.all noEq = true) (h2 : m.filter isDig = d) : digL (m ++ 61 :: behind) = d := by
  unfold digL cutEq
  have e : (m ++ 61 :: behind).takeWhile noEq = (m ++ 61 :: behind).take m.length := by
    refine cut_at ?_ (.inr ⟨61, by simp, by decide⟩)
    rw [List.take_left]; exact h1
  rw [e, List.take_left, h2]
theorem loo_mixed {m s behind : List Int} (h1 : m.all noEq = true) (h2 : m.filter isDig = digL s) : looL (m ++ 61 :: behind) = looL s ∧ digL (m ++ 61 :: behind) = digL s := by
  have e := dig_mixed (behind := behind) h1 h2
  exact ⟨by unfold looL; rw [e], e⟩
end Go.Proofs.YtefhddbbiheadaaGreat

/-! D02 -/
namespace Go.Proofs.YtefhddbbiheadaaGreat
open Go.RowKit

/-- The digit of a number from 0 to 15. -/
def digI (k : Int) : Int := if k < 10 then 48 + k else 55 + k
/-- A digit's number (0 of what is none), and whether it is one. -/
def hexV (c : Int) : Int := if 48 ≤ c ∧ c ≤ 57 then c - 48 else if 65 ≤ c ∧ c ≤ 70 then c - 55 else if 97 ≤ c ∧ c ≤ 102 then c - 87 else 0
def hexO (c : Int) : Bool := (decide (48 ≤ c) && decide (c ≤ 57)) || (decide (65 ≤ c) && decide (c ≤ 70)) || (decide (97 ≤ c) && decide (c ≤ 102))

theorem digI_bd (k : Int) (h0 : 0 ≤ k) (h1 : k ≤ 15) : 48 ≤ digI k ∧ digI k ≤ 70 := by unfold digI; split <;> omega
theorem hexV_bd (c : Int) : 0 ≤ hexV c ∧ hexV c ≤ 15 := by unfold hexV; (repeat' split) <;> omega
theorem dig_wf (k : Int) (h0 : 0 ≤ k) (h1 : k ≤ 15) : (Lit.int .u8 (digI k)).wf = true := mk_u8 (by have := digI_bd k h0 h1; omega) (by have := digI_bd k h0 h1; omega)

/-- Is the k-th digit (small or capital) this octet? -/
def digM (k c : Int) : Bool := (digI k == c) || (decide (10 ≤ k) && (digI k + 32 == c))
theorem digM_hit (k c : Int) (hk0 : 0 ≤ k) (hk1 : k ≤ 15) (h : digM k c = true) : hexV c = k ∧ hexO c = true := by
  unfold digM digI at h
  simp only [Bool.or_eq_true, beq_iff_eq, Bool.and_eq_true, decide_eq_true_eq] at h
  unfold hexV hexO
  constructor
  · (repeat' split) <;> (split at h <;> omega)
  · simp only [Bool.or_eq_true, Bool.and_eq_true, decide_eq_true_eq]
    split at h <;> omega
theorem digM_none (c : Int) (h : ∀ j : Nat, j < 16 → digM j c = false) : hexV c = 0 ∧ hexO c = false := by
  have hn : ¬ hexO c = true := by
    intro ho
    unfold hexO at ho
    simp only [Bool.or_eq_true, Bool.and_eq_true, decide_eq_true_eq] at ho
    have := h (hexV c).toNat (by have := hexV_bd c; omega)
    rw [Bool.eq_false_iff] at this
    apply this
    have e : (((hexV c).toNat : Nat) : Int) = hexV c := by have := hexV_bd c; omega
    rw [e]
    unfold digM digI hexV
    simp only [Bool.or_eq_true, beq_iff_eq, Bool.and_eq_true, decide_eq_true_eq]
    (repeat' split) <;> omega
  refine ⟨?_, by simpa using hn⟩
  unfold hexO at hn
  simp only [Bool.or_eq_true, Bool.and_eq_true, decide_eq_true_eq] at hn
  unfold hexV
  (repeat' split) <;> omega

theorem digM_next {k : Nat} {c : Int} (hn : ∀ j : Nat, j < k → digM j c = false) (h : digM k c = false) (j : Nat) (hj : j < k + 1) : digM j c = false := by
  rcases Nat.lt_or_ge j k with h' | h'
  · exact hn j h'
  · rw [show j = k by omega]; exact h
theorem digM_a {k c : Int} (h : digI k = c) : digM k c = true := by simp [digM, h]
theorem digM_b {k c : Int} (h : (digI k == c) = true ∨ (digI k + 32 == c) = true) (hk : 10 ≤ k) : digM k c = true := by
  rcases h with h | h <;> simp [digM, h, hk]
theorem digM_na {k c : Int} (h : (digI k == c) = false) (hk : ¬ 10 ≤ k) : digM k c = false := by simp [digM, h, hk]
theorem digM_nb {k c : Int} (h : (digI k == c) = false ∧ (digI k + 32 == c) = false) : digM k c = false := by simp [digM, h.1, h.2]
theorem hexV_dig (k : Int) (h0 : 0 ≤ k) (h1 : k ≤ 15) : hexV (digI k) = k ∧ hexO (digI k) = true :=
  digM_hit k _ h0 h1 (by simp [digM])

/-- An octet's escape behind a text. -/
def escI (xs : List Int) (sign c : Int) : List Int := xs ++ [sign, digI (c / 16), digI (c % 16)]
/-- The octet of the escape at a place. -/
def takeOk (xs : List Int) (at_ sign : Int) : Bool :=
  decide (0 ≤ at_) && decide (at_ ≤ (xs.length : Int) - 3) && (xs.getD at_.toNat 0 == sign) && hexO (xs.getD (at_.toNat + 1) 0) && hexO (xs.getD (at_.toNat + 2) 0)
def takeV (xs : List Int) (at_ sign : Int) : Int := if takeOk xs at_ sign = true then 16 * hexV (xs.getD (at_.toNat + 1) 0) + hexV (xs.getD (at_.toNat + 2) 0) else 0

/-- Two digits of each octet. -/
def layH (xs : List Int) : List Int := xs.flatMap fun x => [digI (x / 16), digI (x % 16)]
theorem layH_snoc (xs : List Int) (x : Int) : layH (xs ++ [x]) = layH xs ++ [digI (x / 16), digI (x % 16)] := by simp [layH]
theorem layH_len (xs : List Int) : (layH xs).length = 2 * xs.length := by
  induction xs with
  | nil => rfl
  | cons x xs ih => simp only [layH, List.flatMap_cons, List.length_append, List.length_cons, List.length_nil] at ih ⊢; omega

/-- The octets of digits. -/
def pairs : List Int → List Int
  | a :: b :: r => (16 * hexV a + hexV b) :: pairs r
  | _ => []
theorem pairs_snoc : ∀ (n : Nat) (l : List Int) (a b : Int), l.length = 2 * n → pairs (l ++ [a, b]) = pairs l ++ [16 * hexV a + hexV b]
  | 0, l, a, b, h => by
    obtain rfl : l = [] := List.eq_nil_of_length_eq_zero (by omega)
    rfl
  | n + 1, l, a, b, h => by
    match l, h with
    | x :: y :: l, h =>
      simp only [List.cons_append, pairs]
      rw [pairs_snoc n l a b (by simp at h; omega)]
theorem pairs_len : ∀ (n : Nat) (l : List Int), l.length = 2 * n → (pairs l).length = n
  | 0, l, h => by
    obtain rfl : l = [] := List.eq_nil_of_length_eq_zero (by omega)
    rfl
  | n + 1, l, h => by
    match l, h with
    | x :: y :: l, h =>
      simp only [pairs, List.length_cons]
      rw [pairs_len n l (by simp at h; omega)]
/-- What reading answers: the octets, the error's number. -/
def readE (xs : List Int) : Int := if xs.all hexO = true then (if xs.length % 2 = 0 then 0 else 4) else 3
def readV (xs : List Int) : List Int := if xs.all hexO = true then (if xs.length % 2 = 0 then pairs xs else []) else []

theorem read_form {xs : List Int} (h : xs.all hexO = false) : readE xs = 3 ∧ readV xs = [] := by simp [readE, readV, h]
theorem read_odd {xs : List Int} (h : xs.all hexO = true) (h2 : xs.length % 2 ≠ 0) : readE xs = 4 ∧ readV xs = [] := by simp [readE, readV, h, h2]
theorem read_ok {xs : List Int} (h : xs.all hexO = true) (h2 : xs.length % 2 = 0) : readE xs = 0 ∧ readV xs = pairs xs := by simp [readE, readV, h, h2]
theorem take_two {xs : List Int} {k : Nat} {x y : Int} (hx : xs.take (k + 1) = xs.take k ++ [x]) (hy : xs.take (k + 1 + 1) = xs.take (k + 1) ++ [y]) : xs.take (k + 2) = xs.take k ++ [x, y] := by
  rw [show k + 2 = k + 1 + 1 by omega, hy, hx]; simp
theorem pairs_next {xs : List Int} {j : Nat} {x y : Int} (hj : 2 * j ≤ xs.length) (hx : xs.take (2 * j + 1) = xs.take (2 * j) ++ [x]) (hy : xs.take (2 * j + 1 + 1) = xs.take (2 * j + 1) ++ [y]) :
    pairs (xs.take (2 * (j + 1))) = pairs (xs.take (2 * j)) ++ [16 * hexV x + hexV y] := by
  rw [show 2 * (j + 1) = 2 * j + 2 by omega, take_two hx hy, pairs_snoc j _ _ _ (by simp; omega)]
theorem pair_wf (x y : Int) : (Lit.int .u8 (16 * hexV x + hexV y)).wf = true := by
  have h1 := hexV_bd x; have h2 := hexV_bd y
  exact mk_u8 (by omega) (by omega)

theorem dig2_wf (x : Int) (h0 : 0 ≤ x) (h1 : x ≤ 255) (y : Int) (hy : y ∈ [digI (x / 16), digI (x % 16)]) : (Lit.int .u8 y).wf = true := by
  simp only [List.mem_cons, List.not_mem_nil, or_false] at hy
  rcases hy with rfl | rfl
  · exact dig_wf _ (by omega) (by omega)
  · exact dig_wf _ (by omega) (by omega)
theorem dig3_wf (s x : Int) (hs : (Lit.int .u8 s).wf = true) (h0 : 0 ≤ x) (h1 : x ≤ 255) (y : Int) (hy : y ∈ [s, digI (x / 16), digI (x % 16)]) : (Lit.int .u8 y).wf = true := by
  rcases List.mem_cons.1 hy with rfl | hy
  · exact hs
  · exact dig2_wf x h0 h1 y hy
theorem take_at {xs : List Int} {k : Nat} {x0 x1 x2 s : Int} (h0 : xs[k]? = some x0) (h1 : xs[k + 1]? = some x1) (h2 : xs[k + 2]? = some x2) :
    takeOk xs k s = ((x0 == s) && hexO x1 && hexO x2) ∧ takeV xs k s = if ((x0 == s) && hexO x1 && hexO x2) = true then 16 * hexV x1 + hexV x2 else 0 := by
  have hl : k + 2 < xs.length := (List.getElem?_eq_some_iff.1 h2).1
  have e : takeOk xs k s = ((x0 == s) && hexO x1 && hexO x2) := by
    unfold takeOk
    have e1 : decide ((k : Int) ≤ (xs.length : Int) - 3) = true := decide_eq_true (by omega)
    have e2 : decide (0 ≤ (k : Int)) = true := decide_eq_true (by omega)
    rw [e1, e2, Int.toNat_natCast]
    simp [List.getD_eq_getElem?_getD, h0, h1, h2]
  refine ⟨e, ?_⟩
  unfold takeV
  rw [e]
  simp [List.getD_eq_getElem?_getD, h1, h2]
theorem take_out {xs : List Int} {k s : Int} (h : k < 0 ∨ (xs.length : Int) - 3 < k) : takeOk xs k s = false ∧ takeV xs k s = 0 := by
  have e : takeOk xs k s = false := by
    unfold takeOk
    rcases h with h | h
    · simp [show ¬ 0 ≤ k by omega]
    · simp [show ¬ k ≤ (xs.length : Int) - 3 by omega]
  exact ⟨e, by unfold takeV; simp [e]⟩

end Go.Proofs.YtefhddbbiheadaaGreat

/-! Esq -/
namespace Go.Proofs.YtefhddbbiheadaaGreat
open Go.RowKit
set_option linter.unusedVariables false

/-- The octet of the escape that a row begins with. -/
def escP (sign : Int) : List Int → Option Int
  | x :: a :: b :: _ => if x = sign ∧ hexO a = true ∧ hexO b = true then some (16 * hexV a + hexV b) else none
  | _ => none
theorem take_esc {xs : List Int} {k : Nat} (s : Int) (hk : k ≤ xs.length) : takeOk xs k s = (escP s (xs.drop k)).isSome ∧ takeV xs k s = (escP s (xs.drop k)).getD 0 := by
  have ek : ((k : Nat) : Int).toNat = k := by omega
  have e1 : k + 1 - k = 1 := by omega
  by_cases h3 : k + 3 ≤ xs.length
  · have e : xs.drop k = xs[k] :: xs[k + 1] :: xs[k + 2] :: xs.drop (k + 3) := by
      rw [List.drop_eq_getElem_cons (by omega), List.drop_eq_getElem_cons (by omega), List.drop_eq_getElem_cons (by omega)]
    have g : ∀ j (hj : j < xs.length), xs.getD j 0 = xs[j] := fun j hj => by rw [List.getD_eq_getElem?_getD, List.getElem?_eq_getElem hj]; rfl
    have hok : takeOk xs k s = decide (xs[k] = s ∧ hexO xs[k + 1] = true ∧ hexO xs[k + 2] = true) := by
      unfold takeOk
      rw [ek, g k (by omega), g (k + 1) (by omega), g (k + 2) (by omega), decide_eq_true (show (0 : Int) ≤ (k : Int) by omega), decide_eq_true (show (k : Int) ≤ (xs.length : Int) - 3 by omega), Bool.eq_iff_iff]
      simp [Bool.and_eq_true, and_assoc]
    rw [e, escP, hok]
    unfold takeV
    rw [hok, ek, g (k + 1) (by omega), g (k + 2) (by omega)]
    by_cases h : xs[k] = s ∧ hexO xs[k + 1] = true ∧ hexO xs[k + 2] = true
    · rw [if_pos h, decide_eq_true h]; exact ⟨rfl, rfl⟩
    · rw [if_neg h, decide_eq_false h]; exact ⟨rfl, rfl⟩
  · have h := take_out (xs := xs) (k := (k : Int)) (s := s) (.inr (by omega))
    have hl : (xs.drop k).length < 3 := by rw [List.length_drop]; omega
    have hn : escP s (xs.drop k) = none := by
      match xs.drop k, hl with
      | [], _ => rfl
      | [_], _ => rfl
      | [_, _], _ => rfl
    rw [h.1, h.2, hn]
    exact ⟨rfl, rfl⟩
theorem hexV_le (c : Int) : 0 ≤ hexV c ∧ hexV c ≤ 15 := hexV_bd c
theorem escP_bd {s : Int} {xs : List Int} {v : Int} (h : escP s xs = some v) : 0 ≤ v ∧ v ≤ 255 ∧ ∃ x a b r, xs = x :: a :: b :: r ∧ x = s := by
  match xs, h with
  | x :: a :: b :: r, h =>
    rw [escP] at h
    split at h
    · rename_i hh
      have h1 := hexV_bd a
      have h2 := hexV_bd b
      have := Option.some.inj h
      exact ⟨by omega, by omega, x, a, b, r, rfl, hh.1⟩
    · cases h
/-- What is read (skip: how many are still to be passed over); how many signs are none of an escape; is all else such? -/
def rdE (s : Int) (f : Int → Int) : List Int → Nat → List Int
  | [], _ => []
  | _ :: r, k + 1 => rdE s f r k
  | x :: r, 0 => match escP s (x :: r) with | some v => v :: rdE s f r 2 | none => f x :: rdE s f r 0
def stE (s : Int) : List Int → Nat → Nat
  | [], _ => 0
  | _ :: r, k + 1 => stE s r k
  | x :: r, 0 => match escP s (x :: r) with | some _ => stE s r 2 | none => (if x = s then 1 else 0) + stE s r 0
def riE (s : Int) (g : Int → Bool) : List Int → Nat → Bool
  | [], _ => true
  | _ :: r, k + 1 => riE s g r k
  | x :: r, 0 => match escP s (x :: r) with | some _ => riE s g r 2 | none => g x && riE s g r 0
theorem rdE_skip (s : Int) (f : Int → Int) : ∀ (r : List Int) (k : Nat), rdE s f r k = rdE s f (r.drop k) 0
  | [], k => by simp [rdE]
  | _ :: r, 0 => rfl
  | _ :: r, k + 1 => by rw [rdE, rdE_skip s f r k, List.drop_succ_cons]
theorem stE_skip (s : Int) : ∀ (r : List Int) (k : Nat), stE s r k = stE s (r.drop k) 0
  | [], k => by simp [stE]
  | _ :: r, 0 => rfl
  | _ :: r, k + 1 => by rw [stE, stE_skip s r k, List.drop_succ_cons]
theorem riE_skip (s : Int) (g : Int → Bool) : ∀ (r : List Int) (k : Nat), riE s g r k = riE s g (r.drop k) 0
  | [], k => by simp [riE]
  | _ :: r, 0 => rfl
  | _ :: r, k + 1 => by rw [riE, riE_skip s g r k, List.drop_succ_cons]
theorem rdE_esc {s : Int} {f : Int → Int} {x v : Int} {r : List Int} (h : escP s (x :: r) = some v) : rdE s f (x :: r) 0 = v :: rdE s f (r.drop 2) 0 := by
  rw [rdE, h]; simp only; rw [rdE_skip]
theorem rdE_on {s : Int} {f : Int → Int} {x : Int} {r : List Int} (h : escP s (x :: r) = none) : rdE s f (x :: r) 0 = f x :: rdE s f r 0 := by
  rw [rdE, h]
theorem stE_esc {s x v : Int} {r : List Int} (h : escP s (x :: r) = some v) : stE s (x :: r) 0 = stE s (r.drop 2) 0 := by
  rw [stE, h]; simp only; rw [stE_skip]
theorem stE_on {s x : Int} {r : List Int} (h : escP s (x :: r) = none) : stE s (x :: r) 0 = (if x = s then 1 else 0) + stE s r 0 := by
  rw [stE, h]
theorem riE_esc {s x v : Int} {g : Int → Bool} {r : List Int} (h : escP s (x :: r) = some v) : riE s g (x :: r) 0 = riE s g (r.drop 2) 0 := by
  rw [riE, h]; simp only; rw [riE_skip]
theorem riE_on {s x : Int} {g : Int → Bool} {r : List Int} (h : escP s (x :: r) = none) : riE s g (x :: r) 0 = (g x && riE s g r 0) := by
  rw [riE, h]
theorem rdE_len (s : Int) (f : Int → Int) : ∀ (xs : List Int) (k : Nat), (rdE s f xs k).length ≤ xs.length
  | [], k => by simp [rdE]
  | _ :: r, k + 1 => by rw [rdE]; have := rdE_len s f r k; simp only [List.length_cons]; omega
  | x :: r, 0 => by
    rw [rdE]
    split
    · have := rdE_len s f r 2; simp only [List.length_cons]; omega
    · have := rdE_len s f r 0; simp only [List.length_cons]; omega
theorem stE_le (s : Int) : ∀ (xs : List Int) (k : Nat), stE s xs k ≤ xs.length
  | [], k => by simp [stE]
  | _ :: r, k + 1 => by rw [stE]; have := stE_le s r k; simp only [List.length_cons]; omega
  | x :: r, 0 => by
    rw [stE]
    split
    · have := stE_le s r 2; simp only [List.length_cons]; omega
    · have := stE_le s r 0; simp only [List.length_cons]; split <;> omega
theorem rdE_bd (s : Int) (f : Int → Int) (hf : ∀ x, 0 ≤ x ∧ x ≤ 255 → 0 ≤ f x ∧ f x ≤ 255) : ∀ (xs : List Int) (k : Nat), (∀ x ∈ xs, 0 ≤ x ∧ x ≤ 255) → ∀ y ∈ rdE s f xs k, 0 ≤ y ∧ y ≤ 255
  | [], k, _, y, hy => by simp [rdE] at hy
  | _ :: r, k + 1, h, y, hy => by
    rw [rdE] at hy
    exact rdE_bd s f hf r k (fun z hz => h z (by simp [hz])) y hy
  | x :: r, 0, h, y, hy => by
    rw [rdE] at hy
    split at hy
    · rename_i v hv
      simp only [List.mem_cons] at hy
      rcases hy with rfl | hy
      · have := escP_bd hv; exact ⟨this.1, this.2.1⟩
      · exact rdE_bd s f hf r 2 (fun z hz => h z (by simp [hz])) y hy
    · simp only [List.mem_cons] at hy
      rcases hy with rfl | hy
      · exact hf x (h x (by simp))
      · exact rdE_bd s f hf r 0 (fun z hz => h z (by simp [hz])) y hy
/-- Codes side by side: an escape's, or a plain octet's, is read as that octet. -/
theorem escP_put {s c : Int} (hs : True) (h0 : 0 ≤ c) (h1 : c ≤ 255) (r : List Int) : escP s (escI [] s c ++ r) = some c := by
  have d1 := hexV_dig (c / 16) (by omega) (by omega)
  have d2 := hexV_dig (c % 16) (by omega) (by omega)
  show escP s (s :: digI (c / 16) :: digI (c % 16) :: r) = some c
  rw [escP, if_pos ⟨rfl, d1.2, d2.2⟩, d1.1, d2.1]
  congr 1
  omega
theorem escP_ne {s x : Int} (h : x ≠ s) (r : List Int) : escP s (x :: r) = none := by
  match r with
  | [] => rfl
  | [_] => rfl
  | a :: b :: r => rw [escP, if_neg (fun hh => h hh.1)]
end Go.Proofs.YtefhddbbiheadaaGreat
