/-
  Texts of ours laid together: D31, D31b.
-/
import Derived.Test.YtdglnpkkfkagaaaGreatZ41

/-! D31 -/
namespace Go.Proofs.YtdglnpkkfkagaaaGreat
open Go.RowKit
set_option linter.unusedVariables false

/-- The pieces, if each one has a sign. -/
def cutP (n k : Int) (t : List Int) (r : Int) : Option (List (List Int)) :=
  if ht : t = [] then some [] else if hp : ewcP n k t r = 0 then none else (cutP n k (t.drop (ewcP n k t r)) 75).map (t.take (ewcP n k t r) :: ·)
termination_by t.length
decreasing_by
  have := List.length_pos_iff.2 ht
  rw [List.length_drop]
  omega
def cutE (n k : Int) (t : List Int) (r : Int) : Int := if ewcE n k t = 0 then (if (cutP n k t r).isSome = true then 0 else 12) else ewcE n k t
def ctL (n k : Int) (t : List Int) (r : Int) : List (List Int) := if ewcE n k t = 0 then (cutP n k t r).getD [] else []
/-- How a text is laid: the code (the charset, and the error, are layer 12's). -/
def hwC (t : List Int) : Int := if selE t = 0 then ewcB (selN t) t else 0
def wrdE (t : List Int) (r : Int) : Int := if selE t = 0 then cutE (selN t) (hwC t) t r else selE t
def wrdL (t : List Int) (r : Int) : List (List Int) := if wrdE t r = 0 then (ctL (selN t) (hwC t) t r).map fun p => ewL (selN t) (hwC t) (layL (selN t) p) else []
def jnF : List (List Int) → List Int
  | [] => []
  | w :: r => w ++ r.flatMap fun x => [13, 10, 32] ++ x

theorem cutP_nil (n k r : Int) : cutP n k [] r = some [] := by rw [cutP, dif_pos rfl]
theorem cutP_no {n k : Int} {t : List Int} {r : Int} (h : t ≠ []) (hp : ewcP n k t r = 0) : cutP n k t r = none := by rw [cutP, dif_neg h, dif_pos hp]
theorem cutP_on {n k : Int} {t : List Int} {r : Int} (h : t ≠ []) (hp : ewcP n k t r ≠ 0) : cutP n k t r = (cutP n k (t.drop (ewcP n k t r)) 75).map (t.take (ewcP n k t r) :: ·) := by rw [cutP, dif_neg h, dif_neg hp]
theorem ewcF_75 {n k : Int} {t : List Int} {r : Int} (h : ewcF n k t r = true) : ewcF n k t 75 = true := by
  obtain ⟨h1, h2, h3, h4⟩ := ewcF_iff.1 h
  exact ewcF_iff.2 ⟨h1, h2, h4, h4⟩
/-- Pieces are the text, none is empty, each fits; the first one the first room (P31.3). -/
theorem cutP_all (n k : Int) : ∀ (m : Nat) (t : List Int) (r : Int) (L : List (List Int)), t.length ≤ m → cutP n k t r = some L → L.flatten = t ∧ (∀ p ∈ L, p ≠ [] ∧ ewcF n k p 75 = true) ∧ (∀ p, L.head? = some p → ewcF n k p r = true) ∧ L.length ≤ t.length
  | 0, t, r, L, hm, h => by
    obtain rfl : t = [] := List.eq_nil_of_length_eq_zero (by omega)
    rw [cutP_nil] at h
    obtain rfl : [] = L := Option.some.inj h
    exact ⟨rfl, fun p hp => (by cases hp), fun p hp => (by cases hp), Nat.le_refl _⟩
  | m + 1, t, r, L, hm, h => by
    by_cases ht : t = []
    · subst ht
      rw [cutP_nil] at h
      obtain rfl : [] = L := Option.some.inj h
      exact ⟨rfl, fun p hp => (by cases hp), fun p hp => (by cases hp), Nat.le_refl _⟩
    · by_cases hp : ewcP n k t r = 0
      · rw [cutP_no ht hp] at h; cases h
      · rw [cutP_on ht hp] at h
        obtain ⟨L', h1, rfl⟩ := Option.map_eq_some_iff.1 h
        have hle := ewcP_le n k t r
        obtain ⟨i1, i2, _, i4⟩ := cutP_all n k m (t.drop (ewcP n k t r)) 75 L' (by rw [List.length_drop]; omega) h1
        have hf := ewcP_ok (n := n) (k := k) (t := t) (r := r) (by omega)
        have hne := (ewcF_iff.1 hf).2.1
        rw [List.length_drop] at i4
        refine ⟨by rw [List.flatten_cons, i1, List.take_append_drop], fun p hp' => ?_, fun p hp' => ?_, by rw [List.length_cons]; omega⟩
        · rcases List.mem_cons.1 hp' with rfl | hp'
          · exact ⟨hne, ewcF_75 hf⟩
          · exact i2 p hp'
        · rw [List.head?_cons] at hp'
          obtain rfl := Option.some.inj hp'
          exact hf
theorem cut_ok {n k : Int} {t : List Int} {r : Int} (h : cutE n k t r = 0) : ewcE n k t = 0 ∧ cutP n k t r = some (ctL n k t r) := by
  unfold cutE at h
  by_cases h1 : ewcE n k t = 0
  · rw [if_pos h1] at h
    refine ⟨h1, ?_⟩
    unfold ctL
    rw [if_pos h1]
    cases hc : cutP n k t r with
    | none => rw [hc] at h; exact absurd h (by decide)
    | some L => rfl
  · rw [if_neg h1] at h; exact absurd h h1
theorem ct_no {n k : Int} {t : List Int} {r : Int} (h : cutE n k t r ≠ 0) : ctL n k t r = [] := by
  unfold cutE at h
  unfold ctL
  by_cases h1 : ewcE n k t = 0
  · rw [if_pos h1] at h ⊢
    cases hc : cutP n k t r with
    | none => rfl
    | some L => rw [hc] at h; exact absurd rfl h
  · rw [if_neg h1]
theorem cutL_len (n k : Int) (t : List Int) (r : Int) : (ctL n k t r).length ≤ t.length := by
  by_cases h : cutE n k t r = 0
  · exact (cutP_all n k _ t r _ (Nat.le_refl _) (cut_ok h).2).2.2.2
  · rw [ct_no h]; exact Nat.zero_le _
theorem layL_o8 (n : Int) (t : List Int) : ∀ x ∈ layL n t, O8 x := by
  intro x hx
  unfold layL at hx
  split at hx
  · obtain ⟨c, _, hc⟩ := List.mem_flatMap.1 hx
    have := wf_u8 (octR_wf n c x hc)
    exact ⟨this.1, this.2⟩
  · cases hx
/-- A piece that fits, laid, and read. -/
theorem piece_word {n k : Int} {p : List Int} (h : ewcF n k p 75 = true) :
    ewLE n k (layL n p) = 0 ∧ ewE (ewL n k (layL n p)) = 0 ∧ ewS (ewL n k (layL n p)) = true ∧ ewH (ewL n k (layL n p)) = n ∧ ewR (ewL n k (layL n p)) = p ∧ (ewL n k (layL n p)).length ≤ 75 ∧ ((ewL n k (layL n p)).length : Int) = ewcL n k p := by
  obtain ⟨h1, h2, h3, h4⟩ := ewcF_iff.1 h
  obtain ⟨q1, q2, q3, q4, q5⟩ := ewcE_zero h1
  obtain ⟨l1, l2⟩ := ewc_laid h1
  have hE := l2 h2 h4
  obtain ⟨e1, e2, e3, e4, e5⟩ := ew_back (layL_o8 n p) hE
  refine ⟨hE, e1, e2, e3, ?_, e5, l1 hE⟩
  rw [e4, q5]
  exact (read_laid q1 q3).1
/-- Words are strict, short enough, and read one behind the other they are the text (P31.4). -/
theorem wrd_all {t : List Int} {r : Int} (h : wrdE t r = 0) :
    (∀ w ∈ wrdL t r, ewE w = 0 ∧ ewS w = true ∧ ewH w = selN t ∧ w.length ≤ 75) ∧ (∀ w, (wrdL t r).head? = some w → (w.length : Int) ≤ r) ∧ (wrdL t r).flatMap ewR = t ∧ (wrdL t r).length ≤ t.length := by
  have h' := h
  unfold wrdE at h'
  by_cases hs : selE t = 0
  · rw [if_pos hs] at h'
    obtain ⟨c1, c2⟩ := cut_ok h'
    obtain ⟨p1, p2, p3, p4⟩ := cutP_all _ _ _ t r _ (Nat.le_refl _) c2
    have e : wrdL t r = (ctL (selN t) (hwC t) t r).map fun p => ewL (selN t) (hwC t) (layL (selN t) p) := by unfold wrdL; rw [if_pos h]
    rw [e]
    refine ⟨fun w hw => ?_, fun w hw => ?_, ?_, by rw [List.length_map]; exact p4⟩
    · obtain ⟨p, hp, rfl⟩ := List.mem_map.1 hw
      obtain ⟨_, e1, e2, e3, _, e5, _⟩ := piece_word (p2 p hp).2
      exact ⟨e1, e2, e3, e5⟩
    · rw [List.head?_map] at hw
      obtain ⟨p, hp, rfl⟩ := Option.map_eq_some_iff.1 hw
      have hf := p3 p hp
      obtain ⟨_, _, _, _, _, _, e7⟩ := piece_word (ewcF_75 hf)
      rw [e7]
      exact (ewcF_iff.1 hf).2.2.1
    · rw [List.flatMap_map]
      conv => rhs; rw [← p1]
      have key : ∀ L : List (List Int), (∀ p ∈ L, ewR (ewL (selN t) (hwC t) (layL (selN t) p)) = p) → L.flatMap (fun p => ewR (ewL (selN t) (hwC t) (layL (selN t) p))) = L.flatten := by
        intro L
        induction L with
        | nil => intro _; rfl
        | cons p L ih =>
          intro hL
          rw [List.flatMap_cons, List.flatten_cons, hL p (List.mem_cons_self ..), ih (fun q hq => hL q (List.mem_cons_of_mem _ hq))]
      exact key _ (fun p hp => (piece_word (p2 p hp).2).2.2.2.2.1)
  · rw [if_neg hs] at h'
    exact absurd h' hs
theorem wrd_no {t : List Int} {r : Int} (h : wrdE t r ≠ 0) : wrdL t r = [] := by unfold wrdL; rw [if_neg h]
theorem wrdL_len (t : List Int) (r : Int) : (wrdL t r).length ≤ t.length := by
  by_cases h : wrdE t r = 0
  · exact (wrd_all h).2.2.2
  · rw [wrd_no h]; exact Nat.zero_le _
theorem jnF_snoc : ∀ (L : List (List Int)) (w : List Int), jnF (L ++ [w]) = if L = [] then w else jnF L ++ ([13, 10, 32] ++ w)
  | [], w => by simp [jnF]
  | v :: L, w => by rw [if_neg (by simp)]; simp [jnF, List.flatMap_append]
theorem jnF_len {L : List (List Int)} {B : Nat} (h : ∀ w ∈ L, w.length ≤ B) : (jnF L).length ≤ L.length * (B + 3) := by
  have key : ∀ L : List (List Int), (∀ w ∈ L, w.length ≤ B) → (L.flatMap fun x => [13, 10, 32] ++ x).length ≤ L.length * (B + 3) := by
    intro L
    induction L with
    | nil => intro _; simp
    | cons w L ih =>
      intro hL
      have h1 := hL w (List.mem_cons_self ..)
      have h2 := ih (fun x hx => hL x (List.mem_cons_of_mem _ hx))
      rw [List.flatMap_cons, List.length_append, List.length_cons, Nat.add_mul]
      simp only [List.length_append, List.length_cons, List.length_nil]
      omega
  cases L with
  | nil => simp [jnF]
  | cons w L =>
    have h1 := h w (List.mem_cons_self ..)
    have h2 := key L (fun x hx => h x (List.mem_cons_of_mem _ hx))
    unfold jnF
    rw [List.length_append, List.length_cons, Nat.add_mul]
    omega
end Go.Proofs.YtdglnpkkfkagaaaGreat

/-! D31b -/
namespace Go.Proofs.YtdglnpkkfkagaaaGreat
open Go.RowKit
set_option linter.unusedVariables false

def cuyL (n k : Int) (t : List Int) (r : Int) : List (List Int) :=
  if ht : t = [] then [] else if hp : ewcP n k t r = 0 then [[]] else t.take (ewcP n k t r) :: cuyL n k (t.drop (ewcP n k t r)) 75
termination_by t.length
decreasing_by
  have := List.length_pos_iff.2 ht
  rw [List.length_drop]
  omega
theorem cuyL_nil (n k r : Int) : cuyL n k [] r = [] := by rw [cuyL, dif_pos rfl]
theorem cuyL_no {n k : Int} {t : List Int} {r : Int} (h : t ≠ []) (hp : ewcP n k t r = 0) : cuyL n k t r = [[]] := by rw [cuyL, dif_neg h, dif_pos hp]
theorem cuyL_on {n k : Int} {t : List Int} {r : Int} (h : t ≠ []) (hp : ewcP n k t r ≠ 0) : cuyL n k t r = t.take (ewcP n k t r) :: cuyL n k (t.drop (ewcP n k t r)) 75 := by rw [cuyL, dif_neg h, dif_neg hp]
/-- What is yielded are the pieces, unless one has no sign. -/
theorem cuyL_all (n k : Int) : ∀ (m : Nat) (t : List Int) (r : Int), t.length ≤ m → ((∃ L, cutP n k t r = some L ∧ cuyL n k t r = L) ∨ (cutP n k t r = none ∧ ∃ L, cuyL n k t r = L ++ [[]]))
  | 0, t, r, hm => by
    obtain rfl : t = [] := List.eq_nil_of_length_eq_zero (by omega)
    exact .inl ⟨[], cutP_nil _ _ _, cuyL_nil _ _ _⟩
  | m + 1, t, r, hm => by
    by_cases ht : t = []
    · subst ht
      exact .inl ⟨[], cutP_nil _ _ _, cuyL_nil _ _ _⟩
    · by_cases hp : ewcP n k t r = 0
      · exact .inr ⟨cutP_no ht hp, [], cuyL_no ht hp⟩
      · rcases cuyL_all n k m (t.drop (ewcP n k t r)) 75 (by rw [List.length_drop]; omega) with ⟨L, h1, h2⟩ | ⟨h1, L, h2⟩
        · exact .inl ⟨_, by rw [cutP_on ht hp, h1]; rfl, by rw [cuyL_on ht hp, h2]⟩
        · exact .inr ⟨by rw [cutP_on ht hp, h1]; rfl, t.take (ewcP n k t r) :: L, by rw [cuyL_on ht hp, h2]; rfl⟩
/-- All have a sign: they are the pieces. -/
theorem cuyL_yes {n k : Int} {t : List Int} {r : Int} (h : ∀ p ∈ cuyL n k t r, p ≠ []) : cutP n k t r = some (cuyL n k t r) := by
  rcases cuyL_all n k _ t r (Nat.le_refl _) with ⟨L, h1, h2⟩ | ⟨h1, L, h2⟩
  · rw [h2]; exact h1
  · exact absurd rfl (h [] (by rw [h2]; exact List.mem_append_right _ (List.mem_singleton.2 rfl)))
/-- One has none: there are no pieces. -/
theorem cuyL_none {n k : Int} {t : List Int} {r : Int} (h : [] ∈ cuyL n k t r) : cutP n k t r = none := by
  rcases cuyL_all n k _ t r (Nat.le_refl _) with ⟨L, h1, h2⟩ | ⟨h1, L, h2⟩
  · rw [h2] at h
    exact absurd rfl ((cutP_all n k _ t r L (Nat.le_refl _) h1).2.1 [] h).1
  · exact h1
theorem layW_ge : ∀ xs : List Int, xs.length ≤ (layW xs).length := by
  intro xs
  induction xs with
  | nil => exact Nat.le_refl _
  | cons x xs ih =>
    have e : layW (x :: xs) = oneQ x ++ layW xs := by unfold layW; rw [List.flatMap_cons]
    have := oneQ_len x
    rw [e, List.length_append, List.length_cons]
    omega
/-- What fits has at most 75 octets. -/
theorem fit_short {n k : Int} {p : List Int} {r : Int} (h : ewcF n k p r = true) : (layL n p).length ≤ 75 := by
  obtain ⟨h1, h2, h3, h4⟩ := ewcF_iff.1 h
  unfold ewcL at h4
  rw [if_pos h1] at h4
  have h5 := ewO_bd n
  have h6 : (layL n p).length ≤ ewcT n k p := by
    unfold ewcT ewTx
    split
    · exact layW_ge _
    · rw [layB_len]; omega
  omega
theorem ct_short {n k : Int} {t : List Int} {r : Int} : ∀ p ∈ ctL n k t r, (layL n p).length ≤ 75 := by
  intro p hp
  by_cases h : cutE n k t r = 0
  · exact fit_short ((cutP_all n k _ t r _ (Nat.le_refl _) (cut_ok h).2).2.1 p hp).2
  · rw [ct_no h] at hp; cases hp
theorem ct_nil {t : List Int} {r : Int} (h : wrdE t r = 0) : selE t = 0 ∧ cutE (selN t) (hwC t) t r = 0 ∧ wrdL t r = (ctL (selN t) (hwC t) t r).map fun p => ewL (selN t) (hwC t) (layL (selN t) p) := by
  have h' := h
  unfold wrdE at h'
  by_cases hs : selE t = 0
  · rw [if_pos hs] at h'
    exact ⟨hs, h', by unfold wrdL; rw [if_pos h]⟩
  · rw [if_neg hs] at h'
    exact absurd h' hs
end Go.Proofs.YtdglnpkkfkagaaaGreat
