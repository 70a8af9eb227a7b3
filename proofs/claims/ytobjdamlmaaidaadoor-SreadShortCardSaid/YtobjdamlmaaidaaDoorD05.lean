/-
  Layer 5, in plain words: texts as octets, octets as texts.
-/
import Derived.Test.YtobjdamlmaaidaaDoorD04b
namespace Go.Proofs.YtobjdamlmaaidaaDoor
open Go.RowKit
set_option linter.unusedVariables false

/-- A text's octets; how many. -/
def octL (t : List Int) : List Int := t.flatMap octs
def lenL (t : List Int) : Nat := (octL t).length
/-- What is read next, and what is told of it. -/
def sign1 (xs : List Int) : Int × Int := (if takE xs = 0 then takC xs else 65533, takE xs)
def sigF : Nat → List Int → List (Int × Int)
  | 0, _ => []
  | n + 1, xs => if xs = [] then [] else sign1 xs :: sigF n (xs.drop (takN xs))
/-- What octets are read as, each sign with what is told of it. -/
def sigs (xs : List Int) : List (Int × Int) := sigF xs.length xs
def txt (xs : List Int) : List Int := (sigs xs).map Prod.fst
/-- The first error; how many there are. -/
def errP : List (Int × Int) → Int
  | [] => 0
  | p :: r => if p.2 = 0 then errP r else p.2
def brkP (ps : List (Int × Int)) : Nat := ps.countP (fun p => decide (p.2 ≠ 0))

theorem octL_nil : octL [] = [] := rfl
theorem octL_app (a b : List Int) : octL (a ++ b) = octL a ++ octL b := by simp [octL]
theorem octL_snoc {xs : List Int} {k : Nat} {x : Int} (h : xs.take (k + 1) = xs.take k ++ [x]) : octL (xs.take (k + 1)) = octL (xs.take k) ++ octs x := by rw [h, octL_app]; simp [octL]
theorem lenL_snoc {xs : List Int} {k : Nat} {x : Int} (h : xs.take (k + 1) = xs.take k ++ [x]) : lenL (xs.take (k + 1)) = lenL (xs.take k) + lenI x := by unfold lenL; rw [octL_snoc h, List.length_append, octs_len]
theorem octL_wf (t : List Int) : ∀ x ∈ octL t, (Lit.int .u8 x).wf = true := by
  intro x hx
  obtain ⟨c, _, hc⟩ := List.mem_flatMap.1 hx
  exact octs_wf c x hc
theorem octL_bd (t : List Int) : ∀ x ∈ octL t, 0 ≤ x ∧ x ≤ 255 := fun x hx => wf_u8 (octL_wf t x hx)
theorem lenL_le : ∀ t : List Int, lenL t ≤ 4 * t.length
  | [] => Nat.le_refl _
  | c :: t => by
    have h := lenL_le t
    have h4 := lenI_le c
    unfold lenL at h ⊢
    rw [show octL (c :: t) = octs c ++ octL t from rfl, List.length_append, octs_len]; simp; omega
theorem lenL_take (t : List Int) (k : Nat) : lenL (t.take k) ≤ 4 * t.length := by
  have h := lenL_le (t.take k); simp at h; omega

theorem takN_pos {xs : List Int} (h : xs ≠ []) : 0 < takN xs := by unfold takN; rw [if_neg h]; omega
theorem takN_le (xs : List Int) : takN xs ≤ xs.length := by
  have h := far_le xs
  unfold takN
  split
  · omega
  · rename_i h0
    have : 0 < xs.length := by cases xs with | nil => exact absurd rfl h0 | cons => simp
    omega
theorem sigF_eq : ∀ (n m : Nat) (xs : List Int), xs.length ≤ n → xs.length ≤ m → sigF n xs = sigF m xs
  | 0, 0, _, _, _ => rfl
  | 0, m + 1, xs, h, _ => by
    obtain rfl : xs = [] := List.eq_nil_of_length_eq_zero (by omega)
    rfl
  | n + 1, 0, xs, _, h => by
    obtain rfl : xs = [] := List.eq_nil_of_length_eq_zero (by omega)
    rfl
  | n + 1, m + 1, xs, h, h' => by
    unfold sigF
    split
    · rfl
    · rename_i h0
      have := takN_pos h0
      rw [sigF_eq n m (xs.drop (takN xs)) (by simp; omega) (by simp; omega)]
theorem sigs_nil : sigs [] = [] := rfl
theorem sigs_cons {xs : List Int} (h : xs ≠ []) : sigs xs = sign1 xs :: sigs (xs.drop (takN xs)) := by
  have hp := takN_pos h
  obtain ⟨n, hn⟩ : ∃ n, xs.length = n + 1 := ⟨xs.length - 1, by have : 0 < xs.length := List.length_pos_iff.2 h
                                                                omega⟩
  show sigF xs.length xs = _
  rw [hn]
  show (if xs = [] then [] else sign1 xs :: sigF n (xs.drop (takN xs))) = _
  rw [if_neg h]
  congr 1
  exact sigF_eq _ _ _ (by simp; omega) (Nat.le_refl _)
/-- By signs, from the front. -/
theorem sigs_ind {p : List Int → Prop} (h0 : p []) (h1 : ∀ xs, xs ≠ [] → p (xs.drop (takN xs)) → p xs) : ∀ xs, p xs := by
  have key : ∀ (n : Nat) (xs : List Int), xs.length ≤ n → p xs := by
    intro n
    induction n with
    | zero => intro xs h; obtain rfl : xs = [] := List.eq_nil_of_length_eq_zero (by omega)
              exact h0
    | succ n ih =>
      intro xs h
      by_cases he : xs = []
      · subst he; exact h0
      · exact h1 xs he (ih _ (by have := takN_pos he; simp; omega))
  exact fun xs => key _ xs (Nat.le_refl _)

theorem errP_app (a b : List (Int × Int)) (h : ∀ p ∈ a, p.2 = 0) : errP (a ++ b) = errP b := by
  induction a with
  | nil => rfl
  | cons p a ih =>
    rw [List.cons_append, errP, if_pos (h p (List.mem_cons_self)), ih (fun q hq => h q (List.mem_cons_of_mem _ hq))]
theorem errP_zero {ps : List (Int × Int)} : errP ps = 0 ↔ ∀ p ∈ ps, p.2 = 0 := by
  induction ps with
  | nil => simp [errP]
  | cons p ps ih =>
    rw [errP]
    split
    · rename_i h; rw [ih]; simp [h]
    · rename_i h; simp [h]
theorem errP_snoc (ps : List (Int × Int)) (p : Int × Int) : errP (ps ++ [p]) = if errP ps = 0 then p.2 else errP ps := by
  split
  · rename_i h; rw [errP_app _ _ (errP_zero.1 h)]; simp [errP]; intro h; exact h.symm
  · rename_i h
    induction ps with
    | nil => exact absurd rfl h
    | cons q ps ih =>
      rw [List.cons_append, errP, errP]
      rw [errP] at h
      split
      · rename_i hq; rw [if_pos hq] at h; exact ih h
      · rfl
theorem errP_pre {a b : List (Int × Int)} (h : a <+: b) (h0 : errP a ≠ 0) : errP b = errP a := by
  obtain ⟨r, rfl⟩ := h
  induction a with
  | nil => exact absurd rfl h0
  | cons q a ih =>
    rw [List.cons_append, errP, errP]
    rw [errP] at h0
    split
    · rename_i hq; rw [if_pos hq] at h0; exact ih h0
    · rfl
/-- What is read strictly. -/
def strL (xs : List Int) : List Int := if errP (sigs xs) = 0 then txt xs else []
theorem txt_len (xs : List Int) : (txt xs).length = (sigs xs).length := by simp [txt]
theorem brkP_snoc (ps : List (Int × Int)) (p : Int × Int) : brkP (ps ++ [p]) = brkP ps + if p.2 = 0 then 0 else 1 := by
  unfold brkP; rw [List.countP_append]; simp [List.countP_cons]
theorem brkP_le (ps : List (Int × Int)) : brkP ps ≤ ps.length := List.countP_le_length
theorem brkP_zero (ps : List (Int × Int)) : brkP ps = 0 ↔ errP ps = 0 := by
  rw [errP_zero]; unfold brkP; rw [List.countP_eq_zero]; simp

theorem takE_of (xs : List Int) : takE xs = 0 ∨ takE xs = 3 ∨ takE xs = 4 := by
  unfold takE; (repeat' split) <;> simp
theorem takC_sc {xs : List Int} (hb : ∀ x ∈ xs, 0 ≤ x ∧ x ≤ 255) (h : takE xs = 0) : scB (takC xs) = true := (octs_take xs hb h).1
theorem sign_sc {xs : List Int} (hb : ∀ x ∈ xs, 0 ≤ x ∧ x ≤ 255) : scB (sign1 xs).1 = true := by
  unfold sign1; simp only; split
  · rename_i h; exact takC_sc hb h
  · decide
theorem bd_drop {xs : List Int} (n : Nat) (hb : ∀ x ∈ xs, 0 ≤ x ∧ x ≤ 255) : ∀ x ∈ xs.drop n, 0 ≤ x ∧ x ≤ 255 := fun x hx => hb x (List.mem_of_mem_drop hx)
/-- What is read is right. -/
theorem txt_sc : ∀ xs : List Int, (∀ x ∈ xs, 0 ≤ x ∧ x ≤ 255) → (txt xs).all scB = true := by
  refine sigs_ind (fun _ => rfl) fun xs h ih hb => ?_
  unfold txt
  rw [sigs_cons h, List.map_cons, List.all_cons, sign_sc hb, Bool.true_and]
  exact ih (bd_drop _ hb)
theorem sigs_len : ∀ xs : List Int, (sigs xs).length ≤ xs.length := by
  refine sigs_ind (Nat.le_refl _) fun xs h ih => ?_
  have hp := takN_pos h
  have hl : 0 < xs.length := List.length_pos_iff.2 h
  rw [sigs_cons h]; simp at ih ⊢; omega
theorem sigs_pos (xs : List Int) : (0 < (sigs xs).length) ↔ 0 < xs.length := by
  by_cases h : xs = []
  · subst h; simp [sigs_nil]
  · have hl : 0 < xs.length := List.length_pos_iff.2 h
    rw [sigs_cons h]; simp [hl]
/-- What is laid is read. -/
theorem sigs_octL : ∀ (t rest : List Int), t.all scB = true → sigs (octL t ++ rest) = t.map (fun c => (c, 0)) ++ sigs rest
  | [], rest, _ => rfl
  | c :: t, rest, h => by
    rw [List.all_cons, Bool.and_eq_true] at h
    have T := take_octs c (octL t ++ rest) h.1
    have hl := octs_len c
    have hp := (len_pos c).2 h.1
    have e : octL (c :: t) ++ rest = octs c ++ (octL t ++ rest) := by rw [show octL (c :: t) = octs c ++ octL t from rfl, List.append_assoc]
    rw [e, sigs_cons (by intro h0; have := congrArg List.length h0; simp [hl] at this; omega), T.2.1]
    rw [show (octs c ++ (octL t ++ rest)).drop (lenI c) = octL t ++ rest by rw [← hl]; simp, sigs_octL t rest h.2]
    simp [sign1, T.1, T.2.2]
theorem sigs_laid {t : List Int} (h : t.all scB = true) : sigs (octL t) = t.map (fun c => (c, 0)) := by
  have := sigs_octL t [] h
  simpa [sigs_nil] using this
theorem txt_laid {t : List Int} (h : t.all scB = true) : txt (octL t) = t := by unfold txt; rw [sigs_laid h]; simp [Function.comp_def]
theorem err_laid {t : List Int} (h : t.all scB = true) : errP (sigs (octL t)) = 0 := by
  rw [sigs_laid h, errP_zero]; intro p hp; obtain ⟨c, _, rfl⟩ := List.mem_map.1 hp; rfl
/-- Octets that are right are laid as they were. -/
theorem octL_txt : ∀ xs : List Int, (∀ x ∈ xs, 0 ≤ x ∧ x ≤ 255) → errP (sigs xs) = 0 → octL (txt xs) = xs := by
  refine sigs_ind (fun _ _ => rfl) fun xs h ih hb he => ?_
  rw [sigs_cons h, errP] at he
  split at he
  · rename_i h0
    have h0' : takE xs = 0 := h0
    have O := octs_take xs hb h0'
    have := ih (bd_drop _ hb) he
    unfold txt at this ⊢
    rw [sigs_cons h, List.map_cons, show octL ((sign1 xs).1 :: (sigs (xs.drop (takN xs))).map Prod.fst) = octs (sign1 xs).1 ++ octL ((sigs (xs.drop (takN xs))).map Prod.fst) from rfl, this]
    rw [show (sign1 xs).1 = takC xs by unfold sign1; simp only; rw [if_pos h0'], O.2.1, List.take_append_drop]
  · rename_i h0; exact absurd he h0
theorem txt_wf {xs : List Int} (hb : ∀ x ∈ xs, 0 ≤ x ∧ x ≤ 255) : ∀ x ∈ txt xs, (Lit.int .i32 x).wf = true := by
  intro x hx
  have h := List.all_eq_true.1 (txt_sc xs hb) x hx
  have := (scB_iff x).1 h
  exact mk_r (by omega) (by omega)

end Go.Proofs.YtobjdamlmaaidaaDoor
