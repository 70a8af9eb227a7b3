/-
  Layers 14 and 15, in plain words: what is laid is read, and back.
-/
import Derived.Test.YtnbhheahfmknfaaDoorD15
namespace Go.Proofs.YtnbhheahfmknfaaDoor
open Go.RowKit
set_option linter.unusedVariables false

theorem eqEnd_app {l : List Int} (h : ∀ x ∈ l, x ≠ 61) {p : Nat} (hp : p ≤ 2) : eqEnd (l ++ List.replicate p 61) = l.length := by
  have hl : ∀ i, i < l.length → (l ++ List.replicate p (61 : Int)).getD i 0 ≠ 61 := by
    intro i hi
    rw [List.getD_eq_getElem?_getD, List.getElem?_append_left hi, List.getElem?_eq_getElem hi]
    exact h _ (List.getElem_mem _)
  have hr : ∀ i, l.length ≤ i → i < l.length + p → (l ++ List.replicate p (61 : Int)).getD i 0 = 61 := by
    intro i h1 h2
    rw [List.getD_eq_getElem?_getD, List.getElem?_append_right h1, List.getElem?_replicate, if_pos (by omega)]
    rfl
  have hlen : (l ++ List.replicate p (61 : Int)).length = l.length + p := by rw [List.length_append, List.length_replicate]
  unfold eqEnd
  rw [hlen]
  have hq : p = 0 ∨ p = 1 ∨ p = 2 := by omega
  rcases hq with rfl | rfl | rfl
  · rw [if_neg]
    · rfl
    · rintro ⟨h1, h2⟩
      exact hl (l.length + 0 - 1) (by omega) h2
  · rw [if_pos ⟨by omega, hr _ (by omega) (by omega)⟩, if_neg]
    · rfl
    · rintro ⟨h1, h2⟩
      exact hl (l.length + 1 - 2) (by omega) h2
  · rw [if_pos ⟨by omega, hr _ (by omega) (by omega)⟩, if_pos ⟨by omega, hr _ (by omega) (by omega)⟩]
    rfl
theorem eqEnd_split (xs : List Int) : xs = xs.take (eqEnd xs) ++ List.replicate (xs.length - eqEnd xs) 61 ∧ xs.length - eqEnd xs ≤ 2 ∧ eqEnd xs ≤ xs.length := by
  have get : ∀ i, i < xs.length → xs[i]? = some (xs.getD i 0) := by
    intro i hi
    rw [List.getD_eq_getElem?_getD, List.getElem?_eq_getElem hi]; rfl
  have key : ∀ E, E ≤ xs.length → (∀ i, E ≤ i → i < xs.length → xs.getD i 0 = 61) → xs = xs.take E ++ List.replicate (xs.length - E) 61 := by
    intro E hE h
    refine List.ext_getElem? fun i => ?_
    by_cases hi : i < E
    · rw [List.getElem?_append_left (by rw [List.length_take]; omega), List.getElem?_take, if_pos hi]
    · rw [List.getElem?_append_right (by rw [List.length_take]; omega), List.length_take, List.getElem?_replicate]
      by_cases hi2 : i < xs.length
      · rw [if_pos (by omega), get i hi2, h i (by omega) hi2]
      · rw [if_neg (by omega), List.getElem?_eq_none (by omega)]
  unfold eqEnd
  split
  · rename_i h1
    split
    · rename_i h2
      refine ⟨key _ (by omega) fun i h3 h4 => ?_, by omega, by omega⟩
      have hq : i = xs.length - 1 ∨ i = xs.length - 2 := by omega
      rcases hq with rfl | rfl
      · exact h1.2
      · exact h2.2
    · refine ⟨key _ (by omega) fun i h3 h4 => ?_, by omega, by omega⟩
      obtain rfl : i = xs.length - 1 := by omega
      exact h1.2
  · exact ⟨key _ (Nat.le_refl _) fun i h3 h4 => by omega, by omega, Nat.le_refl _⟩
theorem dig_ne {c : Int} (h : isDig c = true) : c ≠ 61 := by
  rintro rfl
  rw [isDig_61] at h
  cases h
theorem bare_dig {xs : List Int} (h : ∀ x ∈ xs, O8 x) : (bareB xs).all isDig = true ∧ (bareB xs).map valI = v64 xs := by
  have hv := v64_bd xs h
  unfold bareB
  refine ⟨?_, ?_⟩
  · rw [List.all_map, List.all_eq_true]
    exact fun v hv' => (val_dig (hv v hv')).2
  · rw [List.map_map]
    conv => rhs; rw [← List.map_id (v64 xs)]
    exact List.map_congr_left fun v hv' => (val_dig (hv v hv')).1
/-- What is laid is read. -/
theorem cod_lay {xs : List Int} (h : ∀ x ∈ xs, O8 x) : codE (layB xs) = 0 ∧ codL (layB xs) = xs := by
  have hd := bare_dig h
  have hm := v64_mod xs
  have hbl : (bareB xs).length = (v64 xs).length := by unfold bareB; rw [List.length_map]
  have hE : eqEnd (layB xs) = (bareB xs).length := by
    unfold layB fill4
    refine eqEnd_app (fun x hx => dig_ne (List.all_eq_true.1 hd.1 x hx)) ?_
    rw [hbl]; omega
  have hD : codD (layB xs) = bareB xs := by
    unfold codD
    rw [hE]
    unfold layB fill4
    rw [List.take_left]
  have hl : (layB xs).length % 4 = 0 := by
    unfold layB fill4
    rw [List.length_append, List.length_replicate]; omega
  have hr := rd_v64 xs h
  have e : codE (layB xs) = 0 := by
    unfold codE
    rw [hD, if_pos hd.1, if_pos hl, hd.2, if_pos hr.2]
  refine ⟨e, ?_⟩
  unfold codL
  rw [if_pos e, hD, hd.2, hr.1]
theorem cod_ok {s : List Int} (h : codE s = 0) : (codD s).all isDig = true ∧ s.length % 4 = 0 ∧ ok64 ((codD s).map valI) = true ∧ codL s = rd64 ((codD s).map valI) := by
  have h' := h
  unfold codE at h
  split at h
  · rename_i h1
    split at h
    · rename_i h2
      split at h
      · rename_i h3
        exact ⟨h1, h2, h3, by unfold codL; rw [if_pos h']⟩
      · omega
    · omega
  · omega
theorem codD_v6 (s : List Int) : ∀ v ∈ (codD s).map valI, V6 v := by
  intro v hv
  obtain ⟨c, _, rfl⟩ := List.mem_map.1 hv
  exact val_bd c
/-- What is read is laid as the same. -/
theorem lay_cod {s : List Int} (h : codE s = 0) : layB (codL s) = s := by
  obtain ⟨h1, h2, h3, h4⟩ := cod_ok h
  obtain ⟨e1, e2, e3⟩ := eqEnd_split s
  have hl : (codD s).length = eqEnd s := by unfold codD; rw [List.length_take]; omega
  have hb : bareB (codL s) = codD s := by
    unfold bareB
    rw [h4, v_rd64 _ (codD_v6 s) h3 (by rw [List.length_map, hl]; omega), List.map_map]
    conv => rhs; rw [← List.map_id (codD s)]
    exact List.map_congr_left fun c hc => dig_of_val (List.all_eq_true.1 h1 c hc)
  unfold layB fill4
  rw [hb, hl, show (4 - eqEnd s % 4) % 4 = s.length - eqEnd s by omega]
  unfold codD
  exact e1.symm
theorem codL_o8 (s : List Int) : ∀ x ∈ codL s, O8 x := by
  intro x hx
  unfold codL at hx
  split at hx
  · exact rd64_bd _ (codD_v6 s) x hx
  · cases hx
theorem cod_no {s : List Int} (h : codE s ≠ 0) : codL s = [] := by unfold codL; rw [if_neg h]

/-! ### loosely -/
theorem dig_cod {s : List Int} (h : codE s = 0) : digL s = codD s := by
  obtain ⟨h1, h2, h3, h4⟩ := cod_ok h
  obtain ⟨e1, e2, e3⟩ := eqEnd_split s
  have hc : cutEq s = codD s := by
    unfold cutEq codD
    refine cut_at ?_ ?_
    · rw [List.all_eq_true]
      intro x hx
      exact decide_eq_true (dig_ne (List.all_eq_true.1 h1 x hx))
    · by_cases hE : eqEnd s = s.length
      · exact .inl (by omega)
      · refine .inr ⟨61, ?_, by decide⟩
        have hx : s[eqEnd s]? = (s.take (eqEnd s) ++ List.replicate (s.length - eqEnd s) 61)[eqEnd s]? := by rw [← e1]
        rw [hx, List.getElem?_append_right (by rw [List.length_take]; omega), List.getElem?_replicate, if_pos (by rw [List.length_take]; omega)]
  unfold digL
  rw [hc]
  exact List.filter_eq_self.2 fun x hx => List.all_eq_true.1 h1 x hx
theorem loo_cod {s : List Int} (h : codE s = 0) : looL s = codL s ∧ clnL s = s := by
  have e : looL s = codL s := by unfold looL; rw [dig_cod h, (cod_ok h).2.2.2]
  exact ⟨e, by unfold clnL; rw [e, lay_cod h]⟩
theorem looL_o8 (s : List Int) : ∀ x ∈ looL s, O8 x := rd64_bd _ (digL_v6 s)
theorem cod_cln (s : List Int) : codE (clnL s) = 0 ∧ codL (clnL s) = looL s ∧ clnL (clnL s) = clnL s := by
  have h := cod_lay (looL_o8 s)
  exact ⟨h.1, h.2, (loo_cod (s := clnL s) h.1).2⟩
/-- Whatever is put between the digits plays no part. -/
theorem dig_mixed {m d behind : List Int} (h1 : m.all noEq = true) (h2 : m.filter isDig = d) : digL (m ++ 61 :: behind) = d := by
  unfold digL cutEq
  have e : (m ++ 61 :: behind).takeWhile noEq = (m ++ 61 :: behind).take m.length := by
    refine cut_at ?_ (.inr ⟨61, by simp, by decide⟩)
    rw [List.take_left]; exact h1
  rw [e, List.take_left, h2]
theorem loo_mixed {m s behind : List Int} (h1 : m.all noEq = true) (h2 : m.filter isDig = digL s) : looL (m ++ 61 :: behind) = looL s ∧ digL (m ++ 61 :: behind) = digL s := by
  have e := dig_mixed (behind := behind) h1 h2
  exact ⟨by unfold looL; rw [e], e⟩
end Go.Proofs.YtnbhheahfmknfaaDoor
