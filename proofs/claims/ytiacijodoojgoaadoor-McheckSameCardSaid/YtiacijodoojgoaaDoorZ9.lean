/-
  Texts of ours laid together: D14b, D17, C17.
-/
import Derived.Test.YtiacijodoojgoaaDoorZ8

/-! D14b -/
namespace Go.Proofs.YtiacijodoojgoaaDoor
open Go.RowKit
set_option linter.unusedVariables false

theorem eqEnd_app {l : List Int} (h : ∀ x ∈ l, x ≠ 61) {p : Nat} (hp : p ≤ 2) : eqEnd (l ++ List.replicate p 61) = l.length := by
  have hl : ∀ i, i < l.length → (l ++ List.replicate p (61 : Int)).getD i 0 ≠ 61 := by
    intro i hi
    rw [List.getD_eq_getElem?_getD, List.getElem?_append_left hi, List.getElem?_eq_getElem hi]
    exact h _ (List.getElem_mem _)
  have hr : ∀ i, l.length ≤ i → i < l.length + p → (l ++ List.replicate p (61 : Int)).getD i 0 = 61 := by
    intro i h1 h2
    rw [List.getD_eq_getElem?_getD, List.getElem?_append_right h1, List.getElem?_replicate, if_pos (by omega)]
    rfl
  have hlen : (l ++ List.replicate p (61 : Int)).length = l.length + p := by rw [List.length_append, List.length_replicate]
  unfold eqEnd
  rw [hlen]
  have hq : p = 0 ∨ p = 1 ∨ p = 2 := by omega
  rcases hq with rfl | rfl | rfl
  · rw [if_neg]
    · rfl
    · rintro ⟨h1, h2⟩
      exact hl (l.length + 0 - 1) (by omega) h2
  · rw [if_pos ⟨by omega, hr _ (by omega) (by omega)⟩, if_neg]
    · rfl
    · rintro ⟨h1, h2⟩
      exact hl (l.length + 1 - 2) (by omega) h2
  · rw [if_pos ⟨by omega, hr _ (by omega) (by omega)⟩, if_pos ⟨by omega, hr _ (by omega) (by omega)⟩]
    rfl
theorem eqEnd_split (xs : List Int) : xs = xs.take (eqEnd xs) ++ List.replicate (xs.length - eqEnd xs) 61 ∧ xs.length - eqEnd xs ≤ 2 ∧ eqEnd xs ≤ xs.length := by
  have get : ∀ i, i < xs.length → xs[i]? = some (xs.getD i 0) := by
    intro i hi
    rw [List.getD_eq_getElem?_getD, List.getElem?_eq_getElem hi]; rfl
  have key : ∀ E, E ≤ xs.length → (∀ i, E ≤ i → i < xs.length → xs.getD i 0 = 61) → xs = xs.take E ++ List.replicate (xs.length - E) 61 := by
    intro E hE h
    refine List.ext_getElem? fun i => ?_
    by_cases hi : i < E
    · rw [List.getElem?_append_left (by rw [List.length_take]; omega), List.getElem?_take, if_pos hi]
    · rw [List.getElem?_append_right (by rw [List.length_take]; omega), List.length_take, List.getElem?_replicate]
      by_cases hi2 : i < xs.length
      · rw [if_pos (by omega), get i hi2, h i (by omega) hi2]
      · rw [if_neg (by omega), List.getElem?_eq_none (by omega)]
  unfold eqEnd
  split
  · rename_i h1
    split
    · rename_i h2
      refine ⟨key _ (by omega) fun i h3 h4 => ?_, by omega, by omega⟩
      have hq : i = xs.length - 1 ∨ i = xs.length - 2 := by omega
      rcases hq with rfl | rfl
      · exact h1.2
      · exact h2.2
    · refine ⟨key _ (by omega) fun i h3 h4 => ?_, by omega, by omega⟩
      obtain rfl : i = xs.length - 1 := by omega
      exact h1.2
  · exact ⟨key _ (Nat.le_refl _) fun i h3 h4 => by omega, by omega, Nat.le_refl _⟩
theorem dig_ne {c : Int} (h : isDig c = true) : c ≠ 61 := by
  rintro rfl
  rw [isDig_61] at h
  cases h
theorem bare_dig {xs : List Int} (h : ∀ x ∈ xs, O8 x) : (bareB xs).all isDig = true ∧ (bareB xs).map valI = v64 xs := by
  have hv := v64_bd xs h
  unfold bareB
  refine ⟨?_, ?_⟩
  · rw [List.all_map, List.all_eq_true]
    exact fun v hv' => (val_dig (hv v hv')).2
  · rw [List.map_map]
    conv => rhs; rw [← List.map_id (v64 xs)]
    exact List.map_congr_left fun v hv' => (val_dig (hv v hv')).1
/-- What is laid is read. -/
theorem cod_lay {xs : List Int} (h : ∀ x ∈ xs, O8 x) : codE (layB xs) = 0 ∧ codL (layB xs) = xs := by
  have hd := bare_dig h
  have hm := v64_mod xs
  have hbl : (bareB xs).length = (v64 xs).length := by unfold bareB; rw [List.length_map]
  have hE : eqEnd (layB xs) = (bareB xs).length := by
    unfold layB fill4
    refine eqEnd_app (fun x hx => dig_ne (List.all_eq_true.1 hd.1 x hx)) ?_
    rw [hbl]; omega
  have hD : codD (layB xs) = bareB xs := by
    unfold codD
    rw [hE]
    unfold layB fill4
    rw [List.take_left]
  have hl : (layB xs).length % 4 = 0 := by
    unfold layB fill4
    rw [List.length_append, List.length_replicate]; omega
  have hr := rd_v64 xs h
  have e : codE (layB xs) = 0 := by
    unfold codE
    rw [hD, if_pos hd.1, if_pos hl, hd.2, if_pos hr.2]
  refine ⟨e, ?_⟩
  unfold codL
  rw [if_pos e, hD, hd.2, hr.1]
theorem cod_ok {s : List Int} (h : codE s = 0) : (codD s).all isDig = true ∧ s.length % 4 = 0 ∧ ok64 ((codD s).map valI) = true ∧ codL s = rd64 ((codD s).map valI) := by
  have h' := h
  unfold codE at h
  split at h
  · rename_i h1
    split at h
    · rename_i h2
      split at h
      · rename_i h3
        exact ⟨h1, h2, h3, by unfold codL; rw [if_pos h']⟩
      · omega
    · omega
  · omega
theorem codD_v6 (s : List Int) : ∀ v ∈ (codD s).map valI, V6 v := by
  intro v hv
  obtain ⟨c, _, rfl⟩ := List.mem_map.1 hv
  exact val_bd c
/-- What is read is laid as the same. -/
theorem lay_cod {s : List Int} (h : codE s = 0) : layB (codL s) = s := by
  obtain ⟨h1, h2, h3, h4⟩ := cod_ok h
  obtain ⟨e1, e2, e3⟩ := eqEnd_split s
  have hl : (codD s).length = eqEnd s := by unfold codD; rw [List.length_take]; omega
  have hb : bareB (codL s) = codD s := by
    unfold bareB
    rw [h4, v_rd64 _ (codD_v6 s) h3 (by rw [List.length_map, hl]; omega), List.map_map]
    conv => rhs; rw [← List.map_id (codD s)]
    exact List.map_congr_left fun c hc => dig_of_val (List.all_eq_true.1 h1 c hc)
  unfold layB fill4
  rw [hb, hl, show (4 - eqEnd s % 4) % 4 = s.length - eqEnd s by omega]
  unfold codD
  exact e1.symm
theorem codL_o8 (s : List Int) : ∀ x ∈ codL s, O8 x := by
  intro x hx
  unfold codL at hx
  split at hx
  · exact rd64_bd _ (codD_v6 s) x hx
  · cases hx
theorem cod_no {s : List Int} (h : codE s ≠ 0) : codL s = [] := by unfold codL; rw [if_neg h]

/-! ### loosely -/
theorem dig_cod {s : List Int} (h : codE s = 0) : digL s = codD s := by
  obtain ⟨h1, h2, h3, h4⟩ := cod_ok h
  obtain ⟨e1, e2, e3⟩ := eqEnd_split s
  have hc : cutEq s = codD s := by
    unfold cutEq codD
    refine cut_at ?_ ?_
    · rw [List.all_eq_true]
      intro x hx
      exact decide_eq_true (dig_ne (List.all_eq_true.1 h1 x hx))
    · by_cases hE : eqEnd s = s.length
      · exact .inl (by omega)
      · refine .inr ⟨61, ?_, by decide⟩
        have hx : s[eqEnd s]? = (s.take (eqEnd s) ++ List.replicate (s.length - eqEnd s) 61)[eqEnd s]? := by rw [← e1]
        rw [hx, List.getElem?_append_right (by rw [List.length_take]; omega), List.getElem?_replicate, if_pos (by rw [List.length_take]; omega)]
  unfold digL
  rw [hc]
  exact List.filter_eq_self.2 fun x hx => List.all_eq_true.1 h1 x hx
theorem loo_cod {s : List Int} (h : codE s = 0) : looL s = codL s ∧ clnL s = s := by
  have e : looL s = codL s := by unfold looL; rw [dig_cod h, (cod_ok h).2.2.2]
  exact ⟨e, by unfold clnL; rw [e, lay_cod h]⟩
theorem looL_o8 (s : List Int) : ∀ x ∈ looL s, O8 x := rd64_bd _ (digL_v6 s)
theorem cod_cln (s : List Int) : codE (clnL s) = 0 ∧ codL (clnL s) = looL s ∧ clnL (clnL s) = clnL s := by
  have h := cod_lay (looL_o8 s)
  exact ⟨h.1, h.2, (loo_cod (s := clnL s) h.1).2⟩
/-- Whatever is put between the digits plays no part. -/
theorem dig_mixed {m d behind : List Int} (h1 : m.all noEq = true) (h2 : m.filter isDig = d) : digL (m ++ 61 :: behind) = d := by
  unfold digL cutEq
  have e : (m ++ 61 :: behind).takeWhile noEq = (m ++ 61 :: behind).take m.length := by
    refine cut_at ?_ (.inr ⟨61, by simp, by decide⟩)
    rw [List.take_left]; exact h1
  rw [e, List.take_left, h2]
theorem loo_mixed {m s behind : List Int} (h1 : m.all noEq = true) (h2 : m.filter isDig = digL s) : looL (m ++ 61 :: behind) = looL s ∧ digL (m ++ 61 :: behind) = digL s := by
  have e := dig_mixed (behind := behind) h1 h2
  exact ⟨by unfold looL; rw [e], e⟩
end Go.Proofs.YtiacijodoojgoaaDoor

/-! D17 -/
namespace Go.Proofs.YtiacijodoojgoaaDoor
open Go.RowKit
set_option linter.unusedVariables false

def turnI (a b x : Int) : Int := if x = a then b else x
def turnL (a b : Int) (xs : List Int) : List Int := xs.map (turnI a b)
def valM (c : Int) : Int := if c = 44 then 63 else if c = 47 then 0 else valI c
def isM (c : Int) : Bool := if c = 44 then true else if c = 47 then false else isDig c
def layM (xs : List Int) : List Int := turnL 47 44 (bareB xs)
def lenM (n : Int) : Int := if n < 1 then 0 else n / 3 * 4 + (if n % 3 = 0 then 0 else if n % 3 = 1 then 2 else 3)
def modE (xs : List Int) : Int := if xs.all isM = true then (if xs.length % 4 = 1 then 4 else if ok64 ((turnL 44 47 xs).map valI) = true then 0 else 3) else 3
def modL (xs : List Int) : List Int := if modE xs = 0 then rd64 ((turnL 44 47 xs).map valI) else []

theorem turn_wf {a b : Int} (hb : 0 ≤ b ∧ b ≤ 255) {x : Int} (h0 : 0 ≤ x) (h1 : x ≤ 255) : (Lit.int .u8 (turnI a b x)).wf = true := by
  unfold turnI; split
  · exact mk_u8 hb.1 hb.2
  · exact mk_u8 h0 h1
theorem val_44 : valN 44 = none := by decide +kernel
theorem val_47 : valN 47 = some 63 := by decide +kernel
/-- A digit of the modified code is the usual one's. -/
theorem isM_dig {c : Int} (h : isM c = true) : isDig (turnI 44 47 c) = true ∧ valI (turnI 44 47 c) = valM c := by
  unfold isM at h
  unfold turnI valM
  by_cases h1 : c = 44
  · rw [if_pos h1, if_pos h1]
    have := val_of val_47
    exact ⟨this.2.2.2, this.2.2.1⟩
  · rw [if_neg h1] at h ⊢
    by_cases h2 : c = 47
    · rw [if_pos h2] at h; cases h
    · rw [if_neg h2] at h
      rw [if_neg h1, if_neg h2]
      exact ⟨h, rfl⟩
theorem turnL_dig {xs : List Int} (h : xs.all isM = true) : (turnL 44 47 xs).all isDig = true := by
  unfold turnL
  rw [List.all_map, List.all_eq_true]
  exact fun x hx => (isM_dig (List.all_eq_true.1 h x hx)).1
theorem turnV6 (xs : List Int) : ∀ v ∈ (turnL 44 47 xs).map valI, V6 v := by
  intro v hv
  obtain ⟨c, _, rfl⟩ := List.mem_map.1 hv
  exact val_bd c
/-- A usual digit, turned and turned back. -/
theorem turn_back {c : Int} (h : isDig c = true) : turnI 44 47 (turnI 47 44 c) = c ∧ isM (turnI 47 44 c) = true := by
  unfold turnI isM
  by_cases h1 : c = 47
  · rw [if_pos h1, if_pos rfl, if_pos rfl]; exact ⟨h1.symm, rfl⟩
  · rw [if_neg h1]
    have h4 : c ≠ 44 := by
      rintro rfl
      have := (val_no val_44).2
      rw [this] at h; cases h
    rw [if_neg h4, if_neg h4, if_neg h1]
    exact ⟨rfl, h⟩
theorem turn_fore {c : Int} (h : isM c = true) : turnI 47 44 (turnI 44 47 c) = c := by
  unfold isM at h
  unfold turnI
  by_cases h1 : c = 44
  · rw [if_pos h1, if_pos rfl]; exact h1.symm
  · rw [if_neg h1] at h ⊢
    by_cases h2 : c = 47
    · rw [if_pos h2] at h; cases h
    · rw [if_neg h2]
/-- What is laid is read (P17.3). -/
theorem mod_lay {xs : List Int} (h : ∀ x ∈ xs, O8 x) : modE (layM xs) = 0 ∧ modL (layM xs) = xs := by
  have hd := bare_dig h
  have hr := rd_v64 xs h
  have ht : turnL 44 47 (layM xs) = bareB xs := by
    unfold layM turnL
    rw [List.map_map]
    conv => rhs; rw [← List.map_id (bareB xs)]
    exact List.map_congr_left fun c hc => (turn_back (List.all_eq_true.1 hd.1 c hc)).1
  have ha : (layM xs).all isM = true := by
    unfold layM turnL
    rw [List.all_map, List.all_eq_true]
    exact fun c hc => (turn_back (List.all_eq_true.1 hd.1 c hc)).2
  have hl : (layM xs).length % 4 ≠ 1 := by
    unfold layM turnL bareB
    rw [List.length_map, List.length_map]
    exact v64_mod xs
  have e : modE (layM xs) = 0 := by unfold modE; rw [if_pos ha, if_neg hl, ht, hd.2, if_pos hr.2]
  exact ⟨e, by unfold modL; rw [if_pos e, ht, hd.2, hr.1]⟩
/-- What is read is laid as the same. -/
theorem lay_mod {s : List Int} (h : modE s = 0) : layM (modL s) = s := by
  have h' := h
  unfold modE at h
  split at h
  · rename_i h1
    split at h
    · omega
    · rename_i h2
      split at h
      · rename_i h3
        have hd := turnL_dig h1
        have hb : bareB (modL s) = turnL 44 47 s := by
          unfold bareB modL
          rw [if_pos h', v_rd64 _ (turnV6 s) h3 (by rw [List.length_map]; unfold turnL; rw [List.length_map]; exact h2), List.map_map]
          conv => rhs; rw [← List.map_id (turnL 44 47 s)]
          exact List.map_congr_left fun c hc => dig_of_val (List.all_eq_true.1 hd c hc)
        unfold layM
        rw [hb]
        unfold turnL
        rw [List.map_map]
        conv => rhs; rw [← List.map_id s]
        exact List.map_congr_left fun c hc => turn_fore (List.all_eq_true.1 h1 c hc)
      · omega
  · omega
theorem mod_no {s : List Int} (h : modE s ≠ 0) : modL s = [] := by unfold modL; rw [if_neg h]
end Go.Proofs.YtiacijodoojgoaaDoor

/-! C17 -/
namespace Go.Proofs.YtiacijodoojgoaaDoor
open Go.RowKit
set_option linter.unusedVariables false

theorem turn_repl (p q : Int) (xs : List Int) : replL p q xs = turnL p q xs := rfl
theorem turnL_len (p q : Int) (xs : List Int) : (turnL p q xs).length = xs.length := by unfold turnL; rw [List.length_map]
/-- The strict code of the same digits. -/
def filM (xs : List Int) : List Int := fill4 (turnL 44 47 xs)
theorem fil_cod {xs : List Int} (ha : xs.all isM = true) (h4 : xs.length % 4 ≠ 1) : codE (filM xs) = modE xs ∧ codL (filM xs) = modL xs := by
  have hd := turnL_dig ha
  have hl := turnL_len 44 47 xs
  have hE : eqEnd (filM xs) = (turnL 44 47 xs).length := by
    unfold filM fill4
    refine eqEnd_app (fun x hx => dig_ne (List.all_eq_true.1 hd x hx)) ?_
    rw [hl]; omega
  have hD : codD (filM xs) = turnL 44 47 xs := by
    unfold codD
    rw [hE]
    unfold filM fill4
    rw [List.take_left]
  have hm : (filM xs).length % 4 = 0 := by
    unfold filM fill4
    rw [List.length_append, List.length_replicate]; omega
  have e : codE (filM xs) = modE xs := by
    unfold codE modE
    rw [hD, if_pos hd, if_pos hm, if_pos ha, if_neg h4]
  exact ⟨e, by unfold codL modL; rw [e, hD]⟩

theorem bmod_Value (c : Int) (w : World) (h0 : 0 ≤ c) (h1 : c ≤ 255) :
    Calls Tryd.prog 78 #[.int .u8 c] w fun e w' => e = .returned (.tuple #[.int .i64 (valM c), .bool (isM c)]) ∧ w = w' := by
  by_cases c1 : c = 44
  · subst c1
    have h := val_of val_47
    have HV := bcode_Value 47 w (by decide) (by decide)
    rw [h.2.2.1, h.2.2.2] at HV
    have HV := hid HV
    clear h
    go_enter Tryd.func78, Tryd.ntmps78
    go_wp2_with (go_at_call 91; (with_reducible refine HV.out.mono ?_); rintro e w1 ⟨rfl, rfl⟩)
    go_ret2
    exact ⟨rfl, rfl⟩
  by_cases c2 : c = 47
  · subst c2
    go_enter Tryd.func78, Tryd.ntmps78
    go_wp2
    go_ret2
    exact ⟨rfl, rfl⟩
  have e : Hid (valM c = valI c ∧ isM c = isDig c) := by unfold Hid valM isM; rw [if_neg c1, if_neg c2, if_neg c1, if_neg c2]; exact ⟨rfl, rfl⟩
  have b1 : (c == 44) = false := by simpa using c1
  have b2 : (c == 47) = false := by simpa using c2
  clear c1 c2
  go_enter Tryd.func78, Tryd.ntmps78
  go_wp2_with (go_at_call 91; (with_reducible refine (bcode_Value _ _ h0 h1).mono ?_); rintro e w1 ⟨rfl, rfl⟩)
  go_ret2
  exact ⟨ret_ib e.out.1.symm e.out.2.symm, rfl⟩
theorem rep_lit (p q : Int) (hp : (Lit.int .u8 p).wf = true) (hq : (Lit.int .u8 q).wf = true) (a : Option Addr) (len cap : Nat) (xs : List Int) (w : World) (hr : Reads .u8 w a len cap xs) (hN : len < 100000000) :
    Calls Tryd.prog 62 #[.slice a len cap, .slice (some ⟨w.heap.size, 0, none⟩) 1 1, .slice (some ⟨w.heap.size + 1, 0, none⟩) 1 1] ((w.alloc (.cells #[.int .u8 p] 5)).alloc (.cells #[.int .u8 q] 5)) fun e w' => ∃ v, e = .returned v ∧ Own .u8 5 w.heap.size w' v (turnL p q xs) ∧ Below w.heap.size w w' := by
  have b1 : Below w.heap.size w (w.alloc (.cells #[.int .u8 p] 5)) := (Below.refl _ _).alloc (Nat.le_refl _) _
  have b2 : Below (w.alloc (.cells #[.int .u8 p] 5)).heap.size (w.alloc (.cells #[.int .u8 p] 5)) ((w.alloc (.cells #[.int .u8 p] 5)).alloc (.cells #[.int .u8 q] 5)) := (Below.refl _ _).alloc (Nat.le_refl _) _
  have r1 : Reads .u8 (w.alloc (.cells #[.int .u8 p] 5)) (some ⟨w.heap.size, 0, none⟩) 1 1 [p] := Reads.lit .u8 5 w [p] (by simp [maxLen]) (by intro x hx; rw [List.mem_singleton.1 hx]; exact hp)
  have r2 : Reads .u8 ((w.alloc (.cells #[.int .u8 p] 5)).alloc (.cells #[.int .u8 q] 5)) (some ⟨w.heap.size + 1, 0, none⟩) 1 1 [q] := by
    have := Reads.lit .u8 5 (w.alloc (.cells #[.int .u8 p] 5)) [q] (by simp [maxLen]) (by intro x hx; rw [List.mem_singleton.1 hx]; exact hq)
    simpa using this
  refine (bytes_ReplaceAll1 a len cap xs _ _ 1 1 p q _ ((hr.below b1).below b2) (r1.below b2) r2 hN).mono ?_
  rintro e w' ⟨v, rfl, ho, hb⟩
  exact ⟨v, rfl, own_mono ho (by simp; omega), (below_then b1 b2).trans (hb.mono (by simp; omega))⟩
theorem bmod_UsualO (a : Option Addr) (len cap : Nat) (xs : List Int) (w : World) (hr : Reads .u8 w a len cap xs) (hN : len < 100000000) :
    Calls Tryd.prog 44 #[.slice a len cap] w fun e w' => ∃ v, e = .returned v ∧ Own .u8 5 w.heap.size w' v (turnL 44 47 xs) ∧ Below w.heap.size w w' := by
  have HC := hid (rep_lit 44 47 (by decide) (by decide) a len cap xs w hr hN)
  clear hr
  go_enter Tryd.func44, Tryd.ntmps44
  go_wp2_with (go_at_call 62; (with_reducible refine HC.out.mono ?_); rintro e w1 ⟨v1, rfl, ho1, hb1⟩)
  go_ret
  exact ⟨_, rfl, ho1, hb1⟩
theorem bmod_Usual (a : Option Addr) (len cap : Nat) (xs : List Int) (w : World) (hr : Reads .u8 w a len cap xs) (hN : len < 100000000) :
    Calls Tryd.prog 44 #[.slice a len cap] w fun e w' => ∃ a' len' cap', e = .returned (.slice a' len' cap') ∧ Reads .u8 w' a' len' cap' (turnL 44 47 xs) ∧ Below w.heap.size w w' := by
  refine (bmod_UsualO a len cap xs w hr hN).mono ?_
  rintro e w' ⟨v, rfl, ho, hb⟩
  obtain ⟨a', c', rfl, hr'⟩ := ho.reads
  exact ⟨_, _, _, rfl, hr', hb⟩
end Go.Proofs.YtiacijodoojgoaaDoor
