/-
  Texts of ours laid together: D25.
-/
import Derived.Test.YtiacijodoojgoaaDoorZ24

/-! D25 -/
namespace Go.Proofs.YtiacijodoojgoaaDoor
open Go.RowKit
set_option linter.unusedVariables false

/-- Why a run's digits may not be (0: they may). -/
def mcRun (d : List Int) (h : Bool) : Int := if mbK d = false ∨ mbT d = [] then 4 else if (mbT d).any mbPrt = true then 5 else if h = true then 6 else 0
/-- Why the first piece may not be. -/
def mcY : List Int → Bool → Int
  | [], _ => 0
  | x :: r, h => if mbPrt x = false then 1 else if x ≠ 38 then 0 else if hdB is45 r = true then 0 else if hdB isM r = false then 2 else if hdB is45 (r.drop (mbD r)) = false then 3 else mcRun (r.takeWhile isM) h
/-- Is it a run? -/
def mcH : List Int → Bool
  | [] => false
  | x :: r => decide (x = 38) && hdB isM r
/-- Why; at which place; how many pieces are right. -/
def mcW : List Int → Bool → Int × Nat × Nat
  | [], _ => (0, 0, 0)
  | x :: r, h => if mcY (x :: r) h ≠ 0 then (mcY (x :: r) h, 0, 0) else ((mcW (r.drop (mbN (x :: r) - 1)) (mcH (x :: r))).1, mbN (x :: r) + (mcW (r.drop (mbN (x :: r) - 1)) (mcH (x :: r))).2.1, 1 + (mcW (r.drop (mbN (x :: r) - 1)) (mcH (x :: r))).2.2)
termination_by xs => xs.length
decreasing_by all_goals (simp [List.length_drop]; omega)
def mcOk (xs : List Int) : Bool := decide ((mcW xs false).1 = 0)

theorem mcY_cons (x : Int) (r : List Int) (h : Bool) : mcY (x :: r) h = if mbPrt x = false then 1 else if x ≠ 38 then 0 else if hdB is45 r = true then 0 else if hdB isM r = false then 2 else if hdB is45 (r.drop (mbD r)) = false then 3 else mcRun (r.takeWhile isM) h := rfl
theorem mcH_cons (x : Int) (r : List Int) : mcH (x :: r) = (decide (x = 38) && hdB isM r) := rfl
theorem mcW_nil (h : Bool) : mcW [] h = (0, 0, 0) := by rw [mcW]
theorem mcW_no {x : Int} {r : List Int} {h : Bool} (hy : mcY (x :: r) h ≠ 0) : mcW (x :: r) h = (mcY (x :: r) h, 0, 0) := by rw [mcW, if_pos hy]
theorem mcW_yes {x : Int} {r : List Int} {h : Bool} (hy : mcY (x :: r) h = 0) : mcW (x :: r) h = ((mcW ((x :: r).drop (mbN (x :: r))) (mcH (x :: r))).1, mbN (x :: r) + (mcW ((x :: r).drop (mbN (x :: r))) (mcH (x :: r))).2.1, 1 + (mcW ((x :: r).drop (mbN (x :: r))) (mcH (x :: r))).2.2) := by
  have hp := mbN_pos x r
  obtain ⟨m, hm⟩ : ∃ m, mbN (x :: r) = m + 1 := ⟨mbN (x :: r) - 1, by omega⟩
  rw [mcW, if_neg (by omega), hm]
  rfl
theorem mcW_at : ∀ (xs : List Int) (h : Bool), (mcW xs h).2.1 ≤ xs.length ∧ (mcW xs h).2.2 ≤ (mcW xs h).2.1 ∧ ((mcW xs h).1 = 0 → (mcW xs h).2.1 = xs.length) := by
  refine mbInd (p := fun xs => ∀ h, (mcW xs h).2.1 ≤ xs.length ∧ (mcW xs h).2.2 ≤ (mcW xs h).2.1 ∧ ((mcW xs h).1 = 0 → (mcW xs h).2.1 = xs.length)) (fun h => by rw [mcW_nil]; exact ⟨Nat.le_refl _, Nat.le_refl _, fun _ => rfl⟩) fun x r ih h => ?_
  by_cases hy : mcY (x :: r) h = 0
  · have i := ih (mcH (x :: r))
    have h1 := mbN_le x r
    have h2 := mbN_pos x r
    rw [mcW_yes hy]
    rw [List.length_drop] at i
    dsimp only
    refine ⟨by omega, by omega, fun h0 => ?_⟩
    have := i.2.2 h0
    omega
  · rw [mcW_no hy]
    exact ⟨Nat.zero_le _, Nat.le_refl _, fun h0 => absurd h0 hy⟩
theorem mcY_bd (xs : List Int) (h : Bool) : 0 ≤ mcY xs h ∧ mcY xs h ≤ 6 := by
  cases xs with
  | nil => exact ⟨Int.le_refl _, by show (0 : Int) ≤ 6; decide⟩
  | cons x r =>
    rw [mcY_cons]
    unfold mcRun
    (repeat' split) <;> omega
theorem mcW_bd : ∀ (xs : List Int) (h : Bool), 0 ≤ (mcW xs h).1 ∧ (mcW xs h).1 ≤ 6 := by
  refine mbInd (p := fun xs => ∀ h, 0 ≤ (mcW xs h).1 ∧ (mcW xs h).1 ≤ 6) (fun h => by rw [mcW_nil]; exact ⟨by decide, by decide⟩) fun x r ih h => ?_
  by_cases hy : mcY (x :: r) h = 0
  · rw [mcW_yes hy]; exact ih _
  · rw [mcW_no hy]; dsimp only; exact mcY_bd _ _

/-! ### digits that are right are the code of what they are read as -/
theorem bit8_num {l : List Int} (h01 : ∀ b ∈ l, b = 0 ∨ b = 1) (hl : l.length = 8) : bit8 (numL l) = l := by
  match l, hl with
  | [a, b, c, d, e, f, g, i], _ =>
    have ha : 0 ≤ a ∧ a ≤ 1 := by have := h01 a (by simp); omega
    have hb : 0 ≤ b ∧ b ≤ 1 := by have := h01 b (by simp); omega
    have hc : 0 ≤ c ∧ c ≤ 1 := by have := h01 c (by simp); omega
    have hd : 0 ≤ d ∧ d ≤ 1 := by have := h01 d (by simp); omega
    have he : 0 ≤ e ∧ e ≤ 1 := by have := h01 e (by simp); omega
    have hf : 0 ≤ f ∧ f ≤ 1 := by have := h01 f (by simp); omega
    have hg : 0 ≤ g ∧ g ≤ 1 := by have := h01 g (by simp); omega
    have hi : 0 ≤ i ∧ i ≤ 1 := by have := h01 i (by simp); omega
    clear h01
    simp only [numL, bit8, List.foldl_cons, List.foldl_nil]
    repeat' (first | rfl | refine cons2 (by omega) ?_)
theorem bit16_num {l : List Int} (h01 : ∀ b ∈ l, b = 0 ∨ b = 1) (hl : l.length = 16) : bit8 (numL l / 256) ++ bit8 (numL l % 256) = l := by
  have h1 : ∀ b ∈ l.take 8, b = 0 ∨ b = 1 := fun b hb => h01 b (List.mem_of_mem_take hb)
  have h2 : ∀ b ∈ l.drop 8, b = 0 ∨ b = 1 := fun b hb => h01 b (List.mem_of_mem_drop hb)
  have e1 := bit8_num h1 (by rw [List.length_take]; omega)
  have e2 := bit8_num h2 (by rw [List.length_drop]; omega)
  have hb := num_lt7 (l.drop 8) 0 h2 (Int.le_refl _)
  have hlen : (l.drop 8).length = 8 := by rw [List.length_drop]; omega
  rw [hlen] at hb
  have hn : numL l = numL (l.take 8) * 256 + numL (l.drop 8) := by
    have := num_app (l.take 8) (l.drop 8)
    rw [List.take_append_drop, hlen] at this
    rw [this]; rfl
  have hb2 : 0 ≤ numL (l.drop 8) ∧ numL (l.drop 8) < 256 := by
    have h3 : 0 ≤ numL (l.drop 8) := hb.1
    have h4 : numL (l.drop 8) < (0 + 1) * 2 ^ 8 := hb.2
    have h5 : ((0 : Int) + 1) * 2 ^ 8 = 256 := by decide
    rw [h5] at h4
    exact ⟨h3, h4⟩
  rw [hn, show (numL (l.take 8) * 256 + numL (l.drop 8)) / 256 = numL (l.take 8) by omega, show (numL (l.take 8) * 256 + numL (l.drop 8)) % 256 = numL (l.drop 8) by omega, e1, e2, List.take_append_drop]
theorem bits8_parts : ∀ (n : Nat) (L : List Int), L.length ≤ n → (∀ b ∈ L, b = 0 ∨ b = 1) → bits8 (ocU (parts 16 numL L)) = L.take (16 * (L.length / 16)) := by
  intro n
  induction n with
  | zero =>
    intro L h _
    obtain rfl : L = [] := List.eq_nil_of_length_eq_zero (by omega)
    rfl
  | succ n ih =>
    intro L h h01
    by_cases hs : L.length < 16
    · rw [parts_short numL hs, show L.length / 16 = 0 by omega]
      rfl
    · have ha : (L.take 16).length = 16 := by rw [List.length_take]; omega
      have e : L = L.take 16 ++ L.drop 16 := (List.take_append_drop 16 L).symm
      have hr : (L.drop 16).length = L.length - 16 := List.length_drop
      have i := ih (L.drop 16) (by omega) (fun b hb => h01 b (List.mem_of_mem_drop hb))
      have hbt := bit16_num (l := L.take 16) (fun b hb => h01 b (List.mem_of_mem_take hb)) ha
      conv => lhs; rw [e]
      rw [parts_app (n := 16) (by decide) numL ha, show ocU (numL (L.take 16) :: parts 16 numL (L.drop 16)) = numL (L.take 16) / 256 :: numL (L.take 16) % 256 :: ocU (parts 16 numL (L.drop 16)) from rfl, bits8_cons, bits8_cons, ← List.append_assoc, hbt, i, hr]
      rw [show 16 * (L.length / 16) = 16 + 16 * ((L.length - 16) / 16) by omega, List.take_add]
theorem num_zero : ∀ l : List Int, (∀ b ∈ l, b = 0 ∨ b = 1) → numL l = 0 → l = List.replicate l.length 0
  | [], _, _ => rfl
  | b :: l, h01, h0 => by
    have h2 := fun c hc => h01 c (List.mem_cons_of_mem b hc)
    have hb := h01 b (List.mem_cons_self ..)
    have hl := num_lt7 l 0 h2 (Int.le_refl _)
    have e := num_app [b] l
    rw [List.singleton_append, h0] at e
    have hp : (0 : Int) < 2 ^ l.length := Int.pow_pos (by decide)
    have e1 : numL [b] = b := by simp [numL]
    rw [e1] at e
    have hn : 0 ≤ numL l := hl.1
    rcases hb with rfl | rfl
    · rw [List.length_cons, List.replicate_succ, ← num_zero l h2 (by omega)]
    · exfalso; omega
theorem parts6_bits : ∀ vs : List Int, (∀ v ∈ vs, V6 v) → parts 6 (fun l => dg64 (numL l)) (bits6 vs) = vs.map dg64
  | [], _ => by rw [show bits6 [] = [] from rfl, parts_short _ (by decide)]; rfl
  | v :: vs, h => by
    rw [bits6_cons, parts_app (n := 6) (by decide) _ (by simp [bit6]), parts6_bits vs (fun x hx => h x (List.mem_cons_of_mem _ hx)), num6 v (h v (List.mem_cons_self ..))]
    rfl
theorem bare_of {X : List Int} (hd : X.all isDig = true) (hl : lftB (vlD X) = false) : bareB (ocU (uniD X)) = X := by
  have hv : ∀ v ∈ X.map valI, V6 v := fun v hv => by
    obtain ⟨c, _, rfl⟩ := List.mem_map.1 hv
    exact val_bd c
  have eL : vlD X = bits6 (X.map valI) := by unfold vlD; rw [if_pos hd]
  have h01 := vlD_01 X
  have hlen : (vlD X).length = 6 * X.length := by rw [eL, bits6_len, List.length_map]
  have hlf : (vlD X).length % 16 < 6 ∧ numL (restD (vlD X)) = 0 := by
    unfold lftB at hl
    rw [Bool.or_eq_false_iff, decide_eq_false_iff_not, decide_eq_false_iff_not] at hl
    exact ⟨by omega, Decidable.not_not.1 hl.2⟩
  have hrz := num_zero (restD (vlD X)) (fun b hb => h01 b (List.mem_of_mem_drop hb)) hlf.2
  have hrl : (restD (vlD X)).length = (vlD X).length - 16 * ((vlD X).length / 16) := by unfold restD; rw [List.length_drop]
  have e8 := bits8_parts _ (vlD X) (Nat.le_refl _) h01
  have hb := bare_bits (ocU (uniD X)) (ocU_O8 (uniD_bd X))
  have hp : pad6 (bits8 (ocU (uniD X))) = vlD X := by
    have e9 : bits8 (ocU (uniD X)) = (vlD X).take (16 * ((vlD X).length / 16)) := e8
    rw [e9]
    unfold pad6
    rw [List.length_take]
    have : (6 - min (16 * ((vlD X).length / 16)) (vlD X).length % 6) % 6 = (restD (vlD X)).length := by
      rw [hrl, Nat.min_eq_left (by omega)]
      omega
    rw [this, ← hrz]
    unfold restD
    exact List.take_append_drop _ _
  rw [hp, eL, parts6_bits _ hv, List.map_map] at hb
  rw [← hb]
  conv => rhs; rw [← List.map_id X]
  exact List.map_congr_left fun c hc => dig_of_val (List.all_eq_true.1 hd c hc)
theorem mbK_iff {d : List Int} (h : mbK d = true) : d.all isM = true ∧ runOk (mbX d) = true ∧ lftB (vlD (mbX d)) = false ∧ mbA d = mbT d ∧ mbCod (mbT d) = d := by
  unfold mbK at h
  rw [Bool.and_eq_true] at h
  have h2 := h.2
  unfold runOk at h2
  rw [Bool.and_eq_true, Bool.and_eq_true, decide_eq_true_eq] at h2
  obtain ⟨hd, he, hl⟩ := h2
  have hl : lftB (vlD (mbX d)) = false := by simpa using hl
  have hT : mbT d = runT (mbX d) := by unfold mbT; rw [if_pos h.1]
  have hA : mbA d = mbT d := by
    rw [hT]
    unfold mbA
    rw [if_pos h.1]
    unfold lftT
    rw [hl, if_neg (by decide), List.append_nil]
  refine ⟨h.1, h.2, hl, hA, ?_⟩
  rw [hT]
  unfold mbCod
  rw [if_pos (runT_sc _)]
  have hu : unL (runT (mbX d)) = uniD (mbX d) := (unL_back _ (uniD_bd _)).2 he
  rw [hu]
  unfold layM
  rw [bare_of hd hl]
  unfold mbX turnL
  rw [List.map_map]
  conv => rhs; rw [← List.map_id d]
  exact List.map_congr_left fun c hc => turn_fore (List.all_eq_true.1 h.1 c hc)

/-! ### right just if laid (P25.3) -/
theorem mcRun_0 {d : List Int} {h : Bool} : mcRun d h = 0 ↔ mbK d = true ∧ mbT d ≠ [] ∧ (mbT d).any mbPrt = false ∧ h = false := by
  unfold mcRun
  by_cases h1 : mbK d = false ∨ mbT d = []
  · rw [if_pos h1]
    refine ⟨fun h => absurd h (by decide), fun hh => ?_⟩
    rcases h1 with h1 | h1
    · rw [h1] at hh; cases hh.1
    · exact absurd h1 hh.2.1
  · rw [if_neg h1]
    have h2 : mbK d = true ∧ mbT d ≠ [] := ⟨by cases hk : mbK d; exact absurd (.inl hk) h1; rfl, fun hh => h1 (.inr hh)⟩
    cases ha : (mbT d).any mbPrt
    · cases h
      · simp [h2]
      · simp
    · simp
theorem hd45 {r : List Int} (h : hdB is45 r = true) : ∃ s, r = 45 :: s := by
  cases r with
  | nil => cases h
  | cons y s => exact ⟨s, by simp [hdB, is45] at h; rw [h]⟩
theorem lay_of_right : ∀ (xs : List Int) (h : Bool), (mcW xs h).1 = 0 → mbLay (mbRd xs) [] = xs ∧ (h = true → mbStop (mbRd xs)) := by
  refine mbInd (p := fun xs => ∀ h, (mcW xs h).1 = 0 → mbLay (mbRd xs) [] = xs ∧ (h = true → mbStop (mbRd xs))) (fun h _ => by rw [mbRd_nil.1]; exact ⟨rfl, fun _ => .inl rfl⟩) fun x r ih h hw => ?_
  by_cases hy : mcY (x :: r) h = 0
  · rw [mcW_yes hy] at hw
    obtain ⟨i1, i2⟩ := ih _ hw
    rw [mbRd_cons]
    rw [mcY_cons] at hy
    cases hp : mbPrt x
    · rw [hp, if_pos rfl] at hy; exact absurd hy (by decide)
    · rw [hp, if_neg (by decide)] at hy
      by_cases h38 : x ≠ 38
      · have e1 : mbU (x :: r) = ([x], true) := by rw [mbU, if_pos (mbDir_of hp h38)]
        have e2 : mbN (x :: r) = 1 := by rw [mbN, if_pos h38]
        rw [e2] at i1
        rw [e1, e2]
        refine ⟨?_, fun _ => .inr ⟨x, _, rfl, hp⟩⟩
        show mbLay (x :: mbRd r) [] = x :: r
        rw [mbLay_dir hp h38, show mbLay (mbRd r) [] = r from i1]
      · obtain rfl : x = 38 := by omega
        rw [if_neg (by decide)] at hy
        cases h45 : hdB is45 r
        · rw [h45, if_neg (by decide)] at hy
          cases hm : hdB isM r
          · rw [hm, if_pos rfl] at hy; exact absurd hy (by decide)
          · rw [hm, if_neg (by decide)] at hy
            cases h5 : hdB is45 (r.drop (mbD r))
            · rw [h5, if_pos rfl] at hy; exact absurd hy (by decide)
            · rw [h5, if_neg (by decide), mcRun_0] at hy
              obtain ⟨hk, hne, hnp, rfl⟩ := hy
              obtain ⟨q1, q2, q3, q4, q5⟩ := mbK_iff hk
              obtain ⟨s, hs⟩ := hd45 h5
              have er : r = r.takeWhile isM ++ 45 :: s := by
                rw [← hs, ← take_mbD]; exact (List.take_append_drop _ r).symm
              have e1 : mbU (38 :: r) = (mbA (r.takeWhile isM), mbK (r.takeWhile isM) && hdB is45 (r.drop (mbD r))) := by rw [mbU, if_neg (by rw [mbDir_38]; decide), if_neg (by decide), if_pos hm]
              have e2 : (38 :: r).drop (mbN (38 :: r)) = s := by
                rw [mbN, if_neg (by decide), if_pos hm, h5, if_pos rfl, show 1 + mbD r + 1 = (mbD r + 1) + 1 by omega, List.drop_succ_cons, ← List.drop_drop, hs]
                rfl
              have hst : mbStop (mbRd ((38 :: r).drop (mbN (38 :: r)))) := i2 (by rw [mcH_cons, hm]; rfl)
              rw [e2] at i1 hst
              rw [e1, e2, q4]
              refine ⟨?_, fun hh => by cases hh⟩
              dsimp only
              cases hT : mbT (r.takeWhile isM) with
              | nil => exact absurd hT hne
              | cons c u =>
                rw [hT] at hnp q5
                rw [List.any_cons, Bool.or_eq_false_iff] at hnp
                rw [List.cons_append, mbLay_one hnp.1 (fun y hy => by have := List.any_eq_false.1 hnp.2 y hy; simpa using this) hst, q5, i1]
                conv => rhs; rw [er]
        · obtain ⟨s, rfl⟩ := hd45 h45
          have e1 : mbU (38 :: 45 :: s) = ([38], true) := by rw [mbU, if_neg (by rw [mbDir_38]; decide), if_neg (by decide), if_neg (by simp [hdB, isM_45]), if_pos (by simp [hdB, is45])]
          have e2 : mbN (38 :: 45 :: s) = 2 := by rw [mbN, if_neg (by decide), if_neg (by simp [hdB, isM_45]), if_pos (by simp [hdB, is45])]
          rw [e2] at i1
          rw [e1, e2]
          refine ⟨?_, fun _ => .inr ⟨38, _, rfl, hp⟩⟩
          show mbLay (38 :: mbRd s) [] = 38 :: 45 :: s
          rw [mbLay_amp, show mbLay (mbRd s) [] = s from i1]
  · rw [mcW_no hy] at hw
    exact absurd hw hy
theorem right_of_lay : ∀ (n : Nat) (t : List Int), t.length ≤ n → t.all scB = true → ∀ h, (h = true → mbStop t) → (mcW (mbLay t []) h).1 = 0 := by
  intro n
  induction n with
  | zero =>
    intro t h _ b _
    obtain rfl : t = [] := List.eq_nil_of_length_eq_zero (by omega)
    show (mcW [] b).1 = 0
    rw [mcW_nil]
  | succ n ih =>
    intro t h hs b hb
    match t, h, hs, hb with
    | [], _, _, _ => show (mcW [] b).1 = 0
                     rw [mcW_nil]
    | c :: t, h, hs, hb =>
      have hs' := hs
      rw [List.all_cons, Bool.and_eq_true] at hs
      cases hc : mbPrt c
      · obtain ⟨u, rest, rfl, hu, hst⟩ := mbSplit t
        have hbf : b = false := by
          cases b
          · rfl
          · rcases hb rfl with h0 | ⟨c', s', h0, h1⟩
            · cases h0
            · cases h0; rw [hc] at h1; cases h1
        subst hbf
        rw [List.all_append, Bool.and_eq_true] at hs
        have hcu : (c :: u).all scB = true := by rw [List.all_cons, hs.1, hs.2.1]; rfl
        obtain ⟨q1, q2, q3⟩ := mbCod_read hcu
        have hKK := mbK_iff q3
        obtain ⟨p1, p2⟩ := mb_run (rest := mbLay rest []) q1 (mbCod_ne hcu)
        have e := take_ms (d := mbCod (c :: u)) (rest := 45 :: mbLay rest []) q1 (by simp [hdB, isM_45])
        have hd : mbD (mbCod (c :: u) ++ 45 :: mbLay rest []) = (mbCod (c :: u)).length := by unfold mbD; rw [e]
        have hh : hdB isM (mbCod (c :: u) ++ 45 :: mbLay rest []) = true := by
          cases hM : mbCod (c :: u) with
          | nil => exact absurd hM (mbCod_ne hcu)
          | cons x d => rw [hM, List.all_cons, Bool.and_eq_true] at q1; exact q1.1
        have h45 : hdB is45 (mbCod (c :: u) ++ 45 :: mbLay rest []) = false := by
          cases hM : mbCod (c :: u) with
          | nil => exact absurd hM (mbCod_ne hcu)
          | cons x d =>
            rw [hM, List.all_cons, Bool.and_eq_true] at q1
            have : x ≠ 45 := by rintro rfl; rw [isM_45] at q1; cases q1.1
            simpa [hdB, is45] using this
        have hTT : mbT (mbCod (c :: u)) = c :: u := by rw [← hKK.2.2.2.1, q2]
        have hy : mcY (38 :: (mbCod (c :: u) ++ 45 :: mbLay rest [])) false = 0 := by
          rw [mcY_cons, if_neg (by decide), if_neg (by decide), h45, if_neg (by decide), hh, if_neg (by decide), hd, List.drop_left, if_neg (by simp [hdB, is45]), e, mcRun_0, hTT]
          refine ⟨q3, by simp, ?_, rfl⟩
          rw [List.any_cons, hc, Bool.false_or, List.any_eq_false]
          exact fun y hy => by rw [hu y hy]; decide
        rw [mbLay_one hc hu hst, mcW_yes hy, p1]
        dsimp only
        have ed : (38 :: (mbCod (c :: u) ++ 45 :: mbLay rest [])).drop ((mbCod (c :: u)).length + 2) = mbLay rest [] := by
          rw [show (mbCod (c :: u)).length + 2 = ((mbCod (c :: u)).length + 1) + 1 by omega, List.drop_succ_cons, ← List.drop_drop, List.drop_left]
          rfl
        rw [ed]
        exact ih rest (by simp at h; omega) hs.2.2 _ (fun _ => hst)
      · by_cases h38 : c = 38
        · subst h38
          have hy : mcY (38 :: 45 :: mbLay t []) b = 0 := by
            rw [mcY_cons, if_neg (by decide), if_neg (by decide), if_pos (by simp [hdB, is45])]
          have e2 : mbN (38 :: 45 :: mbLay t []) = 2 := by rw [mbN, if_neg (by decide), if_neg (by simp [hdB, isM_45]), if_pos (by simp [hdB, is45])]
          have e3 : mcH (38 :: 45 :: mbLay t []) = false := by rw [mcH_cons]; simp [hdB, isM_45]
          rw [mbLay_amp, mcW_yes hy, e2, e3]
          exact ih t (by simp at h; omega) hs.2 _ (fun hh => by cases hh)
        · have hy : mcY (c :: mbLay t []) b = 0 := by
            rw [mcY_cons, hc, if_neg (by decide), if_pos h38]
          have e2 : mbN (c :: mbLay t []) = 1 := by rw [mbN, if_pos h38]
          have e3 : mcH (c :: mbLay t []) = false := by rw [mcH_cons, decide_eq_false h38]; rfl
          rw [mbLay_dir hc h38, mcW_yes hy, e2, e3]
          exact ih t (by simp at h; omega) hs.2 _ (fun hh => by cases hh)
/-- A name is right just if it is what is laid of what is read of it. -/
theorem mcOk_iff (xs : List Int) : mcOk xs = decide (mbL (mbRd xs) = xs) := by
  unfold mcOk mbL
  rw [if_pos (mbRd_sc xs), decide_eq_decide]
  refine ⟨fun h => (lay_of_right xs false h).1, fun h => ?_⟩
  have := right_of_lay _ (mbRd xs) (Nat.le_refl _) (mbRd_sc xs) false (fun hh => by cases hh)
  rwa [h] at this
theorem mcOk_laid {t : List Int} (h : t.all scB = true) : mcOk (mbL t) = true := by
  rw [mcOk_iff, (mbL_read h).1, decide_eq_true rfl]
theorem mcOk_same {a b : List Int} (ha : mcOk a = true) (hb : mcOk b = true) : mbRd a = mbRd b ↔ a = b := by
  rw [mcOk_iff, decide_eq_true_eq] at ha hb
  refine ⟨fun h => ?_, fun h => by rw [h]⟩
  rw [← ha, ← hb, h]
/-- What is read of a name that is right; else nothing, and the error. -/
def mcR (xs : List Int) : List Int := if mcOk xs = true then mbRd xs else []
def mcE (xs : List Int) : Int := if mcOk xs = true then 0 else 14
theorem mcW_ok (xs : List Int) : ((mcW xs false).1 == 0) = mcOk xs := by unfold mcOk; rw [Bool.eq_iff_iff]; simp
theorem mc_of {xs : List Int} : (mcOk xs = true ∧ mcE xs = 0 ∧ mcR xs = mbRd xs) ∨ (mcOk xs = false ∧ mcE xs = 14 ∧ mcR xs = []) := by
  unfold mcE mcR
  cases mcOk xs
  · exact .inr ⟨rfl, rfl, rfl⟩
  · exact .inl ⟨rfl, rfl, rfl⟩
end Go.Proofs.YtiacijodoojgoaaDoor
