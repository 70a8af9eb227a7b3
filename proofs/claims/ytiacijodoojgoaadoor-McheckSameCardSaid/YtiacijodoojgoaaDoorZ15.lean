/-
  Texts of ours laid together: D24.
-/
import Derived.Test.YtiacijodoojgoaaDoorZ14

/-! D24 -/
namespace Go.Proofs.YtiacijodoojgoaaDoor
open Go.RowKit
set_option linter.unusedVariables false

/-- A sign that may stand (a direct one, or the one that shifts). -/
def mbPrt (c : Int) : Bool := decide (32 ≤ c ∧ c ≤ 126)
def mbDir (c : Int) : Bool := mbPrt c && decide (c ≠ 38)
def mbCod (t : List Int) : List Int := if t.all scB = true then layM (ocU (unL t)) else []
def mbClose (run : List Int) : List Int := if run = [] then [] else 38 :: (mbCod run ++ [45])
/-- What is laid, behind a run that is open. -/
def mbLay : List Int → List Int → List Int
  | [], run => mbClose run
  | c :: r, run => if mbPrt c = true then mbClose run ++ ((if c = 38 then [38, 45] else [c]) ++ mbLay r []) else mbLay r (run ++ [c])
def mbRuns : List Int → Bool → Nat
  | [], _ => 0
  | c :: r, b => if mbPrt c = true then mbRuns r false else (if b = true then 0 else 1) + mbRuns r true
def mbL (t : List Int) : List Int := if t.all scB = true then mbLay t [] else []
def mbE (t : List Int) : Int := if t.all scB = true then 0 else 7

theorem mbPrt_iff (c : Int) : mbPrt c = true ↔ 32 ≤ c ∧ c ≤ 126 := decide_eq_true_iff
theorem mbDir_of {c : Int} (h : mbPrt c = true) (h' : c ≠ 38) : mbDir c = true := by unfold mbDir; rw [h, decide_eq_true h']; rfl
theorem mbDir_iff (c : Int) : mbDir c = true ↔ mbPrt c = true ∧ c ≠ 38 := by unfold mbDir; rw [Bool.and_eq_true, decide_eq_true_eq]
theorem mbDir_no {c : Int} (h : mbDir c = false) : mbPrt c = false ∨ c = 38 := by
  unfold mbDir at h
  cases hp : mbPrt c
  · exact .inl rfl
  · rw [hp, Bool.true_and, decide_eq_false_iff_not] at h
    exact .inr (by omega)
theorem mbPrt_sc {c : Int} (h : mbPrt c = true) : scB c = true := by
  have := (mbPrt_iff c).1 h
  exact (scB_iff c).2 (by omega)
theorem mbRuns_le : ∀ (xs : List Int) (b : Bool), mbRuns xs b ≤ xs.length
  | [], _ => Nat.le_refl _
  | c :: r, b => by
    have h1 := mbRuns_le r false
    have h2 := mbRuns_le r true
    rw [mbRuns, List.length_cons]
    split
    · omega
    · split <;> omega
theorem mbLay_run : ∀ (u rest acc : List Int), (∀ x ∈ u, mbPrt x = false) → mbLay (u ++ rest) acc = mbLay rest (acc ++ u)
  | [], rest, acc, _ => by simp
  | x :: u, rest, acc, h => by
    have hx := h x (List.mem_cons_self ..)
    rw [List.cons_append, mbLay, if_neg (by rw [hx]; decide), mbLay_run u rest (acc ++ [x]) (fun y hy => h y (List.mem_cons_of_mem _ hy))]
    simp
/-- A run stops ahead of a sign that may stand, or at the end. -/
def mbStop (r : List Int) : Prop := r = [] ∨ ∃ c s, r = c :: s ∧ mbPrt c = true
theorem mbLay_stop {rest acc : List Int} (h : mbStop rest) : mbLay rest acc = mbClose acc ++ mbLay rest [] := by
  rcases h with rfl | ⟨c, s, rfl, hc⟩
  · simp [mbLay, mbClose]
  · rw [mbLay, mbLay, if_pos hc, if_pos hc]; rfl
theorem mbLay_one {u rest : List Int} {x : Int} (hx : mbPrt x = false) (hu : ∀ y ∈ u, mbPrt y = false) (h : mbStop rest) : mbLay (x :: (u ++ rest)) [] = 38 :: (mbCod (x :: u) ++ (45 :: mbLay rest [])) := by
  rw [mbLay, if_neg (by rw [hx]; decide), List.nil_append, mbLay_run u rest [x] hu, mbLay_stop h]
  unfold mbClose
  rw [if_neg (by simp)]
  simp
theorem mbLay_dir {c : Int} (h : mbPrt c = true) (h38 : c ≠ 38) (r : List Int) : mbLay (c :: r) [] = c :: mbLay r [] := by
  rw [mbLay, if_pos h, if_neg h38]; rfl
theorem mbLay_amp (r : List Int) : mbLay (38 :: r) [] = 38 :: 45 :: mbLay r [] := by
  rw [mbLay, if_pos (by decide), if_pos rfl]; rfl
theorem mbSplit : ∀ t : List Int, ∃ u rest, t = u ++ rest ∧ (∀ x ∈ u, mbPrt x = false) ∧ mbStop rest
  | [] => ⟨[], [], rfl, fun x hx => (by cases hx), .inl rfl⟩
  | c :: t => by
    cases h : mbPrt c
    · obtain ⟨u, rest, e, h1, h2⟩ := mbSplit t
      exact ⟨c :: u, rest, by rw [e]; rfl, fun x hx => by rcases List.mem_cons.1 hx with rfl | hx; exact h; exact h1 x hx, h2⟩
    · exact ⟨[], c :: t, rfl, fun x hx => (by cases hx), .inr ⟨c, t, rfl, h⟩⟩
theorem layM_len (xs : List Int) : (layM xs).length = (bareB xs).length := by unfold layM turnL; rw [List.length_map]
theorem mbCod_le (t : List Int) : (mbCod t).length ≤ 8 * t.length := by
  have h := codU_le t
  unfold codU at h
  unfold mbCod
  split
  · rename_i h1
    rw [if_pos h1] at h
    rw [layM_len]; exact h
  · exact Nat.zero_le _
theorem mbClose_le (t : List Int) : (mbClose t).length ≤ 10 * t.length := by
  have h := mbCod_le t
  unfold mbClose
  split
  · exact Nat.zero_le _
  · rename_i hne
    have : 0 < t.length := List.length_pos_iff.2 hne
    simp only [List.length_cons, List.length_append, List.length_nil]
    omega
theorem mbLay_le : ∀ (t run : List Int), (mbLay t run).length ≤ 10 * (run.length + t.length)
  | [], run => by rw [mbLay]; have := mbClose_le run; simpa using this
  | c :: r, run => by
    have h1 := mbLay_le r []
    have h2 := mbLay_le r (run ++ [c])
    have h3 := mbClose_le run
    rw [mbLay]
    split
    · split <;> (simp only [List.length_append, List.length_cons, List.length_nil] at *; omega)
    · simp only [List.length_append, List.length_cons, List.length_nil] at *; omega
theorem mbL_le (t : List Int) : (mbL t).length ≤ 10 * t.length := by
  unfold mbL
  split
  · have := mbLay_le t []; simpa using this
  · exact Nat.zero_le _

/-! ### all of it may stand -/
theorem layM_dig {xs : List Int} (h : ∀ x ∈ xs, O8 x) : (layM xs).all isM = true ∧ turnL 44 47 (layM xs) = bareB xs := by
  have hd := bare_dig h
  refine ⟨?_, ?_⟩
  · unfold layM turnL
    rw [List.all_map, List.all_eq_true]
    exact fun c hc => (turn_back (List.all_eq_true.1 hd.1 c hc)).2
  · unfold layM turnL
    rw [List.map_map]
    conv => rhs; rw [← List.map_id (bareB xs)]
    exact List.map_congr_left fun c hc => (turn_back (List.all_eq_true.1 hd.1 c hc)).1
theorem dig_prt {c : Int} (h : isDig c = true) : mbPrt (turnI 47 44 c) = true := by
  have h1 := dig_of_val h
  have h2 := dig_bd (val_bd c)
  rw [h1] at h2
  unfold turnI
  rw [mbPrt_iff]
  split <;> omega
theorem mbCod_prt (t : List Int) : (mbCod t).all mbPrt = true := by
  unfold mbCod
  split
  · have hd := bare_dig (ocU_O8 (unL_bd t))
    unfold layM turnL
    rw [List.all_map, List.all_eq_true]
    exact fun c hc => dig_prt (List.all_eq_true.1 hd.1 c hc)
  · rfl
theorem mbClose_prt (t : List Int) : (mbClose t).all mbPrt = true := by
  unfold mbClose
  split
  · rfl
  · rw [List.all_cons, List.all_append, mbCod_prt]; rfl
theorem mbLay_prt : ∀ (t run : List Int), (mbLay t run).all mbPrt = true
  | [], run => by rw [mbLay]; exact mbClose_prt run
  | c :: r, run => by
    rw [mbLay]
    split
    · rename_i hc
      rw [List.all_append, List.all_append, mbClose_prt, mbLay_prt r []]
      split
      · rfl
      · rw [List.all_cons, hc]; rfl
    · exact mbLay_prt r _
theorem mbL_prt (t : List Int) : (mbL t).all mbPrt = true := by
  unfold mbL
  split
  · exact mbLay_prt t []
  · rfl

/-! ### to read -/
def mbD (r : List Int) : Nat := (r.takeWhile isM).length
/-- A run's digits as the usual code has them. -/
def mbX (d : List Int) : List Int := turnL 44 47 d
/-- What a run's digits are: the signs; with what is left over; are they right? -/
def mbT (d : List Int) : List Int := if d.all isM = true then runT (mbX d) else []
def mbA (d : List Int) : List Int := if d.all isM = true then runT (mbX d) ++ lftT (mbX d) else []
def mbK (d : List Int) : Bool := d.all isM && runOk (mbX d)
def mbN : List Int → Nat
  | [] => 0
  | x :: r => if x ≠ 38 then 1 else if hdB isM r = true then 1 + mbD r + (if hdB is45 (r.drop (mbD r)) = true then 1 else 0) else if hdB is45 r = true then 2 else 1
def mbU : List Int → List Int × Bool
  | [] => ([], true)
  | x :: r => if mbDir x = true then ([x], true) else if x ≠ 38 then ([65533], false) else if hdB isM r = true then (mbA (r.takeWhile isM), mbK (r.takeWhile isM) && hdB is45 (r.drop (mbD r))) else if hdB is45 r = true then ([38], true) else ([65533], false)
def mbSeg : List Int → List (List Int × Bool)
  | [] => []
  | x :: r => mbU (x :: r) :: mbSeg (r.drop (mbN (x :: r) - 1))
termination_by xs => xs.length
decreasing_by simp [List.length_drop]; omega
def mbRd (xs : List Int) : List Int := (mbSeg xs).flatMap Prod.fst
def mbOk (xs : List Int) : Bool := (mbSeg xs).all fun p => p.2

theorem mbN_pos (x : Int) (r : List Int) : 0 < mbN (x :: r) := by
  rw [mbN]
  (repeat' split) <;> omega
theorem mbSeg_nil : mbSeg [] = [] := by rw [mbSeg]
theorem mbSeg_cons (x : Int) (r : List Int) : mbSeg (x :: r) = mbU (x :: r) :: mbSeg ((x :: r).drop (mbN (x :: r))) := by
  rw [mbSeg]
  have h := mbN_pos x r
  obtain ⟨m, hm⟩ : ∃ m, mbN (x :: r) = m + 1 := ⟨mbN (x :: r) - 1, by omega⟩
  rw [hm]
  rfl
theorem mbRd_cons (x : Int) (r : List Int) : mbRd (x :: r) = (mbU (x :: r)).1 ++ mbRd ((x :: r).drop (mbN (x :: r))) := by
  unfold mbRd; rw [mbSeg_cons]; rfl
theorem mbOk_cons (x : Int) (r : List Int) : mbOk (x :: r) = ((mbU (x :: r)).2 && mbOk ((x :: r).drop (mbN (x :: r)))) := by
  unfold mbOk; rw [mbSeg_cons]; rfl
theorem mbRd_nil : mbRd [] = [] ∧ mbOk [] = true := by
  unfold mbRd mbOk; rw [mbSeg_nil]; exact ⟨rfl, rfl⟩
theorem mbInd {p : List Int → Prop} (h0 : p []) (h1 : ∀ x r, p ((x :: r).drop (mbN (x :: r))) → p (x :: r)) : ∀ xs, p xs := by
  have key : ∀ (n : Nat) (xs : List Int), xs.length ≤ n → p xs := by
    intro n
    induction n with
    | zero => intro xs h; obtain rfl : xs = [] := List.eq_nil_of_length_eq_zero (by omega)
              exact h0
    | succ n ih =>
      intro xs h
      match xs, h with
      | [], _ => exact h0
      | x :: r, h => exact h1 x r (ih _ (by have := mbN_pos x r; simp only [List.length_drop, List.length_cons] at h ⊢; omega))
  exact fun xs => key _ xs (Nat.le_refl _)
theorem isM_45 : isM 45 = false := by decide +kernel
theorem mbDir_38 : mbDir 38 = false := by decide
theorem mbX_len (d : List Int) : (mbX d).length = d.length := by unfold mbX turnL; rw [List.length_map]
theorem mbT_len (d : List Int) : 16 * (mbT d).length ≤ 6 * d.length := by
  have h := runT_len (mbX d)
  rw [mbX_len] at h
  unfold mbT
  split
  · exact h
  · simp
theorem mbA_len (d : List Int) : (mbA d).length ≤ d.length + 1 := by
  have h := runT_len (mbX d)
  have h2 := lftT_len (mbX d)
  rw [mbX_len] at h
  unfold mbA
  split
  · rw [List.length_append]; omega
  · simp
theorem mbT_sc (d : List Int) : (mbT d).all scB = true := by
  unfold mbT
  split
  · exact runT_sc _
  · rfl
theorem mbA_sc (d : List Int) : (mbA d).all scB = true := by
  unfold mbA
  split
  · rw [List.all_append, runT_sc]
    unfold lftT
    split <;> decide
  · rfl
theorem sc_wf {t : List Int} (h : t.all scB = true) : ∀ x ∈ t, (Lit.int .i32 x).wf = true := by
  intro x hx
  have := (scB_iff x).1 (List.all_eq_true.1 h x hx)
  exact mk_r (by omega) (by omega)
theorem mbD_le (r : List Int) : mbD r ≤ r.length := (List.takeWhile_sublist _).length_le
theorem mbU_len (x : Int) (r : List Int) : (mbU (x :: r)).1.length ≤ mbN (x :: r) := by
  rw [mbU, mbN]
  by_cases h1 : mbDir x = true
  · rw [if_pos h1, if_pos ((mbDir_iff x).1 h1).2]; simp
  · rw [if_neg h1]
    by_cases h38 : x ≠ 38
    · rw [if_pos h38, if_pos h38]; simp
    · rw [if_neg h38, if_neg h38]
      by_cases hd : hdB isM r = true
      · rw [if_pos hd, if_pos hd]
        have h2 := mbA_len (r.takeWhile isM)
        unfold mbD
        dsimp only
        omega
      · rw [if_neg hd, if_neg hd]
        split <;> simp
theorem mbN_le (x : Int) (r : List Int) : mbN (x :: r) ≤ (x :: r).length := by
  rw [mbN]
  have h := mbD_le r
  rw [List.length_cons]
  split
  · omega
  · split
    · split
      · rename_i _ _ h2
        have : mbD r < r.length := by
          by_cases hh : r.length ≤ mbD r
          · rw [List.drop_of_length_le hh] at h2; cases h2
          · omega
        omega
      · omega
    · split
      · rename_i _ _ h2
        cases r with
        | nil => cases h2
        | cons y r => simp
      · omega
theorem mbRd_len : ∀ xs : List Int, (mbRd xs).length ≤ xs.length := by
  refine mbInd (by rw [mbRd_nil.1]; exact Nat.le_refl _) fun x r ih => ?_
  have h1 := mbU_len x r
  have h2 := mbN_le x r
  rw [mbRd_cons, List.length_append]
  rw [List.length_drop] at ih
  omega
theorem mbU_sc (x : Int) (r : List Int) : (mbU (x :: r)).1.all scB = true := by
  rw [mbU]
  split
  · rename_i h
    rw [List.all_cons, mbPrt_sc ((mbDir_iff x).1 h).1]; rfl
  · split
    · decide
    · split
      · exact mbA_sc _
      · split <;> decide
theorem mbRd_sc : ∀ xs : List Int, (mbRd xs).all scB = true := by
  refine mbInd (by rw [mbRd_nil.1]; rfl) fun x r ih => ?_
  rw [mbRd_cons, List.all_append, mbU_sc x r, ih]
  rfl
theorem mbRd_wf (xs : List Int) : ∀ x ∈ mbRd xs, (Lit.int .i32 x).wf = true := sc_wf (mbRd_sc xs)

/-! ### what is laid is read -/
theorem take_ms {d rest : List Int} (h : d.all isM = true) (hr : hdB isM rest = false) : (d ++ rest).takeWhile isM = d := by
  induction d with
  | nil =>
    cases rest with
    | nil => rfl
    | cons y r => rw [List.nil_append, List.takeWhile_cons_of_neg (by simpa [hdB] using hr)]
  | cons x d ih =>
    rw [List.all_cons, Bool.and_eq_true] at h
    rw [List.cons_append, List.takeWhile_cons_of_pos h.1, ih h.2]
/-- A run that is laid: read, and what stands behind it. -/
theorem mb_run {d rest : List Int} (h : d.all isM = true) (hne : d ≠ []) :
    mbN (38 :: (d ++ 45 :: rest)) = d.length + 2 ∧ mbU (38 :: (d ++ 45 :: rest)) = (mbA d, mbK d) := by
  have e := take_ms (rest := 45 :: rest) h (by simp [hdB, isM_45])
  have hh : hdB isM (d ++ 45 :: rest) = true := by
    cases d with
    | nil => exact absurd rfl hne
    | cons x d => rw [List.all_cons, Bool.and_eq_true] at h; exact h.1
  have hd : mbD (d ++ 45 :: rest) = d.length := by unfold mbD; rw [e]
  refine ⟨?_, ?_⟩
  · rw [mbN, if_neg (by decide), if_pos hh, hd, List.drop_left]
    simp [hdB, is45]
    omega
  · rw [mbU, if_neg (by rw [mbDir_38]; decide), if_neg (by decide), if_pos hh, e, hd, List.drop_left]
    simp [hdB, is45]
theorem mbCod_read {t : List Int} (h : t.all scB = true) : (mbCod t).all isM = true ∧ mbA (mbCod t) = t ∧ mbK (mbCod t) = true := by
  obtain ⟨h1, h2⟩ := layM_dig (ocU_O8 (unL_bd t))
  obtain ⟨q1, q2, q3, q4⟩ := codU_read h
  have e : mbCod t = layM (ocU (unL t)) := by unfold mbCod; rw [if_pos h]
  have e2 : codU t = bareB (ocU (unL t)) := by unfold codU; rw [if_pos h]
  rw [← e2] at h2
  rw [← e] at h1 h2
  refine ⟨h1, ?_, ?_⟩
  · unfold mbA mbX; rw [if_pos h1, h2, q2, q4, List.append_nil]
  · unfold mbK mbX; rw [h1, h2, q3]; rfl
theorem mbCod_ne {x : Int} {t : List Int} (h : (x :: t).all scB = true) : mbCod (x :: t) ≠ [] := by
  have h1 := codU_ne h
  have e : mbCod (x :: t) = layM (ocU (unL (x :: t))) := by unfold mbCod; rw [if_pos h]
  have e2 : codU (x :: t) = bareB (ocU (unL (x :: t))) := by unfold codU; rw [if_pos h]
  rw [e]
  intro hh
  have := layM_len (ocU (unL (x :: t)))
  rw [hh, ← e2, List.length_nil] at this
  exact h1 (List.eq_nil_of_length_eq_zero this.symm)
/-- What is laid is read (P24.3). -/
theorem read_mbLay : ∀ (n : Nat) (t : List Int), t.length ≤ n → t.all scB = true → mbRd (mbLay t []) = t ∧ mbOk (mbLay t []) = true := by
  intro n
  induction n with
  | zero =>
    intro t h _
    obtain rfl : t = [] := List.eq_nil_of_length_eq_zero (by omega)
    exact ⟨mbRd_nil.1, mbRd_nil.2⟩
  | succ n ih =>
    intro t h hs
    match t, h, hs with
    | [], _, _ => exact ⟨mbRd_nil.1, mbRd_nil.2⟩
    | c :: t, h, hs =>
      have hs' := hs
      rw [List.all_cons, Bool.and_eq_true] at hs
      cases hc : mbPrt c
      · obtain ⟨u, rest, rfl, hu, hst⟩ := mbSplit t
        rw [List.all_append, Bool.and_eq_true] at hs
        have hcu : (c :: u).all scB = true := by rw [List.all_cons, hs.1, hs.2.1]; rfl
        have i := ih rest (by simp at h; omega) hs.2.2
        obtain ⟨q1, q2, q3⟩ := mbCod_read hcu
        obtain ⟨p1, p2⟩ := mb_run (rest := mbLay rest []) q1 (mbCod_ne hcu)
        rw [mbLay_one hc hu hst, mbRd_cons, mbOk_cons, p1, p2, q2, q3]
        have ed : (38 :: (mbCod (c :: u) ++ 45 :: mbLay rest [])).drop ((mbCod (c :: u)).length + 2) = mbLay rest [] := by
          rw [show (mbCod (c :: u)).length + 2 = ((mbCod (c :: u)).length + 1) + 1 by omega, List.drop_succ_cons, ← List.drop_drop, List.drop_left]
          rfl
        rw [ed, i.1, i.2]
        exact ⟨by simp, rfl⟩
      · have i := ih t (by simp at h; omega) hs.2
        by_cases h38 : c = 38
        · subst h38
          have e : mbU (38 :: 45 :: mbLay t []) = ([38], true) := by rw [mbU, if_neg (by rw [mbDir_38]; decide), if_neg (by decide), if_neg (by simp [hdB, isM_45]), if_pos (by simp [hdB, is45])]
          have e2 : mbN (38 :: 45 :: mbLay t []) = 2 := by rw [mbN, if_neg (by decide), if_neg (by simp [hdB, isM_45]), if_pos (by simp [hdB, is45])]
          rw [mbLay_amp, mbRd_cons, mbOk_cons, e, e2]
          refine ⟨?_, ?_⟩
          · show [38] ++ mbRd (mbLay t []) = _
            rw [i.1]; rfl
          · show (true && mbOk (mbLay t [])) = true
            rw [i.2]; rfl
        · have e : mbU (c :: mbLay t []) = ([c], true) := by rw [mbU, if_pos (mbDir_of hc h38)]
          have e2 : mbN (c :: mbLay t []) = 1 := by rw [mbN, if_pos h38]
          rw [mbLay_dir hc h38, mbRd_cons, mbOk_cons, e, e2]
          refine ⟨?_, ?_⟩
          · show [c] ++ mbRd (mbLay t []) = _
            rw [i.1]; rfl
          · show (true && mbOk (mbLay t [])) = true
            rw [i.2]; rfl
theorem mbL_read {t : List Int} (h : t.all scB = true) : mbRd (mbL t) = t ∧ mbOk (mbL t) = true := by
  have := read_mbLay t.length t (Nat.le_refl _) h
  unfold mbL
  rw [if_pos h]
  exact this
theorem take_mbD (r : List Int) : r.take (mbD r) = r.takeWhile isM := (List.prefix_iff_eq_take.1 (List.takeWhile_prefix isM)).symm
theorem ms_at : ∀ (r : List Int) (j : Nat), j ≤ mbD r → hdB isM (r.drop j) = decide (j < mbD r)
  | [], j, h => by
    have : mbD [] = 0 := rfl
    rw [this, decide_eq_false (by omega)]; simp [hdB]
  | x :: r, j, h => by
    unfold mbD at h ⊢
    cases hx : isM x
    · rw [List.takeWhile_cons_of_neg (by simp [hx])] at h ⊢
      simp only [List.length_nil] at h ⊢
      obtain rfl : j = 0 := by omega
      simp [hdB, hx]
    · rw [List.takeWhile_cons_of_pos hx] at h ⊢
      simp only [List.length_cons] at h ⊢
      cases j with
      | zero => simp [hdB, hx]
      | succ j =>
        rw [List.drop_succ_cons, ms_at r j (by unfold mbD; omega), decide_eq_decide]
        unfold mbD
        omega
end Go.Proofs.YtiacijodoojgoaaDoor
