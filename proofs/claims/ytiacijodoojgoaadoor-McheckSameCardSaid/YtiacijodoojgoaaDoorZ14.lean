/-
  Texts of ours laid together: D23.
-/
import Derived.Test.YtiacijodoojgoaaDoorZ13

/-! D23 -/
namespace Go.Proofs.YtiacijodoojgoaaDoor
open Go.RowKit
set_option linter.unusedVariables false

/-- The bits of digits; is something left over of bits that can't be? -/
def vlD (d : List Int) : List Int := if d.all isDig = true then bits6 (d.map valI) else []
def restD (l : List Int) : List Int := l.drop (16 * (l.length / 16))
def lftB (l : List Int) : Bool := decide (6 ≤ l.length % 16) || decide (numL (restD l) ≠ 0)
def uniD (d : List Int) : List Int := parts 16 numL (vlD d)
def runT (d : List Int) : List Int := utxt (uniD d)
def runOk (d : List Int) : Bool := d.all isDig && (decide (errP (usigs (uniD d)) = 0) && !lftB (vlD d))
def lftT (d : List Int) : List Int := if lftB (vlD d) = true then [65533] else []
def is45 (x : Int) : Bool := decide (x = 45)
def digN (r : List Int) : Nat := (r.takeWhile isDig).length
/-- How many octets are read next; what they are: the signs, are they right, are they a run? -/
def nx7 : List Int → Nat
  | [] => 0
  | x :: r => if x ≠ 43 then 1 else if hdB isDig r = true then 1 + digN r + (if hdB is45 (r.drop (digN r)) = true then 1 else 0) else if hdB is45 r = true then 2 else 1
def u7 : List Int → List Int × Bool × Bool
  | [] => ([], true, false)
  | x :: r => if 127 < x then ([65533], false, false) else if x ≠ 43 then ([x], true, false) else if hdB isDig r = true then (runT (r.takeWhile isDig) ++ lftT (r.takeWhile isDig), runOk (r.takeWhile isDig), true) else ([43], hdB is45 r, false)
def seg7 : List Int → List (List Int × Bool × Bool)
  | [] => []
  | x :: r => u7 (x :: r) :: seg7 (r.drop (nx7 (x :: r) - 1))
termination_by xs => xs.length
decreasing_by simp [List.length_drop]; omega
def rd7 (xs : List Int) : List Int := (seg7 xs).flatMap Prod.fst
def ok7 (xs : List Int) : Bool := (seg7 xs).all fun p => p.2.1
def rd7E (xs : List Int) : Int := if ok7 xs = true then 0 else 3
def rd7N (xs : List Int) : Nat := (seg7 xs).countP fun p => p.2.2

theorem nx7_pos (x : Int) (r : List Int) : 0 < nx7 (x :: r) := by
  rw [nx7]
  (repeat' split) <;> omega
theorem seg7_nil : seg7 [] = [] := by rw [seg7]
theorem seg7_cons (x : Int) (r : List Int) : seg7 (x :: r) = u7 (x :: r) :: seg7 ((x :: r).drop (nx7 (x :: r))) := by
  rw [seg7]
  have h := nx7_pos x r
  obtain ⟨m, hm⟩ : ∃ m, nx7 (x :: r) = m + 1 := ⟨nx7 (x :: r) - 1, by omega⟩
  rw [hm]
  rfl
theorem rd7_cons (x : Int) (r : List Int) : rd7 (x :: r) = (u7 (x :: r)).1 ++ rd7 ((x :: r).drop (nx7 (x :: r))) := by
  unfold rd7; rw [seg7_cons]; rfl
theorem ok7_cons (x : Int) (r : List Int) : ok7 (x :: r) = ((u7 (x :: r)).2.1 && ok7 ((x :: r).drop (nx7 (x :: r)))) := by
  unfold ok7; rw [seg7_cons]; rfl
theorem rd7N_cons (x : Int) (r : List Int) : rd7N (x :: r) = (if (u7 (x :: r)).2.2 = true then 1 else 0) + rd7N ((x :: r).drop (nx7 (x :: r))) := by
  unfold rd7N; rw [seg7_cons, List.countP_cons, Nat.add_comm]
theorem rd7_nil : rd7 [] = [] ∧ ok7 [] = true ∧ rd7N [] = 0 := by
  unfold rd7 ok7 rd7N; rw [seg7_nil]; exact ⟨rfl, rfl, rfl⟩
theorem ind7 {p : List Int → Prop} (h0 : p []) (h1 : ∀ x r, p ((x :: r).drop (nx7 (x :: r))) → p (x :: r)) : ∀ xs, p xs := by
  have key : ∀ (n : Nat) (xs : List Int), xs.length ≤ n → p xs := by
    intro n
    induction n with
    | zero => intro xs h; obtain rfl : xs = [] := List.eq_nil_of_length_eq_zero (by omega)
              exact h0
    | succ n ih =>
      intro xs h
      match xs, h with
      | [], _ => exact h0
      | x :: r, h => exact h1 x r (ih _ (by have := nx7_pos x r; simp only [List.length_drop, List.length_cons] at h ⊢; omega))
  exact fun xs => key _ xs (Nat.le_refl _)

/-! ### bits -/
theorem vlD_01 (d : List Int) : ∀ b ∈ vlD d, b = 0 ∨ b = 1 := by
  intro b hb
  unfold vlD at hb
  split at hb
  · unfold bits6 bit6 at hb
    rw [List.mem_flatMap] at hb
    obtain ⟨x, _, hb⟩ := hb
    simp only [List.mem_cons, List.not_mem_nil, or_false] at hb
    omega
  · cases hb
theorem num_lt7 : ∀ (l : List Int) (n : Int), (∀ b ∈ l, b = 0 ∨ b = 1) → 0 ≤ n → 0 ≤ l.foldl (fun n b => 2 * n + b) n ∧ l.foldl (fun n b => 2 * n + b) n < (n + 1) * 2 ^ l.length := by
  intro l
  induction l with
  | nil => intro n _ h; simp; omega
  | cons b l ih =>
    intro n hb h
    have h1 := hb b (by simp)
    have h2 := ih (2 * n + b) (fun x hx => hb x (by simp [hx])) (by omega)
    rw [List.foldl_cons, List.length_cons]
    refine ⟨h2.1, Int.lt_of_lt_of_le h2.2 ?_⟩
    have e : (n + 1) * 2 ^ (l.length + 1) = (2 * n + 2) * 2 ^ l.length := by rw [Int.pow_succ, Int.mul_comm (2 ^ l.length) 2, ← Int.mul_assoc]; congr 1; omega
    rw [e]
    exact Int.mul_le_mul_of_nonneg_right (by omega) (Int.pow_nonneg (by omega))
theorem num_bd16 {l : List Int} (hb : ∀ b ∈ l, b = 0 ∨ b = 1) (h : l.length ≤ 16) : 0 ≤ numL l ∧ numL l ≤ 65535 := by
  have h1 := num_lt7 l 0 hb (Int.le_refl _)
  have h2 : (2 : Int) ^ l.length ≤ 2 ^ 16 := by
    have := Nat.pow_le_pow_right (n := 2) (by omega) h
    exact_mod_cast this
  unfold numL
  have e : (2 : Int) ^ 16 = 65536 := by decide
  omega
theorem uniD_bd (d : List Int) : ∀ x ∈ uniD d, 0 ≤ x ∧ x ≤ 65535 := by
  intro x hx
  unfold uniD parts at hx
  obtain ⟨j, _, rfl⟩ := List.mem_map.1 hx
  exact num_bd16 (fun b hb => vlD_01 d b (List.mem_of_mem_drop (List.mem_of_mem_take hb))) (by rw [List.length_take]; omega)
theorem vlD_len (d : List Int) : (vlD d).length ≤ 6 * d.length := by
  unfold vlD
  split
  · rw [bits6_len, List.length_map]; exact Nat.le_refl _
  · simp
theorem uniD_len (d : List Int) : 16 * (uniD d).length ≤ 6 * d.length := by
  have h := vlD_len d
  unfold uniD parts
  rw [List.length_map, List.length_range]
  omega
theorem runT_len (d : List Int) : 16 * (runT d).length ≤ 6 * d.length := by
  have h := uniD_len d
  have h2 := usigs_len (uniD d)
  unfold runT
  rw [utxt_len]
  omega
theorem lftT_len (d : List Int) : (lftT d).length ≤ 1 := by unfold lftT; split <;> simp
theorem runT_sc (d : List Int) : (runT d).all scB = true := utxt_sc _ (uniD_bd d)
theorem runT_wf (d : List Int) : ∀ x ∈ runT d, (Lit.int .i32 x).wf = true := utxt_wf (uniD_bd d)

/-! ### short; right -/
theorem digN_le (r : List Int) : digN r ≤ r.length := (List.takeWhile_sublist _).length_le
theorem u7_len (x : Int) (r : List Int) : (u7 (x :: r)).1.length ≤ nx7 (x :: r) := by
  rw [u7, nx7]
  by_cases h1 : 127 < x
  · have h43 : x ≠ 43 := by omega
    rw [if_pos h1, if_pos h43]; simp
  · rw [if_neg h1]
    by_cases h43 : x ≠ 43
    · rw [if_pos h43, if_pos h43]; simp
    · rw [if_neg h43, if_neg h43]
      by_cases hd : hdB isDig r = true
      · rw [if_pos hd, if_pos hd]
        have h2 := runT_len (r.takeWhile isDig)
        have h3 := lftT_len (r.takeWhile isDig)
        unfold digN
        simp only [List.length_append]
        omega
      · rw [if_neg hd, if_neg hd]
        split <;> simp
theorem nx7_le (x : Int) (r : List Int) : nx7 (x :: r) ≤ (x :: r).length := by
  rw [nx7]
  have h := digN_le r
  rw [List.length_cons]
  split
  · omega
  · split
    · split
      · rename_i _ _ h2
        have : digN r < r.length := by
          by_cases hh : r.length ≤ digN r
          · rw [List.drop_of_length_le hh] at h2; cases h2
          · omega
        omega
      · omega
    · split
      · rename_i _ _ h2
        cases r with
        | nil => cases h2
        | cons y r => simp
      · omega
theorem rd7_len : ∀ xs : List Int, (rd7 xs).length ≤ xs.length := by
  refine ind7 (by rw [rd7_nil.1]; exact Nat.le_refl _) fun x r ih => ?_
  have h1 := u7_len x r
  have h2 := nx7_le x r
  rw [rd7_cons, List.length_append]
  rw [List.length_drop] at ih
  omega
theorem u7_sc (x : Int) (r : List Int) (h0 : 0 ≤ x) : (u7 (x :: r)).1.all scB = true := by
  rw [u7]
  by_cases h1 : 127 < x
  · rw [if_pos h1]; decide
  · rw [if_neg h1]
    split
    · simp only [List.all_cons, List.all_nil, Bool.and_true]; exact (scB_iff x).2 (by omega)
    · split
      · rw [List.all_append, runT_sc]
        unfold lftT
        split <;> decide
      · show [(43 : Int)].all scB = true
        decide
theorem rd7_sc : ∀ xs : List Int, (∀ x ∈ xs, 0 ≤ x) → (rd7 xs).all scB = true := by
  refine ind7 (fun _ => by rw [rd7_nil.1]; rfl) fun x r ih h => ?_
  rw [rd7_cons, List.all_append, u7_sc x r (h x (List.mem_cons_self ..)), ih fun y hy => h y (List.mem_of_mem_drop hy)]
  rfl
theorem rd7_wf {xs : List Int} (h : ∀ x ∈ xs, 0 ≤ x) : ∀ x ∈ rd7 xs, (Lit.int .i32 x).wf = true := by
  intro x hx
  have h1 := List.all_eq_true.1 (rd7_sc xs h) x hx
  have := (scB_iff x).1 h1
  exact mk_r (by omega) (by omega)

/-! ### what is laid is read -/
theorem num_app (a b : List Int) : numL (a ++ b) = numL a * 2 ^ b.length + numL b := by
  have key : ∀ (l : List Int) (n : Int), l.foldl (fun n b => 2 * n + b) n = n * 2 ^ l.length + l.foldl (fun n b => 2 * n + b) 0 := by
    intro l
    induction l with
    | nil => intro n; simp
    | cons b l ih =>
      intro n
      rw [List.foldl_cons, List.foldl_cons, ih (2 * n + b), ih (2 * 0 + b), List.length_cons, Int.pow_succ, Int.add_mul, Int.add_mul, Int.mul_comm 2 n, Int.mul_assoc n, Int.mul_comm 2]
      omega
  unfold numL
  rw [List.foldl_append, key]
theorem num8 (x : Int) (h : O8 x) : numL (bit8 x) = x := by
  unfold O8 at h
  simp only [numL, bit8, List.foldl_cons, List.foldl_nil]
  omega
theorem num16 (x : Int) (h0 : 0 ≤ x) (h1 : x ≤ 65535) : numL (bit8 (x / 256) ++ bit8 (x % 256)) = x := by
  rw [num_app, num8 _ ⟨by omega, by omega⟩, num8 _ ⟨by omega, by omega⟩]
  simp only [bit8, List.length_cons, List.length_nil]
  omega
theorem bits8_ocU (U : List Int) : (bits8 (ocU U)).length = 16 * U.length := by rw [bits8_len, ocU_len]; omega
theorem parts16 : ∀ (U z : List Int), (∀ x ∈ U, 0 ≤ x ∧ x ≤ 65535) → z.length < 16 → parts 16 numL (bits8 (ocU U) ++ z) = U
  | [], z, _, hz => parts_short _ hz
  | x :: U, z, h, hz => by
    have hx := h x (List.mem_cons_self ..)
    rw [show ocU (x :: U) = x / 256 :: x % 256 :: ocU U from rfl, bits8_cons, bits8_cons, ← List.append_assoc, List.append_assoc, parts_app (n := 16) (by decide) numL (by simp [bit8]), num16 x hx.1 hx.2, parts16 U z (fun y hy => h y (List.mem_cons_of_mem _ hy)) hz]
/-- The bits of a code's digits are the octets', and what fills up. -/
theorem bits6_v64 : ∀ xs : List Int, (∀ x ∈ xs, O8 x) → bits6 (v64 xs) = pad6 (bits8 xs) := by
  refine ind3 ?_ ?_ ?_ ?_
  · intro _; rfl
  · intro a h
    have ha := h a (by simp)
    unfold O8 at ha
    rw [show pad6 (bits8 [a]) = [a / 128 % 2, a / 64 % 2, a / 32 % 2, a / 16 % 2, a / 8 % 2, a / 4 % 2, a / 2 % 2, a % 2, 0, 0, 0, 0] by simp [pad6, bits8, bit8]]
    simp only [v64, bits6, bit6, List.flatMap_cons, List.flatMap_nil, List.append_nil, List.cons_append, List.nil_append]
    repeat' (first | rfl | refine cons2 (by omega) ?_)
  · intro a b h
    have ha := h a (by simp)
    have hb := h b (by simp)
    unfold O8 at ha hb
    rw [show pad6 (bits8 [a, b]) = [a / 128 % 2, a / 64 % 2, a / 32 % 2, a / 16 % 2, a / 8 % 2, a / 4 % 2, a / 2 % 2, a % 2, b / 128 % 2, b / 64 % 2, b / 32 % 2, b / 16 % 2, b / 8 % 2, b / 4 % 2, b / 2 % 2, b % 2, 0, 0] by simp [pad6, bits8, bit8]]
    simp only [v64, bits6, bit6, List.flatMap_cons, List.flatMap_nil, List.append_nil, List.cons_append, List.nil_append]
    repeat' (first | rfl | refine cons2 (by omega) ?_)
  · intro a b c r ih h
    have ha := h a (by simp)
    have hb := h b (by simp)
    have hc := h c (by simp)
    unfold O8 at ha hb hc
    have i := ih (fun x hx => h x (by simp [hx]))
    rw [bits8_cons, bits8_cons, bits8_cons, ← List.append_assoc, ← List.append_assoc, pad6_app (by simp [bit8]), v64, bits6_cons, bits6_cons, bits6_cons, bits6_cons, i]
    simp only [bit6, bit8, List.cons_append, List.nil_append]
    repeat' (first | rfl | refine cons2 (by omega) ?_)
theorem map_val {vs : List Int} (h : ∀ v ∈ vs, V6 v) : (vs.map dg64).map valI = vs ∧ (vs.map dg64).all isDig = true := by
  refine ⟨?_, ?_⟩
  · rw [List.map_map]
    conv => rhs; rw [← List.map_id vs]
    exact List.map_congr_left fun v hv => (val_dig (h v hv)).1
  · rw [List.all_map, List.all_eq_true]
    exact fun v hv => (val_dig (h v hv)).2
theorem ocU_O8 {U : List Int} (h : ∀ x ∈ U, 0 ≤ x ∧ x ≤ 65535) : ∀ x ∈ ocU U, O8 x := fun x hx => wf_u8 (ocU_wf h x hx)
theorem num_zeros (n : Nat) : numL (List.replicate n 0) = 0 := by
  induction n with
  | zero => rfl
  | succ n ih => unfold numL at *; rw [List.replicate_succ, List.foldl_cons]; exact ih
theorem cod_read {U : List Int} (h : ∀ x ∈ U, 0 ≤ x ∧ x ≤ 65535) : (bareB (ocU U)).all isDig = true ∧ uniD (bareB (ocU U)) = U ∧ lftB (vlD (bareB (ocU U))) = false := by
  have hv := v64_bd _ (ocU_O8 h)
  have hm := map_val hv
  have hd : (bareB (ocU U)).all isDig = true := hm.2
  have e : vlD (bareB (ocU U)) = bits8 (ocU U) ++ List.replicate ((6 - (bits8 (ocU U)).length % 6) % 6) 0 := by
    unfold vlD
    rw [if_pos hd]
    unfold bareB
    rw [hm.1, bits6_v64 _ (ocU_O8 h)]
    rfl
  have hl := bits8_ocU U
  refine ⟨hd, ?_, ?_⟩
  · unfold uniD
    rw [e]
    exact parts16 U _ h (by rw [List.length_replicate]; omega)
  · unfold lftB restD
    rw [e]
    generalize hn : (6 - (bits8 (ocU U)).length % 6) % 6 = n
    have hn6 : n < 6 := by omega
    have e1 : (bits8 (ocU U) ++ List.replicate n (0 : Int)).length = 16 * U.length + n := by rw [List.length_append, hl, List.length_replicate]
    rw [e1, show 16 * ((16 * U.length + n) / 16) = 16 * U.length by omega, ← hl, List.drop_left, num_zeros, hl]
    simp
    omega
theorem codU_read {t : List Int} (h : t.all scB = true) : (codU t).all isDig = true ∧ runT (codU t) = t ∧ runOk (codU t) = true ∧ lftT (codU t) = [] := by
  obtain ⟨h1, h2, h3⟩ := cod_read (unL_bd t)
  have e : codU t = bareB (ocU (unL t)) := by unfold codU; rw [if_pos h]
  rw [e]
  refine ⟨h1, ?_, ?_, ?_⟩
  · unfold runT; rw [h2, utxt_laid h]
  · unfold runOk; rw [h1, h2, h3, uerr_laid h]; rfl
  · unfold lftT; rw [h3]; rfl
theorem v64_ne {xs : List Int} (h : xs ≠ []) : v64 xs ≠ [] := by
  intro hh
  have := v64_len xs
  rw [hh] at this
  have : xs.length = 0 := by simp at this; omega
  exact h (List.eq_nil_of_length_eq_zero this)
theorem codU_ne {x : Int} {t : List Int} (h : (x :: t).all scB = true) : codU (x :: t) ≠ [] := by
  have e : codU (x :: t) = bareB (ocU (unL (x :: t))) := by unfold codU; rw [if_pos h]
  rw [e]
  unfold bareB
  intro hh
  rw [List.map_eq_nil_iff] at hh
  refine v64_ne ?_ hh
  intro h2
  have h3 := ocU_len (unL (x :: t))
  rw [h2] at h3
  have h4 : (unL (x :: t)).length = 0 := by simp at h3; omega
  have h5 : unL (x :: t) = uns x ++ unL t := rfl
  rw [h5, List.length_append] at h4
  have h6 : scB x = true := by rw [List.all_cons, Bool.and_eq_true] at h; exact h.1
  unfold uns at h4
  rw [if_pos h6] at h4
  split at h4 <;> simp at h4
theorem take_digs {d rest : List Int} (h : d.all isDig = true) (hr : hdB isDig rest = false) : (d ++ rest).takeWhile isDig = d := by
  induction d with
  | nil =>
    cases rest with
    | nil => rfl
    | cons y r => rw [List.nil_append, List.takeWhile_cons_of_neg (by simpa [hdB] using hr)]
  | cons x d ih =>
    rw [List.all_cons, Bool.and_eq_true] at h
    rw [List.cons_append, List.takeWhile_cons_of_pos h.1, ih h.2]
theorem isDig_45 : isDig 45 = false := by decide +kernel
theorem dir_43 : dirB 43 = false := by decide
/-- A run that is laid: read, and what stands behind it. -/
theorem read_run {d rest : List Int} (h : d.all isDig = true) (hne : d ≠ []) :
    nx7 (43 :: (d ++ 45 :: rest)) = d.length + 2 ∧ u7 (43 :: (d ++ 45 :: rest)) = (runT d ++ lftT d, runOk d, true) := by
  have e := take_digs (rest := 45 :: rest) h (by simp [hdB, isDig_45])
  have hh : hdB isDig (d ++ 45 :: rest) = true := by
    cases d with
    | nil => exact absurd rfl hne
    | cons x d => rw [List.all_cons, Bool.and_eq_true] at h; exact h.1
  have hd : digN (d ++ 45 :: rest) = d.length := by unfold digN; rw [e]
  refine ⟨?_, ?_⟩
  · rw [nx7, if_neg (by decide), if_pos hh, hd, List.drop_left]
    simp [hdB, is45]
    omega
  · rw [u7, if_neg (by decide), if_neg (by decide), if_pos hh, e]
theorem split_run : ∀ t : List Int, ∃ u rest, t = u ++ rest ∧ (∀ x ∈ u, dirB x = false) ∧ stopU rest
  | [] => ⟨[], [], rfl, fun x hx => (by cases hx), .inl rfl⟩
  | c :: t => by
    cases h : dirB c
    · obtain ⟨u, rest, e, h1, h2⟩ := split_run t
      exact ⟨c :: u, rest, by rw [e]; rfl, fun x hx => by rcases List.mem_cons.1 hx with rfl | hx; exact h; exact h1 x hx, h2⟩
    · exact ⟨[], c :: t, rfl, fun x hx => (by cases hx), .inr ⟨c, t, rfl, h⟩⟩
/-- What is laid is read (P23.3). -/
theorem read_layU : ∀ (n : Nat) (t : List Int), t.length ≤ n → t.all scB = true → rd7 (layU t []) = t ∧ ok7 (layU t []) = true := by
  intro n
  induction n with
  | zero =>
    intro t h _
    obtain rfl : t = [] := List.eq_nil_of_length_eq_zero (by omega)
    exact ⟨rd7_nil.1, rd7_nil.2.1⟩
  | succ n ih =>
    intro t h hs
    match t, h, hs with
    | [], _, _ => exact ⟨rd7_nil.1, rd7_nil.2.1⟩
    | c :: t, h, hs =>
      have hs' := hs
      rw [List.all_cons, Bool.and_eq_true] at hs
      cases hc : dirB c
      · by_cases h43 : c = 43
        · subst h43
          have i := ih t (by simp at h; omega) hs.2
          have e : u7 (43 :: 45 :: layU t []) = ([43], true, false) := by rw [u7, if_neg (by decide), if_neg (by decide), if_neg (by simp [hdB, isDig_45])]; rfl
          have e2 : nx7 (43 :: 45 :: layU t []) = 2 := by rw [nx7, if_neg (by decide), if_neg (by simp [hdB, isDig_45]), if_pos (by simp [hdB, is45])]
          rw [layU_plus, rd7_cons, ok7_cons, e, e2]
          refine ⟨?_, ?_⟩
          · show [43] ++ rd7 (layU t []) = _
            rw [i.1]; rfl
          · show (true && ok7 (layU t [])) = true
            rw [i.2]; rfl
        · obtain ⟨u, rest, rfl, hu, hst⟩ := split_run t
          rw [List.all_append, Bool.and_eq_true] at hs
          have hcu : (c :: u).all scB = true := by rw [List.all_cons, hs.1, hs.2.1]; rfl
          have i := ih rest (by simp at h; omega) hs.2.2
          obtain ⟨q1, q2, q3, q4⟩ := codU_read hcu
          obtain ⟨p1, p2⟩ := read_run (rest := layU rest []) q1 (codU_ne hcu)
          rw [layU_one hc h43 hu hst, rd7_cons, ok7_cons, p1, p2, q2, q3, q4]
          have ed : (43 :: (codU (c :: u) ++ 45 :: layU rest [])).drop ((codU (c :: u)).length + 2) = layU rest [] := by
            rw [show (codU (c :: u)).length + 2 = ((codU (c :: u)).length + 1) + 1 by omega, List.drop_succ_cons, ← List.drop_drop, List.drop_left]
            rfl
          rw [ed, i.1, i.2]
          exact ⟨by simp, rfl⟩
      · have i := ih t (by simp at h; omega) hs.2
        have hb := dir_bd hc
        have h43 : c ≠ 43 := by intro hh; rw [hh, dir_43] at hc; cases hc
        have e : u7 (c :: layU t []) = ([c], true, false) := by rw [u7, if_neg (by omega), if_pos h43]
        have e2 : nx7 (c :: layU t []) = 1 := by rw [nx7, if_pos h43]
        rw [layU_dir hc, rd7_cons, ok7_cons, e, e2]
        refine ⟨?_, ?_⟩
        · show [c] ++ rd7 (layU t []) = _
          rw [i.1]; rfl
        · show (true && ok7 (layU t [])) = true
          rw [i.2]; rfl
theorem read_lay7 {t : List Int} (h : t.all scB = true) : rd7 (lay7 t) = t ∧ rd7E (lay7 t) = 0 := by
  have := read_layU t.length t (Nat.le_refl _) h
  unfold rd7E lay7
  rw [if_pos h, this.1, this.2]
  exact ⟨rfl, rfl⟩
theorem take_digN (r : List Int) : r.take (digN r) = r.takeWhile isDig := (List.prefix_iff_eq_take.1 (List.takeWhile_prefix isDig)).symm
theorem dig_at : ∀ (r : List Int) (j : Nat), j ≤ digN r → hdB isDig (r.drop j) = decide (j < digN r)
  | [], j, h => by
    have : digN [] = 0 := rfl
    rw [this, decide_eq_false (by omega)]; simp [hdB]
  | x :: r, j, h => by
    unfold digN at h ⊢
    cases hx : isDig x
    · rw [List.takeWhile_cons_of_neg (by simp [hx])] at h ⊢
      simp only [List.length_nil] at h ⊢
      obtain rfl : j = 0 := by omega
      simp [hdB, hx]
    · rw [List.takeWhile_cons_of_pos hx] at h ⊢
      simp only [List.length_cons] at h ⊢
      cases j with
      | zero => simp [hdB, hx]
      | succ j =>
        rw [List.drop_succ_cons, dig_at r j (by unfold digN; omega), decide_eq_decide]
        unfold digN
        omega
end Go.Proofs.YtiacijodoojgoaaDoor
