/-
  Texts of ours laid together: D22b, D23, Rdr, C23a, Itr, Itm, C23b.
-/
import Derived.Test.YtobjdamlmaaidaaDoorRows
import Derived.RangeFuncNested
import Derived.RangeFuncBox
import Derived.RangeFuncCalls
import Derived.RangeFuncLeaves
import Derived.Shelf.Abstract
import Derived.Shelf.RegionOpen
import Derived.OwnWalkIn
import Derived.TacticsInMore
import Derived.LoopNIn
import Derived.LoopIn
import Derived.Maps.AppendAt
import Derived.Test.YtobjdamlmaaidaaDoorZ2

/-! D22b -/
namespace Go.Proofs.YtobjdamlmaaidaaDoor
open Go.RowKit
set_option linter.unusedVariables false

/-- Does a run begin here? -/
def begB (c : Int) : Bool := !dirB c && decide (c ≠ 43)
/-- How many stand ahead of the first that is f (all, if none is). -/
def cntF (f : Int → Bool) (xs : List Int) : Nat := (xs.takeWhile (fun c => !f c)).length
theorem cntF_le (f : Int → Bool) (xs : List Int) : cntF f xs ≤ xs.length := (List.takeWhile_sublist _).length_le
theorem take_tw (p : Int → Bool) : ∀ xs : List Int, xs.take (xs.takeWhile p).length = xs.takeWhile p ∧ xs.drop (xs.takeWhile p).length = xs.dropWhile p
  | [] => ⟨rfl, rfl⟩
  | x :: xs => by
    have ih := take_tw p xs
    cases h : p x
    · rw [List.takeWhile_cons, List.dropWhile_cons, h]; exact ⟨rfl, rfl⟩
    · rw [List.takeWhile_cons, List.dropWhile_cons, h]
      simp only [if_true, List.length_cons, List.take_succ_cons, List.drop_succ_cons, ih, and_self]
theorem dropWhile_head (p : Int → Bool) : ∀ xs : List Int, xs.dropWhile p = [] ∨ ∃ c s, xs.dropWhile p = c :: s ∧ p c = false
  | [] => .inl rfl
  | x :: xs => by
    rw [List.dropWhile_cons]
    cases h : p x
    · exact .inr ⟨x, xs, by simp, h⟩
    · simpa using dropWhile_head p xs
theorem idx_cntF (f : Int → Bool) : ∀ xs : List Int, idxI f xs = if xs.any f = true then (cntF f xs : Int) else -1
  | [] => rfl
  | x :: xs => by
    have ih := idx_cntF f xs
    unfold idxI cntF at *
    rw [List.findIdx?_cons, List.any_cons, List.takeWhile_cons]
    cases h : f x
    · cases ha : xs.any f
      · rw [ha] at ih
        cases hf : xs.findIdx? f with
        | none => simp
        | some i => rw [hf] at ih; simp at ih; first | done | omega
      · rw [ha] at ih
        cases hf : xs.findIdx? f with
        | none => rw [hf] at ih; simp at ih; first | done | omega
        | some i => rw [hf] at ih; simp at ih; simp; omega
    · simp
theorem cntF_all {f : Int → Bool} {xs : List Int} (h : xs.any f = false) : cntF f xs = xs.length := by
  have h1 := cntF_le f xs
  have e := List.takeWhile_append_dropWhile (p := fun c => !f c) (l := xs)
  rcases dropWhile_head (fun c => !f c) xs with h2 | ⟨c, s, h2, hc⟩
  · rw [h2, List.append_nil] at e
    unfold cntF
    rw [e]
  · have hm : c ∈ xs := by rw [← e, h2]; simp
    have := List.any_eq_false.1 h c hm
    simp at hc; exact absurd hc (by simpa using this)
theorem cntF_lt {f : Int → Bool} {xs : List Int} (h : xs.any f = true) : cntF f xs < xs.length := by
  have h1 := cntF_le f xs
  have h2 : cntF f xs ≠ xs.length := by
    intro he
    unfold cntF at he
    have h3 := (take_tw (fun c => !f c) xs).1
    rw [he, List.take_length] at h3
    obtain ⟨x, hx, hf⟩ := List.any_eq_true.1 h
    rw [h3] at hx
    have h4 := List.all_eq_true.1 (List.all_takeWhile (p := fun c => !f c) (l := xs)) x hx
    rw [hf] at h4; cases h4
  omega
/-- What is laid of signs that are in no run. -/
def aloneU (t : List Int) : List Int := t.flatMap fun c => if c = 43 then [43, 45] else [c]
theorem aloneU_cons (c : Int) (t : List Int) : aloneU (c :: t) = (if c = 43 then [43, 45] else [c]) ++ aloneU t := rfl
theorem aloneU_len : ∀ t : List Int, (aloneU t).length ≤ 2 * t.length
  | [] => Nat.le_refl _
  | c :: t => by
    have := aloneU_len t
    rw [aloneU_cons, List.length_append, List.length_cons]
    split <;> simp only [List.length_cons, List.length_nil] <;> omega
theorem beg_no {c : Int} (h : begB c = false) : dirB c = true ∨ (dirB c = false ∧ c = 43) := by
  unfold begB at h
  cases hd : dirB c
  · rw [hd] at h; simp at h; exact .inr ⟨rfl, h⟩
  · exact .inl rfl
theorem beg_yes {c : Int} (h : begB c = true) : dirB c = false ∧ c ≠ 43 := by
  unfold begB at h
  simpa using h
theorem ahead_lay : ∀ (p r : List Int), (∀ c ∈ p, begB c = false) → layU (p ++ r) [] = aloneU p ++ layU r [] ∧ runN (p ++ r) false = runN r false
  | [], r, _ => ⟨rfl, rfl⟩
  | c :: p, r, h => by
    obtain ⟨i1, i2⟩ := ahead_lay p r (fun x hx => h x (List.mem_cons_of_mem _ hx))
    rcases beg_no (h c (List.mem_cons_self ..)) with hd | ⟨hd, rfl⟩
    · have hc : c ≠ 43 := by rintro rfl; cases hd
      refine ⟨?_, ?_⟩
      · rw [List.cons_append, layU_dir hd, aloneU_cons, if_neg hc, i1]; rfl
      · rw [List.cons_append, runN, if_pos hd, i2]
    · refine ⟨?_, ?_⟩
      · rw [List.cons_append, layU_plus, aloneU_cons, if_pos rfl, i1]; rfl
      · rw [List.cons_append, runN, if_neg (by rw [hd]; decide), if_neg (by simp), i2]
theorem runN_on : ∀ (u r : List Int), (∀ c ∈ u, dirB c = false) → runN (u ++ r) true = runN r true
  | [], r, _ => rfl
  | c :: u, r, h => by
    rw [List.cons_append, runN, if_neg (by rw [h c (List.mem_cons_self ..)]; decide), if_neg (by simp), runN_on u r (fun x hx => h x (List.mem_cons_of_mem _ hx))]
theorem runN_stop {r : List Int} (h : stopU r) : runN r true = runN r false := by
  rcases h with rfl | ⟨c, s, rfl, hc⟩
  · rfl
  · rw [runN, runN, if_pos hc, if_pos hc]
/-- One step: what stands ahead of a run, the run, the rest. -/
theorem layU_next (xs : List Int) : ∃ m j, m = cntF begB xs ∧ j = cntF dirB (xs.drop m) ∧ m ≤ xs.length ∧ m + j ≤ xs.length ∧ (xs ≠ [] → 0 < m + j) ∧
    (∀ c ∈ xs.take m, begB c = false) ∧ (j = 0 → (xs.drop m).take j = []) ∧
    layU xs [] = aloneU (xs.take m) ++ (closeU ((xs.drop m).take j) ++ layU ((xs.drop m).drop j) []) ∧
    runN xs false = (if 0 < j then 1 else 0) + runN ((xs.drop m).drop j) false := by
  obtain ⟨m, hm⟩ : ∃ m, m = cntF begB xs := ⟨_, rfl⟩
  obtain ⟨j, hj⟩ : ∃ j, j = cntF dirB (xs.drop m) := ⟨_, rfl⟩
  have t1 := take_tw (fun c => !begB c) xs
  have e0 : (xs.takeWhile (fun c => !begB c)).length = m := hm.symm
  rw [e0] at t1
  have t2 := take_tw (fun c => !dirB c) (xs.drop m)
  have e1 : ((xs.drop m).takeWhile (fun c => !dirB c)).length = j := hj.symm
  rw [e1] at t2
  have hle1 := cntF_le begB xs
  have hle2 := cntF_le dirB (xs.drop m)
  rw [← hm] at hle1
  rw [← hj, List.length_drop] at hle2
  have hall : ∀ c ∈ xs.take m, begB c = false := by
    intro c hc
    rw [t1.1] at hc
    have := List.all_eq_true.1 (List.all_takeWhile (p := fun c => !begB c) (l := xs)) c hc
    simpa using this
  have hal2 : ∀ c ∈ (xs.drop m).take j, dirB c = false := by
    intro c hc
    rw [t2.1] at hc
    have := List.all_eq_true.1 (List.all_takeWhile (p := fun c => !dirB c) (l := xs.drop m)) c hc
    simpa using this
  obtain ⟨a1, a2⟩ := ahead_lay (xs.take m) (xs.drop m) hall
  rw [List.take_append_drop] at a1 a2
  have hst : stopU ((xs.drop m).drop j) := by
    rw [t2.2]
    rcases dropWhile_head (fun c => !dirB c) (xs.drop m) with h | ⟨c, s, h, hc⟩
    · exact .inl h
    · exact .inr ⟨c, s, h, by simpa using hc⟩
  refine ⟨m, j, hm, hj, hle1, by omega, ?_, hall, (fun h => by rw [h]; rfl), ?_, ?_⟩
  · intro hne
    by_cases h0 : m = 0
    · subst h0
      rcases dropWhile_head (fun c => !begB c) xs with h | ⟨c, s, h, hc⟩
      · rw [← t1.2, List.drop_zero] at h; exact absurd h hne
      · rw [← t1.2, List.drop_zero] at h
        have hb := beg_yes (by simpa using hc)
        rw [hj, h]
        unfold cntF
        rw [List.drop_zero, List.takeWhile_cons, hb.1]
        simp
    · omega
  · rw [a1]
    congr 1
    rcases dropWhile_head (fun c => !begB c) xs with h | ⟨c, s, h, hc⟩
    · rw [← t1.2] at h
      rw [h]; simp [layU, closeU]
    · rw [← t1.2] at h
      have hb := beg_yes (by simpa using hc)
      have hd : xs.drop m = (xs.drop m).take j ++ (xs.drop m).drop j := (List.take_append_drop j _).symm
      have hj1 : 0 < j := by
        rw [hj, h]
        unfold cntF
        rw [List.takeWhile_cons, hb.1]
        simp
      obtain ⟨j', rfl⟩ : ∃ j', j = j' + 1 := ⟨j - 1, by omega⟩
      have e : (xs.drop m).take (j' + 1) = c :: s.take j' := by rw [h]; rfl
      have hu : ∀ y ∈ s.take j', dirB y = false := fun y hy => hal2 y (by rw [e]; exact List.mem_cons_of_mem _ hy)
      conv => lhs; rw [hd, e]
      rw [List.cons_append, layU_one hb.1 hb.2 hu hst, e]
      unfold closeU
      rw [if_neg (by simp)]
      simp
  · rw [a2]
    rcases dropWhile_head (fun c => !begB c) xs with h | ⟨c, s, h, hc⟩
    · rw [← t1.2] at h
      have : j = 0 := by rw [hj, h]; rfl
      subst this
      rw [h]; rfl
    · rw [← t1.2] at h
      have hb := beg_yes (by simpa using hc)
      have hd : xs.drop m = (xs.drop m).take j ++ (xs.drop m).drop j := (List.take_append_drop j _).symm
      have hj1 : 0 < j := by
        rw [hj, h]
        unfold cntF
        rw [List.takeWhile_cons, hb.1]
        simp
      rw [if_pos hj1]
      obtain ⟨j', rfl⟩ : ∃ j', j = j' + 1 := ⟨j - 1, by omega⟩
      have e : (xs.drop m).take (j' + 1) = c :: s.take j' := by rw [h]; rfl
      have hu : ∀ y ∈ s.take j', dirB y = false := fun y hy => hal2 y (by rw [e]; exact List.mem_cons_of_mem _ hy)
      conv => lhs; rw [hd, e]
      rw [List.cons_append, runN, if_neg (by rw [hb.1]; decide), if_pos ⟨rfl, hb.2⟩, runN_on _ _ hu, runN_stop hst]
theorem v64_le : ∀ xs : List Int, (v64 xs).length ≤ 2 * xs.length
  | [] => Nat.le_refl _
  | [_] => by simp [v64]
  | [_, _] => by simp [v64]
  | a :: b :: c :: t => by
    have := v64_le t
    simp only [v64, List.length_cons]
    omega
theorem codU_le (t : List Int) : (codU t).length ≤ 8 * t.length := by
  unfold codU
  split
  · have h1 := v64_le (ocU (unL t))
    have h2 := ocU_len (unL t)
    have h3 := unL_len t
    unfold bareB
    rw [List.length_map]
    omega
  · simp
end Go.Proofs.YtobjdamlmaaidaaDoor

/-! D23 -/
namespace Go.Proofs.YtobjdamlmaaidaaDoor
open Go.RowKit
set_option linter.unusedVariables false

/-- The bits of digits; is something left over of bits that can't be? -/
def vlD (d : List Int) : List Int := if d.all isDig = true then bits6 (d.map valI) else []
def restD (l : List Int) : List Int := l.drop (16 * (l.length / 16))
def lftB (l : List Int) : Bool := decide (6 ≤ l.length % 16) || decide (numL (restD l) ≠ 0)
def uniD (d : List Int) : List Int := parts 16 numL (vlD d)
def runT (d : List Int) : List Int := utxt (uniD d)
def runOk (d : List Int) : Bool := d.all isDig && (decide (errP (usigs (uniD d)) = 0) && !lftB (vlD d))
def lftT (d : List Int) : List Int := if lftB (vlD d) = true then [65533] else []
def is45 (x : Int) : Bool := decide (x = 45)
def digN (r : List Int) : Nat := (r.takeWhile isDig).length
/-- How many octets are read next; what they are: the signs, are they right, are they a run? -/
def nx7 : List Int → Nat
  | [] => 0
  | x :: r => if x ≠ 43 then 1 else if hdB isDig r = true then 1 + digN r + (if hdB is45 (r.drop (digN r)) = true then 1 else 0) else if hdB is45 r = true then 2 else 1
def u7 : List Int → List Int × Bool × Bool
  | [] => ([], true, false)
  | x :: r => if 127 < x then ([65533], false, false) else if x ≠ 43 then ([x], true, false) else if hdB isDig r = true then (runT (r.takeWhile isDig) ++ lftT (r.takeWhile isDig), runOk (r.takeWhile isDig), true) else ([43], hdB is45 r, false)
def seg7 : List Int → List (List Int × Bool × Bool)
  | [] => []
  | x :: r => u7 (x :: r) :: seg7 (r.drop (nx7 (x :: r) - 1))
termination_by xs => xs.length
decreasing_by simp [List.length_drop]; omega
def rd7 (xs : List Int) : List Int := (seg7 xs).flatMap Prod.fst
def ok7 (xs : List Int) : Bool := (seg7 xs).all fun p => p.2.1
def rd7E (xs : List Int) : Int := if ok7 xs = true then 0 else 3
def rd7N (xs : List Int) : Nat := (seg7 xs).countP fun p => p.2.2

theorem nx7_pos (x : Int) (r : List Int) : 0 < nx7 (x :: r) := by
  rw [nx7]
  (repeat' split) <;> omega
theorem seg7_nil : seg7 [] = [] := by rw [seg7]
theorem seg7_cons (x : Int) (r : List Int) : seg7 (x :: r) = u7 (x :: r) :: seg7 ((x :: r).drop (nx7 (x :: r))) := by
  rw [seg7]
  have h := nx7_pos x r
  obtain ⟨m, hm⟩ : ∃ m, nx7 (x :: r) = m + 1 := ⟨nx7 (x :: r) - 1, by omega⟩
  rw [hm]
  rfl
theorem rd7_cons (x : Int) (r : List Int) : rd7 (x :: r) = (u7 (x :: r)).1 ++ rd7 ((x :: r).drop (nx7 (x :: r))) := by
  unfold rd7; rw [seg7_cons]; rfl
theorem ok7_cons (x : Int) (r : List Int) : ok7 (x :: r) = ((u7 (x :: r)).2.1 && ok7 ((x :: r).drop (nx7 (x :: r)))) := by
  unfold ok7; rw [seg7_cons]; rfl
theorem rd7N_cons (x : Int) (r : List Int) : rd7N (x :: r) = (if (u7 (x :: r)).2.2 = true then 1 else 0) + rd7N ((x :: r).drop (nx7 (x :: r))) := by
  unfold rd7N; rw [seg7_cons, List.countP_cons, Nat.add_comm]
theorem rd7_nil : rd7 [] = [] ∧ ok7 [] = true ∧ rd7N [] = 0 := by
  unfold rd7 ok7 rd7N; rw [seg7_nil]; exact ⟨rfl, rfl, rfl⟩
theorem ind7 {p : List Int → Prop} (h0 : p []) (h1 : ∀ x r, p ((x :: r).drop (nx7 (x :: r))) → p (x :: r)) : ∀ xs, p xs := by
  have key : ∀ (n : Nat) (xs : List Int), xs.length ≤ n → p xs := by
    intro n
    induction n with
    | zero => intro xs h; obtain rfl : xs = [] := List.eq_nil_of_length_eq_zero (by omega)
              exact h0
    | succ n ih =>
      intro xs h
      match xs, h with
      | [], _ => exact h0
      | x :: r, h => exact h1 x r (ih _ (by have := nx7_pos x r; simp only [List.length_drop, List.length_cons] at h ⊢; omega))
  exact fun xs => key _ xs (Nat.le_refl _)

/-! ### bits -/
theorem vlD_01 (d : List Int) : ∀ b ∈ vlD d, b = 0 ∨ b = 1 := by
  intro b hb
  unfold vlD at hb
  split at hb
  · unfold bits6 bit6 at hb
    rw [List.mem_flatMap] at hb
    obtain ⟨x, _, hb⟩ := hb
    simp only [List.mem_cons, List.not_mem_nil, or_false] at hb
    omega
  · cases hb
theorem num_lt7 : ∀ (l : List Int) (n : Int), (∀ b ∈ l, b = 0 ∨ b = 1) → 0 ≤ n → 0 ≤ l.foldl (fun n b => 2 * n + b) n ∧ l.foldl (fun n b => 2 * n + b) n < (n + 1) * 2 ^ l.length := by
  intro l
  induction l with
  | nil => intro n _ h; simp; omega
  | cons b l ih =>
    intro n hb h
    have h1 := hb b (by simp)
    have h2 := ih (2 * n + b) (fun x hx => hb x (by simp [hx])) (by omega)
    rw [List.foldl_cons, List.length_cons]
    refine ⟨h2.1, Int.lt_of_lt_of_le h2.2 ?_⟩
    have e : (n + 1) * 2 ^ (l.length + 1) = (2 * n + 2) * 2 ^ l.length := by rw [Int.pow_succ, Int.mul_comm (2 ^ l.length) 2, ← Int.mul_assoc]; congr 1; omega
    rw [e]
    exact Int.mul_le_mul_of_nonneg_right (by omega) (Int.pow_nonneg (by omega))
theorem num_bd16 {l : List Int} (hb : ∀ b ∈ l, b = 0 ∨ b = 1) (h : l.length ≤ 16) : 0 ≤ numL l ∧ numL l ≤ 65535 := by
  have h1 := num_lt7 l 0 hb (Int.le_refl _)
  have h2 : (2 : Int) ^ l.length ≤ 2 ^ 16 := by
    have := Nat.pow_le_pow_right (n := 2) (by omega) h
    exact_mod_cast this
  unfold numL
  have e : (2 : Int) ^ 16 = 65536 := by decide
  omega
theorem uniD_bd (d : List Int) : ∀ x ∈ uniD d, 0 ≤ x ∧ x ≤ 65535 := by
  intro x hx
  unfold uniD parts at hx
  obtain ⟨j, _, rfl⟩ := List.mem_map.1 hx
  exact num_bd16 (fun b hb => vlD_01 d b (List.mem_of_mem_drop (List.mem_of_mem_take hb))) (by rw [List.length_take]; omega)
theorem vlD_len (d : List Int) : (vlD d).length ≤ 6 * d.length := by
  unfold vlD
  split
  · rw [bits6_len, List.length_map]; exact Nat.le_refl _
  · simp
theorem uniD_len (d : List Int) : 16 * (uniD d).length ≤ 6 * d.length := by
  have h := vlD_len d
  unfold uniD parts
  rw [List.length_map, List.length_range]
  omega
theorem runT_len (d : List Int) : 16 * (runT d).length ≤ 6 * d.length := by
  have h := uniD_len d
  have h2 := usigs_len (uniD d)
  unfold runT
  rw [utxt_len]
  omega
theorem lftT_len (d : List Int) : (lftT d).length ≤ 1 := by unfold lftT; split <;> simp
theorem runT_sc (d : List Int) : (runT d).all scB = true := utxt_sc _ (uniD_bd d)
theorem runT_wf (d : List Int) : ∀ x ∈ runT d, (Lit.int .i32 x).wf = true := utxt_wf (uniD_bd d)

/-! ### short; right -/
theorem digN_le (r : List Int) : digN r ≤ r.length := (List.takeWhile_sublist _).length_le
theorem u7_len (x : Int) (r : List Int) : (u7 (x :: r)).1.length ≤ nx7 (x :: r) := by
  rw [u7, nx7]
  by_cases h1 : 127 < x
  · have h43 : x ≠ 43 := by omega
    rw [if_pos h1, if_pos h43]; simp
  · rw [if_neg h1]
    by_cases h43 : x ≠ 43
    · rw [if_pos h43, if_pos h43]; simp
    · rw [if_neg h43, if_neg h43]
      by_cases hd : hdB isDig r = true
      · rw [if_pos hd, if_pos hd]
        have h2 := runT_len (r.takeWhile isDig)
        have h3 := lftT_len (r.takeWhile isDig)
        unfold digN
        simp only [List.length_append]
        omega
      · rw [if_neg hd, if_neg hd]
        split <;> simp
theorem nx7_le (x : Int) (r : List Int) : nx7 (x :: r) ≤ (x :: r).length := by
  rw [nx7]
  have h := digN_le r
  rw [List.length_cons]
  split
  · omega
  · split
    · split
      · rename_i _ _ h2
        have : digN r < r.length := by
          by_cases hh : r.length ≤ digN r
          · rw [List.drop_of_length_le hh] at h2; cases h2
          · omega
        omega
      · omega
    · split
      · rename_i _ _ h2
        cases r with
        | nil => cases h2
        | cons y r => simp
      · omega
theorem rd7_len : ∀ xs : List Int, (rd7 xs).length ≤ xs.length := by
  refine ind7 (by rw [rd7_nil.1]; exact Nat.le_refl _) fun x r ih => ?_
  have h1 := u7_len x r
  have h2 := nx7_le x r
  rw [rd7_cons, List.length_append]
  rw [List.length_drop] at ih
  omega
theorem u7_sc (x : Int) (r : List Int) (h0 : 0 ≤ x) : (u7 (x :: r)).1.all scB = true := by
  rw [u7]
  by_cases h1 : 127 < x
  · rw [if_pos h1]; decide
  · rw [if_neg h1]
    split
    · simp only [List.all_cons, List.all_nil, Bool.and_true]; exact (scB_iff x).2 (by omega)
    · split
      · rw [List.all_append, runT_sc]
        unfold lftT
        split <;> decide
      · show [(43 : Int)].all scB = true
        decide
theorem rd7_sc : ∀ xs : List Int, (∀ x ∈ xs, 0 ≤ x) → (rd7 xs).all scB = true := by
  refine ind7 (fun _ => by rw [rd7_nil.1]; rfl) fun x r ih h => ?_
  rw [rd7_cons, List.all_append, u7_sc x r (h x (List.mem_cons_self ..)), ih fun y hy => h y (List.mem_of_mem_drop hy)]
  rfl
theorem rd7_wf {xs : List Int} (h : ∀ x ∈ xs, 0 ≤ x) : ∀ x ∈ rd7 xs, (Lit.int .i32 x).wf = true := by
  intro x hx
  have h1 := List.all_eq_true.1 (rd7_sc xs h) x hx
  have := (scB_iff x).1 h1
  exact mk_r (by omega) (by omega)

/-! ### what is laid is read -/
theorem num_app (a b : List Int) : numL (a ++ b) = numL a * 2 ^ b.length + numL b := by
  have key : ∀ (l : List Int) (n : Int), l.foldl (fun n b => 2 * n + b) n = n * 2 ^ l.length + l.foldl (fun n b => 2 * n + b) 0 := by
    intro l
    induction l with
    | nil => intro n; simp
    | cons b l ih =>
      intro n
      rw [List.foldl_cons, List.foldl_cons, ih (2 * n + b), ih (2 * 0 + b), List.length_cons, Int.pow_succ, Int.add_mul, Int.add_mul, Int.mul_comm 2 n, Int.mul_assoc n, Int.mul_comm 2]
      omega
  unfold numL
  rw [List.foldl_append, key]
theorem num8 (x : Int) (h : O8 x) : numL (bit8 x) = x := by
  unfold O8 at h
  simp only [numL, bit8, List.foldl_cons, List.foldl_nil]
  omega
theorem num16 (x : Int) (h0 : 0 ≤ x) (h1 : x ≤ 65535) : numL (bit8 (x / 256) ++ bit8 (x % 256)) = x := by
  rw [num_app, num8 _ ⟨by omega, by omega⟩, num8 _ ⟨by omega, by omega⟩]
  simp only [bit8, List.length_cons, List.length_nil]
  omega
theorem bits8_ocU (U : List Int) : (bits8 (ocU U)).length = 16 * U.length := by rw [bits8_len, ocU_len]; omega
theorem parts16 : ∀ (U z : List Int), (∀ x ∈ U, 0 ≤ x ∧ x ≤ 65535) → z.length < 16 → parts 16 numL (bits8 (ocU U) ++ z) = U
  | [], z, _, hz => parts_short _ hz
  | x :: U, z, h, hz => by
    have hx := h x (List.mem_cons_self ..)
    rw [show ocU (x :: U) = x / 256 :: x % 256 :: ocU U from rfl, bits8_cons, bits8_cons, ← List.append_assoc, List.append_assoc, parts_app (n := 16) (by decide) numL (by simp [bit8]), num16 x hx.1 hx.2, parts16 U z (fun y hy => h y (List.mem_cons_of_mem _ hy)) hz]
/-- The bits of a code's digits are the octets', and what fills up. -/
theorem bits6_v64 : ∀ xs : List Int, (∀ x ∈ xs, O8 x) → bits6 (v64 xs) = pad6 (bits8 xs) := by
  refine ind3 ?_ ?_ ?_ ?_
  · intro _; rfl
  · intro a h
    have ha := h a (by simp)
    unfold O8 at ha
    rw [show pad6 (bits8 [a]) = [a / 128 % 2, a / 64 % 2, a / 32 % 2, a / 16 % 2, a / 8 % 2, a / 4 % 2, a / 2 % 2, a % 2, 0, 0, 0, 0] by simp [pad6, bits8, bit8]]
    simp only [v64, bits6, bit6, List.flatMap_cons, List.flatMap_nil, List.append_nil, List.cons_append, List.nil_append]
    repeat' (first | rfl | refine cons2 (by omega) ?_)
  · intro a b h
    have ha := h a (by simp)
    have hb := h b (by simp)
    unfold O8 at ha hb
    rw [show pad6 (bits8 [a, b]) = [a / 128 % 2, a / 64 % 2, a / 32 % 2, a / 16 % 2, a / 8 % 2, a / 4 % 2, a / 2 % 2, a % 2, b / 128 % 2, b / 64 % 2, b / 32 % 2, b / 16 % 2, b / 8 % 2, b / 4 % 2, b / 2 % 2, b % 2, 0, 0] by simp [pad6, bits8, bit8]]
    simp only [v64, bits6, bit6, List.flatMap_cons, List.flatMap_nil, List.append_nil, List.cons_append, List.nil_append]
    repeat' (first | rfl | refine cons2 (by omega) ?_)
  · intro a b c r ih h
    have ha := h a (by simp)
    have hb := h b (by simp)
    have hc := h c (by simp)
    unfold O8 at ha hb hc
    have i := ih (fun x hx => h x (by simp [hx]))
    rw [bits8_cons, bits8_cons, bits8_cons, ← List.append_assoc, ← List.append_assoc, pad6_app (by simp [bit8]), v64, bits6_cons, bits6_cons, bits6_cons, bits6_cons, i]
    simp only [bit6, bit8, List.cons_append, List.nil_append]
    repeat' (first | rfl | refine cons2 (by omega) ?_)
theorem map_val {vs : List Int} (h : ∀ v ∈ vs, V6 v) : (vs.map dg64).map valI = vs ∧ (vs.map dg64).all isDig = true := by
  refine ⟨?_, ?_⟩
  · rw [List.map_map]
    conv => rhs; rw [← List.map_id vs]
    exact List.map_congr_left fun v hv => (val_dig (h v hv)).1
  · rw [List.all_map, List.all_eq_true]
    exact fun v hv => (val_dig (h v hv)).2
theorem ocU_O8 {U : List Int} (h : ∀ x ∈ U, 0 ≤ x ∧ x ≤ 65535) : ∀ x ∈ ocU U, O8 x := fun x hx => wf_u8 (ocU_wf h x hx)
theorem num_zeros (n : Nat) : numL (List.replicate n 0) = 0 := by
  induction n with
  | zero => rfl
  | succ n ih => unfold numL at *; rw [List.replicate_succ, List.foldl_cons]; exact ih
theorem cod_read {U : List Int} (h : ∀ x ∈ U, 0 ≤ x ∧ x ≤ 65535) : (bareB (ocU U)).all isDig = true ∧ uniD (bareB (ocU U)) = U ∧ lftB (vlD (bareB (ocU U))) = false := by
  have hv := v64_bd _ (ocU_O8 h)
  have hm := map_val hv
  have hd : (bareB (ocU U)).all isDig = true := hm.2
  have e : vlD (bareB (ocU U)) = bits8 (ocU U) ++ List.replicate ((6 - (bits8 (ocU U)).length % 6) % 6) 0 := by
    unfold vlD
    rw [if_pos hd]
    unfold bareB
    rw [hm.1, bits6_v64 _ (ocU_O8 h)]
    rfl
  have hl := bits8_ocU U
  refine ⟨hd, ?_, ?_⟩
  · unfold uniD
    rw [e]
    exact parts16 U _ h (by rw [List.length_replicate]; omega)
  · unfold lftB restD
    rw [e]
    generalize hn : (6 - (bits8 (ocU U)).length % 6) % 6 = n
    have hn6 : n < 6 := by omega
    have e1 : (bits8 (ocU U) ++ List.replicate n (0 : Int)).length = 16 * U.length + n := by rw [List.length_append, hl, List.length_replicate]
    rw [e1, show 16 * ((16 * U.length + n) / 16) = 16 * U.length by omega, ← hl, List.drop_left, num_zeros, hl]
    simp
    omega
theorem codU_read {t : List Int} (h : t.all scB = true) : (codU t).all isDig = true ∧ runT (codU t) = t ∧ runOk (codU t) = true ∧ lftT (codU t) = [] := by
  obtain ⟨h1, h2, h3⟩ := cod_read (unL_bd t)
  have e : codU t = bareB (ocU (unL t)) := by unfold codU; rw [if_pos h]
  rw [e]
  refine ⟨h1, ?_, ?_, ?_⟩
  · unfold runT; rw [h2, utxt_laid h]
  · unfold runOk; rw [h1, h2, h3, uerr_laid h]; rfl
  · unfold lftT; rw [h3]; rfl
theorem v64_ne {xs : List Int} (h : xs ≠ []) : v64 xs ≠ [] := by
  intro hh
  have := v64_len xs
  rw [hh] at this
  have : xs.length = 0 := by simp at this; omega
  exact h (List.eq_nil_of_length_eq_zero this)
theorem codU_ne {x : Int} {t : List Int} (h : (x :: t).all scB = true) : codU (x :: t) ≠ [] := by
  have e : codU (x :: t) = bareB (ocU (unL (x :: t))) := by unfold codU; rw [if_pos h]
  rw [e]
  unfold bareB
  intro hh
  rw [List.map_eq_nil_iff] at hh
  refine v64_ne ?_ hh
  intro h2
  have h3 := ocU_len (unL (x :: t))
  rw [h2] at h3
  have h4 : (unL (x :: t)).length = 0 := by simp at h3; omega
  have h5 : unL (x :: t) = uns x ++ unL t := rfl
  rw [h5, List.length_append] at h4
  have h6 : scB x = true := by rw [List.all_cons, Bool.and_eq_true] at h; exact h.1
  unfold uns at h4
  rw [if_pos h6] at h4
  split at h4 <;> simp at h4
theorem take_digs {d rest : List Int} (h : d.all isDig = true) (hr : hdB isDig rest = false) : (d ++ rest).takeWhile isDig = d := by
  induction d with
  | nil =>
    cases rest with
    | nil => rfl
    | cons y r => rw [List.nil_append, List.takeWhile_cons_of_neg (by simpa [hdB] using hr)]
  | cons x d ih =>
    rw [List.all_cons, Bool.and_eq_true] at h
    rw [List.cons_append, List.takeWhile_cons_of_pos h.1, ih h.2]
theorem isDig_45 : isDig 45 = false := by decide +kernel
theorem dir_43 : dirB 43 = false := by decide
/-- A run that is laid: read, and what stands behind it. -/
theorem read_run {d rest : List Int} (h : d.all isDig = true) (hne : d ≠ []) :
    nx7 (43 :: (d ++ 45 :: rest)) = d.length + 2 ∧ u7 (43 :: (d ++ 45 :: rest)) = (runT d ++ lftT d, runOk d, true) := by
  have e := take_digs (rest := 45 :: rest) h (by simp [hdB, isDig_45])
  have hh : hdB isDig (d ++ 45 :: rest) = true := by
    cases d with
    | nil => exact absurd rfl hne
    | cons x d => rw [List.all_cons, Bool.and_eq_true] at h; exact h.1
  have hd : digN (d ++ 45 :: rest) = d.length := by unfold digN; rw [e]
  refine ⟨?_, ?_⟩
  · rw [nx7, if_neg (by decide), if_pos hh, hd, List.drop_left]
    simp [hdB, is45]
    omega
  · rw [u7, if_neg (by decide), if_neg (by decide), if_pos hh, e]
theorem split_run : ∀ t : List Int, ∃ u rest, t = u ++ rest ∧ (∀ x ∈ u, dirB x = false) ∧ stopU rest
  | [] => ⟨[], [], rfl, fun x hx => (by cases hx), .inl rfl⟩
  | c :: t => by
    cases h : dirB c
    · obtain ⟨u, rest, e, h1, h2⟩ := split_run t
      exact ⟨c :: u, rest, by rw [e]; rfl, fun x hx => by rcases List.mem_cons.1 hx with rfl | hx; exact h; exact h1 x hx, h2⟩
    · exact ⟨[], c :: t, rfl, fun x hx => (by cases hx), .inr ⟨c, t, rfl, h⟩⟩
/-- What is laid is read (P23.3). -/
theorem read_layU : ∀ (n : Nat) (t : List Int), t.length ≤ n → t.all scB = true → rd7 (layU t []) = t ∧ ok7 (layU t []) = true := by
  intro n
  induction n with
  | zero =>
    intro t h _
    obtain rfl : t = [] := List.eq_nil_of_length_eq_zero (by omega)
    exact ⟨rd7_nil.1, rd7_nil.2.1⟩
  | succ n ih =>
    intro t h hs
    match t, h, hs with
    | [], _, _ => exact ⟨rd7_nil.1, rd7_nil.2.1⟩
    | c :: t, h, hs =>
      have hs' := hs
      rw [List.all_cons, Bool.and_eq_true] at hs
      cases hc : dirB c
      · by_cases h43 : c = 43
        · subst h43
          have i := ih t (by simp at h; omega) hs.2
          have e : u7 (43 :: 45 :: layU t []) = ([43], true, false) := by rw [u7, if_neg (by decide), if_neg (by decide), if_neg (by simp [hdB, isDig_45])]; rfl
          have e2 : nx7 (43 :: 45 :: layU t []) = 2 := by rw [nx7, if_neg (by decide), if_neg (by simp [hdB, isDig_45]), if_pos (by simp [hdB, is45])]
          rw [layU_plus, rd7_cons, ok7_cons, e, e2]
          refine ⟨?_, ?_⟩
          · show [43] ++ rd7 (layU t []) = _
            rw [i.1]; rfl
          · show (true && ok7 (layU t [])) = true
            rw [i.2]; rfl
        · obtain ⟨u, rest, rfl, hu, hst⟩ := split_run t
          rw [List.all_append, Bool.and_eq_true] at hs
          have hcu : (c :: u).all scB = true := by rw [List.all_cons, hs.1, hs.2.1]; rfl
          have i := ih rest (by simp at h; omega) hs.2.2
          obtain ⟨q1, q2, q3, q4⟩ := codU_read hcu
          obtain ⟨p1, p2⟩ := read_run (rest := layU rest []) q1 (codU_ne hcu)
          rw [layU_one hc h43 hu hst, rd7_cons, ok7_cons, p1, p2, q2, q3, q4]
          have ed : (43 :: (codU (c :: u) ++ 45 :: layU rest [])).drop ((codU (c :: u)).length + 2) = layU rest [] := by
            rw [show (codU (c :: u)).length + 2 = ((codU (c :: u)).length + 1) + 1 by omega, List.drop_succ_cons, ← List.drop_drop, List.drop_left]
            rfl
          rw [ed, i.1, i.2]
          exact ⟨by simp, rfl⟩
      · have i := ih t (by simp at h; omega) hs.2
        have hb := dir_bd hc
        have h43 : c ≠ 43 := by intro hh; rw [hh, dir_43] at hc; cases hc
        have e : u7 (c :: layU t []) = ([c], true, false) := by rw [u7, if_neg (by omega), if_pos h43]
        have e2 : nx7 (c :: layU t []) = 1 := by rw [nx7, if_pos h43]
        rw [layU_dir hc, rd7_cons, ok7_cons, e, e2]
        refine ⟨?_, ?_⟩
        · show [c] ++ rd7 (layU t []) = _
          rw [i.1]; rfl
        · show (true && ok7 (layU t [])) = true
          rw [i.2]; rfl
theorem read_lay7 {t : List Int} (h : t.all scB = true) : rd7 (lay7 t) = t ∧ rd7E (lay7 t) = 0 := by
  have := read_layU t.length t (Nat.le_refl _) h
  unfold rd7E lay7
  rw [if_pos h, this.1, this.2]
  exact ⟨rfl, rfl⟩
theorem take_digN (r : List Int) : r.take (digN r) = r.takeWhile isDig := (List.prefix_iff_eq_take.1 (List.takeWhile_prefix isDig)).symm
theorem dig_at : ∀ (r : List Int) (j : Nat), j ≤ digN r → hdB isDig (r.drop j) = decide (j < digN r)
  | [], j, h => by
    have : digN [] = 0 := rfl
    rw [this, decide_eq_false (by omega)]; simp [hdB]
  | x :: r, j, h => by
    unfold digN at h ⊢
    cases hx : isDig x
    · rw [List.takeWhile_cons_of_neg (by simp [hx])] at h ⊢
      simp only [List.length_nil] at h ⊢
      obtain rfl : j = 0 := by omega
      simp [hdB, hx]
    · rw [List.takeWhile_cons_of_pos hx] at h ⊢
      simp only [List.length_cons] at h ⊢
      cases j with
      | zero => simp [hdB, hx]
      | succ j =>
        rw [List.drop_succ_cons, dig_at r j (by unfold digN; omega), decide_eq_decide]
        unfold digN
        omega
end Go.Proofs.YtobjdamlmaaidaaDoor

/-! Rdr -/
namespace Go.Proofs.YtobjdamlmaaidaaDoor
open Go.RowKit
set_option linter.unusedVariables false

/-- Block B holds the cells vs of type t. -/
def Blk (W : World) (B : Nat) (t : TypeId) (vs : Array Value) : Prop := W.heap[B]? = some (.cells vs t (0, 0))
theorem Blk.lt {W : World} {B : Nat} {t : TypeId} {vs : Array Value} (h : Blk W B t vs) : B < W.heap.size := (Array.getElem?_eq_some_iff.1 h).1
theorem Blk.cell {W : World} {B : Nat} {t : TypeId} {vs : Array Value} (h : Blk W B t vs) {i : Nat} {v : Value} (hi : vs[i]? = some v) : W.cell? ⟨B, i, none⟩ = some v := by rw [cell_of_row _ _ _ _ _ _ h]; exact hi
theorem Blk.frozen {W : World} {B : Nat} {t : TypeId} {vs : Array Value} (h : Blk W B t vs) (i : Nat) : W.frozen? ⟨B, i, none⟩ = false := by simp [World.frozen?, show W.heap[B]? = _ from h]
theorem Blk.new (W : World) (t : TypeId) (vs : Array Value) : Blk (W.alloc (.cells vs t)) W.heap.size t vs := heap_alloc_new W _
theorem Blk.kept {W W' : World} {row : Option Nat} {B : Nat} {t : TypeId} {vs : Array Value} (h : Blk W B t vs) (hg : W.grownBy W' row) (hne : some B ≠ row) : Blk W' B t vs := (hg.block B h.lt hne).trans h
theorem Blk.below {W W' : World} {B D : Nat} {t : TypeId} {vs : Array Value} (h : Blk W B t vs) (hb : Below D W W') (hlt : B < D) : Blk W' B t vs := (hb.block B hlt).trans h
theorem Blk.drewN {W : World} {B : Nat} {t : TypeId} {vs : Array Value} (h : Blk W B t vs) (n : Nat) : Blk (W.drewN n) B t vs := h
theorem Blk.set {W : World} {B : Nat} {t : TypeId} {vs : Array Value} (h : Blk W B t vs) (i : Nat) (u : Value) : Blk (W.setCell ⟨B, i, none⟩ u) B t (vs.setIfInBounds i u) := by
  obtain ⟨hlt, hk⟩ := Array.getElem?_eq_some_iff.1 h
  show (W.heap.modify B _)[B]? = _
  rw [Array.getElem?_eq_getElem (by rw [Array.size_modify]; exact hlt), Array.getElem_modify_self, hk]
  rfl
theorem grownBy_set (W : World) (b i : Nat) (v : Value) : W.grownBy (W.setCell ⟨b, i, none⟩ v) (some b) :=
  ⟨rfl, rfl, rfl, by simp [World.setCell], fun k _ hk => Below.heap_setCell _ _ _ k (fun e => hk (by rw [e]))⟩
theorem grownBy_t {a b c : World} {row : Option Nat} (h : a.grownBy b row) (k : b.grownBy c row) : a.grownBy c row :=
  ⟨k.os.trans h.os, k.tape.trans h.tape, k.output.trans h.output, Nat.le_trans h.size k.size, fun i hi hn => (k.block i (Nat.lt_of_lt_of_le hi h.size) hn).trans (h.block i hi hn)⟩
theorem grownBy_draws (W : World) (n : Nat) (row : Option Nat) : W.grownBy (W.drewN n) row := ⟨rfl, rfl, rfl, Nat.le_refl _, fun _ _ _ => rfl⟩
theorem Blk.not_row {W : World} {B : Nat} {t e : TypeId} {vs : Array Value} (h : Blk W B t vs) (hte : t ≠ e) {base size k : Nat} {v : Value} {xs : List Value} (hr : W.ownsRow base e size v k xs) : some B ≠ v.ownBlock := by
  rcases hr.2 with ⟨rfl, _⟩ | ⟨g, cap, cur, rfl, _, hgb, _⟩
  · simp [Value.ownBlock]
  · intro e'
    obtain rfl : B = g := by simpa [Value.ownBlock] using e'
    have := (show W.heap[B]? = _ from h).symm.trans hgb
    simp at this
    exact hte this.2
/-- A row of the call's own is not the struct's block: it stays when that is written. -/
theorem Own.beside {k : IntKind} {e t : TypeId} {base B : Nat} {W W' : World} {v : Value} {xs : List Int} {vs : Array Value} (h : Own k e base W v xs) (hB : Blk W B t vs) (hte : t ≠ e) (hg : W.grownBy W' (some B)) : Own k e base W' v xs :=
  ⟨h.1.kept hg (.inr fun e' => hB.not_row hte h.1 e'.symm), h.2⟩
/-- The struct's block is from B on: what is below stays. -/
theorem below_beside {a w w' : World} {B D : Nat} (h : Below D a w) (hg : w.grownBy w' (some B)) (hD : D ≤ w.heap.size) (hB : D ≤ B) : Below D a w' := h.grown hg hD (fun k hk => by cases hk; exact hB)

section
variable {P : Program} {ops : Array Oper} {rest : List Oper} {o : Oper} {a : Act} {Q : Exit → Act → World → Prop} {t e : TypeId} {k : IntKind} {by_ : Nat}
/-- 'append(s, y1, y2, ..)' beside a struct's block. -/
theorem wpList_pushsB (ST : SliceT P t e k by_) (ys : List Int) (hgd : o.guard = none) (s x : Operand) (ho : o.op = .call { callee := .builtin .append, args := #[s, x], argTypes := #[t, t] })
    {w0 wr : World} {e' T : TypeId} {v : Value} {xs : List Int} {B : Nat} {vs : Array Value} (hs : a.eval s = v) (hx : ∃ c, a.eval x = .slice (some ⟨wr.heap.size, 0, none⟩) ys.length c)
    (hown : Own k e w0.heap.size wr v xs) (hbel : Below w0.heap.size w0 wr) (hB : Blk wr B T vs) (hte : T ≠ e) (hlen : xs.length + ys.length < 1000000000000) (hwf : ∀ y ∈ ys, (Lit.int k y).wf = true)
    (h : ∀ v' w', Own k e w0.heap.size w' v' (xs ++ ys) → Below w0.heap.size w0 w' → Blk w' B T vs → wpList P ops Q rest (a.put o.dst v') w') :
    wpList P ops Q (o :: rest) a (wr.alloc (.cells (ys.map (Value.int k)).toArray e')) := by
  obtain ⟨i, hi, hz0, hz1, hz2⟩ := info_parts ST.info
  obtain ⟨c, hx⟩ := hx
  have hsm := ST.small
  have hmul : (xs.length + ys.length) * by_ ≤ (xs.length + ys.length) * 8 := Nat.mul_le_mul_left _ hsm
  have hB1 : Blk (wr.alloc (.cells (ys.map (Value.int k)).toArray e')) B T vs := hB.kept (World.grownBy_alloc _ _ none) (by simp)
  refine wpList_append_own _ hgd s x t ho w0.heap.size e i (.int k 0) 1 by_ ST.under hi hz0 hz1 hz2 rfl (by decide) v xs.length (xs.map (Value.int k)) hs (hown.1.alloc _) ⟨wr.heap.size, 0, none⟩ ys.length c (ys.map (Value.int k)) hx (by simp) ?_ (ints_oneCell _ _) (by unfold maxLen; omega) (by omega)
    (Nat.le_trans hbel.size (by simp)) ?_
  · intro j u hj
    rw [Addr.add_lit, World.cell?_alloc_at _ _ _ _ rfl]
    simpa using hj
  · intro v' w' hown' hgrow _
    refine h v' w' ⟨by simpa using hown', ?_⟩ ((hbel.alloc hbel.size _).grown hgrow (Nat.le_trans hbel.size (by simp)) (fun j hj => (hown.1.lt j hj).1)) (hB1.kept hgrow (hB1.not_row hte (hown.1.alloc _)))
    intro z hz
    rcases List.mem_append.1 hz with hz | hz
    · exact hown.2 z hz
    · exact hwf z hz
end
end Go.Proofs.YtobjdamlmaaidaaDoor

/-! C23a -/
namespace Go.Proofs.YtobjdamlmaaidaaDoor
open Go.RowKit
set_option linter.unusedVariables false

def noD (c : Int) : Bool := !isDig c
theorem noD_cnt (xs : List Int) : cntF noD xs = digN xs := by
  unfold cntF digN noD
  simp

theorem sread_isOther (c : Int) (w : World) (h0 : 0 ≤ c) (h1 : c ≤ 255) :
    Calls Tryd.prog 61 #[.int .u8 c] w fun e w' => e = .returned (.bool (noD c)) ∧ w = w' := by
  have hV := bcode_Value c w h0 h1
  unfold noD
  generalize isDig c = D at *
  generalize valI c = V at *
  have HV := hid hV
  clear hV
  go_enter Tryd.func61, Tryd.ntmps61
  go_wp2_with (go_at_call 46; (with_reducible refine HV.out.mono ?_); rintro e w' ⟨rfl, rfl⟩)
  go_ret
  exact ⟨rfl, rfl⟩
set_option maxHeartbeats 1000000 in
theorem idx_noD (a : Option Addr) (len cap : Nat) (xs : List Int) (w : World) (hr : Reads .u8 w a len cap xs) :
    Calls Tryd.prog 60 #[.slice a len cap, .func (.func 61) #[] #[]] w fun e w' => e = .returned (.int .i64 (idxI noD xs)) ∧ w = w' := by
  have hl := hr.len_le
  have HR := hid hr
  clear hr
  go_enter Tryd.func60, Tryd.ntmps60
  go_wp2
  go_loop [8] (fun i => ∃ k : Nat, k ≤ len ∧ i = .int .i64 k ∧ Hid ((xs.take k).any noD = false)) (fun i => len - (intOf i).toNat)
  case atStart => exact ⟨0, Nat.zero_le _, rfl, rfl⟩
  case round =>
    obtain ⟨k, hk, rfl, hn⟩ := hrel
    by_cases hlt : k < len
    · obtain ⟨b, off, x, rfl, _, hc, h0, h1, hx⟩ := HR.out.get8 hlt
      cases hs : noD x
      · have H := hid hs
        go_wp2_with (go_at_call 61; (with_reducible refine (sread_isOther _ _ h0 h1).mono ?_); rintro e w' ⟨rfl, rfl⟩; rw [hs])
        go_round
        case rel => exact ⟨k + 1, by omega, by go_num, none_yes hx.out.2 hn.out H.out⟩
        case measure => simp [intOf]; omega
      · have H := hid hs
        go_wp2_with (go_at_call 61; (with_reducible refine (sread_isOther _ _ h0 h1).mono ?_); rintro e w' ⟨rfl, rfl⟩; rw [hs])
        go_ret
        exact ⟨ret_int (idx_hit hx.out.1 hn.out H.out).symm, rfl⟩
    · go_wp2
      go_ret
      exact ⟨ret_int (by rw [← HR.out.all (show len ≤ k by omega)]; exact (idx_none hn.out).symm), rfl⟩
theorem sread_leading (a : Option Addr) (len cap : Nat) (xs : List Int) (w : World) (hr : Reads .u8 w a len cap xs) :
    Calls Tryd.prog 48 #[.slice a len cap] w fun e w' => e = .returned (.slice a (digN xs) cap) ∧ w = w' := by
  have HI := hid (idx_noD a len cap xs w hr)
  have hx := idx_cntF noD xs
  have hrm := hr.room
  have hsz := hr.size
  have hle := digN_le xs
  rw [noD_cnt] at hx
  obtain ⟨m, hm⟩ : ∃ m, m = digN xs := ⟨_, rfl⟩
  rw [← hm] at hx hle ⊢
  by_cases ha : xs.any noD = true
  · rw [if_pos ha] at hx
    rw [hx] at HI
    have n0 : ¬ (m : Int) < 0 := by omega
    have q0 : (0 : Int) ≤ (m : Int) := by omega
    have q2 : (m : Int) ≤ (cap : Int) := by omega
    clear hx ha hm hr
    go_enter Tryd.func48, Tryd.ntmps48
    go_wp2_with (go_at_call 60; (with_reducible refine HI.out.mono ?_); rintro e w' ⟨rfl, rfl⟩)
    go_ret
    exact ⟨rfl, rfl⟩
  · rw [if_neg ha] at hx
    have hmm : m = len := by
      have := cntF_all (f := noD) (xs := xs) (by simpa using ha)
      rw [noD_cnt, ← hm] at this
      omega
    subst hmm
    rw [hx] at HI
    clear hx ha hm hr
    go_enter Tryd.func48, Tryd.ntmps48
    go_wp2_with (go_at_call 60; (with_reducible refine HI.out.mono ?_); rintro e w' ⟨rfl, rfl⟩)
    go_ret
    exact ⟨rfl, rfl⟩

/-- A piece: a run's digits, or a sign; may it stand there? -/
structure Pc (w0 : World) (L : Nat) where
  a : Option Addr
  m : Nat
  c : Nat
  d : List Int
  s : Int
  r : Bool
  hr : Reads .u8 w0 a m c d
  hl : m ≤ L
  h0 : 0 ≤ s
  h1 : s ≤ 65533
  hd : d.all isDig = true
/-- What a piece is read as: the signs; are they right; is it a run? -/
def pcv (d : List Int) (s : Int) (r : Bool) : List Int × Bool × Bool := if d = [] then ([s], r, false) else (runT d ++ lftT d, runOk d, true)
def Pc.val {w0 : World} {L : Nat} (x : Pc w0 L) : List Int × Bool × Bool := pcv x.d x.s x.r
/-- A piece as the program hands it on. -/
def Pc.enc {w0 : World} {L : Nat} (x : Pc w0 L) : Value := .agg #[.slice x.a x.m x.c, .int .i32 x.s, .bool x.r]

theorem drop_cons {xs : List Int} {k : Nat} {x : Int} (h : xs[k]? = some x) : xs.drop k = x :: xs.drop (k + 1) := by
  have hk : k < xs.length := (List.getElem?_eq_some_iff.1 h).1
  rw [List.drop_eq_getElem_cons hk, (List.getElem?_eq_some_iff.1 h).2]
theorem nx7_plus (r : List Int) : nx7 (43 :: r) = 1 + digN r + (if hdB is45 (r.drop (digN r)) = true then 1 else 0) ∧ u7 (43 :: r) = (if 0 < digN r then (runT (r.takeWhile isDig) ++ lftT (r.takeWhile isDig), runOk (r.takeWhile isDig), true) else ([43], hdB is45 (r.drop (digN r)), false)) := by
  have hd := dig_at r 0 (Nat.zero_le _)
  rw [List.drop_zero] at hd
  have h1 : ¬ (127 : Int) < 43 := by decide
  have h2 : ¬ (43 : Int) ≠ 43 := by decide
  unfold nx7 u7
  dsimp only
  rw [if_neg h2, if_neg h1, if_neg h2, hd]
  by_cases h : 0 < digN r
  · rw [decide_eq_true h, if_pos rfl, if_pos rfl, if_pos h]
    exact ⟨rfl, rfl⟩
  · have h0 : digN r = 0 := by omega
    rw [decide_eq_false h, if_neg Bool.false_ne_true, if_neg Bool.false_ne_true, if_neg h, h0, List.drop_zero]
    refine ⟨?_, rfl⟩
    split <;> rfl
set_option maxRecDepth 100000 in
set_option maxHeartbeats 1000000 in
theorem sread_opened (w0 w : World) (b off len cap : Nat) (r : List Int) (hr : Reads .u8 w0 (some ⟨b, off, none⟩) len cap (43 :: r)) (hb : Below w0.heap.size w0 w) (hN : len < 10000000000) :
    Calls Tryd.prog 40 #[.slice (some ⟨b, off, none⟩) len cap] w fun e w' => ∃ p : Pc w0 len, e = .returned (.tuple #[p.enc, .int .i64 (nx7 (43 :: r))]) ∧ p.val = u7 (43 :: r) ∧ Below w.heap.size w w' := by
  obtain ⟨e1, e2⟩ := nx7_plus r
  have hsz := hr.size
  have hrm := hr.room
  have hl := hr.len_le
  rw [List.length_cons] at hsz
  have hrw := hr.below hb
  have hp := hr.piece (l := 1) (r := len) (by omega) (Nat.le_refl _)
  rw [List.take_of_length_le (by simp; omega), List.drop_one, List.tail_cons] at hp
  have hle := digN_le r
  have htk := take_digN r
  rw [e1, e2, ← htk]
  obtain ⟨n, hn⟩ : ∃ n, n = digN r := ⟨_, rfl⟩
  have hall : (r.take n).all isDig = true := by rw [hn, htk]; exact List.all_takeWhile
  rw [← hn] at hle ⊢
  have hK : (hdB is45 (r.drop n) = true ∧ 1 + n < len ∧ w.cell? ⟨b, off + (1 + n), none⟩ = some (.int .u8 45)) ∨ (hdB is45 (r.drop n) = false ∧ (1 + n = len ∨ (1 + n < len ∧ ∃ y, w.cell? ⟨b, off + (1 + n), none⟩ = some (.int .u8 y) ∧ (y == 45) = false))) := by
    by_cases h : 1 + n < len
    · obtain ⟨b', off', y, hA, _, hcy, _, _, hy⟩ := hrw.get8 h
      cases hA
      have hd : (43 :: r).drop (1 + n) = y :: (43 :: r).drop (1 + n + 1) := drop_cons hy.out.1
      rw [show 1 + n = n + 1 by omega, List.drop_succ_cons] at hd
      rw [hd]
      by_cases hy45 : y = 45
      · subst hy45
        exact .inl ⟨rfl, h, hcy⟩
      · exact .inr ⟨by simpa [hdB, is45] using hy45, .inr ⟨h, y, hcy, by simpa using hy45⟩⟩
    · exact .inr ⟨by rw [List.drop_of_length_le (by omega)]; rfl, .inl (by omega)⟩
  have hbc : Below w0.heap.size w0 (w.alloc (.cells #[.slice none 0 0, .int .i32 0, .bool false] 47)) := hb.alloc hb.size _
  have hcm' : ∀ v, w.cell? ⟨b, off + (1 + n), none⟩ = some v → (w.alloc (.cells #[.slice none 0 0, .int .i32 0, .bool false] 47)).cell? ⟨b, off + (1 + n), none⟩ = some v := fun v h => (World.cell?_alloc_lt _ _ _ (World.block_lt_of_cell? w _ h)).trans h
  by_cases hc : cap = 1
  · subst hc
    obtain rfl : len = 1 := by omega
    obtain rfl : r = [] := List.eq_nil_of_length_eq_zero (by omega)
    have h0 : n = 0 := hn
    subst h0
    rw [if_pos rfl] at hp
    have HL := hid (sread_leading _ _ _ _ _ (hp.below hbc))
    rw [show digN [] = 0 from rfl] at HL
    clear hK e1 e2 hn htk hle hp hr hrw hcm' hall
    go_enter Tryd.func40, Tryd.ntmps40
    go_wp2_with (go_at_call 48; (with_reducible refine HL.out.mono ?_); rintro e w' ⟨rfl, rfl⟩)
    refine bodyPost_ret (v := .tuple #[.agg #[.slice none 0 0, .int .i32 43, .bool false], .int .i64 1]) (by simp [results, Tryd.f40, go_sem]) rfl ?_
    exact ⟨⟨none, 0, 0, [], 43, false, Reads.nil _ _ _ _ (Nat.zero_le _), Nat.zero_le _, by decide, by decide, rfl⟩, rfl, rfl, (Below.refl _ _).alloc (Nat.le_refl _) _⟩
  · rw [if_neg hc, Option.map_some, Addr.add_lit] at hp
    have r3 : (cap = 1) = False := eq_false hc
    have HL := hid (sread_leading _ _ _ _ _ (hp.below hbc))
    have hpre := hid (hp.pre (n := n) (by omega))
    rw [← hn] at HL
    clear hp hr hrw e1 e2 htk hn
    rcases Nat.eq_zero_or_pos n with h0 | h0
    · subst h0
      clear hall
      rw [if_neg (Nat.lt_irrefl 0)]
      rcases hK with ⟨h45, hml, hcm⟩ | ⟨h45, rfl | ⟨hml, y, hcm, hy45⟩⟩
      all_goals
        rw [h45]
        try replace hcm := hcm' _ hcm
        clear h45 hcm'
        simp only [Nat.add_zero] at *
        go_enter Tryd.func40, Tryd.ntmps40
        go_wp2_with (go_at_call 48; (with_reducible refine HL.out.mono ?_); rintro e w' ⟨rfl, rfl⟩)
        first
        | (refine bodyPost_ret (v := .tuple #[.agg #[.slice none 0 0, .int .i32 43, .bool true], .int .i64 2]) ?_ rfl ?_; (simp [results, Tryd.f40, go_sem]); exact ⟨⟨none, 0, 0, [], 43, true, Reads.nil _ _ _ _ (Nat.zero_le _), Nat.zero_le _, by decide, by decide, rfl⟩, rfl, rfl, (Below.refl _ _).alloc (Nat.le_refl _) _⟩)
        | (refine bodyPost_ret (v := .tuple #[.agg #[.slice none 0 0, .int .i32 43, .bool false], .int .i64 1]) ?_ rfl ?_; (simp [results, Tryd.f40, go_sem]); exact ⟨⟨none, 0, 0, [], 43, false, Reads.nil _ _ _ _ (Nat.zero_le _), Nat.zero_le _, by decide, by decide, rfl⟩, rfl, rfl, (Below.refl _ _).alloc (Nat.le_refl _) _⟩)
    · rw [if_pos h0]
      have hne : r.take n ≠ [] := fun h => by have := congrArg List.length h; rw [List.length_take, List.length_nil] at this; omega
      obtain ⟨p, hpe, hpv⟩ : ∃ p : Pc w0 len, p.enc = .agg #[.slice (some ⟨b, off + 1, none⟩) n (cap - 1), .int .i32 0, .bool false] ∧ p.val = (runT (r.take n) ++ lftT (r.take n), runOk (r.take n), true) :=
        ⟨⟨some ⟨b, off + 1, none⟩, n, cap - 1, r.take n, 0, false, hpre.out, by omega, by decide, by decide, hall⟩, rfl, if_neg hne⟩
      have HPE := hid hpe
      have HPV := hid hpv
      clear hpe hpv hall
      have hnb : n < 10000000000 := by omega
      have g0 : ((1 + n : Nat) : Int) = 1 + (n : Int) := by omega
      have g1 : (0 : Int) ≤ 1 + (n : Int) := by omega
      have g2 : (1 + (n : Int)).toNat = 1 + n := by omega
      rcases hK with ⟨h45, hml, hcm⟩ | ⟨h45, hml | ⟨hml, y, hcm, hy45⟩⟩
      all_goals
        rw [h45]
        try replace hcm := hcm' _ hcm
        have HB := hid hml
        first
        | have hq : 1 + (n : Int) < (len : Int) := by omega
        | have hq : ¬ 1 + (n : Int) < (len : Int) := by omega
        clear h45 hcm' hne hle hml
        go_enter Tryd.func40, Tryd.ntmps40
        go_wp2_with (go_at_call 48; (with_reducible refine HL.out.mono ?_); rintro e w' ⟨rfl, rfl⟩)
        first
        | (refine bodyPost_ret (v := .tuple #[.agg #[.slice (some ⟨b, off + 1, none⟩) n (cap - 1), .int .i32 0, .bool false], .int .i64 (1 + (n : Int) + 1)]) ?_ rfl ?_; (simp [results, Tryd.f40, go_sem]); exact ⟨p, by rw [HPE.out], HPV.out, (Below.refl _ _).alloc (Nat.le_refl _) _⟩)
        | (refine bodyPost_ret (v := .tuple #[.agg #[.slice (some ⟨b, off + 1, none⟩) n (cap - 1), .int .i32 0, .bool false], .int .i64 (1 + (n : Int))]) ?_ rfl ?_; (simp [results, Tryd.f40, go_sem]); exact ⟨p, by rw [HPE.out], HPV.out, (Below.refl _ _).alloc (Nat.le_refl _) _⟩)
set_option maxRecDepth 100000 in
set_option maxHeartbeats 1000000 in
theorem sread_first (w0 w : World) (a : Option Addr) (len cap : Nat) (xs : List Int) (hr : Reads .u8 w0 a len cap xs) (hb : Below w0.heap.size w0 w) (hN : len < 10000000000) (h0 : 0 < len) :
    Calls Tryd.prog 27 #[.slice a len cap] w fun e w' => ∃ p : Pc w0 len, e = .returned (.tuple #[p.enc, .int .i64 (nx7 xs)]) ∧ p.val = u7 xs ∧ Below w.heap.size w w' := by
  have hsz := hr.size
  have hl := hr.len_le
  have hrm := hr.room
  have hb1 := hb.alloc hb.size (.cells #[.slice none 0 0, .int .i32 0, .bool false] 47)
  obtain ⟨b, off, x, rfl, _, hc, h1, h2, hx⟩ := (hr.below hb1).get8 h0
  obtain ⟨r, rfl⟩ : ∃ r, xs = x :: r := by
    have h := hx.out.1
    cases xs with
    | nil => cases h
    | cons y r => exact ⟨r, by simp at h; rw [h]⟩
  rw [Nat.add_zero] at hc
  clear hx
  by_cases h43 : x = 43
  · subst h43
    have HO := hid (sread_opened w0 _ b off len cap r hr hb1 hN)
    clear hr hsz
    go_enter Tryd.func27, Tryd.ntmps27
    go_wp2_with (go_at_call 40; (with_reducible refine HO.out.mono ?_); rintro e w1 ⟨p, rfl, hpv, hb2⟩; have HPV := hid hpv; clear hpv; simp only [Pc.enc]; have B1 := (Blk.new w 47 #[.slice none 0 0, .int .i32 0, .bool false]).below hb2 (by simp); have c0 := B1.cell (i := 0) rfl; have c1 := B1.cell (i := 1) rfl; have c2 := B1.cell (i := 2) rfl; have f0 := B1.frozen 0; have f1 := B1.frozen 1; have f2 := B1.frozen 2)
    have B3 := ((B1.set 0 (.slice p.a p.m p.c)).set 1 (.int .i32 p.s)).set 2 (.bool p.r)
    have d0 := B3.cell (i := 0) rfl
    have d1 := B3.cell (i := 1) rfl
    have d2 := B3.cell (i := 2) rfl
    have hbw : Below w.heap.size w (((w1.setCell ⟨w.heap.size, 0, none⟩ (.slice p.a p.m p.c)).setCell ⟨w.heap.size, 1, none⟩ (.int .i32 p.s)).setCell ⟨w.heap.size, 2, none⟩ (.bool p.r)) :=
      (((((Below.refl _ w).alloc (Nat.le_refl _) _).trans (hb2.mono (by simp))).setCell (p := ⟨w.heap.size, 0, none⟩) (Nat.le_refl _) _).setCell (p := ⟨w.heap.size, 1, none⟩) (Nat.le_refl _) _).setCell (p := ⟨w.heap.size, 2, none⟩) (Nat.le_refl _) _
    generalize ((w1.setCell ⟨w.heap.size, 0, none⟩ (.slice p.a p.m p.c)).setCell ⟨w.heap.size, 1, none⟩ (.int .i32 p.s)).setCell ⟨w.heap.size, 2, none⟩ (.bool p.r) = W3 at *
    refine bodyPost_ret (v := .tuple #[p.enc, .int .i64 (nx7 (43 :: r))]) (by simp [results, Tryd.f27, go_sem, d0, d1, d2, Pc.enc]) rfl ?_
    exact ⟨p, rfl, HPV.out, hbw⟩
  · have hn : (x == 43) = false := by simpa using h43
    have e2 : nx7 (x :: r) = 1 := if_pos h43
    rw [e2]
    clear hr hsz e2
    by_cases h7 : 127 < x
    · have e1 : u7 (x :: r) = ([65533], false, false) := if_pos h7
      rw [e1]
      clear e1 h43
      go_enter Tryd.func27, Tryd.ntmps27
      go_wp2_with fail
      refine bodyPost_ret (v := .tuple #[.agg #[.slice none 0 0, .int .i32 65533, .bool false], .int .i64 1]) (by simp [results, Tryd.f27, go_sem]) rfl ?_
      exact ⟨⟨none, 0, 0, [], 65533, false, Reads.nil _ _ _ _ (Nat.zero_le _), Nat.zero_le _, by decide, by decide, rfl⟩, rfl, rfl, (Below.refl _ _).alloc (Nat.le_refl _) _⟩
    · have e1 : u7 (x :: r) = ([x], true, false) := by unfold u7; dsimp only; rw [if_neg h7, if_pos h43]
      rw [e1]
      clear e1 h43
      go_enter Tryd.func27, Tryd.ntmps27
      go_wp2_with fail
      refine bodyPost_ret (v := .tuple #[.agg #[.slice none 0 0, .int .i32 x, .bool true], .int .i64 1]) (by simp [results, Tryd.f27, go_sem]) rfl ?_
      exact ⟨⟨none, 0, 0, [], x, true, Reads.nil _ _ _ _ (Nat.zero_le _), Nat.zero_le _, h1, by omega, rfl⟩, rfl, rfl, (Below.refl _ _).alloc (Nat.le_refl _) _⟩

end Go.Proofs.YtobjdamlmaaidaaDoor

/-! Itr -/
namespace Go.Proofs.YtobjdamlmaaidaaDoor
open Go.RowKit Go.Shelf
set_option linter.unusedVariables false
attribute [local go_sem] Oper.semAt_some

/-- What a round keeps: what lay below n₀; the box Bs. -/
def KeepsBox (n₀ Bs : Nat) (t : TypeId) (W W' : World) : Prop := Below n₀ W W' ∧ ∀ v, Boxed W Bs t v → Boxed W' Bs t v
theorem KeepsBox.refl (n₀ Bs : Nat) (t : TypeId) (W : World) : KeepsBox n₀ Bs t W W := ⟨Below.refl _ _, fun _ h => h⟩
theorem keepsBox_t {n₀ Bs : Nat} {t : TypeId} {A B C : World} (h : KeepsBox n₀ Bs t A B) (k : KeepsBox n₀ Bs t B C) : KeepsBox n₀ Bs t A C := ⟨h.1.trans k.1, fun v hv => k.2 v (h.2 v hv)⟩
theorem keepsBox_b {n₀ Bs : Nat} {t : TypeId} {w : World} (hn : n₀ ≤ w.heap.size) (W : World) (l : Nat) (o o' : Obj) (hl : w.heap.size ≤ l) (h : W.heap[l]? = some o) (hc : o.isCells = false) (hw : o.isWalk = false) : KeepsBox n₀ Bs t W (W.putObj l o') :=
  ⟨belowK_b hn W l o o' hl h hc hw, fun v hv => hv.kept (grownBy_putObj' W l o') (by
    intro e
    cases e
    rw [show W.heap[Bs]? = _ from hv] at h
    cases h
    cases hc)⟩
theorem grownBy_drewN (W : World) (n : Nat) : W.grownBy (W.drewN n) none := ⟨rfl, rfl, rfl, Nat.le_refl _, fun _ _ _ => rfl⟩
theorem abides_drewN {β : Type} {B : Nat} {J : β → World → Prop} (h : AbidesFrom B J) {s : β} {W : World} (hs : J s W) (n : Nat) : J s (W.drewN n) := h s W _ none hs (grownBy_drewN W n) (fun r e => by cases e)
theorem grownBy_below {W W' : World} (h : Below W.heap.size W W') : W.grownBy W' none := ⟨h.os, h.tape, h.output, h.size, fun k hk _ => h.block k hk⟩
theorem abides_below {β : Type} {B : Nat} {J : β → World → Prop} (h : AbidesFrom B J) {s : β} {W W' : World} (hs : J s W) (hb : Below W.heap.size W W') : J s W' := h s W _ none hs (grownBy_below hb) (fun r e => by cases e)
/-- A store into the caller's own box. -/
theorem keepsBox_set {n₀ B Bs : Nat} {t : TypeId} {W : World} (hB : n₀ ≤ B) (hne : Bs ≠ B) (u : Value) : KeepsBox n₀ Bs t W (W.setCell ⟨B, 0, none⟩ u) :=
  ⟨(Below.refl n₀ W).setCell (p := ⟨B, 0, none⟩) hB _, fun v hv => hv.other hne u⟩
/-- The world where the loop begins: the caller's box, then the iterator's. -/
theorem two_boxes (w : World) (t t2 : TypeId) (v v2 : Value) :
    Boxed ((w.alloc (.cells #[v] t)).alloc (.cells #[v2] t2)) w.heap.size t v ∧ Boxed ((w.alloc (.cells #[v] t)).alloc (.cells #[v2] t2)) (w.heap.size + 1) t2 v2 ∧ Below w.heap.size w ((w.alloc (.cells #[v] t)).alloc (.cells #[v2] t2)) := by
  refine ⟨(Boxed.new w t v).alloc _, ?_, ((Below.refl _ w).alloc (Nat.le_refl _) _).alloc (by simp) _⟩
  have := Boxed.new (w.alloc (.cells #[v] t)) t2 v2
  rwa [World.size_alloc] at this
theorem own_box {β : Type} {n₀ D : Nat} {w : World} (hn : n₀ ≤ w.heap.size) (hD : n₀ ≤ D) (B : Nat) (t : TypeId) (f : β → Value) : OwnFrom D (fun (s : β) W => Boxed W B t (f s) ∧ Below n₀ w W) :=
  OwnFrom.and (Go.Own.from (boxed_own B t f) _) (ownFrom_below hn hD)
/-- 'out = append(out, ..)' leaves another box as it lay. -/
theorem box_appended {W w1 : World} {n₀ B B' : Nat} {t e : TypeId} {size k : Nat} {v v' u : Value} {xs : List Value} {tmp : Obj}
    (h : Boxed W B' t u) (hte : t ≠ e) (hne : B' ≠ B) (hrow : W.ownsRow n₀ e size v k xs) (hgrow : (W.alloc tmp).grownBy w1 v.ownBlock) : Boxed (w1.setCell ⟨B, 0, none⟩ v') B' t u :=
  ((h.alloc tmp).kept hgrow (h.not_row hte hrow)).other hne v'
/-- The world where Strict's loop begins. -/
theorem four_boxes (w : World) (t1 t2 t3 t4 : TypeId) (v1 v2 v3 v4 : Value) :
    let w' := (((w.alloc (.cells #[v1] t1)).alloc (.cells #[v2] t2)).alloc (.cells #[v3] t3)).alloc (.cells #[v4] t4)
    Boxed w' w.heap.size t1 v1 ∧ Boxed w' (w.heap.size + 1) t2 v2 ∧ Boxed w' (w.heap.size + 1 + 1) t3 v3 ∧ Boxed w' (w.heap.size + 1 + 1 + 1) t4 v4 ∧ Below w.heap.size w w' := by
  obtain ⟨b1, b2, hB⟩ := two_boxes w t1 t2 v1 v2
  obtain ⟨b3, b4, hB2⟩ := two_boxes ((w.alloc (.cells #[v1] t1)).alloc (.cells #[v2] t2)) t3 t4 v3 v4
  simp only [World.size_alloc] at b3 b4
  exact ⟨(b1.alloc _).alloc _, (b2.alloc _).alloc _, b3, b4, hB.trans (hB2.mono hB.size)⟩
theorem row_set {W : World} {B : Nat} {t e : TypeId} {u u' : Value} (h : Boxed W B t u) (hte : t ≠ e) {base size k : Nat} {v : Value} {xs : List Value} (hr : W.ownsRow base e size v k xs) : (W.setCell ⟨B, 0, none⟩ u').ownsRow base e size v k xs :=
  hr.kept (grownBy_setCell' W B u') (.inr (h.not_row hte hr).symm)
theorem three_boxes (w : World) (t t2 t3 : TypeId) (v v2 v3 : Value) :
    let w' := ((w.alloc (.cells #[v] t)).alloc (.cells #[v2] t2)).alloc (.cells #[v3] t3)
    Boxed w' w.heap.size t v ∧ Boxed w' (w.heap.size + 1) t2 v2 ∧ Boxed w' (w.heap.size + 1 + 1) t3 v3 ∧ Below w.heap.size w w' := by
  obtain ⟨b1, b2, hB⟩ := two_boxes w t t2 v v2
  refine ⟨b1.alloc _, b2.alloc _, ?_, hB.alloc hB.size _⟩
  have := Boxed.new ((w.alloc (.cells #[v] t)).alloc (.cells #[v2] t2)) t3 v3
  simpa only [World.size_alloc] using this
theorem five_boxes (w : World) (t t2 t3 t4 t5 : TypeId) (v v2 v3 v4 v5 : Value) :
    let w' := ((((w.alloc (.cells #[v] t)).alloc (.cells #[v2] t2)).alloc (.cells #[v3] t3)).alloc (.cells #[v4] t4)).alloc (.cells #[v5] t5)
    Boxed w' w.heap.size t v ∧ Boxed w' (w.heap.size + 1) t2 v2 ∧ Boxed w' (w.heap.size + 1 + 1) t3 v3 ∧ Boxed w' (w.heap.size + 1 + 1 + 1) t4 v4 ∧ Boxed w' (w.heap.size + 1 + 1 + 1 + 1) t5 v5 ∧ Below w.heap.size w w' := by
  obtain ⟨b1, b2, b3, hB⟩ := three_boxes w t t2 t3 v v2 v3
  obtain ⟨b4, b5, hB2⟩ := two_boxes (((w.alloc (.cells #[v] t)).alloc (.cells #[v2] t2)).alloc (.cells #[v3] t3)) t4 t5 v4 v5
  simp only [World.size_alloc] at b4 b5
  exact ⟨(b1.alloc _).alloc _, (b2.alloc _).alloc _, (b3.alloc _).alloc _, b4, b5, hB.trans (hB2.mono hB.size)⟩

/-- Nothing that is told of W has turned in W' but the box B, which holds u. -/
theorem keeps_below_trans {n₀ : Nat} {A B C : World} (h : KeepsOthers A B ∧ Below n₀ A B) (k : KeepsOthers B C ∧ Below n₀ B C) : KeepsOthers A C ∧ Below n₀ A C := ⟨h.1.trans k.1, h.2.trans k.2⟩
theorem keeps_set {n₀ B : Nat} (W : World) (hB : n₀ ≤ B) (u : Value) : KeepsOthers W (W.setCell ⟨B, 0, none⟩ u) ∧ Below n₀ W (W.setCell ⟨B, 0, none⟩ u) := ⟨KeepsOthers.setCell _ _ _, (Below.refl n₀ W).setCell (p := ⟨B, 0, none⟩) hB _⟩

/-! ### rows of the call's own, in a box, within a fence -/
/-- A row of the call's own, of numbers that need not be well formed ('Own' says that they are). -/
def Row (k : IntKind) (e : TypeId) (base : Nat) (w : World) (v : Value) (xs : List Int) : Prop := w.ownsRow base e 1 v xs.length (xs.map (Value.int k))
theorem Row.own {k : IntKind} {e : TypeId} {base : Nat} {w : World} {v : Value} {xs : List Int} (h : Row k e base w v xs) (hwf : ∀ x ∈ xs, (Lit.int k x).wf = true) : Own k e base w v xs := ⟨h, hwf⟩
theorem Row.putObj {k : IntKind} {e : TypeId} {base : Nat} {w : World} {v : Value} {xs : List Int} (h : Row k e base w v xs) {l : Nat} {o : Obj} (o' : Obj) (hl : w.heap[l]? = some o) (ho : o.isCells = false) : Row k e base (w.putObj l o') v xs := ownsRow_putObj h o' hl ho
theorem Row.set {k : IntKind} {e t : TypeId} {base : Nat} {w : World} {v : Value} {xs : List Int} (h : Row k e base w v xs) {B : Nat} {u : Value} (hb : Boxed w B t u) (hte : t ≠ e) (u' : Value) : Row k e base (w.setCell ⟨B, 0, none⟩ u') v xs := row_set hb hte h
theorem Row.drew {k : IntKind} {e : TypeId} {base : Nat} {w : World} {v : Value} {xs : List Int} (h : Row k e base w v xs) : Row k e base w.drew v xs := h
theorem own_rowO {β : Type} (D n₀ B : Nat) (t e : TypeId) (k : IntKind) (f : β → List Int) : OwnFrom D (fun (s : β) W => ∃ v, Boxed W B t v ∧ Row k e n₀ W v (f s)) := by
  rintro s W W' row ⟨v, h1, h2⟩ hg hr
  obtain ⟨v', h1', h2', rfl⟩ := holdsRow_own n₀ B t e 1 (fun _ : Unit => (f s).length) (fun _ => (f s).map (Value.int k)) (fun _ u => u = v) () W W' row ⟨v, h1, h2, rfl⟩ hg (fun r e => (hr r e).2)
  exact ⟨_, h1', h2'⟩
section
variable {F : Fence} {n : Nat} {P : Program} {ops : Array Oper} {rest : List Oper} {o : Oper} {a : Act} {K : Act → World → Prop} {Q : Exit → Act → World → Prop} {E : Prop} {t e : TypeId} {k : IntKind} {by_ : Nat}
/-- 'make([]T, 0, n)'. -/
theorem wpListIn_make0 (ST : SliceT P t e k by_) (hgd : o.guard = none) (l c : Operand) (ho : o.op = Op.makeSlice t l c)
    {w0 wr : World} {kl kc : IntKind} {m : Nat} (hl : a.eval l = .int kl 0) (hc : a.eval c = .int kc m) (hbel : Below w0.heap.size w0 wr) (hlen : m < 1000000000000)
    (h : ∀ g w', Own k e w0.heap.size w' (.slice (some ⟨g, 0, none⟩) 0 m) [] → Below w0.heap.size w0 w' → wpListIn F n P ops Q rest (a.put o.dst (.slice (some ⟨g, 0, none⟩) 0 m)) w') :
    wpListIn F n P ops Q (o :: rest) a wr := by
  obtain ⟨i, hi, hz0, hz1, hz2⟩ := info_parts ST.info
  have hsm := ST.small
  have hmul : i.bytes * m ≤ 8 * m := Nat.mul_le_mul_right _ (by omega)
  refine wpListIn_make_own _ hgd l c t ho w0.heap.size e i (.int k 0) 1 ST.under hi hz0 hz1 kl kc m m hl hc rfl (by omega) (by unfold maxLen; omega) hbel.size ?_
  intro w' hown hgrow
  exact h _ w' ⟨by simpa using hown, fun x hx => by cases hx⟩ (hbel.grown hgrow hbel.size (fun j hj => by cases hj))
/-- What 'append(out, y)' has left (w1), and what its store into out's box will leave. -/
structure Pushed1 (t e : TypeId) (k : IntKind) (n₀ B : Nat) (W w1 : World) (v v' : Value) (xs : List Int) (y : Int) : Prop where
  box : Boxed w1 B t v
  put : Boxed (w1.setCell ⟨B, 0, none⟩ v') B t v'
  own : Row k e n₀ (w1.setCell ⟨B, 0, none⟩ v') v' (xs ++ [y])
  keeps : KeepsOthers W (w1.setCell ⟨B, 0, none⟩ v')
  below : Below n₀ W (w1.setCell ⟨B, 0, none⟩ v')
  other : ∀ B' t' u, B' ≠ B → t' ≠ e → Boxed W B' t' u → Boxed (w1.setCell ⟨B, 0, none⟩ v') B' t' u
theorem run_push1 (ST : SliceT P t e k by_) (ty : TypeId) {W : World} {e' : TypeId} {y : Int} {v : Value} {xs : List Int} {n₀ B c : Nat} (hv : Boxed W B t v) (hte : t ≠ e) (hown : Row k e n₀ W v xs) (hn₀ : n₀ ≤ W.heap.size) (hB : n₀ ≤ B) (hlen : xs.length < 1000000000000) :
    ∃ g cap w1, (Builtin.append_ #[t, t] ty #[v, .slice (some ⟨W.heap.size, 0, none⟩) 1 c]).run P (W.alloc (.cells #[.int k y] e')) = .ok (.slice (some ⟨g, 0, none⟩) (xs.length + 1) cap) w1 ∧ Pushed1 t e k n₀ B W w1 v (.slice (some ⟨g, 0, none⟩) (xs.length + 1) cap) xs y := by
  obtain ⟨i, hi, hz0, hz1, hz2⟩ := info_parts ST.info
  have hsm := ST.small
  have hmul : (xs.length + 1) * by_ ≤ (xs.length + 1) * 8 := Nat.mul_le_mul_left _ hsm
  obtain ⟨v', w1, hrun, r1, r2, r3⟩ := run_append_own (P := P) (W.alloc (.cells #[.int k y] e')) n₀ t ty e i (.int k 0) 1 by_ ST.under hi hz0 hz1 hz2 rfl (by decide) v xs.length (xs.map (Value.int k)) (World.ownsRow.alloc hown _) ⟨W.heap.size, 0, none⟩ 1 c [.int k y] rfl
    (cell_one_new _ _ _) (by intro u hu; simp at hu; subst hu; rfl) (by unfold maxLen; omega) (by omega) (by simp; omega)
  obtain ⟨g, cap, rfl⟩ := ownsRow_succ r1
  obtain ⟨h1, h2, h3, h4, h5⟩ := hv.appended hte hown hn₀ hB r1 r2
  refine ⟨g, cap, w1, hrun, h1, h2, by unfold Row; simpa using h3, h4, h5, fun B' t' u hne hte' hu => box_appended hu hte' hne hown r2⟩
/-- 'append(out, y)', the next of a list of operations. -/
theorem wpListIn_push1 (ST : SliceT P t e k by_) (hgd : o.guard = none) (s x : Operand) (ho : o.op = .call { callee := .builtin .append, args := #[s, x], argTypes := #[t, t] })
    {W : World} {e' : TypeId} {y : Int} {v : Value} {xs : List Int} {n₀ B : Nat} (hs : a.eval s = v) (hx : ∃ c, a.eval x = .slice (some ⟨W.heap.size, 0, none⟩) 1 c)
    (hv : Boxed W B t v) (hte : t ≠ e) (hown : Row k e n₀ W v xs) (hn₀ : n₀ ≤ W.heap.size) (hB : n₀ ≤ B) (hlen : xs.length < 1000000000000)
    (h : ∀ g cap w1, Pushed1 t e k n₀ B W w1 v (.slice (some ⟨g, 0, none⟩) (xs.length + 1) cap) xs y → wpListIn F n P ops Q rest (a.put o.dst (.slice (some ⟨g, 0, none⟩) (xs.length + 1) cap)) w1) :
    wpListIn F n P ops Q (o :: rest) a (W.alloc (.cells #[.int k y] e')) := by
  obtain ⟨c, hx⟩ := hx
  refine wpListIn_plain hgd fun K hK' => ?_
  obtain ⟨g, cap, w1, hrun, hp⟩ := run_push1 (P := P) ST o.type (e' := e') (y := y) (c := c) hv hte hown hn₀ hB hlen
  unfold Oper.wpIn
  refine ⟨?_, ?_⟩
  · simp [Oper.about, ho, resolve, Target.leads, Sem.run_pure]
  · rw [Oper.semAt_plain F _ _ (by rw [ho]; intro c hc'; cases hc')]
    simp [execOp, ho, resolve, invoke, builtin, hs, hx, hrun, Result.andThen]
    exact hK' _ _ (h _ _ _ hp)
/-- .. an operation of a region that draws its order. -/
theorem opIn_push1 (ST : SliceT P t e k by_) {s x : Operand} (ho : o.op = .call { callee := .builtin .append, args := #[s, x], argTypes := #[t, t] }) (hgd : o.guard = none)
    {W W1 : World} {e' : TypeId} {y : Int} {v : Value} {xs : List Int} {n₀ B : Nat} (hW : W1 = W.alloc (.cells #[.int k y] e')) (hs : a.eval s = v) (hx : ∃ c, a.eval x = .slice (some ⟨W.heap.size, 0, none⟩) 1 c)
    (hv : Boxed W B t v) (hte : t ≠ e) (hown : Row k e n₀ W v xs) (hn₀ : n₀ ≤ W.heap.size) (hB : n₀ ≤ B) (hlen : xs.length < 1000000000000)
    (h : ∀ g cap w1, Pushed1 t e k n₀ B W w1 v (.slice (some ⟨g, 0, none⟩) (xs.length + 1) cap) xs y → K (a.put o.dst (.slice (some ⟨g, 0, none⟩) (xs.length + 1) cap)) w1) :
    if Region.wanted o (yielded ops a.tmps) = true then Oper.wpIn F n P o a W1 K Q else E := by
  subst hW
  obtain ⟨c, hx⟩ := hx
  have hw : Region.wanted o (yielded ops a.tmps) = true := by simp [Region.wanted, hgd]
  rw [if_pos hw]
  obtain ⟨g, cap, w1, hrun, hp⟩ := run_push1 (P := P) ST o.type (e' := e') (y := y) (c := c) hv hte hown hn₀ hB hlen
  unfold Oper.wpIn
  refine ⟨?_, ?_⟩
  · simp [Oper.about, ho, resolve, Target.leads, Sem.run_pure]
  · rw [Oper.semAt_plain F _ _ (by rw [ho]; intro c hc'; cases hc')]
    simp [execOp, ho, resolve, invoke, builtin, hs, hx, hrun, Result.andThen]
    exact h _ _ _ hp
theorem ready_cons {md : Region.Mode} {fuel i : Nat} {listed : Array Bool} {W : World} {rs : List Nat} {tl : List Oper} (ho : ops.toList.drop i = o :: tl)
    (h : ∀ K' : Act → World → Prop, (∀ a w, wpAnyIn F n P md ops Q fuel (listed.setIfInBounds i true) a w → K' a w) → if Region.wanted o (yielded ops a.tmps) = true then Oper.wpIn F n P o a W K' Q else (∀ f, o.about P W a.eval = some f → F.fn f) ∧ K' (a.put o.dst undef) W)
    (hs : AllReadyIn F n P md ops Q fuel listed a W rs) : AllReadyIn F n P md ops Q fuel listed a W (i :: rs) := by
  refine AllReadyIn.cons ?_ h hs
  have h0 : (ops.toList.drop i)[0]? = some o := by rw [ho]; rfl
  rw [List.getElem?_drop, Nat.add_zero] at h0
  simpa using h0
/-! shifts by a count that is no numeral, as operations of a region that draws its order -/
theorem opIn_value (hgd : o.guard = none) (hd : ∀ c, o.op ≠ .defer c) (hc : ∀ c, o.op ≠ .call c) {W W' : World} {v : Value} (hrun : (execOp a.eval o).run P W = .ok (.value v) W') (hK : K (a.put o.dst v) W') :
    if Region.wanted o (yielded ops a.tmps) = true then Oper.wpIn F n P o a W K Q else E := by
  have hw : Region.wanted o (yielded ops a.tmps) = true := by simp [Region.wanted, hgd]
  rw [if_pos hw]
  unfold Oper.wpIn
  refine ⟨?_, ?_⟩
  · intro f hf
    unfold Oper.about at hf
    cases ho : o.op <;> rw [ho] at hf <;> first | cases hf | exact absurd ho (hc _)
  · rw [Oper.semAt_plain F _ _ hd, hrun]
    exact hK
theorem opIn_shr {t1 t2 : TypeId} {x y : Operand} (ho : o.op = .binOp .shr t1 x y t2) (hgd : o.guard = none) {X Y : Int} {m : Nat} {ky : IntKind} (hx : a.eval x = .int .i64 X) (hy : a.eval y = .int ky m) (hm : m ≤ 63) (hY : X / 2 ^ m = Y) {W : World} (hK : K (a.put o.dst (.int .i64 Y)) W) :
    if Region.wanted o (yielded ops a.tmps) = true then Oper.wpIn F n P o a W K Q else E := by
  refine opIn_value hgd (by rw [ho]; intro c h; cases h) (by rw [ho]; intro c h; cases h) (v := .int .i64 Y) ?_ hK
  have h0 : ¬ ((m : Int) < 0) := by omega
  have h1 : min m IntKind.i64.bits = m := Nat.min_eq_left (by show m ≤ 64; omega)
  have h2 : X.fdiv (2 ^ m) = Y := by rw [← hY]; exact Int.fdiv_eq_ediv_of_nonneg _ (by exact Int.pow_nonneg (by decide))
  simp only [execOp, ho, hx, hy, eqGuard, binOp, Op.shift, if_neg h0, Int.toNat_natCast, h1, h2]
  simp [Sem.run_pure]
theorem opIn_shl {t1 t2 : TypeId} {x y : Operand} (ho : o.op = .binOp .shl t1 x y t2) (hgd : o.guard = none) {X Y : Int} {m : Nat} {ky : IntKind} (hx : a.eval x = .int .i64 X) (hy : a.eval y = .int ky m) (hm : m ≤ 63) (hY : IntKind.i64.wrap (X * 2 ^ m) = Y) {W : World} (hK : K (a.put o.dst (.int .i64 Y)) W) :
    if Region.wanted o (yielded ops a.tmps) = true then Oper.wpIn F n P o a W K Q else E := by
  refine opIn_value hgd (by rw [ho]; intro c h; cases h) (by rw [ho]; intro c h; cases h) (v := .int .i64 Y) ?_ hK
  have h0 : ¬ ((m : Int) < 0) := by omega
  have h1 : min m IntKind.i64.bits = m := Nat.min_eq_left (by show m ≤ 64; omega)
  simp only [execOp, ho, hx, hy, eqGuard, binOp, Op.shift, if_neg h0, Int.toNat_natCast, h1, hY]
  simp [Sem.run_pure]
end

/-! ### append(v, ys...) where v lies in a box -/
theorem keeps_below {W W' : World} (h : Below W.heap.size W W') : KeepsOthers W W' := KeepsOthers.of_grownBy (grownBy_below h) (fun j o e => by cases e)
theorem Row.below {k : IntKind} {e : TypeId} {base : Nat} {w w' : World} {v : Value} {xs : List Int} (h : Row k e base w v xs) (hb : Below w.heap.size w w') : Row k e base w' v xs := World.ownsRow.kept h (grownBy_below hb) (by
  cases hv : v.ownBlock with
  | none => exact .inl rfl
  | some j => exact .inr (fun e => by cases e))
theorem Boxed.below {W W' : World} {B : Nat} {t : TypeId} {v : Value} (h : Boxed W B t v) (hb : Below W.heap.size W W') : Boxed W' B t v := h.kept (grownBy_below hb) (by simp)
/-- What 'append(v, ys...)' has left (w1), and what its store into v's box will leave. -/
structure More1 (t e : TypeId) (k : IntKind) (n₀ B : Nat) (W w1 : World) (v v' : Value) (zs : List Int) : Prop where
  box : Boxed w1 B t v
  put : Boxed (w1.setCell ⟨B, 0, none⟩ v') B t v'
  own : Row k e n₀ (w1.setCell ⟨B, 0, none⟩ v') v' zs
  keeps : KeepsOthers W (w1.setCell ⟨B, 0, none⟩ v')
  below : Below n₀ W (w1.setCell ⟨B, 0, none⟩ v')
section
variable {F : Fence} {n : Nat} {P : Program} {ops : Array Oper} {rest : List Oper} {o : Oper} {a : Act} {Q : Exit → Act → World → Prop} {t e : TypeId} {k : IntKind} {by_ : Nat}
theorem run_more1 (ST : SliceT P t e k by_) (ty : TypeId) {W : World} {v : Value} {xs ys : List Int} {n₀ B : Nat} {ad : Option Addr} {m c : Nat} (hv : Boxed W B t v) (hte : t ≠ e) (hown : Row k e n₀ W v xs) (hn₀ : n₀ ≤ W.heap.size) (hB : n₀ ≤ B) (hr : Reads k W ad m c ys) (hlen : xs.length + m < 1000000000000) :
    ∃ v' w1, (Builtin.append_ #[t, t] ty #[v, .slice ad m c]).run P W = .ok v' w1 ∧ More1 t e k n₀ B W w1 v v' (xs ++ ys) := by
  obtain ⟨i, hi, hz0, hz1, hz2⟩ := info_parts ST.info
  have hsm := ST.small
  have hsz := hr.size
  by_cases hm : m = 0
  · subst hm
    obtain rfl : ys = [] := List.eq_nil_of_length_eq_zero hsz
    refine ⟨v, W, ?_, hv, hv.set v, by rw [List.append_nil]; exact hown.set hv hte v, KeepsOthers.setCell _ _ _, (Below.refl n₀ W).setCell (p := ⟨B, 0, none⟩) hB v⟩
    rcases hown.2 with ⟨rfl, _⟩ | ⟨g, cap, cur, rfl, _, _, hnc, _⟩
    · cases ad <;> simp [Builtin.append_, run_underlying ST.under, sizeOf, typeInfo, hi, Builtin.lenOf, Builtin.firstCells, loadCells, loadCellsFrom]
    · cases ad <;> simp [Builtin.append_, run_underlying ST.under, sizeOf, typeInfo, hi, Builtin.lenOf, Builtin.firstCells, hnc, storeCells, loadCells, loadCellsFrom]
  · obtain ⟨b, off, rfl, hb, hc⟩ := hr.cell (by omega)
    have hmul : (xs.length + m) * by_ ≤ (xs.length + m) * 8 := Nat.mul_le_mul_left _ hsm
    obtain ⟨v', w1, hrun, r1, r2, r3⟩ := run_append_own (P := P) W n₀ t ty e i (.int k 0) 1 by_ ST.under hi hz0 hz1 hz2 rfl (by decide) v xs.length (xs.map (Value.int k)) hown ⟨b, off, none⟩ m c (ys.map (Value.int k)) (by simp [hsz])
      (by
        intro j u hj
        have hjl : j < ys.length := by
          have := (List.getElem?_eq_some_iff.1 hj).1
          simpa using this
        rw [Addr.add_lit, hc j (by omega)]
        simp only [List.getElem?_map, List.getElem?_eq_getElem hjl, Option.map_some, Option.some.injEq] at hj
        subst hj
        simp [hjl]) (ints_oneCell _ _) (by unfold maxLen; omega) (by omega) hn₀
    have hv1 : Boxed w1 B t v := hv.kept r2 (hv.not_row hte hown)
    have hlt : ∀ j, v.ownBlock = some j → n₀ ≤ j := fun j ej => (World.ownsRow.lt hown j ej).1
    refine ⟨v', w1, hrun, hv1, hv1.set v', ?_, ?_, ?_⟩
    · unfold Row
      rw [List.length_append, hsz, List.map_append]
      exact r1.kept (grownBy_setCell' w1 B v') (.inr (hv1.not_row hte r1).symm)
    · refine (KeepsOthers.of_grownBy r2 fun j o ej hj => ?_).trans (KeepsOthers.setCell _ _ _)
      rcases hown.2 with ⟨rfl, _⟩ | ⟨g, cap, cur, rfl, _, hgb, _⟩
      · simp [Value.ownBlock] at ej
      · obtain rfl : g = j := by simpa [Value.ownBlock] using ej
        rw [hgb] at hj; cases hj; rfl
    · exact ((Below.refl n₀ W).grown r2 hn₀ hlt).setCell (p := ⟨B, 0, none⟩) hB v'
theorem Row.shape {k : IntKind} {e : TypeId} {base : Nat} {w : World} {v : Value} {xs : List Int} (h : Row k e base w v xs) : ∃ a' c', v = .slice a' xs.length c' := by
  rcases h.2 with ⟨rfl, hn⟩ | ⟨g, cap, cur, rfl, _⟩
  · exact ⟨none, 0, by rw [hn]⟩
  · exact ⟨_, _, rfl⟩
theorem wpListIn_more1 (ST : SliceT P t e k by_) (hgd : o.guard = none) (s x : Operand) (ho : o.op = .call { callee := .builtin .append, args := #[s, x], argTypes := #[t, t] })
    {W : World} {v : Value} {xs ys : List Int} {n₀ B : Nat} {ad : Option Addr} {m c : Nat} (hs : a.eval s = v) (hx : a.eval x = .slice ad m c)
    (hv : Boxed W B t v) (hte : t ≠ e) (hown : Row k e n₀ W v xs) (hn₀ : n₀ ≤ W.heap.size) (hB : n₀ ≤ B) (hr : Reads k W ad m c ys) (hlen : xs.length + m < 1000000000000)
    (h : ∀ a' l' c' w1, More1 t e k n₀ B W w1 v (.slice a' l' c') (xs ++ ys) → wpListIn F n P ops Q rest (a.put o.dst (.slice a' l' c')) w1) :
    wpListIn F n P ops Q (o :: rest) a W := by
  refine wpListIn_plain hgd fun K hK' => ?_
  obtain ⟨v', w1, hrun, hp⟩ := run_more1 (P := P) ST o.type hv hte hown hn₀ hB hr hlen
  unfold Oper.wpIn
  refine ⟨?_, ?_⟩
  · simp [Oper.about, ho, resolve, Target.leads, Sem.run_pure]
  · rw [Oper.semAt_plain F _ _ (by rw [ho]; intro c hc'; cases hc')]
    simp [execOp, ho, resolve, invoke, builtin, hs, hx, hrun, Result.andThen]
    obtain ⟨a', c', rfl⟩ := hp.own.shape
    exact hK' _ _ (h _ _ _ _ hp)
end
end Go.Proofs.YtobjdamlmaaidaaDoor

/-! Itm -/
namespace Go.Proofs.YtobjdamlmaaidaaDoor
open Go.RowKit Go.Shelf
set_option linter.unusedVariables false

/-- What an iterator promises whose receiver (rv) is bound: for every invariant J of the rounds, if each round keeps what lies below n₀, J holds of all of the elements in the end. -/
def Gives {α : Type} (F : Fence) (n : Nat) (P : Program) (g : Nat) (rv : Array Value) (encs : α → Array Value) (n₀ : Nat) (S : List α → Prop) (N : Nat) (w : World) : Prop :=
  ∀ (l : Nat) (J : List α → World → Prop) (W : World), Below w.heap.size w W → AbidesFrom W.heap.size J →
    (∀ pre x W1, J pre W1 → pre.length < N → YieldAt F (n - 1) P l (encs x) W1 fun e W' => e = .returned (.bool true) ∧ J (pre ++ [x]) W' ∧ Below n₀ W1 W') → J [] W →
    CallsIn F n P g (rv ++ #[.func (.yield l) #[] #[]]) W fun e W' => (∃ v, e = .returned v) ∧ ∃ ys, S ys ∧ J ys W'

variable {F : Fence} {n : Nat} {P : Program}

theorem wpIn_rangeRecv {α : Type} {g : Operand} {ps : Array Tmp} {assign body : Code} {Q : Exit → Act → World → Prop} {a : Act} {w w0 : World} {gf n₀ N : Nat} {rv : Array Value} {encs : α → Array Value} {S : List α → Prop}
    (hro : F.round = none) (h1 : 1 ≤ n) (hg : a.eval g = .func (.func gf) rv #[]) (hF : F.fn gf) (eg : ∀ args w, (callFunc gf args).run P w = .ok (.enter gf args) w)
    (hseq : Gives F (n - 1) P gf rv encs n₀ S N w0) (hn : n₀ ≤ w.heap.size) (hb : Below w0.heap.size w0 w) (hps : ∀ x, (encs x).size = ps.size)
    (I : List α → World → Prop) (hI : OwnFrom w.heap.size I) (hI0 : I [] w)
    (X : α → Act → World → Prop) (hX : ∀ x a', OwnFrom w.heap.size (fun (_ : Unit) W => X x a' W))
    (hassign : ∀ (l : Nat) (pre : List α) (x : α) (W : World) (K : Act → World → Prop), I pre W → pre.length < N → (∀ a' W', KeepsFrom w.heap.size W W' → Below n₀ W W' → I pre W' → X x a' W' → K a' W') →
      assign.wpIn (F.inRound l) (n - 1 - 1) P (Exit.then K (fun _ _ _ => False)) { tmps := (ps.zip (encs x)).foldl (fun t (p, v) => t.setIfInBounds p v) a.tmps, defers := [] } W)
    (hbody : ∀ (l : Nat) (pre : List α) (x : α) (a' : Act) (W : World), I pre W → X x a' W → pre.length < N → body.wpIn (F.inRound l) (n - 1 - 1) P (fun e _ W' => e = .normal ∧ KeepsFrom w.heap.size W W' ∧ Below n₀ W W' ∧ I (pre ++ [x]) W') a' W)
    (hdone : ∀ (D : Nat) (ys : List α) (W : World), w.heap.size ≤ D → S ys → I ys W → W.heap[D]? = some (.deferred (some [])) → Q .normal { a with defers := { target := .collected D, args := #[] } :: a.defers } W) :
    (Code.rangeFunc g ps assign body).wpIn F n P Q a w := by
  have hnl : (w.alloc (.deferred (some []))).heap.size = w.heap.size + 1 := by simp
  refine wpIn_rangeFunc fun fn hfn => ?_
  rw [hro]
  -- the loop's record, ready (r), busy (u), done with (d)
  generalize hr : ({ state := .ready, pending := none, fn := fn, tmps := a.tmps, params := ps, assign := assign, body := body, defers := w.heap.size } : Loop) = r
  have r1 : r.fn = fn ∧ r.tmps = a.tmps ∧ r.params = ps ∧ r.assign = assign ∧ r.body = body ∧ r.state = .ready ∧ r.pending = none := by rw [← hr]; exact ⟨rfl, rfl, rfl, rfl, rfl, rfl, rfl⟩
  generalize hV : (w.alloc (.deferred (some []))).alloc (.loop r) = V
  have v1 : V.heap[w.heap.size + 1]? = some (.loop r) := by
    have h := World.alloc_heap_new (w.alloc (.deferred (some []))) (.loop r)
    rw [hnl] at h
    rw [← hV]
    exact h
  have v0 : V.heap[w.heap.size]? = some (.deferred (some [])) := by
    rw [← hV, Below.heap_alloc _ _ _ (by simp)]
    exact World.alloc_heap_new w _
  have vI : I [] V := by rw [← hV]; exact hI.alloc _ (hI.alloc _ hI0)
  have vb : Below w.heap.size w V := by rw [← hV]; exact ((Below.refl _ w).alloc (Nat.le_refl _) _).alloc (by simp) _
  have vs := vb.size
  refine ⟨w.heap.size + 1, [{ target := .collected w.heap.size, args := #[] }], V, { target := .fn (.func gf) #[], args := rv ++ #[.func (.yield (w.heap.size + 1)) #[] #[]] }, V, gf, rv ++ #[.func (.yield (w.heap.size + 1)) #[] #[]], V, ?_, ?_, ?_, ?_, fun _ => h1, ?_⟩
  · rw [run_enterLoop_outer, hr, hV]
  · simp only [resolve, hg]
    simp [go_sem]
  · intro f' hf'
    simp [Target.leads] at hf'
    exact hf' ▸ hF
  · simp [invoke, go_sem, eg]
  -- what the rounds keep beside I: the record and the block for deferred calls
  have key : ∀ {A B : World} {row : Option Nat}, (∀ k, row = some k → V.heap.size ≤ k ∧ ∃ o : Obj, A.heap[k]? = some o ∧ o.isWalk = true) → ∀ k, row = some k → w.heap.size ≤ k ∧ ∃ o : Obj, A.heap[k]? = some o ∧ o.isCells = false := by
    intro A B row hrow k hk
    obtain ⟨h2, o, ho, hw⟩ := hrow k hk
    exact ⟨Nat.le_trans vs h2, o, ho, Obj.not_cells_of_walk hw⟩
  refine (hseq (w.heap.size + 1) (fun pre W => I pre W ∧ W.heap[w.heap.size + 1]? = some (.loop r) ∧ W.heap[w.heap.size]? = some (.deferred (some []))) V (hb.trans (vb.mono hb.size)) ?_ ?_ ⟨vI, v1, v0⟩).mono ?_
  · rintro s A B row ⟨q1, q2, q3⟩ hgr hrow
    have hw := fun k hk => (hrow k hk).2
    exact ⟨hI s A B row q1 hgr (key (B := B) hrow), by rw [grownBy_keeps hgr hw q2 rfl, q2], by rw [grownBy_keeps hgr hw q3 rfl, q3]⟩
  · rintro pre x W ⟨q1, q2, q3⟩ hlen
    have hy := run_yield (P := P) (args := encs x) q2 (by rw [r1.2.2.1]; exact hps x)
    rw [r1.1, r1.2.1, r1.2.2.1, r1.2.2.2.1, r1.2.2.2.2.1] at hy
    refine ⟨fn, _, assign, body, hy, roundIn_of_wpIn hfn (hassign _ pre x W _ q1 hlen ?_)⟩
    intro a' W1 hk1 hb1 hi1 hx1
    have q4 := hk1.same _ _ (by omega) q2 rfl
    have q5 := hk1.same _ _ (Nat.le_refl _) q3 rfl
    have hlt := (Array.getElem?_eq_some_iff.1 q4).1
    refine ⟨_, run_beginRound q4 r1.2.2.2.2.2.1, ?_⟩
    have q6 : (W1.putObj (w.heap.size + 1) (.loop { r with state := .busy })).heap[w.heap.size + 1]? = some (.loop { r with state := .busy }) := World.putObj_heap_same hlt
    have q7 : (W1.putObj (w.heap.size + 1) (.loop { r with state := .busy })).heap[w.heap.size]? = some (.deferred (some [])) := (World.putObj_heap_other (by omega)).trans q5
    have b2 := belowK_b (n₀ := n₀) hn W1 (w.heap.size + 1) _ (.loop { r with state := .busy }) (by omega) q4 rfl rfl
    refine wpIn_mono (hbody _ pre x a' _ (hI.putObj _ hi1 (by omega) q4 rfl) ((hX x a').putObj (s := ()) _ hx1 (by omega) q4 rfl) hlen) ?_
    rintro e a3 W3 ⟨rfl, hk3, hb3, hi3⟩
    have q8 := hk3.same _ _ (by omega) q6 rfl
    have q9 := hk3.same _ _ (Nat.le_refl _) q7 rfl
    refine ⟨_, _, run_endRound none q8, rfl, ⟨hI.putObj _ hi3 (by omega) q8 rfl, ?_, (World.putObj_heap_other (by omega)).trans q9⟩, (hb1.trans b2).trans (hb3.trans (belowK_b hn W3 _ _ _ (by omega) q8 rfl rfl))⟩
    rw [World.putObj_heap_same (Array.getElem?_eq_some_iff.1 q8).1, ← hr]
    rfl
  · rintro e W2 ⟨⟨v, rfl⟩, ys, hS, q1, q2, q3⟩
    have he := run_endLoop (P := P) q2 (by rw [r1.2.2.2.2.2.1]; simp)
    rw [r1.2.2.2.2.2.2] at he
    exact ⟨none, _, he, hdone _ ys _ (Nat.le_refl _) hS (hI.putObj _ q1 (by omega) q2 rfl) ((World.putObj_heap_other (by omega)).trans q3)⟩
end Go.Proofs.YtobjdamlmaaidaaDoor

/-! C23b -/
namespace Go.Proofs.YtobjdamlmaaidaaDoor
open Go.RowKit Go.Shelf
set_option linter.unusedVariables false
attribute [local go_sem] Oper.semAt_some

def Pc.up {w0 : World} {m L : Nat} (p : Pc w0 m) (h : m ≤ L) : Pc w0 L := ⟨p.a, p.m, p.c, p.d, p.s, p.r, p.hr, Nat.le_trans p.hl h, p.h0, p.h1, p.hd⟩
theorem seg7_next {xs : List Int} (h : xs ≠ []) : seg7 xs = u7 xs :: seg7 (xs.drop (nx7 xs)) := by
  cases xs with
  | nil => exact absurd rfl h
  | cons x r => exact seg7_cons x r

set_option maxRecDepth 100000 in
set_option maxHeartbeats 2000000 in
theorem pieces_gives (n n₀ : Nat) (hn : 1 ≤ n) (a : Option Addr) (len cap : Nat) (xs : List Int) (w0 w : World) (hr : Reads .u8 w0 a len cap xs) (hN : len < 10000000000) (hw0 : w0.heap.size ≤ n₀) (hn₀ : n₀ ≤ w.heap.size) (hb0 : Below w0.heap.size w0 w) :
    Gives (α := Pc w0 len) Fence.wide n Tryd.prog 19 #[.slice a len cap] (fun x => #[x.enc]) n₀ (fun ys => ys.map Pc.val = seg7 xs) len w := by
  intro l J W hW hJ hY h0
  show CallsIn _ _ _ _ #[.slice a len cap, .func (.yield l) #[] #[]] W _
  have hbW := hb0.trans (hW.mono (Nat.le_trans hw0 hn₀))
  have hnW := Nat.le_trans hn₀ hW.size
  have HR := hid hr
  clear hr
  refine callsIn_of_wp Tryd.func19 rfl trivial ?_ rfl
  simp only [Tryd.ntmps19, List.size_toArray, List.length_cons, List.length_nil, Nat.reduceAdd, Nat.reduceSub, Array.replicate_succ, Array.replicate_zero, List.push_toArray, List.append_toArray, List.nil_append, List.cons_append]
  gi_wp2_with fail
  gi_loopw [0] (fun v wr => ∃ (m : Nat) (a' : Option Addr) (c' : Nat) (ys : List Int) (pre : List (Pc w0 len)), pre.length + m ≤ len ∧ v = .slice a' m c' ∧ Hid (pre.map Pc.val ++ seg7 ys = seg7 xs) ∧ J pre wr ∧ Hid (Reads .u8 w0 a' m c' ys) ∧ Below n₀ W wr) (fun v _ => lenV v)
  case atStart => exact ⟨len, a, cap, xs, [], by simp, rfl, rfl, h0, HR, Below.refl _ _⟩
  case round =>
    obtain ⟨m, a', c', ys, pre, hpm, rfl, hps, hJs, hR, hnx⟩ := hrel
    have hszy := hR.out.size
    have hroom := hR.out.room
    by_cases hlt : 0 < m
    · obtain ⟨b, off, rfl, _⟩ := hR.out.cell hlt
      have hne : ys ≠ [] := by intro h; subst h; simp at hszy; omega
      have hF := sread_first w0 wr _ m c' ys hR.out (hbW.trans (hnx.mono hw0)) (by omega) hlt
      have hsg := seg7_next hne
      have hp1 : nx7 ys ≤ m := by
        cases ys with
        | nil => exact absurd rfl hne
        | cons x r => have := nx7_le x r; omega
      have hp0 : 0 < nx7 ys := by
        cases ys with
        | nil => exact absurd rfl hne
        | cons x r => exact nx7_pos x r
      obtain ⟨k, hk⟩ : ∃ k, k = nx7 ys := ⟨_, rfl⟩
      rw [← hk] at hF hsg hp1 hp0
      have hpc := hR.out.piece (l := k) (r := m) hp1 (Nat.le_refl _)
      rw [List.take_of_length_le (by omega)] at hpc
      rw [Option.map_some, Addr.add_lit] at hpc
      have hnext : Hid (∀ X : Pc w0 len, X.val = Go.Proofs.YtobjdamlmaaidaaDoor.u7 ys → (pre ++ [X]).map Pc.val ++ seg7 (ys.drop k) = seg7 xs) := fun X hX => by
        rw [← hps.out, hsg, List.map_append, List.append_assoc, ← hX]; rfl
      have hpl : pre.length < len := by omega
      clear hsg hne hps hk
      have q1 : (k : Int) ≤ (m : Int) := by omega
      have q2 : (0 : Int) ≤ (k : Int) := by omega
      have q3 : (k : Int) ≤ (c' : Int) := by omega
      by_cases hc : c' = k
      all_goals
        first | (rw [if_pos hc] at hpc; have r3 : (c' = k) = True := eq_true hc) | (rw [if_neg hc] at hpc; have r3 : (c' = k) = False := eq_false hc)
        have HPC := hid hpc
        clear hpc hc
        gi_wp2_with (refine ⟨trivial, ?_⟩; gi_at_call 27; (with_reducible refine (callsIn_wide.2 hF).mono ?_); rintro e w1 ⟨p, rfl, hpv, hb1⟩; have HV := hid (hnext.out (p.up (by omega)) hpv); clear hpv hnext; simp only [Pc.enc]; (obtain ⟨fn, tmps, assign, body, hy, hR2⟩ := hY pre (p.up (by omega)) _ (abides_below hJ hJs (hb1.alloc hb1.size (.cells #[.slice p.a p.m p.c, .int .i32 p.s, .bool p.r] 47))) hpl); simp only [Pc.enc, Pc.up] at hy)
        refine hR2.mono ?_
        rintro e W3 ⟨rfl, hJ3, hk3⟩
        have hnx3 := ((hnx.trans ((hb1.alloc hb1.size (.cells #[.slice p.a p.m p.c, .int .i32 p.s, .bool p.r] 47)).mono (Nat.le_trans hnW hnx.size)))).trans hk3
        gi_wp2_with fail
        go_roundw
        case rel => exact ⟨m - k, _, _, _, _, by simp; omega, rfl, HV, hJ3, HPC, hnx3⟩
        case measure => simp [lenV]; omega
    · obtain rfl : m = 0 := by omega
      obtain rfl : ys = [] := List.eq_nil_of_length_eq_zero hszy
      have hend : Hid (pre.map Pc.val = seg7 xs) := by
        have := hps.out
        rw [seg7_nil, List.append_nil] at this
        exact this
      gi_wp2_with fail
      go_end0
      exact ⟨⟨_, rfl⟩, _, hend.out, hJs⟩
end Go.Proofs.YtobjdamlmaaidaaDoor
