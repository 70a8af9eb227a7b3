/-
  Texts of ours laid together: D22b.
-/
import Derived.Test.YtiacijodoojgoaaDoorZ12

/-! D22b -/
namespace Go.Proofs.YtiacijodoojgoaaDoor
open Go.RowKit
set_option linter.unusedVariables false

/-- Does a run begin here? -/
def begB (c : Int) : Bool := !dirB c && decide (c ≠ 43)
/-- How many stand ahead of the first that is f (all, if none is). -/
def cntF (f : Int → Bool) (xs : List Int) : Nat := (xs.takeWhile (fun c => !f c)).length
theorem cntF_le (f : Int → Bool) (xs : List Int) : cntF f xs ≤ xs.length := (List.takeWhile_sublist _).length_le
theorem take_tw (p : Int → Bool) : ∀ xs : List Int, xs.take (xs.takeWhile p).length = xs.takeWhile p ∧ xs.drop (xs.takeWhile p).length = xs.dropWhile p
  | [] => ⟨rfl, rfl⟩
  | x :: xs => by
    have ih := take_tw p xs
    cases h : p x
    · rw [List.takeWhile_cons, List.dropWhile_cons, h]; exact ⟨rfl, rfl⟩
    · rw [List.takeWhile_cons, List.dropWhile_cons, h]
      simp only [if_true, List.length_cons, List.take_succ_cons, List.drop_succ_cons, ih, and_self]
theorem dropWhile_head (p : Int → Bool) : ∀ xs : List Int, xs.dropWhile p = [] ∨ ∃ c s, xs.dropWhile p = c :: s ∧ p c = false
  | [] => .inl rfl
  | x :: xs => by
    rw [List.dropWhile_cons]
    cases h : p x
    · exact .inr ⟨x, xs, by simp, h⟩
    · simpa using dropWhile_head p xs
theorem idx_cntF (f : Int → Bool) : ∀ xs : List Int, idxI f xs = if xs.any f = true then (cntF f xs : Int) else -1
  | [] => rfl
  | x :: xs => by
    have ih := idx_cntF f xs
    unfold idxI cntF at *
    rw [List.findIdx?_cons, List.any_cons, List.takeWhile_cons]
    cases h : f x
    · cases ha : xs.any f
      · rw [ha] at ih
        cases hf : xs.findIdx? f with
        | none => simp
        | some i => rw [hf] at ih; simp at ih; first | done | omega
      · rw [ha] at ih
        cases hf : xs.findIdx? f with
        | none => rw [hf] at ih; simp at ih; first | done | omega
        | some i => rw [hf] at ih; simp at ih; simp; omega
    · simp
theorem cntF_all {f : Int → Bool} {xs : List Int} (h : xs.any f = false) : cntF f xs = xs.length := by
  have h1 := cntF_le f xs
  have e := List.takeWhile_append_dropWhile (p := fun c => !f c) (l := xs)
  rcases dropWhile_head (fun c => !f c) xs with h2 | ⟨c, s, h2, hc⟩
  · rw [h2, List.append_nil] at e
    unfold cntF
    rw [e]
  · have hm : c ∈ xs := by rw [← e, h2]; simp
    have := List.any_eq_false.1 h c hm
    simp at hc; exact absurd hc (by simpa using this)
theorem cntF_lt {f : Int → Bool} {xs : List Int} (h : xs.any f = true) : cntF f xs < xs.length := by
  have h1 := cntF_le f xs
  have h2 : cntF f xs ≠ xs.length := by
    intro he
    unfold cntF at he
    have h3 := (take_tw (fun c => !f c) xs).1
    rw [he, List.take_length] at h3
    obtain ⟨x, hx, hf⟩ := List.any_eq_true.1 h
    rw [h3] at hx
    have h4 := List.all_eq_true.1 (List.all_takeWhile (p := fun c => !f c) (l := xs)) x hx
    rw [hf] at h4; cases h4
  omega
/-- What is laid of signs that are in no run. -/
def aloneU (t : List Int) : List Int := t.flatMap fun c => if c = 43 then [43, 45] else [c]
theorem aloneU_cons (c : Int) (t : List Int) : aloneU (c :: t) = (if c = 43 then [43, 45] else [c]) ++ aloneU t := rfl
theorem aloneU_len : ∀ t : List Int, (aloneU t).length ≤ 2 * t.length
  | [] => Nat.le_refl _
  | c :: t => by
    have := aloneU_len t
    rw [aloneU_cons, List.length_append, List.length_cons]
    split <;> simp only [List.length_cons, List.length_nil] <;> omega
theorem beg_no {c : Int} (h : begB c = false) : dirB c = true ∨ (dirB c = false ∧ c = 43) := by
  unfold begB at h
  cases hd : dirB c
  · rw [hd] at h; simp at h; exact .inr ⟨rfl, h⟩
  · exact .inl rfl
theorem beg_yes {c : Int} (h : begB c = true) : dirB c = false ∧ c ≠ 43 := by
  unfold begB at h
  simpa using h
theorem ahead_lay : ∀ (p r : List Int), (∀ c ∈ p, begB c = false) → layU (p ++ r) [] = aloneU p ++ layU r [] ∧ runN (p ++ r) false = runN r false
  | [], r, _ => ⟨rfl, rfl⟩
  | c :: p, r, h => by
    obtain ⟨i1, i2⟩ := ahead_lay p r (fun x hx => h x (List.mem_cons_of_mem _ hx))
    rcases beg_no (h c (List.mem_cons_self ..)) with hd | ⟨hd, rfl⟩
    · have hc : c ≠ 43 := by rintro rfl; cases hd
      refine ⟨?_, ?_⟩
      · rw [List.cons_append, layU_dir hd, aloneU_cons, if_neg hc, i1]; rfl
      · rw [List.cons_append, runN, if_pos hd, i2]
    · refine ⟨?_, ?_⟩
      · rw [List.cons_append, layU_plus, aloneU_cons, if_pos rfl, i1]; rfl
      · rw [List.cons_append, runN, if_neg (by rw [hd]; decide), if_neg (by simp), i2]
theorem runN_on : ∀ (u r : List Int), (∀ c ∈ u, dirB c = false) → runN (u ++ r) true = runN r true
  | [], r, _ => rfl
  | c :: u, r, h => by
    rw [List.cons_append, runN, if_neg (by rw [h c (List.mem_cons_self ..)]; decide), if_neg (by simp), runN_on u r (fun x hx => h x (List.mem_cons_of_mem _ hx))]
theorem runN_stop {r : List Int} (h : stopU r) : runN r true = runN r false := by
  rcases h with rfl | ⟨c, s, rfl, hc⟩
  · rfl
  · rw [runN, runN, if_pos hc, if_pos hc]
/-- One step: what stands ahead of a run, the run, the rest. -/
theorem layU_next (xs : List Int) : ∃ m j, m = cntF begB xs ∧ j = cntF dirB (xs.drop m) ∧ m ≤ xs.length ∧ m + j ≤ xs.length ∧ (xs ≠ [] → 0 < m + j) ∧
    (∀ c ∈ xs.take m, begB c = false) ∧ (j = 0 → (xs.drop m).take j = []) ∧
    layU xs [] = aloneU (xs.take m) ++ (closeU ((xs.drop m).take j) ++ layU ((xs.drop m).drop j) []) ∧
    runN xs false = (if 0 < j then 1 else 0) + runN ((xs.drop m).drop j) false := by
  obtain ⟨m, hm⟩ : ∃ m, m = cntF begB xs := ⟨_, rfl⟩
  obtain ⟨j, hj⟩ : ∃ j, j = cntF dirB (xs.drop m) := ⟨_, rfl⟩
  have t1 := take_tw (fun c => !begB c) xs
  have e0 : (xs.takeWhile (fun c => !begB c)).length = m := hm.symm
  rw [e0] at t1
  have t2 := take_tw (fun c => !dirB c) (xs.drop m)
  have e1 : ((xs.drop m).takeWhile (fun c => !dirB c)).length = j := hj.symm
  rw [e1] at t2
  have hle1 := cntF_le begB xs
  have hle2 := cntF_le dirB (xs.drop m)
  rw [← hm] at hle1
  rw [← hj, List.length_drop] at hle2
  have hall : ∀ c ∈ xs.take m, begB c = false := by
    intro c hc
    rw [t1.1] at hc
    have := List.all_eq_true.1 (List.all_takeWhile (p := fun c => !begB c) (l := xs)) c hc
    simpa using this
  have hal2 : ∀ c ∈ (xs.drop m).take j, dirB c = false := by
    intro c hc
    rw [t2.1] at hc
    have := List.all_eq_true.1 (List.all_takeWhile (p := fun c => !dirB c) (l := xs.drop m)) c hc
    simpa using this
  obtain ⟨a1, a2⟩ := ahead_lay (xs.take m) (xs.drop m) hall
  rw [List.take_append_drop] at a1 a2
  have hst : stopU ((xs.drop m).drop j) := by
    rw [t2.2]
    rcases dropWhile_head (fun c => !dirB c) (xs.drop m) with h | ⟨c, s, h, hc⟩
    · exact .inl h
    · exact .inr ⟨c, s, h, by simpa using hc⟩
  refine ⟨m, j, hm, hj, hle1, by omega, ?_, hall, (fun h => by rw [h]; rfl), ?_, ?_⟩
  · intro hne
    by_cases h0 : m = 0
    · subst h0
      rcases dropWhile_head (fun c => !begB c) xs with h | ⟨c, s, h, hc⟩
      · rw [← t1.2, List.drop_zero] at h; exact absurd h hne
      · rw [← t1.2, List.drop_zero] at h
        have hb := beg_yes (by simpa using hc)
        rw [hj, h]
        unfold cntF
        rw [List.drop_zero, List.takeWhile_cons, hb.1]
        simp
    · omega
  · rw [a1]
    congr 1
    rcases dropWhile_head (fun c => !begB c) xs with h | ⟨c, s, h, hc⟩
    · rw [← t1.2] at h
      rw [h]; simp [layU, closeU]
    · rw [← t1.2] at h
      have hb := beg_yes (by simpa using hc)
      have hd : xs.drop m = (xs.drop m).take j ++ (xs.drop m).drop j := (List.take_append_drop j _).symm
      have hj1 : 0 < j := by
        rw [hj, h]
        unfold cntF
        rw [List.takeWhile_cons, hb.1]
        simp
      obtain ⟨j', rfl⟩ : ∃ j', j = j' + 1 := ⟨j - 1, by omega⟩
      have e : (xs.drop m).take (j' + 1) = c :: s.take j' := by rw [h]; rfl
      have hu : ∀ y ∈ s.take j', dirB y = false := fun y hy => hal2 y (by rw [e]; exact List.mem_cons_of_mem _ hy)
      conv => lhs; rw [hd, e]
      rw [List.cons_append, layU_one hb.1 hb.2 hu hst, e]
      unfold closeU
      rw [if_neg (by simp)]
      simp
  · rw [a2]
    rcases dropWhile_head (fun c => !begB c) xs with h | ⟨c, s, h, hc⟩
    · rw [← t1.2] at h
      have : j = 0 := by rw [hj, h]; rfl
      subst this
      rw [h]; rfl
    · rw [← t1.2] at h
      have hb := beg_yes (by simpa using hc)
      have hd : xs.drop m = (xs.drop m).take j ++ (xs.drop m).drop j := (List.take_append_drop j _).symm
      have hj1 : 0 < j := by
        rw [hj, h]
        unfold cntF
        rw [List.takeWhile_cons, hb.1]
        simp
      rw [if_pos hj1]
      obtain ⟨j', rfl⟩ : ∃ j', j = j' + 1 := ⟨j - 1, by omega⟩
      have e : (xs.drop m).take (j' + 1) = c :: s.take j' := by rw [h]; rfl
      have hu : ∀ y ∈ s.take j', dirB y = false := fun y hy => hal2 y (by rw [e]; exact List.mem_cons_of_mem _ hy)
      conv => lhs; rw [hd, e]
      rw [List.cons_append, runN, if_neg (by rw [hb.1]; decide), if_pos ⟨rfl, hb.2⟩, runN_on _ _ hu, runN_stop hst]
theorem v64_le : ∀ xs : List Int, (v64 xs).length ≤ 2 * xs.length
  | [] => Nat.le_refl _
  | [_] => by simp [v64]
  | [_, _] => by simp [v64]
  | a :: b :: c :: t => by
    have := v64_le t
    simp only [v64, List.length_cons]
    omega
theorem codU_le (t : List Int) : (codU t).length ≤ 8 * t.length := by
  unfold codU
  split
  · have h1 := v64_le (ocU (unL t))
    have h2 := ocU_len (unL t)
    have h3 := unL_len t
    unfold bareB
    rw [List.length_map]
    omega
  · simp
end Go.Proofs.YtiacijodoojgoaaDoor
