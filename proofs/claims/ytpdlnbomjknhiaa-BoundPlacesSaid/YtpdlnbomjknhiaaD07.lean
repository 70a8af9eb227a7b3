/-
  Layer 7, in plain words: where signs begin; pieces.
-/
import Derived.Test.YtpdlnbomjknhiaaD05
namespace Go.Proofs.Ytpdlnbomjknhiaa
open Go.RowKit
set_option linter.unusedVariables false

/-! ### the signs' octets -/
def segF : Nat → List Int → List (List Int)
  | 0, _ => []
  | n + 1, xs => if xs = [] then [] else xs.take (takN xs) :: segF n (xs.drop (takN xs))
/-- The octets, sign by sign. -/
def segs (xs : List Int) : List (List Int) := segF xs.length xs
theorem segF_eq : ∀ (n m : Nat) (xs : List Int), xs.length ≤ n → xs.length ≤ m → segF n xs = segF m xs
  | 0, 0, _, _, _ => rfl
  | 0, m + 1, xs, h, _ => by
    obtain rfl : xs = [] := List.eq_nil_of_length_eq_zero (by omega)
    rfl
  | n + 1, 0, xs, _, h => by
    obtain rfl : xs = [] := List.eq_nil_of_length_eq_zero (by omega)
    rfl
  | n + 1, m + 1, xs, h, h' => by
    unfold segF
    split
    · rfl
    · rename_i h0
      have := takN_pos h0
      rw [segF_eq n m (xs.drop (takN xs)) (by simp; omega) (by simp; omega)]
theorem segs_nil : segs [] = [] := rfl
theorem segs_cons {xs : List Int} (h : xs ≠ []) : segs xs = xs.take (takN xs) :: segs (xs.drop (takN xs)) := by
  have hp := takN_pos h
  obtain ⟨n, hn⟩ : ∃ n, xs.length = n + 1 := ⟨xs.length - 1, by have : 0 < xs.length := List.length_pos_iff.2 h
                                                                omega⟩
  show segF xs.length xs = _
  rw [hn]
  show (if xs = [] then [] else xs.take (takN xs) :: segF n (xs.drop (takN xs))) = _
  rw [if_neg h]
  congr 1
  exact segF_eq _ _ _ (by simp; omega) (Nat.le_refl _)
theorem segs_flat : ∀ xs : List Int, (segs xs).flatten = xs := by
  refine sigs_ind rfl fun xs h ih => ?_
  rw [segs_cons h, List.flatten_cons, ih, List.take_append_drop]
theorem segs_ne : ∀ xs : List Int, ∀ s ∈ segs xs, 0 < s.length := by
  refine sigs_ind (fun s h => by cases h) fun xs h ih s hs => ?_
  rw [segs_cons h] at hs
  rcases List.mem_cons.1 hs with rfl | hs
  · have h1 := takN_pos h
    have h2 := takN_le xs
    simp; omega
  · exact ih s hs

/-! ### what is cut off behind a sign does not turn it -/
theorem run_take (a : Int) : ∀ (r : List Int) (i m : Nat), runU a i r ≤ m → runU a i (r.take m) = runU a i r
  | [], _, _, _ => by simp
  | y :: r, i, 0, h => by
    have : runU a i (y :: r) = 0 := by omega
    rw [this]; rfl
  | y :: r, i, m + 1, h => by
    rw [List.take_succ_cons, runU, runU]
    rw [runU] at h
    split
    · rename_i hh
      rw [if_pos hh] at h
      rw [run_take a r (i + 1) m (by omega)]
    · rfl
theorem far_take (xs : List Int) (m : Nat) (h1 : 1 ≤ m) (h : farN xs ≤ m) : farN (xs.take m) = farN xs := by
  cases xs with
  | nil => simp
  | cons a r =>
    obtain ⟨m, rfl⟩ : ∃ k, m = k + 1 := ⟨m - 1, by omega⟩
    rw [List.take_succ_cons, farN, farN]
    rw [farN] at h
    split
    · rfl
    · rename_i hh
      rw [if_neg hh] at h
      rw [run_take a r 1 m (by omega)]
theorem takN_take {xs : List Int} {m : Nat} (h0 : xs ≠ []) (h : takN xs ≤ m) : takN (xs.take m) = takN xs ∧ (takE (xs.take m) = 0 ↔ takE xs = 0) := by
  have h1 : 1 ≤ m := by have := takN_pos h0; omega
  have hf : farN (xs.take m) = farN xs := far_take xs m h1 (by unfold takN at h; rw [if_neg h0] at h; omega)
  have hn : xs.take m ≠ [] := by
    cases xs with
    | nil => exact absurd rfl h0
    | cons a r => obtain ⟨m, rfl⟩ : ∃ k, m = k + 1 := ⟨m - 1, by omega⟩
                  simp
  have hw : whole (xs.take m) = whole xs := by
    unfold whole
    rw [hf]
    cases xs with
    | nil => exact absurd rfl h0
    | cons a r => obtain ⟨m, rfl⟩ : ∃ k, m = k + 1 := ⟨m - 1, by omega⟩
                  simp
  constructor
  · unfold takN; rw [if_neg hn, if_neg h0, hf]
  · unfold takE
    rw [hw]
    constructor
    · intro hh; split at hh
      · rename_i hq; rw [if_pos hq]
      · split at hh <;> omega
    · intro hh; split at hh
      · rename_i hq; rw [if_pos hq]
      · split at hh <;> omega
/-- Signs side by side are their own octets' signs. -/
theorem segs_pre : ∀ (xs : List Int) (B C : List (List Int)), segs xs = B ++ C → segs B.flatten = B := by
  refine sigs_ind (fun B C h => ?_) fun xs h0 ih B C h => ?_
  · have : B = [] := by
      rw [segs_nil] at h
      cases B with
      | nil => rfl
      | cons => cases h
    subst this; rfl
  · cases B with
    | nil => rfl
    | cons b B =>
      rw [segs_cons h0, List.cons_append] at h
      injection h with h1 h2
      have hp := takN_pos h0
      have hle := takN_le xs
      have hb : b.length = takN xs := by rw [← h1]; simp; omega
      have hx : xs = (b :: B).flatten ++ C.flatten := by
        have hd := segs_flat (xs.drop (takN xs))
        rw [h2] at hd
        have := List.take_append_drop (takN xs) xs
        rw [← hd, h1] at this
        rw [← this]
        simp
      have hm : xs.take ((b :: B).flatten.length) = (b :: B).flatten := by
        have := List.take_left (l₁ := (b :: B).flatten) (l₂ := C.flatten)
        rwa [← hx] at this
      have hlen : takN xs ≤ (b :: B).flatten.length := by rw [List.flatten_cons, List.length_append]; omega
      have hT := takN_take h0 hlen
      rw [hm] at hT
      have hne : (b :: B).flatten ≠ [] := by
        intro hh; rw [hh] at hlen; simp at hlen; omega
      rw [segs_cons hne, hT.1]
      have e1 : (b :: B).flatten.take (takN xs) = b := by rw [← hb]; simp
      have e2 : (b :: B).flatten.drop (takN xs) = B.flatten := by rw [← hb]; simp
      rw [e1, e2, ih B C h2]
theorem segs_suf : ∀ (xs : List Int) (A R : List (List Int)), segs xs = A ++ R → segs R.flatten = R := by
  refine sigs_ind (fun A R h => ?_) fun xs h0 ih A R h => ?_
  · have : R = [] := by
      rw [segs_nil] at h
      exact (List.append_eq_nil_iff.1 h.symm).2
    subst this; rfl
  · cases A with
    | nil =>
      rw [List.nil_append] at h
      rw [← h, segs_flat]
    | cons a A =>
      rw [segs_cons h0, List.cons_append] at h
      injection h with h1 h2
      exact ih A R h2
theorem segs_mid {xs : List Int} {A B C : List (List Int)} (h : segs xs = A ++ (B ++ C)) : segs B.flatten = B :=
  segs_pre _ B C (segs_suf xs A (B ++ C) h)
/-- Is a sign whole? -/
theorem brk_segs : ∀ xs : List Int, (brkP (sigs xs) = 0 ↔ ∀ s ∈ segs xs, takE s = 0) := by
  refine sigs_ind (p := fun xs => brkP (sigs xs) = 0 ↔ ∀ s ∈ segs xs, takE s = 0) ⟨fun _ s h => (by cases h), fun _ => rfl⟩ fun xs h0 ih => ?_
  have hT := (takN_take h0 (Nat.le_refl (takN xs))).2
  have hb : brkP (sigs xs) = (if takE xs = 0 then 0 else 1) + brkP (sigs (xs.drop (takN xs))) := by
    rw [sigs_cons h0]
    unfold brkP
    rw [List.countP_cons]
    show _ + (if decide (takE xs ≠ 0) = true then 1 else 0) = _
    by_cases hh : takE xs = 0 <;> simp [hh]; omega
  rw [segs_cons h0, hb]
  constructor
  · intro h s hs
    have h1 : takE xs = 0 := by
      by_cases hh : takE xs = 0
      · exact hh
      · rw [if_neg hh] at h; omega
    rcases List.mem_cons.1 hs with rfl | hs
    · exact hT.2 h1
    · exact (ih.1 (by rw [if_pos h1] at h; omega)) s hs
  · intro h
    rw [if_pos (hT.1 (h _ (List.mem_cons_self))), ih.2 (fun s hs => h s (List.mem_cons_of_mem _ hs))]

/-! ### the places -/
def endsF (k : Nat) : List (List Int) → List Int
  | [] => []
  | s :: r => ((k + s.length : Nat) : Int) :: endsF (k + s.length) r
/-- Where signs begin, and the end. -/
def plc (xs : List Int) : List Int := 0 :: endsF 0 (segs xs)
theorem ends_app (a b : List (List Int)) : ∀ k, endsF k (a ++ b) = endsF k a ++ endsF (k + a.flatten.length) b := by
  induction a with
  | nil => intro k; simp [endsF]
  | cons s a ih =>
    intro k
    rw [List.cons_append, endsF, endsF, ih, List.cons_append, List.flatten_cons, List.length_append, Nat.add_assoc]
theorem ends_snoc (a : List (List Int)) (s : List Int) (k : Nat) : endsF k (a ++ [s]) = endsF k a ++ [((k + a.flatten.length + s.length : Nat) : Int)] := by
  rw [ends_app]; rfl
theorem ends_len : ∀ (a : List (List Int)) (k : Nat), (endsF k a).length = a.length
  | [], _ => rfl
  | s :: a, k => by rw [endsF, List.length_cons, List.length_cons, ends_len a]
theorem ends_get : ∀ (a : List (List Int)) (k i : Nat), i ≤ a.length → ((k : Int) :: endsF k a)[i]? = some ((k + (a.take i).flatten.length : Nat) : Int)
  | a, k, 0, _ => by simp
  | [], k, i + 1, h => by simp at h
  | s :: a, k, i + 1, h => by
    rw [endsF, List.getElem?_cons_succ, ends_get a (k + s.length) i (by simpa using h), List.take_succ_cons, List.flatten_cons, List.length_append, Nat.add_assoc]
theorem plc_len (xs : List Int) : (plc xs).length = (segs xs).length + 1 := by unfold plc; rw [List.length_cons, ends_len]
theorem plc_get (xs : List Int) {i : Nat} (h : i ≤ (segs xs).length) : (plc xs)[i]? = some (((segs xs).take i).flatten.length : Int) := by
  have := ends_get (segs xs) 0 i h
  simpa [plc] using this
theorem flat_le (a : List (List Int)) (i : Nat) : (a.take i).flatten.length ≤ a.flatten.length := by
  conv => rhs; rw [← List.take_append_drop i a]
  rw [List.flatten_append, List.length_append]; omega
theorem plc_bd (xs : List Int) : ∀ x ∈ plc xs, 0 ≤ x ∧ x ≤ (xs.length : Int) := by
  intro x hx
  obtain ⟨i, hi⟩ := List.getElem?_of_mem hx
  have hl : i < (plc xs).length := (List.getElem?_eq_some_iff.1 hi).1
  rw [plc_len] at hl
  rw [plc_get xs (by omega)] at hi
  cases hi
  have := flat_le (segs xs) i
  rw [segs_flat] at this
  omega
theorem flat_lt (a : List (List Int)) (hne : ∀ s ∈ a, 0 < s.length) (i j : Nat) (hij : i < j) (hj : j ≤ a.length) : (a.take i).flatten.length < (a.take j).flatten.length := by
  have hs : a.take j = a.take i ++ (a.take j).drop i := by
    conv => lhs; rw [← List.take_append_drop i (a.take j)]
    rw [List.take_take, Nat.min_eq_left (by omega)]
  rw [hs, List.flatten_append, List.length_append]
  have hl : 0 < ((a.take j).drop i).length := by simp; omega
  obtain ⟨s, r, hr⟩ := List.exists_cons_of_length_pos hl
  rw [hr, List.flatten_cons, List.length_append]
  have := hne s (List.mem_of_mem_take (List.mem_of_mem_drop (by rw [hr]; exact List.mem_cons_self)))
  omega
/-- Places rise. -/
theorem plc_up (xs : List Int) {i j : Nat} {x y : Int} (hij : i < j) (hx : (plc xs)[i]? = some x) (hy : (plc xs)[j]? = some y) : x < y := by
  have hl : j < (plc xs).length := (List.getElem?_eq_some_iff.1 hy).1
  rw [plc_len] at hl
  rw [plc_get xs (by omega)] at hx hy
  cases hx; cases hy
  have := flat_lt (segs xs) (segs_ne xs) i j hij (by omega)
  omega
theorem plc_last (xs : List Int) : (plc xs)[(segs xs).length]? = some (xs.length : Int) := by
  rw [plc_get xs (Nat.le_refl _), List.take_length, segs_flat]
theorem plc_wf {xs : List Int} (h : xs.length ≤ maxLen) : ∀ x ∈ plc xs, (Lit.int .i64 x).wf = true := by
  intro x hx
  have := plc_bd xs x hx
  unfold maxLen at h
  exact WalkArith.wf_i64 (by omega)
theorem segs_le (xs : List Int) : (segs xs).length ≤ xs.length := by
  have : ∀ a : List (List Int), (∀ s ∈ a, 0 < s.length) → a.length ≤ a.flatten.length := by
    intro a
    induction a with
    | nil => intro _; simp
    | cons s a ih =>
      intro h
      have h1 := h s (List.mem_cons_self)
      have h2 := ih (fun t ht => h t (List.mem_cons_of_mem _ ht))
      simp at h2 ⊢; omega
  have := this (segs xs) (segs_ne xs)
  rwa [segs_flat] at this

/-! ### the places beside a number -/
def nxtP (zs : List Int) (n len : Int) : Int := (zs.find? (fun x => decide (n < x))).getD len
def lastF (f : Int → Bool) (zs : List Int) : Option Int := zs.reverse.find? f
def bckP (zs : List Int) (n : Int) : Int := (lastF (fun x => decide (x < n)) zs).getD 0
def endP (zs : List Int) (most : Int) : Int := (lastF (fun x => decide (x ≤ most)) zs).getD 0
def nthP (zs : List Int) (n : Int) : Int := zs.getD (min (max n 0) ((zs.length : Int) - 1)).toNat 0
def cutL (xs : List Int) (most : Int) : List Int := xs.take (endP (plc xs) most).toNat
theorem find_stop {f : Int → Bool} {zs : List Int} {k : Nat} {x : Int} (hx : zs[k]? = some x) (hn : (zs.take k).find? f = none) (hf : f x = true) : zs.find? f = some x := by
  have hk : k < zs.length := (List.getElem?_eq_some_iff.1 hx).1
  have e : zs[k] = x := (List.getElem?_eq_some_iff.1 hx).2
  rw [← List.take_append_drop k zs, List.find?_append, hn, List.drop_eq_getElem_cons hk, e]
  simp [hf]
theorem find_on {f : Int → Bool} {zs : List Int} {k : Nat} {x : Int} (h : zs.take (k + 1) = zs.take k ++ [x]) (hn : (zs.take k).find? f = none) (hf : f x = false) : (zs.take (k + 1)).find? f = none := by
  rw [h, List.find?_append, hn]; simp [hf]
theorem last_yes {f : Int → Bool} {zs : List Int} {k : Nat} {x : Int} (h : zs.take (k + 1) = zs.take k ++ [x]) (hf : f x = true) : lastF f (zs.take (k + 1)) = some x := by
  unfold lastF; rw [h]; simp [hf]
theorem last_no {f : Int → Bool} {zs : List Int} {k : Nat} {x : Int} (h : zs.take (k + 1) = zs.take k ++ [x]) (hf : f x = false) : lastF f (zs.take (k + 1)) = lastF f (zs.take k) := by
  unfold lastF; rw [h]; simp [hf]
theorem endP_bd (xs : List Int) (most : Int) : 0 ≤ endP (plc xs) most ∧ endP (plc xs) most ≤ (xs.length : Int) := by
  unfold endP lastF
  cases h : (plc xs).reverse.find? (fun x => decide (x ≤ most)) with
  | none => simp
  | some y => exact plc_bd xs y (by have := List.mem_of_find?_eq_some h; simpa using this)

/-! ### pieces -/
/-- A sign more: it joins the last piece, or is the next one. -/
def stepS (most : Int) (out : List (List Int)) (x : List Int) : List (List Int) :=
  match out.getLast? with
  | none => out ++ [x]
  | some l => if ((l.length : Int) + x.length) ≤ most then out.dropLast ++ [l ++ x] else out ++ [x]
def spl (most : Int) (xs : List Int) : List (List Int) := (segs xs).foldl (stepS most) []
/-- As the program goes about it: pieces; where the next one begins; how far the signs go. -/
def stepP (most : Int) (xs : List Int) (q : List (List Int) × Int × Int) (p : Int) : List (List Int) × Int × Int :=
  if q.2.1 < q.2.2 ∧ most < p - q.2.1 then (q.1 ++ [(xs.take q.2.2.toNat).drop q.2.1.toNat], q.2.2, p) else (q.1, q.2.1, p)
def runP (most : Int) (xs : List Int) (ps : List Int) : List (List Int) × Int × Int := ps.foldl (stepP most xs) ([], 0, 0)
def finP (xs : List Int) (q : List (List Int) × Int × Int) : List (List Int) :=
  if q.2.1 < q.2.2 then q.1 ++ [(xs.take q.2.2.toNat).drop q.2.1.toNat] else q.1
theorem runP_snoc (most : Int) (xs ps : List Int) (p : Int) : runP most xs (ps ++ [p]) = stepP most xs (runP most xs ps) p := by unfold runP; rw [List.foldl_append]; rfl

/-- Blocks of signs: each piece is one. -/
def Blocks (most : Int) (ss : List (List Int)) (out : List (List Int)) : Prop :=
  ∃ Bs : List (List (List Int)), Bs.flatten = ss ∧ out = Bs.map List.flatten ∧ ∀ B ∈ Bs, B ≠ [] ∧ (B.length = 1 ∨ (B.flatten.length : Int) ≤ most)
theorem blocks_step {most : Int} {ss out : List (List Int)} (h : Blocks most ss out) (x : List Int) : Blocks most (ss ++ [x]) (stepS most out x) := by
  obtain ⟨Bs, h1, rfl, h3⟩ := h
  have new : Blocks most (ss ++ [x]) (Bs.map List.flatten ++ [x]) := by
    refine ⟨Bs ++ [[x]], by rw [List.flatten_append, h1]; simp, by simp, ?_⟩
    intro B hB
    rcases List.mem_append.1 hB with hB | hB
    · exact h3 B hB
    · simp at hB; subst hB; simp
  unfold stepS
  split
  · exact new
  · rename_i l hl
    split
    · rename_i hle
      obtain ⟨i, hi⟩ : ∃ i, Bs.length = i + 1 := by
        cases Bs with
        | nil => simp at hl
        | cons => exact ⟨_, rfl⟩
      have hne : Bs ≠ [] := by intro hh; subst hh; simp at hi
      have hsp := List.dropLast_concat_getLast hne
      generalize hB : Bs.getLast hne = B at hsp
      have hl' : B.flatten = l := by
        have : (Bs.map List.flatten).getLast? = some (B.flatten) := by
          rw [← hsp]; simp
        rw [this] at hl; injection hl
      have hBm : B ∈ Bs := by rw [← hB]; exact List.getLast_mem hne
      refine ⟨Bs.dropLast ++ [B ++ [x]], ?_, ?_, ?_⟩
      · rw [List.flatten_append, ← h1]
        conv => rhs; rw [← hsp]
        simp
      · rw [List.map_append, ← hl', List.map_dropLast]; simp
      · intro B' hB'
        rcases List.mem_append.1 hB' with hB' | hB'
        · exact h3 B' ((List.dropLast_sublist _).subset hB')
        · simp only [List.mem_singleton] at hB'
          subst hB'
          refine ⟨by simp, .inr ?_⟩
          rw [List.flatten_append, hl']; simp; exact hle
    · exact new
theorem blocks_fold (most : Int) : ∀ (ss done out : List (List Int)), Blocks most done out → Blocks most (done ++ ss) (ss.foldl (stepS most) out)
  | [], done, out, h => by simpa using h
  | s :: ss, done, out, h => by
    have := blocks_fold most ss (done ++ [s]) _ (blocks_step h s)
    simpa using this
theorem spl_blocks (most : Int) (xs : List Int) : Blocks most (segs xs) (spl most xs) := by
  have := blocks_fold most (segs xs) [] [] ⟨[], rfl, rfl, fun B h => by cases h⟩
  simpa [spl] using this
theorem flat_flat (Bs : List (List (List Int))) : (Bs.map List.flatten).flatten = Bs.flatten.flatten := by
  induction Bs with
  | nil => rfl
  | cons B Bs ih => simp [ih]
/-- Pieces are the octets. -/
theorem spl_flat (most : Int) (xs : List Int) : (spl most xs).flatten = xs := by
  obtain ⟨Bs, h1, h2, _⟩ := spl_blocks most xs
  rw [h2, flat_flat, h1, segs_flat]
/-- A piece: none is empty; it is of one sign, or not too long; of octets that are right it is right. -/
theorem spl_piece (most : Int) (xs p : List Int) (hp : p ∈ spl most xs) : 0 < p.length ∧ (most < (p.length : Int) → (plc p).length = 2) ∧ (brkP (sigs xs) = 0 → brkP (sigs p) = 0) := by
  obtain ⟨Bs, h1, h2, h3⟩ := spl_blocks most xs
  rw [h2] at hp
  obtain ⟨B, hB, rfl⟩ := List.mem_map.1 hp
  obtain ⟨A, C, hAC⟩ := List.append_of_mem hB
  have hs : segs xs = A.flatten ++ (B ++ C.flatten) := by rw [← h1, hAC]; simp
  have hm := segs_mid hs
  obtain ⟨hne, hlen⟩ := h3 B hB
  obtain ⟨b, B', rfl⟩ := List.exists_cons_of_ne_nil hne
  have hsub : ∀ s ∈ b :: B', s ∈ segs xs := fun s hs' => by rw [hs]; exact List.mem_append_right _ (List.mem_append_left _ hs')
  refine ⟨?_, fun hlt => ?_, fun hb => ?_⟩
  · have := segs_ne xs b (hsub b (List.mem_cons_self))
    rw [List.flatten_cons, List.length_append]; omega
  · rw [plc_len, hm]
    rcases hlen with hlen | hlen
    · rw [hlen]
    · omega
  · rw [brk_segs, hm]
    intro s hs'
    exact (brk_segs xs).1 hb s (hsub s hs')

/-! ### the program's way and the document's -/
theorem step_fin (most : Int) (xs : List Int) (out : List (List Int)) (q : List (List Int) × Int × Int) (s : List Int) (k : Nat)
    (hq : (q = ([], 0, 0) ∧ out = [] ∧ k = 0) ∨ (∃ l, q.2.1 < q.2.2 ∧ q.2.2 = (k : Int) ∧ 0 ≤ q.2.1 ∧ out = q.1 ++ [l] ∧ l = (xs.take k).drop q.2.1.toNat))
    (hs : (xs.drop k).take s.length = s) (hk : k + s.length ≤ xs.length) (h0 : 0 < s.length) :
    let q' := stepP most xs q ((k + s.length : Nat) : Int)
    ∃ l, q'.2.1 < q'.2.2 ∧ q'.2.2 = ((k + s.length : Nat) : Int) ∧ 0 ≤ q'.2.1 ∧ stepS most out s = q'.1 ++ [l] ∧ l = (xs.take (k + s.length)).drop q'.2.1.toNat := by
  have htk : xs.take (k + s.length) = xs.take k ++ s := by rw [List.take_add, hs]
  rcases hq with ⟨rfl, rfl, rfl⟩ | ⟨l, h1, h2, h3, rfl, h5⟩
  · refine ⟨s, ?_⟩
    simp [stepP, stepS] at hs ⊢
    exact ⟨h0, hs.symm⟩
  · obtain ⟨ps, f, t⟩ := q
    simp only at h1 h2 h3 h5
    subst h2
    obtain ⟨f, rfl⟩ := Int.eq_ofNat_of_zero_le h3
    have hll : l.length = k - f := by rw [h5]; simp; omega
    by_cases hc : most < ((k + s.length : Nat) : Int) - f
    · have e : stepP most xs (ps, (f : Int), (k : Int)) ((k + s.length : Nat) : Int) = (ps ++ [(xs.take k).drop f], (k : Int), ((k + s.length : Nat) : Int)) := by
        unfold stepP; rw [if_pos ⟨h1, hc⟩]; rfl
      simp only [e]
      refine ⟨s, by omega, by trivial, by omega, ?_, ?_⟩
      · simp only [Int.toNat_natCast] at h5
        unfold stepS
        rw [List.getLast?_concat]
        simp only
        have hn : ¬ ((l.length : Int) + s.length ≤ most) := by omega
        rw [if_neg hn, h5]
      · rw [htk]
        exact (List.drop_left' (by simp; omega)).symm
    · have e : stepP most xs (ps, (f : Int), (k : Int)) ((k + s.length : Nat) : Int) = (ps, (f : Int), ((k + s.length : Nat) : Int)) := by
        unfold stepP; rw [if_neg (fun hh => hc hh.2)]
      simp only [e]
      refine ⟨l ++ s, by omega, by trivial, by omega, ?_, ?_⟩
      · unfold stepS
        rw [List.getLast?_concat]
        simp only
        rw [if_pos (by omega)]
        simp
      · rw [htk, h5]
        simp only [Int.toNat_natCast]
        rw [List.drop_append_of_le_length (by simp; omega)]
theorem fold_fin (most : Int) (xs : List Int) : ∀ (ss : List (List Int)) (k : Nat) (out : List (List Int)) (q : List (List Int) × Int × Int),
    ((q = ([], 0, 0) ∧ out = [] ∧ k = 0) ∨ (∃ l, q.2.1 < q.2.2 ∧ q.2.2 = (k : Int) ∧ 0 ≤ q.2.1 ∧ out = q.1 ++ [l] ∧ l = (xs.take k).drop q.2.1.toNat)) →
    ss.flatten = xs.drop k → k ≤ xs.length → (∀ s ∈ ss, 0 < s.length) →
    finP xs ((endsF k ss).foldl (stepP most xs) q) = ss.foldl (stepS most) out
  | [], k, out, q, hq, hf, hk, _ => by
    rcases hq with ⟨rfl, rfl, rfl⟩ | ⟨l, h1, h2, h3, rfl, h5⟩
    · rfl
    · show finP xs q = q.1 ++ [l]
      unfold finP
      rw [if_pos h1, h2, h5]; rfl
  | s :: ss, k, out, q, hq, hf, hk, hne => by
    have h0 := hne s (List.mem_cons_self)
    rw [List.flatten_cons] at hf
    have hlen := congrArg List.length hf
    simp at hlen
    have hs : (xs.drop k).take s.length = s := by rw [← hf]; simp
    have hf2 : ss.flatten = xs.drop (k + s.length) := by
      rw [← List.drop_drop, ← hf]; simp
    rw [endsF, List.foldl_cons, List.foldl_cons]
    exact fold_fin most xs ss (k + s.length) _ _ (.inr (step_fin most xs out q s k hq hs (by omega) h0)) hf2 (by omega) (fun t ht => hne t (List.mem_cons_of_mem _ ht))
theorem run_spl (most : Int) (xs : List Int) : finP xs (runP most xs (plc xs)) = spl most xs := by
  unfold runP plc
  rw [List.foldl_cons]
  have e : stepP most xs ([], 0, 0) 0 = ([], 0, 0) := by unfold stepP; simp
  rw [e]
  exact fold_fin most xs (segs xs) 0 [] _ (.inl ⟨rfl, rfl, rfl⟩) (by rw [segs_flat]; rfl) (Nat.zero_le _) (segs_ne xs)

end Go.Proofs.Ytpdlnbomjknhiaa
