/-
  Texts of ours laid together: D20, D29, D32.
-/
import Derived.Test.YtefhddbbiheadaaGreatZ9

/-! D20 -/
namespace Go.Proofs.YtefhddbbiheadaaGreat
open Go.RowKit
set_option linter.unusedVariables false

def oneQ (c : Int) : List Int := if c = 32 then [95] else if isB 128 c = true then [c] else escI [] 61 c
def layW (xs : List Int) : List Int := xs.flatMap oneQ
def unQ (x : Int) : Int := if x = 95 then 32 else x
def readW (xs : List Int) : List Int := rdE 61 unQ xs 0
def strW (xs : List Int) : Nat := stE 61 xs 0
def okW (c : Int) : Bool := isB 4 c && decide (c ≠ 63)
def chkW (xs : List Int) : Int := if xs.all okW = true then (if strW xs = 0 then 0 else 3) else 3
theorem kindsW : ∀ n : Fin 256, (isB 128 (n.val : Int) = true → isB 4 (n.val : Int) = true ∧ (n.val : Int) ≠ 61 ∧ (n.val : Int) ≠ 95 ∧ (n.val : Int) ≠ 63) := by decide +kernel
theorem kindW {c : Int} (h0 : 0 ≤ c) (h1 : c ≤ 255) (h : isB 128 c = true) : isB 4 c = true ∧ c ≠ 61 ∧ c ≠ 95 ∧ c ≠ 63 :=
  byte_fin (p := fun c => isB 128 c = true → isB 4 c = true ∧ c ≠ 61 ∧ c ≠ 95 ∧ c ≠ 63) kindsW c h0 h1 h
theorem digsW : ∀ k : Fin 16, okW (digI (k.val : Int)) = true := by decide +kernel
theorem digW {k : Int} (h0 : 0 ≤ k) (h1 : k ≤ 15) : okW (digI k) = true := by
  have := digsW ⟨k.toNat, by omega⟩
  rwa [show ((⟨k.toNat, by omega⟩ : Fin 16).val : Int) = k by simp; omega] at this
theorem oneQ_len (c : Int) : 1 ≤ (oneQ c).length ∧ (oneQ c).length ≤ 3 := by
  unfold oneQ; (repeat' split) <;> simp [escI]
theorem oneQ_wf {c : Int} (h0 : 0 ≤ c) (h1 : c ≤ 255) : ∀ x ∈ oneQ c, (Lit.int .u8 x).wf = true := by
  intro x hx
  unfold oneQ at hx
  split at hx
  · simp at hx; subst hx; decide
  · split at hx
    · simp at hx; subst hx; exact mk_u8 h0 h1
    · exact dig3_wf 61 c (by decide) h0 h1 x (by simpa [escI] using hx)
theorem layW_snoc {xs : List Int} {k : Nat} {x : Int} (h : xs.take (k + 1) = xs.take k ++ [x]) : layW (xs.take (k + 1)) = layW (xs.take k) ++ oneQ x := by
  unfold layW; rw [h, List.flatMap_append]; simp
theorem layW_len : ∀ xs : List Int, (layW xs).length ≤ 3 * xs.length := by
  intro xs
  induction xs with
  | nil => exact Nat.le_refl _
  | cons x xs ih =>
    have e : layW (x :: xs) = oneQ x ++ layW xs := by unfold layW; rw [List.flatMap_cons]
    have := oneQ_len x
    rw [e, List.length_append, List.length_cons]
    omega
theorem layW_app (xs ys : List Int) : layW (xs ++ ys) = layW xs ++ layW ys := by unfold layW; rw [List.flatMap_append]
/-- What is laid is read, and right. -/
theorem read_one {c : Int} (h0 : 0 ≤ c) (h1 : c ≤ 255) (r : List Int) : rdE 61 unQ (oneQ c ++ r) 0 = c :: rdE 61 unQ r 0 ∧ stE 61 (oneQ c ++ r) 0 = stE 61 r 0 ∧ (oneQ c).all okW = true := by
  unfold oneQ
  split
  · rename_i h
    subst h
    refine ⟨?_, ?_, by decide +kernel⟩
    · rw [List.singleton_append, rdE_on (escP_ne (by decide) r)]; rfl
    · rw [List.singleton_append, stE_on (escP_ne (by decide) r), if_neg (by decide), Nat.zero_add]
  · split
    · rename_i h32 hk
      have hh := kindW h0 h1 hk
      refine ⟨?_, ?_, ?_⟩
      · rw [List.singleton_append, rdE_on (escP_ne hh.2.1 r)]
        unfold unQ
        rw [if_neg hh.2.2.1]
      · rw [List.singleton_append, stE_on (escP_ne hh.2.1 r), if_neg hh.2.1, Nat.zero_add]
      · simp [okW, hh.1, hh.2.2.2]
    · have he := escP_put (s := 61) trivial h0 h1 r
      have e : escI [] 61 c ++ r = 61 :: (digI (c / 16) :: digI (c % 16) :: r) := rfl
      rw [e] at he ⊢
      refine ⟨?_, ?_, ?_⟩
      · rw [rdE_esc he]; rfl
      · rw [stE_esc he]; rfl
      · have d1 := digW (k := c / 16) (by omega) (by omega)
        have d2 := digW (k := c % 16) (by omega) (by omega)
        show [61, digI (c / 16), digI (c % 16)].all okW = true
        simp only [List.all_cons, List.all_nil, d1, d2, Bool.and_true]
        decide +kernel
theorem laid_W : ∀ xs : List Int, (∀ x ∈ xs, 0 ≤ x ∧ x ≤ 255) → readW (layW xs) = xs ∧ strW (layW xs) = 0 ∧ chkW (layW xs) = 0 := by
  have key : ∀ xs : List Int, (∀ x ∈ xs, 0 ≤ x ∧ x ≤ 255) → readW (layW xs) = xs ∧ strW (layW xs) = 0 ∧ (layW xs).all okW = true := by
    intro xs
    induction xs with
    | nil => intro _; exact ⟨rfl, rfl, rfl⟩
    | cons x xs ih =>
      intro h
      have hx := h x (by simp)
      obtain ⟨i1, i2, i3⟩ := ih (fun y hy => h y (by simp [hy]))
      have e : layW (x :: xs) = oneQ x ++ layW xs := by unfold layW; rw [List.flatMap_cons]
      obtain ⟨r1, r2, r3⟩ := read_one hx.1 hx.2 (layW xs)
      unfold readW at i1 ⊢
      unfold strW at i2 ⊢
      rw [e, r1, r2, i1, i2, List.all_append, r3, i3]
      exact ⟨rfl, rfl, rfl⟩
  intro xs h
  obtain ⟨h1, h2, h3⟩ := key xs h
  refine ⟨h1, h2, ?_⟩
  unfold chkW
  rw [if_pos h3, if_pos h2]
theorem readW_len (xs : List Int) : (readW xs).length ≤ xs.length := rdE_len _ _ _ _
theorem readW_bd {xs : List Int} (h : ∀ x ∈ xs, 0 ≤ x ∧ x ≤ 255) : ∀ y ∈ readW xs, 0 ≤ y ∧ y ≤ 255 :=
  rdE_bd 61 unQ (fun x hx => by unfold unQ; split <;> omega) xs 0 h
end Go.Proofs.YtefhddbbiheadaaGreat

/-! D29 -/
namespace Go.Proofs.YtefhddbbiheadaaGreat
open Go.RowKit
set_option linter.unusedVariables false

/-- What stands between question marks: a part that has begun, and the rest. -/
def cutS : List Int → List Int → List (List Int)
  | [], acc => [acc]
  | x :: r, acc => if x = 63 then acc :: cutS r [] else cutS r (acc ++ [x])
def cutA (s : List Int) : List (List Int) := cutS s []
/-- The code that an octet tells; 0: none. -/
def ewCd (c : Int) : Int := if lowI c = 98 then 1 else if lowI c = 113 then 2 else 0
/-- Are these the five parts of an encoded-word? -/
def ewForm (l : List (List Int)) : Bool := match l with
  | [a, n, k, t, z] => decide (a = [61]) && (decide (z = [61]) && (decide (k.length = 1 ∧ ewCd (k.headD 0) ≠ 0) && (decide (n ≠ []) && n.all (isB 64) && (decide (t ≠ []) && t.all (isB 4)))))
  | _ => false
def ewE (s : List Int) : Int := if ewForm (cutA s) = true then (if 75 < s.length then 12 else 0) else 3
def ewN (s : List Int) : List Int := if ewE s = 0 then (cutA s).getD 1 [] else []
def ewK (s : List Int) : Int := if ewE s = 0 then ewCd (((cutA s).getD 2 []).headD 0) else 0
def ewT (s : List Int) : List Int := if ewE s = 0 then (cutA s).getD 3 [] else []
def ewS (s : List Int) : Bool := decide (ewE s = 0) && (decide (csNE (keyB (ewN s)) = 0) && (if ewK s = 1 then decide (codE (ewT s) = 0) else decide (chkW (ewT s) = 0)))
def ewH (s : List Int) : Int := if ewE s = 0 then (if csNE (keyB (ewN s)) = 0 then csN (keyB (ewN s)) else 2) else 0
def ewB (s : List Int) : List Int := if ewK s = 1 then looL (ewT s) else readW (ewT s)
def ewR (s : List Int) : List Int := if ewE s = 0 then readR (ewH s) (ewB s) else []
/-- A charset's first name; the octets beside the text; what is laid. -/
def nmS (n : Int) : ByteArray := (nm11 n).headD ⟨#[]⟩
def nmL (n : Int) : List Int := (nmS n).data.toList.map fun c => (c.toNat : Int)
def ewO (n : Int) : Int := if 1 ≤ n ∧ n ≤ 5 then 7 + (nmS n).size else 0
def ewMk (k : Int) : List Int := if k = 2 then [63, 81, 63] else [63, 66, 63]
def ewTx (k : Int) (s : List Int) : List Int := if k = 2 then layW s else layB s
def ewX (n k : Int) (s : List Int) : List Int := [61, 63] ++ nmL n ++ ewMk k ++ ewTx k s ++ [63, 61]
def ewLE (n k : Int) (s : List Int) : Int := if 1 ≤ n ∧ n ≤ 5 then (if (k = 1 ∨ k = 2) ∧ s ≠ [] then (if 75 < (ewX n k s).length then 12 else 0) else 3) else 10
def ewL (n k : Int) (s : List Int) : List Int := if ewLE n k s = 0 then ewX n k s else []

theorem cut_q (r acc : List Int) : cutS (63 :: r) acc = acc :: cutS r [] := by rw [cutS, if_pos rfl]
theorem cut_on {x : Int} (h : x ≠ 63) (r acc : List Int) : cutS (x :: r) acc = cutS r (acc ++ [x]) := by rw [cutS, if_neg h]
theorem cut_part : ∀ (p r acc : List Int), (∀ x ∈ p, x ≠ 63) → cutS (p ++ 63 :: r) acc = (acc ++ p) :: cutS r []
  | [], r, acc, _ => by rw [List.nil_append, cut_q, List.append_nil]
  | x :: p, r, acc, h => by
    rw [List.cons_append, cut_on (h x (List.mem_cons_self ..)), cut_part p r _ (fun y hy => h y (List.mem_cons_of_mem _ hy))]
    simp
theorem cut_last : ∀ (p acc : List Int), (∀ x ∈ p, x ≠ 63) → cutS p acc = [acc ++ p]
  | [], acc, _ => by rw [cutS, List.append_nil]
  | x :: p, acc, h => by
    rw [cut_on (h x (List.mem_cons_self ..)), cut_last p _ (fun y hy => h y (List.mem_cons_of_mem _ hy))]
    simp
theorem cut_len : ∀ (s acc : List Int), (cutS s acc).length ≤ s.length + 1
  | [], acc => by simp [cutS]
  | x :: s, acc => by
    rw [cutS]
    split
    · have := cut_len s []; simp; omega
    · have := cut_len s (acc ++ [x]); simp; omega
theorem cut_bd : ∀ (s acc : List Int), ∀ p ∈ cutS s acc, p.length ≤ acc.length + s.length ∧ ∀ x ∈ p, x ∈ acc ∨ x ∈ s
  | [], acc, p, hp => by
    simp [cutS] at hp
    subst hp
    exact ⟨by simp, fun x hx => .inl hx⟩
  | y :: s, acc, p, hp => by
    rw [cutS] at hp
    split at hp
    · rcases List.mem_cons.1 hp with rfl | hp
      · exact ⟨by simp, fun x hx => .inl hx⟩
      · obtain ⟨h1, h2⟩ := cut_bd s [] p hp
        refine ⟨by simp at h1 ⊢; omega, fun x hx => ?_⟩
        rcases h2 x hx with h | h
        · cases h
        · exact .inr (List.mem_cons_of_mem _ h)
    · obtain ⟨h1, h2⟩ := cut_bd s _ p hp
      refine ⟨by simp at h1 ⊢; omega, fun x hx => ?_⟩
      rcases h2 x hx with h | h
      · rcases List.mem_append.1 h with h | h
        · exact .inl h
        · simp at h
          subst h
          exact .inr (List.mem_cons_self ..)
      · exact .inr (List.mem_cons_of_mem _ h)
theorem getD_mem {l : List (List Int)} {i : Nat} : l.getD i [] = [] ∨ l.getD i [] ∈ l := by
  by_cases h : i < l.length
  · exact .inr (by rw [List.getD_eq_getElem?_getD, List.getElem?_eq_getElem h]; exact List.getElem_mem h)
  · exact .inl (by rw [List.getD_eq_getElem?_getD, List.getElem?_eq_none (by omega)]; rfl)
theorem ewT_len (s : List Int) : (ewT s).length ≤ s.length := by
  unfold ewT cutA
  split
  · rcases getD_mem (l := cutS s []) (i := 3) with h | h
    · rw [h]; exact Nat.zero_le _
    · have := (cut_bd s [] _ h).1; simpa using this
  · exact Nat.zero_le _
theorem ewN_len (s : List Int) : (ewN s).length ≤ s.length := by
  unfold ewN cutA
  split
  · rcases getD_mem (l := cutS s []) (i := 1) with h | h
    · rw [h]; exact Nat.zero_le _
    · have := (cut_bd s [] _ h).1; simpa using this
  · exact Nat.zero_le _
theorem ewB_len (s : List Int) : (ewB s).length ≤ s.length := by
  have h := ewT_len s
  unfold ewB
  split
  · exact Nat.le_trans (looL_le _) h
  · exact Nat.le_trans (readW_len _) h
/-- There are at most as many signs as octets (P29.4). -/
theorem ewR_len (s : List Int) : (ewR s).length ≤ s.length := by
  unfold ewR
  split
  · exact Nat.le_trans (readR_len _ _) (ewB_len s)
  · exact Nat.zero_le _
theorem ewE_cases (s : List Int) : ewE s = 0 ∨ ewE s = 3 ∨ ewE s = 12 := by
  unfold ewE
  split
  · split
    · exact .inr (.inr rfl)
    · exact .inl rfl
  · exact .inr (.inl rfl)
theorem ewE_no {s : List Int} (h : ewE s ≠ 0) : ewN s = [] ∧ ewK s = 0 ∧ ewT s = [] := by
  unfold ewN ewK ewT
  rw [if_neg h, if_neg h, if_neg h]
  exact ⟨rfl, rfl, rfl⟩

/-! ### what is laid -/
theorem dig_fin : ∀ k : Fin 64, isB 4 (dg64 (k.val : Int)) = true ∧ dg64 (k.val : Int) ≠ 63 := by decide +kernel
theorem dig_may {c : Int} (h : isDig c = true) : isB 4 c = true ∧ c ≠ 63 := by
  have h1 := dig_of_val h
  have h2 := val_bd c
  unfold V6 at h2
  have := dig_fin ⟨(valI c).toNat, by omega⟩
  simp only at this
  rw [show (((valI c).toNat : Nat) : Int) = valI c by omega, h1] at this
  exact this
theorem layB_may {s : List Int} (h : ∀ x ∈ s, O8 x) : ∀ c ∈ layB s, isB 4 c = true ∧ c ≠ 63 := by
  intro c hc
  unfold layB fill4 at hc
  rcases List.mem_append.1 hc with hc | hc
  · exact dig_may (List.all_eq_true.1 (bare_dig h).1 c hc)
  · obtain ⟨_, rfl⟩ := List.mem_replicate.1 hc
    decide +kernel
theorem layW_may {s : List Int} (h : ∀ x ∈ s, O8 x) : ∀ c ∈ layW s, isB 4 c = true ∧ c ≠ 63 := by
  intro c hc
  have hk := (laid_W s h).2.2
  have ha : (layW s).all okW = true := by
    unfold chkW at hk
    by_cases hh : (layW s).all okW = true
    · exact hh
    · rw [if_neg hh] at hk; exact absurd hk (by decide)
  have := List.all_eq_true.1 ha c hc
  unfold okW at this
  simpa using this
theorem ewTx_may {s : List Int} (k : Int) (h : ∀ x ∈ s, O8 x) : ∀ c ∈ ewTx k s, isB 4 c = true ∧ c ≠ 63 := by
  unfold ewTx
  split
  · exact layW_may h
  · exact layB_may h
theorem layB_ne {s : List Int} (h : s ≠ []) : layB s ≠ [] := by
  intro hh
  have h1 := congrArg List.length hh
  unfold layB fill4 bareB at h1
  rw [List.length_append, List.length_map, v64_len, List.length_nil] at h1
  have : 0 < s.length := List.length_pos_iff.2 h
  omega
theorem layW_ne {s : List Int} (h : s ≠ []) : layW s ≠ [] := by
  cases s with
  | nil => exact absurd rfl h
  | cons x s =>
    intro hh
    have h1 := congrArg List.length hh
    have h2 := (oneQ_len x).1
    unfold layW at h1
    rw [List.flatMap_cons, List.length_append, List.length_nil] at h1
    omega
theorem ewTx_ne {s : List Int} (k : Int) (h : s ≠ []) : ewTx k s ≠ [] := by
  unfold ewTx
  split
  · exact layW_ne h
  · exact layB_ne h
theorem nm_cases {n : Int} (h : 1 ≤ n ∧ n ≤ 5) : n = 1 ∨ n = 2 ∨ n = 3 ∨ n = 4 ∨ n = 5 := by omega
theorem nmL_all {n : Int} (h : 1 ≤ n ∧ n ≤ 5) : nmL n ≠ [] ∧ (nmL n).all (isB 64) = true ∧ (∀ x ∈ nmL n, x ≠ 63) ∧ csN (keyB (nmL n)) = n ∧ csNE (keyB (nmL n)) = 0 := by
  rcases nm_cases h with rfl | rfl | rfl | rfl | rfl <;> decide +kernel
theorem nmL_len (n : Int) : (nmL n).length = (nmS n).size := by unfold nmL; rw [List.length_map, Array.length_toList]; rfl
theorem ewMk_code {k : Int} (h : k = 1 ∨ k = 2) : ∃ c, ewMk k = [63, c, 63] ∧ ewCd c = k ∧ c ≠ 63 := by
  rcases h with rfl | rfl
  · exact ⟨66, rfl, by decide, by decide⟩
  · exact ⟨81, rfl, by decide, by decide⟩
theorem cut_laid {n k : Int} {s : List Int} (hn : 1 ≤ n ∧ n ≤ 5) (hk : k = 1 ∨ k = 2) (hs : ∀ x ∈ s, O8 x) : ∃ c, ewCd c = k ∧ cutA (ewX n k s) = [[61], nmL n, [c], ewTx k s, [61]] := by
  obtain ⟨c, e1, e2, e3⟩ := ewMk_code hk
  obtain ⟨_, _, hq, _⟩ := nmL_all hn
  refine ⟨c, e2, ?_⟩
  unfold cutA ewX
  rw [e1]
  have e : [61, 63] ++ nmL n ++ [63, c, 63] ++ ewTx k s ++ [63, 61] = [61] ++ 63 :: (nmL n ++ 63 :: ([c] ++ 63 :: (ewTx k s ++ 63 :: [61]))) := by simp
  rw [e, cut_part [61] _ _ (by intro x hx; simp at hx; subst hx; decide), cut_part _ _ _ hq, cut_part [c] _ _ (by intro x hx; simp at hx; subst hx; exact e3),
    cut_part _ _ _ (fun x hx => (ewTx_may k hs x hx).2), cut_last [61] _ (by intro x hx; simp at hx; subst hx; decide)]
  rfl
theorem ewLE_zero {n k : Int} {s : List Int} (h : ewLE n k s = 0) : (1 ≤ n ∧ n ≤ 5) ∧ (k = 1 ∨ k = 2) ∧ s ≠ [] ∧ (ewX n k s).length ≤ 75 := by
  unfold ewLE at h
  by_cases h1 : 1 ≤ n ∧ n ≤ 5
  · rw [if_pos h1] at h
    by_cases h2 : (k = 1 ∨ k = 2) ∧ s ≠ []
    · rw [if_pos h2] at h
      by_cases h3 : 75 < (ewX n k s).length
      · rw [if_pos h3] at h; exact absurd h (by decide)
      · exact ⟨h1, h2.1, h2.2, by omega⟩
    · rw [if_neg h2] at h; exact absurd h (by decide)
  · rw [if_neg h1] at h; exact absurd h (by decide)
/-- What is laid is strict, and is read as what the octets are read as in its charset (P29.3). -/
theorem ew_back {n k : Int} {s : List Int} (hs : ∀ x ∈ s, O8 x) (h : ewLE n k s = 0) :
    ewE (ewL n k s) = 0 ∧ ewS (ewL n k s) = true ∧ ewH (ewL n k s) = n ∧ ewR (ewL n k s) = readR n s ∧ (ewL n k s).length ≤ 75 := by
  obtain ⟨hn, hk, hne, hl⟩ := ewLE_zero h
  obtain ⟨c, hc, hcut⟩ := cut_laid hn hk hs
  obtain ⟨n1, n2, n3, n4, n5⟩ := nmL_all hn
  have hX : ewL n k s = ewX n k s := by unfold ewL; rw [if_pos h]
  rw [hX]
  have hc0 : ewCd c ≠ 0 := by rw [hc]; omega
  have hF : ewForm (cutA (ewX n k s)) = true := by
    rw [hcut]
    unfold ewForm
    have ht : (ewTx k s).all (isB 4) = true := List.all_eq_true.2 fun x hx => (ewTx_may k hs x hx).1
    dsimp only
    rw [n2, ht, decide_eq_true n1, decide_eq_true (ewTx_ne k hne)]
    simp [hc0]
  have hE : ewE (ewX n k s) = 0 := by unfold ewE; rw [if_pos hF, if_neg (by omega)]
  have hN : ewN (ewX n k s) = nmL n := by unfold ewN; rw [if_pos hE, hcut]; rfl
  have hK : ewK (ewX n k s) = k := by unfold ewK; rw [if_pos hE, hcut]; exact hc
  have hT : ewT (ewX n k s) = ewTx k s := by unfold ewT; rw [if_pos hE, hcut]; rfl
  have hH : ewH (ewX n k s) = n := by unfold ewH; rw [if_pos hE, hN, n5, if_pos rfl, n4]
  have hB : ewB (ewX n k s) = s := by
    unfold ewB
    rw [hK, hT]
    unfold ewTx
    rcases hk with rfl | rfl
    · rw [if_pos rfl, if_neg (by decide)]
      have h0 := cod_lay hs
      rw [(loo_cod h0.1).1, h0.2]
    · rw [if_neg (by decide), if_pos rfl]
      exact (laid_W s hs).1
  refine ⟨hE, ?_, hH, ?_, hl⟩
  · unfold ewS
    rw [hE, hN, n5, hK, hT]
    unfold ewTx
    rcases hk with rfl | rfl
    · rw [if_pos rfl, if_neg (by decide), (cod_lay hs).1]; rfl
    · rw [if_neg (by decide), if_pos rfl, (laid_W s hs).2.2]; rfl
  · unfold ewR
    rw [if_pos hE, hH, hB]
end Go.Proofs.YtefhddbbiheadaaGreat

/-! D32 -/
namespace Go.Proofs.YtefhddbbiheadaaGreat
open Go.RowKit
set_option linter.unusedVariables false

/-- Is an octet a gap's? -/
def gp (c : Int) : Bool := decide (c = 32 ∨ c = 9 ∨ c = 13 ∨ c = 10)
/-- How many octets, from the first on, are of its kind. -/
def turnN : List Int → Nat
  | [] => 0
  | x :: r => 1 + (r.takeWhile fun c => gp c == gp x).length
theorem turn_cons (x : Int) (r : List Int) : turnN (x :: r) = 1 + (r.takeWhile fun c => gp c == gp x).length := rfl
def kdW (run : List Int) : Int := if run ≠ [] ∧ run.all gp = true then 1 else if ewE run = 0 then 3 else 2
def pcsT (s : List Int) : List (List Int) :=
  if h : s = [] then [] else s.take (turnN s) :: pcsT (s.drop (turnN s))
termination_by s.length
decreasing_by
  have := List.length_pos_iff.2 h
  have : 0 < turnN s := by
    cases s with
    | nil => exact absurd rfl h
    | cons x r => rw [turn_cons]; omega
  rw [List.length_drop]
  omega
/-- Pieces: kind and text. -/
def pcsP (s : List Int) : List (Int × List Int) := (pcsT s).map fun t => (kdW t, t)
/-- Is this one of the pieces hidden? -/
def hidP (ks : List Int) (i : Nat) : Bool := decide (ks.getD i 0 = 1) && (decide (0 < i) && (decide (i + 1 < ks.length) && (decide (ks.getD (i - 1) 0 = 3) && decide (ks.getD (i + 1) 0 = 3))))
def hidA (ks : List Int) : List Bool := (List.range ks.length).map (hidP ks)
/-- Those of the first m that are shown. -/
def shwN (l : List (Int × List Int)) (m : Nat) : List (Int × List Int) := (List.range m).filterMap fun i => if hidP (l.map Prod.fst) i = true then none else l[i]?
def shwP (s : List Int) : List (Int × List Int) := shwN (pcsP s) (pcsP s).length
def wrdN (s : List Int) : Nat := (pcsP s).countP fun p => decide (p.1 = 3)

theorem turn_pos {s : List Int} (h : s ≠ []) : 0 < turnN s := by
  cases s with
  | nil => exact absurd rfl h
  | cons x r => rw [turn_cons]; omega
theorem turn_le (s : List Int) : turnN s ≤ s.length := by
  cases s with
  | nil => exact Nat.le_refl _
  | cons x r =>
    have := (List.takeWhile_sublist (fun c => gp c == gp x) (l := r)).length_le
    rw [turn_cons, List.length_cons]
    omega
theorem pcsT_nil : pcsT [] = [] := by rw [pcsT, dif_pos rfl]
theorem pcsT_on {s : List Int} (h : s ≠ []) : pcsT s = s.take (turnN s) :: pcsT (s.drop (turnN s)) := by rw [pcsT, dif_neg h]
theorem pcsT_ind {p : List Int → Prop} (h0 : p []) (h1 : ∀ s, s ≠ [] → p (s.drop (turnN s)) → p s) : ∀ s, p s := by
  have key : ∀ (n : Nat) (s : List Int), s.length ≤ n → p s := by
    intro n
    induction n with
    | zero => intro s h; obtain rfl : s = [] := List.eq_nil_of_length_eq_zero (by omega)
              exact h0
    | succ n ih =>
      intro s h
      by_cases hs : s = []
      · rw [hs]; exact h0
      · have := turn_pos hs
        exact h1 s hs (ih _ (by rw [List.length_drop]; omega))
  exact fun s => key _ s (Nat.le_refl _)
/-- Pieces are the octets, none is empty (P32.3). -/
theorem pcsT_whole : ∀ s : List Int, (pcsT s).flatten = s ∧ (∀ t ∈ pcsT s, t ≠ []) ∧ (pcsT s).length ≤ s.length := by
  refine pcsT_ind (by rw [pcsT_nil]; exact ⟨rfl, fun t ht => (by cases ht), Nat.le_refl _⟩) fun s hs ih => ?_
  have h1 := turn_pos hs
  have h2 := turn_le s
  have h3 : 0 < s.length := List.length_pos_iff.2 hs
  rw [pcsT_on hs]
  refine ⟨by rw [List.flatten_cons, ih.1, List.take_append_drop], fun t ht => ?_, ?_⟩
  · rcases List.mem_cons.1 ht with rfl | ht
    · intro hh
      have := congrArg List.length hh
      rw [List.length_take, List.length_nil] at this
      omega
    · exact ih.2.1 t ht
  · have := ih.2.2
    rw [List.length_drop] at this
    rw [List.length_cons]
    omega
/-- A piece is all gap, or none of it. -/
theorem turn_same (s : List Int) : ∀ c ∈ s.take (turnN s), ∀ x, s.head? = some x → gp c = gp x := by
  intro c hc x hx
  cases s with
  | nil => cases hx
  | cons y r =>
    rw [List.head?_cons] at hx
    obtain rfl := Option.some.inj hx
    rw [turn_cons, Nat.add_comm, List.take_succ_cons] at hc
    rcases List.mem_cons.1 hc with rfl | hc
    · rfl
    · have e : r.take (r.takeWhile fun c => gp c == gp y).length = r.takeWhile fun c => gp c == gp y := (List.prefix_iff_eq_take.1 (List.takeWhile_prefix _)).symm
      rw [e] at hc
      have := List.all_eq_true.1 (List.all_takeWhile (p := fun c => gp c == gp y) (l := r)) c hc
      simpa using this
theorem drop_tw (p : Int → Bool) : ∀ r : List Int, r.drop (r.takeWhile p).length = r.dropWhile p
  | [] => rfl
  | x :: r => by
    cases h : p x
    · rw [List.takeWhile_cons, List.dropWhile_cons, h]; rfl
    · rw [List.takeWhile_cons, List.dropWhile_cons, h]
      simp only [if_true, List.length_cons, List.drop_succ_cons]
      exact drop_tw p r
/-- The next piece is of the other kind. -/
theorem turn_next (s : List Int) : ∀ x y, s.head? = some x → (s.drop (turnN s)).head? = some y → gp y ≠ gp x := by
  intro x y hx hy
  cases s with
  | nil => cases hx
  | cons z r =>
    rw [List.head?_cons] at hx
    obtain rfl := Option.some.inj hx
    rw [turn_cons, Nat.add_comm, List.drop_succ_cons, drop_tw] at hy
    cases hd : r.dropWhile fun c => gp c == gp z with
    | nil => rw [hd] at hy; cases hy
    | cons w q =>
      rw [hd, List.head?_cons] at hy
      obtain rfl := Option.some.inj hy
      have := List.head?_dropWhile_not (fun c => gp c == gp z) r
      rw [hd] at this
      simpa using this
end Go.Proofs.YtefhddbbiheadaaGreat
