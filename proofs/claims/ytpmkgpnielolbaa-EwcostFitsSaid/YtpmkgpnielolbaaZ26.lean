/-
  Texts of ours laid together: D30, C29, D30b, R11, R15, R29c.
-/
import Derived.Deep.RegionHeld3
import Derived.Test.YtpmkgpnielolbaaRows
import Derived.Test.YtpmkgpnielolbaaZ25

/-! D30 -/
namespace Go.Proofs.Ytpmkgpnielolbaa
open Go.RowKit
set_option linter.unusedVariables false

/-- The error, and the length, of a text as one encoded-word. -/
def ewcE (n k : Int) (t : List Int) : Int := if 1 ≤ n ∧ n ≤ 5 then (if k = 1 ∨ k = 2 then layE n t else 3) else 10
def ewcT (n k : Int) (t : List Int) : Nat := (ewTx k (layL n t)).length
def ewcL (n k : Int) (t : List Int) : Int := if ewcE n k t = 0 then ewO n + ewcT n k t else 0
def ewcX (n k : Int) (t : List Int) : Int := if ewcE n k t = 0 then ewcT n k t else 0
/-- The better code. -/
def ewcB (n : Int) (t : List Int) : Int := if ewcE n 1 t = 0 then (if ewcL n 2 t ≤ ewcL n 1 t then 2 else 1) else 0
def ewcF (n k : Int) (t : List Int) (room : Int) : Bool := decide (ewcE n k t = 0) && (decide (t ≠ []) && (decide (ewcL n k t ≤ room) && decide (ewcL n k t ≤ 75)))
/-- How many signs from the first on fit. -/
def ewcP (n k : Int) (t : List Int) (room : Int) : Nat := ((List.range t.length).takeWhile fun i => ewcF n k (t.take (i + 1)) room).length

theorem ewcE_zero {n k : Int} {t : List Int} (h : ewcE n k t = 0) : (1 ≤ n ∧ n ≤ 5) ∧ (k = 1 ∨ k = 2) ∧ t.all (hasR n) = true ∧ layE n t = 0 ∧ layL n t = octsR n t := by
  unfold ewcE at h
  by_cases h1 : 1 ≤ n ∧ n ≤ 5
  · rw [if_pos h1] at h
    by_cases h2 : k = 1 ∨ k = 2
    · rw [if_pos h2] at h
      have h3 := (layE_zero h).2
      exact ⟨h1, h2, h3, h, (lay_in h1 h3).1⟩
    · rw [if_neg h2] at h; exact absurd h (by decide)
  · rw [if_neg h1] at h; exact absurd h (by decide)
theorem nm_size {n : Int} (h : 1 ≤ n ∧ n ≤ 5) : (nmS n).size ≤ 12 ∧ 5 ≤ (nmS n).size := by
  rcases nm_cases h with rfl | rfl | rfl | rfl | rfl <;> decide
theorem ewO_eq {n : Int} (h : 1 ≤ n ∧ n ≤ 5) : ewO n = 7 + (nmS n).size := by unfold ewO; rw [if_pos h]
theorem ewO_bd (n : Int) : 0 ≤ ewO n ∧ ewO n ≤ 19 := by
  unfold ewO
  split
  · rename_i h
    have := nm_size h
    omega
  · omega
theorem ewX_len {n k : Int} (hn : 1 ≤ n ∧ n ≤ 5) (s : List Int) : ((ewX n k s).length : Int) = ewO n + (ewTx k s).length := by
  rw [ewO_eq hn]
  unfold ewX ewMk
  have := nmL_len n
  split <;> (simp only [List.length_append, List.length_cons, List.length_nil]; omega)
theorem layB_len (s : List Int) : (layB s).length = (s.length + 2) / 3 * 4 := by
  unfold layB fill4 bareB
  rw [List.length_append, List.length_replicate, List.length_map, v64_len]
  omega
theorem ewTx_len (k : Int) (s : List Int) : (ewTx k s).length ≤ 4 * s.length := by
  unfold ewTx
  split
  · have := layW_len s; omega
  · rw [layB_len]; omega
theorem ewcT_bd (n k : Int) (t : List Int) : ewcT n k t ≤ 16 * t.length := by
  unfold ewcT
  have h1 := ewTx_len k (layL n t)
  have h2 := layL_len n t
  omega
theorem ewcL_bd (n k : Int) (t : List Int) : 0 ≤ ewcL n k t ∧ ewcL n k t ≤ 19 + 16 * t.length := by
  have h1 := ewO_bd n
  have h2 := ewcT_bd n k t
  unfold ewcL
  split <;> omega
theorem ewcL_no {n k : Int} {t : List Int} (h : ewcE n k t ≠ 0) : ewcL n k t = 0 ∧ ∀ r, ewcF n k t r = false := by
  refine ⟨by unfold ewcL; rw [if_neg h], fun r => ?_⟩
  unfold ewcF
  rw [decide_eq_false h]; rfl
theorem ewcF_iff {n k : Int} {t : List Int} {r : Int} : ewcF n k t r = true ↔ ewcE n k t = 0 ∧ t ≠ [] ∧ ewcL n k t ≤ r ∧ ewcL n k t ≤ 75 := by
  unfold ewcF
  simp [Bool.and_eq_true, decide_eq_true_eq]
theorem layL_ne {n : Int} {t : List Int} (hn : 1 ≤ n ∧ n ≤ 5) (h : t.all (hasR n) = true) (hne : t ≠ []) : layL n t ≠ [] := by
  rw [(lay_in hn h).1]
  cases t with
  | nil => exact absurd rfl hne
  | cons c t =>
    intro hh
    rw [List.all_cons, Bool.and_eq_true] at h
    have h1 := octR_pos h.1
    have h2 := congrArg List.length hh
    unfold octsR at h2
    rw [List.flatMap_cons, List.length_append, List.length_nil] at h2
    omega
/-- What fits is laid as one encoded-word, of just that length (P30.3). -/
theorem ewc_laid {n k : Int} {t : List Int} (h : ewcE n k t = 0) : (ewLE n k (layL n t) = 0 → ((ewL n k (layL n t)).length : Int) = ewcL n k t) ∧ (t ≠ [] → ewcL n k t ≤ 75 → ewLE n k (layL n t) = 0) := by
  obtain ⟨h1, h2, h3, h4, h5⟩ := ewcE_zero h
  have hl : ewcL n k t = ((ewX n k (layL n t)).length : Int) := by
    rw [ewX_len h1]
    unfold ewcL ewcT
    rw [if_pos h]
  refine ⟨fun h0 => ?_, fun hne h75 => ?_⟩
  · unfold ewL
    rw [if_pos h0, hl]
  · unfold ewLE
    rw [if_pos h1, if_pos ⟨h2, layL_ne h1 h3 hne⟩, if_neg (by omega)]

/-! ### lengths never fall; the longest beginning -/
theorem ewcE_take {n k : Int} {t : List Int} (h : ewcE n k t = 0) (j : Nat) : ewcE n k (t.take j) = 0 := by
  obtain ⟨h1, h2, h3, _, _⟩ := ewcE_zero h
  unfold ewcE
  rw [if_pos h1, if_pos h2]
  exact (lay_in h1 (by rw [List.all_eq_true] at h3 ⊢; exact fun x hx => h3 x (List.mem_of_mem_take hx))).2
theorem ewTx_mono (k : Int) (s r : List Int) : (ewTx k s).length ≤ (ewTx k (s ++ r)).length := by
  unfold ewTx
  split
  · rw [layW_app, List.length_append]; omega
  · rw [layB_len, layB_len, List.length_append]
    omega
theorem ewcL_mono {n k : Int} {t : List Int} (h : ewcE n k t = 0) (j : Nat) : ewcL n k (t.take j) ≤ ewcL n k t := by
  have hj := ewcE_take h j
  obtain ⟨_, _, _, _, e1⟩ := ewcE_zero h
  obtain ⟨_, _, _, _, e2⟩ := ewcE_zero hj
  unfold ewcL ewcT
  rw [if_pos h, if_pos hj, e1, e2]
  have e : octsR n t = octsR n (t.take j) ++ octsR n (t.drop j) := by
    unfold octsR
    rw [← List.flatMap_append, List.take_append_drop]
  have := ewTx_mono k (octsR n (t.take j)) (octsR n (t.drop j))
  rw [← e] at this
  omega
theorem tw_range (p : Nat → Bool) : ∀ m : Nat, ((List.range m).takeWhile p).length ≤ m ∧ (∀ i, i < ((List.range m).takeWhile p).length → p i = true) ∧ (((List.range m).takeWhile p).length < m → p ((List.range m).takeWhile p).length = false)
  | 0 => ⟨Nat.le_refl _, fun i hi => absurd hi (Nat.not_lt_zero _), fun h => absurd h (Nat.lt_irrefl _)⟩
  | m + 1 => by
    obtain ⟨h1, h2, h3⟩ := tw_range p m
    rw [List.range_succ, List.takeWhile_append]
    by_cases hl : ((List.range m).takeWhile p).length = (List.range m).length
    · rw [if_pos hl]
      rw [List.length_range] at hl
      cases hp : p m
      · have e : [m].takeWhile p = [] := by rw [List.takeWhile_cons, hp]; rfl
        rw [e, List.append_nil, List.length_range]
        exact ⟨by omega, fun i hi => h2 i (by omega), fun _ => hp⟩
      · have e : [m].takeWhile p = [m] := by rw [List.takeWhile_cons, hp]; rfl
        rw [e, List.length_append, List.length_range, List.length_singleton]
        refine ⟨Nat.le_refl _, fun i hi => ?_, fun h => absurd h (Nat.lt_irrefl _)⟩
        by_cases him : i = m
        · rw [him]; exact hp
        · exact h2 i (by omega)
    · rw [if_neg hl]
      rw [List.length_range] at hl
      exact ⟨by omega, h2, fun _ => h3 (by omega)⟩
theorem ewcP_le (n k : Int) (t : List Int) (r : Int) : ewcP n k t r ≤ t.length := (tw_range _ _).1
theorem ewcP_fit {n k : Int} {t : List Int} {r : Int} {j : Nat} (h : j < ewcP n k t r) : ewcF n k (t.take (j + 1)) r = true := (tw_range _ _).2.1 j h
theorem ewcP_no {n k : Int} {t : List Int} {r : Int} (h : ewcP n k t r < t.length) : ewcF n k (t.take (ewcP n k t r + 1)) r = false := (tw_range (fun i => ewcF n k (t.take (i + 1)) r) t.length).2.2 h
/-- The loop that looks for it. -/
theorem ewcP_at {n k : Int} {t : List Int} {r : Int} {j : Nat} (hj : j ≤ t.length) (hf : ∀ i, i < j → ewcF n k (t.take (i + 1)) r = true) (hn : j < t.length → ewcF n k (t.take (j + 1)) r = false) : ewcP n k t r = j := by
  have h1 := ewcP_le n k t r
  rcases Nat.lt_trichotomy (ewcP n k t r) j with h | h | h
  · have := hf _ h
    rw [ewcP_no (by omega)] at this
    cases this
  · exact h
  · have := ewcP_fit h
    rw [hn (by omega)] at this
    cases this
theorem ewcP_ok {n k : Int} {t : List Int} {r : Int} (h : 0 < ewcP n k t r) : ewcF n k (t.take (ewcP n k t r)) r = true := by
  have := ewcP_fit (n := n) (k := k) (t := t) (r := r) (j := ewcP n k t r - 1) (by omega)
  rwa [show ewcP n k t r - 1 + 1 = ewcP n k t r by omega] at this
end Go.Proofs.Ytpmkgpnielolbaa

/-! C29 -/
namespace Go.Proofs.Ytpmkgpnielolbaa
open Go.RowKit
set_option linter.unusedVariables false

def ltS (k : Int) : ByteArray := if k = 1 then { data := #[66] } else { data := #[81] }
theorem ewform_letterOf (k : Int) (w : World) : Calls Try.prog 47 #[.int .i64 k] w fun e w' => e = .returned (.string (ltS k)) ∧ w = w' := by
  unfold ltS
  by_cases hk : k = 1
  · subst hk
    rw [if_pos rfl]
    go_enter Try.func47, Try.ntmps47
    go_wp2_with fail
    go_ret
    exact ⟨rfl, rfl⟩
  · rw [if_neg hk]
    have hk' : (k == 1) = false := by simpa using hk
    clear hk
    go_enter Try.func47, Try.ntmps47
    go_wp2_with fail
    go_ret
    exact ⟨rfl, rfl⟩
def ahS (n k : Int) : ByteArray := ((({ data := #[61, 63] } ++ nmS n) ++ { data := #[63] }) ++ ltS k) ++ { data := #[63] }
theorem octB_ap (a b : ByteArray) : octB' (a ++ b) = octB' a ++ octB' b := by
  unfold octB'
  rw [ByteArray.data_append, Array.toList_append, List.map_append]
theorem octB_len (a : ByteArray) : (octB' a).length = a.size := by unfold octB'; rw [List.length_map, Array.length_toList]; rfl
theorem ahS_oct (n k : Int) (hk : k = 1 ∨ k = 2) : octB' (ahS n k) = [61, 63] ++ nmL n ++ ewMk k := by
  unfold ahS
  rw [octB_ap, octB_ap, octB_ap, octB_ap]
  change ((([61, 63] ++ nmL n) ++ [63]) ++ octB' (ltS k)) ++ [63] = _
  rcases hk with rfl | rfl
  · rw [show octB' (ltS 1) = [66] from rfl, show ewMk 1 = [63, 66, 63] from rfl]; simp
  · rw [show octB' (ltS 2) = [81] from rfl, show ewMk 2 = [63, 81, 63] from rfl]; simp
theorem ahS_size {n : Int} (k : Int) (hn : 1 ≤ n ∧ n ≤ 5) : (ahS n k).size = (nmS n).size + 5 ∧ (ahS n k).size ≤ 17 := by
  have h := nm_size hn
  have hl : (ltS k).size = 1 := by unfold ltS; split <;> rfl
  have : (ahS n k).size = (nmS n).size + 5 := by
    unfold ahS
    rw [ByteArray.size_append, ByteArray.size_append, ByteArray.size_append, ByteArray.size_append, hl]
    have e1 : (ByteArray.mk #[61, 63]).size = 2 := rfl
    have e2 : (ByteArray.mk #[63]).size = 1 := rfl
    omega
  exact ⟨this, by omega⟩
theorem ewform_ahead (n k : Int) (w : World) : Calls Try.prog 33 #[.int .i64 n, .int .i64 k] w fun e w' => e = .returned (.string (ahS n k)) ∧ Below w.heap.size w w' := by
  have HN := hid (label_Name n w)
  change Hid (Calls Try.prog 46 #[.int .i64 n] w fun e w' => e = .returned (.string (nmS n)) ∧ Below w.heap.size w w') at HN
  have HL := hid (ewform_letterOf k)
  have hs : (nmS n).size ≤ 12 := by
    by_cases hn : 1 ≤ n ∧ n ≤ 5
    · exact (nm_size hn).1
    · have e : nm11 n = [] := by
        have h := nm_in n
        rw [decide_eq_false hn] at h
        cases hl : nm11 n with
        | nil => rfl
        | cons s l => rw [hl] at h; simp at h
      unfold nmS
      rw [e]
      decide
  have hl : (ltS k).size ≤ 1 := by unfold ltS; split <;> decide
  unfold ahS
  generalize nmS n = S at *
  generalize ltS k = L at *
  go_enter Try.func33, Try.ntmps33
  go_wp2_with (first
    | (go_at_call 46; (with_reducible refine HN.out.mono ?_); rintro e w1 ⟨rfl, hb1⟩)
    | (go_at_call 47; (with_reducible refine (HL.out _).mono ?_); rintro e w2 ⟨rfl, rfl⟩))
  go_ret
  exact ⟨rfl, hb1⟩
theorem ewform_Over (n : Int) (w : World) (hn : (Lit.int .i64 n).wf = true) :
    Calls Try.prog 22 #[.int .i64 n] w fun e w' => e = .returned (.int .i64 (ewO n)) ∧ Below w.heap.size w w' := by
  have HI := hid (label_IsCharset n w)
  by_cases h : 1 ≤ n ∧ n ≤ 5
  · rw [decide_eq_true h] at HI
    rw [ewO_eq h]
    obtain ⟨h1, h2⟩ := ahS_size 1 h
    rw [show 7 + ((nmS n).size : Int) = ((ahS n 1).size : Int) + 2 by omega]
    have HA := hid (ewform_ahead n 1)
    generalize ahS n 1 = S at *
    clear h1 h
    go_enter Try.func22, Try.ntmps22
    go_wp2_with (first
      | (go_at_call 32; (with_reducible refine HI.out.mono ?_); rintro e w1 ⟨rfl, hb1⟩)
      | (go_at_call 33; (with_reducible refine (HA.out _).mono ?_); rintro e w2 ⟨rfl, hb2⟩; have hw2 := below_then hb1 hb2))
    go_ret
    exact ⟨rfl, hw2⟩
  · rw [decide_eq_false h] at HI
    have e0 : ewO n = 0 := by unfold ewO; rw [if_neg h]
    rw [e0]
    clear e0 h
    go_enter Try.func22, Try.ntmps22
    go_wp2_with (go_at_call 32; (with_reducible refine HI.out.mono ?_); rintro e w1 ⟨rfl, hb1⟩)
    go_ret
    exact ⟨rfl, hb1⟩
end Go.Proofs.Ytpmkgpnielolbaa

/-! D30b -/
namespace Go.Proofs.Ytpmkgpnielolbaa
open Go.RowKit
set_option linter.unusedVariables false

/-- What a code has counted of octets: the octets (Base64), or the text's own (Q). -/
def tlyN (k : Int) (s : List Int) : Int := if k = 1 then (s.length : Int) else ((layW s).length : Int)
theorem tly_nil (k : Int) : tlyN k [] = 0 := by unfold tlyN; split <;> rfl
theorem tly_app (k : Int) (s r : List Int) : tlyN k (s ++ r) = tlyN k s + tlyN k r := by
  unfold tlyN
  split
  · rw [List.length_append]; omega
  · rw [layW_app, List.length_append]; omega
theorem tly_bd (k : Int) (s : List Int) : 0 ≤ tlyN k s ∧ tlyN k s ≤ 4 * s.length := by
  unfold tlyN
  split
  · omega
  · have := layW_len s; omega
/-- How many octets the text of what was counted has. -/
def dgN (k z : Int) : Int := if k = 1 then lenB z else z
theorem dg_tly {k : Int} (hk : k = 1 ∨ k = 2) (s : List Int) : dgN k (tlyN k s) = ((ewTx k s).length : Int) := by
  rcases hk with rfl | rfl
  · have e : ewTx 1 s = layB s := rfl
    change lenB (s.length : Int) = _
    rw [e, layB_len]
    unfold lenB
    split <;> omega
  · rfl
theorem dgN_1 (z : Int) : dgN 1 z = lenB z := rfl
theorem dgN_2 (z : Int) : dgN 2 z = z := rfl

/-- One sign more that the charset has. -/
theorem ewcF_step {n k : Int} {t : List Int} {j : Nat} {x : Int} (hk : k = 1 ∨ k = 2) (hx : t.take (j + 1) = t.take j ++ [x]) (ha : (t.take j).all (hasR n) = true) (h0 : layE n [x] = 0) (r : Int) :
    (t.take (j + 1)).all (hasR n) = true ∧ octsR n (t.take (j + 1)) = octsR n (t.take j) ++ layL n [x] ∧ ewcF n k (t.take (j + 1)) r = decide (ewO n + dgN k (tlyN k (octsR n (t.take (j + 1)))) ≤ min r 75) := by
  rw [dg_tly hk]
  obtain ⟨hn, h1⟩ := layE_zero h0
  have hall : (t.take (j + 1)).all (hasR n) = true := by rw [hx, List.all_append, ha, h1]; rfl
  have hE : ewcE n k (t.take (j + 1)) = 0 := by unfold ewcE; rw [if_pos hn, if_pos hk]; exact (lay_in hn hall).2
  refine ⟨hall, ?_, ?_⟩
  · rw [(lay_in hn h1).1, hx]
    unfold octsR
    rw [List.flatMap_append]
  · have hne : t.take (j + 1) ≠ [] := by rw [hx]; simp
    have hL : ewcL n k (t.take (j + 1)) = ewO n + ((ewTx k (octsR n (t.take (j + 1)))).length : Int) := by
      unfold ewcL ewcT
      rw [if_pos hE, (lay_in hn hall).1]
    unfold ewcF
    rw [decide_eq_true hE, decide_eq_true hne, hL, Bool.true_and, Bool.true_and, ← Bool.decide_and]
    congr 1
    apply propext
    omega
/-- One that it has not. -/
theorem ewcF_stop {n k : Int} {t : List Int} {j : Nat} {x : Int} (hx : t.take (j + 1) = t.take j ++ [x]) (h0 : layE n [x] ≠ 0) (r : Int) : ewcF n k (t.take (j + 1)) r = false := by
  refine (ewcL_no fun h => ?_).2 r
  obtain ⟨hn, _, h3, _, _⟩ := ewcE_zero h
  rw [hx, List.all_append, Bool.and_eq_true] at h3
  exact h0 (lay_in hn h3.2).2
theorem ewcP_none {n k : Int} {t : List Int} {r : Int} (hk : ¬ (k = 1 ∨ k = 2)) : ewcP n k t r = 0 := by
  refine ewcP_at (Nat.zero_le _) (fun i hi => absurd hi (Nat.not_lt_zero _)) (fun _ => (ewcL_no fun h => ?_).2 r)
  exact hk (ewcE_zero h).2.1
/-- A text fits just if all of it does, and there is some. -/
theorem ewcF_all (n k : Int) (t : List Int) (r : Int) : ewcF n k t r = (decide (0 < t.length) && decide (ewcP n k t r = t.length)) := by
  by_cases hne : t = []
  · subst hne
    unfold ewcF
    simp
  · have hp : 0 < t.length := List.length_pos_iff.2 hne
    rw [decide_eq_true hp, Bool.true_and]
    by_cases h : ewcF n k t r = true
    · rw [h]
      obtain ⟨h0, _, h1, h2⟩ := ewcF_iff.1 h
      refine (decide_eq_true (ewcP_at (Nat.le_refl _) (fun i hi => ewcF_iff.2 ⟨ewcE_take h0 _, ?_, ?_, ?_⟩) (fun hh => absurd hh (Nat.lt_irrefl _)))).symm
      · intro hh
        have := congrArg List.length hh
        rw [List.length_take, List.length_nil] at this
        omega
      · exact Int.le_trans (ewcL_mono h0 _) h1
      · exact Int.le_trans (ewcL_mono h0 _) h2
    · rw [Bool.not_eq_true] at h
      rw [h]
      refine (decide_eq_false fun hh => ?_).symm
      have := ewcP_ok (n := n) (k := k) (t := t) (r := r) (by omega)
      rw [hh, List.take_length, h] at this
      cases this
end Go.Proofs.Ytpmkgpnielolbaa

/-! R11 -/
namespace Go.Proofs.Ytpmkgpnielolbaa
open Go.RowKit
set_option linter.unusedVariables false

set_option maxHeartbeats 1000000 in
theorem ref11_Names (n : Int) (w : World) :
    Calls Try.prog 45 #[.int .i64 n] w fun e w' => ∃ a, e = .returned (.slice a (nm11 n).length (nm11 n).length) ∧ Txts w' a (nm11 n) ∧ Below w.heap.size w w' := by
  by_cases h1 : n = 1
  · subst h1
    go_enter Try.func45, Try.ntmps45
    go_wp2
    go_ret
    exact ⟨_, rfl, Txts.lit w 9 (nm11 1), (Below.refl _ _).alloc (Nat.le_refl _) _⟩
  by_cases h2 : n = 2
  · subst h2
    go_enter Try.func45, Try.ntmps45
    go_wp2
    go_ret
    exact ⟨_, rfl, Txts.lit w 9 (nm11 2), (Below.refl _ _).alloc (Nat.le_refl _) _⟩
  by_cases h3 : n = 3
  · subst h3
    go_enter Try.func45, Try.ntmps45
    go_wp2
    go_ret
    exact ⟨_, rfl, Txts.lit w 9 (nm11 3), (Below.refl _ _).alloc (Nat.le_refl _) _⟩
  by_cases h4 : n = 4
  · subst h4
    go_enter Try.func45, Try.ntmps45
    go_wp2
    go_ret
    exact ⟨_, rfl, Txts.lit w 9 (nm11 4), (Below.refl _ _).alloc (Nat.le_refl _) _⟩
  by_cases h5 : n = 5
  · subst h5
    go_enter Try.func45, Try.ntmps45
    go_wp2
    go_ret
    exact ⟨_, rfl, Txts.lit w 9 (nm11 5), (Below.refl _ _).alloc (Nat.le_refl _) _⟩
  have e : Hid (nm11 n = []) := by unfold Hid nm11; rw [if_neg h1, if_neg h2, if_neg h3, if_neg h4, if_neg h5]
  have b1 : (n == 1) = false := by simpa using h1
  have b2 : (n == 2) = false := by simpa using h2
  have b3 : (n == 3) = false := by simpa using h3
  have b4 : (n == 4) = false := by simpa using h4
  have b5 : (n == 5) = false := by simpa using h5
  clear h1 h2 h3 h4 h5
  go_enter Try.func45, Try.ntmps45
  go_wp2
  go_ret
  exact ⟨none, by rw [e.out]; rfl, by rw [e.out]; exact Txts.none _ _, Below.refl _ _⟩
theorem ref11_Name (n : Int) (w : World) :
    Calls Try.prog 30 #[.int .i64 n] w fun e w' => e = .returned (.string ((nm11 n).headD ⟨#[]⟩)) ∧ Below w.heap.size w w' := by
  cases hl : nm11 n with
  | nil =>
    have hN := ref11_Names n w
    rw [hl] at hN
    have HN := hid hN
    clear hN
    go_enter Try.func30, Try.ntmps30
    go_wp2_with (go_at_call 45; (with_reducible refine HN.out.mono ?_); rintro e w3 ⟨a3, rfl, hT, hb3⟩)
    go_ret
    exact ⟨rfl, hb3⟩
  | cons s l =>
    have hN := ref11_Names n w
    rw [hl] at hN
    have HN := hid hN
    clear hN
    have hlen := nm_len n
    rw [hl] at hlen
    simp only [List.length_cons] at hlen
    have hz : ((l.length : Int) + 1 == 0) = false := by rw [beq_eq_false_iff_ne]; omega
    go_enter Try.func30, Try.ntmps30
    go_wp2_with (go_at_call 45; (with_reducible refine HN.out.mono ?_); rintro e w3 ⟨a3, rfl, hT, hb3⟩; obtain ⟨b, off, rfl, _, hc⟩ := hT 0 s rfl; rw [Nat.add_zero] at hc)
    go_ret
    exact ⟨rfl, hb3⟩
end Go.Proofs.Ytpmkgpnielolbaa

/-! R15 -/
namespace Go.Proofs.Ytpmkgpnielolbaa
open Go.RowKit
set_option linter.unusedVariables false

end Go.Proofs.Ytpmkgpnielolbaa

/-! R29c -/
namespace Go.Proofs.Ytpmkgpnielolbaa
open Go.RowKit
set_option linter.unusedVariables false

theorem ref29_Over (n : Int) (w : World) :
    Calls Try.prog 23 #[.int .i64 n] w fun e w' => e = .returned (.int .i64 (ewO n)) ∧ Below w.heap.size w w' := by
  by_cases hn : 1 ≤ n ∧ n ≤ 5
  · have hs := nm_size hn
    have HN := hid (ref11_Name n w)
    rw [ewO_eq hn]
    change Hid (Calls Try.prog 30 #[.int .i64 n] w fun e w' => e = .returned (.string (nmS n)) ∧ Below w.heap.size w w') at HN
    generalize nmS n = S at *
    obtain ⟨h1, h2⟩ := hn
    have q1 : ¬ n < 1 := by omega
    have q2 : ¬ 5 < n := by omega
    clear h1 h2
    go_enter Try.func23, Try.ntmps23
    go_wp2_with (go_at_call 30; (with_reducible refine HN.out.mono ?_); rintro e w1 ⟨rfl, hb1⟩)
    go_ret
    exact ⟨ret_int (by omega), hb1⟩
  · have e0 : ewO n = 0 := by unfold ewO; rw [if_neg hn]
    rw [e0]
    rcases (show n < 1 ∨ (¬ n < 1 ∧ 5 < n) by omega) with h | ⟨h, h2⟩
    all_goals
      clear hn e0
      go_enter Try.func23, Try.ntmps23
      go_wp2_with fail
      go_ret
      exact ⟨rfl, Below.refl _ _⟩
end Go.Proofs.Ytpmkgpnielolbaa
