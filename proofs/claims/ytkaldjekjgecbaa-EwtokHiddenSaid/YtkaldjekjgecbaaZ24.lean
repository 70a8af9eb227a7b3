/-
  Texts of ours laid together: Alive32, D30, R11, R03, R04, R04b, R05, R08, R09, R10, R12, R13, R14, R14b, R15.
-/
import Derived.Test.YtkaldjekjgecbaaRows
import Derived.Handy
import Derived.Deep.CutBlock
import Derived.Test.YtkaldjekjgecbaaZ23

/-! Alive32 -/
namespace Go.Proofs.Ytkaldjekjgecbaa
open Go.RowKit
set_option linter.unusedVariables false

theorem like32_draws (ai : Option Addr) (li ci : Nat) (ai2 : Option Addr) (li2 ci2 : Nat) (x : List Int) (w : World) (hx : Reads .u8 w ai li ci x) (hx2 : Reads .u8 w ai2 li2 ci2 x) (q : Nat) :
    Calls Try.prog 17 #[.slice ai li ci, .slice ai2 li2 ci2] (w.drewN q) fun e w' => e = .returned (.bool true) ∧ ∃ m, w' = (w.drewN q).drewN m := by
  have := like_r ai li ci x ai2 li2 ci2 x (w.drewN q) (hx.below (Below.drewN (Below.refl _ _) q)) (hx2.below (Below.drewN (Below.refl _ _) q))
  rwa [decide_eq_true rfl] at this
theorem like32 (a : Option Addr) (len cap : Nat) (a2 : Option Addr) (len2 cap2 : Nat) (xs : List Int) (w : World) (hr : Reads .u8 w a len cap xs) (hr2 : Reads .u8 w a2 len2 cap2 xs) :
    Calls Try.prog 17 #[.slice a len cap, .slice a2 len2 cap2] w fun e w' => e = .returned (.bool true) ∧ Below w.heap.size w w' := by
  have := like_r a len cap xs a2 len2 cap2 xs w hr hr2
  rw [decide_eq_true rfl] at this
  refine this.mono ?_
  rintro e w' ⟨rfl, n, rfl⟩
  exact ⟨rfl, Below.drewN (Below.refl _ _) n⟩
set_option maxRecDepth 100000 in
set_option maxHeartbeats 2000000 in
theorem same32 (a : Option Addr) (n c : Nat) (a2 : Option Addr) (n2 c2 : Nat) (ps : List (Int × List Int)) (w : World) (hr : RwsG shPc w a n c ps) (hr2 : RwsG shPc w a2 n2 c2 ps) :
    Calls Try.prog 8 #[.slice a n c, .slice a2 n2 c2] w fun e w' => e = .returned (.bool true) ∧ Below w.heap.size w w' := by
  obtain rfl : n = n2 := hr.size.symm.trans hr2.size
  have hrm := hr.room
  have htp := hr.top
  simp only [maxLen] at htp
  have HR := hid hr
  have HR2 := hid hr2
  clear hr hr2
  go_enter Try.func8, Try.ntmps8
  go_wp2_with fail
  go_loopw [13] (fun i wr => ∃ (k m : Nat), k ≤ n ∧ i = .int .i64 k ∧ Hid (wr = w.drewN m)) (fun i _ => n - (intOf i).toNat)
  case atStart => exact ⟨0, 0, Nat.zero_le _, rfl, rfl⟩
  case round =>
    obtain ⟨k, m, hk, rfl, HW⟩ := hrel
    have hb : Below w.heap.size w wr := by rw [HW.out]; exact Below.drewN (Below.refl _ _) m
    have hnx := hid (fun q => show wr.drewN q = w.drewN (m + q) by rw [HW.out, World.drewN_drewN])
    by_cases hlt : k < n
    · obtain ⟨b, off, kx, x, ai, li, ci, rfl, hbw, hck, hcx, hx, hg, _⟩ := (HR.out.below hb).get2 hlt
      obtain ⟨b2, off2, kx2, x2, ai2, li2, ci2, rfl, hbw2, hck2, hcx2, hx2, hg2, _⟩ := (HR2.out.below hb).get2 hlt
      have hxx : kx2 = kx ∧ x2 = x := by
        rw [hg] at hg2
        cases hg2
        exact ⟨rfl, rfl⟩
      obtain ⟨rfl, rfl⟩ := hxx
      have HK := hid (fun q => like32_draws ai li ci ai2 li2 ci2 _ wr hx hx2 q)
      have q1 : (k : Int) < (n : Int) := by omega
      clear hx hx2 hg hg2 HW
      go_wp2_with fail
      go_quiet ((go_at_call 17; with_reducible exact Calls.quiet_of (HK.out _)))
      go_wp2_with fail
      go_roundw
      case rel => exact ⟨k + 1, m + nq, by omega, by go_num, hnx.out nq⟩
      case measure => simp [intOf]; omega
    · have q1 : ¬ (k : Int) < (n : Int) := by omega
      go_wp2_with fail
      go_ret
      exact ⟨rfl, hb⟩
abbrev tx32 : List Int := [97, 32, 61, 63, 117, 116, 102, 45, 56, 63, 81, 63, 98, 63, 61, 32, 61, 63, 117, 116, 102, 45, 56, 63, 81, 63, 99, 63, 61]
theorem v32_p : (pcsP tx32).map Prod.fst = [2, 1, 3, 1, 3] := by decide +kernel
theorem v32_h : hidA [2, 1, 3, 1, 3] = [false, false, false, true, false] := by decide +kernel
theorem al32_p (w : World) (B : Nat) (hB : w.heap.size = B) : Calls Try.prog 9 #[.slice (some ⟨B, 0, none⟩) 29 29] (w.alloc (.cells #[.int .u8 97, .int .u8 32, .int .u8 61, .int .u8 63, .int .u8 117, .int .u8 116, .int .u8 102, .int .u8 45, .int .u8 56, .int .u8 63, .int .u8 81, .int .u8 63, .int .u8 98, .int .u8 63, .int .u8 61, .int .u8 32, .int .u8 61, .int .u8 63, .int .u8 117, .int .u8 116, .int .u8 102, .int .u8 45, .int .u8 56, .int .u8 63, .int .u8 81, .int .u8 63, .int .u8 99, .int .u8 63, .int .u8 61] 5 (29, 30))) fun e w' => ∃ b off c ps, e = .returned (.slice (some ⟨b, off, none⟩) 5 c) ∧ b < w'.heap.size ∧ w'.cell? ⟨b, off, none⟩ = some (.int .i64 2) ∧ w'.cell? ⟨b, off + 2, none⟩ = some (.int .i64 1) ∧ w'.cell? ⟨b, off + 4, none⟩ = some (.int .i64 3) ∧ RwsG shPc w' (some ⟨b, off, none⟩) 5 c ps ∧ hidA (ps.map Prod.fst) = [false, false, false, true, false] ∧ Below w.heap.size w w' := by
  have rs := Reads_litB .u8 5 (29, 30) w B hB tx32 (by decide) (by decide)
  refine (ewtok_Pieces _ 29 29 tx32 _ rs (by decide)).mono ?_
  rintro e w' ⟨a', n, c', rfl, r, hb⟩
  have hp := v32_p
  generalize pcsP tx32 = ps at *
  have hn : n = 5 := by
    have h1 := r.size
    have h2 := congrArg List.length hp
    rw [List.length_map, h1] at h2
    exact h2
  subst hn
  have at' : ∀ (i : Nat) (v : Int), ([2, 1, 3, 1, 3] : List Int)[i]? = some v → i < 5 → ∃ b off, a' = some ⟨b, off, none⟩ ∧ b < w'.heap.size ∧ w'.cell? ⟨b, off + i * 2, none⟩ = some (.int .i64 v) := by
    intro i v hv hi
    obtain ⟨b, off, k, x, ai, li, ci, h1, h2, h3, _, _, h5, _⟩ := r.get2 hi
    rw [← hp, List.getElem?_map, h5] at hv
    obtain rfl : k = v := by simpa using hv
    exact ⟨b, off, h1, h2, h3⟩
  obtain ⟨b, off, rfl, hbw, h0⟩ := at' 0 2 rfl (by decide)
  obtain ⟨b1, off1, e1, _, h1⟩ := at' 1 1 rfl (by decide)
  obtain ⟨b2, off2, e2, _, h2⟩ := at' 2 3 rfl (by decide)
  cases e1
  cases e2
  exact ⟨b, off, c', ps, rfl, hbw, h0, h1, h2, r, by rw [hp]; exact v32_h, ((Below.refl _ _).alloc (Nat.le_refl _) _).trans (hb.mono (by simp))⟩
theorem al32_h (a : Option Addr) (c : Nat) (ps : List (Int × List Int)) (w : World) (hr : RwsG shPc w a 5 c ps) (hh : hidA (ps.map Prod.fst) = [false, false, false, true, false]) :
    Calls Try.prog 15 #[.slice a 5 c] w fun e w' => ∃ b off c', e = .returned (.slice (some ⟨b, off, none⟩) 5 c') ∧ w'.cell? ⟨b, off + 1, none⟩ = some (.bool false) ∧ w'.cell? ⟨b, off + 3, none⟩ = some (.bool true) ∧ Below w.heap.size w w' := by
  refine (ewtok_Hidden a 5 c ps w hr (by decide)).mono ?_
  rintro e w' ⟨a', m, c', rfl, r, hb⟩
  rw [hh] at r
  obtain rfl : 5 = m := r.size
  obtain ⟨b, off, rfl, _, hc⟩ := r.cell (by decide)
  exact ⟨b, off, c', rfl, hc 1 (by decide), hc 3 (by decide), hb⟩
set_option maxRecDepth 100000 in
set_option maxHeartbeats 1000000 in
theorem alive32_any (w : World) : Calls Try.prog 6 #[] w fun e w' => e = .returned (.bool true) ∧ Below w.heap.size w w' := by
  have kc := convB (P := Try.prog) (t := 22) (e := 5) Try.underlying22 Try.underlying5 w w.heap.size rfl
  go_enter Try.func6, Try.ntmps6
  go_wp2_with (first
    | (go_at_call 9; (with_reducible refine (al32_p w _ rfl).mono ?_); rintro e w1 ⟨b1, o1, c1, ps, rfl, hb1, k0, k1, k2, r1, hh, h1⟩)
    | (go_at_call 15; (with_reducible refine (al32_h _ _ _ _ r1 hh).mono ?_); rintro e w2 ⟨b2, o2, c2, rfl, m1, m3, h2⟩; have t2 := below_then h1 h2; have n0 := (h2.cell (p := ⟨b1, o1, none⟩) hb1).trans k0; have n1 := (h2.cell (p := ⟨b1, o1 + 2, none⟩) hb1).trans k1; have n2 := (h2.cell (p := ⟨b1, o1 + 4, none⟩) hb1).trans k2; clear k0 k1 k2))
  go_ret
  exact ⟨rfl, t2⟩
end Go.Proofs.Ytkaldjekjgecbaa

/-! D30 -/
namespace Go.Proofs.Ytkaldjekjgecbaa
open Go.RowKit
set_option linter.unusedVariables false

/-- The error, and the length, of a text as one encoded-word. -/
def ewcE (n k : Int) (t : List Int) : Int := if 1 ≤ n ∧ n ≤ 5 then (if k = 1 ∨ k = 2 then layE n t else 3) else 10
def ewcT (n k : Int) (t : List Int) : Nat := (ewTx k (layL n t)).length
def ewcL (n k : Int) (t : List Int) : Int := if ewcE n k t = 0 then ewO n + ewcT n k t else 0
def ewcX (n k : Int) (t : List Int) : Int := if ewcE n k t = 0 then ewcT n k t else 0
/-- The better code. -/
def ewcB (n : Int) (t : List Int) : Int := if ewcE n 1 t = 0 then (if ewcL n 2 t ≤ ewcL n 1 t then 2 else 1) else 0
def ewcF (n k : Int) (t : List Int) (room : Int) : Bool := decide (ewcE n k t = 0) && (decide (t ≠ []) && (decide (ewcL n k t ≤ room) && decide (ewcL n k t ≤ 75)))
/-- How many signs from the first on fit. -/
def ewcP (n k : Int) (t : List Int) (room : Int) : Nat := ((List.range t.length).takeWhile fun i => ewcF n k (t.take (i + 1)) room).length

theorem ewcE_zero {n k : Int} {t : List Int} (h : ewcE n k t = 0) : (1 ≤ n ∧ n ≤ 5) ∧ (k = 1 ∨ k = 2) ∧ t.all (hasR n) = true ∧ layE n t = 0 ∧ layL n t = octsR n t := by
  unfold ewcE at h
  by_cases h1 : 1 ≤ n ∧ n ≤ 5
  · rw [if_pos h1] at h
    by_cases h2 : k = 1 ∨ k = 2
    · rw [if_pos h2] at h
      have h3 := (layE_zero h).2
      exact ⟨h1, h2, h3, h, (lay_in h1 h3).1⟩
    · rw [if_neg h2] at h; exact absurd h (by decide)
  · rw [if_neg h1] at h; exact absurd h (by decide)
theorem nm_size {n : Int} (h : 1 ≤ n ∧ n ≤ 5) : (nmS n).size ≤ 12 ∧ 5 ≤ (nmS n).size := by
  rcases nm_cases h with rfl | rfl | rfl | rfl | rfl <;> decide
theorem ewO_eq {n : Int} (h : 1 ≤ n ∧ n ≤ 5) : ewO n = 7 + (nmS n).size := by unfold ewO; rw [if_pos h]
theorem ewO_bd (n : Int) : 0 ≤ ewO n ∧ ewO n ≤ 19 := by
  unfold ewO
  split
  · rename_i h
    have := nm_size h
    omega
  · omega
theorem ewX_len {n k : Int} (hn : 1 ≤ n ∧ n ≤ 5) (s : List Int) : ((ewX n k s).length : Int) = ewO n + (ewTx k s).length := by
  rw [ewO_eq hn]
  unfold ewX ewMk
  have := nmL_len n
  split <;> (simp only [List.length_append, List.length_cons, List.length_nil]; omega)
theorem layB_len (s : List Int) : (layB s).length = (s.length + 2) / 3 * 4 := by
  unfold layB fill4 bareB
  rw [List.length_append, List.length_replicate, List.length_map, v64_len]
  omega
theorem ewTx_len (k : Int) (s : List Int) : (ewTx k s).length ≤ 4 * s.length := by
  unfold ewTx
  split
  · have := layW_len s; omega
  · rw [layB_len]; omega
theorem ewcT_bd (n k : Int) (t : List Int) : ewcT n k t ≤ 16 * t.length := by
  unfold ewcT
  have h1 := ewTx_len k (layL n t)
  have h2 := layL_len n t
  omega
theorem ewcL_bd (n k : Int) (t : List Int) : 0 ≤ ewcL n k t ∧ ewcL n k t ≤ 19 + 16 * t.length := by
  have h1 := ewO_bd n
  have h2 := ewcT_bd n k t
  unfold ewcL
  split <;> omega
theorem ewcL_no {n k : Int} {t : List Int} (h : ewcE n k t ≠ 0) : ewcL n k t = 0 ∧ ∀ r, ewcF n k t r = false := by
  refine ⟨by unfold ewcL; rw [if_neg h], fun r => ?_⟩
  unfold ewcF
  rw [decide_eq_false h]; rfl
theorem ewcF_iff {n k : Int} {t : List Int} {r : Int} : ewcF n k t r = true ↔ ewcE n k t = 0 ∧ t ≠ [] ∧ ewcL n k t ≤ r ∧ ewcL n k t ≤ 75 := by
  unfold ewcF
  simp [Bool.and_eq_true, decide_eq_true_eq]
theorem layL_ne {n : Int} {t : List Int} (hn : 1 ≤ n ∧ n ≤ 5) (h : t.all (hasR n) = true) (hne : t ≠ []) : layL n t ≠ [] := by
  rw [(lay_in hn h).1]
  cases t with
  | nil => exact absurd rfl hne
  | cons c t =>
    intro hh
    rw [List.all_cons, Bool.and_eq_true] at h
    have h1 := octR_pos h.1
    have h2 := congrArg List.length hh
    unfold octsR at h2
    rw [List.flatMap_cons, List.length_append, List.length_nil] at h2
    omega
/-- What fits is laid as one encoded-word, of just that length (P30.3). -/
theorem ewc_laid {n k : Int} {t : List Int} (h : ewcE n k t = 0) : (ewLE n k (layL n t) = 0 → ((ewL n k (layL n t)).length : Int) = ewcL n k t) ∧ (t ≠ [] → ewcL n k t ≤ 75 → ewLE n k (layL n t) = 0) := by
  obtain ⟨h1, h2, h3, h4, h5⟩ := ewcE_zero h
  have hl : ewcL n k t = ((ewX n k (layL n t)).length : Int) := by
    rw [ewX_len h1]
    unfold ewcL ewcT
    rw [if_pos h]
  refine ⟨fun h0 => ?_, fun hne h75 => ?_⟩
  · unfold ewL
    rw [if_pos h0, hl]
  · unfold ewLE
    rw [if_pos h1, if_pos ⟨h2, layL_ne h1 h3 hne⟩, if_neg (by omega)]

/-! ### lengths never fall; the longest beginning -/
theorem ewcE_take {n k : Int} {t : List Int} (h : ewcE n k t = 0) (j : Nat) : ewcE n k (t.take j) = 0 := by
  obtain ⟨h1, h2, h3, _, _⟩ := ewcE_zero h
  unfold ewcE
  rw [if_pos h1, if_pos h2]
  exact (lay_in h1 (by rw [List.all_eq_true] at h3 ⊢; exact fun x hx => h3 x (List.mem_of_mem_take hx))).2
theorem ewTx_mono (k : Int) (s r : List Int) : (ewTx k s).length ≤ (ewTx k (s ++ r)).length := by
  unfold ewTx
  split
  · rw [layW_app, List.length_append]; omega
  · rw [layB_len, layB_len, List.length_append]
    omega
theorem ewcL_mono {n k : Int} {t : List Int} (h : ewcE n k t = 0) (j : Nat) : ewcL n k (t.take j) ≤ ewcL n k t := by
  have hj := ewcE_take h j
  obtain ⟨_, _, _, _, e1⟩ := ewcE_zero h
  obtain ⟨_, _, _, _, e2⟩ := ewcE_zero hj
  unfold ewcL ewcT
  rw [if_pos h, if_pos hj, e1, e2]
  have e : octsR n t = octsR n (t.take j) ++ octsR n (t.drop j) := by
    unfold octsR
    rw [← List.flatMap_append, List.take_append_drop]
  have := ewTx_mono k (octsR n (t.take j)) (octsR n (t.drop j))
  rw [← e] at this
  omega
theorem tw_range (p : Nat → Bool) : ∀ m : Nat, ((List.range m).takeWhile p).length ≤ m ∧ (∀ i, i < ((List.range m).takeWhile p).length → p i = true) ∧ (((List.range m).takeWhile p).length < m → p ((List.range m).takeWhile p).length = false)
  | 0 => ⟨Nat.le_refl _, fun i hi => absurd hi (Nat.not_lt_zero _), fun h => absurd h (Nat.lt_irrefl _)⟩
  | m + 1 => by
    obtain ⟨h1, h2, h3⟩ := tw_range p m
    rw [List.range_succ, List.takeWhile_append]
    by_cases hl : ((List.range m).takeWhile p).length = (List.range m).length
    · rw [if_pos hl]
      rw [List.length_range] at hl
      cases hp : p m
      · have e : [m].takeWhile p = [] := by rw [List.takeWhile_cons, hp]; rfl
        rw [e, List.append_nil, List.length_range]
        exact ⟨by omega, fun i hi => h2 i (by omega), fun _ => hp⟩
      · have e : [m].takeWhile p = [m] := by rw [List.takeWhile_cons, hp]; rfl
        rw [e, List.length_append, List.length_range, List.length_singleton]
        refine ⟨Nat.le_refl _, fun i hi => ?_, fun h => absurd h (Nat.lt_irrefl _)⟩
        by_cases him : i = m
        · rw [him]; exact hp
        · exact h2 i (by omega)
    · rw [if_neg hl]
      rw [List.length_range] at hl
      exact ⟨by omega, h2, fun _ => h3 (by omega)⟩
theorem ewcP_le (n k : Int) (t : List Int) (r : Int) : ewcP n k t r ≤ t.length := (tw_range _ _).1
theorem ewcP_fit {n k : Int} {t : List Int} {r : Int} {j : Nat} (h : j < ewcP n k t r) : ewcF n k (t.take (j + 1)) r = true := (tw_range _ _).2.1 j h
theorem ewcP_no {n k : Int} {t : List Int} {r : Int} (h : ewcP n k t r < t.length) : ewcF n k (t.take (ewcP n k t r + 1)) r = false := (tw_range (fun i => ewcF n k (t.take (i + 1)) r) t.length).2.2 h
/-- The loop that looks for it. -/
theorem ewcP_at {n k : Int} {t : List Int} {r : Int} {j : Nat} (hj : j ≤ t.length) (hf : ∀ i, i < j → ewcF n k (t.take (i + 1)) r = true) (hn : j < t.length → ewcF n k (t.take (j + 1)) r = false) : ewcP n k t r = j := by
  have h1 := ewcP_le n k t r
  rcases Nat.lt_trichotomy (ewcP n k t r) j with h | h | h
  · have := hf _ h
    rw [ewcP_no (by omega)] at this
    cases this
  · exact h
  · have := ewcP_fit h
    rw [hn (by omega)] at this
    cases this
theorem ewcP_ok {n k : Int} {t : List Int} {r : Int} (h : 0 < ewcP n k t r) : ewcF n k (t.take (ewcP n k t r)) r = true := by
  have := ewcP_fit (n := n) (k := k) (t := t) (r := r) (j := ewcP n k t r - 1) (by omega)
  rwa [show ewcP n k t r - 1 + 1 = ewcP n k t r by omega] at this
end Go.Proofs.Ytkaldjekjgecbaa

/-! R11 -/
namespace Go.Proofs.Ytkaldjekjgecbaa
open Go.RowKit
set_option linter.unusedVariables false

end Go.Proofs.Ytkaldjekjgecbaa

/-! R03 -/
namespace Go.Proofs.Ytkaldjekjgecbaa
open Go.RowKit
set_option linter.unusedVariables false



end Go.Proofs.Ytkaldjekjgecbaa

/-! R04 -/
namespace Go.Proofs.Ytkaldjekjgecbaa
open Go.RowKit
set_option linter.unusedVariables false

theorem ret_iii {k k2 k3 : IntKind} {a b c d e f : Int} (h : a = b) (h' : c = d) (h2 : e = f) : Ending.returned (.tuple #[.int k a, .int k2 c, .int k3 e]) = .returned (.tuple #[.int k b, .int k2 d, .int k3 f]) := by rw [h, h', h2]


end Go.Proofs.Ytkaldjekjgecbaa

/-! R04b -/
namespace Go.Proofs.Ytkaldjekjgecbaa
open Go.RowKit
set_option linter.unusedVariables false


end Go.Proofs.Ytkaldjekjgecbaa

/-! R05 -/
namespace Go.Proofs.Ytkaldjekjgecbaa
open Go.RowKit
set_option linter.unusedVariables false

theorem idx_not_neg {xs : List Int} (h : xs.all scB = true) : idxI (fun c => !scB c) xs < 0 := by
  have := idx_neg (fun c => !scB c) xs
  simp only [Bool.not_not] at this
  rw [h] at this; simpa using this
theorem idx_not_pos {xs : List Int} (h : xs.all scB = false) : 0 ≤ idxI (fun c => !scB c) xs := by
  have := idx_neg (fun c => !scB c) xs
  simp only [Bool.not_not] at this
  rw [h] at this; simpa using this


end Go.Proofs.Ytkaldjekjgecbaa

/-! R08 -/
namespace Go.Proofs.Ytkaldjekjgecbaa
open Go.RowKit
set_option linter.unusedVariables false


end Go.Proofs.Ytkaldjekjgecbaa

/-! R09 -/
namespace Go.Proofs.Ytkaldjekjgecbaa
open Go.RowKit
set_option linter.unusedVariables false


end Go.Proofs.Ytkaldjekjgecbaa

/-! R10 -/
namespace Go.Proofs.Ytkaldjekjgecbaa
open Go.RowKit
set_option linter.unusedVariables false


end Go.Proofs.Ytkaldjekjgecbaa

/-! R12 -/
namespace Go.Proofs.Ytkaldjekjgecbaa
open Go.RowKit
set_option linter.unusedVariables false

end Go.Proofs.Ytkaldjekjgecbaa

/-! R13 -/
namespace Go.Proofs.Ytkaldjekjgecbaa
open Go.RowKit
set_option linter.unusedVariables false

end Go.Proofs.Ytkaldjekjgecbaa

/-! R14 -/
namespace Go.Proofs.Ytkaldjekjgecbaa
open Go.RowKit
set_option linter.unusedVariables false

theorem num_snoc {l : List Int} {k : Nat} {b : Int} (h : l.take (k + 1) = l.take k ++ [b]) : numL (l.take (k + 1)) = 2 * numL (l.take k) + b := by
  unfold numL; rw [h, List.foldl_append]; rfl
theorem num_lt : ∀ (l : List Int) (n : Int), (∀ b ∈ l, b = 0 ∨ b = 1) → 0 ≤ n → 0 ≤ l.foldl (fun n b => 2 * n + b) n ∧ l.foldl (fun n b => 2 * n + b) n < (n + 1) * 2 ^ l.length := by
  intro l
  induction l with
  | nil => intro n _ h; simp; omega
  | cons b l ih =>
    intro n hb h
    have h1 := hb b (by simp)
    have h2 := ih (2 * n + b) (fun x hx => hb x (by simp [hx])) (by omega)
    rw [List.foldl_cons, List.length_cons]
    refine ⟨h2.1, Int.lt_of_lt_of_le h2.2 ?_⟩
    have e : (n + 1) * 2 ^ (l.length + 1) = (2 * n + 2) * 2 ^ l.length := by rw [Int.pow_succ, Int.mul_comm (2 ^ l.length) 2, ← Int.mul_assoc]; congr 1; omega
    rw [e]
    exact Int.mul_le_mul_of_nonneg_right (by omega) (Int.pow_nonneg (by omega))
theorem num_bd {l : List Int} (hb : ∀ b ∈ l, b = 0 ∨ b = 1) (h : l.length ≤ 8) : 0 ≤ numL l ∧ numL l ≤ 255 := by
  have h1 := num_lt l 0 hb (Int.le_refl _)
  have h2 : (2 : Int) ^ l.length ≤ 2 ^ 8 := by
    have := Nat.pow_le_pow_right (n := 2) (by omega) h
    exact_mod_cast this
  unfold numL
  have e : (2 : Int) ^ 8 = 256 := by decide
  omega
theorem bit_wf {y : Int} (h0 : 0 ≤ y) (h1 : y ≤ 1) : (Lit.int .i64 y).wf = true := WalkArith.wf_i64 (by omega)
theorem bits8_snoc {xs : List Int} {k : Nat} {x : Int} (h : xs.take (k + 1) = xs.take k ++ [x]) : bits8 (xs.take (k + 1)) = bits8 (xs.take k) ++ bit8 x := by
  unfold bits8; rw [h, List.flatMap_append]; simp
theorem bits8_take (xs : List Int) (k : Nat) : (bits8 (xs.take k)).length ≤ 8 * xs.length := by
  rw [bits8_len, List.length_take]; omega
theorem parts_snoc (n : Nat) (f : List Int → Int) (L : List Int) (j : Nat) : (List.range (j + 1)).map (fun t => f ((L.drop (t * n)).take n)) = (List.range j).map (fun t => f ((L.drop (t * n)).take n)) ++ [f ((L.drop (j * n)).take n)] := by
  rw [List.range_succ, List.map_append]; rfl
theorem bits8_01 (xs : List Int) : ∀ b ∈ bits8 xs, b = 0 ∨ b = 1 := by
  intro b hb
  unfold bits8 bit8 at hb
  rw [List.mem_flatMap] at hb
  obtain ⟨x, _, hb⟩ := hb
  simp only [List.mem_cons, List.not_mem_nil, or_false] at hb
  omega
theorem pad6_01 (xs : List Int) : ∀ b ∈ pad6 (bits8 xs), b = 0 ∨ b = 1 := by
  intro b hb
  unfold pad6 at hb
  rw [List.mem_append] at hb
  rcases hb with hb | hb
  · exact bits8_01 xs b hb
  · exact .inl (List.eq_of_mem_replicate hb)
theorem num6_bd {l : List Int} (hb : ∀ b ∈ l, b = 0 ∨ b = 1) (h : l.length ≤ 6) : 0 ≤ numL l ∧ numL l ≤ 63 := by
  have h1 := num_lt l 0 hb (Int.le_refl _)
  have h2 : (2 : Int) ^ l.length ≤ 2 ^ 6 := by
    have := Nat.pow_le_pow_right (n := 2) (by omega) h
    exact_mod_cast this
  unfold numL
  have e : (2 : Int) ^ 6 = 64 := by decide
  omega
theorem pad6_len (l : List Int) : (pad6 l).length % 6 = 0 ∧ (pad6 l).length ≤ l.length + 5 := by
  unfold pad6
  rw [List.length_append, List.length_replicate]
  omega
end Go.Proofs.Ytkaldjekjgecbaa

/-! R14b -/
namespace Go.Proofs.Ytkaldjekjgecbaa
open Go.RowKit
set_option linter.unusedVariables false

theorem eqEnd_le (xs : List Int) : eqEnd xs ≤ xs.length := by unfold eqEnd; (repeat' split) <;> omega
end Go.Proofs.Ytkaldjekjgecbaa

/-! R15 -/
namespace Go.Proofs.Ytkaldjekjgecbaa
open Go.RowKit
set_option linter.unusedVariables false

end Go.Proofs.Ytkaldjekjgecbaa
