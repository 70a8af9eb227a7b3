/-
  Texts of ours laid together: C29, D30b.
-/
import Derived.Deep.RegionHeld3
import Derived.Test.YtdglnpkkfkagaaaGreatZ34

/-! C29 -/
namespace Go.Proofs.YtdglnpkkfkagaaaGreat
open Go.RowKit
set_option linter.unusedVariables false

theorem ewform_encode (k : Int) (a : Option Addr) (len cap : Nat) (xs : List Int) (w : World) (hr : Reads .u8 w a len cap xs) (hN : len < 1000000) (hk : k = 1 ∨ k = 2) :
    Calls Tryz.prog 85 #[.int .i64 k, .slice a len cap] w fun e w' => ∃ a' l' c', e = .returned (.slice a' l' c') ∧ Reads .u8 w' a' l' c' (ewTx k xs) ∧ Below w.heap.size w w' := by
  unfold ewTx
  rcases hk with rfl | rfl
  · rw [if_neg (by decide)]
    have H := hid (bcode_Lay a len cap xs w hr (by omega))
    generalize layB xs = E at *
    clear hr
    go_enter Tryz.func85, Tryz.ntmps85
    go_wp2_with (go_at_call 111; (with_reducible refine H.out.mono ?_); rintro e w1 ⟨v1, rfl, o1, hb1⟩; obtain ⟨a1, c1, rfl, r1⟩ := o1.reads)
    go_ret
    exact ⟨_, _, _, rfl, r1, hb1⟩
  · rw [if_pos rfl]
    have H := hid (qword_Lay a len cap xs w hr (by omega))
    generalize layW xs = E at *
    clear hr
    go_enter Tryz.func85, Tryz.ntmps85
    go_wp2_with (go_at_call 112; (with_reducible refine H.out.mono ?_); rintro e w1 ⟨a1, l1, c1, rfl, r1, hb1⟩)
    go_ret
    exact ⟨_, _, _, rfl, r1, hb1⟩
theorem lenB_len (s : List Int) : lenB (s.length : Int) = ((layB s).length : Int) := by
  rw [layB_len]
  unfold lenB
  split <;> omega
theorem ewform_textLen (k : Int) (a : Option Addr) (len cap : Nat) (xs : List Int) (w : World) (hr : Reads .u8 w a len cap xs) (hN : len < 1000000) (hk : k = 1 ∨ k = 2) :
    Calls Tryz.prog 83 #[.int .i64 k, .slice a len cap] w fun e w' => e = .returned (.int .i64 ((ewTx k xs).length)) ∧ Below w.heap.size w w' := by
  unfold ewTx
  rcases hk with rfl | rfl
  · rw [if_neg (by decide), ← lenB_len, hr.size]
    have H := hid (bcode_Len (len : Int) w (by omega))
    generalize lenB (len : Int) = E at *
    clear hr
    go_enter Tryz.func83, Tryz.ntmps83
    go_wp2_with (go_at_call 98; (with_reducible refine H.out.mono ?_); rintro e w1 ⟨rfl, rfl⟩)
    go_ret
    exact ⟨rfl, Below.refl _ _⟩
  · rw [if_pos rfl]
    have H := hid (qword_Len a len cap xs w hr (by omega))
    generalize (layW xs).length = E at *
    clear hr
    go_enter Tryz.func83, Tryz.ntmps83
    go_wp2_with (go_at_call 109; (with_reducible refine H.out.mono ?_); rintro e w1 ⟨rfl, hb1⟩)
    go_ret
    exact ⟨rfl, hb1⟩
def ltS (k : Int) : ByteArray := if k = 1 then { data := #[66] } else { data := #[81] }
theorem ewform_letterOf (k : Int) (w : World) : Calls Tryz.prog 100 #[.int .i64 k] w fun e w' => e = .returned (.string (ltS k)) ∧ w = w' := by
  unfold ltS
  by_cases hk : k = 1
  · subst hk
    rw [if_pos rfl]
    go_enter Tryz.func100, Tryz.ntmps100
    go_wp2_with fail
    go_ret
    exact ⟨rfl, rfl⟩
  · rw [if_neg hk]
    have hk' : (k == 1) = false := by simpa using hk
    clear hk
    go_enter Tryz.func100, Tryz.ntmps100
    go_wp2_with fail
    go_ret
    exact ⟨rfl, rfl⟩
def ahS (n k : Int) : ByteArray := ((({ data := #[61, 63] } ++ nmS n) ++ { data := #[63] }) ++ ltS k) ++ { data := #[63] }
theorem octB_ap (a b : ByteArray) : octB' (a ++ b) = octB' a ++ octB' b := by
  unfold octB'
  rw [ByteArray.data_append, Array.toList_append, List.map_append]
theorem octB_len (a : ByteArray) : (octB' a).length = a.size := by unfold octB'; rw [List.length_map, Array.length_toList]; rfl
theorem ahS_oct (n k : Int) (hk : k = 1 ∨ k = 2) : octB' (ahS n k) = [61, 63] ++ nmL n ++ ewMk k := by
  unfold ahS
  rw [octB_ap, octB_ap, octB_ap, octB_ap]
  change ((([61, 63] ++ nmL n) ++ [63]) ++ octB' (ltS k)) ++ [63] = _
  rcases hk with rfl | rfl
  · rw [show octB' (ltS 1) = [66] from rfl, show ewMk 1 = [63, 66, 63] from rfl]; simp
  · rw [show octB' (ltS 2) = [81] from rfl, show ewMk 2 = [63, 81, 63] from rfl]; simp
theorem ahS_size {n : Int} (k : Int) (hn : 1 ≤ n ∧ n ≤ 5) : (ahS n k).size = (nmS n).size + 5 ∧ (ahS n k).size ≤ 17 := by
  have h := nm_size hn
  have hl : (ltS k).size = 1 := by unfold ltS; split <;> rfl
  have : (ahS n k).size = (nmS n).size + 5 := by
    unfold ahS
    rw [ByteArray.size_append, ByteArray.size_append, ByteArray.size_append, ByteArray.size_append, hl]
    have e1 : (ByteArray.mk #[61, 63]).size = 2 := rfl
    have e2 : (ByteArray.mk #[63]).size = 1 := rfl
    omega
  exact ⟨this, by omega⟩
theorem ewform_ahead (n k : Int) (w : World) : Calls Tryz.prog 74 #[.int .i64 n, .int .i64 k] w fun e w' => e = .returned (.string (ahS n k)) ∧ Below w.heap.size w w' := by
  have HN := hid (label_Name n w)
  change Hid (Calls Tryz.prog 99 #[.int .i64 n] w fun e w' => e = .returned (.string (nmS n)) ∧ Below w.heap.size w w') at HN
  have HL := hid (ewform_letterOf k)
  have hs : (nmS n).size ≤ 12 := by
    by_cases hn : 1 ≤ n ∧ n ≤ 5
    · exact (nm_size hn).1
    · have e : nm11 n = [] := by
        have h := nm_in n
        rw [decide_eq_false hn] at h
        cases hl : nm11 n with
        | nil => rfl
        | cons s l => rw [hl] at h; simp at h
      unfold nmS
      rw [e]
      decide
  have hl : (ltS k).size ≤ 1 := by unfold ltS; split <;> decide
  unfold ahS
  generalize nmS n = S at *
  generalize ltS k = L at *
  go_enter Tryz.func74, Tryz.ntmps74
  go_wp2_with (first
    | (go_at_call 99; (with_reducible refine HN.out.mono ?_); rintro e w1 ⟨rfl, hb1⟩)
    | (go_at_call 100; (with_reducible refine (HL.out _).mono ?_); rintro e w2 ⟨rfl, rfl⟩))
  go_ret
  exact ⟨rfl, hb1⟩
theorem ewform_Over (n : Int) (w : World) (hn : (Lit.int .i64 n).wf = true) :
    Calls Tryz.prog 42 #[.int .i64 n] w fun e w' => e = .returned (.int .i64 (ewO n)) ∧ Below w.heap.size w w' := by
  have HI := hid (label_IsCharset n w)
  by_cases h : 1 ≤ n ∧ n ≤ 5
  · rw [decide_eq_true h] at HI
    rw [ewO_eq h]
    obtain ⟨h1, h2⟩ := ahS_size 1 h
    rw [show 7 + ((nmS n).size : Int) = ((ahS n 1).size : Int) + 2 by omega]
    have HA := hid (ewform_ahead n 1)
    generalize ahS n 1 = S at *
    clear h1 h
    go_enter Tryz.func42, Tryz.ntmps42
    go_wp2_with (first
      | (go_at_call 73; (with_reducible refine HI.out.mono ?_); rintro e w1 ⟨rfl, hb1⟩)
      | (go_at_call 74; (with_reducible refine (HA.out _).mono ?_); rintro e w2 ⟨rfl, hb2⟩; have hw2 := below_then hb1 hb2))
    go_ret
    exact ⟨rfl, hw2⟩
  · rw [decide_eq_false h] at HI
    have e0 : ewO n = 0 := by unfold ewO; rw [if_neg h]
    rw [e0]
    clear e0 h
    go_enter Tryz.func42, Tryz.ntmps42
    go_wp2_with (go_at_call 73; (with_reducible refine HI.out.mono ?_); rintro e w1 ⟨rfl, hb1⟩)
    go_ret
    exact ⟨rfl, hb1⟩
/-- The three pieces, joined. -/
theorem cat63 (W : World) (a1 : Option Addr) (l1 c1 : Nat) (A : List Int) (r1 : Reads .u8 W a1 l1 c1 A) (a2 : Option Addr) (l2 c2 : Nat) (T : List Int) (r2 : Reads .u8 W a2 l2 c2 T) (h1 : l1 < 10000000) (h2 : l2 < 10000000) :
    Calls Tryz.prog 84 #[.slice (some ⟨W.heap.size + 1, 0, none⟩) 3 3] ((W.alloc (.cells #[.int .u8 63, .int .u8 61] 5 (2, 3))).alloc (.cells #[.slice a1 l1 c1, .slice a2 l2 c2, .slice (some ⟨W.heap.size, 0, none⟩) 2 2] 42)) fun e w' => ∃ v, e = .returned v ∧ Own .u8 5 W.heap.size w' v (A ++ T ++ [63, 61]) ∧ Below W.heap.size W w' := by
  have b2 := (Below.refl W.heap.size W).alloc (Nat.le_refl _) (.cells #[.int .u8 63, .int .u8 61] 5 (2, 3))
  have b3 := (Below.refl (W.alloc (.cells #[.int .u8 63, .int .u8 61] 5 (2, 3))).heap.size (W.alloc (.cells #[.int .u8 63, .int .u8 61] 5 (2, 3)))).alloc (Nat.le_refl _) (.cells #[.slice a1 l1 c1, .slice a2 l2 c2, .slice (some ⟨W.heap.size, 0, none⟩) 2 2] 42)
  have q1 := (r1.below b2).below b3
  have q2 := (r2.below b2).below b3
  have q3 := (Reads_litB .u8 5 (2, 3) W _ rfl [63, 61] (by decide) (by decide)).below b3
  have hz1 := r1.size
  have hz2 := r2.size
  have R : Rws ((W.alloc (.cells #[.int .u8 63, .int .u8 61] 5 (2, 3))).alloc (.cells #[.slice a1 l1 c1, .slice a2 l2 c2, .slice (some ⟨W.heap.size, 0, none⟩) 2 2] 42)) (some ⟨W.heap.size + 1, 0, none⟩) 3 3 [A, T, [63, 61]] := by
    refine ⟨rfl, by decide, by decide, fun _ => ⟨W.heap.size + 1, 0, rfl, by simp, fun i x hx => ?_⟩⟩
    have hc := fun j (v : Value) (h : (#[.slice a1 l1 c1, .slice a2 l2 c2, .slice (some ⟨W.heap.size, 0, none⟩) 2 2] : Array Value)[j]? = some v) => (show ((W.alloc (.cells #[.int .u8 63, .int .u8 61] 5 (2, 3))).alloc (.cells #[.slice a1 l1 c1, .slice a2 l2 c2, .slice (some ⟨W.heap.size, 0, none⟩) 2 2] 42)).cell? ⟨W.heap.size + 1, 0 + j, none⟩ = some v by
      rw [Nat.zero_add, World.cell?_alloc_at _ _ _ _ (by simp)]
      exact h)
    match i, hx with
    | 0, hx => cases hx; exact ⟨_, _, _, hc 0 _ rfl, q1⟩
    | 1, hx => cases hx; exact ⟨_, _, _, hc 1 _ rfl, q2⟩
    | 2, hx => cases hx; exact ⟨_, _, _, hc 2 _ rfl, q3⟩
    | i + 3, hx => simp at hx
  refine (slices_Concat _ 3 3 _ _ R (by simp; omega) (by decide)).mono ?_
  rintro e w' ⟨v, rfl, ho, hb⟩
  refine ⟨v, rfl, ?_, (b2.trans (b3.mono (by simp))).trans (hb.mono (by simp; omega))⟩
  have h := own_mono ho (show W.heap.size ≤ ((W.alloc (.cells #[.int .u8 63, .int .u8 61] 5 (2, 3))).alloc (.cells #[.slice a1 l1 c1, .slice a2 l2 c2, .slice (some ⟨W.heap.size, 0, none⟩) 2 2] 42)).heap.size by simp; omega)
  simpa using h
set_option maxHeartbeats 2000000 in
theorem ewform_Lay (n k : Int) (a : Option Addr) (len cap : Nat) (xs : List Int) (w : World) (hr : Reads .u8 w a len cap xs) (hN : len < 100000) (hn : (Lit.int .i64 n).wf = true) (hk : (Lit.int .i64 k).wf = true) :
    Calls Tryz.prog 52 #[.int .i64 n, .int .i64 k, .slice a len cap] w fun e w' => ∃ a' l' c', e = .returned (.tuple #[.slice a' l' c', .int .i64 (ewLE n k xs)]) ∧ Reads .u8 w' a' l' c' (ewL n k xs) ∧ Below w.heap.size w w' := by
  have HI := hid (label_IsCharset n w)
  have HK := hid (ewform_isCode k)
  have hsz := hr.size
  by_cases h : 1 ≤ n ∧ n ≤ 5
  · rw [decide_eq_true h] at HI
    by_cases h2 : (k = 1 ∨ k = 2) ∧ xs ≠ []
    · have hkk := h2.1
      have hE : ewLE n k xs = if 75 < (ewX n k xs).length then 12 else 0 := by unfold ewLE; rw [if_pos h, if_pos h2]
      have hL : ewL n k xs = if 75 < (ewX n k xs).length then [] else ewX n k xs := by
        unfold ewL
        rw [hE]
        split <;> simp_all
      rw [decide_eq_true (show 1 ≤ k ∧ k ≤ 2 by omega)] at HK
      have hpos : 0 < len := by have := List.length_pos_iff.2 h2.2; omega
      have hp0 : ((len : Int) == 0) = false := by simp; omega
      have hxl := ewX_len (k := k) h xs
      have hob := ewO_bd n
      have htl := ewTx_len k xs
      have HT := hid (fun W (hb : Below w.heap.size w W) => ewform_textLen k a len cap xs W (hr.below hb) (by omega) hkk)
      have HO := hid (fun W => ewform_Over n W hn)
      rw [hE, hL]
      by_cases h75 : 75 < (ewX n k xs).length
      · rw [if_pos h75, if_pos h75]
        have hgt : (75 : Int) - ewO n < ((ewTx k xs).length : Int) := by omega
        clear hE hL hxl htl h2 hkk hr hsz
        generalize (ewTx k xs).length = TL at *
        generalize ewO n = O at *
        clear h h75
        go_enter Tryz.func52, Tryz.ntmps52
        go_wp2_with (first
          | (go_at_call 73; (with_reducible refine HI.out.mono ?_); rintro e w1 ⟨rfl, hb1⟩)
          | (go_at_call 82; (with_reducible refine (HK.out _).mono ?_); rintro e w' ⟨rfl, rfl⟩)
          | (go_at_call 83; (with_reducible refine (HT.out _ hb1).mono ?_); rintro e w2 ⟨rfl, hb2⟩; have hw2 := below_then hb1 hb2)
          | (go_at_call 42; (with_reducible refine (HO.out _).mono ?_); rintro e w3 ⟨rfl, hb3⟩; have hw3 := below_then hw2 hb3))
        go_ret2
        exact ⟨none, 0, 0, rfl, Reads.nil _ _ _ _ (Nat.zero_le _), hw3⟩
      · rw [if_neg h75, if_neg h75]
        have hgt : ¬ (75 : Int) - ewO n < ((ewTx k xs).length : Int) := by omega
        have HA := hid (ewform_ahead n k)
        have HEn := hid (fun W (hb : Below w.heap.size w W) => ewform_encode k a len cap xs W (hr.below hb) (by omega) hkk)
        have hao := ahS_oct n k hkk
        have has := ahS_size k h
        have hX : Hid ((([61, 63] ++ nmL n ++ ewMk k) ++ ewTx k xs) ++ [63, 61] = ewX n k xs) := rfl
        have htl2 : (ewTx k xs).length < 1000000 := by omega
        clear hE hL hxl htl h2 hkk hr hsz h75
        generalize ewX n k xs = X at *
        generalize ewTx k xs = T at *
        generalize ewO n = O at *
        generalize ahS n k = S at *
        generalize [61, 63] ++ nmL n ++ ewMk k = A at *
        have HS := hid hao
        have hs17 : S.size ≤ 17 := has.2
        clear h hao has
        go_enter Tryz.func52, Tryz.ntmps52
        go_wp2_with (first
          | (go_at_call 73; (with_reducible refine HI.out.mono ?_); rintro e w1 ⟨rfl, hb1⟩)
          | (go_at_call 82; (with_reducible refine (HK.out _).mono ?_); rintro e w' ⟨rfl, rfl⟩)
          | (go_at_call 83; (with_reducible refine (HT.out _ hb1).mono ?_); rintro e w2 ⟨rfl, hb2⟩; have hw2 := below_then hb1 hb2)
          | (go_at_call 42; (with_reducible refine (HO.out _).mono ?_); rintro e w3 ⟨rfl, hb3⟩; have hw3 := below_then hw2 hb3)
          | (go_at_call 74; (with_reducible refine (HA.out _).mono ?_); rintro e w4 ⟨rfl, hb4⟩; have hw4 := below_then hw3 hb4; (obtain ⟨w5, C5, kc, hL5, hb5⟩ := conv_strL (P := Tryz.prog) (src := 9) (dst := 42) (e := 5) Tryz.underlying9 Tryz.underlying42 Tryz.underlying5 w4 S (by omega)); rw [HS.out] at hL5; have r5 := hL5.reads; have hw5 := below_then hw4 hb5)
          | (go_at_call 85; (with_reducible refine (HEn.out _ hw5).mono ?_); rintro e w6 ⟨a6, l6, c6, rfl, r6, hb6⟩; have hw6 := below_then hw5 hb6; have r56 := r5.below hb6; have kc2 := convB (P := Tryz.prog) (t := 42) (e := 5) Tryz.underlying42 Tryz.underlying5 w6 w6.heap.size rfl; have hl6 : l6 < 10000000 := (by have := r6.size; omega))
          | (go_at_call 84; (with_reducible refine (cat63 w6 _ _ _ A r56 _ _ _ T r6 (by omega) hl6).mono ?_); rintro e w7 ⟨v7, rfl, o7, hb7⟩; have hw7 := below_then hw6 hb7; (obtain ⟨a7, n7, c7, rfl, r7⟩ : ∃ a n c, v7 = .slice a n c ∧ Reads .u8 w7 a n c ((A ++ T) ++ [63, 61]) := (by obtain ⟨a, c, h1, h2⟩ := o7.reads; exact ⟨_, _, _, h1, h2⟩))))
        rw [hX.out] at r7
        go_ret2
        exact ⟨_, _, _, rfl, r7, hw7⟩
    · have hE : ewLE n k xs = 3 := by unfold ewLE; rw [if_pos h, if_neg h2]
      have hL : ewL n k xs = [] := by unfold ewL; rw [hE]; rfl
      rw [hE, hL]
      have hD : decide (1 ≤ k ∧ k ≤ 2) = false ∨ (decide (1 ≤ k ∧ k ≤ 2) = true ∧ len = 0) := by
        by_cases hk2 : 1 ≤ k ∧ k ≤ 2
        · refine .inr ⟨decide_eq_true hk2, ?_⟩
          have hx : xs = [] := by
            by_cases hx : xs = []
            · exact hx
            · exact absurd ⟨by omega, hx⟩ h2
          rw [← hsz, hx]; rfl
        · exact .inl (decide_eq_false hk2)
      clear hE hL h2 hr hsz h
      rcases hD with hD | ⟨hD, rfl⟩
      all_goals
        rw [hD] at HK
        clear hD
        go_enter Tryz.func52, Tryz.ntmps52
        go_wp2_with (first
          | (go_at_call 73; (with_reducible refine HI.out.mono ?_); rintro e w1 ⟨rfl, hb1⟩)
          | (go_at_call 82; (with_reducible refine (HK.out _).mono ?_); rintro e w' ⟨rfl, rfl⟩))
        go_ret2
        exact ⟨none, 0, 0, rfl, Reads.nil _ _ _ _ (Nat.zero_le _), hb1⟩
  · rw [decide_eq_false h] at HI
    have hE : ewLE n k xs = 10 := by unfold ewLE; rw [if_neg h]
    have hL : ewL n k xs = [] := by unfold ewL; rw [hE]; rfl
    rw [hE, hL]
    clear hE hL h hr hsz
    go_enter Tryz.func52, Tryz.ntmps52
    go_wp2_with (go_at_call 73; (with_reducible refine HI.out.mono ?_); rintro e w1 ⟨rfl, hb1⟩)
    go_ret2
    exact ⟨none, 0, 0, rfl, Reads.nil _ _ _ _ (Nat.zero_le _), hb1⟩
end Go.Proofs.YtdglnpkkfkagaaaGreat

/-! D30b -/
namespace Go.Proofs.YtdglnpkkfkagaaaGreat
open Go.RowKit
set_option linter.unusedVariables false

/-- What a code has counted of octets: the octets (Base64), or the text's own (Q). -/
def tlyN (k : Int) (s : List Int) : Int := if k = 1 then (s.length : Int) else ((layW s).length : Int)
theorem tly_nil (k : Int) : tlyN k [] = 0 := by unfold tlyN; split <;> rfl
theorem tly_app (k : Int) (s r : List Int) : tlyN k (s ++ r) = tlyN k s + tlyN k r := by
  unfold tlyN
  split
  · rw [List.length_append]; omega
  · rw [layW_app, List.length_append]; omega
theorem tly_bd (k : Int) (s : List Int) : 0 ≤ tlyN k s ∧ tlyN k s ≤ 4 * s.length := by
  unfold tlyN
  split
  · omega
  · have := layW_len s; omega
/-- How many octets the text of what was counted has. -/
def dgN (k z : Int) : Int := if k = 1 then lenB z else z
theorem dg_tly {k : Int} (hk : k = 1 ∨ k = 2) (s : List Int) : dgN k (tlyN k s) = ((ewTx k s).length : Int) := by
  rcases hk with rfl | rfl
  · have e : ewTx 1 s = layB s := rfl
    change lenB (s.length : Int) = _
    rw [e, layB_len]
    unfold lenB
    split <;> omega
  · rfl
theorem dgN_1 (z : Int) : dgN 1 z = lenB z := rfl
theorem dgN_2 (z : Int) : dgN 2 z = z := rfl

/-- One sign more that the charset has. -/
theorem ewcF_step {n k : Int} {t : List Int} {j : Nat} {x : Int} (hk : k = 1 ∨ k = 2) (hx : t.take (j + 1) = t.take j ++ [x]) (ha : (t.take j).all (hasR n) = true) (h0 : layE n [x] = 0) (r : Int) :
    (t.take (j + 1)).all (hasR n) = true ∧ octsR n (t.take (j + 1)) = octsR n (t.take j) ++ layL n [x] ∧ ewcF n k (t.take (j + 1)) r = decide (ewO n + dgN k (tlyN k (octsR n (t.take (j + 1)))) ≤ min r 75) := by
  rw [dg_tly hk]
  obtain ⟨hn, h1⟩ := layE_zero h0
  have hall : (t.take (j + 1)).all (hasR n) = true := by rw [hx, List.all_append, ha, h1]; rfl
  have hE : ewcE n k (t.take (j + 1)) = 0 := by unfold ewcE; rw [if_pos hn, if_pos hk]; exact (lay_in hn hall).2
  refine ⟨hall, ?_, ?_⟩
  · rw [(lay_in hn h1).1, hx]
    unfold octsR
    rw [List.flatMap_append]
  · have hne : t.take (j + 1) ≠ [] := by rw [hx]; simp
    have hL : ewcL n k (t.take (j + 1)) = ewO n + ((ewTx k (octsR n (t.take (j + 1)))).length : Int) := by
      unfold ewcL ewcT
      rw [if_pos hE, (lay_in hn hall).1]
    unfold ewcF
    rw [decide_eq_true hE, decide_eq_true hne, hL, Bool.true_and, Bool.true_and, ← Bool.decide_and]
    congr 1
    apply propext
    omega
/-- One that it has not. -/
theorem ewcF_stop {n k : Int} {t : List Int} {j : Nat} {x : Int} (hx : t.take (j + 1) = t.take j ++ [x]) (h0 : layE n [x] ≠ 0) (r : Int) : ewcF n k (t.take (j + 1)) r = false := by
  refine (ewcL_no fun h => ?_).2 r
  obtain ⟨hn, _, h3, _, _⟩ := ewcE_zero h
  rw [hx, List.all_append, Bool.and_eq_true] at h3
  exact h0 (lay_in hn h3.2).2
theorem ewcP_none {n k : Int} {t : List Int} {r : Int} (hk : ¬ (k = 1 ∨ k = 2)) : ewcP n k t r = 0 := by
  refine ewcP_at (Nat.zero_le _) (fun i hi => absurd hi (Nat.not_lt_zero _)) (fun _ => (ewcL_no fun h => ?_).2 r)
  exact hk (ewcE_zero h).2.1
/-- A text fits just if all of it does, and there is some. -/
theorem ewcF_all (n k : Int) (t : List Int) (r : Int) : ewcF n k t r = (decide (0 < t.length) && decide (ewcP n k t r = t.length)) := by
  by_cases hne : t = []
  · subst hne
    unfold ewcF
    simp
  · have hp : 0 < t.length := List.length_pos_iff.2 hne
    rw [decide_eq_true hp, Bool.true_and]
    by_cases h : ewcF n k t r = true
    · rw [h]
      obtain ⟨h0, _, h1, h2⟩ := ewcF_iff.1 h
      refine (decide_eq_true (ewcP_at (Nat.le_refl _) (fun i hi => ewcF_iff.2 ⟨ewcE_take h0 _, ?_, ?_, ?_⟩) (fun hh => absurd hh (Nat.lt_irrefl _)))).symm
      · intro hh
        have := congrArg List.length hh
        rw [List.length_take, List.length_nil] at this
        omega
      · exact Int.le_trans (ewcL_mono h0 _) h1
      · exact Int.le_trans (ewcL_mono h0 _) h2
    · rw [Bool.not_eq_true] at h
      rw [h]
      refine (decide_eq_false fun hh => ?_).symm
      have := ewcP_ok (n := n) (k := k) (t := t) (r := r) (by omega)
      rw [hh, List.take_length, h] at this
      cases this
end Go.Proofs.YtdglnpkkfkagaaaGreat
