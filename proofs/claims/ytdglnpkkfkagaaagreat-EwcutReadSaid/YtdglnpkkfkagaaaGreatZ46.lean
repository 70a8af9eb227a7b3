/-
  Texts of ours laid together: Alive31, R29d.
-/
import Derived.Test.YtdglnpkkfkagaaaGreatZ45

/-! Alive31 -/
namespace Go.Proofs.YtdglnpkkfkagaaaGreat
open Go.RowKit
set_option linter.unusedVariables false

abbrev wd31 : List Int := [61, 63, 105, 115, 111, 45, 56, 56, 53, 57, 45, 49, 63, 81, 63, 61, 69, 57, 63, 61]
theorem v31_a : wrdE [233] 75 = 0 ∧ jnF (wrdL [233] 75) = wd31 ∧ (wrdL [233] 75).length = 1 := by decide +kernel
theorem v31_b : wrdE [233] 10 = 12 := by decide +kernel
theorem str31 : strB wd31 = { data := #[61, 63, 105, 115, 111, 45, 56, 56, 53, 57, 45, 49, 63, 81, 63, 61, 69, 57, 63, 61] } := by rfl
theorem al31_f (w : World) (B : Nat) (hB : w.heap.size = B) : Calls Tryz.prog 14 #[.slice (some ⟨B, 0, none⟩) 1 1, .int .i64 75] (w.alloc (.cells #[.int .i32 233] 21)) fun e w' => ∃ a' l' c', e = .returned (.tuple #[.slice a' l' c', .int .i64 0]) ∧ Reads .u8 w' a' l' c' wd31 ∧ Below w.heap.size w w' := by
  subst hB
  have h2 := ewcut_Fold _ 1 1 [233] 75 _ (Reads.lit .i32 21 w [233] (by decide) (by decide)) (by decide) (by decide)
  rw [v31_a.1, v31_a.2.1] at h2
  refine h2.mono ?_
  rintro e w' ⟨a', l', c', rfl, hr, hb⟩
  exact ⟨_, _, _, rfl, hr, ((Below.refl _ _).alloc (Nat.le_refl _) _).trans (hb.mono (by simp))⟩
theorem al31_w (w : World) (B : Nat) (hB : w.heap.size = B) : Calls Tryz.prog 12 #[.slice (some ⟨B, 0, none⟩) 1 1, .int .i64 10] (w.alloc (.cells #[.int .i32 233] 21)) fun e w' => ∃ a' l' c', e = .returned (.tuple #[.slice a' l' c', .int .i64 12]) ∧ Below w.heap.size w w' := by
  subst hB
  have h2 := ewcut_Words _ 1 1 [233] 10 _ (Reads.lit .i32 21 w [233] (by decide) (by decide)) (by decide) (by decide)
  rw [v31_b] at h2
  refine h2.mono ?_
  rintro e w' ⟨a', l', c', rfl, _, hb⟩
  exact ⟨_, _, _, rfl, ((Below.refl _ _).alloc (Nat.le_refl _) _).trans (hb.mono (by simp))⟩
theorem al31_c (w : World) (B : Nat) (hB : w.heap.size = B) : Calls Tryz.prog 17 #[.slice (some ⟨B, 0, none⟩) 1 1, .int .i64 75] (w.alloc (.cells #[.int .i32 233] 21)) fun e w' => e = .returned (.int .i64 1) ∧ Below w.heap.size w w' := by
  subst hB
  have h2 := ewcut_Count _ 1 1 [233] 75 _ (Reads.lit .i32 21 w [233] (by decide) (by decide)) (by decide) (by decide)
  rw [v31_a.2.2] at h2
  refine h2.mono ?_
  rintro e w' ⟨rfl, hb⟩
  exact ⟨rfl, ((Below.refl _ _).alloc (Nat.le_refl _) _).trans (hb.mono (by simp))⟩
set_option maxHeartbeats 1000000 in
theorem alive31_any (w : World) : Calls Tryz.prog 6 #[] w fun e w' => e = .returned (.bool true) ∧ Below w.heap.size w w' := by
  go_enter Tryz.func6, Tryz.ntmps6
  go_wp2_with (first
    | (go_at_call 14; (with_reducible refine (al31_f w _ rfl).mono ?_); rintro e w1 ⟨a1, l1, c1, rfl, r1, h1⟩)
    | (go_at_call 12; (with_reducible refine (al31_w w1 _ rfl).mono ?_); rintro e w2 ⟨a2, l2, c2, rfl, h2⟩; have t2 := below_then h1 h2; have k2 := (r1.below h2).string (P := Tryz.prog) Tryz.underlying42 Tryz.underlying5 Tryz.underlying9; rw [str31] at k2)
    | (go_at_call 17; (with_reducible refine (al31_c w2 _ rfl).mono ?_); rintro e w3 ⟨rfl, h3⟩; have t3 := below_then t2 h3))
  go_ret
  exact ⟨rfl, t3⟩
/-- Two lists of rows of signs are the same: the loop's round. -/
theorem like3_draws (ai : Option Addr) (li ci : Nat) (ai2 : Option Addr) (li2 ci2 : Nat) (x : List Int) (w : World) (hx : Reads .i32 w ai li ci x) (hx2 : Reads .i32 w ai2 li2 ci2 x) (q : Nat) :
    Calls Tryz.prog 11 #[.slice ai li ci, .slice ai2 li2 ci2] (w.drewN q) fun e w' => e = .returned (.bool true) ∧ ∃ m, w' = (w.drewN q).drewN m := by
  have := ref03_Like ai li ci x ai2 li2 ci2 x (w.drewN q) (hx.below (Below.drewN (Below.refl _ _) q)) (hx2.below (Below.drewN (Below.refl _ _) q))
  rwa [decide_eq_true rfl] at this
theorem like1_draws (ai : Option Addr) (li ci : Nat) (ai2 : Option Addr) (li2 ci2 : Nat) (x : List Int) (w : World) (hx : Reads .u8 w ai li ci x) (hx2 : Reads .u8 w ai2 li2 ci2 x) (q : Nat) :
    Calls Tryz.prog 16 #[.slice ai li ci, .slice ai2 li2 ci2] (w.drewN q) fun e w' => e = .returned (.bool true) ∧ ∃ m, w' = (w.drewN q).drewN m := by
  have := like_r ai li ci x ai2 li2 ci2 x (w.drewN q) (hx.below (Below.drewN (Below.refl _ _) q)) (hx2.below (Below.drewN (Below.refl _ _) q))
  rwa [decide_eq_true rfl] at this
end Go.Proofs.YtdglnpkkfkagaaaGreat

/-! R29d -/
namespace Go.Proofs.YtdglnpkkfkagaaaGreat
open Go.RowKit
set_option linter.unusedVariables false

theorem octB_app (a b : ByteArray) : octB' (a ++ b) = octB' a ++ octB' b := by
  unfold octB'
  rw [ByteArray.data_append, Array.toList_append, List.map_append]
theorem nm_str (n : Int) (mk : UInt8) : (({ data := #[61, 63] } ++ nmS n ++ { data := #[63, mk, 63] }) : ByteArray).size = 2 + (nmS n).size + 3 := by
  rw [ByteArray.size_append, ByteArray.size_append]; rfl
theorem LO.new {k : IntKind} {e : TypeId} {base : Nat} {w : World} {a : Option Addr} {l c : Nat} {xs : List Int} (h : LO k e base w (.slice a l c) xs) : New base a l := by
  rcases h with h | ⟨g, n, c', hv, h⟩
  · exact New.own h
  · cases hv
    intro b off _ ha
    cases ha
    exact h.lo
theorem New.nil (n : Nat) (a : Option Addr) : New n a 0 := fun _ _ h => absurd h (Nat.lt_irrefl _)
set_option maxRecDepth 100000 in
set_option maxHeartbeats 4000000 in
theorem ref29_LayN (n k : Int) (a : Option Addr) (len cap : Nat) (xs : List Int) (w : World) (hr : Reads .u8 w a len cap xs) (hN : len < 1000000) :
    Calls Tryz.prog 32 #[.int .i64 n, .int .i64 k, .slice a len cap] w fun e w' => ∃ a' l' c', e = .returned (.tuple #[.slice a' l' c', .int .i64 (ewLE n k xs)]) ∧ Reads .u8 w' a' l' c' (ewL n k xs) ∧ New w.heap.size a' l' ∧ Below w.heap.size w w' := by
  by_cases hn : 1 ≤ n ∧ n ≤ 5
  · have q1 : ¬ n < 1 := by omega
    have q2 : ¬ 5 < n := by omega
    by_cases hk : (k = 1 ∨ k = 2) ∧ xs ≠ []
    · have hs := nm_size hn
      have hxl := ewX_len (k := k) hn xs
      have hoe := ewO_eq hn
      have hsz := hr.size
      have hpos : 0 < len := by have := List.length_pos_iff.2 hk.2; omega
      have hp0 : ((len : Int) == 0) = false := by simp; omega
      have HN := hid (ref11_Name n)
      have HB := hid (ref14_Lay a len cap xs w hr (by omega))
      have HQ := hid (fun W (hW : Below w.heap.size w W) => ref20_Lay a len cap xs W (hr.below hW) (by omega))
      have hLE : ewLE n k xs = if 75 < (ewX n k xs).length then 12 else 0 := by unfold ewLE; rw [if_pos hn, if_pos hk]
      have hL : ewL n k xs = if 75 < (ewX n k xs).length then [] else ewX n k xs := by
        unfold ewL
        rw [hLE]
        split <;> simp_all
      rw [hLE, hL]
      change Hid (∀ w : World, Calls Tryz.prog 54 #[.int .i64 n] w fun e w' => e = .returned (.string (nmS n)) ∧ Below w.heap.size w w') at HN
      rcases hk.1 with rfl | rfl
      · have hX : Hid (([61, 63] ++ octB' (nmS n) ++ [63, 66, 63]) ++ layB xs ++ [63, 61] = ewX n 1 xs) := by unfold Hid ewX ewMk ewTx; rw [if_neg (by decide), if_neg (by decide)]; rfl
        have hXl := hid (show (ewX n 1 xs).length ≤ 10000000 by have := ewTx_len 1 xs; have := hs.2; omega)
        have ht := hid (show (layB xs).length ≤ 4000000 by have := ewTx_len 1 xs; unfold ewTx at this; rw [if_neg (by decide)] at this; omega)
        clear hxl hoe hLE hL hk hr hsz hn
        obtain ⟨XL, hXL⟩ : ∃ XL, XL = ewX n 1 xs := ⟨_, rfl⟩
        rw [← hXL] at hX hXl ⊢
        clear hXL
        by_cases h75 : 75 < XL.length
        all_goals
          have H75 := hid h75
          first | rw [if_pos h75, if_pos h75] | rw [if_neg h75, if_neg h75]
          clear h75
          go_enter Tryz.func32, Tryz.ntmps32
          go_wp2_with (first
            | (at_builtin; have hY := ho4; clear hY; go_must (refine wpList_moreL (B0 := w2.heap.size) (W := w4.alloc (.cells #[.int .u8 63, .int .u8 61] 5)) (v := .slice a4 n4 c4) (ao := some ⟨w4.heap.size, 0, none⟩) (m := 2) (c := 2) (ys := [63, 61]) ST8 rfl _ _ rfl rfl rfl (ho4.below ((Below.refl _ _).alloc (Nat.le_refl _) _)) (by rw [World.size_alloc]; have := hb3.size; have := hb4.size; omega) (Reads.lit .u8 5 w4 [63, 61] (by decide) (by decide)) (by have h := congrArg List.length hX.out; simp only [List.length_append, List.length_cons, List.length_nil] at h ⊢; have := hXl.out; omega) ?_); intro a5 n5 c5 w5 ho5 hb5; have hn5 := LO.new ho5; (obtain ⟨a6, n6, c6, hv6, r6⟩ := ho5.reads); cases hv6; rw [hX.out] at r6; have hz := r6.size; have h75' := H75.out; rw [hz] at h75'; clear hz; first | have h75i : (75 : Int) < (n5 : Int) := (by omega) | have h75i : ¬ (75 : Int) < (n5 : Int) := (by omega))
            | (at_builtin; go_must (refine wpList_moreL (B0 := w2.heap.size) (v := .slice (some ⟨w2.heap.size, 0, none⟩) N3 C3) (ao := a1) (m := (layB xs).length) (c := c1) ST8 rfl _ _ rfl rfl rfl (.inr ⟨_, _, _, rfl, hL3⟩) hb3.size ((r1.below hb2).below hb3) (by have := hs.1; have := ht.out; have := hL3.len; omega) ?_); intro a4 n4 c4 w4 ho4 hb4)
            | (go_at_call 46; (with_reducible refine HB.out.mono ?_); rintro e w1 ⟨v1, rfl, ho1, hb1⟩; (obtain ⟨a1, c1, rfl, r1⟩ := ho1.reads))

            | (go_at_call 54; (with_reducible refine (HN.out _).mono ?_); rintro e w2 ⟨rfl, hb2⟩; (obtain ⟨w3, C3, kc, hL3, hb3⟩ := conv_strL (P := Tryz.prog) (src := 9) (dst := 42) (e := 5) Tryz.underlying9 Tryz.underlying42 Tryz.underlying5 w2 ({ data := #[61, 63] } ++ nmS n ++ { data := #[63, 66, 63] }) (by rw [nm_str]; omega)); (obtain ⟨N3, hN3⟩ : ∃ N, N = (({ data := #[61, 63] } ++ nmS n ++ { data := #[63, 66, 63] }) : ByteArray).size := ⟨_, rfl⟩); rw [← hN3] at kc hL3; have hN3' : N3 ≤ 20 := (by rw [hN3, nm_str]; omega); clear hN3; rw [octB_app, octB_app] at hL3; change Lw .u8 w2.heap.size w3 w2.heap.size N3 C3 ([61, 63] ++ octB' (nmS n) ++ [63, 66, 63]) at hL3))
          have hw2 := below_then hb1 hb2
          have hs4 : w2.heap.size ≤ w4.heap.size := Nat.le_trans hb3.size hb4.size
          have hb25 := ((hb3.trans hb4).trans ((Below.refl w2.heap.size w4).alloc hs4 (.cells #[.int .u8 63, .int .u8 61] 5))).trans hb5
          have hbw := below_then hw2 hb25
          go_ret2
          first
          | exact ⟨none, 0, 0, rfl, Reads.nil _ _ _ _ (Nat.zero_le _), New.nil _ _, hbw⟩
          | exact ⟨_, _, _, rfl, r6, hn5.mono hw2.size, hbw⟩
      · have hX : Hid (([61, 63] ++ octB' (nmS n) ++ [63, 81, 63]) ++ layW xs ++ [63, 61] = ewX n 2 xs) := by unfold Hid ewX ewMk ewTx; rw [if_pos rfl, if_pos rfl]; rfl
        have hXl := hid (show (ewX n 2 xs).length ≤ 10000000 by have := ewTx_len 2 xs; have := hs.2; omega)
        have ht := hid (show (layW xs).length ≤ 4000000 by have := ewTx_len 2 xs; unfold ewTx at this; rw [if_pos rfl] at this; omega)
        clear hxl hoe hLE hL hk hr hsz hn
        obtain ⟨XL, hXL⟩ : ∃ XL, XL = ewX n 2 xs := ⟨_, rfl⟩
        rw [← hXL] at hX hXl ⊢
        clear hXL
        by_cases h75 : 75 < XL.length
        all_goals
          have H75 := hid h75
          first | rw [if_pos h75, if_pos h75] | rw [if_neg h75, if_neg h75]
          clear h75
          go_enter Tryz.func32, Tryz.ntmps32
          go_wp2_with (first
            | (at_builtin; have hY := ho4; clear hY; go_must (refine wpList_moreL (B0 := w2.heap.size) (W := w4.alloc (.cells #[.int .u8 63, .int .u8 61] 5)) (v := .slice a4 n4 c4) (ao := some ⟨w4.heap.size, 0, none⟩) (m := 2) (c := 2) (ys := [63, 61]) ST8 rfl _ _ rfl rfl rfl (ho4.below ((Below.refl _ _).alloc (Nat.le_refl _) _)) (by rw [World.size_alloc]; have := hb3.size; have := hb4.size; omega) (Reads.lit .u8 5 w4 [63, 61] (by decide) (by decide)) (by have h := congrArg List.length hX.out; simp only [List.length_append, List.length_cons, List.length_nil] at h ⊢; have := hXl.out; omega) ?_); intro a5 n5 c5 w5 ho5 hb5; have hn5 := LO.new ho5; (obtain ⟨a6, n6, c6, hv6, r6⟩ := ho5.reads); cases hv6; rw [hX.out] at r6; have hz := r6.size; have h75' := H75.out; rw [hz] at h75'; clear hz; first | have h75i : (75 : Int) < (n5 : Int) := (by omega) | have h75i : ¬ (75 : Int) < (n5 : Int) := (by omega))
            | (at_builtin; go_must (refine wpList_moreL (B0 := w2.heap.size) (v := .slice (some ⟨w2.heap.size, 0, none⟩) N3 C3) (ao := a7) (m := (layW xs).length) (c := c7) ST8 rfl _ _ rfl rfl rfl (.inr ⟨_, _, _, rfl, hL3⟩) hb3.size ((r7.below hb2).below hb3) (by have := hs.1; have := ht.out; have := hL3.len; omega) ?_); intro a4 n4 c4 w4 ho4 hb4)
            | (go_at_call 46; (with_reducible refine HB.out.mono ?_); rintro e w1 ⟨v1, rfl, ho1, hb1⟩; (obtain ⟨a1, c1, rfl, r1⟩ := ho1.reads))

            | (go_at_call 47; (with_reducible refine (HQ.out _ hb1).mono ?_); rintro e w7 ⟨v7, rfl, ho7, hb7⟩; (obtain ⟨a7, c7, rfl, r7⟩ := ho7.reads); have hw7 := below_then hb1 hb7)
            | (go_at_call 54; (with_reducible refine (HN.out _).mono ?_); rintro e w2 ⟨rfl, hb2⟩; (obtain ⟨w3, C3, kc, hL3, hb3⟩ := conv_strL (P := Tryz.prog) (src := 9) (dst := 42) (e := 5) Tryz.underlying9 Tryz.underlying42 Tryz.underlying5 w2 ({ data := #[61, 63] } ++ nmS n ++ { data := #[63, 81, 63] }) (by rw [nm_str]; omega)); (obtain ⟨N3, hN3⟩ : ∃ N, N = (({ data := #[61, 63] } ++ nmS n ++ { data := #[63, 81, 63] }) : ByteArray).size := ⟨_, rfl⟩); rw [← hN3] at kc hL3; have hN3' : N3 ≤ 20 := (by rw [hN3, nm_str]; omega); clear hN3; rw [octB_app, octB_app] at hL3; change Lw .u8 w2.heap.size w3 w2.heap.size N3 C3 ([61, 63] ++ octB' (nmS n) ++ [63, 81, 63]) at hL3))
          have hw2 := below_then hw7 hb2
          have hs4 : w2.heap.size ≤ w4.heap.size := Nat.le_trans hb3.size hb4.size
          have hb25 := ((hb3.trans hb4).trans ((Below.refl w2.heap.size w4).alloc hs4 (.cells #[.int .u8 63, .int .u8 61] 5))).trans hb5
          have hbw := below_then hw2 hb25
          go_ret2
          first
          | exact ⟨none, 0, 0, rfl, Reads.nil _ _ _ _ (Nat.zero_le _), New.nil _ _, hbw⟩
          | exact ⟨_, _, _, rfl, r6, hn5.mono hw2.size, hbw⟩
    · have hLE : ewLE n k xs = 3 := by unfold ewLE; rw [if_pos hn, if_neg hk]
      have hL : ewL n k xs = [] := by unfold ewL; rw [hLE]; rfl
      rw [hLE, hL]
      have hsz := hr.size
      have hK : ((k == 1) = false ∧ (k == 2) = false) ∨ ((k = 1 ∨ k = 2) ∧ len = 0) := by
        by_cases h1 : k = 1 ∨ k = 2
        · refine .inr ⟨h1, ?_⟩
          by_cases hx : xs = []
          · rw [← hsz, hx]; rfl
          · exact absurd ⟨h1, hx⟩ hk
        · exact .inl ⟨by simp; omega, by simp; omega⟩
      clear hk hr hsz hn hLE hL
      rcases hK with ⟨h1, h2⟩ | ⟨rfl | rfl, rfl⟩
      all_goals
        go_enter Tryz.func32, Tryz.ntmps32
        go_wp2_with fail
        go_ret2
        exact ⟨none, 0, 0, rfl, Reads.nil _ _ _ _ (Nat.zero_le _), New.nil _ _, Below.refl _ _⟩
  · have hLE : ewLE n k xs = 10 := by unfold ewLE; rw [if_neg hn]
    have hL : ewL n k xs = [] := by unfold ewL; rw [hLE]; rfl
    rw [hLE, hL]
    clear hLE hL hr
    rcases (show n < 1 ∨ (¬ n < 1 ∧ 5 < n) by omega) with h | ⟨h, h2⟩
    all_goals
      clear hn
      go_enter Tryz.func32, Tryz.ntmps32
      go_wp2_with fail
      go_ret2
      exact ⟨none, 0, 0, rfl, Reads.nil _ _ _ _ (Nat.zero_le _), New.nil _ _, Below.refl _ _⟩
theorem ref29_Lay (n k : Int) (a : Option Addr) (len cap : Nat) (xs : List Int) (w : World) (hr : Reads .u8 w a len cap xs) (hN : len < 1000000) :
    Calls Tryz.prog 32 #[.int .i64 n, .int .i64 k, .slice a len cap] w fun e w' => ∃ a' l' c', e = .returned (.tuple #[.slice a' l' c', .int .i64 (ewLE n k xs)]) ∧ Reads .u8 w' a' l' c' (ewL n k xs) ∧ Below w.heap.size w w' := by
  refine (ref29_LayN n k a len cap xs w hr hN).mono ?_
  rintro e w' ⟨a', l', c', rfl, h1, _, h3⟩
  exact ⟨_, _, _, rfl, h1, h3⟩
end Go.Proofs.YtdglnpkkfkagaaaGreat
