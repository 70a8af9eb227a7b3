/-
  Contracts of package label's functions (those that the translation has).
-/
import Derived.Test.YtffjiidegnblbaaRows
import Derived.Test.YtffjiidegnblbaaC01
import Derived.Test.YtffjiidegnblbaaC01k
import Derived.Test.YtffjiidegnblbaaD11
import Derived.Test.YtffjiidegnblbaaByt
import Derived.Test.YtffjiidegnblbaaMapN
namespace Go.Proofs.Ytffjiidegnblbaa
open Go.RowKit Go.Maps Go.WideMaps
set_option linter.unusedVariables false

theorem strB_size (xs : List Int) : (strB xs).size = xs.length := by unfold strB; simp [ByteArray.size]
set_option maxHeartbeats 1000000 in
theorem label_NamesF (n : Int) (w : World) :
    Calls Try.prog 13 #[.int .i64 n] w fun e w' => ∃ a, e = .returned (.slice a (nm11 n).length (nm11 n).length) ∧ Txts w' a (nm11 n) ∧ Below w.heap.size w w' ∧ ∀ p, a = some p → w.heap.size ≤ p.block := by
  by_cases h1 : n = 1
  · subst h1
    go_enter Try.func13, Try.ntmps13
    go_wp2
    go_ret
    exact ⟨_, rfl, Txts.lit w 9 (nm11 1), (Below.refl _ _).alloc (Nat.le_refl _) _, fun p hp => by cases hp; exact Nat.le_refl _⟩
  by_cases h2 : n = 2
  · subst h2
    go_enter Try.func13, Try.ntmps13
    go_wp2
    go_ret
    exact ⟨_, rfl, Txts.lit w 9 (nm11 2), (Below.refl _ _).alloc (Nat.le_refl _) _, fun p hp => by cases hp; exact Nat.le_refl _⟩
  by_cases h3 : n = 3
  · subst h3
    go_enter Try.func13, Try.ntmps13
    go_wp2
    go_ret
    exact ⟨_, rfl, Txts.lit w 9 (nm11 3), (Below.refl _ _).alloc (Nat.le_refl _) _, fun p hp => by cases hp; exact Nat.le_refl _⟩
  by_cases h4 : n = 4
  · subst h4
    go_enter Try.func13, Try.ntmps13
    go_wp2
    go_ret
    exact ⟨_, rfl, Txts.lit w 9 (nm11 4), (Below.refl _ _).alloc (Nat.le_refl _) _, fun p hp => by cases hp; exact Nat.le_refl _⟩
  by_cases h5 : n = 5
  · subst h5
    go_enter Try.func13, Try.ntmps13
    go_wp2
    go_ret
    exact ⟨_, rfl, Txts.lit w 9 (nm11 5), (Below.refl _ _).alloc (Nat.le_refl _) _, fun p hp => by cases hp; exact Nat.le_refl _⟩
  have e : Hid (nm11 n = []) := by unfold Hid nm11; rw [if_neg h1, if_neg h2, if_neg h3, if_neg h4, if_neg h5]
  have b1 : (n == 1) = false := by simpa using h1
  have b2 : (n == 2) = false := by simpa using h2
  have b3 : (n == 3) = false := by simpa using h3
  have b4 : (n == 4) = false := by simpa using h4
  have b5 : (n == 5) = false := by simpa using h5
  clear h1 h2 h3 h4 h5
  go_enter Try.func13, Try.ntmps13
  go_wp2
  go_ret
  exact ⟨none, by rw [e.out]; rfl, by rw [e.out]; exact Txts.none _ _, Below.refl _ _, fun p hp => by cases hp⟩
theorem label_Names (n : Int) (w : World) :
    Calls Try.prog 13 #[.int .i64 n] w fun e w' => ∃ a, e = .returned (.slice a (nm11 n).length (nm11 n).length) ∧ Txts w' a (nm11 n) ∧ Below w.heap.size w w' :=
  (label_NamesF n w).mono fun _ _ ⟨a, h1, h2, h3, _⟩ => ⟨a, h1, h2, h3⟩
theorem label_IsCharset (n : Int) (w : World) :
    Calls Try.prog 17 #[.int .i64 n] w fun e w' => e = .returned (.bool (decide (1 ≤ n ∧ n ≤ 5))) ∧ Below w.heap.size w w' := by
  by_cases h0 : 1 ≤ n
  · by_cases h1 : n ≤ 5
    · go_enter Try.func17, Try.ntmps17
      go_wp2
      go_ret
      exact ⟨ret_bool (by simp [h0, h1]), Below.refl _ _⟩
    · go_enter Try.func17, Try.ntmps17
      go_wp2
      go_ret
      exact ⟨ret_bool (by have : ¬ n ≤ 5 := by omega
                          simp [this]), Below.refl _ _⟩
  · go_enter Try.func17, Try.ntmps17
    go_wp2
    go_ret
    exact ⟨ret_bool (by have : ¬ 1 ≤ n := by omega
                        simp [this]), Below.refl _ _⟩
theorem label_IsCoding (n : Int) (w : World) :
    Calls Try.prog 15 #[.int .i64 n] w fun e w' => e = .returned (.bool (decide (1 ≤ n ∧ n ≤ 3))) ∧ Below w.heap.size w w' := by
  by_cases h0 : 1 ≤ n
  · by_cases h1 : n ≤ 3
    · go_enter Try.func15, Try.ntmps15
      go_wp2
      go_ret
      exact ⟨ret_bool (by simp [h0, h1]), Below.refl _ _⟩
    · go_enter Try.func15, Try.ntmps15
      go_wp2
      go_ret
      exact ⟨ret_bool (by have : ¬ n ≤ 3 := by omega
                          simp [this]), Below.refl _ _⟩
  · go_enter Try.func15, Try.ntmps15
    go_wp2
    go_ret
    exact ⟨ret_bool (by have : ¬ 1 ≤ n := by omega
                        simp [this]), Below.refl _ _⟩
theorem label_CodingName (n : Int) (w : World) :
    Calls Try.prog 14 #[.int .i64 n] w fun e w' => e = .returned (.string (cd11 n)) ∧ Below w.heap.size w w' := by
  by_cases h1 : n = 1
  · subst h1
    go_enter Try.func14, Try.ntmps14
    go_wp2
    go_ret
    exact ⟨rfl, Below.refl _ _⟩
  by_cases h2 : n = 2
  · subst h2
    go_enter Try.func14, Try.ntmps14
    go_wp2
    go_ret
    exact ⟨rfl, Below.refl _ _⟩
  by_cases h3 : n = 3
  · subst h3
    go_enter Try.func14, Try.ntmps14
    go_wp2
    go_ret
    exact ⟨rfl, Below.refl _ _⟩
  have e : Hid (cd11 n = ⟨#[]⟩) := by unfold Hid cd11; rw [if_neg h1, if_neg h2, if_neg h3]
  have b1 : (n == 1) = false := by simpa using h1
  have b2 : (n == 2) = false := by simpa using h2
  have b3 : (n == 3) = false := by simpa using h3
  clear h1 h2 h3
  go_enter Try.func14, Try.ntmps14
  go_wp2
  go_ret
  exact ⟨by rw [e.out]; rfl, Below.refl _ _⟩
theorem label_Name (n : Int) (w : World) :
    Calls Try.prog 16 #[.int .i64 n] w fun e w' => e = .returned (.string ((nm11 n).headD ⟨#[]⟩)) ∧ Below w.heap.size w w' := by
  cases hl : nm11 n with
  | nil =>
    have hd : decide (1 ≤ n ∧ n ≤ 5) = false := by
      have := nm_in n
      rw [hl] at this
      simpa using this
    go_enter Try.func16, Try.ntmps16
    go_wp2_with (go_at_call 17; (with_reducible refine (label_IsCharset _ _).mono ?_); rintro e w1 ⟨rfl, hb1⟩; rw [hd])
    go_ret
    exact ⟨rfl, hb1⟩
  | cons s l =>
    have hd : decide (1 ≤ n ∧ n ≤ 5) = true := by
      have := nm_in n
      rw [hl] at this
      simpa using this
    have hF := fun w => label_NamesF n w
    rw [hl] at hF
    have HF := hid hF
    clear hF hl
    go_enter Try.func16, Try.ntmps16
    go_wp2_with (first
      | (go_at_call 17; (with_reducible refine (label_IsCharset _ _).mono ?_); rintro e w1 ⟨rfl, hb1⟩; rw [hd])
      | (go_at_call 13; (with_reducible refine (HF.out _).mono ?_); rintro e w3 ⟨a3, rfl, hT, hb3, _⟩; obtain ⟨b, off, rfl, _, hc⟩ := hT 0 s rfl; rw [Nat.add_zero] at hc; have hb3' := below_then hb1 hb3))
    go_ret
    exact ⟨rfl, hb3'⟩
theorem bare_cut (xs : List Int) : trimL (isB 2) (xs.takeWhile (notO 42)) = bareL xs := rfl
set_option maxHeartbeats 1000000 in
theorem label_Bare (a : Option Addr) (len cap : Nat) (xs : List Int) (w : World) (hr : Reads .u8 w a len cap xs) (hN : len < 1000000000) :
    Calls Try.prog 11 #[.slice a len cap] w fun e w' => ∃ a' len' cap', e = .returned (.slice a' len' cap') ∧ Reads .u8 w' a' len' cap' (bareL xs) ∧ Below w.heap.size w w' := by
  have hlit : Reads .u8 (w.alloc (.cells #[.int .u8 42] 5)) (some ⟨w.heap.size, 0, none⟩) 1 1 [42] := Reads.lit .u8 5 w [42] (by decide) (by decide)
  have hba : Below w.heap.size w (w.alloc (.cells #[.int .u8 42] 5)) := (Below.refl _ _).alloc (Nat.le_refl _) _
  have HR := hid (hr.below hba)
  have hsz := hr.size
  have HL := hid hlit
  clear hr hlit
  go_enter Try.func11, Try.ntmps11
  go_wp2_with (first
    | (go_at_call 26; (with_reducible refine (bytes_Cut1 HR.out HL.out).mono ?_); rintro e w1 ⟨l1, v1, rfl, hr1, n1, rfl⟩; have hb1 := Below.drewN hba n1; have hl1 : l1 < 1000000000 := (by have := hr1.size; have := (List.takeWhile_sublist (notO 42) (l := xs)).length_le; omega); have hr1' := hr1.below (Below.drewN (Below.refl _ _) n1))
    | (go_at_call 23; (with_reducible refine (trim_c _ _ _ _ _ hr1' (by omega)).mono ?_); rintro e w2 ⟨a2, l2, c2, rfl, hr2, hb2⟩; have hb2' := below_then hb1 hb2))
  go_ret
  exact ⟨_, _, _, rfl, hr2, hb2'⟩
theorem law9 : Keyed Try.prog 9 := string_keyed Try.underlying9
theorem zero3 (w : World) : (zeroValue 3).run Try.prog w = .ok (.int .i64 0) w := by kernel_rfl
set_option maxRecDepth 100000 in
set_option maxHeartbeats 2000000 in
theorem label_charsets (w : World) :
    Calls Try.prog 18 #[] w fun e w' => e = .returned (.map (some w.heap.size)) ∧ w'.ownsMap Try.prog 9 (plainElem (H := Unit) Try.prog 3) w.heap.size 15 (mapN csAll) ∧ Below w.heap.size w w' := by
  have hmm := @run_makeMap Try.prog
  go_enter Try.func18, Try.ntmps18
  go_wp2
  go_loopw [2] (fun i wr => ∃ k : Nat, k ≤ 5 ∧ i = .int .i64 ((k : Int) + 1) ∧ wr.ownsMap Try.prog 9 (plainElem (H := Unit) Try.prog 3) w.heap.size (offN k) (mapN (csAll.take (offN k))) ∧ Below w.heap.size w wr) (fun i _ => 6 - (intOf i).toNat)
  case atStart => exact ⟨0, Nat.zero_le _, rfl, World.ownsMap_made _ _ _ _, (Below.refl _ _).alloc (Nat.le_refl _) _⟩
  case round =>
    obtain ⟨k, hk, rfl, hown, hbel⟩ := hrel
    have HO := hid hown
    have HB := hid hbel
    clear hown hbel
    by_cases hlt : k < 5
    · have hd : decide (1 ≤ (k : Int) + 1 ∧ (k : Int) + 1 ≤ 5) = true := by simp; omega
      have hoff : offN k + (nm11 ((k : Int) + 1)).length = offN (k + 1) := off_next ⟨k, hlt⟩
      have hlen := nm_len ((k : Int) + 1)
      have HF := hid hoff
      clear hoff
      go_wp2_with (first
        | (go_at_call 17; (with_reducible refine (label_IsCharset _ _).mono ?_); rintro e w1 ⟨rfl, hb1⟩; rw [hd]; have HO1 := hid (ownsMap_below HO.out hb1); have HB1 := hid (below_then' HB.out hb1 (Nat.le_refl _)))
        | (go_at_call 13; (with_reducible refine (label_NamesF _ _).mono ?_); rintro e w2 ⟨a2, rfl, hT, hb2, hfr⟩; have HO2 := hid (ownsMap_below HO1.out hb2); have HB2 := hid (below_then' HB1.out hb2 (Nat.le_refl _)); have hfr2 : ∀ p, a2 = some p → w.heap.size < p.block := (fun p hp => Nat.lt_of_lt_of_le HO1.out.lt (hfr p hp))))
      go_loopw [13] (fun i wr => ∃ j : Nat, j ≤ (nm11 ((k : Int) + 1)).length ∧ i = .int .i64 j ∧ wr.ownsMap Try.prog 9 (plainElem (H := Unit) Try.prog 3) w.heap.size (offN k + j) (mapN (csAll.take (offN k + j))) ∧ Below w.heap.size w wr ∧ Txts wr a2 (nm11 ((k : Int) + 1))) (fun i _ => (nm11 ((k : Int) + 1)).length - (intOf i).toNat)
      case atStart => exact ⟨0, Nat.zero_le _, rfl, HO2.out, HB2.out, hT⟩
      case round =>
        obtain ⟨j, hj, rfl, hown, hbel, hTx⟩ := hrel
        have HO := hid hown
        have HB := hid hbel
        clear hown hbel
        by_cases hjl : j < (nm11 ((k : Int) + 1)).length
        · obtain ⟨s, hs⟩ : ∃ s, (nm11 ((k : Int) + 1))[j]? = some s := ⟨_, List.getElem?_eq_getElem hjl⟩
          obtain ⟨b, off, rfl, _, hc⟩ := hTx j s hs
          have HS := hid (mapN_step (csAll_at hlt hs))
          have hkey := keyOf_string_mk (P := Try.prog) Try.underlying9 (nm_size hs)
          clear hs
          go_wp2_with (first
            | (at_mapUpdate; refine wpList_mapUpdate_own _ rfl _ _ _ 39 rfl 9 3 law9 Try.underlying39 _ w.heap.size (offN k + j) _ rfl HO.out (by have := HF.out; have : offN (k + 1) ≤ 15 := off_le _; unfold maxLen; omega) _ _ _ rfl rfl hkey _ [] (plainElem_int Try.underlying3 (WalkArith.wf_i64 (by omega))) ?_; intro w3 hown3 hgrow3)
            | go_in)
          have R1 := HS.out.symm ▸ hown3
          have R2 := below_map HB.out hgrow3 (Nat.le_refl _) HB.out.size
          have R3 := hTx.grown hgrow3 hfr2
          clear hown3 hgrow3 HS HO HB hc
          go_wp2
          go_roundw
          case rel => exact ⟨j + 1, by omega, by go_num, R1, R2, R3⟩
          case measure => simp [intOf]; omega
        · have hje : j = (nm11 ((k : Int) + 1)).length := by omega
          subst hje
          have R1 := HO.out
          rw [HF.out] at R1
          have R1' := hid R1
          clear R1
          go_wp2
          go_roundw
          case rel => exact ⟨k + 1, by omega, by go_num, R1'.out, HB.out⟩
          case measure => simp [intOf]; omega
    · obtain rfl : k = 5 := by omega
      go_wp2_with (go_at_call 17; (with_reducible refine (label_IsCharset _ _).mono ?_); rintro e w1 ⟨rfl, hb1⟩; have HO1 := hid (ownsMap_below HO.out hb1); have HB1 := hid (below_then' HB.out hb1 (Nat.le_refl _)))
      go_ret
      exact ⟨rfl, HO1.out, HB1.out⟩
set_option maxRecDepth 100000 in
set_option maxHeartbeats 2000000 in
theorem label_codings (w : World) :
    Calls Try.prog 22 #[] w fun e w' => e = .returned (.map (some w.heap.size)) ∧ w'.ownsMap Try.prog 9 (plainElem (H := Unit) Try.prog 3) w.heap.size 3 (mapN cdAll) ∧ Below w.heap.size w w' := by
  have hmm := @run_makeMap Try.prog
  go_enter Try.func22, Try.ntmps22
  go_wp2
  go_loopw [2] (fun i wr => ∃ k : Nat, k ≤ 3 ∧ i = .int .i64 ((k : Int) + 1) ∧ wr.ownsMap Try.prog 9 (plainElem (H := Unit) Try.prog 3) w.heap.size k (mapN (cdAll.take k)) ∧ Below w.heap.size w wr) (fun i _ => 4 - (intOf i).toNat)
  case atStart => exact ⟨0, Nat.zero_le _, rfl, World.ownsMap_made _ _ _ _, (Below.refl _ _).alloc (Nat.le_refl _) _⟩
  case round =>
    obtain ⟨k, hk, rfl, hown, hbel⟩ := hrel
    have HO := hid hown
    have HB := hid hbel
    clear hown hbel
    by_cases hlt : k < 3
    · have hd : decide (1 ≤ (k : Int) + 1 ∧ (k : Int) + 1 ≤ 3) = true := by simp; omega
      have HS := hid (mapN_step (cdAll_at ⟨k, hlt⟩))
      have hkey := keyOf_string_mk (P := Try.prog) Try.underlying9 (cd_size ((k : Int) + 1))
      go_wp2_with (first
        | (go_at_call 15; (with_reducible refine (label_IsCoding _ _).mono ?_); rintro e w1 ⟨rfl, hb1⟩; rw [hd]; have HO1 := hid (ownsMap_below HO.out hb1); have HB1 := hid (below_then' HB.out hb1 (Nat.le_refl _)))
        | (go_at_call 14; (with_reducible refine (label_CodingName _ _).mono ?_); rintro e w2 ⟨rfl, hb2⟩; have HO2 := hid (ownsMap_below HO1.out hb2); have HB2 := hid (below_then' HB1.out hb2 (Nat.le_refl _)))
        | (at_mapUpdate; refine wpList_mapUpdate_own _ rfl _ _ _ 39 rfl 9 3 law9 Try.underlying39 _ w.heap.size k _ rfl HO2.out (by unfold maxLen; omega) _ _ _ rfl rfl hkey _ [] (plainElem_int Try.underlying3 (WalkArith.wf_i64 (by omega))) ?_; intro w3 hown3 hgrow3)
        | go_in)
      have R1 := HS.out.symm ▸ hown3
      have R2 := below_map HB2.out hgrow3 (Nat.le_refl _) HB2.out.size
      clear hown3 hgrow3 HS HO HB HO1 HB1 HO2 HB2
      go_wp2
      go_roundw
      case rel => exact ⟨k + 1, by omega, by go_num, R1, R2⟩
      case measure => simp [intOf]; omega
    · obtain rfl : k = 3 := by omega
      go_wp2_with (go_at_call 15; (with_reducible refine (label_IsCoding _ _).mono ?_); rintro e w1 ⟨rfl, hb1⟩; have HO1 := hid (ownsMap_below HO.out hb1); have HB1 := hid (below_then' HB.out hb1 (Nat.le_refl _)))
      go_ret
      exact ⟨rfl, HO1.out, HB1.out⟩
set_option maxRecDepth 100000 in
set_option maxHeartbeats 2000000 in
theorem label_Charset (a : Option Addr) (len cap : Nat) (xs : List Int) (w : World) (hr : Reads .u8 w a len cap xs) (hN : len < 1000000000) :
    Calls Try.prog 6 #[.slice a len cap] w fun e w' => e = .returned (.tuple #[.int .i64 (csN (keyB xs)), .int .i64 (csNE (keyB xs))]) ∧ Below w.heap.size w w' := by
  have HR := hid hr
  clear hr
  obtain ⟨B, hB⟩ : ∃ B, B = keyB xs := ⟨_, rfl⟩
  rw [← hB]
  have HB := hid hB
  clear hB
  have hat0 := mapN_at csAll B
  have hhas0 := mapN_has csAll B
  rw [(cs_found B).1] at hat0
  rw [(cs_found B).2] at hhas0
  have HA := hid hat0
  have HH := hid hhas0
  clear hat0 hhas0
  have main : ∀ f : Bool, Maps.has (mapN csAll) (keyS B) = f → (f = true → csNE B = 0) → (f = false → csN B = 0 ∧ csNE B = 10) →
      Calls Try.prog 6 #[.slice a len cap] w fun e w' => e = .returned (.tuple #[.int .i64 (csN B), .int .i64 (csNE B)]) ∧ Below w.heap.size w w' := by
    intro f hf hyes hno
    have HF := hid hf
    clear hf
    go_enter Try.func6, Try.ntmps6
    go_wp2_with (first
      | (go_at_call 18; (with_reducible refine (label_charsets _).mono ?_); rintro e w0 ⟨rfl, hown0, hb0⟩; have HO0 := hid hown0; have HR0 := hid (HR.out.below hb0))
      | (go_at_call 11; (with_reducible refine (label_Bare _ _ _ _ _ HR0.out (by omega)).mono ?_); rintro e w1 ⟨a1, l1, c1, rfl, hr1, hb1⟩; have hl1 : l1 < 1000000000 := (by have := hr1.size; have := bare_le xs; have := HR.out.size; omega); have HO1 := hid (ownsMap_below HO0.out hb1); have hb1' := below_then hb0 hb1)
      | (go_at_call 19; (with_reducible refine (fold_c _ _ _ _ _ hr1 (by omega)).mono ?_); rintro e w2 ⟨a2, c2, rfl, hr2, hb2⟩; have HO2 := hid (ownsMap_below HO1.out hb2); have hb2' := below_then hb1' hb2; have hls := hr2.size; have hK := hr2.string (P := Try.prog) Try.underlying22 Try.underlying5 Try.underlying9; rw [show strB ((bareL xs).map lowI) = B from HB.out.symm] at hK; have hkey := keyOf_string_mk (P := Try.prog) Try.underlying9 (s := B) (by rw [HB.out]; unfold keyB; rw [strB_size]; simp only [List.length_map]; have := bare_le xs; have := HR.out.size; unfold maxLen; omega))
      | (at_lookup; refine wpList_lookup_own_ok_int _ rfl _ _ 39 rfl 9 3 .i64 law9 Try.underlying39 Try.underlying3 (zero3 _) w.heap.size _ _ rfl HO2.out _ _ rfl hkey ?_; intro c hat hwc; rw [show Maps.has (mapN csAll) (Lit.string B.data.toList) = f from HF.out]; obtain rfl : csN B = c := (by have h := HA.out.symm.trans hat; exact Lit.int.inj (DataW.lit.inj h) |>.2)))
    · go_ret2
      have hz := hno (by simpa using ‹(!f) = true›)
      exact ⟨ret_ii hz.1.symm hz.2.symm, hb2'⟩
    · go_ret2
      have hz := hyes (by simpa using ‹(!f) = false›)
      exact ⟨ret_ii rfl hz.symm, hb2'⟩
  by_cases hz : csN B = 0
  · exact main false (by rw [HH.out, hz]; rfl) (fun h => by cases h) (fun _ => ⟨hz, by unfold csNE; rw [if_pos hz]⟩)
  · exact main true (by rw [HH.out]; simp [hz]) (fun _ => by unfold csNE; rw [if_neg hz]) (fun h => by cases h)
set_option maxRecDepth 100000 in
set_option maxHeartbeats 2000000 in
theorem label_Coding (a : Option Addr) (len cap : Nat) (xs : List Int) (w : World) (hr : Reads .u8 w a len cap xs) (hN : len < 1000000000) :
    Calls Try.prog 8 #[.slice a len cap] w fun e w' => e = .returned (.tuple #[.int .i64 (cdN (keyC xs)), .int .i64 (cdNE (keyC xs))]) ∧ Below w.heap.size w w' := by
  have HR := hid hr
  clear hr
  obtain ⟨B, hB⟩ : ∃ B, B = keyC xs := ⟨_, rfl⟩
  rw [← hB]
  have HB := hid hB
  clear hB
  have hat0 := mapN_at cdAll B
  have hhas0 := mapN_has cdAll B
  rw [(cd_found B).1] at hat0
  rw [(cd_found B).2] at hhas0
  have HA := hid hat0
  have HH := hid hhas0
  clear hat0 hhas0
  have main : ∀ f : Bool, Maps.has (mapN cdAll) (keyS B) = f → (f = true → cdNE B = 0) → (f = false → cdN B = 0 ∧ cdNE B = 11) →
      Calls Try.prog 8 #[.slice a len cap] w fun e w' => e = .returned (.tuple #[.int .i64 (cdN B), .int .i64 (cdNE B)]) ∧ Below w.heap.size w w' := by
    intro f hf hyes hno
    have HF := hid hf
    clear hf
    go_enter Try.func8, Try.ntmps8
    go_wp2_with (first
      | (go_at_call 22; (with_reducible refine (label_codings _).mono ?_); rintro e w0 ⟨rfl, hown0, hb0⟩; have HO0 := hid hown0; have HR0 := hid (HR.out.below hb0))
      | (go_at_call 23; (with_reducible refine (trim_c _ _ _ _ _ HR0.out (by omega)).mono ?_); rintro e w1 ⟨a1, l1, c1, rfl, hr1, hb1⟩; have hl1 : l1 < 1000000000 := (by have := hr1.size; have := trim_le (isB 2) xs; have := HR.out.size; omega); have HO1 := hid (ownsMap_below HO0.out hb1); have hb1' := below_then hb0 hb1)
      | (go_at_call 19; (with_reducible refine (fold_c _ _ _ _ _ hr1 (by omega)).mono ?_); rintro e w2 ⟨a2, c2, rfl, hr2, hb2⟩; have HO2 := hid (ownsMap_below HO1.out hb2); have hb2' := below_then hb1' hb2; have hls := hr2.size; have hK := hr2.string (P := Try.prog) Try.underlying22 Try.underlying5 Try.underlying9; rw [show strB ((trimL (isB 2) xs).map lowI) = B from HB.out.symm] at hK; have hkey := keyOf_string_mk (P := Try.prog) Try.underlying9 (s := B) (by rw [HB.out]; unfold keyC; rw [strB_size]; simp only [List.length_map]; have := trim_le (isB 2) xs; have := HR.out.size; unfold maxLen; omega))
      | (at_lookup; refine wpList_lookup_own_ok_int _ rfl _ _ 39 rfl 9 3 .i64 law9 Try.underlying39 Try.underlying3 (zero3 _) w.heap.size _ _ rfl HO2.out _ _ rfl hkey ?_; intro c hat hwc; rw [show Maps.has (mapN cdAll) (Lit.string B.data.toList) = f from HF.out]; obtain rfl : cdN B = c := (by have h := HA.out.symm.trans hat; exact Lit.int.inj (DataW.lit.inj h) |>.2)))
    · go_ret2
      have hz := hno (by simpa using ‹(!f) = true›)
      exact ⟨ret_ii hz.1.symm hz.2.symm, hb2'⟩
    · go_ret2
      have hz := hyes (by simpa using ‹(!f) = false›)
      exact ⟨ret_ii rfl hz.symm, hb2'⟩
  by_cases hz : cdN B = 0
  · exact main false (by rw [HH.out, hz]; rfl) (fun h => by cases h) (fun _ => ⟨hz, by unfold cdNE; rw [if_pos hz]⟩)
  · exact main true (by rw [HH.out]; simp [hz]) (fun _ => by unfold cdNE; rw [if_neg hz]) (fun h => by cases h)
end Go.Proofs.Ytffjiidegnblbaa
