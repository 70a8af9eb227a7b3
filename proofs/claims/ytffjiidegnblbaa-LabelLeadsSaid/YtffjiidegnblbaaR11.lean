/-
  Contracts of the document's own functions of layer 11 (those that the translation has).
-/
import Derived.Test.YtffjiidegnblbaaRows
import Derived.Test.YtffjiidegnblbaaR01
import Derived.Test.YtffjiidegnblbaaR01k
import Derived.Test.YtffjiidegnblbaaD11
namespace Go.Proofs.Ytffjiidegnblbaa
open Go.RowKit
set_option linter.unusedVariables false

set_option maxHeartbeats 1000000 in
theorem ref11_Names (n : Int) (w : World) :
    Calls Try.prog 21 #[.int .i64 n] w fun e w' => ∃ a, e = .returned (.slice a (nm11 n).length (nm11 n).length) ∧ Txts w' a (nm11 n) ∧ Below w.heap.size w w' := by
  by_cases h1 : n = 1
  · subst h1
    go_enter Try.func21, Try.ntmps21
    go_wp2
    go_ret
    exact ⟨_, rfl, Txts.lit w 9 (nm11 1), (Below.refl _ _).alloc (Nat.le_refl _) _⟩
  by_cases h2 : n = 2
  · subst h2
    go_enter Try.func21, Try.ntmps21
    go_wp2
    go_ret
    exact ⟨_, rfl, Txts.lit w 9 (nm11 2), (Below.refl _ _).alloc (Nat.le_refl _) _⟩
  by_cases h3 : n = 3
  · subst h3
    go_enter Try.func21, Try.ntmps21
    go_wp2
    go_ret
    exact ⟨_, rfl, Txts.lit w 9 (nm11 3), (Below.refl _ _).alloc (Nat.le_refl _) _⟩
  by_cases h4 : n = 4
  · subst h4
    go_enter Try.func21, Try.ntmps21
    go_wp2
    go_ret
    exact ⟨_, rfl, Txts.lit w 9 (nm11 4), (Below.refl _ _).alloc (Nat.le_refl _) _⟩
  by_cases h5 : n = 5
  · subst h5
    go_enter Try.func21, Try.ntmps21
    go_wp2
    go_ret
    exact ⟨_, rfl, Txts.lit w 9 (nm11 5), (Below.refl _ _).alloc (Nat.le_refl _) _⟩
  have e : Hid (nm11 n = []) := by unfold Hid nm11; rw [if_neg h1, if_neg h2, if_neg h3, if_neg h4, if_neg h5]
  have b1 : (n == 1) = false := by simpa using h1
  have b2 : (n == 2) = false := by simpa using h2
  have b3 : (n == 3) = false := by simpa using h3
  have b4 : (n == 4) = false := by simpa using h4
  have b5 : (n == 5) = false := by simpa using h5
  clear h1 h2 h3 h4 h5
  go_enter Try.func21, Try.ntmps21
  go_wp2
  go_ret
  exact ⟨none, by rw [e.out]; rfl, by rw [e.out]; exact Txts.none _ _, Below.refl _ _⟩
set_option maxHeartbeats 1000000 in
theorem ref11_Bare (a : Option Addr) (len cap : Nat) (xs : List Int) (w : World) (hr : Reads .u8 w a len cap xs) :
    Calls Try.prog 12 #[.slice a len cap] w fun e w' => ∃ a' len' cap', e = .returned (.slice a' len' cap') ∧ Reads .u8 w' a' len' cap' (bareL xs) ∧ w = w' := by
  have HR := hid hr
  have hs := hr.size
  have hll := hr.len_le
  have hrm := hr.room
  clear hr
  go_enter Try.func12, Try.ntmps12
  go_wp2
  go_loop [4, 3] (fun i e => ∃ k m : Nat, k ≤ len ∧ i = .int .i64 ((k : Int) - 1) ∧ e = .int .i64 m ∧ m ≤ len ∧ Hid (m = k + ((xs.drop k).takeWhile noStar).length)) (fun i e => (intOf i + 1).toNat)
  case atStart => exact ⟨len, len, Nat.le_refl _, rfl, rfl, Nat.le_refl _, by rw [Hid, front_end (by omega)]; rfl⟩
  case round =>
    obtain ⟨k, m, hk, rfl, rfl, hm, hn⟩ := hrel
    by_cases hlt : 0 < k
    · obtain ⟨k, rfl⟩ : ∃ j, k = j + 1 := ⟨k - 1, by omega⟩
      have hk1 : ((k + 1 : Nat) : Int) - 1 = k := by omega
      obtain ⟨b, off, x, rfl, _, hc, h0, h1, hx⟩ := HR.out.get8 (i := k) (by omega)
      by_cases hx4 : x = 42
      · subst hx4
        go_wp2
        go_round
        case rel => exact ⟨k, k, by omega, by go_num, by rw [hk1], by omega, by rw [Hid, front_stop (f := noStar) hx.out.1 (by decide)]; rfl⟩
        case measure => simp [intOf]
      · have hX := hid hx4
        have hb : (x == 42) = false := by simpa using hx4
        clear hx4
        go_wp2
        go_round
        case rel => exact ⟨k, m, by omega, by go_num, rfl, hm, by rw [Hid, front_step hx.out.1 (decide_eq_true hX.out), hn.out]; omega⟩
        case measure => simp [intOf]
    · have hk0 : k = 0 := by omega
      subst hk0
      have e1 : m = (xs.takeWhile noStar).length := by have := hn.out; simpa using this
      have e2 : xs.take m = xs.takeWhile noStar := by
        rw [e1]
        exact List.prefix_iff_eq_take.1 (List.takeWhile_prefix _) |>.symm
      have hp := HR.out.pre hm
      rw [e2] at hp
      have HP := hid hp
      clear hp e1 e2
      go_wp2_with (go_at_call 24; (with_reducible refine (trim_r _ _ _ _ _ HP.out).mono ?_); rintro e w1 ⟨a1, l1, c1, rfl, hr1, rfl⟩)
      go_ret
      exact ⟨_, _, _, rfl, hr1, rfl⟩
set_option maxHeartbeats 2000000 in
theorem ref11_Charset (a : Option Addr) (len cap : Nat) (xs : List Int) (w : World) (hr : Reads .u8 w a len cap xs) (hN : len < 1000000000) :
    Calls Try.prog 7 #[.slice a len cap] w fun e w' => e = .returned (.tuple #[.int .i64 (csN (keyB xs)), .int .i64 (csNE (keyB xs))]) ∧ Below w.heap.size w w' := by
  have HR := hid hr
  clear hr
  obtain ⟨B, hB⟩ : ∃ B, B = keyB xs := ⟨_, rfl⟩
  rw [← hB]
  have HB := hid hB
  clear hB
  go_enter Try.func7, Try.ntmps7
  go_wp2_with (first
    | (go_at_call 12; (with_reducible refine (ref11_Bare _ _ _ _ _ HR.out).mono ?_); rintro e w1 ⟨a1, l1, c1, rfl, hr1, rfl⟩; have hl1 : l1 < 1000000000 := by have := hr1.size; have := bare_le xs; have := HR.out.size; omega)
    | (go_at_call 20; (with_reducible refine (fold_r _ _ _ _ _ hr1 (by omega)).mono ?_); rintro e w2 ⟨a2, c2, rfl, hr2, hb2⟩; have hK := hr2.string (P := Try.prog) Try.underlying22 Try.underlying5 Try.underlying9; rw [show strB ((bareL xs).map lowI) = B from HB.out.symm] at hK))
  clear hK
  go_loopw [5] (fun i wr => ∃ k : Nat, k ≤ 5 ∧ i = .int .i64 ((k : Int) + 1) ∧ Hid (∀ j : Nat, j < k → hasN B ((j : Int) + 1) = false) ∧ Below w.heap.size w wr) (fun i _ => 6 - (intOf i).toNat)
  case atStart => exact ⟨0, Nat.zero_le _, rfl, fun j hj => by omega, hb2⟩
  case round =>
    obtain ⟨k, hk, rfl, hn, hbel⟩ := hrel
    by_cases hlt : k < 5
    · go_wp2_with (go_at_call 21; (with_reducible refine (ref11_Names _ _).mono ?_); rintro e w3 ⟨a3, rfl, hT, hb3⟩; have hb3' := below_then' hbel hb3 (Nat.le_refl _); have hL := nm_len ((k : Int) + 1))
      go_loop [7] (fun i => ∃ j : Nat, j ≤ (nm11 ((k : Int) + 1)).length ∧ i = .int .i64 j ∧ Hid (((nm11 ((k : Int) + 1)).take j).any (fun s => decide (s = B)) = false)) (fun i => (nm11 ((k : Int) + 1)).length - (intOf i).toNat)
      case atStart => exact ⟨0, Nat.zero_le _, rfl, rfl⟩
      case round =>
        obtain ⟨j, hj, rfl, hm⟩ := hrel
        by_cases hjl : j < (nm11 ((k : Int) + 1)).length
        · obtain ⟨s, hs⟩ : ∃ s, (nm11 ((k : Int) + 1))[j]? = some s := ⟨_, List.getElem?_eq_getElem hjl⟩
          obtain ⟨b, off, rfl, _, hc⟩ := hT j s hs
          have HS := hid hs
          clear hs
          by_cases hsb : s = B
          · have H := hid (cs_hit hlt (strs_hit HS.out hsb) hn.out)
            have hb := str_yes hsb
            clear hsb
            go_wp2
            go_ret2
            exact ⟨ret_ii H.out.1.symm H.out.2.symm, hb3'⟩
          · have H := hid hsb
            have hb := str_no hsb
            clear hsb
            go_wp2
            go_round
            case rel => exact ⟨j + 1, by omega, by go_num, strs_on HS.out hm.out H.out⟩
            case measure => simp [intOf]; omega
        · have H := hid (strs_end (Nat.le_of_not_lt hjl) hm.out)
          go_wp2
          go_roundw
          case rel =>
            refine ⟨k + 1, by omega, by go_num, fun i hi => ?_, hb3'⟩
            by_cases hik : i < k
            · exact hn.out i hik
            · obtain rfl : i = k := by omega
              exact H.out
          case measure => simp [intOf]; omega
    · have hk5 : k = 5 := by omega
      subst hk5
      have H := hid (cs_no hn.out)
      go_wp2
      go_ret2
      exact ⟨ret_ii H.out.1.symm H.out.2.symm, hbel⟩
theorem ref11_CodingName (n : Int) (w : World) :
    Calls Try.prog 25 #[.int .i64 n] w fun e w' => e = .returned (.string (cd11 n)) ∧ Below w.heap.size w w' := by
  by_cases h1 : n = 1
  · subst h1
    go_enter Try.func25, Try.ntmps25
    go_wp2
    go_ret
    exact ⟨rfl, (Below.refl _ _).alloc (Nat.le_refl _) _⟩
  by_cases h2 : n = 2
  · subst h2
    go_enter Try.func25, Try.ntmps25
    go_wp2
    go_ret
    exact ⟨rfl, (Below.refl _ _).alloc (Nat.le_refl _) _⟩
  by_cases h3 : n = 3
  · subst h3
    go_enter Try.func25, Try.ntmps25
    go_wp2
    go_ret
    exact ⟨rfl, (Below.refl _ _).alloc (Nat.le_refl _) _⟩
  have e : Hid (cd11 n = ⟨#[]⟩) := by unfold Hid cd11; rw [if_neg h1, if_neg h2, if_neg h3]
  by_cases h0 : n < 1
  · go_enter Try.func25, Try.ntmps25
    go_wp2
    go_ret
    exact ⟨by rw [e.out]; rfl, Below.refl _ _⟩
  · have h4 : 3 < n := by omega
    go_enter Try.func25, Try.ntmps25
    go_wp2
    go_ret
    exact ⟨by rw [e.out]; rfl, Below.refl _ _⟩
set_option maxHeartbeats 2000000 in
theorem ref11_Coding (a : Option Addr) (len cap : Nat) (xs : List Int) (w : World) (hr : Reads .u8 w a len cap xs) (hN : len < 1000000000) :
    Calls Try.prog 9 #[.slice a len cap] w fun e w' => e = .returned (.tuple #[.int .i64 (cdN (keyC xs)), .int .i64 (cdNE (keyC xs))]) ∧ Below w.heap.size w w' := by
  have HR := hid hr
  clear hr
  obtain ⟨B, hB⟩ : ∃ B, B = keyC xs := ⟨_, rfl⟩
  rw [← hB]
  have HB := hid hB
  clear hB
  go_enter Try.func9, Try.ntmps9
  go_wp2_with (first
    | (go_at_call 24; (with_reducible refine (trim_r _ _ _ _ _ HR.out).mono ?_); rintro e w1 ⟨a1, l1, c1, rfl, hr1, rfl⟩; have hl1 : l1 < 1000000000 := by have := hr1.size; have := trim_le (isB 2) xs; have := HR.out.size; omega)
    | (go_at_call 20; (with_reducible refine (fold_r _ _ _ _ _ hr1 (by omega)).mono ?_); rintro e w2 ⟨a2, c2, rfl, hr2, hb2⟩; have hK := hr2.string (P := Try.prog) Try.underlying22 Try.underlying5 Try.underlying9; rw [show strB ((trimL (isB 2) xs).map lowI) = B from HB.out.symm] at hK))
  clear hK
  go_loopw [5] (fun i wr => ∃ k : Nat, k ≤ 3 ∧ i = .int .i64 ((k : Int) + 1) ∧ Hid (∀ j : Nat, j < k → ¬ B = cd11 ((j : Int) + 1)) ∧ Below w.heap.size w wr) (fun i _ => 4 - (intOf i).toNat)
  case atStart => exact ⟨0, Nat.zero_le _, rfl, fun j hj => by omega, hb2⟩
  case round =>
    obtain ⟨k, hk, rfl, hn, hbel⟩ := hrel
    by_cases hlt : k < 3
    · by_cases hsb : cd11 ((k : Int) + 1) = B
      · have H := hid (cd_hit hlt hsb.symm hn.out)
        have hb := str_yes hsb
        clear hsb
        go_wp2_with (go_at_call 25; (with_reducible refine (ref11_CodingName _ _).mono ?_); rintro e w3 ⟨rfl, hb3⟩; have hb3' := below_then' hbel hb3 (Nat.le_refl _))
        go_ret2
        exact ⟨ret_ii H.out.1.symm H.out.2.symm, hb3'⟩
      · have H := hid hsb
        have hb := str_no hsb
        clear hsb
        go_wp2_with (go_at_call 25; (with_reducible refine (ref11_CodingName _ _).mono ?_); rintro e w3 ⟨rfl, hb3⟩; have hb3' := below_then' hbel hb3 (Nat.le_refl _))
        go_roundw
        case rel =>
          refine ⟨k + 1, by omega, by go_num, fun i hi => ?_, hb3'⟩
          by_cases hik : i < k
          · exact hn.out i hik
          · obtain rfl : i = k := by omega
            exact fun h => H.out h.symm
        case measure => simp [intOf]; omega
    · have hk3 : k = 3 := by omega
      subst hk3
      have H := hid (cd_no hn.out)
      go_wp2
      go_ret2
      exact ⟨ret_ii H.out.1.symm H.out.2.symm, hbel⟩
end Go.Proofs.Ytffjiidegnblbaa
