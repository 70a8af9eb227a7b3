/-
  Texts of ours laid together: Alive33, R11, R15.
-/
import Derived.Test.YtefhddbbiheadaaGreatRows
import Derived.Test.YtefhddbbiheadaaGreatZ47

/-! Alive33 -/
namespace Go.Proofs.YtefhddbbiheadaaGreat
open Go.RowKit
set_option linter.unusedVariables false

theorem like33 (a : Option Addr) (len cap : Nat) (a2 : Option Addr) (len2 cap2 : Nat) (xs : List Int) (w : World) (hr : Reads .i32 w a len cap xs) (hr2 : Reads .i32 w a2 len2 cap2 xs) :
    Calls Tryz.prog 8 #[.slice a len cap, .slice a2 len2 cap2] w fun e w' => e = .returned (.bool true) ∧ Below w.heap.size w w' := by
  have := ref03_Like a len cap xs a2 len2 cap2 xs w hr hr2
  rw [decide_eq_true rfl] at this
  refine this.mono ?_
  rintro e w' ⟨rfl, n, rfl⟩
  exact ⟨rfl, Below.drewN (Below.refl _ _) n⟩
theorem like33_draws (ai : Option Addr) (li ci : Nat) (ai2 : Option Addr) (li2 ci2 : Nat) (x : List Int) (w : World) (hx : Reads .i32 w ai li ci x) (hx2 : Reads .i32 w ai2 li2 ci2 x) (q : Nat) :
    Calls Tryz.prog 8 #[.slice ai li ci, .slice ai2 li2 ci2] (w.drewN q) fun e w' => e = .returned (.bool true) ∧ ∃ m, w' = (w.drewN q).drewN m := by
  have := ref03_Like ai li ci x ai2 li2 ci2 x (w.drewN q) (hx.below (Below.drewN (Below.refl _ _) q)) (hx2.below (Below.drewN (Below.refl _ _) q))
  rwa [decide_eq_true rfl] at this
abbrev tx33 : List Int := [97, 32, 61, 63, 117, 116, 102, 45, 56, 63, 81, 63, 98, 63, 61, 13, 10, 32, 61, 63, 117, 116, 102, 45, 56, 63, 81, 63, 99, 63, 61]
theorem v33 : rdL tx33 = [97, 32, 98, 99] ∧ oddN (unfL tx33) = 0 ∧ (setsL (unfL tx33)).length = 2 ∧ (lnsP (unfL tx33)).length = 4 := by decide +kernel
theorem al33_r (w : World) (B : Nat) (hB : w.heap.size = B) : Calls Tryz.prog 9 #[.slice (some ⟨B, 0, none⟩) 31 31] (w.alloc (.cells #[.int .u8 97, .int .u8 32, .int .u8 61, .int .u8 63, .int .u8 117, .int .u8 116, .int .u8 102, .int .u8 45, .int .u8 56, .int .u8 63, .int .u8 81, .int .u8 63, .int .u8 98, .int .u8 63, .int .u8 61, .int .u8 13, .int .u8 10, .int .u8 32, .int .u8 61, .int .u8 63, .int .u8 117, .int .u8 116, .int .u8 102, .int .u8 45, .int .u8 56, .int .u8 63, .int .u8 81, .int .u8 63, .int .u8 99, .int .u8 63, .int .u8 61] 5 (31, 32))) fun e w' => ∃ a' c', e = .returned (.slice a' 4 c') ∧ Reads .i32 w' a' 4 c' [97, 32, 98, 99] ∧ Reads .u8 w' (some ⟨B, 0, none⟩) 31 31 tx33 ∧ Below w.heap.size w w' := by
  have rs := Reads_litB .u8 5 (31, 32) w B hB tx33 (by decide) (by decide)
  have h2 := ewread_Read _ 31 31 tx33 _ rs (by decide)
  rw [v33.1] at h2
  refine h2.mono ?_
  rintro e w' ⟨a', l', c', rfl, r, hb⟩
  obtain rfl : 4 = l' := r.size
  exact ⟨a', c', rfl, r, rs.below hb, ((Below.refl _ _).alloc (Nat.le_refl _) _).trans (hb.mono (by simp))⟩
theorem al33_o (b : Option Addr) (w : World) (hr : Reads .u8 w b 31 31 tx33) : Calls Tryz.prog 17 #[.slice b 31 31] w fun e w' => e = .returned (.int .i64 0) ∧ Below w.heap.size w w' := by
  have := ewread_Odd b 31 31 tx33 w hr (by decide)
  rwa [v33.2.1] at this
theorem al33_c (b : Option Addr) (w : World) (hr : Reads .u8 w b 31 31 tx33) : Calls Tryz.prog 16 #[.slice b 31 31] w fun e w' => ∃ a' c', e = .returned (.slice a' 2 c') ∧ Below w.heap.size w w' := by
  refine (ewread_Charsets b 31 31 tx33 w hr (by decide)).mono ?_
  rintro e w' ⟨a', l', c', rfl, r, hb⟩
  have h := r.size
  rw [v33.2.2.1] at h
  subst h
  exact ⟨_, _, rfl, hb⟩
theorem al33_l (b : Option Addr) (w : World) (hr : Reads .u8 w b 31 31 tx33) : Calls Tryz.prog 15 #[.slice b 31 31] w fun e w' => ∃ a' c', e = .returned (.slice a' 4 c') ∧ Below w.heap.size w w' := by
  refine (ewread_Lines b 31 31 tx33 w hr (by decide)).mono ?_
  rintro e w' ⟨a', l', c', rfl, r, hb⟩
  have h := r.size
  rw [v33.2.2.2] at h
  subst h
  exact ⟨_, _, rfl, hb⟩
set_option maxRecDepth 100000 in
set_option maxHeartbeats 1000000 in
theorem alive33_any (w : World) : Calls Tryz.prog 7 #[] w fun e w' => e = .returned (.bool true) ∧ Below w.heap.size w w' := by
  have kc := convB (P := Tryz.prog) (t := 22) (e := 5) Tryz.underlying22 Tryz.underlying5 w w.heap.size rfl
  go_enter Tryz.func7, Tryz.ntmps7
  go_wp2_with (first
    | (go_at_call 9; (with_reducible refine (al33_r w _ rfl).mono ?_); rintro e w1 ⟨a1, c1, rfl, r1, s1, h1⟩; have hal := (Below.refl w1.heap.size w1).alloc (Nat.le_refl _) (.cells #[.int .i32 97, .int .i32 32, .int .i32 98, .int .i32 99] 21); have r1' := r1.below hal; have t1 := h1.alloc h1.size (.cells #[.int .i32 97, .int .i32 32, .int .i32 98, .int .i32 99] 21); have s1' := s1.below hal; have r2' : Reads .i32 (w1.alloc (.cells #[.int .i32 97, .int .i32 32, .int .i32 98, .int .i32 99] 21)) (some ⟨w1.heap.size, 0, none⟩) 4 4 [97, 32, 98, 99] := Reads.lit .i32 21 w1 [97, 32, 98, 99] (by decide) (by decide))
    | (go_at_call 8; (with_reducible refine (like33 _ _ _ _ _ _ _ _ r1' r2').mono ?_); rintro e w2 ⟨rfl, h2⟩; have t2 := below_then t1 h2; have s2 := s1'.below h2)
    | (go_at_call 17; (with_reducible refine (al33_o _ _ s2).mono ?_); rintro e w3 ⟨rfl, h3⟩; have t3 := below_then t2 h3; have s3 := s2.below h3)
    | (go_at_call 16; (with_reducible refine (al33_c _ _ s3).mono ?_); rintro e w4 ⟨a4, c4, rfl, h4⟩; have t4 := below_then t3 h4; have s4 := s3.below h4)
    | (go_at_call 15; (with_reducible refine (al33_l _ _ s4).mono ?_); rintro e w5 ⟨a5, c5, rfl, h5⟩; have t5 := below_then t4 h5))
  go_ret
  exact ⟨rfl, t5⟩
end Go.Proofs.YtefhddbbiheadaaGreat

/-! R11 -/
namespace Go.Proofs.YtefhddbbiheadaaGreat
open Go.RowKit
set_option linter.unusedVariables false

set_option maxHeartbeats 1000000 in
theorem ref11_Names (n : Int) (w : World) :
    Calls Tryz.prog 68 #[.int .i64 n] w fun e w' => ∃ a, e = .returned (.slice a (nm11 n).length (nm11 n).length) ∧ Txts w' a (nm11 n) ∧ Below w.heap.size w w' := by
  by_cases h1 : n = 1
  · subst h1
    go_enter Tryz.func68, Tryz.ntmps68
    go_wp2
    go_ret
    exact ⟨_, rfl, Txts.lit w 9 (nm11 1), (Below.refl _ _).alloc (Nat.le_refl _) _⟩
  by_cases h2 : n = 2
  · subst h2
    go_enter Tryz.func68, Tryz.ntmps68
    go_wp2
    go_ret
    exact ⟨_, rfl, Txts.lit w 9 (nm11 2), (Below.refl _ _).alloc (Nat.le_refl _) _⟩
  by_cases h3 : n = 3
  · subst h3
    go_enter Tryz.func68, Tryz.ntmps68
    go_wp2
    go_ret
    exact ⟨_, rfl, Txts.lit w 9 (nm11 3), (Below.refl _ _).alloc (Nat.le_refl _) _⟩
  by_cases h4 : n = 4
  · subst h4
    go_enter Tryz.func68, Tryz.ntmps68
    go_wp2
    go_ret
    exact ⟨_, rfl, Txts.lit w 9 (nm11 4), (Below.refl _ _).alloc (Nat.le_refl _) _⟩
  by_cases h5 : n = 5
  · subst h5
    go_enter Tryz.func68, Tryz.ntmps68
    go_wp2
    go_ret
    exact ⟨_, rfl, Txts.lit w 9 (nm11 5), (Below.refl _ _).alloc (Nat.le_refl _) _⟩
  have e : Hid (nm11 n = []) := by unfold Hid nm11; rw [if_neg h1, if_neg h2, if_neg h3, if_neg h4, if_neg h5]
  have b1 : (n == 1) = false := by simpa using h1
  have b2 : (n == 2) = false := by simpa using h2
  have b3 : (n == 3) = false := by simpa using h3
  have b4 : (n == 4) = false := by simpa using h4
  have b5 : (n == 5) = false := by simpa using h5
  clear h1 h2 h3 h4 h5
  go_enter Tryz.func68, Tryz.ntmps68
  go_wp2
  go_ret
  exact ⟨none, by rw [e.out]; rfl, by rw [e.out]; exact Txts.none _ _, Below.refl _ _⟩
set_option maxHeartbeats 1000000 in
theorem ref11_Bare (a : Option Addr) (len cap : Nat) (xs : List Int) (w : World) (hr : Reads .u8 w a len cap xs) :
    Calls Tryz.prog 67 #[.slice a len cap] w fun e w' => ∃ a' len' cap', e = .returned (.slice a' len' cap') ∧ Reads .u8 w' a' len' cap' (bareL xs) ∧ w = w' := by
  have HR := hid hr
  have hs := hr.size
  have hll := hr.len_le
  have hrm := hr.room
  clear hr
  go_enter Tryz.func67, Tryz.ntmps67
  go_wp2
  go_loop [4, 3] (fun i e => ∃ k m : Nat, k ≤ len ∧ i = .int .i64 ((k : Int) - 1) ∧ e = .int .i64 m ∧ m ≤ len ∧ Hid (m = k + ((xs.drop k).takeWhile noStar).length)) (fun i e => (intOf i + 1).toNat)
  case atStart => exact ⟨len, len, Nat.le_refl _, rfl, rfl, Nat.le_refl _, by rw [Hid, front_end (by omega)]; rfl⟩
  case round =>
    obtain ⟨k, m, hk, rfl, rfl, hm, hn⟩ := hrel
    by_cases hlt : 0 < k
    · obtain ⟨k, rfl⟩ : ∃ j, k = j + 1 := ⟨k - 1, by omega⟩
      have hk1 : ((k + 1 : Nat) : Int) - 1 = k := by omega
      obtain ⟨b, off, x, rfl, _, hc, h0, h1, hx⟩ := HR.out.get8 (i := k) (by omega)
      by_cases hx4 : x = 42
      · subst hx4
        go_wp2
        go_round
        case rel => exact ⟨k, k, by omega, by go_num, by rw [hk1], by omega, by rw [Hid, front_stop (f := noStar) hx.out.1 (by decide)]; rfl⟩
        case measure => simp [intOf]
      · have hX := hid hx4
        have hb : (x == 42) = false := by simpa using hx4
        clear hx4
        go_wp2
        go_round
        case rel => exact ⟨k, m, by omega, by go_num, rfl, hm, by rw [Hid, front_step hx.out.1 (decide_eq_true hX.out), hn.out]; omega⟩
        case measure => simp [intOf]
    · have hk0 : k = 0 := by omega
      subst hk0
      have e1 : m = (xs.takeWhile noStar).length := by have := hn.out; simpa using this
      have e2 : xs.take m = xs.takeWhile noStar := by
        rw [e1]
        exact List.prefix_iff_eq_take.1 (List.takeWhile_prefix _) |>.symm
      have hp := HR.out.pre hm
      rw [e2] at hp
      have HP := hid hp
      clear hp e1 e2
      go_wp2_with (go_at_call 94; (with_reducible refine (trim_r _ _ _ _ _ HP.out).mono ?_); rintro e w1 ⟨a1, l1, c1, rfl, hr1, rfl⟩)
      go_ret
      exact ⟨_, _, _, rfl, hr1, rfl⟩
set_option maxHeartbeats 2000000 in
theorem ref11_Charset (a : Option Addr) (len cap : Nat) (xs : List Int) (w : World) (hr : Reads .u8 w a len cap xs) (hN : len < 1000000000) :
    Calls Tryz.prog 41 #[.slice a len cap] w fun e w' => e = .returned (.tuple #[.int .i64 (csN (keyB xs)), .int .i64 (csNE (keyB xs))]) ∧ Below w.heap.size w w' := by
  have HR := hid hr
  clear hr
  obtain ⟨B, hB⟩ : ∃ B, B = keyB xs := ⟨_, rfl⟩
  rw [← hB]
  have HB := hid hB
  clear hB
  go_enter Tryz.func41, Tryz.ntmps41
  go_wp2_with (first
    | (go_at_call 67; (with_reducible refine (ref11_Bare _ _ _ _ _ HR.out).mono ?_); rintro e w1 ⟨a1, l1, c1, rfl, hr1, rfl⟩; have hl1 : l1 < 1000000000 := by have := hr1.size; have := bare_le xs; have := HR.out.size; omega)
    | (go_at_call 66; (with_reducible refine (fold_r _ _ _ _ _ hr1 (by omega)).mono ?_); rintro e w2 ⟨a2, c2, rfl, hr2, hb2⟩; have hK := hr2.string (P := Tryz.prog) Tryz.underlying22 Tryz.underlying5 Tryz.underlying9; rw [show strB ((bareL xs).map lowI) = B from HB.out.symm] at hK))
  clear hK
  go_loopw [5] (fun i wr => ∃ k : Nat, k ≤ 5 ∧ i = .int .i64 ((k : Int) + 1) ∧ Hid (∀ j : Nat, j < k → hasN B ((j : Int) + 1) = false) ∧ Below w.heap.size w wr) (fun i _ => 6 - (intOf i).toNat)
  case atStart => exact ⟨0, Nat.zero_le _, rfl, fun j hj => by omega, hb2⟩
  case round =>
    obtain ⟨k, hk, rfl, hn, hbel⟩ := hrel
    by_cases hlt : k < 5
    · go_wp2_with (go_at_call 68; (with_reducible refine (ref11_Names _ _).mono ?_); rintro e w3 ⟨a3, rfl, hT, hb3⟩; have hb3' := below_then' hbel hb3 (Nat.le_refl _); have hL := nm_len ((k : Int) + 1))
      go_loop [7] (fun i => ∃ j : Nat, j ≤ (nm11 ((k : Int) + 1)).length ∧ i = .int .i64 j ∧ Hid (((nm11 ((k : Int) + 1)).take j).any (fun s => decide (s = B)) = false)) (fun i => (nm11 ((k : Int) + 1)).length - (intOf i).toNat)
      case atStart => exact ⟨0, Nat.zero_le _, rfl, rfl⟩
      case round =>
        obtain ⟨j, hj, rfl, hm⟩ := hrel
        by_cases hjl : j < (nm11 ((k : Int) + 1)).length
        · obtain ⟨s, hs⟩ : ∃ s, (nm11 ((k : Int) + 1))[j]? = some s := ⟨_, List.getElem?_eq_getElem hjl⟩
          obtain ⟨b, off, rfl, _, hc⟩ := hT j s hs
          have HS := hid hs
          clear hs
          by_cases hsb : s = B
          · have H := hid (cs_hit hlt (strs_hit HS.out hsb) hn.out)
            have hb := str_yes hsb
            clear hsb
            go_wp2
            go_ret2
            exact ⟨ret_ii H.out.1.symm H.out.2.symm, hb3'⟩
          · have H := hid hsb
            have hb := str_no hsb
            clear hsb
            go_wp2
            go_round
            case rel => exact ⟨j + 1, by omega, by go_num, strs_on HS.out hm.out H.out⟩
            case measure => simp [intOf]; omega
        · have H := hid (strs_end (Nat.le_of_not_lt hjl) hm.out)
          go_wp2
          go_roundw
          case rel =>
            refine ⟨k + 1, by omega, by go_num, fun i hi => ?_, hb3'⟩
            by_cases hik : i < k
            · exact hn.out i hik
            · obtain rfl : i = k := by omega
              exact H.out
          case measure => simp [intOf]; omega
    · have hk5 : k = 5 := by omega
      subst hk5
      have H := hid (cs_no hn.out)
      go_wp2
      go_ret2
      exact ⟨ret_ii H.out.1.symm H.out.2.symm, hbel⟩
end Go.Proofs.YtefhddbbiheadaaGreat

/-! R15 -/
namespace Go.Proofs.YtefhddbbiheadaaGreat
open Go.RowKit
set_option linter.unusedVariables false

set_option maxHeartbeats 2000000 in
theorem ref15_Digits (a : Option Addr) (len cap : Nat) (xs : List Int) (w : World) (hr : Reads .u8 w a len cap xs) (hN : len < 10000000) :
    Calls Tryz.prog 60 #[.slice a len cap] w fun e w' => ∃ v, e = .returned (.tuple #[v, .int .i64 (strQ xs)]) ∧ Own .u8 5 w.heap.size w' v (digL xs) ∧ Below w.heap.size w w' := by
  have HR := hid hr
  have hsz := hr.size
  clear hr
  go_enter Tryz.func60, Tryz.ntmps60
  go_wp2
  go_loopw [4, 5, 6] (fun v s i wr => ∃ k m : Nat, k ≤ len ∧ i = .int .i64 k ∧ s = .int .i64 m ∧ m ≤ k ∧ Hid ((xs.take k).all noEq = true) ∧ Hid (m = ((xs.take k).filter (fun c => !isDig c)).length) ∧ Own .u8 5 w.heap.size wr v ((xs.take k).filter isDig) ∧ Below w.heap.size w wr) (fun _ _ i _ => len - (intOf i).toNat)
  case atStart => exact ⟨0, 0, Nat.zero_le _, rfl, rfl, Nat.le_refl _, rfl, rfl, Own.nil _ _ _ _, Below.refl _ _⟩
  case round =>
    obtain ⟨k, m, hk, rfl, rfl, hm, hn, hq, hown', hbel'⟩ := hrel
    have hfl : ((xs.take k).filter isDig).length ≤ k := Nat.le_trans (List.length_filter_le _ _) (by rw [List.length_take]; omega)
    by_cases hlt : k < len
    · obtain ⟨b, off, x, rfl, _, hc, h0, h1, hx⟩ := (HR.out.below hbel').get8 hlt
      by_cases hx6 : x = 61
      · have e : Hid (cutEq xs = xs.take k) := cut_at hn.out (.inr ⟨x, hx.out.1, by rw [hx6]; decide⟩)
        have hb : (x != 61) = false := by simpa using hx6
        clear hx6
        go_wp2_with fail
        go_ret2
        exact ⟨_, by unfold strQ; rw [e.out, ← hq.out]; rfl, by unfold digL; rw [e.out]; exact hown', hbel'⟩
      · have hE := hid (all_yes hx.out.2 hn.out (decide_eq_true hx6))
        have hb : (x != 61) = true := by simpa using hx6
        clear hx6
        cases hd : isDig x
        · have HD := hid hd
          have hV := ref14_Value x wr h0 h1
          rw [hd] at hV
          have HV := hid hV
          have e1 : Hid ((xs.take (k + 1)).filter isDig = (xs.take k).filter isDig) := by unfold Hid; rw [hx.out.2, List.filter_append]; simp [hd]
          have e2 : Hid (m + 1 = ((xs.take (k + 1)).filter (fun c => !isDig c)).length) := by unfold Hid; rw [hx.out.2, List.filter_append, List.length_append, ← hq.out]; simp [hd]
          clear hV hd
          go_wp2_with (go_at_call 91; (with_reducible refine HV.out.mono ?_); rintro e w4 ⟨rfl, rfl⟩)
          rw [← e1.out] at hown'
          go_roundw
          case rel => exact ⟨k + 1, m + 1, by omega, by go_num, by go_num, by omega, hE, e2, hown', hbel'⟩
          case measure => simp [intOf]; omega
        · have HD := hid hd
          have hV := ref14_Value x wr h0 h1
          rw [hd] at hV
          have HV := hid hV
          have e1 : Hid ((xs.take k).filter isDig ++ [x] = (xs.take (k + 1)).filter isDig) := by unfold Hid; rw [hx.out.2, List.filter_append]; simp [hd]
          have e2 : Hid (m = ((xs.take (k + 1)).filter (fun c => !isDig c)).length) := by unfold Hid; rw [hx.out.2, List.filter_append, List.length_append, ← hq.out]; simp [hd]
          clear hV hd
          go_wp2_with (first
            | (go_at_call 91; (with_reducible refine HV.out.mono ?_); rintro e w4 ⟨rfl, rfl⟩)
            | (at_builtin; go_must (refine wpList_push ST8 rfl _ _ rfl rfl ⟨_, rfl⟩ hown' hbel' (by omega) (mk_u8 h0 h1) ?_); intro v' w' ho2 hb3))
          rw [e1.out] at ho2
          clear hown' hbel'
          go_wp2_with fail
          go_roundw
          case rel => exact ⟨k + 1, m, by omega, by go_num, rfl, by omega, hE, e2, ho2, hb3⟩
          case measure => simp [intOf]; omega
    · have e : Hid (cutEq xs = xs.take k) := cut_at hn.out (.inl (by omega))
      go_wp2_with fail
      go_ret2
      exact ⟨_, by unfold strQ; rw [e.out, ← hq.out]; rfl, by unfold digL; rw [e.out]; exact hown', hbel'⟩
set_option maxHeartbeats 2000000 in
theorem ref15_Read (a : Option Addr) (len cap : Nat) (xs : List Int) (w : World) (hr : Reads .u8 w a len cap xs) (hN : len < 10000000) :
    Calls Tryz.prog 38 #[.slice a len cap] w fun e w' => ∃ v, e = .returned (.tuple #[v, .int .i64 (drpN xs)]) ∧ Own .u8 5 w.heap.size w' v (looL xs) ∧ Below w.heap.size w w' := by
  have HR := hid hr
  have hsz := hr.size
  clear hr
  have hdl := digL_le xs
  have hrd := hid (rd_bits _ (digL_v6 xs))
  have hvl : Hid (valsL (digL xs) = bits6 ((digL xs).map valI)) := by unfold Hid valsL; rw [if_pos (digL_dig xs)]
  have HDD := hid (digL_dig xs)
  have hlen : (bits6 ((digL xs).map valI)).length = 6 * (digL xs).length := by rw [bits6_len, List.length_map]
  have HO1 : Hid (∀ b ∈ bits6 ((digL xs).map valI), b = 0 ∨ b = 1) := by
    intro b hb
    unfold bits6 bit6 at hb
    rw [List.mem_flatMap] at hb
    obtain ⟨x, _, hb⟩ := hb
    simp only [List.mem_cons, List.not_mem_nil, or_false] at hb
    omega
  obtain ⟨n, hn⟩ : ∃ n, n = (digL xs).length := ⟨_, rfl⟩
  have HDr : Hid (drpN xs = 6 * n % 8) := by unfold Hid drpN; rw [hn]
  rw [← hn] at hdl hlen
  have HN := hid hn
  clear hn
  go_enter Tryz.func38, Tryz.ntmps38
  go_wp2_with (first
    | (go_at_call 60; (with_reducible refine (ref15_Digits _ _ _ _ _ HR.out (by omega)).mono ?_); rintro e w1 ⟨v1, rfl, ho1, hb1⟩; obtain ⟨a1, c1, rfl, hr1⟩ := ho1.reads; rw [← HN.out] at hr1; have hV := ref14_Values a1 n c1 _ w1 hr1 (by omega); rw [HDD.out, hvl.out] at hV; rw [← HN.out]; have HV := hid hV; clear hV)
    | (go_at_call 61; (with_reducible refine HV.out.mono ?_); rintro e w2 ⟨v2, rfl, ho2, hb2⟩; obtain ⟨a2, c2, rfl, hr2⟩ := ho2.reads; rw [hlen] at hr2; have hq := ref14_Octets a2 (6 * n) c2 _ w2 hr2 HO1.out (by omega); rw [hrd.out.1] at hq; rw [hlen]; have HQ := hid hq; have hb2' := below_then hb1 hb2; clear hq)
    | (go_at_call 62; (with_reducible refine HQ.out.mono ?_); rintro e w3 ⟨v3, rfl, ho3, hb3⟩; have hb3' := below_then hb2' hb3))
  go_ret2
  exact ⟨_, by rw [HDr.out]; rfl, own_mono ho3 hb2'.size, hb3'⟩
end Go.Proofs.YtefhddbbiheadaaGreat
