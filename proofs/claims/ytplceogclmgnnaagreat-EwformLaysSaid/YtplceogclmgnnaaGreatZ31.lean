/-
  Texts of ours laid together: C14b.
-/
import Derived.Test.YtplceogclmgnnaaGreatZ30

/-! C14b -/
namespace Go.Proofs.YtplceogclmgnnaaGreat
open Go.RowKit
set_option linter.unusedVariables false

theorem u8_wf {x : Int} (h : (Lit.int .u8 x).wf = true) : O8 x := ⟨(wf_u8 h).1, (wf_u8 h).2⟩
theorem lay_group (ys : List Int) : layB ys = layB (ys.take 3) ++ layB (ys.drop 3) := by
  match ys with
  | [] => rfl
  | [a] => simp [layB, fill4, bareB, v64]
  | [a, b] => simp [layB, fill4, bareB, v64]
  | a :: b :: c :: r =>
    simp only [List.take_succ_cons, List.take_zero, List.drop_succ_cons, List.drop_zero]
    unfold layB fill4 bareB
    simp only [v64, List.map_cons, List.length_cons, List.map_nil, List.length_nil]
    rw [show (4 - ((v64 r).map dg64).length.succ.succ.succ.succ % 4) % 4 = (4 - ((v64 r).map dg64).length % 4) % 4 by omega]
    simp
theorem lay_part {ys : List Int} {n : Nat} (h : n = 3 ∨ (ys.length ≤ n ∧ n ≤ 3)) : layB ys = layB (ys.take n) ++ layB (ys.drop n) := by
  rcases h with rfl | ⟨h, _⟩
  · exact lay_group ys
  · rw [List.take_of_length_le h, List.drop_of_length_le h]
    show layB ys = layB ys ++ []
    rw [List.append_nil]
theorem layB_wf {xs : List Int} (h : ∀ x ∈ xs, O8 x) : ∀ z ∈ layB xs, (Lit.int .u8 z).wf = true := by
  intro z hz
  unfold layB fill4 bareB at hz
  rcases List.mem_append.1 hz with hz | hz
  · obtain ⟨v, hv, rfl⟩ := List.mem_map.1 hz
    exact dg_wf (v64_bd xs h v hv)
  · rw [List.eq_of_mem_replicate hz]; decide
theorem lay_le (xs : List Int) : (layB xs).length ≤ 2 * xs.length + 8 := by
  unfold layB fill4 bareB
  rw [List.length_append, List.length_replicate, List.length_map, v64_len]
  omega

theorem bcode_laid (a : Option Addr) (len cap : Nat) (xs : List Int) (w : World) (hr : Reads .u8 w a len cap xs) (h1 : 1 ≤ len) (h3 : len ≤ 3) :
    Calls Tryz.prog 113 #[.slice a len cap] w fun e w' => ∃ d0 d1 d2 d3, e = .returned (.agg #[.int .u8 d0, .int .u8 d1, .int .u8 d2, .int .u8 d3]) ∧ Hid (layB xs = [d0, d1, d2, d3]) ∧ Below w.heap.size w w' := by
  obtain ⟨b, off, rfl, hb, hc⟩ := hr.cell (by omega)
  have hsz := hr.size
  have hwf := hr.wf
  have hsrc : ∀ j v, (xs.map (Value.int .u8))[j]? = some v → w.cell? ⟨b, off + j, none⟩ = some v := by
    intro j v hv
    have hjl : j < xs.length := by
      have := (List.getElem?_eq_some_iff.1 hv).1
      simpa using this
    rw [hc j (by omega)]
    simp only [List.getElem?_map, List.getElem?_eq_getElem hjl, Option.map_some, Option.some.injEq] at hv
    subst hv
    simp [hjl]
  have h0 : O8 0 := ⟨by omega, by omega⟩
  match xs, hsz with
  | [x], hsz =>
    obtain rfl : len = 1 := by simpa using hsz.symm
    refine (bcode_laidM b off 1 cap x 0 0 [.int .u8 x] w (by simp) rfl (ints_oneCell .u8 [x]) hb hsrc rfl (u8_wf (hwf x (by simp))) h0 h0).mono ?_
    rintro e w' ⟨rfl, hbel⟩
    exact ⟨_, _, _, _, rfl, by simp [Hid, layB, fill4, bareB, v64], hbel⟩
  | [x, y], hsz =>
    obtain rfl : len = 2 := by simpa using hsz.symm
    refine (bcode_laidM b off 2 cap x y 0 [.int .u8 x, .int .u8 y] w (by simp) rfl (ints_oneCell .u8 [x, y]) hb hsrc rfl (u8_wf (hwf x (by simp))) (u8_wf (hwf y (by simp))) h0).mono ?_
    rintro e w' ⟨rfl, hbel⟩
    exact ⟨_, _, _, _, rfl, by simp [Hid, layB, fill4, bareB, v64], hbel⟩
  | [x, y, z], hsz =>
    obtain rfl : len = 3 := by simpa using hsz.symm
    refine (bcode_laidM b off 3 cap x y z [.int .u8 x, .int .u8 y, .int .u8 z] w (by simp) rfl (ints_oneCell .u8 [x, y, z]) hb hsrc rfl (u8_wf (hwf x (by simp))) (u8_wf (hwf y (by simp))) (u8_wf (hwf z (by simp)))).mono ?_
    rintro e w' ⟨rfl, hbel⟩
    exact ⟨_, _, _, _, rfl, by simp [Hid, layB, fill4, bareB, v64], hbel⟩
  | [], hsz => simp at hsz; omega
  | _ :: _ :: _ :: _ :: _, hsz => simp at hsz; omega
set_option maxHeartbeats 2000000 in
theorem bcode_Lay (a : Option Addr) (len cap : Nat) (xs : List Int) (w : World) (hr : Reads .u8 w a len cap xs) (hN : len < 100000000) :
    Calls Tryz.prog 85 #[.slice a len cap] w fun e w' => ∃ v, e = .returned v ∧ Own .u8 5 w.heap.size w' v (layB xs) ∧ Below w.heap.size w w' := by
  have HR := hid hr
  have hsz := hr.size
  clear hr
  have hll := lay_le xs
  rw [hsz] at hll
  obtain ⟨L, hL⟩ : ∃ L, L = (layB xs).length := ⟨_, rfl⟩
  rw [← hL] at hll
  obtain ⟨M, hM⟩ : ∃ M : Nat, lenB (len : Int) = M ∧ M ≤ 2 * len + 8 := ⟨(lenB (len : Int)).toNat, by unfold lenB; split <;> omega, by unfold lenB; split <;> omega⟩
  obtain ⟨hM, hM1⟩ := hM
  go_enter Tryz.func85, Tryz.ntmps85
  go_wp2_with (first
    | (go_at_call 80; (with_reducible refine (bcode_Len _ _ (by omega)).mono ?_); rintro e w' ⟨rfl, rfl⟩; rw [hM])
    | (at_make; go_must (refine wpList_make0 (n := M) CT8 rfl _ _ rfl rfl rfl (Below.refl _ _) (by omega) ?_); intro v1 w1 ho1 hb1))
  have HL := hid hL
  clear hL hM
  go_loopw [0, 3] (fun s v wr => ∃ a' m c' ys O, s = .slice a' m c' ∧ m ≤ len ∧ Reads .u8 w a' m c' ys ∧ Own .u8 5 w.heap.size wr v O ∧ Below w.heap.size w wr ∧ Hid (O ++ layB ys = layB xs)) (fun s _ _ => lenV s)
  case atStart => exact ⟨a, len, cap, xs, [], rfl, Nat.le_refl _, HR.out, ho1, hb1, rfl⟩
  case round =>
    obtain ⟨a', m, c', ys, O, rfl, hml, hry, hown, hbel, hE⟩ := hrel
    have hys := hry.size
    have hrm := hry.room
    have hOl := congrArg List.length hE.out
    rw [List.length_append, ← HL.out] at hOl
    have hO : O.length ≤ 2 * len + 8 := by omega
    clear hOl
    by_cases h0 : 0 < m
    · by_cases h3 : m < 3
      · have hp := hry.pre (n := m) (by omega)
        have HP := hid (hp.below hbel)
        have hq := hry.piece (l := m) (r := m) (by omega) (by omega)
        rw [List.take_of_length_le (by omega)] at hq
        have HQ := hid hq
        have HG := hid (lay_part (ys := ys) (n := m) (Or.inr ⟨by omega, by omega⟩))
        have HWF := hid (layB_wf (xs := ys.take m) (fun x hx => u8_wf (hp.wf x hx)))
        clear hp hq hry
        go_wp2_with (first
          | (go_at_call 113; (with_reducible refine (bcode_laid _ _ _ _ _ HP.out (by omega) (by omega)).mono ?_); rintro e w4 ⟨d0, d1, d2, d3, rfl, hD, hb4⟩; have ho4 := hown.below hb4; have hbl4 := below_then hbel hb4; have hwf4 := HWF.out; rw [hD.out] at hwf4; have HW4 := hid hwf4; clear hwf4)
          | (refine wpList_storeNew (w0 := w4) .u8 [d0, d1, d2, d3] _ _ _ rfl rfl _ rfl rfl rfl (by kernel_rfl) rfl ?_)
          | (at_builtin; go_must (refine wpList_more CT8 rfl _ _ rfl rfl rfl (ho4.below ((Below.refl _ _).alloc (Nat.le_refl _) _)) (hbl4.alloc (hbl4.size) _) (Reads.lit .u8 104 w4 [d0, d1, d2, d3] (by simp [maxLen]) HW4.out) (by show O.length + 4 < 1000000000000; omega) ?_); intro v5 w5 ho5 hb5))
        have hE' : Hid ((O ++ [d0, d1, d2, d3]) ++ layB (ys.drop m) = layB xs) := by
          unfold Hid
          rw [← hE.out, HG.out, hD.out, List.append_assoc]
        clear hE HG hD HW4 HWF ho4 hbl4 hown hbel hb4
        all_goals
          go_roundw
          case rel => exact ⟨_, _, _, _, _, rfl, by omega, (by have h := HQ.out; first | exact h | (rw [Nat.sub_self] at h; exact h)), ho5, hb5, hE'⟩
          case measure => simp [lenV]; omega
      · have hp := hry.pre (n := 3) (by omega)
        have HP := hid (hp.below hbel)
        have hq := hry.piece (l := 3) (r := m) (by omega) (by omega)
        rw [List.take_of_length_le (by omega)] at hq
        have HQ := hid hq
        have HG := hid (lay_part (ys := ys) (n := 3) (Or.inl rfl))
        have HWF := hid (layB_wf (xs := ys.take 3) (fun x hx => u8_wf (hp.wf x hx)))
        clear hp hq hry
        go_wp2_with (first
          | (go_at_call 113; (with_reducible refine (bcode_laid _ _ _ _ _ HP.out (by omega) (by omega)).mono ?_); rintro e w4 ⟨d0, d1, d2, d3, rfl, hD, hb4⟩; have ho4 := hown.below hb4; have hbl4 := below_then hbel hb4; have hwf4 := HWF.out; rw [hD.out] at hwf4; have HW4 := hid hwf4; clear hwf4)
          | (refine wpList_storeNew (w0 := w4) .u8 [d0, d1, d2, d3] _ _ _ rfl rfl _ rfl rfl rfl (by kernel_rfl) rfl ?_)
          | (at_builtin; go_must (refine wpList_more CT8 rfl _ _ rfl rfl rfl (ho4.below ((Below.refl _ _).alloc (Nat.le_refl _) _)) (hbl4.alloc (hbl4.size) _) (Reads.lit .u8 104 w4 [d0, d1, d2, d3] (by simp [maxLen]) HW4.out) (by show O.length + 4 < 1000000000000; omega) ?_); intro v5 w5 ho5 hb5))
        have hE' : Hid ((O ++ [d0, d1, d2, d3]) ++ layB (ys.drop 3) = layB xs) := by
          unfold Hid
          rw [← hE.out, HG.out, hD.out, List.append_assoc]
        clear hE HG hD HW4 HWF ho4 hbl4 hown hbel hb4
        all_goals
          go_roundw
          case rel => exact ⟨_, _, _, _, _, rfl, by omega, (by have h := HQ.out; first | exact h | (rw [Nat.sub_self] at h; exact h)), ho5, hb5, hE'⟩
          case measure => simp [lenV]; omega
    · obtain rfl : m = 0 := by omega
      obtain rfl : ys = [] := List.eq_nil_of_length_eq_zero hys
      have hE' := hE.out
      rw [show layB [] = [] from rfl, List.append_nil] at hE'
      rw [hE'] at hown
      clear hE hE' hry
      go_wp2_with fail
      go_ret
      exact ⟨_, rfl, hown, hbel⟩
end Go.Proofs.YtplceogclmgnnaaGreat
