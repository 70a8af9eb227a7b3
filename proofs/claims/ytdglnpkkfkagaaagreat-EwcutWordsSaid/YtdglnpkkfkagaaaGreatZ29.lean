/-
  Texts of ours laid together: C14b, C14c, C15a, C15.
-/
import Derived.Test.YtdglnpkkfkagaaaGreatRows
import Derived.Test.YtdglnpkkfkagaaaGreatZ28

/-! C14b -/
namespace Go.Proofs.YtdglnpkkfkagaaaGreat
open Go.RowKit
set_option linter.unusedVariables false

theorem u8_wf {x : Int} (h : (Lit.int .u8 x).wf = true) : O8 x := ⟨(wf_u8 h).1, (wf_u8 h).2⟩
theorem lay_group (ys : List Int) : layB ys = layB (ys.take 3) ++ layB (ys.drop 3) := by
  match ys with
  | [] => rfl
  | [a] => simp [layB, fill4, bareB, v64]
  | [a, b] => simp [layB, fill4, bareB, v64]
  | a :: b :: c :: r =>
    simp only [List.take_succ_cons, List.take_zero, List.drop_succ_cons, List.drop_zero]
    unfold layB fill4 bareB
    simp only [v64, List.map_cons, List.length_cons, List.map_nil, List.length_nil]
    rw [show (4 - ((v64 r).map dg64).length.succ.succ.succ.succ % 4) % 4 = (4 - ((v64 r).map dg64).length % 4) % 4 by omega]
    simp
theorem lay_part {ys : List Int} {n : Nat} (h : n = 3 ∨ (ys.length ≤ n ∧ n ≤ 3)) : layB ys = layB (ys.take n) ++ layB (ys.drop n) := by
  rcases h with rfl | ⟨h, _⟩
  · exact lay_group ys
  · rw [List.take_of_length_le h, List.drop_of_length_le h]
    show layB ys = layB ys ++ []
    rw [List.append_nil]
theorem layB_wf {xs : List Int} (h : ∀ x ∈ xs, O8 x) : ∀ z ∈ layB xs, (Lit.int .u8 z).wf = true := by
  intro z hz
  unfold layB fill4 bareB at hz
  rcases List.mem_append.1 hz with hz | hz
  · obtain ⟨v, hv, rfl⟩ := List.mem_map.1 hz
    exact dg_wf (v64_bd xs h v hv)
  · rw [List.eq_of_mem_replicate hz]; decide
theorem lay_le (xs : List Int) : (layB xs).length ≤ 2 * xs.length + 8 := by
  unfold layB fill4 bareB
  rw [List.length_append, List.length_replicate, List.length_map, v64_len]
  omega

theorem bcode_laid (a : Option Addr) (len cap : Nat) (xs : List Int) (w : World) (hr : Reads .u8 w a len cap xs) (h1 : 1 ≤ len) (h3 : len ≤ 3) :
    Calls Tryz.prog 131 #[.slice a len cap] w fun e w' => ∃ d0 d1 d2 d3, e = .returned (.agg #[.int .u8 d0, .int .u8 d1, .int .u8 d2, .int .u8 d3]) ∧ Hid (layB xs = [d0, d1, d2, d3]) ∧ Below w.heap.size w w' := by
  obtain ⟨b, off, rfl, hb, hc⟩ := hr.cell (by omega)
  have hsz := hr.size
  have hwf := hr.wf
  have hsrc : ∀ j v, (xs.map (Value.int .u8))[j]? = some v → w.cell? ⟨b, off + j, none⟩ = some v := by
    intro j v hv
    have hjl : j < xs.length := by
      have := (List.getElem?_eq_some_iff.1 hv).1
      simpa using this
    rw [hc j (by omega)]
    simp only [List.getElem?_map, List.getElem?_eq_getElem hjl, Option.map_some, Option.some.injEq] at hv
    subst hv
    simp [hjl]
  have h0 : O8 0 := ⟨by omega, by omega⟩
  match xs, hsz with
  | [x], hsz =>
    obtain rfl : len = 1 := by simpa using hsz.symm
    refine (bcode_laidM b off 1 cap x 0 0 [.int .u8 x] w (by simp) rfl (ints_oneCell .u8 [x]) hb hsrc rfl (u8_wf (hwf x (by simp))) h0 h0).mono ?_
    rintro e w' ⟨rfl, hbel⟩
    exact ⟨_, _, _, _, rfl, by simp [Hid, layB, fill4, bareB, v64], hbel⟩
  | [x, y], hsz =>
    obtain rfl : len = 2 := by simpa using hsz.symm
    refine (bcode_laidM b off 2 cap x y 0 [.int .u8 x, .int .u8 y] w (by simp) rfl (ints_oneCell .u8 [x, y]) hb hsrc rfl (u8_wf (hwf x (by simp))) (u8_wf (hwf y (by simp))) h0).mono ?_
    rintro e w' ⟨rfl, hbel⟩
    exact ⟨_, _, _, _, rfl, by simp [Hid, layB, fill4, bareB, v64], hbel⟩
  | [x, y, z], hsz =>
    obtain rfl : len = 3 := by simpa using hsz.symm
    refine (bcode_laidM b off 3 cap x y z [.int .u8 x, .int .u8 y, .int .u8 z] w (by simp) rfl (ints_oneCell .u8 [x, y, z]) hb hsrc rfl (u8_wf (hwf x (by simp))) (u8_wf (hwf y (by simp))) (u8_wf (hwf z (by simp)))).mono ?_
    rintro e w' ⟨rfl, hbel⟩
    exact ⟨_, _, _, _, rfl, by simp [Hid, layB, fill4, bareB, v64], hbel⟩
  | [], hsz => simp at hsz; omega
  | _ :: _ :: _ :: _ :: _, hsz => simp at hsz; omega
set_option maxHeartbeats 2000000 in
theorem bcode_Lay (a : Option Addr) (len cap : Nat) (xs : List Int) (w : World) (hr : Reads .u8 w a len cap xs) (hN : len < 100000000) :
    Calls Tryz.prog 111 #[.slice a len cap] w fun e w' => ∃ v, e = .returned v ∧ Own .u8 5 w.heap.size w' v (layB xs) ∧ Below w.heap.size w w' := by
  have HR := hid hr
  have hsz := hr.size
  clear hr
  have hll := lay_le xs
  rw [hsz] at hll
  obtain ⟨L, hL⟩ : ∃ L, L = (layB xs).length := ⟨_, rfl⟩
  rw [← hL] at hll
  obtain ⟨M, hM⟩ : ∃ M : Nat, lenB (len : Int) = M ∧ M ≤ 2 * len + 8 := ⟨(lenB (len : Int)).toNat, by unfold lenB; split <;> omega, by unfold lenB; split <;> omega⟩
  obtain ⟨hM, hM1⟩ := hM
  go_enter Tryz.func111, Tryz.ntmps111
  go_wp2_with (first
    | (go_at_call 98; (with_reducible refine (bcode_Len _ _ (by omega)).mono ?_); rintro e w' ⟨rfl, rfl⟩; rw [hM])
    | (at_make; go_must (refine wpList_make0 (n := M) CT8 rfl _ _ rfl rfl rfl (Below.refl _ _) (by omega) ?_); intro v1 w1 ho1 hb1))
  have HL := hid hL
  clear hL hM
  go_loopw [0, 3] (fun s v wr => ∃ a' m c' ys O, s = .slice a' m c' ∧ m ≤ len ∧ Reads .u8 w a' m c' ys ∧ Own .u8 5 w.heap.size wr v O ∧ Below w.heap.size w wr ∧ Hid (O ++ layB ys = layB xs)) (fun s _ _ => lenV s)
  case atStart => exact ⟨a, len, cap, xs, [], rfl, Nat.le_refl _, HR.out, ho1, hb1, rfl⟩
  case round =>
    obtain ⟨a', m, c', ys, O, rfl, hml, hry, hown, hbel, hE⟩ := hrel
    have hys := hry.size
    have hrm := hry.room
    have hOl := congrArg List.length hE.out
    rw [List.length_append, ← HL.out] at hOl
    have hO : O.length ≤ 2 * len + 8 := by omega
    clear hOl
    by_cases h0 : 0 < m
    · by_cases h3 : m < 3
      · have hp := hry.pre (n := m) (by omega)
        have HP := hid (hp.below hbel)
        have hq := hry.piece (l := m) (r := m) (by omega) (by omega)
        rw [List.take_of_length_le (by omega)] at hq
        have HQ := hid hq
        have HG := hid (lay_part (ys := ys) (n := m) (Or.inr ⟨by omega, by omega⟩))
        have HWF := hid (layB_wf (xs := ys.take m) (fun x hx => u8_wf (hp.wf x hx)))
        clear hp hq hry
        go_wp2_with (first
          | (go_at_call 131; (with_reducible refine (bcode_laid _ _ _ _ _ HP.out (by omega) (by omega)).mono ?_); rintro e w4 ⟨d0, d1, d2, d3, rfl, hD, hb4⟩; have ho4 := hown.below hb4; have hbl4 := below_then hbel hb4; have hwf4 := HWF.out; rw [hD.out] at hwf4; have HW4 := hid hwf4; clear hwf4)
          | (refine wpList_storeNew (w0 := w4) .u8 [d0, d1, d2, d3] _ _ _ rfl rfl _ rfl rfl rfl (by kernel_rfl) rfl ?_)
          | (at_builtin; go_must (refine wpList_more CT8 rfl _ _ rfl rfl rfl (ho4.below ((Below.refl _ _).alloc (Nat.le_refl _) _)) (hbl4.alloc (hbl4.size) _) (Reads.lit .u8 138 w4 [d0, d1, d2, d3] (by simp [maxLen]) HW4.out) (by show O.length + 4 < 1000000000000; omega) ?_); intro v5 w5 ho5 hb5))
        have hE' : Hid ((O ++ [d0, d1, d2, d3]) ++ layB (ys.drop m) = layB xs) := by
          unfold Hid
          rw [← hE.out, HG.out, hD.out, List.append_assoc]
        clear hE HG hD HW4 HWF ho4 hbl4 hown hbel hb4
        all_goals
          go_roundw
          case rel => exact ⟨_, _, _, _, _, rfl, by omega, (by have h := HQ.out; first | exact h | (rw [Nat.sub_self] at h; exact h)), ho5, hb5, hE'⟩
          case measure => simp [lenV]; omega
      · have hp := hry.pre (n := 3) (by omega)
        have HP := hid (hp.below hbel)
        have hq := hry.piece (l := 3) (r := m) (by omega) (by omega)
        rw [List.take_of_length_le (by omega)] at hq
        have HQ := hid hq
        have HG := hid (lay_part (ys := ys) (n := 3) (Or.inl rfl))
        have HWF := hid (layB_wf (xs := ys.take 3) (fun x hx => u8_wf (hp.wf x hx)))
        clear hp hq hry
        go_wp2_with (first
          | (go_at_call 131; (with_reducible refine (bcode_laid _ _ _ _ _ HP.out (by omega) (by omega)).mono ?_); rintro e w4 ⟨d0, d1, d2, d3, rfl, hD, hb4⟩; have ho4 := hown.below hb4; have hbl4 := below_then hbel hb4; have hwf4 := HWF.out; rw [hD.out] at hwf4; have HW4 := hid hwf4; clear hwf4)
          | (refine wpList_storeNew (w0 := w4) .u8 [d0, d1, d2, d3] _ _ _ rfl rfl _ rfl rfl rfl (by kernel_rfl) rfl ?_)
          | (at_builtin; go_must (refine wpList_more CT8 rfl _ _ rfl rfl rfl (ho4.below ((Below.refl _ _).alloc (Nat.le_refl _) _)) (hbl4.alloc (hbl4.size) _) (Reads.lit .u8 138 w4 [d0, d1, d2, d3] (by simp [maxLen]) HW4.out) (by show O.length + 4 < 1000000000000; omega) ?_); intro v5 w5 ho5 hb5))
        have hE' : Hid ((O ++ [d0, d1, d2, d3]) ++ layB (ys.drop 3) = layB xs) := by
          unfold Hid
          rw [← hE.out, HG.out, hD.out, List.append_assoc]
        clear hE HG hD HW4 HWF ho4 hbl4 hown hbel hb4
        all_goals
          go_roundw
          case rel => exact ⟨_, _, _, _, _, rfl, by omega, (by have h := HQ.out; first | exact h | (rw [Nat.sub_self] at h; exact h)), ho5, hb5, hE'⟩
          case measure => simp [lenV]; omega
    · obtain rfl : m = 0 := by omega
      obtain rfl : ys = [] := List.eq_nil_of_length_eq_zero hys
      have hE' := hE.out
      rw [show layB [] = [] from rfl, List.append_nil] at hE'
      rw [hE'] at hown
      clear hE hE' hry
      go_wp2_with fail
      go_ret
      exact ⟨_, rfl, hown, hbel⟩
end Go.Proofs.YtdglnpkkfkagaaaGreat

/-! C14c -/
namespace Go.Proofs.YtdglnpkkfkagaaaGreat
open Go.RowKit
set_option linter.unusedVariables false

/-- Numbers of digits together, the first k of them; what is missing is 0. -/
def dat (xs : List Int) (k : Nat) : Int := valI (xs.getD k 61)
def acc6 (xs : List Int) : Nat → Int
  | 0 => 0
  | k + 1 => acc6 xs k * 64 + dat xs k
theorem dat_bd (xs : List Int) (k : Nat) : 0 ≤ dat xs k ∧ dat xs k ≤ 63 := val_bd _
theorem acc_bd (xs : List Int) (k : Nat) (h : k ≤ 3) : 0 ≤ acc6 xs k ∧ acc6 xs k ≤ 262143 := by
  have h0 := dat_bd xs 0
  have h1 := dat_bd xs 1
  have h2 := dat_bd xs 2
  have hk : k = 0 ∨ k = 1 ∨ k = 2 ∨ k = 3 := by omega
  rcases hk with rfl | rfl | rfl | rfl <;> simp only [acc6] <;> omega
theorem val_61 : valI 61 = 0 := by decide +kernel
theorem dat_at {xs : List Int} {k : Nat} {x : Int} (h : xs[k]? = some x) : dat xs k = valI x := by unfold dat; simp [List.getD, h]
theorem dat_out {xs : List Int} {k : Nat} (h : xs.length ≤ k) : dat xs k = 0 := by unfold dat; rw [List.getD_eq_getElem?_getD, List.getElem?_eq_none h]; exact val_61
/-- Three octets of what four digits make; and as many of them as are whole. -/
theorem rd_group {xs : List Int} (h1 : 1 ≤ xs.length) (h4 : xs.length ≤ 4) : rd64 (xs.map valI) = [acc6 xs 4 / 65536 % 256, acc6 xs 4 / 256 % 256, acc6 xs 4 % 256].take (xs.length * 6 / 8) := by
  match xs with
  | [a] => simp [rd64]
  | [a, b] =>
    have ha := val_bd a
    have hb := val_bd b
    have h2 := dat_out (xs := [a, b]) (k := 2) (by simp)
    have h3 := dat_out (xs := [a, b]) (k := 3) (by simp)
    unfold V6 at ha hb
    have e : acc6 [a, b] 4 = (valI a * 64 + valI b) * 4096 := by simp only [acc6, h2, h3]; rw [dat_at (x := a) rfl, dat_at (x := b) rfl]; omega
    rw [e]
    simp only [List.map_cons, List.map_nil, rd64, List.length_cons, List.length_nil, List.take_succ_cons, List.take_zero]
    exact cons2 (by omega) rfl
  | [a, b, c] =>
    have ha := val_bd a
    have hb := val_bd b
    have hc := val_bd c
    have h3 := dat_out (xs := [a, b, c]) (k := 3) (by simp)
    unfold V6 at ha hb hc
    have e : acc6 [a, b, c] 4 = ((valI a * 64 + valI b) * 64 + valI c) * 64 := by simp only [acc6, h3]; rw [dat_at (x := a) rfl, dat_at (x := b) rfl, dat_at (x := c) rfl]; omega
    rw [e]
    simp only [List.map_cons, List.map_nil, rd64, List.length_cons, List.length_nil, List.take_succ_cons, List.take_zero]
    exact cons2 (by omega) (cons2 (by omega) rfl)
  | [a, b, c, d] =>
    have ha := val_bd a
    have hb := val_bd b
    have hc := val_bd c
    have hd := val_bd d
    unfold V6 at ha hb hc hd
    have e : acc6 [a, b, c, d] 4 = ((valI a * 64 + valI b) * 64 + valI c) * 64 + valI d := by simp only [acc6]; rw [dat_at (x := a) rfl, dat_at (x := b) rfl, dat_at (x := c) rfl, dat_at (x := d) rfl]; omega
    rw [e]
    simp only [List.map_cons, List.map_nil, rd64, List.length_cons, List.length_nil, List.take_succ_cons, List.take_zero]
    exact cons2 (by omega) (cons2 (by omega) (cons2 (by omega) rfl))
  | [] => simp at h1
  | _ :: _ :: _ :: _ :: _ :: _ => simp at h4

theorem rd_four (ys : List Int) : rd64 ys = rd64 (ys.take 4) ++ rd64 (ys.drop 4) := by
  match ys with
  | [] => rfl
  | [a] => rfl
  | [a, b] => rfl
  | [a, b, c] => rfl
  | a :: b :: c :: d :: r => rfl
theorem rd_part {ys : List Int} {n : Nat} (h : n = 4 ∨ (ys.length ≤ n ∧ n ≤ 4)) : rd64 (ys.map valI) = rd64 ((ys.take n).map valI) ++ rd64 ((ys.drop n).map valI) := by
  rcases h with rfl | ⟨h, _⟩
  · rw [List.map_take, List.map_drop]; exact rd_four _
  · rw [List.take_of_length_le h, List.drop_of_length_le h]
    show _ = _ ++ []
    rw [List.append_nil]
end Go.Proofs.YtdglnpkkfkagaaaGreat

/-! C15a -/
namespace Go.Proofs.YtdglnpkkfkagaaaGreat
open Go.RowKit Go.Shelf
set_option linter.unusedVariables false
attribute [local go_sem] Oper.semAt_some

/-- A digit with its number, as yield is handed it. -/
def encD (c : Int) : Array Value := #[.int .u8 c, .int .i64 (valI c)]

theorem cut_take (xs : List Int) : xs.take (cutEq xs).length = cutEq xs := by
  unfold cutEq
  induction xs with
  | nil => rfl
  | cons x xs ih =>
    by_cases h : noEq x = true
    · rw [List.takeWhile_cons_of_pos h, List.length_cons, List.take_succ_cons, ih]
    · rw [List.takeWhile_cons_of_neg h]; rfl
theorem cut_le (xs : List Int) : (cutEq xs).length ≤ xs.length := (List.takeWhile_sublist _).length_le
theorem reads_cut {w : World} {a : Option Addr} {len cap : Nat} {xs : List Int} (hr : Reads .u8 w a len cap xs) : Reads .u8 w a (cutEq xs).length cap (cutEq xs) := by
  have h := hr.pre (n := (cutEq xs).length) (by have := cut_le xs; have := hr.size; omega)
  rwa [cut_take] at h


/-! ### the iterator -/
theorem digL_take {xs : List Int} {k : Nat} {c : Int} (h : (cutEq xs).take (k + 1) = (cutEq xs).take k ++ [c]) : ((cutEq xs).take (k + 1)).filter isDig = ((cutEq xs).take k).filter isDig ++ (if isDig c = true then [c] else []) := by
  rw [h, List.filter_append]
  congr 1
  cases hd : isDig c <;> simp [hd]
theorem dig_n (xs : List Int) : (looL xs).length = (digL xs).length / 4 * 3 + (digL xs).length % 4 * 6 / 8 ∧ drpN xs = (digL xs).length % 4 * 6 % 8 := by
  constructor
  · unfold looL
    rw [rd64_len, List.length_map]
    omega
  · unfold drpN
    omega
end Go.Proofs.YtdglnpkkfkagaaaGreat

/-! C15 -/
namespace Go.Proofs.YtdglnpkkfkagaaaGreat
open Go.RowKit Go.Shelf
set_option linter.unusedVariables false
attribute [local go_sem] Oper.semAt_some

theorem digL_wf {xs : List Int} (h : ∀ x ∈ xs, (Lit.int .u8 x).wf = true) : ∀ x ∈ digL xs, (Lit.int .u8 x).wf = true := fun x hx => h x ((List.takeWhile_sublist _).mem (List.mem_filter.1 hx).1)
/-! ### what is read, digit by digit -/
/-- The bits that are left over, as a number. -/
def lft : List Int → Int
  | _ :: _ :: _ :: _ :: t => lft t
  | [_, _, r] => r % 4
  | [_, q] => q % 16
  | [p] => p
  | [] => 0
theorem lft_snoc (v : Int) (hv : V6 v) : ∀ vs : List Int, (∀ x ∈ vs, V6 x) →
    (vs.length % 4 = 0 → rd64 (vs ++ [v]) = rd64 vs ∧ lft (vs ++ [v]) = v ∧ lft vs = 0) ∧
    (vs.length % 4 = 1 → rd64 (vs ++ [v]) = rd64 vs ++ [(lft vs * 64 + v) / 16] ∧ lft (vs ++ [v]) = (lft vs * 64 + v) % 16 ∧ 0 ≤ lft vs ∧ lft vs ≤ 63) ∧
    (vs.length % 4 = 2 → rd64 (vs ++ [v]) = rd64 vs ++ [(lft vs * 64 + v) / 4] ∧ lft (vs ++ [v]) = (lft vs * 64 + v) % 4 ∧ 0 ≤ lft vs ∧ lft vs ≤ 15) ∧
    (vs.length % 4 = 3 → rd64 (vs ++ [v]) = rd64 vs ++ [lft vs * 64 + v] ∧ lft (vs ++ [v]) = 0 ∧ 0 ≤ lft vs ∧ lft vs ≤ 3) := by
  obtain ⟨v0, v1⟩ := hv
  refine ind4 ?_ ?_ ?_ ?_ ?_
  · intro _; simp [rd64, lft]
  · intro p h
    obtain ⟨p0, p1⟩ := h p (by simp)
    refine ⟨fun h => by simp at h, fun _ => ⟨?_, ?_, p0, p1⟩, fun h => by simp at h, fun h => by simp at h⟩
    · show [p * 4 + v / 16] = [(p * 64 + v) / 16]
      rw [show (p * 64 + v) / 16 = p * 4 + v / 16 by omega]
    · show v % 16 = (p * 64 + v) % 16
      omega
  · intro p q h
    obtain ⟨q0, q1⟩ := h q (by simp)
    refine ⟨fun h => by simp at h, fun h => by simp at h, fun _ => ⟨?_, ?_, ?_, ?_⟩, fun h => by simp at h⟩
    · show [p * 4 + q / 16, q % 16 * 16 + v / 4] = [p * 4 + q / 16, (q % 16 * 64 + v) / 4]
      rw [show (q % 16 * 64 + v) / 4 = q % 16 * 16 + v / 4 by omega]
    · show v % 4 = (q % 16 * 64 + v) % 4
      omega
    · show 0 ≤ q % 16
      omega
    · show q % 16 ≤ 15
      omega
  · intro p q r h
    obtain ⟨r0, r1⟩ := h r (by simp)
    refine ⟨fun h => by simp at h, fun h => by simp at h, fun h => by simp at h, fun _ => ⟨rfl, rfl, ?_, ?_⟩⟩
    · show 0 ≤ r % 4
      omega
    · show r % 4 ≤ 3
      omega
  · intro p q r s t ih h
    have i := ih (fun x hx => h x (by simp [hx]))
    have e : (p :: q :: r :: s :: t).length % 4 = t.length % 4 := by simp only [List.length_cons]; omega
    rw [e]
    refine ⟨fun h => ?_, fun h => ?_, fun h => ?_, fun h => ?_⟩
    · obtain ⟨i1, i2, i3⟩ := i.1 h
      exact ⟨by simp only [List.cons_append, rd64, i1], i2, i3⟩
    · obtain ⟨i1, i2, i3⟩ := i.2.1 h
      exact ⟨by simp only [List.cons_append, rd64, i1, lft], i2, i3⟩
    · obtain ⟨i1, i2, i3⟩ := i.2.2.1 h
      exact ⟨by simp only [List.cons_append, rd64, i1, lft], i2, i3⟩
    · obtain ⟨i1, i2, i3⟩ := i.2.2.2 h
      exact ⟨by simp only [List.cons_append, rd64, i1, lft], i2, i3⟩
/-- .. where an octet more has come together: m bits are left over. -/
theorem lft_step (v : Int) (hv : V6 v) (vs : List Int) (hvs : ∀ x ∈ vs, V6 x) (h : vs.length % 4 ≠ 0) :
    ∃ m : Nat, m ≤ 4 ∧ 6 * vs.length % 8 = m + 2 ∧ 6 * (vs.length + 1) % 8 = m ∧ rd64 (vs ++ [v]) = rd64 vs ++ [(lft vs * 64 + v) / 2 ^ m] ∧ lft (vs ++ [v]) = (lft vs * 64 + v) % 2 ^ m ∧ 0 ≤ lft vs ∧ lft vs ≤ 63 ∧ 0 ≤ (lft vs * 64 + v) / 2 ^ m ∧ (lft vs * 64 + v) / 2 ^ m ≤ 255 := by
  obtain ⟨_, k1, k2, k3⟩ := lft_snoc v hv vs hvs
  obtain ⟨v0, v1⟩ := hv
  rcases (show vs.length % 4 = 1 ∨ vs.length % 4 = 2 ∨ vs.length % 4 = 3 by omega) with h | h | h
  · obtain ⟨e1, e2, z0, z1⟩ := k1 h
    exact ⟨4, by omega, by omega, by omega, e1, e2, z0, z1, by omega, by omega⟩
  · obtain ⟨e1, e2, z0, z1⟩ := k2 h
    exact ⟨2, by omega, by omega, by omega, e1, e2, z0, by omega, by omega, by omega⟩
  · obtain ⟨e1, e2, z0, z1⟩ := k3 h
    exact ⟨0, by omega, by omega, by omega, by rw [e1]; simp, by rw [e2]; simp, z0, by omega, by simp; omega, by simp; omega⟩
theorem mask_i64 (m : Nat) (hm : m ≤ 4) (n : Int) : bits .and .i64 n (2 ^ m - 1) = n % 2 ^ m := by
  rcases (show m = 0 ∨ m = 1 ∨ m = 2 ∨ m = 3 ∨ m = 4 by omega) with h | h | h | h | h <;> subst h
  all_goals
    show IntKind.i64.wrap ((BitVec.ofInt 64 n &&& BitVec.ofInt 64 _).toNat : Int) = _
    rw [BitVec.toNat_and, BitVec.toNat_ofInt, BitVec.toNat_ofInt]
  · rw [show (((2 ^ 0 - 1 : Int)) % ((2 ^ 64 : Nat) : Int)).toNat = 2 ^ 0 - 1 by decide, Nat.and_two_pow_sub_one_eq_mod, IntWalk.i64_in _ (by omega)]; omega
  · rw [show (((2 ^ 1 - 1 : Int)) % ((2 ^ 64 : Nat) : Int)).toNat = 2 ^ 1 - 1 by decide, Nat.and_two_pow_sub_one_eq_mod, IntWalk.i64_in _ (by omega)]; omega
  · rw [show (((2 ^ 2 - 1 : Int)) % ((2 ^ 64 : Nat) : Int)).toNat = 2 ^ 2 - 1 by decide, Nat.and_two_pow_sub_one_eq_mod, IntWalk.i64_in _ (by omega)]; omega
  · rw [show (((2 ^ 3 - 1 : Int)) % ((2 ^ 64 : Nat) : Int)).toNat = 2 ^ 3 - 1 by decide, Nat.and_two_pow_sub_one_eq_mod, IntWalk.i64_in _ (by omega)]; omega
  · rw [show (((2 ^ 4 - 1 : Int)) % ((2 ^ 64 : Nat) : Int)).toNat = 2 ^ 4 - 1 by decide, Nat.and_two_pow_sub_one_eq_mod, IntWalk.i64_in _ (by omega)]; omega
theorem looL_wf (xs : List Int) : ∀ x ∈ looL xs, (Lit.int .u8 x).wf = true := by
  have key : ∀ vs : List Int, (∀ v ∈ vs, V6 v) → ∀ x ∈ rd64 vs, 0 ≤ x ∧ x ≤ 255 := by
    refine ind4 ?_ ?_ ?_ ?_ ?_
    · intro _ x hx; cases hx
    · intro p _ x hx; cases hx
    · intro p q h x hx
      obtain ⟨p0, p1⟩ := h p (by simp)
      obtain ⟨q0, q1⟩ := h q (by simp)
      simp only [rd64, List.mem_cons, List.not_mem_nil, or_false] at hx
      omega
    · intro p q r h x hx
      obtain ⟨p0, p1⟩ := h p (by simp)
      obtain ⟨q0, q1⟩ := h q (by simp)
      obtain ⟨r0, r1⟩ := h r (by simp)
      simp only [rd64, List.mem_cons, List.not_mem_nil, or_false] at hx
      omega
    · intro p q r s t ih h x hx
      obtain ⟨p0, p1⟩ := h p (by simp)
      obtain ⟨q0, q1⟩ := h q (by simp)
      obtain ⟨r0, r1⟩ := h r (by simp)
      obtain ⟨s0, s1⟩ := h s (by simp)
      simp only [rd64, List.mem_cons] at hx
      rcases hx with hx | hx | hx | hx
      · omega
      · omega
      · omega
      · exact ih (fun x hx => h x (by simp [hx])) x hx
  intro x hx
  have := key _ (digL_v6 xs) x hx
  exact mk_u8 this.1 this.2

end Go.Proofs.YtdglnpkkfkagaaaGreat
