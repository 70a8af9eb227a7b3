/-
  Texts of ours laid together: C14b, C14c, C14d.
-/
import Derived.Test.YtfnolkkmldiimaaGreatDoorZ7

/-! C14b -/
namespace Go.Proofs.YtfnolkkmldiimaaGreatDoor
open Go.RowKit
set_option linter.unusedVariables false

theorem u8_wf {x : Int} (h : (Lit.int .u8 x).wf = true) : O8 x := ⟨(wf_u8 h).1, (wf_u8 h).2⟩
theorem lay_group (ys : List Int) : layB ys = layB (ys.take 3) ++ layB (ys.drop 3) := by
  match ys with
  | [] => rfl
  | [a] => simp [layB, fill4, bareB, v64]
  | [a, b] => simp [layB, fill4, bareB, v64]
  | a :: b :: c :: r =>
    simp only [List.take_succ_cons, List.take_zero, List.drop_succ_cons, List.drop_zero]
    unfold layB fill4 bareB
    simp only [v64, List.map_cons, List.length_cons, List.map_nil, List.length_nil]
    rw [show (4 - ((v64 r).map dg64).length.succ.succ.succ.succ % 4) % 4 = (4 - ((v64 r).map dg64).length % 4) % 4 by omega]
    simp
theorem lay_part {ys : List Int} {n : Nat} (h : n = 3 ∨ (ys.length ≤ n ∧ n ≤ 3)) : layB ys = layB (ys.take n) ++ layB (ys.drop n) := by
  rcases h with rfl | ⟨h, _⟩
  · exact lay_group ys
  · rw [List.take_of_length_le h, List.drop_of_length_le h]
    show layB ys = layB ys ++ []
    rw [List.append_nil]
theorem layB_wf {xs : List Int} (h : ∀ x ∈ xs, O8 x) : ∀ z ∈ layB xs, (Lit.int .u8 z).wf = true := by
  intro z hz
  unfold layB fill4 bareB at hz
  rcases List.mem_append.1 hz with hz | hz
  · obtain ⟨v, hv, rfl⟩ := List.mem_map.1 hz
    exact dg_wf (v64_bd xs h v hv)
  · rw [List.eq_of_mem_replicate hz]; decide
theorem lay_le (xs : List Int) : (layB xs).length ≤ 2 * xs.length + 8 := by
  unfold layB fill4 bareB
  rw [List.length_append, List.length_replicate, List.length_map, v64_len]
  omega

theorem bcode_laid (a : Option Addr) (len cap : Nat) (xs : List Int) (w : World) (hr : Reads .u8 w a len cap xs) (h1 : 1 ≤ len) (h3 : len ≤ 3) :
    Calls Tryz.prog 96 #[.slice a len cap] w fun e w' => ∃ d0 d1 d2 d3, e = .returned (.agg #[.int .u8 d0, .int .u8 d1, .int .u8 d2, .int .u8 d3]) ∧ Hid (layB xs = [d0, d1, d2, d3]) ∧ Below w.heap.size w w' := by
  obtain ⟨b, off, rfl, hb, hc⟩ := hr.cell (by omega)
  have hsz := hr.size
  have hwf := hr.wf
  have hsrc : ∀ j v, (xs.map (Value.int .u8))[j]? = some v → w.cell? ⟨b, off + j, none⟩ = some v := by
    intro j v hv
    have hjl : j < xs.length := by
      have := (List.getElem?_eq_some_iff.1 hv).1
      simpa using this
    rw [hc j (by omega)]
    simp only [List.getElem?_map, List.getElem?_eq_getElem hjl, Option.map_some, Option.some.injEq] at hv
    subst hv
    simp [hjl]
  have h0 : O8 0 := ⟨by omega, by omega⟩
  match xs, hsz with
  | [x], hsz =>
    obtain rfl : len = 1 := by simpa using hsz.symm
    refine (bcode_laidM b off 1 cap x 0 0 [.int .u8 x] w (by simp) rfl (ints_oneCell .u8 [x]) hb hsrc rfl (u8_wf (hwf x (by simp))) h0 h0).mono ?_
    rintro e w' ⟨rfl, hbel⟩
    exact ⟨_, _, _, _, rfl, by simp [Hid, layB, fill4, bareB, v64], hbel⟩
  | [x, y], hsz =>
    obtain rfl : len = 2 := by simpa using hsz.symm
    refine (bcode_laidM b off 2 cap x y 0 [.int .u8 x, .int .u8 y] w (by simp) rfl (ints_oneCell .u8 [x, y]) hb hsrc rfl (u8_wf (hwf x (by simp))) (u8_wf (hwf y (by simp))) h0).mono ?_
    rintro e w' ⟨rfl, hbel⟩
    exact ⟨_, _, _, _, rfl, by simp [Hid, layB, fill4, bareB, v64], hbel⟩
  | [x, y, z], hsz =>
    obtain rfl : len = 3 := by simpa using hsz.symm
    refine (bcode_laidM b off 3 cap x y z [.int .u8 x, .int .u8 y, .int .u8 z] w (by simp) rfl (ints_oneCell .u8 [x, y, z]) hb hsrc rfl (u8_wf (hwf x (by simp))) (u8_wf (hwf y (by simp))) (u8_wf (hwf z (by simp)))).mono ?_
    rintro e w' ⟨rfl, hbel⟩
    exact ⟨_, _, _, _, rfl, by simp [Hid, layB, fill4, bareB, v64], hbel⟩
  | [], hsz => simp at hsz; omega
  | _ :: _ :: _ :: _ :: _, hsz => simp at hsz; omega
set_option maxHeartbeats 2000000 in
theorem bcode_Lay (a : Option Addr) (len cap : Nat) (xs : List Int) (w : World) (hr : Reads .u8 w a len cap xs) (hN : len < 100000000) :
    Calls Tryz.prog 77 #[.slice a len cap] w fun e w' => ∃ v, e = .returned v ∧ Own .u8 5 w.heap.size w' v (layB xs) ∧ Below w.heap.size w w' := by
  have HR := hid hr
  have hsz := hr.size
  clear hr
  have hll := lay_le xs
  rw [hsz] at hll
  obtain ⟨L, hL⟩ : ∃ L, L = (layB xs).length := ⟨_, rfl⟩
  rw [← hL] at hll
  obtain ⟨M, hM⟩ : ∃ M : Nat, lenB (len : Int) = M ∧ M ≤ 2 * len + 8 := ⟨(lenB (len : Int)).toNat, by unfold lenB; split <;> omega, by unfold lenB; split <;> omega⟩
  obtain ⟨hM, hM1⟩ := hM
  go_enter Tryz.func77, Tryz.ntmps77
  go_wp2_with (first
    | (go_at_call 95; (with_reducible refine (bcode_Len _ _ (by omega)).mono ?_); rintro e w' ⟨rfl, rfl⟩; rw [hM])
    | (at_make; go_must (refine wpList_make0 (n := M) CT8 rfl _ _ rfl rfl rfl (Below.refl _ _) (by omega) ?_); intro v1 w1 ho1 hb1))
  have HL := hid hL
  clear hL hM
  go_loopw [0, 3] (fun s v wr => ∃ a' m c' ys O, s = .slice a' m c' ∧ m ≤ len ∧ Reads .u8 w a' m c' ys ∧ Own .u8 5 w.heap.size wr v O ∧ Below w.heap.size w wr ∧ Hid (O ++ layB ys = layB xs)) (fun s _ _ => lenV s)
  case atStart => exact ⟨a, len, cap, xs, [], rfl, Nat.le_refl _, HR.out, ho1, hb1, rfl⟩
  case round =>
    obtain ⟨a', m, c', ys, O, rfl, hml, hry, hown, hbel, hE⟩ := hrel
    have hys := hry.size
    have hrm := hry.room
    have hOl := congrArg List.length hE.out
    rw [List.length_append, ← HL.out] at hOl
    have hO : O.length ≤ 2 * len + 8 := by omega
    clear hOl
    by_cases h0 : 0 < m
    · by_cases h3 : m < 3
      · have hp := hry.pre (n := m) (by omega)
        have HP := hid (hp.below hbel)
        have hq := hry.piece (l := m) (r := m) (by omega) (by omega)
        rw [List.take_of_length_le (by omega)] at hq
        have HQ := hid hq
        have HG := hid (lay_part (ys := ys) (n := m) (Or.inr ⟨by omega, by omega⟩))
        have HWF := hid (layB_wf (xs := ys.take m) (fun x hx => u8_wf (hp.wf x hx)))
        clear hp hq hry
        go_wp2_with (first
          | (go_at_call 96; (with_reducible refine (bcode_laid _ _ _ _ _ HP.out (by omega) (by omega)).mono ?_); rintro e w4 ⟨d0, d1, d2, d3, rfl, hD, hb4⟩; have ho4 := hown.below hb4; have hbl4 := below_then hbel hb4; have hwf4 := HWF.out; rw [hD.out] at hwf4; have HW4 := hid hwf4; clear hwf4)
          | (refine wpList_storeNew (w0 := w4) .u8 [d0, d1, d2, d3] _ _ _ rfl rfl _ rfl rfl rfl (by kernel_rfl) rfl ?_)
          | (at_builtin; go_must (refine wpList_more CT8 rfl _ _ rfl rfl rfl (ho4.below ((Below.refl _ _).alloc (Nat.le_refl _) _)) (hbl4.alloc (hbl4.size) _) (Reads.lit .u8 111 w4 [d0, d1, d2, d3] (by simp [maxLen]) HW4.out) (by show O.length + 4 < 1000000000000; omega) ?_); intro v5 w5 ho5 hb5))
        have hE' : Hid ((O ++ [d0, d1, d2, d3]) ++ layB (ys.drop m) = layB xs) := by
          unfold Hid
          rw [← hE.out, HG.out, hD.out, List.append_assoc]
        clear hE HG hD HW4 HWF ho4 hbl4 hown hbel hb4
        all_goals
          go_roundw
          case rel => exact ⟨_, _, _, _, _, rfl, by omega, (by have h := HQ.out; first | exact h | (rw [Nat.sub_self] at h; exact h)), ho5, hb5, hE'⟩
          case measure => simp [lenV]; omega
      · have hp := hry.pre (n := 3) (by omega)
        have HP := hid (hp.below hbel)
        have hq := hry.piece (l := 3) (r := m) (by omega) (by omega)
        rw [List.take_of_length_le (by omega)] at hq
        have HQ := hid hq
        have HG := hid (lay_part (ys := ys) (n := 3) (Or.inl rfl))
        have HWF := hid (layB_wf (xs := ys.take 3) (fun x hx => u8_wf (hp.wf x hx)))
        clear hp hq hry
        go_wp2_with (first
          | (go_at_call 96; (with_reducible refine (bcode_laid _ _ _ _ _ HP.out (by omega) (by omega)).mono ?_); rintro e w4 ⟨d0, d1, d2, d3, rfl, hD, hb4⟩; have ho4 := hown.below hb4; have hbl4 := below_then hbel hb4; have hwf4 := HWF.out; rw [hD.out] at hwf4; have HW4 := hid hwf4; clear hwf4)
          | (refine wpList_storeNew (w0 := w4) .u8 [d0, d1, d2, d3] _ _ _ rfl rfl _ rfl rfl rfl (by kernel_rfl) rfl ?_)
          | (at_builtin; go_must (refine wpList_more CT8 rfl _ _ rfl rfl rfl (ho4.below ((Below.refl _ _).alloc (Nat.le_refl _) _)) (hbl4.alloc (hbl4.size) _) (Reads.lit .u8 111 w4 [d0, d1, d2, d3] (by simp [maxLen]) HW4.out) (by show O.length + 4 < 1000000000000; omega) ?_); intro v5 w5 ho5 hb5))
        have hE' : Hid ((O ++ [d0, d1, d2, d3]) ++ layB (ys.drop 3) = layB xs) := by
          unfold Hid
          rw [← hE.out, HG.out, hD.out, List.append_assoc]
        clear hE HG hD HW4 HWF ho4 hbl4 hown hbel hb4
        all_goals
          go_roundw
          case rel => exact ⟨_, _, _, _, _, rfl, by omega, (by have h := HQ.out; first | exact h | (rw [Nat.sub_self] at h; exact h)), ho5, hb5, hE'⟩
          case measure => simp [lenV]; omega
    · obtain rfl : m = 0 := by omega
      obtain rfl : ys = [] := List.eq_nil_of_length_eq_zero hys
      have hE' := hE.out
      rw [show layB [] = [] from rfl, List.append_nil] at hE'
      rw [hE'] at hown
      clear hE hE' hry
      go_wp2_with fail
      go_ret
      exact ⟨_, rfl, hown, hbel⟩
end Go.Proofs.YtfnolkkmldiimaaGreatDoor

/-! C14c -/
namespace Go.Proofs.YtfnolkkmldiimaaGreatDoor
open Go.RowKit
set_option linter.unusedVariables false

/-- Numbers of digits together, the first k of them; what is missing is 0. -/
def dat (xs : List Int) (k : Nat) : Int := valI (xs.getD k 61)
def acc6 (xs : List Int) : Nat → Int
  | 0 => 0
  | k + 1 => acc6 xs k * 64 + dat xs k
theorem dat_bd (xs : List Int) (k : Nat) : 0 ≤ dat xs k ∧ dat xs k ≤ 63 := val_bd _
theorem acc_bd (xs : List Int) (k : Nat) (h : k ≤ 3) : 0 ≤ acc6 xs k ∧ acc6 xs k ≤ 262143 := by
  have h0 := dat_bd xs 0
  have h1 := dat_bd xs 1
  have h2 := dat_bd xs 2
  have hk : k = 0 ∨ k = 1 ∨ k = 2 ∨ k = 3 := by omega
  rcases hk with rfl | rfl | rfl | rfl <;> simp only [acc6] <;> omega
theorem val_61 : valI 61 = 0 := by decide +kernel
theorem dat_at {xs : List Int} {k : Nat} {x : Int} (h : xs[k]? = some x) : dat xs k = valI x := by unfold dat; simp [List.getD, h]
theorem dat_out {xs : List Int} {k : Nat} (h : xs.length ≤ k) : dat xs k = 0 := by unfold dat; rw [List.getD_eq_getElem?_getD, List.getElem?_eq_none h]; exact val_61
/-- Three octets of what four digits make; and as many of them as are whole. -/
theorem rd_group {xs : List Int} (h1 : 1 ≤ xs.length) (h4 : xs.length ≤ 4) : rd64 (xs.map valI) = [acc6 xs 4 / 65536 % 256, acc6 xs 4 / 256 % 256, acc6 xs 4 % 256].take (xs.length * 6 / 8) := by
  match xs with
  | [a] => simp [rd64]
  | [a, b] =>
    have ha := val_bd a
    have hb := val_bd b
    have h2 := dat_out (xs := [a, b]) (k := 2) (by simp)
    have h3 := dat_out (xs := [a, b]) (k := 3) (by simp)
    unfold V6 at ha hb
    have e : acc6 [a, b] 4 = (valI a * 64 + valI b) * 4096 := by simp only [acc6, h2, h3]; rw [dat_at (x := a) rfl, dat_at (x := b) rfl]; omega
    rw [e]
    simp only [List.map_cons, List.map_nil, rd64, List.length_cons, List.length_nil, List.take_succ_cons, List.take_zero]
    exact cons2 (by omega) rfl
  | [a, b, c] =>
    have ha := val_bd a
    have hb := val_bd b
    have hc := val_bd c
    have h3 := dat_out (xs := [a, b, c]) (k := 3) (by simp)
    unfold V6 at ha hb hc
    have e : acc6 [a, b, c] 4 = ((valI a * 64 + valI b) * 64 + valI c) * 64 := by simp only [acc6, h3]; rw [dat_at (x := a) rfl, dat_at (x := b) rfl, dat_at (x := c) rfl]; omega
    rw [e]
    simp only [List.map_cons, List.map_nil, rd64, List.length_cons, List.length_nil, List.take_succ_cons, List.take_zero]
    exact cons2 (by omega) (cons2 (by omega) rfl)
  | [a, b, c, d] =>
    have ha := val_bd a
    have hb := val_bd b
    have hc := val_bd c
    have hd := val_bd d
    unfold V6 at ha hb hc hd
    have e : acc6 [a, b, c, d] 4 = ((valI a * 64 + valI b) * 64 + valI c) * 64 + valI d := by simp only [acc6]; rw [dat_at (x := a) rfl, dat_at (x := b) rfl, dat_at (x := c) rfl, dat_at (x := d) rfl]; omega
    rw [e]
    simp only [List.map_cons, List.map_nil, rd64, List.length_cons, List.length_nil, List.take_succ_cons, List.take_zero]
    exact cons2 (by omega) (cons2 (by omega) (cons2 (by omega) rfl))
  | [] => simp at h1
  | _ :: _ :: _ :: _ :: _ :: _ => simp at h4

theorem rd_four (ys : List Int) : rd64 ys = rd64 (ys.take 4) ++ rd64 (ys.drop 4) := by
  match ys with
  | [] => rfl
  | [a] => rfl
  | [a, b] => rfl
  | [a, b, c] => rfl
  | a :: b :: c :: d :: r => rfl
theorem rd_part {ys : List Int} {n : Nat} (h : n = 4 ∨ (ys.length ≤ n ∧ n ≤ 4)) : rd64 (ys.map valI) = rd64 ((ys.take n).map valI) ++ rd64 ((ys.drop n).map valI) := by
  rcases h with rfl | ⟨h, _⟩
  · rw [List.map_take, List.map_drop]; exact rd_four _
  · rw [List.take_of_length_le h, List.drop_of_length_le h]
    show _ = _ ++ []
    rw [List.append_nil]
end Go.Proofs.YtfnolkkmldiimaaGreatDoor

/-! C14d -/
namespace Go.Proofs.YtfnolkkmldiimaaGreatDoor
open Go.RowKit
set_option linter.unusedVariables false

/-- The first part of a row of the call's own is one. -/
theorem Own.pre {k : IntKind} {e : TypeId} {base : Nat} {w : World} {a : Option Addr} {n cap : Nat} {xs : List Int} (h : Own k e base w (.slice a n cap) xs) {m : Nat} (hm : m ≤ n) : Own k e base w (.slice a m cap) (xs.take m) := by
  obtain ⟨⟨hl, h1⟩, h2⟩ := h
  have hwf : ∀ x ∈ xs.take m, (Lit.int k x).wf = true := fun x hx => h2 x (List.mem_of_mem_take hx)
  rcases h1 with ⟨h', hn⟩ | ⟨g, c, cur, hv, hb, hg, hnc, hcm, hcs, htk⟩
  · simp only [Value.slice.injEq] at h'
    obtain ⟨rfl, rfl, rfl⟩ := h'
    obtain rfl : m = 0 := by omega
    exact Own.nil _ _ _ _
  · simp only [Value.slice.injEq] at hv
    obtain ⟨rfl, hnx, rfl⟩ := hv
    have hlx : xs.length = n := hnx.symm
    refine ⟨⟨by simp, .inr ⟨g, cap, cur, by rw [List.length_take, hlx, Nat.min_eq_left hm], hb, hg, by rw [List.length_take]; omega, hcm, hcs, ?_⟩⟩, hwf⟩
    rw [List.length_take, hlx, Nat.min_eq_left hm, Nat.mul_one, List.map_take, ← htk, List.take_take, hlx, Nat.mul_one, Nat.min_eq_left hm]
set_option maxHeartbeats 1000000 in
/-- bytes.trimRightByte: what fills up goes, as far as there is some. -/
theorem trimRightByte_c (a : Option Addr) (len cap : Nat) (xs : List Int) (n : Nat) (w : World) (hr : Reads .u8 w a len cap xs) (hn : n ≤ len) (hlast : 0 < n → xs.getD (n - 1) 0 ≠ 61) (hall : ∀ j, n ≤ j → j < len → xs.getD j 0 = 61) :
    Calls Tryz.prog 91 #[.slice a len cap, .int .u8 61] w fun e w' => e = .returned (.slice a n cap) ∧ w = w' := by
  have HR := hid hr
  have hl := hr.len_le
  have hrm := hr.room
  have HL := hid hlast
  have HA := hid hall
  clear hr hlast hall
  go_enter Tryz.func91, Tryz.ntmps91
  go_wp2_with fail
  go_loop [0] (fun s => ∃ k : Nat, n ≤ k ∧ k ≤ len ∧ s = .slice a k cap) (fun s => lenV s)
  case atStart => exact ⟨len, hn, Nat.le_refl _, rfl⟩
  case round =>
    obtain ⟨k, hk0, hk1, rfl⟩ := hrel
    by_cases h0 : 0 < k
    · obtain ⟨b, off, x, rfl, _, hc, h0x, h1x, hx⟩ := HR.out.get8 (i := k - 1) (by omega)
      have hg : xs.getD (k - 1) 0 = x := by simp [List.getD, hx.out.1]
      have hix : ((k : Int) - 1) = ((k - 1 : Nat) : Int) := by omega
      have hkp : k - 1 ≤ cap := by omega
      by_cases he : n < k
      · obtain rfl : x = 61 := by rw [← hg]; exact HA.out (k - 1) (by omega) (by omega)
        clear hg
        go_wp2_with fail
        go_round
        case rel => exact ⟨k - 1, by omega, by omega, rfl⟩
        case measure => simp [lenV]; omega
      · obtain rfl : k = n := by omega
        have hne : (x == 61) = false := by
          have := HL.out h0
          rw [hg] at this
          simpa using this
        clear hg
        go_wp2_with fail
        go_ret
        exact ⟨rfl, rfl⟩
    · obtain rfl : k = 0 := by omega
      obtain rfl : n = 0 := by omega
      go_wp2_with fail
      go_ret
      exact ⟨rfl, rfl⟩
theorem trimRightByte_t (a : Option Addr) (len cap : Nat) (xs : List Int) (n : Nat) (w : World) (hr : Reads .u8 w a len cap xs) (hn : n ≤ len) (hlast : 0 < n → xs.getD (n - 1) 0 ≠ 61) (hall : ∀ j, n ≤ j → j < len → xs.getD j 0 = 61) (h : 0 < ({ data := #[61] } : ByteArray).size) :
    Calls Tryz.prog 91 #[.slice a len cap, .int .u8 ((({ data := #[61] } : ByteArray)[0]'h).toNat : Int)] w fun e w' => e = .returned (.slice a n cap) ∧ w = w' :=
  trimRightByte_c a len cap xs n w hr hn hlast hall
set_option maxHeartbeats 1000000 in
set_option maxRecDepth 100000 in
theorem bytes_TrimRight61 (a : Option Addr) (len cap : Nat) (xs : List Int) (n : Nat) (w : World) (hr : Reads .u8 w a len cap xs) (hn : n ≤ len) (hlast : 0 < n → xs.getD (n - 1) 0 ≠ 61) (hall : ∀ j, n ≤ j → j < len → xs.getD j 0 = 61) :
    Calls Tryz.prog 76 #[.slice a len cap, .string { data := #[61] }] w fun e w' => (∃ m, e = .returned (.slice a m cap) ∧ m = n) ∧ w = w' := by
  have HT := hid (trimRightByte_t a len cap xs n w hr hn hlast hall)
  have hl := hr.len_le
  clear hr hlast hall
  by_cases h0 : len = 0
  · subst h0
    obtain rfl : n = 0 := by omega
    go_enter Tryz.func76, Tryz.ntmps76
    go_wp2_with (go_at_call 91; (with_reducible refine (HT.out _).mono ?_); rintro e w' ⟨rfl, rfl⟩)
    go_ret
    exact ⟨⟨0, rfl, rfl⟩, rfl⟩
  · have hpos : ¬ ((len : Int) = 0) := by omega
    go_enter Tryz.func76, Tryz.ntmps76
    go_wp2_with (go_at_call 91; (with_reducible refine (HT.out _).mono ?_); rintro e w' ⟨rfl, rfl⟩)
    go_ret
    exact ⟨⟨n, rfl, rfl⟩, rfl⟩
set_option maxHeartbeats 1000000 in
theorem bcode_Bare (a : Option Addr) (len cap : Nat) (xs : List Int) (w : World) (hr : Reads .u8 w a len cap xs) (hN : len < 100000000) :
    Calls Tryz.prog 50 #[.slice a len cap] w fun e w' => ∃ v, e = .returned v ∧ Own .u8 5 w.heap.size w' v (bareB xs) ∧ Below w.heap.size w w' := by
  have HR := hid hr
  have ho := fun x hx => u8_wf (hr.wf x hx)
  obtain ⟨n, hn⟩ : ∃ n, n = (bareB xs).length := ⟨_, rfl⟩
  obtain ⟨L, hL⟩ : ∃ L, L = (layB xs).length := ⟨_, rfl⟩
  have hnL : n ≤ L := by rw [hn, hL]; unfold layB fill4; rw [List.length_append]; omega
  have htk : Hid ((layB xs).take n = bareB xs) := by unfold Hid layB fill4; rw [hn, List.take_left]
  have hlast : Hid (0 < n → (layB xs).getD (n - 1) 0 ≠ 61) := by
    intro h0
    have hlt : n - 1 < (bareB xs).length := by omega
    unfold layB fill4
    rw [List.getD_eq_getElem?_getD, List.getElem?_append_left hlt, List.getElem?_eq_getElem hlt]
    rw [Option.getD_some]
    obtain ⟨v, hv, he⟩ := List.mem_map.1 (List.getElem_mem hlt)
    rw [← he]
    exact (dig_bd (v64_bd xs ho v hv)).2.2
  have hall : Hid (∀ j, n ≤ j → j < L → (layB xs).getD j 0 = 61) := by
    intro j h1 h2
    rw [hL] at h2
    unfold layB fill4 at h2 ⊢
    rw [List.getD_eq_getElem?_getD, List.getElem?_append_right (by omega)]
    rw [List.length_append, List.length_replicate] at h2
    rw [List.getElem?_replicate, if_pos (by omega)]; rfl
  have HLL := hid hL
  clear hr ho hn hL
  go_enter Tryz.func50, Tryz.ntmps50
  go_wp2_with (first
    | (go_at_call 77; (with_reducible refine (bcode_Lay _ _ _ _ _ HR.out hN).mono ?_); rintro e w1 ⟨v1, rfl, ho1, hb1⟩; obtain ⟨a1, c1, rfl, hr1⟩ := ho1.reads; rw [← HLL.out] at hr1; rw [← HLL.out])
    | (go_at_call 76; (with_reducible refine (bytes_TrimRight61 _ _ _ _ n _ hr1 hnL hlast.out hall.out).mono ?_); rintro e w2 ⟨⟨m, rfl, rfl⟩, rfl⟩))
  go_ret
  exact ⟨_, rfl, by have := ho1.pre (m := m) (by rw [← HLL.out]; exact hnL); rwa [htk.out] at this, hb1⟩
end Go.Proofs.YtfnolkkmldiimaaGreatDoor
