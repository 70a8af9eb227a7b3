/-
  Texts of ours laid together: C14c.
-/
import Derived.Test.YtefhddbbiheadaaGreatZ35

/-! C14c -/
namespace Go.Proofs.YtefhddbbiheadaaGreat
open Go.RowKit
set_option linter.unusedVariables false

/-- Numbers of digits together, the first k of them; what is missing is 0. -/
def dat (xs : List Int) (k : Nat) : Int := valI (xs.getD k 61)
def acc6 (xs : List Int) : Nat → Int
  | 0 => 0
  | k + 1 => acc6 xs k * 64 + dat xs k
theorem dat_bd (xs : List Int) (k : Nat) : 0 ≤ dat xs k ∧ dat xs k ≤ 63 := val_bd _
theorem acc_bd (xs : List Int) (k : Nat) (h : k ≤ 3) : 0 ≤ acc6 xs k ∧ acc6 xs k ≤ 262143 := by
  have h0 := dat_bd xs 0
  have h1 := dat_bd xs 1
  have h2 := dat_bd xs 2
  have hk : k = 0 ∨ k = 1 ∨ k = 2 ∨ k = 3 := by omega
  rcases hk with rfl | rfl | rfl | rfl <;> simp only [acc6] <;> omega
theorem val_61 : valI 61 = 0 := by decide +kernel
theorem dat_at {xs : List Int} {k : Nat} {x : Int} (h : xs[k]? = some x) : dat xs k = valI x := by unfold dat; simp [List.getD, h]
theorem dat_out {xs : List Int} {k : Nat} (h : xs.length ≤ k) : dat xs k = 0 := by unfold dat; rw [List.getD_eq_getElem?_getD, List.getElem?_eq_none h]; exact val_61
/-- Three octets of what four digits make; and as many of them as are whole. -/
theorem rd_group {xs : List Int} (h1 : 1 ≤ xs.length) (h4 : xs.length ≤ 4) : rd64 (xs.map valI) = [acc6 xs 4 / 65536 % 256, acc6 xs 4 / 256 % 256, acc6 xs 4 % 256].take (xs.length * 6 / 8) := by
  match xs with
  | [a] => simp [rd64]
  | [a, b] =>
    have ha := val_bd a
    have hb := val_bd b
    have h2 := dat_out (xs := [a, b]) (k := 2) (by simp)
    have h3 := dat_out (xs := [a, b]) (k := 3) (by simp)
    unfold V6 at ha hb
    have e : acc6 [a, b] 4 = (valI a * 64 + valI b) * 4096 := by simp only [acc6, h2, h3]; rw [dat_at (x := a) rfl, dat_at (x := b) rfl]; omega
    rw [e]
    simp only [List.map_cons, List.map_nil, rd64, List.length_cons, List.length_nil, List.take_succ_cons, List.take_zero]
    exact cons2 (by omega) rfl
  | [a, b, c] =>
    have ha := val_bd a
    have hb := val_bd b
    have hc := val_bd c
    have h3 := dat_out (xs := [a, b, c]) (k := 3) (by simp)
    unfold V6 at ha hb hc
    have e : acc6 [a, b, c] 4 = ((valI a * 64 + valI b) * 64 + valI c) * 64 := by simp only [acc6, h3]; rw [dat_at (x := a) rfl, dat_at (x := b) rfl, dat_at (x := c) rfl]; omega
    rw [e]
    simp only [List.map_cons, List.map_nil, rd64, List.length_cons, List.length_nil, List.take_succ_cons, List.take_zero]
    exact cons2 (by omega) (cons2 (by omega) rfl)
  | [a, b, c, d] =>
    have ha := val_bd a
    have hb := val_bd b
    have hc := val_bd c
    have hd := val_bd d
    unfold V6 at ha hb hc hd
    have e : acc6 [a, b, c, d] 4 = ((valI a * 64 + valI b) * 64 + valI c) * 64 + valI d := by simp only [acc6]; rw [dat_at (x := a) rfl, dat_at (x := b) rfl, dat_at (x := c) rfl, dat_at (x := d) rfl]; omega
    rw [e]
    simp only [List.map_cons, List.map_nil, rd64, List.length_cons, List.length_nil, List.take_succ_cons, List.take_zero]
    exact cons2 (by omega) (cons2 (by omega) (cons2 (by omega) rfl))
  | [] => simp at h1
  | _ :: _ :: _ :: _ :: _ :: _ => simp at h4

theorem rd_four (ys : List Int) : rd64 ys = rd64 (ys.take 4) ++ rd64 (ys.drop 4) := by
  match ys with
  | [] => rfl
  | [a] => rfl
  | [a, b] => rfl
  | [a, b, c] => rfl
  | a :: b :: c :: d :: r => rfl
theorem rd_part {ys : List Int} {n : Nat} (h : n = 4 ∨ (ys.length ≤ n ∧ n ≤ 4)) : rd64 (ys.map valI) = rd64 ((ys.take n).map valI) ++ rd64 ((ys.drop n).map valI) := by
  rcases h with rfl | ⟨h, _⟩
  · rw [List.map_take, List.map_drop]; exact rd_four _
  · rw [List.take_of_length_le h, List.drop_of_length_le h]
    show _ = _ ++ []
    rw [List.append_nil]
set_option maxHeartbeats 2000000 in
theorem bcode_read (a : Option Addr) (len cap : Nat) (xs : List Int) (w : World) (hr : Reads .u8 w a len cap xs) :
    Calls Tryz.prog 151 #[.slice a len cap] w fun e w' => e = .returned (.agg #[.int .u8 (acc6 xs 4 / 65536 % 256), .int .u8 (acc6 xs 4 / 256 % 256), .int .u8 (acc6 xs 4 % 256)]) ∧ Below w.heap.size w w' := by
  have HR := hid hr
  have hsz := hr.size
  have hll := hr.len_le
  clear hr
  have hb4 : 0 ≤ acc6 xs 4 ∧ acc6 xs 4 ≤ 16777215 := by
    have h1 := acc_bd xs 3 (by omega)
    have h2 := dat_bd xs 3
    show 0 ≤ acc6 xs 3 * 64 + dat xs 3 ∧ acc6 xs 3 * 64 + dat xs 3 ≤ 16777215
    omega
  obtain ⟨V, hV⟩ : ∃ V, V = acc6 xs 4 := ⟨_, rfl⟩
  rw [← hV] at hb4 ⊢
  obtain ⟨hV0, hV1⟩ := hb4
  have HV := hid hV
  clear hV
  go_enter Tryz.func151, Tryz.ntmps151
  go_wp2_with fail
  go_loop [3, 7] (fun s i => ∃ k : Nat, ∃ m : Int, k ≤ 4 ∧ i = .int .i64 k ∧ s = .int .i64 m ∧ Hid (m = acc6 xs k)) (fun _ i => 4 - (intOf i).toNat)
  case atStart => exact ⟨0, 0, Nat.zero_le _, rfl, rfl, rfl⟩
  case round =>
    obtain ⟨k, m, hk, rfl, rfl, hn⟩ := hrel
    by_cases hlt : k < 4
    · have hb := acc_bd xs k (by omega)
      rw [← hn.out] at hb
      obtain ⟨hb0, hb1⟩ := hb
      by_cases hl : k < len
      · obtain ⟨b, off, x, rfl, _, hc, h0, h1, hx⟩ := (HR.out.below ((Below.refl _ w).alloc (Nat.le_refl _) (.cells #[.int .u8 0, .int .u8 0, .int .u8 0] 127))).get8 hl
        obtain ⟨hv0, hv1⟩ := val_bd x
        have hor := or_i64 6 (m * 64) (valI x) (by omega) (by omega) (by omega) (by omega) (by omega)
        have hE : Hid (m * 64 + valI x = acc6 xs (k + 1)) := by
          unfold Hid
          show m * 64 + valI x = acc6 xs k * 64 + dat xs k
          rw [dat_at hx.out.1, hn.out]
        go_wp2_with (go_at_call 150; (with_reducible refine (bcode_Value _ _ h0 h1).mono ?_); rintro e w' ⟨rfl, rfl⟩)
        go_round
        case rel => exact ⟨k + 1, _, by omega, by go_num, rfl, hE⟩
        case measure => simp [intOf]; omega
      · have hE : Hid (m * 64 = acc6 xs (k + 1)) := by
          unfold Hid
          show m * 64 = acc6 xs k * 64 + dat xs k
          rw [dat_out (by omega), hn.out]; omega
        go_wp2_with fail
        go_round
        case rel => exact ⟨k + 1, m * 64, by omega, by go_num, by go_num, hE⟩
        case measure => simp [intOf]; omega
    · obtain rfl : k = 4 := by omega
      obtain rfl : m = V := by rw [hn.out, HV.out]
      go_wp2_with (refine wpList_storeNew (w0 := w) .u8 [m / 65536 % 256, m / 256 % 256, m % 256] _ _ _ rfl rfl _ rfl rfl rfl (by kernel_rfl) rfl ?_)
      refine bodyPost_ret (results_cell rfl _ _ _ w.heap.size _ _ _ rfl (heap_alloc_last w _) 3 5 Tryz.underlying127 (by kernel_rfl)) rfl ?_
      exact ⟨by rw [show m / 65536 % 256 = m / 65536 by omega], (Below.refl _ w).alloc (Nat.le_refl _) _⟩
set_option maxHeartbeats 2000000 in
theorem bcode_octets (a : Option Addr) (len cap : Nat) (xs : List Int) (w : World) (hr : Reads .u8 w a len cap xs) (hN : len < 100000000) :
    Calls Tryz.prog 135 #[.slice a len cap] w fun e w' => ∃ v, e = .returned v ∧ Own .u8 5 w.heap.size w' v (rd64 (xs.map valI)) ∧ Below w.heap.size w w' := by
  have HR := hid hr
  have hsz := hr.size
  clear hr
  have hll := rd64_len (xs.map valI)
  rw [List.length_map, hsz] at hll
  obtain ⟨L, hL⟩ : ∃ L, L = (rd64 (xs.map valI)).length := ⟨_, rfl⟩
  rw [← hL] at hll
  have hL1 : L ≤ len := by omega
  have HL := hid hL
  clear hL hll
  go_enter Tryz.func135, Tryz.ntmps135
  go_wp2_with (at_make; go_must (refine wpList_make0 (n := len) CT8 rfl _ _ rfl rfl rfl (Below.refl _ _) (by omega) ?_); intro v1 w1 ho1 hb1)
  go_loopw [0, 3] (fun s v wr => ∃ a' m c' ys O, s = .slice a' m c' ∧ m ≤ len ∧ Reads .u8 w a' m c' ys ∧ Own .u8 5 w.heap.size wr v O ∧ Below w.heap.size w wr ∧ Hid (O ++ rd64 (ys.map valI) = rd64 (xs.map valI))) (fun s _ _ => lenV s)
  case atStart => exact ⟨a, len, cap, xs, [], rfl, Nat.le_refl _, HR.out, ho1, hb1, rfl⟩
  case round =>
    obtain ⟨a', m, c', ys, O, rfl, hml, hry, hown, hbel, hE⟩ := hrel
    have hys := hry.size
    have hrm := hry.room
    have hOl := congrArg List.length hE.out
    rw [List.length_append, ← HL.out] at hOl
    have hO : O.length ≤ len := by omega
    clear hOl
    by_cases h0 : 0 < m
    · by_cases h3 : m < 4
      · have hq3 : m = 1 ∨ m = 2 ∨ m = 3 := by omega
        rcases hq3 with rfl | rfl | rfl
        · have hp := hry.pre (n := 1) (by omega)
          have HP := hid (hp.below hbel)
          have hq := hry.piece (l := 1) (r := 1) (by omega) (by omega)
          rw [List.take_of_length_le (by omega)] at hq
          have HQ := hid hq
          have HG := hid (rd_part (ys := ys) (n := 1) (Or.inr ⟨by omega, by omega⟩))
          have hgl : (ys.take 1).length = 1 := by rw [List.length_take]; omega
          have hgr := rd_group (xs := ys.take 1) (by omega) (by omega)
          rw [hgl] at hgr
          have HGR := hid hgr
          have hm8 : 1 * 6 / 8 ≤ 3 := by omega
          clear hp hq hry hgl hgr
          obtain ⟨r0, hr0⟩ : ∃ r0, r0 = acc6 (ys.take 1) 4 / 65536 % 256 := ⟨_, rfl⟩
          obtain ⟨r1, hr1⟩ : ∃ r1, r1 = acc6 (ys.take 1) 4 / 256 % 256 := ⟨_, rfl⟩
          obtain ⟨r2, hr2⟩ : ∃ r2, r2 = acc6 (ys.take 1) 4 % 256 := ⟨_, rfl⟩
          have HC := bcode_read _ _ _ _ _ HP.out
          rw [← hr0, ← hr1, ← hr2] at HC HGR
          have HW := hid (show ∀ z ∈ [r0, r1, r2], (Lit.int .u8 z).wf = true by
            intro z hz
            simp only [List.mem_cons, List.not_mem_nil, or_false] at hz
            rcases hz with rfl | rfl | rfl <;> exact mk_u8 (by omega) (by omega))
          have HC := hid HC
          clear hr0 hr1 hr2
          go_wp2_with (first
            | (go_at_call 151; (with_reducible refine HC.out.mono ?_); rintro e w4 ⟨rfl, hb4⟩; have ho4 := hown.below hb4; have hbl4 := below_then hbel hb4)
            | (refine wpList_storeNew (w0 := w4) .u8 [r0, r1, r2] _ _ _ rfl rfl _ rfl rfl rfl (by kernel_rfl) rfl ?_)
            | (at_builtin; go_must (refine wpList_more CT8 rfl _ _ rfl rfl rfl (ho4.below ((Below.refl _ _).alloc (Nat.le_refl _) _)) (hbl4.alloc (hbl4.size) _) ((Reads.lit .u8 127 w4 [r0, r1, r2] (by simp [maxLen]) HW.out).pre (n := 1 * 6 / 8) hm8) (by omega) ?_); intro v5 w5 ho5 hb5))
          have hE' : Hid ((O ++ [r0, r1, r2].take (1 * 6 / 8)) ++ rd64 ((ys.drop 1).map valI) = rd64 (xs.map valI)) := by
            unfold Hid
            rw [← hE.out, HG.out, HGR.out, List.append_assoc]
          clear hE HG HGR HW ho4 hbl4 hown hbel hb4
          all_goals
            go_roundw
            case rel => exact ⟨_, _, _, _, _, rfl, by omega, (by have h := HQ.out; first | exact h | (rw [Nat.sub_self] at h; exact h)), ho5, hb5, hE'⟩
            case measure => first | (simp [lenV]; done) | (simp [lenV]; omega)
        · have hp := hry.pre (n := 2) (by omega)
          have HP := hid (hp.below hbel)
          have hq := hry.piece (l := 2) (r := 2) (by omega) (by omega)
          rw [List.take_of_length_le (by omega)] at hq
          have HQ := hid hq
          have HG := hid (rd_part (ys := ys) (n := 2) (Or.inr ⟨by omega, by omega⟩))
          have hgl : (ys.take 2).length = 2 := by rw [List.length_take]; omega
          have hgr := rd_group (xs := ys.take 2) (by omega) (by omega)
          rw [hgl] at hgr
          have HGR := hid hgr
          have hm8 : 2 * 6 / 8 ≤ 3 := by omega
          clear hp hq hry hgl hgr
          obtain ⟨r0, hr0⟩ : ∃ r0, r0 = acc6 (ys.take 2) 4 / 65536 % 256 := ⟨_, rfl⟩
          obtain ⟨r1, hr1⟩ : ∃ r1, r1 = acc6 (ys.take 2) 4 / 256 % 256 := ⟨_, rfl⟩
          obtain ⟨r2, hr2⟩ : ∃ r2, r2 = acc6 (ys.take 2) 4 % 256 := ⟨_, rfl⟩
          have HC := bcode_read _ _ _ _ _ HP.out
          rw [← hr0, ← hr1, ← hr2] at HC HGR
          have HW := hid (show ∀ z ∈ [r0, r1, r2], (Lit.int .u8 z).wf = true by
            intro z hz
            simp only [List.mem_cons, List.not_mem_nil, or_false] at hz
            rcases hz with rfl | rfl | rfl <;> exact mk_u8 (by omega) (by omega))
          have HC := hid HC
          clear hr0 hr1 hr2
          go_wp2_with (first
            | (go_at_call 151; (with_reducible refine HC.out.mono ?_); rintro e w4 ⟨rfl, hb4⟩; have ho4 := hown.below hb4; have hbl4 := below_then hbel hb4)
            | (refine wpList_storeNew (w0 := w4) .u8 [r0, r1, r2] _ _ _ rfl rfl _ rfl rfl rfl (by kernel_rfl) rfl ?_)
            | (at_builtin; go_must (refine wpList_more CT8 rfl _ _ rfl rfl rfl (ho4.below ((Below.refl _ _).alloc (Nat.le_refl _) _)) (hbl4.alloc (hbl4.size) _) ((Reads.lit .u8 127 w4 [r0, r1, r2] (by simp [maxLen]) HW.out).pre (n := 2 * 6 / 8) hm8) (by omega) ?_); intro v5 w5 ho5 hb5))
          have hE' : Hid ((O ++ [r0, r1, r2].take (2 * 6 / 8)) ++ rd64 ((ys.drop 2).map valI) = rd64 (xs.map valI)) := by
            unfold Hid
            rw [← hE.out, HG.out, HGR.out, List.append_assoc]
          clear hE HG HGR HW ho4 hbl4 hown hbel hb4
          all_goals
            go_roundw
            case rel => exact ⟨_, _, _, _, _, rfl, by omega, (by have h := HQ.out; first | exact h | (rw [Nat.sub_self] at h; exact h)), ho5, hb5, hE'⟩
            case measure => first | (simp [lenV]; done) | (simp [lenV]; omega)
        · have hp := hry.pre (n := 3) (by omega)
          have HP := hid (hp.below hbel)
          have hq := hry.piece (l := 3) (r := 3) (by omega) (by omega)
          rw [List.take_of_length_le (by omega)] at hq
          have HQ := hid hq
          have HG := hid (rd_part (ys := ys) (n := 3) (Or.inr ⟨by omega, by omega⟩))
          have hgl : (ys.take 3).length = 3 := by rw [List.length_take]; omega
          have hgr := rd_group (xs := ys.take 3) (by omega) (by omega)
          rw [hgl] at hgr
          have HGR := hid hgr
          have hm8 : 3 * 6 / 8 ≤ 3 := by omega
          clear hp hq hry hgl hgr
          obtain ⟨r0, hr0⟩ : ∃ r0, r0 = acc6 (ys.take 3) 4 / 65536 % 256 := ⟨_, rfl⟩
          obtain ⟨r1, hr1⟩ : ∃ r1, r1 = acc6 (ys.take 3) 4 / 256 % 256 := ⟨_, rfl⟩
          obtain ⟨r2, hr2⟩ : ∃ r2, r2 = acc6 (ys.take 3) 4 % 256 := ⟨_, rfl⟩
          have HC := bcode_read _ _ _ _ _ HP.out
          rw [← hr0, ← hr1, ← hr2] at HC HGR
          have HW := hid (show ∀ z ∈ [r0, r1, r2], (Lit.int .u8 z).wf = true by
            intro z hz
            simp only [List.mem_cons, List.not_mem_nil, or_false] at hz
            rcases hz with rfl | rfl | rfl <;> exact mk_u8 (by omega) (by omega))
          have HC := hid HC
          clear hr0 hr1 hr2
          go_wp2_with (first
            | (go_at_call 151; (with_reducible refine HC.out.mono ?_); rintro e w4 ⟨rfl, hb4⟩; have ho4 := hown.below hb4; have hbl4 := below_then hbel hb4)
            | (refine wpList_storeNew (w0 := w4) .u8 [r0, r1, r2] _ _ _ rfl rfl _ rfl rfl rfl (by kernel_rfl) rfl ?_)
            | (at_builtin; go_must (refine wpList_more CT8 rfl _ _ rfl rfl rfl (ho4.below ((Below.refl _ _).alloc (Nat.le_refl _) _)) (hbl4.alloc (hbl4.size) _) ((Reads.lit .u8 127 w4 [r0, r1, r2] (by simp [maxLen]) HW.out).pre (n := 3 * 6 / 8) hm8) (by omega) ?_); intro v5 w5 ho5 hb5))
          have hE' : Hid ((O ++ [r0, r1, r2].take (3 * 6 / 8)) ++ rd64 ((ys.drop 3).map valI) = rd64 (xs.map valI)) := by
            unfold Hid
            rw [← hE.out, HG.out, HGR.out, List.append_assoc]
          clear hE HG HGR HW ho4 hbl4 hown hbel hb4
          all_goals
            go_roundw
            case rel => exact ⟨_, _, _, _, _, rfl, by omega, (by have h := HQ.out; first | exact h | (rw [Nat.sub_self] at h; exact h)), ho5, hb5, hE'⟩
            case measure => first | (simp [lenV]; done) | (simp [lenV]; omega)
      · have hp := hry.pre (n := 4) (by omega)
        have HP := hid (hp.below hbel)
        have hq := hry.piece (l := 4) (r := m) (by omega) (by omega)
        rw [List.take_of_length_le (by omega)] at hq
        have HQ := hid hq
        have HG := hid (rd_part (ys := ys) (n := 4) (Or.inl rfl))
        have hgl : (ys.take 4).length = 4 := by rw [List.length_take]; omega
        have hgr := rd_group (xs := ys.take 4) (by omega) (by omega)
        rw [hgl] at hgr
        have HGR := hid hgr
        have hm8 : 4 * 6 / 8 ≤ 3 := by omega
        clear hp hq hry hgl hgr
        obtain ⟨r0, hr0⟩ : ∃ r0, r0 = acc6 (ys.take 4) 4 / 65536 % 256 := ⟨_, rfl⟩
        obtain ⟨r1, hr1⟩ : ∃ r1, r1 = acc6 (ys.take 4) 4 / 256 % 256 := ⟨_, rfl⟩
        obtain ⟨r2, hr2⟩ : ∃ r2, r2 = acc6 (ys.take 4) 4 % 256 := ⟨_, rfl⟩
        have HC := bcode_read _ _ _ _ _ HP.out
        rw [← hr0, ← hr1, ← hr2] at HC HGR
        have HW := hid (show ∀ z ∈ [r0, r1, r2], (Lit.int .u8 z).wf = true by
          intro z hz
          simp only [List.mem_cons, List.not_mem_nil, or_false] at hz
          rcases hz with rfl | rfl | rfl <;> exact mk_u8 (by omega) (by omega))
        have HC := hid HC
        clear hr0 hr1 hr2
        go_wp2_with (first
          | (go_at_call 151; (with_reducible refine HC.out.mono ?_); rintro e w4 ⟨rfl, hb4⟩; have ho4 := hown.below hb4; have hbl4 := below_then hbel hb4)
          | (refine wpList_storeNew (w0 := w4) .u8 [r0, r1, r2] _ _ _ rfl rfl _ rfl rfl rfl (by kernel_rfl) rfl ?_)
          | (at_builtin; go_must (refine wpList_more CT8 rfl _ _ rfl rfl rfl (ho4.below ((Below.refl _ _).alloc (Nat.le_refl _) _)) (hbl4.alloc (hbl4.size) _) ((Reads.lit .u8 127 w4 [r0, r1, r2] (by simp [maxLen]) HW.out).pre (n := 4 * 6 / 8) hm8) (by omega) ?_); intro v5 w5 ho5 hb5))
        have hE' : Hid ((O ++ [r0, r1, r2].take (4 * 6 / 8)) ++ rd64 ((ys.drop 4).map valI) = rd64 (xs.map valI)) := by
          unfold Hid
          rw [← hE.out, HG.out, HGR.out, List.append_assoc]
        clear hE HG HGR HW ho4 hbl4 hown hbel hb4
        all_goals
          go_roundw
          case rel => exact ⟨_, _, _, _, _, rfl, by omega, (by have h := HQ.out; first | exact h | (rw [Nat.sub_self] at h; exact h)), ho5, hb5, hE'⟩
          case measure => simp [lenV]; omega
    · obtain rfl : m = 0 := by omega
      obtain rfl : ys = [] := List.eq_nil_of_length_eq_zero hys
      have hE' := hE.out
      rw [show rd64 (([] : List Int).map valI) = [] from rfl, List.append_nil] at hE'
      rw [hE'] at hown
      clear hE hE' hry
      go_wp2_with fail
      go_ret
      exact ⟨_, rfl, hown, hbel⟩
set_option maxHeartbeats 1000000 in
theorem bcode_allDigits (a : Option Addr) (len cap : Nat) (xs : List Int) (w : World) (hr : Reads .u8 w a len cap xs) :
    Calls Tryz.prog 133 #[.slice a len cap] w fun e w' => e = .returned (.bool (xs.all isDig)) ∧ w = w' := by
  have HR := hid hr
  have hl := hr.len_le
  clear hr
  go_enter Tryz.func133, Tryz.ntmps133
  go_wp2_with fail
  go_loop [9] (fun i => ∃ k : Nat, k ≤ len ∧ i = .int .i64 k ∧ Hid ((xs.take k).all isDig = true)) (fun i => len - (intOf i).toNat)
  case atStart => exact ⟨0, Nat.zero_le _, rfl, rfl⟩
  case round =>
    obtain ⟨k, hk, rfl, hn⟩ := hrel
    by_cases hlt : k < len
    · obtain ⟨b, off, x, rfl, _, hc, h0, h1, hx⟩ := HR.out.get8 hlt
      cases hd : isDig x
      · have HV := bcode_Value x w h0 h1
        rw [hd] at HV
        have HV := hid HV
        have HD := hid hd
        clear hd
        go_wp2_with (go_at_call 150; (with_reducible refine HV.out.mono ?_); rintro e w' ⟨rfl, rfl⟩)
        go_ret
        exact ⟨ret_bool (all_no hx.out.1 HD.out).symm, rfl⟩
      · have HV := bcode_Value x w h0 h1
        rw [hd] at HV
        have HV := hid HV
        have HD := hid hd
        clear hd
        go_wp2_with (go_at_call 150; (with_reducible refine HV.out.mono ?_); rintro e w' ⟨rfl, rfl⟩)
        go_round
        case rel => exact ⟨k + 1, by omega, by go_num, all_yes hx.out.2 hn.out HD.out⟩
        case measure => simp [intOf]; omega
    · go_wp2_with fail
      go_ret
      exact ⟨ret_bool (by rw [← HR.out.all (show len ≤ k by omega)]; exact hn.out.symm), rfl⟩
/-- The bits of the last digit that belong to no octet. -/
def sparB (n : Nat) : Int := if n % 4 = 0 then 1 else if n % 4 = 1 then 64 else if n % 4 = 2 then 16 else 4
theorem sparB_4 (n : Nat) : sparB (n + 4) = sparB n := by
  unfold sparB
  simp only [Nat.add_mod_right]
def sparV (xs : List Int) : Int := if xs.length = 0 then 0 else valI (xs.getD (xs.length - 1) 0) % sparB xs.length
theorem spar_ok : ∀ vs : List Int, (∀ v ∈ vs, V6 v) → (ok64 vs = decide ((if vs.length = 0 then 0 else vs.getD (vs.length - 1) 0 % sparB vs.length) = 0)) := by
  refine ind4 ?_ ?_ ?_ ?_ ?_
  · intro _; rfl
  · intro a h
    have ha := h a (by simp)
    unfold V6 at ha
    simp only [ok64, List.length_cons, List.length_nil, sparB, List.getD]
    simp
    omega
  · intro a b h
    simp [ok64, sparB]
  · intro a b c h
    simp [ok64, sparB]
  · intro a b c d r ih h
    have i := ih (fun x hx => h x (by simp [hx]))
    simp only [ok64]
    rw [i]
    cases r with
    | nil => simp [sparB]
    | cons e r =>
      have e4 : sparB (a :: b :: c :: d :: e :: r).length = sparB (e :: r).length := sparB_4 (r.length + 1)
      rw [e4]
      simp
theorem spar_dig {xs : List Int} : ok64 (xs.map valI) = decide (sparV xs = 0) := by
  rw [spar_ok _ (by intro v hv; obtain ⟨c, _, rfl⟩ := List.mem_map.1 hv; exact val_bd c)]
  unfold sparV
  rw [List.length_map]
  by_cases h : xs.length = 0
  · rw [if_pos h, if_pos h]
  · rw [if_neg h, if_neg h]
    have hl : xs.length - 1 < xs.length := by omega
    rw [List.getD_eq_getElem?_getD, List.getD_eq_getElem?_getD, List.getElem?_map, List.getElem?_eq_getElem hl]
    rfl
set_option maxHeartbeats 1000000 in
theorem bcode_spare (a : Option Addr) (len cap : Nat) (xs : List Int) (w : World) (hr : Reads .u8 w a len cap xs) :
    Calls Tryz.prog 134 #[.slice a len cap] w fun e w' => e = .returned (.int .i64 (sparV xs)) ∧ w = w' := by
  have hsz := hr.size
  have hl := hr.len_le
  unfold sparV
  rw [hsz]
  by_cases h0 : len = 0
  · subst h0
    rw [if_pos rfl]
    clear hr
    go_enter Tryz.func134, Tryz.ntmps134
    go_wp2_with fail
    go_ret
    exact ⟨rfl, rfl⟩
  · rw [if_neg h0]
    obtain ⟨b, off, x, rfl, _, hc, hx0, hx1, hx⟩ := hr.get8 (i := len - 1) (by omega)
    have hg : xs.getD (len - 1) 0 = x := by simp [List.getD, hx.out.1]
    rw [hg]
    obtain ⟨hv0, hv1⟩ := val_bd x
    have hix : ((len : Int) - 1) = ((len - 1 : Nat) : Int) := by omega
    have hne : 1 ≤ len := by omega
    have hpos : ¬ ((len : Int) = 0) := by omega
    clear hr hg h0 hsz
    have hq : len % 4 = 0 ∨ len % 4 = 1 ∨ len % 4 = 2 ∨ len % 4 = 3 := by omega
    rcases hq with h4 | h4 | h4 | h4
    · have h4i : (len : Int) % 4 = 0 := by omega
      have hs : sparB len = 1 := by unfold sparB; rw [if_pos h4]
      rw [hs]
      have hm := and_i64 0 (valI x) 0 (by decide) (by decide) hv0 (by omega)
      clear hs h4
      go_enter Tryz.func134, Tryz.ntmps134
      go_wp2_with (go_at_call 150; (with_reducible refine (bcode_Value _ _ hx0 hx1).mono ?_); rintro e w' ⟨rfl, rfl⟩)
      go_ret
      exact ⟨ret_int (by first | rfl | (rw [hm]; rfl) | simp), rfl⟩
    · have h4i : (len : Int) % 4 = 1 := by omega
      have hs : sparB len = 64 := by unfold sparB; rw [if_neg (by omega), if_pos h4]
      rw [hs]
      have hm := and_i64 6 (valI x) 63 (by decide) (by decide) hv0 (by omega)
      clear hs h4
      go_enter Tryz.func134, Tryz.ntmps134
      go_wp2_with (go_at_call 150; (with_reducible refine (bcode_Value _ _ hx0 hx1).mono ?_); rintro e w' ⟨rfl, rfl⟩)
      go_ret
      exact ⟨ret_int (by first | rfl | (rw [hm]; rfl) | simp), rfl⟩
    · have h4i : (len : Int) % 4 = 2 := by omega
      have hs : sparB len = 16 := by unfold sparB; rw [if_neg (by omega), if_neg (by omega), if_pos h4]
      rw [hs]
      have hm := and_i64 4 (valI x) 15 (by decide) (by decide) hv0 (by omega)
      clear hs h4
      go_enter Tryz.func134, Tryz.ntmps134
      go_wp2_with (go_at_call 150; (with_reducible refine (bcode_Value _ _ hx0 hx1).mono ?_); rintro e w' ⟨rfl, rfl⟩)
      go_ret
      exact ⟨ret_int (by first | rfl | (rw [hm]; rfl) | simp), rfl⟩
    · have h4i : (len : Int) % 4 = 3 := by omega
      have hs : sparB len = 4 := by unfold sparB; rw [if_neg (by omega), if_neg (by omega), if_neg (by omega)]
      rw [hs]
      have hm := and_i64 2 (valI x) 3 (by decide) (by decide) hv0 (by omega)
      clear hs h4
      go_enter Tryz.func134, Tryz.ntmps134
      go_wp2_with (go_at_call 150; (with_reducible refine (bcode_Value _ _ hx0 hx1).mono ?_); rintro e w' ⟨rfl, rfl⟩)
      go_ret
      exact ⟨ret_int (by first | rfl | (rw [hm]; rfl) | simp), rfl⟩
/-- What is left of a row without one 61 at its end. -/
def trim1 (xs : List Int) (k : Nat) : Nat := if 0 < k ∧ xs.getD (k - 1) 0 = 61 then k - 1 else k
theorem trim_end (xs : List Int) : trim1 xs (trim1 xs xs.length) = eqEnd xs := by
  unfold trim1 eqEnd
  by_cases h : 0 < xs.length ∧ xs.getD (xs.length - 1) 0 = 61
  · rw [if_pos h, if_pos h]
    by_cases h2 : 1 < xs.length ∧ xs.getD (xs.length - 2) 0 = 61
    · rw [if_pos h2, if_pos ⟨by omega, h2.2⟩]; omega
    · rw [if_neg h2, if_neg (fun x => h2 ⟨by omega, x.2⟩)]
  · rw [if_neg h, if_neg h, if_neg h]
theorem bytes_TrimSuffix1 (a : Option Addr) (len cap : Nat) (xs : List Int) (a2 : Option Addr) (cap2 : Nat) (w : World) (hr : Reads .u8 w a len cap xs) (hr2 : Reads .u8 w a2 1 cap2 [61]) :
    Calls Tryz.prog 149 #[.slice a len cap, .slice a2 1 cap2] w fun e w' => e = .returned (.slice a (trim1 xs len) cap) ∧ w = w' := by
  have hq := bytes_HasSuffix1 a len cap xs a2 cap2 61 w hr hr2
  have hl := hr.len_le
  have hrm := hr.room
  unfold trim1
  by_cases h : 0 < len ∧ xs.getD (len - 1) 0 = 61
  · rw [decide_eq_true h] at hq
    rw [if_pos h]
    have HQ := hid hq
    have hpos : 1 ≤ len := h.1
    have hix : ((len : Int) - 1) = ((len - 1 : Nat) : Int) := by omega
    clear hq h hr hr2
    go_enter Tryz.func149, Tryz.ntmps149
    go_wp2_with (go_at_call 130; (with_reducible refine HQ.out.mono ?_); rintro e w' ⟨rfl, rfl⟩)
    go_ret
    exact ⟨rfl, rfl⟩
  · rw [decide_eq_false h] at hq
    rw [if_neg h]
    have HQ := hid hq
    clear hq h hr hr2
    go_enter Tryz.func149, Tryz.ntmps149
    go_wp2_with (go_at_call 130; (with_reducible refine HQ.out.mono ?_); rintro e w' ⟨rfl, rfl⟩)
    go_ret
    exact ⟨rfl, rfl⟩
/-- What is left behind k cuts. -/
def trimK (xs : List Int) : Nat → Nat
  | 0 => xs.length
  | k + 1 => trim1 (xs.take (trimK xs k)) (trimK xs k)
theorem trim1_le (xs : List Int) (k : Nat) : trim1 xs k ≤ k := by unfold trim1; split <;> omega
theorem trimK_le (xs : List Int) : ∀ k, trimK xs k ≤ xs.length
  | 0 => Nat.le_refl _
  | k + 1 => Nat.le_trans (trim1_le _ _) (trimK_le xs k)
theorem trim1_take {xs : List Int} {k : Nat} (hk : k ≤ xs.length) : trim1 (xs.take k) k = trim1 xs k := by
  unfold trim1
  by_cases h : 0 < k
  · have e : (xs.take k).getD (k - 1) 0 = xs.getD (k - 1) 0 := by
      rw [List.getD_eq_getElem?_getD, List.getD_eq_getElem?_getD, List.getElem?_take_of_lt (by omega)]
    rw [e]
  · rw [if_neg (fun x => h x.1), if_neg (fun x => h x.1)]
theorem trimK_2 (xs : List Int) : trimK xs 2 = eqEnd xs := by
  have h1 : trimK xs 1 = trim1 xs xs.length := trim1_take (Nat.le_refl _)
  have h2 : trimK xs 2 = trim1 xs (trimK xs 1) := trim1_take (trimK_le xs 1)
  rw [h2, h1, trim_end]
set_option maxHeartbeats 1000000 in
theorem bcode_unfilled (a : Option Addr) (len cap : Nat) (xs : List Int) (w : World) (hr : Reads .u8 w a len cap xs) :
    Calls Tryz.prog 132 #[.slice a len cap] w fun e w' => e = .returned (.slice a (eqEnd xs) cap) ∧ Below w.heap.size w w' := by
  have HR := hid hr
  have hsz := hr.size
  clear hr
  go_enter Tryz.func132, Tryz.ntmps132
  go_wp2_with fail
  go_loopw [0, 3] (fun s i wr => ∃ k : Nat, k ≤ 2 ∧ i = .int .i64 k ∧ s = .slice a (trimK xs k) cap ∧ Below w.heap.size w wr) (fun _ i _ => 2 - (intOf i).toNat)
  case atStart => exact ⟨0, Nat.zero_le _, rfl, by rw [← hsz]; rfl, Below.refl _ _⟩
  case round =>
    obtain ⟨k, hk, rfl, rfl, hbel⟩ := hrel
    by_cases hlt : k < 2
    · have hle := trimK_le xs k
      have hp := hid ((HR.out.below hbel).pre (n := trimK xs k) (by omega))
      obtain ⟨t, ht⟩ : ∃ t, t = trimK xs k := ⟨_, rfl⟩
      have HT : Hid (trim1 (xs.take t) t = trimK xs (k + 1)) := by unfold Hid; rw [ht]; rfl
      rw [← ht] at hp
      rw [← ht]
      have h1 : Hid (Reads .u8 (wr.alloc (.cells #[.int .u8 61] 5)) (some ⟨wr.heap.size, 0, none⟩) 1 1 [61]) := Reads_litB .u8 5 (0, 0) wr wr.heap.size rfl [61] (by decide) (by decide)
      have hb1 := hid ((Below.refl _ wr).alloc (Nat.le_refl _) (.cells #[.int .u8 61] 5))
      clear hle ht
      go_wp2_with (go_at_call 149; (with_reducible refine (bytes_TrimSuffix1 _ _ _ _ _ _ _ (hp.out.below hb1.out) h1.out).mono ?_); rintro e w' ⟨rfl, rfl⟩)
      rw [HT.out]
      go_roundw
      case rel => exact ⟨k + 1, by omega, by go_num, rfl, below_then hbel hb1.out⟩
      case measure => simp [intOf]; omega
    · obtain rfl : k = 2 := by omega
      go_wp2_with fail
      go_ret
      exact ⟨by rw [trimK_2]; rfl, hbel⟩
set_option maxHeartbeats 2000000 in
theorem bcode_Read (a : Option Addr) (len cap : Nat) (xs : List Int) (w : World) (hr : Reads .u8 w a len cap xs) (hN : len < 10000000) :
    Calls Tryz.prog 113 #[.slice a len cap] w fun e w' => ∃ v, e = .returned (.tuple #[v, .int .i64 (codE xs)]) ∧ Own .u8 5 w.heap.size w' v (codL xs) ∧ Below w.heap.size w w' := by
  have HR := hid hr
  have hsz := hr.size
  have hle := eqEnd_le xs
  have hp := hr.pre (n := eqEnd xs) (by omega)
  rw [show xs.take (eqEnd xs) = codD xs from rfl] at hp
  have HP := hid hp
  obtain ⟨E, hE⟩ : ∃ E, E = eqEnd xs := ⟨_, rfl⟩
  have HU := bcode_unfilled a len cap xs w hr
  rw [← hE] at HU HP
  have HU := hid HU
  have hEl : E ≤ len := by rw [hE]; omega
  clear hr hp hle hE
  cases hd : (codD xs).all isDig
  · have e : Hid (codE xs = 3) := by unfold Hid codE; rw [hd]; rfl
    have el : Hid (codL xs = []) := by unfold Hid codL; rw [e.out]; rfl
    have HA := bcode_allDigits a E cap (codD xs)
    rw [hd] at HA
    have HA := hid HA
    clear hd
    go_enter Tryz.func113, Tryz.ntmps113
    go_wp2_with (first
      | (go_at_call 132; (with_reducible refine HU.out.mono ?_); rintro e w1 ⟨rfl, hb1⟩)
      | (go_at_call 133; (with_reducible refine (HA.out w1 (HP.out.below hb1)).mono ?_); rintro e w2 ⟨rfl, rfl⟩))
    go_ret2
    exact ⟨_, by rw [e.out]; rfl, by rw [el.out]; exact Own.nil _ _ _ _, hb1⟩
  · have HA := bcode_allDigits a E cap (codD xs)
    rw [hd] at HA
    have HA := hid HA
    by_cases h4 : len % 4 = 0
    · have h4i : (len : Int) % 4 = 0 := by omega
      have hok := spar_dig (xs := codD xs)
      by_cases hs : sparV (codD xs) = 0
      · rw [decide_eq_true hs] at hok
        have e : Hid (codE xs = 0) := by unfold Hid codE; rw [if_pos hd, hsz, if_pos h4, if_pos hok]
        have el : Hid (codL xs = rd64 ((codD xs).map valI)) := by unfold Hid codL; rw [if_pos e.out]
        have HS := bcode_spare a E cap (codD xs)
        rw [hs] at HS
        have HS := hid HS
        clear hd hok hs h4
        go_enter Tryz.func113, Tryz.ntmps113
        go_wp2_with (first
          | (go_at_call 132; (with_reducible refine HU.out.mono ?_); rintro e w1 ⟨rfl, hb1⟩)
          | (go_at_call 133; (with_reducible refine (HA.out w1 (HP.out.below hb1)).mono ?_); rintro e w2 ⟨rfl, rfl⟩)
          | (go_at_call 134; (with_reducible refine (HS.out w1 (HP.out.below hb1)).mono ?_); rintro e w2 ⟨rfl, rfl⟩)
          | (go_at_call 135; (with_reducible refine (bcode_octets _ _ _ _ w1 (HP.out.below hb1) (by omega)).mono ?_); rintro e w2 ⟨v2, rfl, ho2, hb2⟩))
        go_ret2
        exact ⟨_, by rw [e.out]; rfl, by rw [el.out]; exact own_mono ho2 hb1.size, below_then hb1 hb2⟩
      · rw [decide_eq_false hs] at hok
        have e : Hid (codE xs = 3) := by unfold Hid codE; rw [if_pos hd, hsz, if_pos h4, hok]; rfl
        have el : Hid (codL xs = []) := by unfold Hid codL; rw [e.out]; rfl
        obtain ⟨S, hS⟩ : ∃ S, S = sparV (codD xs) := ⟨_, rfl⟩
        have HS := bcode_spare a E cap (codD xs)
        rw [← hS] at HS hs
        have HS := hid HS
        have hs0 : (S != 0) = true := by simpa using hs
        clear hd hok hs h4 hS
        go_enter Tryz.func113, Tryz.ntmps113
        go_wp2_with (first
          | (go_at_call 132; (with_reducible refine HU.out.mono ?_); rintro e w1 ⟨rfl, hb1⟩)
          | (go_at_call 133; (with_reducible refine (HA.out w1 (HP.out.below hb1)).mono ?_); rintro e w2 ⟨rfl, rfl⟩)
          | (go_at_call 134; (with_reducible refine (HS.out w1 (HP.out.below hb1)).mono ?_); rintro e w2 ⟨rfl, rfl⟩))
        go_ret2
        exact ⟨_, by rw [e.out]; rfl, by rw [el.out]; exact Own.nil _ _ _ _, hb1⟩
    · have h4i : ¬ (len : Int) % 4 = 0 := by omega
      have e : Hid (codE xs = 4) := by unfold Hid codE; rw [if_pos hd, hsz, if_neg h4]
      have el : Hid (codL xs = []) := by unfold Hid codL; rw [e.out]; rfl
      clear hd h4
      go_enter Tryz.func113, Tryz.ntmps113
      go_wp2_with (first
        | (go_at_call 132; (with_reducible refine HU.out.mono ?_); rintro e w1 ⟨rfl, hb1⟩)
        | (go_at_call 133; (with_reducible refine (HA.out w1 (HP.out.below hb1)).mono ?_); rintro e w2 ⟨rfl, rfl⟩))
      go_ret2
      exact ⟨_, by rw [e.out]; rfl, by rw [el.out]; exact Own.nil _ _ _ _, hb1⟩
theorem bcode_Right (a : Option Addr) (len cap : Nat) (xs : List Int) (w : World) (hr : Reads .u8 w a len cap xs) (hN : len < 10000000) :
    Calls Tryz.prog 85 #[.slice a len cap] w fun e w' => e = .returned (.bool (decide (codE xs = 0))) ∧ Below w.heap.size w w' := by
  have HR := hid hr
  clear hr
  go_enter Tryz.func85, Tryz.ntmps85
  go_wp2_with (go_at_call 113; (with_reducible refine (bcode_Read _ _ _ _ _ HR.out hN).mono ?_); rintro e w1 ⟨v1, rfl, ho1, hb1⟩)
  go_ret
  exact ⟨ret_bool (by rw [Bool.eq_iff_iff]; simp), hb1⟩
end Go.Proofs.YtefhddbbiheadaaGreat
