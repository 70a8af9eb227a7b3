/-
  Contracts of package octet's Trim and Same, and of the document's own.
-/
import Derived.Test.YtjmjljhicfaalaaOct2
import Derived.Deep.CutBlock
namespace Go.Proofs.Ytjmjljhicfaalaa
open Go.RowKit

def frontN (f : Int → Bool) (xs : List Int) : Nat := (xs.takeWhile f).length
def backN (f : Int → Bool) (xs : List Int) (a : Nat) : Nat → Nat
  | 0 => 0
  | n + 1 => if a < n + 1 ∧ f (xs.getD n 0) = true then backN f xs a n else n + 1
def trimL (f : Int → Bool) (xs : List Int) : List Int := (xs.take (backN f xs (frontN f xs) xs.length)).drop (frontN f xs)

theorem front_step {f : Int → Bool} {xs : List Int} {k : Nat} {x : Int} (hx : xs[k]? = some x) (hf : f x = true) : ((xs.drop k).takeWhile f).length = ((xs.drop (k + 1)).takeWhile f).length + 1 := by
  have hk : k < xs.length := (List.getElem?_eq_some_iff.1 hx).1
  have e : xs[k] = x := (List.getElem?_eq_some_iff.1 hx).2
  rw [List.drop_eq_getElem_cons hk, e]; simp [hf]
theorem front_stop {f : Int → Bool} {xs : List Int} {k : Nat} {x : Int} (hx : xs[k]? = some x) (hf : f x = false) : ((xs.drop k).takeWhile f).length = 0 := by
  have hk : k < xs.length := (List.getElem?_eq_some_iff.1 hx).1
  have e : xs[k] = x := (List.getElem?_eq_some_iff.1 hx).2
  rw [List.drop_eq_getElem_cons hk, e]; simp [hf]
theorem front_end {f : Int → Bool} {xs : List Int} {k : Nat} (h : xs.length ≤ k) : ((xs.drop k).takeWhile f).length = 0 := by
  rw [List.drop_of_length_le h]; rfl
theorem back_step {f : Int → Bool} {xs : List Int} {a m : Nat} {x : Int} (h : a < m) (hx : xs[m - 1]? = some x) (hf : f x = true) : backN f xs a m = backN f xs a (m - 1) := by
  obtain ⟨m, rfl⟩ : ∃ j, m = j + 1 := ⟨m - 1, by omega⟩
  simp only [Nat.add_sub_cancel] at hx ⊢
  rw [backN, if_pos ⟨h, by rw [List.getD_eq_getElem?_getD, hx]; exact hf⟩]
theorem back_stop {f : Int → Bool} {xs : List Int} {a m : Nat} {x : Int} (h : a < m) (hx : xs[m - 1]? = some x) (hf : f x = false) : backN f xs a m = m := by
  obtain ⟨m, rfl⟩ : ∃ j, m = j + 1 := ⟨m - 1, by omega⟩
  simp only [Nat.add_sub_cancel] at hx
  rw [backN, if_neg (fun hh => by rw [List.getD_eq_getElem?_getD, hx] at hh; simp [hf] at hh)]
theorem back_end {f : Int → Bool} {xs : List Int} {a m : Nat} (h : m ≤ a) : backN f xs a m = m := by
  cases m with
  | zero => rfl
  | succ m => rw [backN, if_neg (fun hh => by omega)]

set_option maxHeartbeats 1000000 in
theorem trim_c (a : Option Addr) (len cap : Nat) (xs : List Int) (w : World) (hr : Reads .u8 w a len cap xs) (hN : len < 1000000000000) :
    Calls Try.prog 20 #[.slice a len cap] w fun e w' => ∃ a' len' cap', e = .returned (.slice a' len' cap') ∧ Reads .u8 w' a' len' cap' (trimL (isB 2) xs) ∧ Below w.heap.size w w' := by
  have HR := hid hr
  have hs := hr.size
  clear hr
  go_enter Try.func20, Try.ntmps20
  go_upto_block 0 with fail
  go_cut [3] (fun s wx => s = .int .i64 (frontN (isB 2) xs) ∧ w = wx)
  case first =>
    go_wp2_with fail
    go_loop [3] (fun i => ∃ k : Nat, k ≤ len ∧ i = .int .i64 k ∧ Hid (k + ((xs.drop k).takeWhile (isB 2)).length = frontN (isB 2) xs)) (fun i => len - (intOf i).toNat)
    case atStart => exact ⟨0, Nat.zero_le _, rfl, by simp [Hid, frontN]⟩
    case round =>
      obtain ⟨k, hk, rfl, hn⟩ := hrel
      by_cases hlt : k < len
      · obtain ⟨b, off, x, rfl, _, hc, h0, h1, hx⟩ := HR.out.get8 hlt
        by_cases hb : isB 2 x = true
        · go_wp2_with (go_at_call 9; refine (is_c _ _ _ h0 h1).mono ?_; rintro e w' ⟨rfl, rfl⟩)
          go_round
          case rel => exact ⟨k + 1, by omega, by go_num, by have := hn.out; rw [front_step hx.out.1 hb] at this; unfold Hid; omega⟩
          case measure => simp [intOf]; omega
        · have hb' : isB 2 x = false := by simpa using hb
          clear hb
          go_wp2_with (go_at_call 9; refine (is_c _ _ _ h0 h1).mono ?_; rintro e w' ⟨rfl, rfl⟩)
          go_meet
          exact ⟨by have := hn.out; rw [front_stop hx.out.1 hb'] at this; rw [← this]; rfl, rfl⟩
      · have hlt' : len ≤ k := by omega
        go_wp2
        go_meet
        exact ⟨by have := hn.out; rw [front_end (by omega)] at this; rw [← this]; rfl, rfl⟩
  case rest =>
  obtain ⟨rfl, rfl⟩ := hcut
  obtain ⟨fr, hfr⟩ : ∃ n, n = frontN (isB 2) xs := ⟨_, rfl⟩
  have hle : fr ≤ len := by rw [hfr, ← hs]; exact List.Sublist.length_le (List.takeWhile_sublist _)
  rw [← hfr]
  have HF := hid hfr
  clear hfr
  go_upto_block 2 with fail
  go_cut [4] (fun s wx => (∃ m : Nat, s = .int .i64 m ∧ fr ≤ m ∧ m ≤ len ∧ Hid (m = backN (isB 2) xs fr len)) ∧ w = wx)
  case first =>
    go_wp2_with fail
    go_loop [4] (fun i => ∃ m : Nat, fr ≤ m ∧ m ≤ len ∧ i = .int .i64 m ∧ Hid (backN (isB 2) xs fr len = backN (isB 2) xs fr m)) (fun i => (intOf i).toNat)
    case atStart => exact ⟨len, hle, Nat.le_refl _, rfl, rfl⟩
    case round =>
      obtain ⟨m, hm1, hm2, rfl, hn⟩ := hrel
      by_cases hlt : fr < m
      · obtain ⟨m, rfl⟩ : ∃ j, m = j + 1 := ⟨m - 1, by omega⟩
        obtain ⟨b, off, x, rfl, _, hc, h0, h1, hx⟩ := HR.out.get8 (i := m) (by omega)
        by_cases hb : isB 2 x = true
        · go_wp2_with (go_at_call 9; refine (is_c _ _ _ h0 h1).mono ?_; rintro e w' ⟨rfl, rfl⟩)
          go_round
          case rel => exact ⟨m, by omega, by omega, by go_num, by rw [Hid, hn.out, back_step hlt hx.out.1 hb]; rfl⟩
          case measure => simp [intOf]
        · have hb' : isB 2 x = false := by simpa using hb
          clear hb
          go_wp2_with (go_at_call 9; refine (is_c _ _ _ h0 h1).mono ?_; rintro e w' ⟨rfl, rfl⟩)
          go_meet
          exact ⟨⟨m + 1, by go_num, by omega, by omega, by rw [Hid, hn.out, back_stop hlt hx.out.1 hb']⟩, rfl⟩
      · have hlt' : m ≤ fr := by omega
        go_wp2
        go_meet
        exact ⟨⟨m, rfl, hm1, hm2, by rw [Hid, hn.out, back_end hlt']⟩, rfl⟩
  case rest =>
  obtain ⟨⟨m, rfl, hm1, hm2, hm⟩, rfl⟩ := hcut
  have hroom := HR.out.room
  have hp := HR.out.piece hm1 hm2
  have e1 : (xs.take m).drop fr = trimL (isB 2) xs := by rw [trimL, ← HF.out, hs, ← hm.out]
  rw [e1] at hp
  have HP := hid hp
  clear hp e1
  go_wp2_with (at_builtin; go_must (refine wpList_more ST8 rfl _ _ rfl rfl rfl (Own.nil _ _ _ _) (Below.refl _ _) HP.out (by simp; omega) ?_); intro v' w' ho2 hb2)
  all_goals
    go_ret
    obtain ⟨a', cap', hv, hrd⟩ := ho2.reads
    exact ⟨a', _, cap', by rw [← hv]; rfl, hrd, hb2⟩

set_option maxHeartbeats 1000000 in
theorem trim_r (a : Option Addr) (len cap : Nat) (xs : List Int) (w : World) (hr : Reads .u8 w a len cap xs) :
    Calls Try.prog 21 #[.slice a len cap] w fun e w' => ∃ a' len' cap', e = .returned (.slice a' len' cap') ∧ Reads .u8 w' a' len' cap' (trimL (isB 2) xs) ∧ w = w' := by
  have HR := hid hr
  have hs := hr.size
  have hll := hr.len_le
  clear hr
  go_enter Try.func21, Try.ntmps21
  go_upto_block 0 with fail
  go_cut [3] (fun s wx => s = .int .i64 (frontN (isB 2) xs) ∧ w = wx)
  case first =>
    go_wp2_with fail
    go_loop [3] (fun i => ∃ k : Nat, k ≤ len ∧ i = .int .i64 k ∧ Hid (k + ((xs.drop k).takeWhile (isB 2)).length = frontN (isB 2) xs)) (fun i => len - (intOf i).toNat)
    case atStart => exact ⟨0, Nat.zero_le _, rfl, by simp [Hid, frontN]⟩
    case round =>
      obtain ⟨k, hk, rfl, hn⟩ := hrel
      by_cases hlt : k < len
      · obtain ⟨b, off, x, rfl, _, hc, h0, h1, hx⟩ := HR.out.get8 hlt
        by_cases hb : isB 2 x = true
        · go_wp2_with (go_at_call 10; refine (is_r _ _ _ h0 h1).mono ?_; rintro e w' ⟨rfl, rfl⟩)
          go_round
          case rel => exact ⟨k + 1, by omega, by go_num, by have := hn.out; rw [front_step hx.out.1 hb] at this; unfold Hid; omega⟩
          case measure => simp [intOf]; omega
        · have hb' : isB 2 x = false := by simpa using hb
          clear hb
          go_wp2_with (go_at_call 10; refine (is_r _ _ _ h0 h1).mono ?_; rintro e w' ⟨rfl, rfl⟩)
          go_meet
          exact ⟨by have := hn.out; rw [front_stop hx.out.1 hb'] at this; rw [← this]; rfl, rfl⟩
      · have hlt' : len ≤ k := by omega
        go_wp2
        go_meet
        exact ⟨by have := hn.out; rw [front_end (by omega)] at this; rw [← this]; rfl, rfl⟩
  case rest =>
  obtain ⟨rfl, rfl⟩ := hcut
  obtain ⟨fr, hfr⟩ : ∃ n, n = frontN (isB 2) xs := ⟨_, rfl⟩
  have hle : fr ≤ len := by rw [hfr, ← hs]; exact List.Sublist.length_le (List.takeWhile_sublist _)
  rw [← hfr]
  have HF := hid hfr
  clear hfr
  go_upto_block 2 with fail
  go_cut [4] (fun s wx => (∃ m : Nat, s = .int .i64 m ∧ fr ≤ m ∧ m ≤ len ∧ Hid (m = backN (isB 2) xs fr len)) ∧ w = wx)
  case first =>
    go_wp2_with fail
    go_loop [4] (fun i => ∃ m : Nat, fr ≤ m ∧ m ≤ len ∧ i = .int .i64 m ∧ Hid (backN (isB 2) xs fr len = backN (isB 2) xs fr m)) (fun i => (intOf i).toNat)
    case atStart => exact ⟨len, hle, Nat.le_refl _, rfl, rfl⟩
    case round =>
      obtain ⟨m, hm1, hm2, rfl, hn⟩ := hrel
      by_cases hlt : fr < m
      · obtain ⟨m, rfl⟩ : ∃ j, m = j + 1 := ⟨m - 1, by omega⟩
        obtain ⟨b, off, x, rfl, _, hc, h0, h1, hx⟩ := HR.out.get8 (i := m) (by omega)
        by_cases hb : isB 2 x = true
        · go_wp2_with (go_at_call 10; refine (is_r _ _ _ h0 h1).mono ?_; rintro e w' ⟨rfl, rfl⟩)
          go_round
          case rel => exact ⟨m, by omega, by omega, by go_num, by rw [Hid, hn.out, back_step hlt hx.out.1 hb]; rfl⟩
          case measure => simp [intOf]
        · have hb' : isB 2 x = false := by simpa using hb
          clear hb
          go_wp2_with (go_at_call 10; refine (is_r _ _ _ h0 h1).mono ?_; rintro e w' ⟨rfl, rfl⟩)
          go_meet
          exact ⟨⟨m + 1, by go_num, by omega, by omega, by rw [Hid, hn.out, back_stop hlt hx.out.1 hb']⟩, rfl⟩
      · have hlt' : m ≤ fr := by omega
        go_wp2
        go_meet
        exact ⟨⟨m, rfl, hm1, hm2, by rw [Hid, hn.out, back_end hlt']⟩, rfl⟩
  case rest =>
  obtain ⟨⟨m, rfl, hm1, hm2, hm⟩, rfl⟩ := hcut
  have hroom := HR.out.room
  have hp := HR.out.piece hm1 hm2
  have e1 : (xs.take m).drop fr = trimL (isB 2) xs := by rw [trimL, ← HF.out, hs, ← hm.out]
  rw [e1] at hp
  have HP := hid hp
  clear hp e1
  go_wp2
  · go_ret
    exact ⟨_, _, _, rfl, by have := HP.out; rw [if_pos ‹_›, show cap - fr = 0 by omega] at this; exact this, rfl⟩
  · go_ret
    exact ⟨_, _, _, rfl, by have := HP.out; rw [if_neg ‹_›] at this; exact this, rfl⟩

/-! ### are two texts the same, folded? -/
theorem same_no {xs ys : List Int} {k : Nat} {x y : Int} (hx : xs[k]? = some x) (hy : ys[k]? = some y) (h : (lowI x != lowI y) = true) : decide (xs.map lowI = ys.map lowI) = false := by
  refine eq_no (k := k) (x := lowI x) (y := lowI y) ?_ ?_ h <;> simp [hx, hy]
theorem same_yes {xs ys : List Int} {k : Nat} {x y : Int} (hx : xs.take (k + 1) = xs.take k ++ [x]) (hy : ys.take (k + 1) = ys.take k ++ [y]) (hn : (xs.take k).map lowI = (ys.take k).map lowI) (h : (lowI x != lowI y) = false) : (xs.take (k + 1)).map lowI = (ys.take (k + 1)).map lowI := by
  rw [hx, hy, List.map_append, List.map_append, hn]; simp; simpa using h

set_option maxHeartbeats 1000000 in
theorem same_c (a : Option Addr) (len cap : Nat) (xs : List Int) (a2 : Option Addr) (len2 cap2 : Nat) (ys : List Int) (w : World) (hr : Reads .u8 w a len cap xs) (hr2 : Reads .u8 w a2 len2 cap2 ys) :
    Calls Try.prog 22 #[.slice a len cap, .slice a2 len2 cap2] w fun e w' => e = .returned (.bool (decide (xs.map lowI = ys.map lowI))) ∧ ∃ n, w' = w.drewN n := by
  have hl := hr.len_le
  have hl2 := hr2.len_le
  have HR := hid hr
  have HR2 := hid hr2
  clear hr hr2
  by_cases he : len = len2
  · subst he
    go_enter Try.func22, Try.ntmps22
    go_wp2
    go_loopw [14] (fun i wr => ∃ k : Nat, k ≤ len ∧ i = .int .i64 k ∧ Hid ((xs.take k).map lowI = (ys.take k).map lowI) ∧ ∃ n, wr = w.drewN n) (fun i _ => len - (intOf i).toNat)
    case atStart => exact ⟨0, Nat.zero_le _, rfl, rfl, 0, rfl⟩
    case round =>
      obtain ⟨k, hk, rfl, hn, n, hw⟩ := hrel
      by_cases hlt : k < len
      · obtain ⟨b, off, x, rfl, _, hc, h0, h1, hx⟩ := HR.out.get8 hlt
        obtain ⟨b2, off2, y, rfl, _, hc2, h02, h12, hy⟩ := HR2.out.get8 hlt
        have hc : wr.cell? ⟨b, off + k, none⟩ = some (.int .u8 x) := by rw [hw]; exact hc
        have hc2 : wr.cell? ⟨b2, off2 + k, none⟩ = some (.int .u8 y) := by rw [hw]; exact hc2
        have HW := hid hw
        clear hw
        go_wp2
        go_quiet ((go_at_call 11; exact Calls.quiet_of_same (Calls.flip (lower_c _ _ (by assumption) (by assumption)))))
        go_wp2_with fail
        · go_ret
          exact ⟨ret_bool (same_no hx.out.1 hy.out.1 ‹_›).symm, by rw [HW.out]; simp only [World.drewN_drewN]; exact ⟨_, rfl⟩⟩
        · go_roundw
          case rel => exact ⟨k + 1, by omega, by go_num, same_yes hx.out.2 hy.out.2 hn.out ‹_›, by rw [HW.out]; simp only [World.drewN_drewN]; exact ⟨_, rfl⟩⟩
          case measure => simp [intOf]; omega
      · have HW := hid hw
        clear hw
        go_wp2
        go_ret
        exact ⟨ret_bool (by rw [← HR.out.all (show len ≤ k by omega), ← HR2.out.all (show len ≤ k by omega)]; exact (decide_eq_true hn.out).symm), _, HW.out⟩
  · have hne : ((len : Int) != len2) = true := by simp; omega
    go_enter Try.func22, Try.ntmps22
    go_wp2
    go_ret
    exact ⟨ret_bool (eq_len (by simp only [List.length_map]; rw [HR.out.size, HR2.out.size]; exact he)).symm, 0, rfl⟩
end Go.Proofs.Ytjmjljhicfaalaa
