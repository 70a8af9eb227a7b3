/-
  Contracts of package octet's functions on kinds, trimming, folding (those that the translation has).
-/
import Derived.Test.YtffjiidegnblbaaRows
import Derived.Test.YtffjiidegnblbaaD01
import Derived.Deep.CutBlock
import Derived.Test.YtffjiidegnblbaaC01
namespace Go.Proofs.Ytffjiidegnblbaa
open Go.RowKit
set_option linter.unusedVariables false

theorem alnum_c (c : Int) (w : World) (h0 : 0 ≤ c) (h1 : c ≤ 255) :
    Calls Try.prog 39 #[.int .u8 c] w fun e w' => e = .returned (.int .i64 (alnumI c)) ∧ w = w' := by
  have hb := low_bd c h0 h1
  go_enter Try.func39, Try.ntmps39
  go_wp2_with (go_at_call 27; refine (lower_c _ _ h0 h1).mono ?_; rintro e w' ⟨rfl, rfl⟩)
  all_goals (go_ret; exact ⟨ret_int (by unfold alnumI; (repeat' split) <;> first | rfl | omega), rfl⟩)
theorem ibs (s : ByteArray) (c : Int) (w : World) : (callFunc 48 #[.string s, .int .u8 c]).run Try.prog w = .ok (.value (.int .i64 (firstIdx s c.toNat.toUInt8))) w := by
  rw [run_callFunc_extern (fn := Try.f48) (e := Extern.BytealgIndexByte.indexByte) (by kernel_rfl) (by kernel_rfl) (by kernel_rfl) (by kernel_rfl) (by kernel_rfl), run_indexByte_string]
  rfl
theorem among_c (s : ByteArray) (c : Int) (w : World) :
    Calls Try.prog 45 #[.string s, .int .u8 c] w fun e w' => e = .returned (.bool (hasB s c)) ∧ w = w' := by
  have hx := ibs s c w
  go_enter Try.func45, Try.ntmps45
  go_wp2
  go_ret
  exact ⟨ret_bool (firstIdx_nonneg _ _), rfl⟩
theorem syn_c (c : Int) (w : World) :
    Calls Try.prog 40 #[.int .u8 c] w fun e w' => e = .returned (.int .i64 (synI c)) ∧ w = w' := by
  go_enter Try.func40, Try.ntmps40
  go_wp2_with (go_at_call 45; refine (among_c _ _ _).mono ?_; rintro e w' ⟨rfl, rfl⟩)
  all_goals (go_ret; exact ⟨ret_int (by unfold synI; simp [*]), rfl⟩)
theorem cod_c (c : Int) (w : World) (h0 : 0 ≤ c) (h1 : c ≤ 255) :
    Calls Try.prog 41 #[.int .u8 c] w fun e w' => e = .returned (.int .i64 (codI c)) ∧ w = w' := by
  go_enter Try.func41, Try.ntmps41
  go_wp2_with (first | (go_at_call 45; refine (among_c _ _ _).mono ?_; rintro e w' ⟨rfl, rfl⟩) | (go_at_call 39; refine (alnum_c _ _ h0 h1).mono ?_; rintro e w' ⟨rfl, rfl⟩))
  all_goals (go_ret; exact ⟨ret_int (by unfold codI; simp only [*, if_true, if_false, Bool.false_eq_true]; try rfl), rfl⟩)
theorem kinds_c (c : Int) (w : World) (h0 : 0 ≤ c) (h1 : c ≤ 255) :
    Calls Try.prog 32 #[.int .u8 c] w fun e w' => e = .returned (.int .i64 (kindI c)) ∧ w = w' := by
  go_enter Try.func32, Try.ntmps32
  go_wp2_with (first | (go_at_call 39; refine (alnum_c _ _ h0 h1).mono ?_; rintro e w' ⟨rfl, rfl⟩) | (go_at_call 40; refine (syn_c _ _).mono ?_; rintro e w' ⟨rfl, rfl⟩) | (go_at_call 41; refine (cod_c _ _ h0 h1).mono ?_; rintro e w' ⟨rfl, rfl⟩))
  all_goals (go_ret; exact ⟨ret_int (by simp only [beq_iff_eq, beq_eq_false_iff_ne] at *; unfold kindI; (repeat' split) <;> first | rfl | omega), rfl⟩)
theorem is_c (c kinds : Int) (w : World) (h0 : 0 ≤ c) (h1 : c ≤ 255) :
    Calls Try.prog 29 #[.int .u8 c, .int .i64 kinds] w fun e w' => e = .returned (.bool (isB kinds c)) ∧ w = w' := by
  go_enter Try.func29, Try.ntmps29
  go_wp2_with (go_at_call 32; refine (kinds_c _ _ h0 h1).mono ?_; rintro e w' ⟨rfl, rfl⟩)
  go_ret
  exact ⟨rfl, rfl⟩
set_option maxHeartbeats 1000000 in
theorem fold_c (a : Option Addr) (len cap : Nat) (xs : List Int) (w : World) (hr : Reads .u8 w a len cap xs) (hN : len < 1000000000000) :
    Calls Try.prog 19 #[.slice a len cap] w fun e w' => ∃ a' cap', e = .returned (.slice a' len cap') ∧ Reads .u8 w' a' len cap' (xs.map lowI) ∧ Below w.heap.size w w' := by
  have HR := hid hr
  have hs := hr.size
  clear hr
  go_enter Try.func19, Try.ntmps19
  go_wp2_with (at_make; refine wpList_zeros CT8 rfl _ _ rfl (w0 := w) rfl rfl (Below.refl _ _) hN (by decide) ?_; intro g w1 hown hbel)
  obtain ⟨w1, rfl⟩ : ∃ x : World, x = w1 := ⟨_, rfl⟩
  go_loopw [11] (fun i wr => ∃ k : Nat, k ≤ len ∧ i = .int .i64 k ∧ Own .u8 5 w.heap.size wr (.slice (some ⟨g, 0, none⟩) len len) (fill lowI xs k) ∧ Below w.heap.size w wr) (fun i _ => len - (intOf i).toNat)
  case atStart => exact ⟨0, Nat.zero_le _, rfl, by rw [fill_zero, hs]; exact hown, hbel⟩
  case round =>
    obtain ⟨k, hk, rfl, hown', hbel'⟩ := hrel
    by_cases hlt : k < len
    · obtain ⟨b, off, x, rfl, _, hc, h0, h1, hx⟩ := (HR.out.below hbel').get8 hlt
      obtain ⟨hcell, hfz⟩ := hown'.at (j := k) (by rw [fill_len] <;> omega)
      obtain ⟨ho2, hb2⟩ := hown'.store hbel' k (low_wf x h0 h1)
      rw [fill_set lowI (by omega) hx.out.2] at ho2
      have HO := hid ho2
      have HB := hid hb2
      clear ho2 hb2 hown' hbel'
      go_wp2_with (go_at_call 27; refine (lower_c _ _ h0 h1).mono ?_; rintro e w' ⟨rfl, rfl⟩)
      go_roundw
      case rel => exact ⟨k + 1, by omega, by go_num, HO.out, HB.out⟩
      case measure => simp [intOf]; omega
    · go_wp2
      go_ret
      obtain ⟨a', cap', hv, hrd⟩ := hown'.reads
      rw [fill_all lowI xs k (by omega)] at hv hrd
      simp only [List.length_map, hs] at hv hrd
      exact ⟨a', cap', by rw [← hv]; rfl, hrd, hbel'⟩
set_option maxHeartbeats 1000000 in
theorem trim_c (a : Option Addr) (len cap : Nat) (xs : List Int) (w : World) (hr : Reads .u8 w a len cap xs) (hN : len < 1000000000000) :
    Calls Try.prog 23 #[.slice a len cap] w fun e w' => ∃ a' len' cap', e = .returned (.slice a' len' cap') ∧ Reads .u8 w' a' len' cap' (trimL (isB 2) xs) ∧ Below w.heap.size w w' := by
  have HR := hid hr
  have hs := hr.size
  clear hr
  go_enter Try.func23, Try.ntmps23
  go_upto_block 0 with fail
  go_cut [3] (fun s wx => s = .int .i64 (frontN (isB 2) xs) ∧ w = wx)
  case first =>
    go_wp2_with fail
    go_loop [3] (fun i => ∃ k : Nat, k ≤ len ∧ i = .int .i64 k ∧ Hid (k + ((xs.drop k).takeWhile (isB 2)).length = frontN (isB 2) xs)) (fun i => len - (intOf i).toNat)
    case atStart => exact ⟨0, Nat.zero_le _, rfl, by simp [Hid, frontN]⟩
    case round =>
      obtain ⟨k, hk, rfl, hn⟩ := hrel
      by_cases hlt : k < len
      · obtain ⟨b, off, x, rfl, _, hc, h0, h1, hx⟩ := HR.out.get8 hlt
        by_cases hb : isB 2 x = true
        · go_wp2_with (go_at_call 29; refine (is_c _ _ _ h0 h1).mono ?_; rintro e w' ⟨rfl, rfl⟩)
          go_round
          case rel => exact ⟨k + 1, by omega, by go_num, by have := hn.out; rw [front_step hx.out.1 hb] at this; unfold Hid; omega⟩
          case measure => simp [intOf]; omega
        · have hb' : isB 2 x = false := by simpa using hb
          clear hb
          go_wp2_with (go_at_call 29; refine (is_c _ _ _ h0 h1).mono ?_; rintro e w' ⟨rfl, rfl⟩)
          go_meet
          exact ⟨by have := hn.out; rw [front_stop hx.out.1 hb'] at this; rw [← this]; rfl, rfl⟩
      · have hlt' : len ≤ k := by omega
        go_wp2
        go_meet
        exact ⟨by have := hn.out; rw [front_end (by omega)] at this; rw [← this]; rfl, rfl⟩
  case rest =>
  obtain ⟨rfl, rfl⟩ := hcut
  obtain ⟨fr, hfr⟩ : ∃ n, n = frontN (isB 2) xs := ⟨_, rfl⟩
  have hle : fr ≤ len := by rw [hfr, ← hs]; exact List.Sublist.length_le (List.takeWhile_sublist _)
  rw [← hfr]
  have HF := hid hfr
  clear hfr
  go_upto_block 2 with fail
  go_cut [4] (fun s wx => (∃ m : Nat, s = .int .i64 m ∧ fr ≤ m ∧ m ≤ len ∧ Hid (m = backN (isB 2) xs fr len)) ∧ w = wx)
  case first =>
    go_wp2_with fail
    go_loop [4] (fun i => ∃ m : Nat, fr ≤ m ∧ m ≤ len ∧ i = .int .i64 m ∧ Hid (backN (isB 2) xs fr len = backN (isB 2) xs fr m)) (fun i => (intOf i).toNat)
    case atStart => exact ⟨len, hle, Nat.le_refl _, rfl, rfl⟩
    case round =>
      obtain ⟨m, hm1, hm2, rfl, hn⟩ := hrel
      by_cases hlt : fr < m
      · obtain ⟨m, rfl⟩ : ∃ j, m = j + 1 := ⟨m - 1, by omega⟩
        obtain ⟨b, off, x, rfl, _, hc, h0, h1, hx⟩ := HR.out.get8 (i := m) (by omega)
        by_cases hb : isB 2 x = true
        · go_wp2_with (go_at_call 29; refine (is_c _ _ _ h0 h1).mono ?_; rintro e w' ⟨rfl, rfl⟩)
          go_round
          case rel => exact ⟨m, by omega, by omega, by go_num, by rw [Hid, hn.out, back_step hlt hx.out.1 hb]; rfl⟩
          case measure => simp [intOf]
        · have hb' : isB 2 x = false := by simpa using hb
          clear hb
          go_wp2_with (go_at_call 29; refine (is_c _ _ _ h0 h1).mono ?_; rintro e w' ⟨rfl, rfl⟩)
          go_meet
          exact ⟨⟨m + 1, by go_num, by omega, by omega, by rw [Hid, hn.out, back_stop hlt hx.out.1 hb']⟩, rfl⟩
      · have hlt' : m ≤ fr := by omega
        go_wp2
        go_meet
        exact ⟨⟨m, rfl, hm1, hm2, by rw [Hid, hn.out, back_end hlt']⟩, rfl⟩
  case rest =>
  obtain ⟨⟨m, rfl, hm1, hm2, hm⟩, rfl⟩ := hcut
  have hroom := HR.out.room
  have hp := HR.out.piece hm1 hm2
  have e1 : (xs.take m).drop fr = trimL (isB 2) xs := by rw [trimL, ← HF.out, hs, ← hm.out]
  rw [e1] at hp
  have HP := hid hp
  clear hp e1
  go_wp2_with (at_builtin; go_must (refine wpList_more CT8 rfl _ _ rfl rfl rfl (Own.nil _ _ _ _) (Below.refl _ _) HP.out (by simp; omega) ?_); intro v' w' ho2 hb2)
  all_goals
    go_ret
    obtain ⟨a', cap', hv, hrd⟩ := ho2.reads
    exact ⟨a', _, cap', by rw [← hv]; rfl, hrd, hb2⟩
end Go.Proofs.Ytffjiidegnblbaa
