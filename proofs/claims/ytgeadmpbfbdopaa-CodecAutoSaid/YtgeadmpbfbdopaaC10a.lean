/-
  Contracts of package winone's functions (those that the translation has).
-/
import Derived.Test.YtgeadmpbfbdopaaRows
import Derived.Test.YtgeadmpbfbdopaaC01
import Derived.Test.YtgeadmpbfbdopaaC03
import Derived.Test.YtgeadmpbfbdopaaD10
import Derived.Test.YtgeadmpbfbdopaaSto
namespace Go.Proofs.Ytgeadmpbfbdopaa
open Go.RowKit
set_option linter.unusedVariables false

set_option maxHeartbeats 1000000 in
theorem sl_Index (a : Option Addr) (len cap : Nat) (xs : List Int) (c : Int) (w : World) (hr : Reads .i32 w a len cap xs) :
    Calls Try.prog 78 #[.slice a len cap, .int .i32 c] w fun e w' => e = .returned (.int .i64 (idxI (fun x => decide (c = x)) xs)) ∧ w = w' := by
  have hl := hr.len_le
  have HR := hid hr
  clear hr
  go_enter Try.func78, Try.ntmps78
  go_wp2
  go_loop [8] (fun i => ∃ k : Nat, k ≤ len ∧ i = .int .i64 k ∧ Hid ((xs.take k).any (fun x => decide (c = x)) = false)) (fun i => len - (intOf i).toNat)
  case atStart => exact ⟨0, Nat.zero_le _, rfl, rfl⟩
  case round =>
    obtain ⟨k, hk, rfl, hn⟩ := hrel
    by_cases hlt : k < len
    · obtain ⟨b, off, x, rfl, _, hc, h0, h1, hx⟩ := HR.out.getR hlt
      by_cases hs : c = x
      · have H := hid hs
        have hb : (c == x) = true := by simpa using hs
        clear hs
        go_wp2
        go_ret
        exact ⟨ret_int (idx_hit hx.out.1 hn.out (by simp [H.out])).symm, rfl⟩
      · have H := hid hs
        have hb : (c == x) = false := by simpa using hs
        clear hs
        go_wp2
        go_round
        case rel => exact ⟨k + 1, by omega, by go_num, none_yes hx.out.2 hn.out (decide_eq_false H.out)⟩
        case measure => simp [intOf]; omega
    · go_wp2
      go_ret
      exact ⟨ret_int (by rw [← HR.out.all (show len ≤ k by omega)]; exact (idx_none hn.out).symm), rfl⟩

theorem winone_isOther (c : Int) (w : World) :
    Calls Try.prog 73 #[.int .i32 c] w fun e w' => e = .returned (.bool (decide (128 ≤ c ∧ c < 160))) ∧ w = w' := by
  by_cases h0 : 128 ≤ c
  · by_cases h1 : c < 160
    · go_enter Try.func73, Try.ntmps73
      go_wp2
      go_ret
      exact ⟨ret_bool (by simp [h0, h1]), rfl⟩
    · go_enter Try.func73, Try.ntmps73
      go_wp2
      go_ret
      exact ⟨ret_bool (by simp [h0, h1]), rfl⟩
  · go_enter Try.func73, Try.ntmps73
    go_wp2
    go_ret
    exact ⟨ret_bool (by have : ¬ 128 ≤ c := by omega
                        simp [this]), rfl⟩

theorem winone_others (w : World) :
    Calls Try.prog 74 #[] w fun e w' => ∃ b, e = .returned (.slice (some ⟨b, 0, none⟩) 32 32) ∧ Reads .i32 w' (some ⟨b, 0, none⟩) 32 32 tab10 ∧ Below w.heap.size w w' := by
  go_enter Try.func74, Try.ntmps74
  go_wp2_with (refine wpList_storeNew (w0 := w) .i32 tab10 _ _ _ rfl rfl _ rfl rfl rfl (by kernel_rfl) rfl ?_)
  have hL := Reads.lit .i32 86 w tab10 (by decide) (by decide)
  exact bodyPost_ret (v := .slice (some ⟨w.heap.size, 0, none⟩) 32 32) (by simp [results, Try.results74, go_sem]) rfl ⟨w.heap.size, rfl, hL, (Below.refl _ _).alloc (Nat.le_refl _) _⟩

theorem idx_get {f : Int → Bool} {xs : List Int} (h : 0 ≤ idxI f xs) : ∃ k : Nat, ∃ hk : k < xs.length, idxI f xs = k ∧ f xs[k] = true := by
  unfold idxI at h ⊢
  cases hf : xs.findIdx? f with
  | none => rw [hf] at h; simp at h
  | some k =>
    rw [List.findIdx?_eq_some_iff_getElem] at hf
    obtain ⟨hk, h1, _⟩ := hf
    exact ⟨k, hk, rfl, h1⟩
theorem idx_low {f : Int → Bool} {xs : List Int} (h : ¬ 0 ≤ idxI f xs) : idxI f xs = -1 := by
  have := (idx_bd f xs).1
  omega

theorem sg10_mid : ∀ n : Fin 256, ¬ (128 ≤ sg10 (n.val : Int) ∧ sg10 (n.val : Int) < 160) ∧ 0 ≤ sg10 (n.val : Int) := by decide +kernel
theorem sg10_tab (k : Nat) (hk : k < 32) : sg10 ((k : Int) + 128) = tab10[k]'(by simpa [tab10] using hk) := by
  unfold sg10
  rw [if_neg (by omega), show ((k : Int) + 128 - 128).toNat = k by omega, List.getD_eq_getElem?_getD, List.getElem?_eq_getElem (by simpa [tab10] using hk)]
  rfl
theorem out10_no {c : Int} (h : c < 0 ∨ c = 65533 ∨ (128 ≤ c ∧ c < 160)) : putI sg10 c = 0 ∧ hasI sg10 c = false := by
  refine put_no (put_none fun j hj h2 => ?_)
  have hm := sg10_mid ⟨j, hj⟩
  simp only [h2.1] at hm
  have h5 := h2.2
  omega
theorem out10_low {c : Int} (h0 : 0 ≤ c) (h1 : c < 256) (h : ¬ (128 ≤ c ∧ c < 160)) : putI sg10 c = c ∧ hasI sg10 c = true := by
  have hs : sg10 c = c := by unfold sg10; rw [if_pos (by omega)]
  have hp := once_put once10 (x := c) h0 (by omega) (by rw [hs]; omega)
  rwa [hs] at hp
theorem out10_hit {c : Int} {k : Nat} (hk : k < 32) (h : c = tab10[k]'(by simpa [tab10] using hk)) (h5 : c ≠ 65533) : putI sg10 c = (k : Int) + 128 ∧ hasI sg10 c = true := by
  have hs := sg10_tab k hk
  rw [← h] at hs
  have hp := once_put once10 (x := (k : Int) + 128) (by omega) (by omega) (by rw [hs]; exact h5)
  rwa [hs] at hp
theorem out10_miss {c : Int} (hc : 256 ≤ c) (h : idxI (fun x => decide (c = x)) tab10 = -1) : putI sg10 c = 0 ∧ hasI sg10 c = false := by
  refine put_no (put_none fun j hj h2 => ?_)
  have h3 := h2.1
  unfold sg10 at h3
  split at h3
  · omega
  · have hk : (((j : Int) - 128).toNat) < tab10.length := by simp [tab10]; omega
    rw [List.getD_eq_getElem?_getD, List.getElem?_eq_getElem hk] at h3
    have hp := idx_pos (fun x => decide (c = x)) tab10
    rw [h, decide_eq_false (by omega)] at hp
    have hp' := List.any_eq_false.1 hp.symm c (by rw [← h3]; exact List.getElem_mem hk)
    simp at hp'
theorem sl_IndexI (a : Option Addr) (len cap : Nat) (xs : List Int) (c i : Int) (w : World) (hr : Reads .i32 w a len cap xs) (hi : idxI (fun x => decide (c = x)) xs = i) :
    Calls Try.prog 78 #[.slice a len cap, .int .i32 c] w fun e w' => e = .returned (.int .i64 i) ∧ w = w' := by
  have := sl_Index a len cap xs c w hr
  rwa [hi] at this

set_option maxHeartbeats 1000000 in
theorem winone_Put (c : Int) (w : World) :
    Calls Try.prog 64 #[.int .i32 c] w fun e w' => e = .returned (.tuple #[.int .u8 (putI sg10 c), .bool (hasI sg10 c)]) ∧ Below w.heap.size w w' := by
  by_cases h0 : c < 0
  · have H := hid (out10_no (.inl h0))
    go_enter Try.func64, Try.ntmps64
    go_wp2
    go_ret2
    exact ⟨ret_ib H.out.1.symm H.out.2.symm, Below.refl _ _⟩
  · by_cases h5 : c = 65533
    · have H := hid (out10_no (.inr (.inl h5)))
      have hb : (c == 65533) = true := by simpa using h5
      clear h5
      go_enter Try.func64, Try.ntmps64
      go_wp2
      go_ret2
      exact ⟨ret_ib H.out.1.symm H.out.2.symm, Below.refl _ _⟩
    · have hb : (c == 65533) = false := by simpa using h5
      by_cases hm : 128 ≤ c ∧ c < 160
      · have H := hid (out10_no (.inr (.inr hm)))
        clear h5
        go_enter Try.func64, Try.ntmps64
        go_wp2_with (go_at_call 73; (with_reducible refine (winone_isOther _ _).mono ?_); rintro e w1 ⟨rfl, rfl⟩)
        go_ret2
        exact ⟨ret_ib H.out.1.symm H.out.2.symm, Below.refl _ _⟩
      · by_cases h1 : c < 256
        · have H := hid (out10_low (by omega) h1 hm)
          have hmod : c % 256 = c := by omega
          clear h5
          go_enter Try.func64, Try.ntmps64
          go_wp2_with (go_at_call 73; (with_reducible refine (winone_isOther _ _).mono ?_); rintro e w1 ⟨rfl, rfl⟩)
          go_ret2
          exact ⟨ret_ib H.out.1.symm H.out.2.symm, Below.refl _ _⟩
        · by_cases hi : 0 ≤ idxI (fun x => decide (c = x)) tab10
          · obtain ⟨k, hk, hI, hf⟩ := idx_get hi
            have hk' : k < 32 := by simpa [tab10] using hk
            have H := hid (out10_hit hk' (of_decide_eq_true hf) h5)
            have HI := hid hI
            clear h5 hf hI hi hk
            have hmod : (128 + (k : Int)) % 256 = (k : Int) + 128 := by omega
            have hk0 : (0 : Int) ≤ k := by omega
            go_enter Try.func64, Try.ntmps64
            go_wp2_with (first
              | (go_at_call 73; (with_reducible refine (winone_isOther _ _).mono ?_); rintro e w1 ⟨rfl, rfl⟩)
              | (go_at_call 74; (with_reducible refine (winone_others _).mono ?_); rintro e w2 ⟨b2, rfl, hR2, hb2⟩)
              | (go_at_call 78; (with_reducible refine (sl_IndexI _ _ _ _ _ _ _ hR2 HI.out).mono ?_); rintro e w3 ⟨rfl, rfl⟩))
            go_ret2
            exact ⟨ret_ib (by have := H.out.1; omega) H.out.2.symm, hb2⟩
          · have hI := idx_low hi
            have H := hid (out10_miss (by omega) hI)
            have HI := hid hI
            clear h5 hI hi
            go_enter Try.func64, Try.ntmps64
            go_wp2_with (first
              | (go_at_call 73; (with_reducible refine (winone_isOther _ _).mono ?_); rintro e w1 ⟨rfl, rfl⟩)
              | (go_at_call 74; (with_reducible refine (winone_others _).mono ?_); rintro e w2 ⟨b2, rfl, hR2, hb2⟩)
              | (go_at_call 78; (with_reducible refine (sl_IndexI _ _ _ _ _ _ _ hR2 HI.out).mono ?_); rintro e w3 ⟨rfl, rfl⟩))
            go_ret2
            exact ⟨ret_ib H.out.1.symm H.out.2.symm, hb2⟩

theorem winone_Has (c : Int) (w : World) :
    Calls Try.prog 53 #[.int .i32 c] w fun e w' => e = .returned (.bool (hasI sg10 c)) ∧ Below w.heap.size w w' := by
  go_enter Try.func53, Try.ntmps53
  go_wp2_with (go_at_call 64; (with_reducible refine (winone_Put _ _).mono ?_); rintro e w1 ⟨rfl, hb1⟩)
  go_ret
  exact ⟨rfl, hb1⟩
theorem others_at (w : World) (n : Nat) (hn : n < 32) :
    Calls Try.prog 74 #[] w fun e w' => ∃ b, e = .returned (.slice (some ⟨b, 0, none⟩) 32 32) ∧ w'.cell? ⟨b, n, none⟩ = some (.int .i32 (sg10 ((n : Int) + 128))) ∧ Below w.heap.size w w' := by
  refine (winone_others w).mono ?_
  rintro e w' ⟨b, rfl, hR, hb⟩
  refine ⟨b, rfl, ?_, hb⟩
  obtain ⟨b', off, y, hA, _, hc, _, _, hx⟩ := hR.getR hn
  cases hA
  have h1 := hx.out.1
  rw [List.getElem?_eq_getElem (by simpa [tab10] using hn), ← sg10_tab n hn] at h1
  rw [Option.some.inj h1]
  simpa using hc
set_option maxHeartbeats 1000000 in
theorem winone_Sign (x : Int) (w : World) (h0 : 0 ≤ x) (h1 : x ≤ 255) :
    Calls Try.prog 57 #[.int .u8 x] w fun e w' => e = .returned (.int .i32 (sg10 x)) ∧ Below w.heap.size w w' := by
  by_cases hm : 128 ≤ x ∧ x < 160
  · obtain ⟨n, hn, rfl⟩ : ∃ n : Nat, n < 32 ∧ x = (n : Int) + 128 := ⟨(x - 128).toNat, by omega, by omega⟩
    have hs : (n : Int) + 128 - 128 = n := by omega
    have hmod : ((n : Int) + 128) % 4294967296 = (n : Int) + 128 := by omega
    go_enter Try.func57, Try.ntmps57
    go_wp2_with (first
      | (go_at_call 73; (with_reducible refine (winone_isOther _ _).mono ?_); rintro e w1 ⟨rfl, rfl⟩)
      | (go_at_call 74; (with_reducible refine (others_at _ n hn).mono ?_); rintro e w2 ⟨b2, rfl, hc2, hb2⟩))
    go_ret
    exact ⟨rfl, hb2⟩
  · have hE : Hid (sg10 x = x) := by unfold Hid sg10; rw [if_pos (by omega)]
    go_enter Try.func57, Try.ntmps57
    go_wp2_with (go_at_call 73; (with_reducible refine (winone_isOther _ _).mono ?_); rintro e w1 ⟨rfl, rfl⟩)
    go_ret
    exact ⟨ret_int hE.out.symm, Below.refl _ _⟩
end Go.Proofs.Ytgeadmpbfbdopaa
