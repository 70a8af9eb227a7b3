/-
  Texts of ours laid together: C10a, C12.
-/
import Derived.Test.YtdglnpkkfkagaaaGreatRows
import Derived.Test.YtdglnpkkfkagaaaGreatZ18

/-! C10a -/
namespace Go.Proofs.YtdglnpkkfkagaaaGreat
open Go.RowKit
set_option linter.unusedVariables false

set_option maxHeartbeats 1000000 in
theorem sl_Index (a : Option Addr) (len cap : Nat) (xs : List Int) (c : Int) (w : World) (hr : Reads .i32 w a len cap xs) :
    Calls Tryz.prog 139 #[.slice a len cap, .int .i32 c] w fun e w' => e = .returned (.int .i64 (idxI (fun x => decide (c = x)) xs)) ∧ w = w' := by
  have hl := hr.len_le
  have HR := hid hr
  clear hr
  go_enter Tryz.func139, Tryz.ntmps139
  go_wp2
  go_loop [8] (fun i => ∃ k : Nat, k ≤ len ∧ i = .int .i64 k ∧ Hid ((xs.take k).any (fun x => decide (c = x)) = false)) (fun i => len - (intOf i).toNat)
  case atStart => exact ⟨0, Nat.zero_le _, rfl, rfl⟩
  case round =>
    obtain ⟨k, hk, rfl, hn⟩ := hrel
    by_cases hlt : k < len
    · obtain ⟨b, off, x, rfl, _, hc, h0, h1, hx⟩ := HR.out.getR hlt
      by_cases hs : c = x
      · have H := hid hs
        have hb : (c == x) = true := by simpa using hs
        clear hs
        go_wp2
        go_ret
        exact ⟨ret_int (idx_hit hx.out.1 hn.out (by simp [H.out])).symm, rfl⟩
      · have H := hid hs
        have hb : (c == x) = false := by simpa using hs
        clear hs
        go_wp2
        go_round
        case rel => exact ⟨k + 1, by omega, by go_num, none_yes hx.out.2 hn.out (decide_eq_false H.out)⟩
        case measure => simp [intOf]; omega
    · go_wp2
      go_ret
      exact ⟨ret_int (by rw [← HR.out.all (show len ≤ k by omega)]; exact (idx_none hn.out).symm), rfl⟩

theorem winone_isOther (c : Int) (w : World) :
    Calls Tryz.prog 138 #[.int .i32 c] w fun e w' => e = .returned (.bool (decide (128 ≤ c ∧ c < 160))) ∧ w = w' := by
  by_cases h0 : 128 ≤ c
  · by_cases h1 : c < 160
    · go_enter Tryz.func138, Tryz.ntmps138
      go_wp2
      go_ret
      exact ⟨ret_bool (by simp [*]), rfl⟩
    · go_enter Tryz.func138, Tryz.ntmps138
      go_wp2
      go_ret
      exact ⟨ret_bool (by simp [*]), rfl⟩
  · go_enter Tryz.func138, Tryz.ntmps138
    go_wp2
    go_ret
    exact ⟨ret_bool (by have : ¬ 128 ≤ c := by omega
                        simp [this]), rfl⟩

theorem winone_others (w : World) :
    Calls Tryz.prog 140 #[] w fun e w' => ∃ b, e = .returned (.slice (some ⟨b, 0, none⟩) 32 32) ∧ Reads .i32 w' (some ⟨b, 0, none⟩) 32 32 tab10 ∧ Below w.heap.size w w' := by
  go_enter Tryz.func140, Tryz.ntmps140
  go_wp2_with (refine wpList_storeNew (w0 := w) .i32 tab10 _ _ _ rfl rfl _ rfl rfl rfl (by kernel_rfl) rfl ?_)
  have hL := Reads.lit .i32 154 w tab10 (by decide) (by decide)
  exact bodyPost_ret (v := .slice (some ⟨w.heap.size, 0, none⟩) 32 32) (by simp [results, Tryz.results140, go_sem]) rfl ⟨w.heap.size, rfl, hL, (Below.refl _ _).alloc (Nat.le_refl _) _⟩

theorem idx_get {f : Int → Bool} {xs : List Int} (h : 0 ≤ idxI f xs) : ∃ k : Nat, ∃ hk : k < xs.length, idxI f xs = k ∧ f xs[k] = true := by
  unfold idxI at h ⊢
  cases hf : xs.findIdx? f with
  | none => rw [hf] at h; simp at h
  | some k =>
    rw [List.findIdx?_eq_some_iff_getElem] at hf
    obtain ⟨hk, h1, _⟩ := hf
    exact ⟨k, hk, rfl, h1⟩
theorem idx_low {f : Int → Bool} {xs : List Int} (h : ¬ 0 ≤ idxI f xs) : idxI f xs = -1 := by
  have := (idx_bd f xs).1
  omega

theorem sg10_mid : ∀ n : Fin 256, ¬ (128 ≤ sg10 (n.val : Int) ∧ sg10 (n.val : Int) < 160) ∧ 0 ≤ sg10 (n.val : Int) := by decide +kernel
theorem sg10_tab (k : Nat) (hk : k < 32) : sg10 ((k : Int) + 128) = tab10[k]'(by simpa [tab10] using hk) := by
  unfold sg10
  rw [if_neg (by omega), show ((k : Int) + 128 - 128).toNat = k by omega, List.getD_eq_getElem?_getD, List.getElem?_eq_getElem (by simpa [tab10] using hk)]
  rfl
theorem out10_no {c : Int} (h : c < 0 ∨ c = 65533 ∨ (128 ≤ c ∧ c < 160)) : putI sg10 c = 0 ∧ hasI sg10 c = false := by
  refine put_no (put_none fun j hj h2 => ?_)
  have hm := sg10_mid ⟨j, hj⟩
  simp only [h2.1] at hm
  have h5 := h2.2
  omega
theorem out10_low {c : Int} (h0 : 0 ≤ c) (h1 : c < 256) (h : ¬ (128 ≤ c ∧ c < 160)) : putI sg10 c = c ∧ hasI sg10 c = true := by
  have hs : sg10 c = c := by unfold sg10; rw [if_pos (by omega)]
  have hp := once_put once10 (x := c) h0 (by omega) (by rw [hs]; omega)
  rwa [hs] at hp
theorem out10_hit {c : Int} {k : Nat} (hk : k < 32) (h : c = tab10[k]'(by simpa [tab10] using hk)) (h5 : c ≠ 65533) : putI sg10 c = (k : Int) + 128 ∧ hasI sg10 c = true := by
  have hs := sg10_tab k hk
  rw [← h] at hs
  have hp := once_put once10 (x := (k : Int) + 128) (by omega) (by omega) (by rw [hs]; exact h5)
  rwa [hs] at hp
theorem out10_miss {c : Int} (hc : 256 ≤ c) (h : idxI (fun x => decide (c = x)) tab10 = -1) : putI sg10 c = 0 ∧ hasI sg10 c = false := by
  refine put_no (put_none fun j hj h2 => ?_)
  have h3 := h2.1
  unfold sg10 at h3
  split at h3
  · omega
  · have hk : (((j : Int) - 128).toNat) < tab10.length := by simp [tab10]; omega
    rw [List.getD_eq_getElem?_getD, List.getElem?_eq_getElem hk] at h3
    have hp := idx_pos (fun x => decide (c = x)) tab10
    rw [h, decide_eq_false (by omega)] at hp
    have hp' := List.any_eq_false.1 hp.symm c (by rw [← h3]; exact List.getElem_mem hk)
    simp at hp'
theorem sl_IndexI (a : Option Addr) (len cap : Nat) (xs : List Int) (c i : Int) (w : World) (hr : Reads .i32 w a len cap xs) (hi : idxI (fun x => decide (c = x)) xs = i) :
    Calls Tryz.prog 139 #[.slice a len cap, .int .i32 c] w fun e w' => e = .returned (.int .i64 i) ∧ w = w' := by
  have := sl_Index a len cap xs c w hr
  rwa [hi] at this

set_option maxHeartbeats 1000000 in
theorem winone_Put (c : Int) (w : World) :
    Calls Tryz.prog 126 #[.int .i32 c] w fun e w' => e = .returned (.tuple #[.int .u8 (putI sg10 c), .bool (hasI sg10 c)]) ∧ Below w.heap.size w w' := by
  by_cases h0 : c < 0
  · have H := hid (out10_no (.inl h0))
    go_enter Tryz.func126, Tryz.ntmps126
    go_wp2
    go_ret2
    exact ⟨ret_ib H.out.1.symm H.out.2.symm, Below.refl _ _⟩
  · by_cases h5 : c = 65533
    · have H := hid (out10_no (.inr (.inl h5)))
      have hb : (c == 65533) = true := by simpa using h5
      clear h5
      go_enter Tryz.func126, Tryz.ntmps126
      go_wp2
      go_ret2
      exact ⟨ret_ib H.out.1.symm H.out.2.symm, Below.refl _ _⟩
    · have hb : (c == 65533) = false := by simpa using h5
      by_cases hm : 128 ≤ c ∧ c < 160
      · have H := hid (out10_no (.inr (.inr hm)))
        clear h5
        go_enter Tryz.func126, Tryz.ntmps126
        go_wp2_with (go_at_call 138; (with_reducible refine (winone_isOther _ _).mono ?_); rintro e w1 ⟨rfl, rfl⟩)
        go_ret2
        exact ⟨ret_ib H.out.1.symm H.out.2.symm, Below.refl _ _⟩
      · by_cases h1 : c < 256
        · have H := hid (out10_low (by omega) h1 hm)
          have hmod : c % 256 = c := by omega
          clear h5
          go_enter Tryz.func126, Tryz.ntmps126
          go_wp2_with (go_at_call 138; (with_reducible refine (winone_isOther _ _).mono ?_); rintro e w1 ⟨rfl, rfl⟩)
          go_ret2
          exact ⟨ret_ib H.out.1.symm H.out.2.symm, Below.refl _ _⟩
        · by_cases hi : 0 ≤ idxI (fun x => decide (c = x)) tab10
          · obtain ⟨k, hk, hI, hf⟩ := idx_get hi
            have hk' : k < 32 := by simpa [tab10] using hk
            have H := hid (out10_hit hk' (of_decide_eq_true hf) h5)
            have HI := hid hI
            clear h5 hf hI hi hk
            have hmod : (128 + (k : Int)) % 256 = (k : Int) + 128 := by omega
            have hk0 : (0 : Int) ≤ k := by omega
            go_enter Tryz.func126, Tryz.ntmps126
            go_wp2_with (first
              | (go_at_call 138; (with_reducible refine (winone_isOther _ _).mono ?_); rintro e w1 ⟨rfl, rfl⟩)
              | (go_at_call 140; (with_reducible refine (winone_others _).mono ?_); rintro e w2 ⟨b2, rfl, hR2, hb2⟩)
              | (go_at_call 139; (with_reducible refine (sl_IndexI _ _ _ _ _ _ _ hR2 HI.out).mono ?_); rintro e w3 ⟨rfl, rfl⟩))
            go_ret2
            exact ⟨ret_ib (by have := H.out.1; omega) H.out.2.symm, hb2⟩
          · have hI := idx_low hi
            have H := hid (out10_miss (by omega) hI)
            have HI := hid hI
            clear h5 hI hi
            go_enter Tryz.func126, Tryz.ntmps126
            go_wp2_with (first
              | (go_at_call 138; (with_reducible refine (winone_isOther _ _).mono ?_); rintro e w1 ⟨rfl, rfl⟩)
              | (go_at_call 140; (with_reducible refine (winone_others _).mono ?_); rintro e w2 ⟨b2, rfl, hR2, hb2⟩)
              | (go_at_call 139; (with_reducible refine (sl_IndexI _ _ _ _ _ _ _ hR2 HI.out).mono ?_); rintro e w3 ⟨rfl, rfl⟩))
            go_ret2
            exact ⟨ret_ib H.out.1.symm H.out.2.symm, hb2⟩

theorem winone_Has (c : Int) (w : World) :
    Calls Tryz.prog 122 #[.int .i32 c] w fun e w' => e = .returned (.bool (hasI sg10 c)) ∧ Below w.heap.size w w' := by
  go_enter Tryz.func122, Tryz.ntmps122
  go_wp2_with (go_at_call 126; (with_reducible refine (winone_Put _ _).mono ?_); rintro e w1 ⟨rfl, hb1⟩)
  go_ret
  exact ⟨rfl, hb1⟩
end Go.Proofs.YtdglnpkkfkagaaaGreat

/-! C12 -/
namespace Go.Proofs.YtdglnpkkfkagaaaGreat
open Go.RowKit
set_option linter.unusedVariables false

/-- How many of the octets below k have a sign. -/
def cntS (sg : Int → Int) : Nat → Nat
  | 0 => 0
  | k + 1 => cntS sg k + if sg (k : Int) = 65533 then 0 else 1
set_option maxRecDepth 100000 in
theorem cnt_08 : cntS sg08 256 = 256 := by decide +kernel
set_option maxRecDepth 100000 in
theorem cnt_09 : cntS sg09 256 = 256 := by decide +kernel
set_option maxRecDepth 100000 in
theorem cnt_10 : cntS sg10 256 = 251 := by decide +kernel
/-- Counted from 0 on, where no charset has the number 0. -/
theorem all_0 (xs : List Int) : allR 0 xs = false := rfl
theorem all_1 {k : Nat} (h : k < 5) (xs : List Int) : allR ((k : Int) + 1) xs = xs.all (hasR ((k : Int) + 1)) := by
  unfold allR; rw [decide_eq_true (p := 1 ≤ (k : Int) + 1 ∧ (k : Int) + 1 ≤ 5) (by omega)]; rfl
theorem sel_hit0 {xs : List Int} {k : Nat} (hk : k < 6) (hb : allR (k : Int) xs = true) (hn : ∀ j : Nat, j < k → allR (j : Int) xs = false) : selN xs = (k : Int) ∧ selE xs = 0 := by
  cases k with
  | zero => cases hb
  | succ k =>
    rw [Int.natCast_succ] at hb ⊢
    refine sel_hit (by omega) (by rw [← all_1 (by omega)]; exact hb) fun j hj => ?_
    rw [← all_1 (by omega)]
    have := hn (j + 1) (by omega)
    rwa [Int.natCast_succ] at this
theorem sel_no0 {xs : List Int} (hn : ∀ j : Nat, j < 6 → allR (j : Int) xs = false) : selN xs = 0 ∧ selE xs = 7 := by
  refine sel_no fun j hj => ?_
  rw [← all_1 hj]
  have := hn (j + 1) (by omega)
  rwa [Int.natCast_succ] at this
theorem first_sel (c : Int) : selN [c] = first1 (fun n => hasR n c) 5 := by unfold selN; simp
theorem hasR_0 (c : Int) : hasR 0 c = false := hasR_none (by omega) c
theorem set_up (c : Int) (k : Nat) : setN c k = setN c (k - 1) + if hasR (k : Int) c = true then 2 ^ k else 0 := by
  cases k with
  | zero => rw [if_neg (by rw [show ((0 : Nat) : Int) = 0 from rfl, hasR_0]; simp)]; rfl
  | succ k => rfl
theorem set_lt (c : Int) (k : Nat) : 0 ≤ setN c (k - 1) ∧ setN c (k - 1) < 2 ^ k := by
  cases k with
  | zero => exact ⟨Int.le_refl _, (by decide : (0 : Int) < 2 ^ 0)⟩
  | succ k =>
    rw [Nat.add_sub_cancel]
    induction k with
    | zero => exact ⟨Int.le_refl _, (by decide : (0 : Int) < 2 ^ 1)⟩
    | succ k ih =>
      unfold setN
      have e : (2 : Int) ^ (k + 1 + 1) = 2 * 2 ^ (k + 1) := by rw [Int.pow_succ]; omega
      have p : (0 : Int) < 2 ^ (k + 1) := Int.pow_pos (by decide)
      split <;> omega
/-- A bit that lies above is put in. -/
theorem or_up (j : Nat) (a b : Int) (h0 : 0 ≤ a) (ha : a < 2 ^ j) (h1 : 0 ≤ b) (hb : b % 2 ^ j = 0) (h3 : a + b ≤ 9223372036854775807) : bits .or .i64 a b = a + b := by
  have h := or_i64 j b a h1 hb h0 ha (by omega)
  rw [Int.add_comm, ← h]
  show IntKind.i64.wrap ((BitVec.ofInt 64 a ||| BitVec.ofInt 64 b).toNat : Int) = IntKind.i64.wrap ((BitVec.ofInt 64 b ||| BitVec.ofInt 64 a).toNat : Int)
  rw [BitVec.or_comm]

theorem reper_isCharset (n : Int) (w : World) (b : Bool) (hb : decide (1 ≤ n ∧ n ≤ 5) = b) :
    Calls Tryz.prog 77 #[.int .i64 n] w fun e w' => e = .returned (.bool b) ∧ w = w' := by
  by_cases h1 : 1 ≤ n
  · have c1 : decide (1 ≤ n) = true := decide_eq_true h1
    have e : Hid (decide (n < 6) = b) := by
      unfold Hid
      rw [← hb]
      by_cases h5 : n < 6
      · rw [decide_eq_true h5, decide_eq_true ⟨h1, by omega⟩]
      · rw [decide_eq_false h5, decide_eq_false (by omega)]
    clear hb
    cases b with
    | true =>
      have c2 : n < 6 := of_decide_eq_true e.out
      go_enter Tryz.func77, Tryz.ntmps77
      go_wp2
      go_ret
      exact ⟨rfl, rfl⟩
    | false =>
      have c2 : ¬ n < 6 := of_decide_eq_false e.out
      have c3 : decide (n < 6) = false := e.out
      go_enter Tryz.func77, Tryz.ntmps77
      go_wp2
      go_ret
      exact ⟨rfl, rfl⟩
  · have c1 : decide (1 ≤ n) = false := decide_eq_false h1
    have e : Hid (b = false) := by unfold Hid; rw [← hb]; exact decide_eq_false (by omega)
    obtain rfl : b = false := e.out
    clear hb
    go_enter Tryz.func77, Tryz.ntmps77
    go_wp2
    go_ret
    exact ⟨rfl, rfl⟩
set_option maxHeartbeats 1000000 in
theorem reper_Has (n c : Int) (w : World) :
    Calls Tryz.prog 104 #[.int .i64 n, .int .i32 c] w fun e w' => e = .returned (.bool (hasR n c)) ∧ Below w.heap.size w w' := by
  by_cases h1 : n = 1
  · subst h1
    have e : Hid (hasR 1 c = decide (0 ≤ c ∧ c < 128)) := by unfold Hid hasR; rw [if_pos rfl]
    by_cases c0 : 0 ≤ c
    · by_cases c1 : c < 128
      · go_enter Tryz.func104, Tryz.ntmps104
        go_wp2
        go_ret
        exact ⟨ret_bool (by rw [e.out]; simp [c0, c1]), Below.refl _ _⟩
      · go_enter Tryz.func104, Tryz.ntmps104
        go_wp2
        go_ret
        exact ⟨ret_bool (by rw [e.out]; exact (decide_eq_false (by omega)).symm), Below.refl _ _⟩
    · go_enter Tryz.func104, Tryz.ntmps104
      go_wp2
      go_ret
      exact ⟨ret_bool (by rw [e.out]; exact (decide_eq_false (by omega)).symm), Below.refl _ _⟩
  by_cases h2 : n = 2
  · subst h2
    have e : Hid (hasR 2 c = hasI sg08 c) := rfl
    go_enter Tryz.func104, Tryz.ntmps104
    go_wp2_with (go_at_call 120; (with_reducible refine (latin_Has _ _).mono ?_); rintro e w' ⟨rfl, rfl⟩)
    go_ret
    exact ⟨ret_bool e.out.symm, Below.refl _ _⟩
  by_cases h3 : n = 3
  · subst h3
    have e : Hid (hasR 3 c = hasI sg09 c) := rfl
    go_enter Tryz.func104, Tryz.ntmps104
    go_wp2_with (go_at_call 121; (with_reducible refine (latnine_Has _ _).mono ?_); rintro e w1 ⟨rfl, hb1⟩)
    go_ret
    exact ⟨ret_bool e.out.symm, hb1⟩
  by_cases h4 : n = 4
  · subst h4
    have e : Hid (hasR 4 c = hasI sg10 c) := rfl
    go_enter Tryz.func104, Tryz.ntmps104
    go_wp2_with (go_at_call 122; (with_reducible refine (winone_Has _ _).mono ?_); rintro e w1 ⟨rfl, hb1⟩)
    go_ret
    exact ⟨ret_bool e.out.symm, hb1⟩
  by_cases h5 : n = 5
  · subst h5
    have e : Hid (hasR 5 c = scB c) := rfl
    go_enter Tryz.func104, Tryz.ntmps104
    go_wp2_with (go_at_call 123; (with_reducible refine (scalar_Is _ _).mono ?_); rintro e w' ⟨rfl, rfl⟩)
    go_ret
    exact ⟨ret_bool e.out.symm, Below.refl _ _⟩
  have e := hid (hasR_none (n := n) (by omega) c)
  have b1 : (n == 1) = false := by simpa using h1
  have b2 : (n == 2) = false := by simpa using h2
  have b3 : (n == 3) = false := by simpa using h3
  have b4 : (n == 4) = false := by simpa using h4
  have b5 : (n == 5) = false := by simpa using h5
  clear h1 h2 h3 h4 h5
  go_enter Tryz.func104, Tryz.ntmps104
  go_wp2
  go_ret
  exact ⟨ret_bool e.out.symm, Below.refl _ _⟩
set_option maxHeartbeats 1000000 in
theorem reper_Lacks (n : Int) (a : Option Addr) (len cap : Nat) (xs : List Int) (w : World) (hr : Reads .i32 w a len cap xs) :
    Calls Tryz.prog 78 #[.int .i64 n, .slice a len cap] w fun e w' => e = .returned (.int .i64 (lackR n xs)) ∧ Below w.heap.size w w' := by
  have hl := hr.len_le
  have HR := hid hr
  clear hr
  go_enter Tryz.func78, Tryz.ntmps78
  go_wp2
  go_loopw [9] (fun i wr => ∃ k : Nat, k ≤ len ∧ i = .int .i64 k ∧ Hid ((xs.take k).any (fun c => !hasR n c) = false) ∧ Below w.heap.size w wr) (fun i _ => len - (intOf i).toNat)
  case atStart => exact ⟨0, Nat.zero_le _, rfl, rfl, Below.refl _ _⟩
  case round =>
    obtain ⟨k, hk, rfl, hn, hB⟩ := hrel
    by_cases hlt : k < len
    · obtain ⟨b, off, x, rfl, _, hc, h0, h1, hx⟩ := (HR.out.below hB).getR hlt
      cases hs : hasR n x
      · have H := hid hs
        go_wp2_with (go_at_call 104; (with_reducible refine (reper_Has _ _ _).mono ?_); rintro e w1 ⟨rfl, hb1⟩; have hB1 := below_then' hB hb1 (Nat.le_refl _))
        go_ret
        exact ⟨ret_int (idx_hit hx.out.1 hn.out (by simp [H.out])).symm, hB1⟩
      · have H := hid hs
        go_wp2_with (go_at_call 104; (with_reducible refine (reper_Has _ _ _).mono ?_); rintro e w1 ⟨rfl, hb1⟩; have hB1 := below_then' hB hb1 (Nat.le_refl _))
        go_roundw
        case rel => exact ⟨k + 1, by omega, by go_num, none_yes hx.out.2 hn.out (by simp [H.out]), hB1⟩
        case measure => simp [intOf]; omega
    · go_wp2
      go_ret
      exact ⟨ret_int (by unfold lackR; rw [← HR.out.all (show len ≤ k by omega)]; exact (idx_none hn.out).symm), hB⟩
theorem reper_All (n : Int) (a : Option Addr) (len cap : Nat) (xs : List Int) (w : World) (hr : Reads .i32 w a len cap xs) :
    Calls Tryz.prog 49 #[.int .i64 n, .slice a len cap] w fun e w' => e = .returned (.bool (allR n xs)) ∧ Below w.heap.size w w' := by
  have HR := hid hr
  clear hr
  have hA : decide (lackR n xs < 0) = xs.all (hasR n) := by unfold lackR; rw [idx_neg]; simp
  cases hc : decide (1 ≤ n ∧ n ≤ 5)
  · have e : Hid (allR n xs = false) := by unfold Hid allR; rw [hc]; rfl
    have hq := reper_isCharset n w false hc
    clear hA hc
    go_enter Tryz.func49, Tryz.ntmps49
    go_wp2_with (go_at_call 77; (with_reducible refine hq.mono ?_); rintro e w1 ⟨rfl, rfl⟩)
    go_ret
    exact ⟨ret_bool (by rw [e.out]), Below.refl _ _⟩
  · have e : Hid (allR n xs = decide (lackR n xs < 0)) := by unfold Hid allR; rw [hc, hA]; rfl
    have hq := reper_isCharset n w true hc
    clear hA hc
    go_enter Tryz.func49, Tryz.ntmps49
    go_wp2_with (first
      | (go_at_call 77; (with_reducible refine hq.mono ?_); rintro e w1 ⟨rfl, rfl⟩)
      | (go_at_call 78; (with_reducible refine (reper_Lacks _ _ _ _ _ _ HR.out).mono ?_); rintro e w1 ⟨rfl, hb1⟩))
    all_goals
      go_ret
      exact ⟨ret_bool (by rw [e.out]; try simp [*]), hb1⟩
set_option maxHeartbeats 1000000 in
theorem reper_Select (a : Option Addr) (len cap : Nat) (xs : List Int) (w : World) (hr : Reads .i32 w a len cap xs) :
    Calls Tryz.prog 26 #[.slice a len cap] w fun e w' => e = .returned (.tuple #[.int .i64 (selN xs), .int .i64 (selE xs)]) ∧ Below w.heap.size w w' := by
  have HR := hid hr
  clear hr
  go_enter Tryz.func26, Tryz.ntmps26
  go_wp2
  go_loopw [5] (fun i wr => ∃ k : Nat, k ≤ 6 ∧ i = .int .i64 k ∧ Hid (∀ j : Nat, j < k → allR (j : Int) xs = false) ∧ Below w.heap.size w wr) (fun i _ => 6 - (intOf i).toNat)
  case atStart => exact ⟨0, Nat.zero_le _, rfl, fun j hj => by omega, Below.refl _ _⟩
  case round =>
    obtain ⟨k, hk, rfl, hn, hB⟩ := hrel
    by_cases hlt : k < 6
    · have R1 := HR.out.below hB
      cases hs : allR (k : Int) xs
      · have H := hid hs
        go_wp2_with (go_at_call 49; (with_reducible refine (reper_All _ _ _ _ _ _ R1).mono ?_); rintro e w1 ⟨rfl, hb1⟩; have hB1 := below_then' hB hb1 (Nat.le_refl _))
        go_roundw
        case rel =>
          refine ⟨k + 1, by omega, by go_num, fun i hi => ?_, hB1⟩
          by_cases hik : i < k
          · exact hn.out i hik
          · obtain rfl : i = k := by omega
            exact H.out
        case measure => simp [intOf]; omega
      · have H := hid (sel_hit0 hlt hs hn.out)
        go_wp2_with (go_at_call 49; (with_reducible refine (reper_All _ _ _ _ _ _ R1).mono ?_); rintro e w1 ⟨rfl, hb1⟩; have hB1 := below_then' hB hb1 (Nat.le_refl _))
        go_ret2
        exact ⟨ret_ii H.out.1.symm H.out.2.symm, hB1⟩
    · have hk6 : k = 6 := by omega
      subst hk6
      have H := hid (sel_no0 hn.out)
      go_wp2
      go_ret2
      exact ⟨ret_ii H.out.1.symm H.out.2.symm, hB⟩
end Go.Proofs.YtdglnpkkfkagaaaGreat
