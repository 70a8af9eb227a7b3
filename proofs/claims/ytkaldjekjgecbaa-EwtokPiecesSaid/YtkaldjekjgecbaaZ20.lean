/-
  Texts of ours laid together: C29i, C32a.
-/
import Derived.Test.YtkaldjekjgecbaaZ19

/-! C29i -/
namespace Go.Proofs.Ytkaldjekjgecbaa
open Go.RowKit
set_option linter.unusedVariables false

theorem ewform_Is (a : Option Addr) (len cap : Nat) (xs : List Int) (w : World) (hr : Reads .u8 w a len cap xs) (hN : len < 100000) :
    Calls Try.prog 24 #[.slice a len cap] w fun e w' => e = .returned (.bool (decide (ewE xs = 0))) ∧ Below w.heap.size w w' := by
  have HP := hid (ewform_Parse a len cap xs w hr hN)
  clear hr
  generalize ewN xs = N at *
  generalize ewT xs = T at *
  generalize ewK xs = K at *
  generalize ewE xs = E at *
  go_enter Try.func24, Try.ntmps24
  go_wp2_with (go_at_call 29; (with_reducible refine HP.out.mono ?_); rintro e w1 ⟨a1, l1, c1, a2, l2, c2, rfl, r1, r2, hb1⟩; have hw := hb1.alloc hb1.size (.cells #[.slice a1 l1 c1, .int .i64 K, .slice a2 l2 c2] 48))
  go_ret
  exact ⟨ret_bool (by first | rfl | simp), hw⟩
end Go.Proofs.Ytkaldjekjgecbaa

/-! C32a -/
namespace Go.Proofs.Ytkaldjekjgecbaa
open Go.RowKit
set_option linter.unusedVariables false

theorem ewtok_isSpace (c : Int) (w : World) : Calls Try.prog 26 #[.int .u8 c] w fun e w' => e = .returned (.bool (gp c)) ∧ w = w' := by
  unfold gp
  by_cases h1 : c = 32
  · subst h1
    go_enter Try.func26, Try.ntmps26
    go_wp2_with fail
    go_ret
    exact ⟨rfl, rfl⟩
  · by_cases h2 : c = 9
    · subst h2
      go_enter Try.func26, Try.ntmps26
      go_wp2_with fail
      go_ret
      exact ⟨rfl, rfl⟩
    · by_cases h3 : c = 13
      · subst h3
        go_enter Try.func26, Try.ntmps26
        go_wp2_with fail
        go_ret
        exact ⟨rfl, rfl⟩
      · have e1 : (c == 32) = false := by simpa using h1
        have e2 : (c == 9) = false := by simpa using h2
        have e3 : (c == 13) = false := by simpa using h3
        have e4 : Hid ((c == 10) = decide (c = 32 ∨ c = 9 ∨ c = 13 ∨ c = 10)) := by rw [Hid, Bool.eq_iff_iff]; simp [h1, h2, h3]
        clear h1 h2 h3
        go_enter Try.func26, Try.ntmps26
        go_wp2_with fail
        go_ret
        exact ⟨ret_bool e4.out, rfl⟩
theorem space_draws (c : Int) (g : Bool) (hg : gp c = g) (w : World) (q : Nat) : Calls Try.prog 26 #[.int .u8 c] (w.drewN q) fun e w' => e = .returned (.bool g) ∧ ∃ m, w' = (w.drewN q).drewN m := by
  subst hg
  refine (ewtok_isSpace c (w.drewN q)).mono ?_
  rintro e w' ⟨rfl, rfl⟩
  exact ⟨rfl, 0, rfl⟩
theorem ewtok_isOther (c : Int) (w : World) : Calls Try.prog 23 #[.int .u8 c] w fun e w' => e = .returned (.bool (noG c)) ∧ w = w' := by
  have H := hid (ewtok_isSpace c w)
  unfold noG
  generalize gp c = g at *
  cases g
  all_goals
    go_enter Try.func23, Try.ntmps23
    go_wp2_with (go_at_call 26; (with_reducible refine H.out.mono ?_); rintro e w' ⟨rfl, rfl⟩)
    go_ret
    exact ⟨rfl, rfl⟩
set_option maxHeartbeats 1000000 in
theorem idx_noG (a : Option Addr) (len cap : Nat) (xs : List Int) (w : World) (hr : Reads .u8 w a len cap xs) :
    Calls Try.prog 27 #[.slice a len cap, .func (.func 23) #[] #[]] w fun e w' => e = .returned (.int .i64 (idxI noG xs)) ∧ w = w' := by
  have hl := hr.len_le
  have HR := hid hr
  clear hr
  go_enter Try.func27, Try.ntmps27
  go_wp2
  go_loop [8] (fun i => ∃ k : Nat, k ≤ len ∧ i = .int .i64 k ∧ Hid ((xs.take k).any noG = false)) (fun i => len - (intOf i).toNat)
  case atStart => exact ⟨0, Nat.zero_le _, rfl, rfl⟩
  case round =>
    obtain ⟨k, hk, rfl, hn⟩ := hrel
    by_cases hlt : k < len
    · obtain ⟨b, off, x, rfl, _, hc, h0, h1, hx⟩ := HR.out.get8 hlt
      cases hs : noG x
      · have H := hid hs
        go_wp2_with (go_at_call 23; (with_reducible refine (ewtok_isOther _ _).mono ?_); rintro e w' ⟨rfl, rfl⟩; rw [hs])
        go_round
        case rel => exact ⟨k + 1, by omega, by go_num, none_yes hx.out.2 hn.out H.out⟩
        case measure => simp [intOf]; omega
      · have H := hid hs
        go_wp2_with (go_at_call 23; (with_reducible refine (ewtok_isOther _ _).mono ?_); rintro e w' ⟨rfl, rfl⟩; rw [hs])
        go_ret
        exact ⟨ret_int (idx_hit hx.out.1 hn.out H.out).symm, rfl⟩
    · go_wp2
      go_ret
      exact ⟨ret_int (by rw [← HR.out.all (show len ≤ k by omega)]; exact (idx_none hn.out).symm), rfl⟩
theorem has_noG (a : Option Addr) (len cap : Nat) (xs : List Int) (w : World) (hr : Reads .u8 w a len cap xs) :
    Calls Try.prog 22 #[.slice a len cap, .func (.func 23) #[] #[]] w fun e w' => e = .returned (.bool (xs.any noG)) ∧ w = w' := by
  have hip := idx_pos noG xs
  have HI := hid (idx_noG a len cap xs w hr)
  generalize idxI noG xs = I at *
  have HP := hid hip
  clear hip hr
  go_enter Try.func22, Try.ntmps22
  go_wp2_with (go_at_call 27; (with_reducible refine HI.out.mono ?_); rintro e w' ⟨rfl, rfl⟩)
  go_ret
  exact ⟨ret_bool HP.out, rfl⟩
set_option maxHeartbeats 1000000 in
theorem ewtok_oneLen1 (c : Int) (g : Bool) (B : Nat) (w : World) (hB : w.cell? ⟨B, 0, none⟩ = some (.bool g)) :
    Calls Try.prog 28 #[.int .u8 c, .pointer (some ⟨B, 0, none⟩)] w fun e w' => e = .returned (.bool (otK g c)) ∧ ∃ n, w' = w.drewN n := by
  obtain ⟨z, hz⟩ : ∃ z, gp c = z := ⟨_, rfl⟩
  have K1 := hid (fun n => space_draws c z hz w n)
  unfold otK
  rw [hz]
  clear hz
  go_enter Try.func28, Try.ntmps28
  cases z <;> cases g
  all_goals
    go_wp2_with fail
    go_quiet ((go_at_call 26; with_reducible exact Calls.quiet_of (K1.out _)))
    go_wp2_with fail
    go_ret
    exact ⟨rfl, _, rfl⟩
set_option maxHeartbeats 1000000 in
theorem idx_turn (g : Bool) (B : Nat) (a : Option Addr) (len cap : Nat) (xs : List Int) (w : World) (hr : Reads .u8 w a len cap xs) (hB : w.cell? ⟨B, 0, none⟩ = some (.bool g)) :
    Calls Try.prog 27 #[.slice a len cap, .func (.func 28) #[] #[.pointer (some ⟨B, 0, none⟩)]] w fun e w' => e = .returned (.int .i64 (idxI (otK g) xs)) ∧ ∃ n, w' = w.drewN n := by
  have hl := hr.len_le
  have HR := hid hr
  have HO := hid (fun c m => ewtok_oneLen1 c g B (w.drewN m) hB)
  clear hr hB
  go_enter Try.func27, Try.ntmps27
  go_wp2
  go_loopw [8] (fun i wr => ∃ k m : Nat, k ≤ len ∧ i = .int .i64 k ∧ Hid ((xs.take k).any (otK g) = false) ∧ Hid (wr = w.drewN m)) (fun i _ => len - (intOf i).toNat)
  case atStart => exact ⟨0, 0, Nat.zero_le _, rfl, rfl, rfl⟩
  case round =>
    obtain ⟨k, m, hk, rfl, hn, hW⟩ := hrel
    have hb : Below w.heap.size w wr := by rw [hW.out]; exact Below.drewN (Below.refl _ _) m
    have hnx := hid (fun q => show wr.drewN q = w.drewN (m + q) by rw [hW.out, World.drewN_drewN])
    by_cases hlt : k < len
    · obtain ⟨b, off, x, rfl, _, hc, h0, h1, hx⟩ := (HR.out.below hb).get8 hlt
      have HX : Hid (Calls Try.prog 28 #[.int .u8 x, .pointer (some ⟨B, 0, none⟩)] wr fun e w' => e = .returned (.bool (otK g x)) ∧ ∃ n, w' = wr.drewN n) := by
        rw [hW.out]; exact HO.out x m
      clear hW hb
      cases hs : otK g x
      · have H := hid hs
        go_wp2_with (go_at_call 28; (with_reducible refine HX.out.mono ?_); rintro e w' ⟨rfl, q, rfl⟩; rw [hs])
        go_roundw
        case rel => exact ⟨k + 1, m + q, by omega, by go_num, none_yes hx.out.2 hn.out H.out, hnx.out q⟩
        case measure => simp [intOf]; omega
      · have H := hid hs
        go_wp2_with (go_at_call 28; (with_reducible refine HX.out.mono ?_); rintro e w' ⟨rfl, q, rfl⟩; rw [hs])
        go_ret
        exact ⟨ret_int (idx_hit hx.out.1 hn.out H.out).symm, _, hnx.out q⟩
    · have HE : Hid (∃ n, wr = w.drewN n) := ⟨m, hW.out⟩
      clear hb hnx hW
      go_wp2
      go_ret
      exact ⟨ret_int (by rw [← HR.out.all (show len ≤ k by omega)]; exact (idx_none hn.out).symm), HE.out⟩
set_option maxHeartbeats 1000000 in
theorem ewtok_oneLen (a : Option Addr) (len cap : Nat) (xs : List Int) (w : World) (hr : Reads .u8 w a len cap xs) (hl : 0 < len) :
    Calls Try.prog 20 #[.slice a len cap] w fun e w' => e = .returned (.int .i64 (turnN xs)) ∧ Below w.heap.size w w' := by
  have HR := hid hr
  have hsz := hr.size
  obtain ⟨b, off, x, rfl, hbw, hc, h0, h1, hx⟩ := hr.get8 hl
  have hti := turn_idx hx.out.1
  have HS0 := ewtok_isSpace x w
  rw [Nat.add_zero] at hc
  generalize gp x = g at *
  have HS := hid HS0
  have HI := hid (idx_turn g w.heap.size _ len cap xs (w.alloc (.cells #[.bool g] 4)) (HR.out.below ((Below.refl _ _).alloc (Nat.le_refl _) _)) ((Blk.new w 4 #[.bool g]).cell (i := 0) rfl))
  have HAL := hid ((Below.refl w.heap.size w).alloc (Nat.le_refl _) (.cells #[.bool g] 4))
  rw [hsz] at hti
  have z1 : (0 : Int) < (len : Int) := by omega
  clear hr hx HS0 hsz
  rcases hti with ⟨hI, hT⟩ | ⟨hI0, hI⟩
  · rw [hI] at HI
    rw [hT]
    clear hI hT
    go_enter Try.func20, Try.ntmps20
    go_wp2_with (first
      | (go_at_call 26; (with_reducible refine HS.out.mono ?_); rintro e w' ⟨rfl, rfl⟩)
      | (go_at_call 27; (with_reducible refine HI.out.mono ?_); rintro e w' ⟨rfl, q, rfl⟩))
    go_ret
    exact ⟨rfl, Below.drewN HAL.out _⟩
  · rw [hI] at HI hI0
    generalize turnN xs = T at *
    clear hI
    have z2 : ¬ (T : Int) < 0 := by omega
    go_enter Try.func20, Try.ntmps20
    go_wp2_with (first
      | (go_at_call 26; (with_reducible refine HS.out.mono ?_); rintro e w' ⟨rfl, rfl⟩)
      | (go_at_call 27; (with_reducible refine HI.out.mono ?_); rintro e w' ⟨rfl, q, rfl⟩))
    go_ret
    exact ⟨rfl, Below.drewN HAL.out _⟩
set_option maxHeartbeats 1000000 in
theorem ewtok_Kind (a : Option Addr) (len cap : Nat) (xs : List Int) (w : World) (hr : Reads .u8 w a len cap xs) (hN : len < 100000) :
    Calls Try.prog 12 #[.slice a len cap] w fun e w' => e = .returned (.int .i64 (kdW xs)) ∧ Below w.heap.size w w' := by
  by_cases h0 : len = 0
  · subst h0
    obtain rfl : xs = [] := List.eq_nil_of_length_eq_zero hr.size
    rw [kd_nil]
    clear hr
    go_enter Try.func12, Try.ntmps12
    go_wp2_with fail
    go_ret
    exact ⟨rfl, Below.refl _ _⟩
  · have hne : xs ≠ [] := fun h => h0 (by rw [← hr.size, h]; rfl)
    rw [kd_cases hne]
    have H1 := has_noG a len cap xs w hr
    have H2 := ewform_Is a len cap xs w hr hN
    have z0 : ((len : Int) == 0) = false := by simp; omega
    clear hr hne h0
    generalize ewE xs = E at *
    cases hn : xs.any noG
    · rw [hn] at H1
      have K1 := hid H1
      clear H1 H2 hn
      go_enter Try.func12, Try.ntmps12
      go_wp2_with (go_at_call 22; (with_reducible refine K1.out.mono ?_); rintro e w' ⟨rfl, rfl⟩)
      go_ret
      exact ⟨rfl, Below.refl _ _⟩
    · rw [hn] at H1
      have K1 := hid H1
      rw [if_pos rfl]
      by_cases hE : E = 0
      · rw [decide_eq_true hE] at H2
        rw [if_pos hE]
        have K2 := hid H2
        clear H1 H2 hn hE
        go_enter Try.func12, Try.ntmps12
        go_wp2_with (first
          | (go_at_call 22; (with_reducible refine K1.out.mono ?_); rintro e w' ⟨rfl, rfl⟩)
          | (go_at_call 24; (with_reducible refine K2.out.mono ?_); rintro e w2 ⟨rfl, hb2⟩))
        go_ret
        exact ⟨rfl, hb2⟩
      · rw [decide_eq_false hE] at H2
        rw [if_neg hE]
        have K2 := hid H2
        clear H1 H2 hn hE
        go_enter Try.func12, Try.ntmps12
        go_wp2_with (first
          | (go_at_call 22; (with_reducible refine K1.out.mono ?_); rintro e w' ⟨rfl, rfl⟩)
          | (go_at_call 24; (with_reducible refine K2.out.mono ?_); rintro e w2 ⟨rfl, hb2⟩))
        go_ret
        exact ⟨rfl, hb2⟩
end Go.Proofs.Ytkaldjekjgecbaa
