/-
  The law package's own 'same' and 'alive' of layer 26.
-/
import Derived.Test.YtbhmhpcabppgmaaC26
import Derived.Test.YtbhmhpcabppgmaaR01
namespace Go.Proofs.Ytbhmhpcabppgmaa
open Go.RowKit
set_option linter.unusedVariables false

theorem Rws.draws {W : World} {a : Option Addr} {n c : Nat} {xss : List (List Int)} (h : Rws W a n c xss) (m : Nat) : Rws (W.drewN m) a n c xss := h.below (Below.drewN (Below.refl _ _) m)
set_option maxHeartbeats 2000000 in
theorem same26 (a : Option Addr) (n c : Nat) (a2 : Option Addr) (n2 c2 : Nat) (xss : List (List Int)) (w : World) (hr : Rws w a n c xss) (hr2 : Rws w a2 n2 c2 xss) :
    Calls Try.prog 7 #[.slice a n c, .slice a2 n2 c2] w fun e w' => e = .returned (.bool true) ∧ ∃ m, w' = w.drewN m := by
  obtain rfl : n = n2 := hr.size.symm.trans hr2.size
  have hrm := hr.room
  have htp := hr.top
  simp only [maxLen] at htp
  have HR := hid hr
  have HR2 := hid hr2
  clear hr hr2
  go_enter Try.func7, Try.ntmps7
  go_wp2_with fail
  go_loopw [13] (fun i wr => ∃ (k m : Nat), k ≤ n ∧ i = .int .i64 k ∧ wr = w.drewN m) (fun i _ => n - (intOf i).toNat)
  case atStart => exact ⟨0, 0, Nat.zero_le _, rfl, rfl⟩
  case round =>
    obtain ⟨k, m, hk, rfl, hwr⟩ := hrel
    have HW := hid hwr
    have hb : Below w.heap.size w wr := by rw [hwr]; exact Below.drewN (Below.refl _ _) m
    clear hwr
    by_cases hlt : k < n
    · obtain ⟨b, off, x, ai, li, ci, rfl, hbw, hc, hx, hg, _⟩ := (HR.out.below hb).get hlt
      obtain ⟨b2, off2, x2, ai2, li2, ci2, rfl, hbw2, hc2, hx2, hg2, _⟩ := (HR2.out.below hb).get hlt
      have hxx : x2 = x := by rw [hg] at hg2; exact (Option.some.inj hg2).symm
      subst hxx
      have HK := hid (fun q => by
        have := like_r ai li ci _ ai2 li2 ci2 _ (wr.drewN q) (hx.below (Below.drewN (Below.refl _ _) q)) (hx2.below (Below.drewN (Below.refl _ _) q))
        rwa [decide_eq_true rfl] at this)
      clear hx hx2 hg hg2
      go_wp2_with fail
      go_quiet ((go_at_call 14; exact Calls.quiet_of (HK.out _)))
      go_wp2_with fail
      go_roundw
      case rel => exact ⟨k + 1, m + nq, by omega, by go_num, by rw [HW.out]; simp⟩
      case measure => simp [intOf]; omega
    · go_wp2_with fail
      go_ret
      exact ⟨rfl, m, HW.out⟩

theorem v26_a : linL [97, 13, 10, 98, 99] = [[97], [98, 99]] := by decide +kernel
theorem v26_e : linE [97, 13, 10, 98, 99] = false := by decide +kernel
theorem v26_l : lngF (linL [97, 13, 10, 98, 99]) = 2 := by decide +kernel
theorem v26_b : barC 0 [13, 10, 10] = 1 := by decide +kernel
theorem v26_s : sevE [0] 9 = 8 := by decide +kernel
theorem v26_f : fitB [97, 13, 10, 98, 99] 3 4 = true := by decide +kernel
theorem str26 : strB [98, 99] = { data := #[98, 99] } := by rfl
theorem al26_s (w : World) (hm : Mx w) (B : Nat) (hB : w.heap.size = B) : Calls Try.prog 8 #[.slice (some ⟨B, 0, none⟩) 5 5] (w.alloc (.cells #[.int .u8 97, .int .u8 13, .int .u8 10, .int .u8 98, .int .u8 99] 5 (5, 6))) fun e w' => ∃ b off c ai ci, e = .returned (.slice (some ⟨b, off, none⟩) 2 c) ∧ w'.cell? ⟨b, off + 1, none⟩ = some (.slice ai 2 ci) ∧ Reads .u8 w' ai 2 ci [98, 99] ∧ Reads .u8 w' (some ⟨B, 0, none⟩) 5 5 [97, 13, 10, 98, 99] ∧ Below w.heap.size w w' := by
  have rs := Reads_litB .u8 5 (5, 6) w B hB [97, 13, 10, 98, 99] (by decide) (by decide)
  have h2 := lines_Split _ 5 5 [97, 13, 10, 98, 99] _ rs (by decide) (hm.below ((Below.refl _ _).alloc (Nat.le_refl _) _))
  rw [v26_a] at h2
  refine h2.mono ?_
  rintro e w' ⟨a, n, c, rfl, hr, hb⟩
  obtain rfl : 2 = n := hr.size
  obtain ⟨b, off, x, ai, li, ci, rfl, _, hc, hx, hg, _⟩ := hr.get (i := 1) (by decide)
  cases hg
  obtain rfl : 2 = li := hx.size
  exact ⟨b, off, c, ai, ci, rfl, hc, hx, rs.below hb, ((Below.refl _ _).alloc (Nat.le_refl _) _).trans (hb.mono (by simp))⟩
theorem al26_b (w : World) (hm : Mx w) (B : Nat) (hB : w.heap.size = B) : Calls Try.prog 12 #[.slice (some ⟨B, 0, none⟩) 3 3] (w.alloc (.cells #[.int .u8 13, .int .u8 10, .int .u8 10] 5 (3, 4))) fun e w' => e = .returned (.int .i64 1) ∧ Below w.heap.size w w' := by
  have h2 := lines_Bare _ 3 3 [13, 10, 10] _ (Reads_litB .u8 5 (3, 4) w B hB [13, 10, 10] (by decide) (by decide)) (by decide) (hm.below ((Below.refl _ _).alloc (Nat.le_refl _) _))
  rw [v26_b] at h2
  refine h2.mono ?_
  rintro e w' ⟨rfl, hb⟩
  exact ⟨rfl, ((Below.refl _ _).alloc (Nat.le_refl _) _).trans (hb.mono (by simp))⟩
theorem al26_v (w : World) (hm : Mx w) : Calls Try.prog 21 #[.slice (some ⟨w.heap.size, 0, none⟩) 1 1, .int .i64 9] (w.alloc (.cells #[.int .u8 0] 5)) fun e w' => e = .returned (.int .i64 8) ∧ Below w.heap.size w w' := by
  have h2 := lines_Seven _ 1 1 [0] 9 _ (Reads.lit .u8 5 w [0] (by decide) (by decide)) (by decide) (by decide) (hm.below ((Below.refl _ _).alloc (Nat.le_refl _) _))
  rw [v26_s] at h2
  refine h2.mono ?_
  rintro e w' ⟨rfl, hb⟩
  exact ⟨rfl, ((Below.refl _ _).alloc (Nat.le_refl _) _).trans (hb.mono (by simp))⟩
set_option maxRecDepth 100000 in
set_option maxHeartbeats 1000000 in
theorem alive26_any (w : World) (hm : Mx w) : Calls Try.prog 6 #[] w fun e w' => e = .returned (.bool true) ∧ Below w.heap.size w w' := by
  have kc := convB (P := Try.prog) (t := 22) (e := 5) Try.underlying22 Try.underlying5 w w.heap.size rfl
  have HE := hid (fun W a l c (h : Reads .u8 W a l c [97, 13, 10, 98, 99]) (hl : l < 1000000) => by have := lines_Ends a l c _ W h hl; rwa [v26_e] at this)
  have HL := hid (fun W a l c (h : Reads .u8 W a l c [97, 13, 10, 98, 99]) (hl : l < 1000000) (hM : Mx W) => by have := lines_Longest a l c _ W h hl hM; rwa [v26_l] at this)
  have HF := hid (fun W a l c (h : Reads .u8 W a l c [97, 13, 10, 98, 99]) (hl : l < 1000000) (hM : Mx W) => by have := lines_Fits a l c _ 3 4 W h hl (by decide) (by decide) hM; rwa [v26_f] at this)
  go_enter Try.func6, Try.ntmps6
  go_wp2_with (first
    | (go_at_call 8; (with_reducible refine (al26_s w hm _ rfl).mono ?_); rintro e w1 ⟨b1, off1, c1, ai, ci, rfl, hc1, q1, s1, h1⟩; have k1 := q1.string (P := Try.prog) Try.underlying22 Try.underlying5 Try.underlying9; rw [str26] at k1)
    | (go_at_call 10; (with_reducible refine (HE.out _ _ _ _ s1 (by decide)).mono ?_); rintro e w2 ⟨rfl, h2⟩; have t2 := below_then h1 h2; have s2 := s1.below h2)
    | (go_at_call 17; (with_reducible refine (HL.out _ _ _ _ s2 (by decide) (hm.below t2)).mono ?_); rintro e w3 ⟨rfl, h3⟩; have t3 := below_then t2 h3; have s3 := s2.below h3; have kc3 := convB (P := Try.prog) (t := 22) (e := 5) Try.underlying22 Try.underlying5 w3 w3.heap.size rfl)
    | (go_at_call 12; (with_reducible refine (al26_b w3 (hm.below t3) _ rfl).mono ?_); rintro e w4 ⟨rfl, h4⟩; have t4 := below_then t3 h4; have s4 := s3.below h4)
    | (go_at_call 21; (with_reducible refine (al26_v w4 (hm.below t4)).mono ?_); rintro e w5 ⟨rfl, h5⟩; have t5 := below_then t4 h5; have s5 := s4.below h5)
    | (go_at_call 19; (with_reducible refine (HF.out _ _ _ _ s5 (by decide) (hm.below t5)).mono ?_); rintro e w6 ⟨rfl, h6⟩; have t6 := below_then t5 h6))
  go_ret
  exact ⟨rfl, t6⟩
end Go.Proofs.Ytbhmhpcabppgmaa
