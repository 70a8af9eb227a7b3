/-
  Contracts of package hexa's functions: reading digits.
-/
import Derived.Test.YtkminadmcjbiaaaC02
namespace Go.Proofs.Ytkminadmcjbiaaa
open Go.RowKit
set_option linter.unusedVariables false

theorem all_get {f : Int → Bool} {xs : List Int} (h : xs.all f = true) {k : Nat} {x : Int} (hx : xs[k]? = some x) : f x = true := by
  rw [List.all_eq_true] at h
  exact h x (List.mem_of_getElem? hx)

set_option maxHeartbeats 2000000 in
theorem reads_c (a : Option Addr) (len cap : Nat) (xs : List Int) (w : World) (hr : Reads .u8 w a len cap xs) (hN : len < 1000000000) :
    Calls Try.prog 17 #[.slice a len cap] w fun e w' => ∃ a' len' cap', e = .returned (.tuple #[.slice a' len' cap', .int .i64 (readE xs)]) ∧ Reads .u8 w' a' len' cap' (readV xs) ∧ Below w.heap.size w w' := by
  have HR := hid hr
  have hsz := hr.size
  clear hr
  go_enter Try.func17, Try.ntmps17
  go_wp2
  go_loop [12] (fun i => ∃ k : Nat, k ≤ len ∧ i = .int .i64 k ∧ Hid ((xs.take k).all hexO = true)) (fun i => len - (intOf i).toNat)
  case atStart => exact ⟨0, Nat.zero_le _, rfl, by simp [Hid]⟩
  case round =>
    obtain ⟨k, hk, rfl, hn⟩ := hrel
    by_cases hlt : k < len
    · obtain ⟨b, off, x, rfl, _, hc, h0, h1, hx⟩ := HR.out.get8 hlt
      cases e1 : hexO x
      · go_wp2_with (go_at_call 7; (with_reducible refine (value_c _ _ h0 h1).mono ?_); rintro e w' ⟨rfl, rfl⟩)
        have hf := read_form (all_no hx.out.1 e1)
        go_ret2
        exact ⟨none, 0, 0, ret_si hf.1.symm, by rw [hf.2]; exact Reads.nil _ _ _ _ (Nat.zero_le _), Below.refl _ _⟩
      · have E1 := hid e1
        go_wp2_with (go_at_call 7; (with_reducible refine (value_c _ _ h0 h1).mono ?_); rintro e w' ⟨rfl, rfl⟩)
        go_round
        case rel => exact ⟨k + 1, by omega, by go_num, all_yes hx.out.2 hn.out E1.out⟩
        case measure => simp [intOf]; omega
    · have hall : Hid (xs.all hexO = true) := by have := hn.out; rwa [HR.out.all (show len ≤ k by omega)] at this
      clear hn
      by_cases hodd : len % 2 = 0
      · obtain ⟨n, hn⟩ : ∃ n, len = 2 * n := ⟨len / 2, by omega⟩
        have hdiv : (len : Int) / 2 = (n : Int) := by omega
        have hmod : ((len : Int) % 2 != 0) = false := by simp; omega
        have hnb : 2 * n ≤ len ∧ len ≤ 2 * n := by omega
        have HN := hid hn
        clear hn hodd
        go_wp2_with (at_make; go_must (refine wpList_zeros (n := n) CT8 rfl _ _ rfl rfl rfl (Below.refl _ _) (by omega) (by decide) ?_); intro g w1 ho1 hb1)
        clear hdiv hmod
        go_loopw [34] (fun i wr => ∃ j : Nat, j ≤ n ∧ i = .int .i64 j ∧ Own .u8 5 w.heap.size wr (.slice (some ⟨g, 0, none⟩) n n) (fillP xs n j) ∧ Below w.heap.size w wr) (fun i _ => n - (intOf i).toNat)
        case atStart => exact ⟨0, Nat.zero_le _, rfl, by rw [fillP_zero]; exact ho1, hb1⟩
        case round =>
          obtain ⟨j, hj, rfl, hown', hbel'⟩ := hrel
          by_cases hlt2 : j < n
          · obtain ⟨b, off, x, rfl, hbl, hc, h0, h1, hx⟩ := (HR.out.below hbel').get8 (i := 2 * j) (by omega)
            obtain ⟨b', off', y, hb, _, hc2, h02, h12, hy⟩ := (HR.out.below hbel').get8 (i := 2 * j + 1) (by omega)
            cases hb
            have hcell := (hown'.at (j := j) (by rw [fillP_len (by rw [hsz]; omega) (by omega)]; exact hlt2)).1
            have hfz := (hown'.at (j := j) (by rw [fillP_len (by rw [hsz]; omega) (by omega)]; exact hlt2)).2
            have hp : Hid (pairV x y = 16 * hexV x + hexV y) := by
              have hx1 := all_get hall.out hx.out.1
              have hy1 := all_get hall.out hy.out.1
              simp [Hid, pairV, pairO, hx1, hy1]
            have hwp : Hid ((Lit.int .u8 (pairV x y)).wf = true) := by rw [Hid, hp.out]; exact pair_wf x y
            have hst := hid (hown'.drew'.store (below_drew hbel') j hwp.out)
            have hE : Hid ((fillP xs n j).set j (pairV x y) = fillP xs n (j + 1)) := by rw [Hid, hp.out]; exact fillP_set hlt2 (by rw [hsz]; omega) hx.out.2 hy.out.2
            go_wp2_with fail
            have w1 : IntKind.i64.wrap (2 * (j : Int)) = 2 * (j : Int) := IntWalk.i64_in _ (by omega)
            have w2 : IntKind.i64.wrap (2 * (j : Int) + 1) = 2 * (j : Int) + 1 := IntWalk.i64_in _ (by omega)
            have p1 : 0 ≤ 2 * (j : Int) := by omega
            have p2 : 0 ≤ 2 * (j : Int) + 1 := by omega
            have q1 : 2 * (j : Int) < len := by omega
            have q2 : 2 * (j : Int) + 1 < len := by omega
            have t1 : (2 * (j : Int)).toNat = 2 * j := by omega
            have t2 : (2 * (j : Int) + 1).toNat = 2 * j + 1 := by omega
            go_region_law (go_simp; go_at_call 24; (with_reducible refine (read1_c _ _ _ h0 h1 h02 h12).mono ?_); rintro e w' ⟨rfl, rfl⟩)
            all_goals
              clear w1 w2 p1 p2 q1 q2 t1 t2 hcell hfz hc hc2 hown' hbel'
              go_wp2_with fail
              go_roundw
              case rel => exact ⟨j + 1, by omega, by go_num, by rw [← hE.out]; exact hst.out.1, hst.out.2⟩
              case measure => simp [intOf]; omega
          · go_wp2_with fail
            have hf := read_ok hall.out (by rw [hsz, HN.out]; omega)
            rw [fillP_all (by omega) (by rw [hsz]; omega), ← hf.2] at hown'
            obtain ⟨a', len', cap', hv, hrd⟩ := hown'.back
            go_ret2
            exact ⟨a', len', cap', by rw [← hv]; exact ret_si hf.1.symm, hrd, hbel'⟩
      · have hmod : ((len : Int) % 2 != 0) = true := by simp; omega
        go_wp2_with fail
        have hf := read_odd hall.out (by rw [hsz]; exact hodd)
        go_ret2
        exact ⟨none, 0, 0, ret_si hf.1.symm, by rw [hf.2]; exact Reads.nil _ _ _ _ (Nat.zero_le _), Below.refl _ _⟩

end Go.Proofs.Ytkminadmcjbiaaa
