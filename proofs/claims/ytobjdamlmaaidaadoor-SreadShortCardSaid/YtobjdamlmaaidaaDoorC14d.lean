/-
  Contracts of package bcode's functions: the code without what fills up.
-/
import Derived.Test.YtobjdamlmaaidaaDoorC14c
namespace Go.Proofs.YtobjdamlmaaidaaDoor
open Go.RowKit
set_option linter.unusedVariables false

/-- The first part of a row of the call's own is one. -/
theorem Own.pre {k : IntKind} {e : TypeId} {base : Nat} {w : World} {a : Option Addr} {n cap : Nat} {xs : List Int} (h : Own k e base w (.slice a n cap) xs) {m : Nat} (hm : m ≤ n) : Own k e base w (.slice a m cap) (xs.take m) := by
  obtain ⟨⟨hl, h1⟩, h2⟩ := h
  have hwf : ∀ x ∈ xs.take m, (Lit.int k x).wf = true := fun x hx => h2 x (List.mem_of_mem_take hx)
  rcases h1 with ⟨h', hn⟩ | ⟨g, c, cur, hv, hb, hg, hnc, hcm, hcs, htk⟩
  · simp only [Value.slice.injEq] at h'
    obtain ⟨rfl, rfl, rfl⟩ := h'
    obtain rfl : m = 0 := by omega
    exact Own.nil _ _ _ _
  · simp only [Value.slice.injEq] at hv
    obtain ⟨rfl, hnx, rfl⟩ := hv
    have hlx : xs.length = n := hnx.symm
    refine ⟨⟨by simp, .inr ⟨g, cap, cur, by rw [List.length_take, hlx, Nat.min_eq_left hm], hb, hg, by rw [List.length_take]; omega, hcm, hcs, ?_⟩⟩, hwf⟩
    rw [List.length_take, hlx, Nat.min_eq_left hm, Nat.mul_one, List.map_take, ← htk, List.take_take, hlx, Nat.mul_one, Nat.min_eq_left hm]
set_option maxHeartbeats 1000000 in
/-- bytes.trimRightByte: what fills up goes, as far as there is some. -/
theorem trimRightByte_c (a : Option Addr) (len cap : Nat) (xs : List Int) (n : Nat) (w : World) (hr : Reads .u8 w a len cap xs) (hn : n ≤ len) (hlast : 0 < n → xs.getD (n - 1) 0 ≠ 61) (hall : ∀ j, n ≤ j → j < len → xs.getD j 0 = 61) :
    Calls Tryd.prog 79 #[.slice a len cap, .int .u8 61] w fun e w' => e = .returned (.slice a n cap) ∧ w = w' := by
  have HR := hid hr
  have hl := hr.len_le
  have hrm := hr.room
  have HL := hid hlast
  have HA := hid hall
  clear hr hlast hall
  go_enter Tryd.func79, Tryd.ntmps79
  go_wp2_with fail
  go_loop [0] (fun s => ∃ k : Nat, n ≤ k ∧ k ≤ len ∧ s = .slice a k cap) (fun s => lenV s)
  case atStart => exact ⟨len, hn, Nat.le_refl _, rfl⟩
  case round =>
    obtain ⟨k, hk0, hk1, rfl⟩ := hrel
    by_cases h0 : 0 < k
    · obtain ⟨b, off, x, rfl, _, hc, h0x, h1x, hx⟩ := HR.out.get8 (i := k - 1) (by omega)
      have hg : xs.getD (k - 1) 0 = x := by simp [List.getD, hx.out.1]
      have hix : ((k : Int) - 1) = ((k - 1 : Nat) : Int) := by omega
      have hkp : k - 1 ≤ cap := by omega
      by_cases he : n < k
      · obtain rfl : x = 61 := by rw [← hg]; exact HA.out (k - 1) (by omega) (by omega)
        clear hg
        go_wp2_with fail
        go_round
        case rel => exact ⟨k - 1, by omega, by omega, rfl⟩
        case measure => simp [lenV]; omega
      · obtain rfl : k = n := by omega
        have hne : (x == 61) = false := by
          have := HL.out h0
          rw [hg] at this
          simpa using this
        clear hg
        go_wp2_with fail
        go_ret
        exact ⟨rfl, rfl⟩
    · obtain rfl : k = 0 := by omega
      obtain rfl : n = 0 := by omega
      go_wp2_with fail
      go_ret
      exact ⟨rfl, rfl⟩
theorem trimRightByte_t (a : Option Addr) (len cap : Nat) (xs : List Int) (n : Nat) (w : World) (hr : Reads .u8 w a len cap xs) (hn : n ≤ len) (hlast : 0 < n → xs.getD (n - 1) 0 ≠ 61) (hall : ∀ j, n ≤ j → j < len → xs.getD j 0 = 61) (h : 0 < ({ data := #[61] } : ByteArray).size) :
    Calls Tryd.prog 79 #[.slice a len cap, .int .u8 ((({ data := #[61] } : ByteArray)[0]'h).toNat : Int)] w fun e w' => e = .returned (.slice a n cap) ∧ w = w' :=
  trimRightByte_c a len cap xs n w hr hn hlast hall
set_option maxHeartbeats 1000000 in
set_option maxRecDepth 100000 in
theorem bytes_TrimRight61 (a : Option Addr) (len cap : Nat) (xs : List Int) (n : Nat) (w : World) (hr : Reads .u8 w a len cap xs) (hn : n ≤ len) (hlast : 0 < n → xs.getD (n - 1) 0 ≠ 61) (hall : ∀ j, n ≤ j → j < len → xs.getD j 0 = 61) :
    Calls Tryd.prog 66 #[.slice a len cap, .string { data := #[61] }] w fun e w' => (∃ m, e = .returned (.slice a m cap) ∧ m = n) ∧ w = w' := by
  have HT := hid (trimRightByte_t a len cap xs n w hr hn hlast hall)
  have hl := hr.len_le
  clear hr hlast hall
  by_cases h0 : len = 0
  · subst h0
    obtain rfl : n = 0 := by omega
    go_enter Tryd.func66, Tryd.ntmps66
    go_wp2_with (go_at_call 79; (with_reducible refine (HT.out _).mono ?_); rintro e w' ⟨rfl, rfl⟩)
    go_ret
    exact ⟨⟨0, rfl, rfl⟩, rfl⟩
  · have hpos : ¬ ((len : Int) = 0) := by omega
    go_enter Tryd.func66, Tryd.ntmps66
    go_wp2_with (go_at_call 79; (with_reducible refine (HT.out _).mono ?_); rintro e w' ⟨rfl, rfl⟩)
    go_ret
    exact ⟨⟨n, rfl, rfl⟩, rfl⟩
set_option maxHeartbeats 1000000 in
theorem bcode_Bare (a : Option Addr) (len cap : Nat) (xs : List Int) (w : World) (hr : Reads .u8 w a len cap xs) (hN : len < 100000000) :
    Calls Tryd.prog 55 #[.slice a len cap] w fun e w' => ∃ v, e = .returned v ∧ Own .u8 5 w.heap.size w' v (bareB xs) ∧ Below w.heap.size w w' := by
  have HR := hid hr
  have ho := fun x hx => u8_wf (hr.wf x hx)
  obtain ⟨n, hn⟩ : ∃ n, n = (bareB xs).length := ⟨_, rfl⟩
  obtain ⟨L, hL⟩ : ∃ L, L = (layB xs).length := ⟨_, rfl⟩
  have hnL : n ≤ L := by rw [hn, hL]; unfold layB fill4; rw [List.length_append]; omega
  have htk : Hid ((layB xs).take n = bareB xs) := by unfold Hid layB fill4; rw [hn, List.take_left]
  have hlast : Hid (0 < n → (layB xs).getD (n - 1) 0 ≠ 61) := by
    intro h0
    have hlt : n - 1 < (bareB xs).length := by omega
    unfold layB fill4
    rw [List.getD_eq_getElem?_getD, List.getElem?_append_left hlt, List.getElem?_eq_getElem hlt]
    rw [Option.getD_some]
    obtain ⟨v, hv, he⟩ := List.mem_map.1 (List.getElem_mem hlt)
    rw [← he]
    exact (dig_bd (v64_bd xs ho v hv)).2.2
  have hall : Hid (∀ j, n ≤ j → j < L → (layB xs).getD j 0 = 61) := by
    intro j h1 h2
    rw [hL] at h2
    unfold layB fill4 at h2 ⊢
    rw [List.getD_eq_getElem?_getD, List.getElem?_append_right (by omega)]
    rw [List.length_append, List.length_replicate] at h2
    rw [List.getElem?_replicate, if_pos (by omega)]; rfl
  have HLL := hid hL
  clear hr ho hn hL
  go_enter Tryd.func55, Tryd.ntmps55
  go_wp2_with (first
    | (go_at_call 67; (with_reducible refine (bcode_Lay _ _ _ _ _ HR.out hN).mono ?_); rintro e w1 ⟨v1, rfl, ho1, hb1⟩; obtain ⟨a1, c1, rfl, hr1⟩ := ho1.reads; rw [← HLL.out] at hr1; rw [← HLL.out])
    | (go_at_call 66; (with_reducible refine (bytes_TrimRight61 _ _ _ _ n _ hr1 hnL hlast.out hall.out).mono ?_); rintro e w2 ⟨⟨m, rfl, rfl⟩, rfl⟩))
  go_ret
  exact ⟨_, rfl, by have := ho1.pre (m := m) (by rw [← HLL.out]; exact hnL); rwa [htk.out] at this, hb1⟩
end Go.Proofs.YtobjdamlmaaidaaDoor
