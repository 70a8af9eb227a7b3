/-
  Contracts of package units' functions: surrogates, and a sign that is taken.
-/
import Derived.Test.YtobjdamlmaaidaaDoorC03
import Derived.Test.YtobjdamlmaaidaaDoorC05c
import Derived.Test.YtobjdamlmaaidaaDoorD06
namespace Go.Proofs.YtobjdamlmaaidaaDoor
open Go.RowKit
set_option linter.unusedVariables false

theorem CT16 : SliceT Tryd.prog 48 70 .u16 2 := ⟨Tryd.underlying48, by kernel_rfl, by decide⟩
theorem half_high (u : Int) (w : World) (h0 : 0 ≤ u) (h1 : u ≤ 65535) :
    Calls Tryd.prog 70 #[.int .u16 55296, .int .u16 u] w fun e w' => e = .returned (.bool (hiB u)) ∧ w = w' := by
  have e1 := clear_u16 10 u 1023 (by decide) (by decide) h0 h1
  have e2 := hid (hi_clear u)
  go_enter Tryd.func70, Tryd.ntmps70
  go_wp2
  go_ret
  exact ⟨ret_bool e2.out, rfl⟩
theorem half_low (u : Int) (w : World) (h0 : 0 ≤ u) (h1 : u ≤ 65535) :
    Calls Tryd.prog 70 #[.int .u16 56320, .int .u16 u] w fun e w' => e = .returned (.bool (loB u)) ∧ w = w' := by
  have e1 := clear_u16 10 u 1023 (by decide) (by decide) h0 h1
  have e2 := hid (lo_clear u)
  go_enter Tryd.func70, Tryd.ntmps70
  go_wp2
  go_ret
  exact ⟨ret_bool e2.out, rfl⟩
theorem Reads.head16 {w : World} {a : Option Addr} {len cap : Nat} {x : Int} {r : List Int} (h : Reads .u16 w a len cap (x :: r)) :
    ∃ b off, a = some ⟨b, off, none⟩ ∧ b < w.heap.size ∧ w.cell? ⟨b, off, none⟩ = some (.int .u16 x) ∧ 0 ≤ x ∧ x ≤ 65535 ∧ 0 < len := by
  have hs := h.size
  have hp : 0 < len := by simp at hs; omega
  obtain ⟨b, off, y, ha, hb, hc, h0, h1, hx⟩ := h.get16 hp
  have e : x = y := by have := hx.out.1; simpa using this
  subst e
  exact ⟨b, off, ha, hb, hc, h0, h1, hp⟩
theorem starts_high (a : Option Addr) (len cap : Nat) (xs : List Int) (w : World) (hr : Reads .u16 w a len cap xs) :
    Calls Tryd.prog 69 #[.slice a len cap, .func (.func 70) #[.int .u16 55296] #[]] w fun e w' => e = .returned (.bool (hdB hiB xs)) ∧ w = w' := by
  cases xs with
  | nil =>
    obtain rfl : 0 = len := hr.size
    clear hr
    go_enter Tryd.func69, Tryd.ntmps69
    go_wp2
    go_ret
    exact ⟨rfl, rfl⟩
  | cons x r =>
    have hl := hr.len_le
    obtain ⟨b, off, rfl, _, hc, h0, h1, hp⟩ := hr.head16
    clear hr
    go_enter Tryd.func69, Tryd.ntmps69
    go_wp2_with (go_at_call 70; (with_reducible refine (half_high _ _ h0 h1).mono ?_); rintro e w' ⟨rfl, rfl⟩)
    go_ret
    exact ⟨rfl, rfl⟩
theorem starts_none (a : Option Addr) (cap : Nat) (v : Value) (w : World) :
    Calls Tryd.prog 69 #[.slice a 0 cap, v] w fun e w' => e = .returned (.bool false) ∧ w = w' := by
  go_enter Tryd.func69, Tryd.ntmps69
  go_wp2
  go_ret
  exact ⟨rfl, rfl⟩
theorem starts_low (a : Option Addr) (len cap : Nat) (xs : List Int) (w : World) (hr : Reads .u16 w a len cap xs) :
    Calls Tryd.prog 69 #[.slice a len cap, .func (.func 70) #[.int .u16 56320] #[]] w fun e w' => e = .returned (.bool (hdB loB xs)) ∧ w = w' := by
  cases xs with
  | nil =>
    obtain rfl : 0 = len := hr.size
    clear hr
    go_enter Tryd.func69, Tryd.ntmps69
    go_wp2
    go_ret
    exact ⟨rfl, rfl⟩
  | cons x r =>
    have hl := hr.len_le
    obtain ⟨b, off, rfl, _, hc, h0, h1, hp⟩ := hr.head16
    clear hr
    go_enter Tryd.func69, Tryd.ntmps69
    go_wp2_with (go_at_call 70; (with_reducible refine (half_low _ _ h0 h1).mono ?_); rintro e w' ⟨rfl, rfl⟩)
    go_ret
    exact ⟨rfl, rfl⟩
theorem units_join (x y : Int) (w : World) (h0 : 0 ≤ x) (h1 : x ≤ 65535) (h2 : 0 ≤ y) (h3 : y ≤ 65535) (h : (hiB x && loB y) = true) :
    Calls Tryd.prog 71 #[.int .u16 x, .int .u16 y] w fun e w' => e = .returned (.int .i32 (pairU x y)) ∧ w = w' := by
  have e1 := and_u16 10 x 1023 (by decide) (by decide) h0 h1
  have e2 := and_u16 10 y 1023 (by decide) (by decide) h2 h3
  have e3 := or_i32 10 (x % 1024 * 1024) (y % 1024) (by omega) (by omega) (by omega) (by omega) (by omega)
  rw [Bool.and_eq_true, hiB_iff, loB_iff] at h
  go_enter Tryd.func71, Tryd.ntmps71
  go_wp2
  go_ret
  exact ⟨ret_int (by unfold pairU; omega), rfl⟩
theorem takeU_arms {x : Int} {r : List Int} (h : surB x = true) : ut1 (x :: r) = if utP (x :: r) = true then (pairU x (r.getD 0 0), 0) else (65533, if r = [] ∧ hiB x = true then 4 else 3) := by
  unfold ut1
  simp only [List.getD_cons_zero, List.getD_cons_succ, h, if_true]
  congr 2
  cases r <;> simp
set_option maxHeartbeats 1000000 in
theorem units_take (a : Option Addr) (len cap : Nat) (xs : List Int) (w : World) (hr : Reads .u16 w a len cap xs) (hne : xs ≠ []) :
    Calls Tryd.prog 59 #[.slice a len cap] w fun e w' => e = .returned (.tuple #[.int .i32 (ut1 xs).1, .int .i64 (utN xs), .int .i64 (ut1 xs).2]) ∧ ∃ n, w' = w.drewN n := by
  have hl := hr.len_le
  have hsz := hr.size
  have hroom := hr.room
  match xs, hne with
  | [], h => exact absurd rfl h
  | x :: r, _ =>
    obtain ⟨b, off, rfl, _, hc, h0, h1, hpos⟩ := hr.head16
    have hpc := hr.piece (l := 1) (r := len) (by omega) (Nat.le_refl _)
    rw [List.take_of_length_le (by omega), List.drop_succ_cons, List.drop_zero] at hpc
    have hQ := scalar_Surrogate x w
    have hS1 := starts_high _ _ _ _ _ hr
    rw [show hdB hiB (x :: r) = hiB x from rfl] at hS1
    cases hp : utP (x :: r)
    · have hN : Hid (utN (x :: r) = 1) := by unfold utN; rw [Hid, if_neg (by simp [hp])]
      cases hh : hiB x
      · rw [hh] at hS1
        cases hs : surB x
        · have hE : Hid (ut1 (x :: r) = (x, 0)) := by unfold ut1; rw [Hid, if_neg (by simp [hp]), if_neg (by simp [hs])]; rfl
          rw [hs] at hQ
          clear hp hh hs
          go_enter Tryd.func59, Tryd.ntmps59
          go_wp2_with (first
            | (go_at_call 69; (with_reducible refine hS1.mono ?_); rintro e w' ⟨rfl, rfl⟩)
            | (go_at_call 62; (with_reducible refine hQ.mono ?_); rintro e w' ⟨rfl, rfl⟩))
          go_ret3
          exact ⟨by rw [hE.out, hN.out]; rfl, 0, rfl⟩
        · have hE : Hid (ut1 (x :: r) = (65533, 3)) := by rw [Hid, takeU_arms hs, if_neg (by simp [hp]), if_neg (by simp [hh])]
          rw [hs] at hQ
          clear hp hh hs
          by_cases hlen : len = 1
          · subst hlen
            go_enter Tryd.func59, Tryd.ntmps59
            go_wp2_with (first
              | (go_at_call 69; (with_reducible refine hS1.mono ?_); rintro e w' ⟨rfl, rfl⟩)
              | (go_at_call 62; (with_reducible refine hQ.mono ?_); rintro e w' ⟨rfl, rfl⟩))
            go_ret3
            exact ⟨by rw [hE.out, hN.out]; rfl, 0, rfl⟩
          · have hlen' : ((len : Int) == 1) = false := by simp; omega
            go_enter Tryd.func59, Tryd.ntmps59
            go_wp2_with (first
              | (go_at_call 69; (with_reducible refine hS1.mono ?_); rintro e w' ⟨rfl, rfl⟩)
              | (go_at_call 62; (with_reducible refine hQ.mono ?_); rintro e w' ⟨rfl, rfl⟩))
            go_ret3
            exact ⟨by rw [hE.out, hN.out]; rfl, 0, rfl⟩
      · rw [hh] at hS1
        have hlo : hdB loB r = false := by rw [utP_hd] at hp; simpa [hdB, hh] using hp
        have hs : surB x = true := by rw [hi_lo, hh]; rfl
        by_cases hlen : len = 1
        · have hE : Hid (ut1 (x :: r) = (65533, 4)) := by rw [Hid, takeU_arms hs, if_neg (by simp [hp]), if_pos ⟨List.eq_nil_of_length_eq_zero (by simp at hsz; omega), hh⟩]
          rw [hs] at hQ
          clear hp hh hlo hs hpc
          subst hlen
          have hS2 := fun (a : Option Addr) (c : Nat) => starts_none a c (.func (.func 70) #[.int .u16 56320] #[]) w
          go_enter Tryd.func59, Tryd.ntmps59
          go_wp2_with (first
            | (go_at_call 69; (first | (with_reducible refine hS1.mono ?_) | (with_reducible refine hS2.mono ?_) | (with_reducible refine (hS2 _ _).mono ?_)); rintro e w' ⟨rfl, rfl⟩)
            | (go_at_call 62; (with_reducible refine hQ.mono ?_); rintro e w' ⟨rfl, rfl⟩))
          all_goals
            go_ret3
            exact ⟨by rw [hE.out, hN.out]; rfl, 0, rfl⟩
        · have hE : Hid (ut1 (x :: r) = (65533, 3)) := by rw [Hid, takeU_arms hs, if_neg (by simp [hp]), if_neg (by rintro ⟨rfl, _⟩; simp at hsz; omega)]
          rw [hs] at hQ
          have hlen' : ((len : Int) == 1) = false := by simp; omega
          rw [if_neg (by omega)] at hpc
          have hS2 := starts_low _ _ _ _ _ hpc
          rw [hlo] at hS2
          simp only [Option.map_some, Addr.add_lit] at hS2
          clear hp hh hlo hs
          go_enter Tryd.func59, Tryd.ntmps59
          go_wp2_with (first
            | (go_at_call 69; (first | (with_reducible refine hS1.mono ?_) | (with_reducible refine hS2.mono ?_) | (with_reducible refine (hS2 _ _).mono ?_)); rintro e w' ⟨rfl, rfl⟩)
            | (go_at_call 62; (with_reducible refine hQ.mono ?_); rintro e w' ⟨rfl, rfl⟩))
          go_ret3
          exact ⟨by rw [hE.out, hN.out]; rfl, 0, rfl⟩
    · have hN : Hid (utN (x :: r) = 2) := by unfold utN; rw [Hid, if_pos hp]
      match r, hp with
      | [], hp => cases hp
      | y :: r', hp =>
        have hpq : (hiB x && loB y) = true := hp
        have hE : Hid (ut1 (x :: y :: r') = (pairU x y, 0)) := by unfold ut1; rw [Hid, if_pos hp]; rfl
        have hpq2 := hpq
        rw [Bool.and_eq_true] at hpq2
        rw [hpq2.1] at hS1
        have hl2 : 2 ≤ len := by simp at hsz; omega
        rw [if_neg (by omega)] at hpc
        have hS2 := starts_low _ _ _ _ _ hpc
        rw [show hdB loB (y :: r') = true from hpq2.2] at hS2
        simp only [Option.map_some, Addr.add_lit] at hS2
        obtain ⟨b2, off2, y', hb, _, hcy, hy0, hy1, hy⟩ := hr.get16 (i := 1) (by omega)
        cases hb
        obtain rfl : y = y' := by have := hy.out.1; simpa using this
        have HPQ := hid hpq
        clear hp hpq hpq2 hy
        go_enter Tryd.func59, Tryd.ntmps59
        go_wp2_with (first
          | (go_at_call 69; (first | (with_reducible refine hS1.mono ?_) | (with_reducible refine hS2.mono ?_) | (with_reducible refine (hS2 _ _).mono ?_)); rintro e w' ⟨rfl, rfl⟩))
        go_quiet ((go_at_call 71; exact Calls.quiet_of_same (Calls.flip (units_join _ _ _ h0 h1 hy0 hy1 HPQ.out))))
        go_wp2_with fail
        go_ret3
        exact ⟨by rw [hE.out, hN.out]; rfl, _, rfl⟩
end Go.Proofs.YtobjdamlmaaidaaDoor
