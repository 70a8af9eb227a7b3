/-
  Texts of ours laid together: C05, C05b, C05c, C06, C06b.
-/
import Derived.RangeFuncNested
import Derived.RangeFuncBox
import Derived.RangeFuncCalls
import Derived.RangeFuncLeaves
import Derived.Shelf.Abstract
import Derived.Shelf.RegionOpen
import Derived.OwnWalkIn
import Derived.TacticsInMore
import Derived.LoopNIn
import Derived.LoopIn
import Derived.Maps.AppendAt
import Derived.Test.YtfnolkkmldiimaaGreatDoorZ21

/-! C05 -/
namespace Go.Proofs.YtfnolkkmldiimaaGreatDoor
open Go.RowKit Go.Shelf
set_option linter.unusedVariables false
attribute [local go_sem] Oper.semAt_some


/-- A sign, as yield is handed it. -/
def encS (p : Int × Int) : Array Value := #[.int .i32 p.1, .int .i64 p.2]


end Go.Proofs.YtfnolkkmldiimaaGreatDoor

/-! C05b -/
namespace Go.Proofs.YtfnolkkmldiimaaGreatDoor
open Go.RowKit Go.Shelf
set_option linter.unusedVariables false
attribute [local go_sem] Oper.semAt_some



end Go.Proofs.YtfnolkkmldiimaaGreatDoor

/-! C05c -/
namespace Go.Proofs.YtfnolkkmldiimaaGreatDoor
open Go.RowKit Go.Shelf
set_option linter.unusedVariables false
attribute [local go_sem] Oper.semAt_some

def encR (pre : List (Int × Int)) : List Value := pre.map (fun p => .int .i32 p.1)
theorem encR_snoc (pre : List (Int × Int)) (x : Int × Int) : encR (pre ++ [x]) = encR pre ++ [.int .i32 x.1] := by simp [encR]
theorem encR_txt (xs : List Int) : encR (sigs xs) = (txt xs).map (Value.int .i32) := by simp [encR, txt, Function.comp_def]
theorem reads_row {e : TypeId} {base : Nat} {w : World} {v : Value} {xs : List Int} (h : w.ownsRow base e 1 v (sigs xs).length (encR (sigs xs))) (hwf : ∀ x ∈ txt xs, (Lit.int .i32 x).wf = true) :
    ∃ a cap, v = .slice a (sigs xs).length cap ∧ Reads .i32 w a (sigs xs).length cap (txt xs) := by
  have hO : Own .i32 e base w v (txt xs) := ⟨by rw [txt_len, ← encR_txt]; exact h, hwf⟩
  obtain ⟨a, cap, hv, hr⟩ := hO.reads
  rw [txt_len] at hv hr
  exact ⟨a, cap, hv, hr⟩
theorem own_row {n₀ D : Nat} {w : World} (hn : n₀ ≤ w.heap.size) (hD : n₀ ≤ D) (B : Nat) (t e : TypeId) :
    OwnFrom D (fun (pre : List (Int × Int)) W => (∃ v, Boxed W B t v ∧ W.ownsRow n₀ e 1 v pre.length (encR pre) ∧ True) ∧ Below n₀ w W) :=
  OwnFrom.and (Go.Own.from (holdsRow_own n₀ B t e 1 (fun pre => pre.length) encR (fun _ _ => True)) _) (ownFrom_below hn hD)


end Go.Proofs.YtfnolkkmldiimaaGreatDoor

/-! C06 -/
namespace Go.Proofs.YtfnolkkmldiimaaGreatDoor
open Go.RowKit
set_option linter.unusedVariables false

theorem CT16 : SliceT Tryz.prog 46 68 .u16 2 := ⟨Tryz.underlying46, by kernel_rfl, by decide⟩
theorem half_high (u : Int) (w : World) (h0 : 0 ≤ u) (h1 : u ≤ 65535) :
    Calls Tryz.prog 113 #[.int .u16 55296, .int .u16 u] w fun e w' => e = .returned (.bool (hiB u)) ∧ w = w' := by
  have e1 := clear_u16 10 u 1023 (by decide) (by decide) h0 h1
  have e2 := hid (hi_clear u)
  go_enter Tryz.func113, Tryz.ntmps113
  go_wp2
  go_ret
  exact ⟨ret_bool e2.out, rfl⟩
theorem half_low (u : Int) (w : World) (h0 : 0 ≤ u) (h1 : u ≤ 65535) :
    Calls Tryz.prog 113 #[.int .u16 56320, .int .u16 u] w fun e w' => e = .returned (.bool (loB u)) ∧ w = w' := by
  have e1 := clear_u16 10 u 1023 (by decide) (by decide) h0 h1
  have e2 := hid (lo_clear u)
  go_enter Tryz.func113, Tryz.ntmps113
  go_wp2
  go_ret
  exact ⟨ret_bool e2.out, rfl⟩
theorem Reads.head16 {w : World} {a : Option Addr} {len cap : Nat} {x : Int} {r : List Int} (h : Reads .u16 w a len cap (x :: r)) :
    ∃ b off, a = some ⟨b, off, none⟩ ∧ b < w.heap.size ∧ w.cell? ⟨b, off, none⟩ = some (.int .u16 x) ∧ 0 ≤ x ∧ x ≤ 65535 ∧ 0 < len := by
  have hs := h.size
  have hp : 0 < len := by simp at hs; omega
  obtain ⟨b, off, y, ha, hb, hc, h0, h1, hx⟩ := h.get16 hp
  have e : x = y := by have := hx.out.1; simpa using this
  subst e
  exact ⟨b, off, ha, hb, hc, h0, h1, hp⟩
theorem starts_high (a : Option Addr) (len cap : Nat) (xs : List Int) (w : World) (hr : Reads .u16 w a len cap xs) :
    Calls Tryz.prog 112 #[.slice a len cap, .func (.func 113) #[.int .u16 55296] #[]] w fun e w' => e = .returned (.bool (hdB hiB xs)) ∧ w = w' := by
  cases xs with
  | nil =>
    obtain rfl : 0 = len := hr.size
    clear hr
    go_enter Tryz.func112, Tryz.ntmps112
    go_wp2
    go_ret
    exact ⟨rfl, rfl⟩
  | cons x r =>
    have hl := hr.len_le
    obtain ⟨b, off, rfl, _, hc, h0, h1, hp⟩ := hr.head16
    clear hr
    go_enter Tryz.func112, Tryz.ntmps112
    go_wp2_with (go_at_call 113; (with_reducible refine (half_high _ _ h0 h1).mono ?_); rintro e w' ⟨rfl, rfl⟩)
    go_ret
    exact ⟨rfl, rfl⟩
theorem starts_none (a : Option Addr) (cap : Nat) (v : Value) (w : World) :
    Calls Tryz.prog 112 #[.slice a 0 cap, v] w fun e w' => e = .returned (.bool false) ∧ w = w' := by
  go_enter Tryz.func112, Tryz.ntmps112
  go_wp2
  go_ret
  exact ⟨rfl, rfl⟩
theorem starts_low (a : Option Addr) (len cap : Nat) (xs : List Int) (w : World) (hr : Reads .u16 w a len cap xs) :
    Calls Tryz.prog 112 #[.slice a len cap, .func (.func 113) #[.int .u16 56320] #[]] w fun e w' => e = .returned (.bool (hdB loB xs)) ∧ w = w' := by
  cases xs with
  | nil =>
    obtain rfl : 0 = len := hr.size
    clear hr
    go_enter Tryz.func112, Tryz.ntmps112
    go_wp2
    go_ret
    exact ⟨rfl, rfl⟩
  | cons x r =>
    have hl := hr.len_le
    obtain ⟨b, off, rfl, _, hc, h0, h1, hp⟩ := hr.head16
    clear hr
    go_enter Tryz.func112, Tryz.ntmps112
    go_wp2_with (go_at_call 113; (with_reducible refine (half_low _ _ h0 h1).mono ?_); rintro e w' ⟨rfl, rfl⟩)
    go_ret
    exact ⟨rfl, rfl⟩
theorem units_join (x y : Int) (w : World) (h0 : 0 ≤ x) (h1 : x ≤ 65535) (h2 : 0 ≤ y) (h3 : y ≤ 65535) (h : (hiB x && loB y) = true) :
    Calls Tryz.prog 114 #[.int .u16 x, .int .u16 y] w fun e w' => e = .returned (.int .i32 (pairU x y)) ∧ w = w' := by
  have e1 := and_u16 10 x 1023 (by decide) (by decide) h0 h1
  have e2 := and_u16 10 y 1023 (by decide) (by decide) h2 h3
  have e3 := or_i32 10 (x % 1024 * 1024) (y % 1024) (by omega) (by omega) (by omega) (by omega) (by omega)
  rw [Bool.and_eq_true, hiB_iff, loB_iff] at h
  go_enter Tryz.func114, Tryz.ntmps114
  go_wp2
  go_ret
  exact ⟨ret_int (by unfold pairU; omega), rfl⟩
theorem takeU_arms {x : Int} {r : List Int} (h : surB x = true) : ut1 (x :: r) = if utP (x :: r) = true then (pairU x (r.getD 0 0), 0) else (65533, if r = [] ∧ hiB x = true then 4 else 3) := by
  unfold ut1
  simp only [List.getD_cons_zero, List.getD_cons_succ, h, if_true]
  congr 2
  cases r <;> simp
set_option maxHeartbeats 1000000 in
theorem units_take (a : Option Addr) (len cap : Nat) (xs : List Int) (w : World) (hr : Reads .u16 w a len cap xs) (hne : xs ≠ []) :
    Calls Tryz.prog 99 #[.slice a len cap] w fun e w' => e = .returned (.tuple #[.int .i32 (ut1 xs).1, .int .i64 (utN xs), .int .i64 (ut1 xs).2]) ∧ ∃ n, w' = w.drewN n := by
  have hl := hr.len_le
  have hsz := hr.size
  have hroom := hr.room
  match xs, hne with
  | [], h => exact absurd rfl h
  | x :: r, _ =>
    obtain ⟨b, off, rfl, _, hc, h0, h1, hpos⟩ := hr.head16
    have hpc := hr.piece (l := 1) (r := len) (by omega) (Nat.le_refl _)
    rw [List.take_of_length_le (by omega), List.drop_succ_cons, List.drop_zero] at hpc
    have hQ := scalar_Surrogate x w
    have hS1 := starts_high _ _ _ _ _ hr
    rw [show hdB hiB (x :: r) = hiB x from rfl] at hS1
    cases hp : utP (x :: r)
    · have hN : Hid (utN (x :: r) = 1) := by unfold utN; rw [Hid, if_neg (by simp [hp])]
      cases hh : hiB x
      · rw [hh] at hS1
        cases hs : surB x
        · have hE : Hid (ut1 (x :: r) = (x, 0)) := by unfold ut1; rw [Hid, if_neg (by simp [hp]), if_neg (by simp [hs])]; rfl
          rw [hs] at hQ
          clear hp hh hs
          go_enter Tryz.func99, Tryz.ntmps99
          go_wp2_with (first
            | (go_at_call 112; (with_reducible refine hS1.mono ?_); rintro e w' ⟨rfl, rfl⟩)
            | (go_at_call 90; (with_reducible refine hQ.mono ?_); rintro e w' ⟨rfl, rfl⟩))
          go_ret3
          exact ⟨by rw [hE.out, hN.out]; rfl, 0, rfl⟩
        · have hE : Hid (ut1 (x :: r) = (65533, 3)) := by rw [Hid, takeU_arms hs, if_neg (by simp [hp]), if_neg (by simp [hh])]
          rw [hs] at hQ
          clear hp hh hs
          by_cases hlen : len = 1
          · subst hlen
            go_enter Tryz.func99, Tryz.ntmps99
            go_wp2_with (first
              | (go_at_call 112; (with_reducible refine hS1.mono ?_); rintro e w' ⟨rfl, rfl⟩)
              | (go_at_call 90; (with_reducible refine hQ.mono ?_); rintro e w' ⟨rfl, rfl⟩))
            go_ret3
            exact ⟨by rw [hE.out, hN.out]; rfl, 0, rfl⟩
          · have hlen' : ((len : Int) == 1) = false := by simp; omega
            go_enter Tryz.func99, Tryz.ntmps99
            go_wp2_with (first
              | (go_at_call 112; (with_reducible refine hS1.mono ?_); rintro e w' ⟨rfl, rfl⟩)
              | (go_at_call 90; (with_reducible refine hQ.mono ?_); rintro e w' ⟨rfl, rfl⟩))
            go_ret3
            exact ⟨by rw [hE.out, hN.out]; rfl, 0, rfl⟩
      · rw [hh] at hS1
        have hlo : hdB loB r = false := by rw [utP_hd] at hp; simpa [hdB, hh] using hp
        have hs : surB x = true := by rw [hi_lo, hh]; rfl
        by_cases hlen : len = 1
        · have hE : Hid (ut1 (x :: r) = (65533, 4)) := by rw [Hid, takeU_arms hs, if_neg (by simp [hp]), if_pos ⟨List.eq_nil_of_length_eq_zero (by simp at hsz; omega), hh⟩]
          rw [hs] at hQ
          clear hp hh hlo hs hpc
          subst hlen
          have hS2 := fun (a : Option Addr) (c : Nat) => starts_none a c (.func (.func 113) #[.int .u16 56320] #[]) w
          go_enter Tryz.func99, Tryz.ntmps99
          go_wp2_with (first
            | (go_at_call 112; (first | (with_reducible refine hS1.mono ?_) | (with_reducible refine hS2.mono ?_) | (with_reducible refine (hS2 _ _).mono ?_)); rintro e w' ⟨rfl, rfl⟩)
            | (go_at_call 90; (with_reducible refine hQ.mono ?_); rintro e w' ⟨rfl, rfl⟩))
          all_goals
            go_ret3
            exact ⟨by rw [hE.out, hN.out]; rfl, 0, rfl⟩
        · have hE : Hid (ut1 (x :: r) = (65533, 3)) := by rw [Hid, takeU_arms hs, if_neg (by simp [hp]), if_neg (by rintro ⟨rfl, _⟩; simp at hsz; omega)]
          rw [hs] at hQ
          have hlen' : ((len : Int) == 1) = false := by simp; omega
          rw [if_neg (by omega)] at hpc
          have hS2 := starts_low _ _ _ _ _ hpc
          rw [hlo] at hS2
          simp only [Option.map_some, Addr.add_lit] at hS2
          clear hp hh hlo hs
          go_enter Tryz.func99, Tryz.ntmps99
          go_wp2_with (first
            | (go_at_call 112; (first | (with_reducible refine hS1.mono ?_) | (with_reducible refine hS2.mono ?_) | (with_reducible refine (hS2 _ _).mono ?_)); rintro e w' ⟨rfl, rfl⟩)
            | (go_at_call 90; (with_reducible refine hQ.mono ?_); rintro e w' ⟨rfl, rfl⟩))
          go_ret3
          exact ⟨by rw [hE.out, hN.out]; rfl, 0, rfl⟩
    · have hN : Hid (utN (x :: r) = 2) := by unfold utN; rw [Hid, if_pos hp]
      match r, hp with
      | [], hp => cases hp
      | y :: r', hp =>
        have hpq : (hiB x && loB y) = true := hp
        have hE : Hid (ut1 (x :: y :: r') = (pairU x y, 0)) := by unfold ut1; rw [Hid, if_pos hp]; rfl
        have hpq2 := hpq
        rw [Bool.and_eq_true] at hpq2
        rw [hpq2.1] at hS1
        have hl2 : 2 ≤ len := by simp at hsz; omega
        rw [if_neg (by omega)] at hpc
        have hS2 := starts_low _ _ _ _ _ hpc
        rw [show hdB loB (y :: r') = true from hpq2.2] at hS2
        simp only [Option.map_some, Addr.add_lit] at hS2
        obtain ⟨b2, off2, y', hb, _, hcy, hy0, hy1, hy⟩ := hr.get16 (i := 1) (by omega)
        cases hb
        obtain rfl : y = y' := by have := hy.out.1; simpa using this
        have HPQ := hid hpq
        clear hp hpq hpq2 hy
        go_enter Tryz.func99, Tryz.ntmps99
        go_wp2_with (first
          | (go_at_call 112; (first | (with_reducible refine hS1.mono ?_) | (with_reducible refine hS2.mono ?_) | (with_reducible refine (hS2 _ _).mono ?_)); rintro e w' ⟨rfl, rfl⟩))
        go_quiet ((go_at_call 114; exact Calls.quiet_of_same (Calls.flip (units_join _ _ _ h0 h1 hy0 hy1 HPQ.out))))
        go_wp2_with fail
        go_ret3
        exact ⟨by rw [hE.out, hN.out]; rfl, _, rfl⟩
end Go.Proofs.YtfnolkkmldiimaaGreatDoor

/-! C06b -/
namespace Go.Proofs.YtfnolkkmldiimaaGreatDoor
open Go.RowKit
set_option linter.unusedVariables false

theorem half_with (h c : Int) (w : World) (hh : h = 55296 ∨ h = 56320) (h0 : 0 ≤ c) (h1 : c ≤ 2147483647) :
    Calls Tryz.prog 75 #[.int .u16 h, .int .i32 c] w fun e w' => e = .returned (.int .u16 (h + c % 1024)) ∧ w = w' := by
  have e1 := and_i32 10 c 1023 (by decide) (by decide) h0 h1
  have e2 := or_u16 10 h (c % 1024) (by omega) (by omega) (by omega) (by omega) (by omega)
  go_enter Tryz.func75, Tryz.ntmps75
  go_wp2
  go_ret
  exact ⟨rfl, rfl⟩
set_option maxHeartbeats 1000000 in
theorem units_lay (v : Value) (xs : List Int) (c : Int) (w0 w : World) (ho : Own .u16 68 w0.heap.size w v xs) (hb : Below w0.heap.size w0 w) (hn : xs.length < 100000000000) (hs : scB c = true) :
    Calls Tryz.prog 48 #[v, .int .i32 c] w fun e w' => ∃ v', e = .returned v' ∧ Own .u16 68 w0.heap.size w' v' (xs ++ uns c) ∧ Below w0.heap.size w0 w' := by
  have hc := (scB_iff c).1 hs
  have hwf := hid (uns_wf c)
  by_cases h1 : c < 65536
  · have e : uns c = [c] := by unfold uns; rw [if_pos hs, if_pos h1]
    rw [e] at hwf ⊢
    clear e
    go_enter Tryz.func48, Tryz.ntmps48
    go_wp2_with (at_builtin; go_must (refine wpList_push CT16 rfl _ _ rfl rfl ⟨_, rfl⟩ ho hb (by omega) (hwf.out c (List.mem_singleton.2 rfl)) ?_); intro v3 w3 ho3 hb3)
    go_ret
    exact ⟨_, rfl, ho3, hb3⟩
  · have e : uns c = [55296 + (c - 65536) / 1024 % 1024, 56320 + (c - 65536) % 1024] := by unfold uns; rw [if_pos hs, if_neg h1, show (c - 65536) / 1024 % 1024 = (c - 65536) / 1024 by omega]
    rw [e] at hwf ⊢
    clear e
    go_enter Tryz.func48, Tryz.ntmps48
    go_wp2_with (first
      | (go_at_call 75; (with_reducible refine (half_with _ _ _ (by omega) (by omega) (by omega)).mono ?_); rintro e w' ⟨rfl, rfl⟩)
      | (at_builtin; go_must (refine wpList_pushs CT16 [55296 + (c - 65536) / 1024 % 1024, 56320 + (c - 65536) % 1024] rfl _ _ rfl rfl ⟨_, rfl⟩ ho hb (by simp; omega) hwf.out ?_); intro v3 w3 ho3 hb3))
    go_ret
    exact ⟨_, rfl, ho3, hb3⟩
set_option maxHeartbeats 1000000 in
theorem units_LayNo (a : Option Addr) (len cap : Nat) (xs : List Int) (w : World) (hr : Reads .i32 w a len cap xs) (hs : xs.all scB = false) :
    Calls Tryz.prog 25 #[.slice a len cap] w fun e w' => e = .returned (.tuple #[.slice none 0 0, .int .i64 7]) ∧ w = w' := by
  have HR := hid hr
  clear hr
  go_enter Tryz.func25, Tryz.ntmps25
  go_wp2_with (go_at_call 20; (with_reducible refine (scalar_Right _ _ _ _ _ HR.out).mono ?_); rintro e w' ⟨rfl, rfl⟩)
  go_ret2
  exact ⟨rfl, rfl⟩
set_option maxHeartbeats 1000000 in
theorem units_Lay (a : Option Addr) (len cap : Nat) (xs : List Int) (w : World) (hr : Reads .i32 w a len cap xs) (hN : len < 10000000000) (hs : xs.all scB = true) :
    Calls Tryz.prog 25 #[.slice a len cap] w fun e w' => ∃ a' cap', e = .returned (.tuple #[.slice a' (unL xs).length cap', .int .i64 0]) ∧ Reads .u16 w' a' (unL xs).length cap' (unL xs) ∧ Below w.heap.size w w' := by
  have HR := hid hr
  have hsz := hr.size
  have HS := hid (List.all_eq_true.1 hs)
  clear hr
  go_enter Tryz.func25, Tryz.ntmps25
  go_wp2_with (first
    | (go_at_call 20; (with_reducible refine (scalar_Right _ _ _ _ _ HR.out).mono ?_); rintro e w' ⟨rfl, rfl⟩)
    | (at_make; (refine wpList_make0 (n := len) CT16 rfl _ _ rfl rfl rfl (Below.refl _ _) (by omega) ?_); intro v1 w1 ho1 hb1))
  go_loopw [4, 15] (fun v i wr => ∃ k : Nat, k ≤ len ∧ i = .int .i64 k ∧ Own .u16 68 w.heap.size wr v (unL (xs.take k)) ∧ Below w.heap.size w wr) (fun _ i _ => len - (intOf i).toNat)
  case atStart => exact ⟨0, Nat.zero_le _, rfl, ho1, hb1⟩
  case round =>
    obtain ⟨k, hk, rfl, hown', hbel'⟩ := hrel
    by_cases hlt : k < len
    · obtain ⟨b, off, x, rfl, _, hc, h0, h1, hx⟩ := (HR.out.below hbel').getR hlt
      have hsx := hid (HS.out x (List.mem_of_getElem? hx.out.1))
      have hb1 := unL_take xs k
      rw [hsz] at hb1
      go_wp2_with (go_at_call 48; (with_reducible refine (units_lay _ _ _ _ _ hown' hbel' (by omega) hsx.out).mono ?_); rintro e w3 ⟨v3, rfl, ho3, hb3⟩)
      rw [← unL_snoc hx.out.2] at ho3
      clear hown' hbel'
      go_roundw
      case rel => exact ⟨k + 1, by omega, by go_num, ho3, hb3⟩
      case measure => simp [intOf]; omega
    · go_wp2_with fail
      obtain ⟨a', cap', rfl, hrd⟩ := hown'.reads
      rw [HR.out.all (show len ≤ k by omega)] at hrd
      go_ret2
      exact ⟨a', cap', by rw [HR.out.all (show len ≤ k by omega)]; rfl, hrd, hbel'⟩
set_option maxHeartbeats 1000000 in
theorem units_Octets (a : Option Addr) (len cap : Nat) (xs : List Int) (w : World) (hr : Reads .u16 w a len cap xs) (hN : len < 10000000000) :
    Calls Tryz.prog 27 #[.slice a len cap] w fun e w' => ∃ a' cap', e = .returned (.slice a' (ocU xs).length cap') ∧ Reads .u8 w' a' (ocU xs).length cap' (ocU xs) ∧ Below w.heap.size w w' := by
  have HR := hid hr
  have hsz := hr.size
  clear hr
  go_enter Tryz.func27, Tryz.ntmps27
  go_wp2_with (at_make; (refine wpList_make0 (n := 2 * len) CT8 rfl _ _ rfl rfl rfl (Below.refl _ _) (by omega) ?_); intro v1 w1 ho1 hb1)
  go_loopw [3, 12] (fun v i wr => ∃ k : Nat, k ≤ len ∧ i = .int .i64 k ∧ Own .u8 5 w.heap.size wr v (ocU (xs.take k)) ∧ Below w.heap.size w wr) (fun _ i _ => len - (intOf i).toNat)
  case atStart => exact ⟨0, Nat.zero_le _, rfl, ho1, hb1⟩
  case round =>
    obtain ⟨k, hk, rfl, hown', hbel'⟩ := hrel
    by_cases hlt : k < len
    · obtain ⟨b, off, x, rfl, _, hc, h0, h1, hx⟩ := (HR.out.below hbel').get16 hlt
      have hb1 := ocU_len (xs.take k)
      rw [List.length_take] at hb1
      have hwf : Hid (∀ y ∈ [x / 256, x % 256], (Lit.int .u8 y).wf = true) := by
        intro y hy; simp at hy; rcases hy with rfl | rfl <;> exact mk_u8 (by omega) (by omega)
      go_wp2_with (at_builtin; go_must (refine wpList_pushs CT8 [x / 256, x % 256] rfl _ _ rfl rfl ⟨_, rfl⟩ hown' hbel' (by simp; omega) hwf.out ?_); intro v3 w3 ho3 hb3)
      rw [← ocU_snoc hx.out.2] at ho3
      clear hown' hbel'
      go_roundw
      case rel => exact ⟨k + 1, by omega, by go_num, ho3, hb3⟩
      case measure => simp [intOf]; omega
    · go_wp2_with fail
      obtain ⟨a', cap', rfl, hrd⟩ := hown'.reads
      rw [HR.out.all (show len ≤ k by omega)] at hrd
      go_ret
      exact ⟨a', cap', by rw [HR.out.all (show len ≤ k by omega)]; rfl, hrd, hbel'⟩
end Go.Proofs.YtfnolkkmldiimaaGreatDoor
