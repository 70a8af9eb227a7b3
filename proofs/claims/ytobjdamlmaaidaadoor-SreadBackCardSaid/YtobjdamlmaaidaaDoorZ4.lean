/-
  Texts of ours laid together: C03, C04, C04b, C05, C05b, C05c, C06, C06b, C06c, C06d, C06e, D23b, Stm, StmB, Grb, C23c.
-/
import Derived.Test.YtobjdamlmaaidaaDoorRows
import Derived.Handy
import Derived.RangeFuncNested
import Derived.RangeFuncBox
import Derived.RangeFuncCalls
import Derived.RangeFuncLeaves
import Derived.Shelf.Abstract
import Derived.Shelf.RegionOpen
import Derived.OwnWalkIn
import Derived.TacticsInMore
import Derived.LoopNIn
import Derived.LoopIn
import Derived.Maps.AppendAt
import Derived.Test.YtobjdamlmaaidaaDoorZ3

/-! C03 -/
namespace Go.Proofs.YtobjdamlmaaidaaDoor
open Go.RowKit
set_option linter.unusedVariables false

theorem CTR : SliceT Tryd.prog 22 21 .i32 4 := ⟨Tryd.underlying22, by kernel_rfl, by decide⟩

theorem scalar_Surrogate (c : Int) (w : World) :
    Calls Tryd.prog 62 #[.int .i32 c] w fun e w' => e = .returned (.bool (surB c)) ∧ w = w' := by
  go_enter Tryd.func62, Tryd.ntmps62
  go_wp2
  all_goals (go_ret; exact ⟨ret_bool (by unfold surB; simp; omega), rfl⟩)
theorem scalar_Is (c : Int) (w : World) :
    Calls Tryd.prog 51 #[.int .i32 c] w fun e w' => e = .returned (.bool (scB c)) ∧ w = w' := by
  go_enter Tryd.func51, Tryd.ntmps51
  go_wp2_with (go_at_call 62; (with_reducible refine (scalar_Surrogate _ _).mono ?_); rintro e w' ⟨rfl, rfl⟩)
  all_goals (go_ret; exact ⟨ret_bool (by first | exact sc_of ‹_› ‹_› | (unfold scB; simp; omega)), rfl⟩)
theorem scalar_First1 (c : Int) (w : World) :
    Calls Tryd.prog 50 #[.int .i32 c] w fun e w' => e = .returned (.bool (!scB c)) ∧ w = w' := by
  go_enter Tryd.func50, Tryd.ntmps50
  go_wp2_with (go_at_call 51; (with_reducible refine (scalar_Is _ _).mono ?_); rintro e w' ⟨rfl, rfl⟩)
  go_ret
  exact ⟨rfl, rfl⟩
set_option maxHeartbeats 1000000 in
theorem idx_First1 (a : Option Addr) (len cap : Nat) (xs : List Int) (w : World) (hr : Reads .i32 w a len cap xs) :
    Calls Tryd.prog 49 #[.slice a len cap, .func (.func 50) #[] #[]] w fun e w' => e = .returned (.int .i64 (idxI (fun c => !scB c) xs)) ∧ w = w' := by
  have hl := hr.len_le
  have HR := hid hr
  clear hr
  go_enter Tryd.func49, Tryd.ntmps49
  go_wp2
  go_loop [8] (fun i => ∃ k : Nat, k ≤ len ∧ i = .int .i64 k ∧ Hid ((xs.take k).any (fun c => !scB c) = false)) (fun i => len - (intOf i).toNat)
  case atStart => exact ⟨0, Nat.zero_le _, rfl, rfl⟩
  case round =>
    obtain ⟨k, hk, rfl, hn⟩ := hrel
    by_cases hlt : k < len
    · obtain ⟨b, off, x, rfl, _, hc, h0, h1, hx⟩ := HR.out.getR hlt
      cases hs : scB x
      · have H := hid hs
        go_wp2_with (go_at_call 50; (with_reducible refine (scalar_First1 _ _).mono ?_); rintro e w' ⟨rfl, rfl⟩)
        go_ret
        exact ⟨ret_int (idx_hit hx.out.1 hn.out (by simp [H.out])).symm, rfl⟩
      · have H := hid hs
        go_wp2_with (go_at_call 50; (with_reducible refine (scalar_First1 _ _).mono ?_); rintro e w' ⟨rfl, rfl⟩)
        go_round
        case rel => exact ⟨k + 1, by omega, by go_num, none_yes hx.out.2 hn.out (by simp [H.out])⟩
        case measure => simp [intOf]; omega
    · go_wp2
      go_ret
      exact ⟨ret_int (by rw [← HR.out.all (show len ≤ k by omega)]; exact (idx_none hn.out).symm), rfl⟩
theorem scalar_First (a : Option Addr) (len cap : Nat) (xs : List Int) (w : World) (hr : Reads .i32 w a len cap xs) :
    Calls Tryd.prog 41 #[.slice a len cap] w fun e w' => e = .returned (.int .i64 (idxI (fun c => !scB c) xs)) ∧ w = w' := by
  go_enter Tryd.func41, Tryd.ntmps41
  go_wp2_with (go_at_call 49; (with_reducible refine (idx_First1 _ _ _ _ _ hr).mono ?_); rintro e w' ⟨rfl, rfl⟩)
  go_ret
  exact ⟨rfl, rfl⟩
theorem scalar_Right (a : Option Addr) (len cap : Nat) (xs : List Int) (w : World) (hr : Reads .i32 w a len cap xs) :
    Calls Tryd.prog 28 #[.slice a len cap] w fun e w' => e = .returned (.bool (xs.all scB)) ∧ w = w' := by
  have hb := hid (idx_neg (fun c => !scB c) xs)
  simp only [Bool.not_not] at hb
  go_enter Tryd.func28, Tryd.ntmps28
  go_wp2_with (go_at_call 41; (with_reducible refine (scalar_First _ _ _ _ _ hr).mono ?_); rintro e w' ⟨rfl, rfl⟩)
  go_ret
  exact ⟨ret_bool hb.out, rfl⟩

end Go.Proofs.YtobjdamlmaaidaaDoor

/-! C04 -/
namespace Go.Proofs.YtobjdamlmaaidaaDoor
open Go.RowKit
set_option linter.unusedVariables false

theorem ret_ii3 {k k2 k3 : IntKind} {a b c d e f : Int} (h : a = b) (h' : c = d) (h2 : e = f) : Ending.returned (.tuple #[.int k a, .int k2 c, .int k3 e]) = .returned (.tuple #[.int k b, .int k2 d, .int k3 f]) := by rw [h, h', h2]


end Go.Proofs.YtobjdamlmaaidaaDoor

/-! C04b -/
namespace Go.Proofs.YtobjdamlmaaidaaDoor
open Go.RowKit
set_option linter.unusedVariables false

def bgW : List Int → Nat
  | [] => 0
  | a :: _ => startN a
def bgT : List Int → Int
  | [] => 0
  | a :: r => if startN a = 0 then 0 else topU a r (farN (a :: r))
theorem clr1 : ∀ n : Fin 128, bits .andNot .i32 (n.val : Int) 0 = n.val - 0 := by decide +kernel
theorem clr2 : ∀ n : Fin 32, bits .andNot .i32 ((192 + n.val : Nat) : Int) 192 = ((192 + n.val : Nat) : Int) - 192 := by decide +kernel
theorem clr3 : ∀ n : Fin 16, bits .andNot .i32 ((224 + n.val : Nat) : Int) 224 = ((224 + n.val : Nat) : Int) - 224 := by decide +kernel
theorem clr4 : ∀ n : Fin 8, bits .andNot .i32 ((240 + n.val : Nat) : Int) 240 = ((240 + n.val : Nat) : Int) - 240 := by decide +kernel
theorem clr (a : Int) (h0 : 0 ≤ a) (h : startN a ≠ 0) : bits .andNot .i32 a (markI (startN a)) = a - markI (startN a) := by
  have h4 := startN_le a
  obtain ⟨n, rfl⟩ := Int.eq_ofNat_of_zero_le h0
  rcases (show startN n = 1 ∨ startN n = 2 ∨ startN n = 3 ∨ startN n = 4 by omega) with e | e | e | e <;> rw [e]
  · rw [start_1] at e; exact clr1 ⟨n, by omega⟩
  · rw [start_2] at e; have := clr2 ⟨n - 192, by omega⟩; simp only at this; rwa [show 192 + (n - 192) = n by omega] at this
  · rw [start_3] at e; have := clr3 ⟨n - 224, by omega⟩; simp only at this; rwa [show 224 + (n - 224) = n by omega] at this
  · rw [start_4] at e; have := clr4 ⟨n - 240, by omega⟩; simp only at this; rwa [show 240 + (n - 240) = n by omega] at this


end Go.Proofs.YtobjdamlmaaidaaDoor

/-! C05 -/
namespace Go.Proofs.YtobjdamlmaaidaaDoor
open Go.RowKit Go.Shelf
set_option linter.unusedVariables false
attribute [local go_sem] Oper.semAt_some


/-- A sign, as yield is handed it. -/
def encS (p : Int × Int) : Array Value := #[.int .i32 p.1, .int .i64 p.2]


end Go.Proofs.YtobjdamlmaaidaaDoor

/-! C05b -/
namespace Go.Proofs.YtobjdamlmaaidaaDoor
open Go.RowKit Go.Shelf
set_option linter.unusedVariables false
attribute [local go_sem] Oper.semAt_some



end Go.Proofs.YtobjdamlmaaidaaDoor

/-! C05c -/
namespace Go.Proofs.YtobjdamlmaaidaaDoor
open Go.RowKit Go.Shelf
set_option linter.unusedVariables false
attribute [local go_sem] Oper.semAt_some

def encR (pre : List (Int × Int)) : List Value := pre.map (fun p => .int .i32 p.1)
theorem encR_snoc (pre : List (Int × Int)) (x : Int × Int) : encR (pre ++ [x]) = encR pre ++ [.int .i32 x.1] := by simp [encR]
theorem encR_txt (xs : List Int) : encR (sigs xs) = (txt xs).map (Value.int .i32) := by simp [encR, txt, Function.comp_def]
theorem reads_row {e : TypeId} {base : Nat} {w : World} {v : Value} {xs : List Int} (h : w.ownsRow base e 1 v (sigs xs).length (encR (sigs xs))) (hwf : ∀ x ∈ txt xs, (Lit.int .i32 x).wf = true) :
    ∃ a cap, v = .slice a (sigs xs).length cap ∧ Reads .i32 w a (sigs xs).length cap (txt xs) := by
  have hO : Own .i32 e base w v (txt xs) := ⟨by rw [txt_len, ← encR_txt]; exact h, hwf⟩
  obtain ⟨a, cap, hv, hr⟩ := hO.reads
  rw [txt_len] at hv hr
  exact ⟨a, cap, hv, hr⟩
theorem own_row {n₀ D : Nat} {w : World} (hn : n₀ ≤ w.heap.size) (hD : n₀ ≤ D) (B : Nat) (t e : TypeId) :
    OwnFrom D (fun (pre : List (Int × Int)) W => (∃ v, Boxed W B t v ∧ W.ownsRow n₀ e 1 v pre.length (encR pre) ∧ True) ∧ Below n₀ w W) :=
  OwnFrom.and (Go.Own.from (holdsRow_own n₀ B t e 1 (fun pre => pre.length) encR (fun _ _ => True)) _) (ownFrom_below hn hD)


end Go.Proofs.YtobjdamlmaaidaaDoor

/-! C06 -/
namespace Go.Proofs.YtobjdamlmaaidaaDoor
open Go.RowKit
set_option linter.unusedVariables false

theorem CT16 : SliceT Tryd.prog 48 70 .u16 2 := ⟨Tryd.underlying48, by kernel_rfl, by decide⟩
theorem half_high (u : Int) (w : World) (h0 : 0 ≤ u) (h1 : u ≤ 65535) :
    Calls Tryd.prog 70 #[.int .u16 55296, .int .u16 u] w fun e w' => e = .returned (.bool (hiB u)) ∧ w = w' := by
  have e1 := clear_u16 10 u 1023 (by decide) (by decide) h0 h1
  have e2 := hid (hi_clear u)
  go_enter Tryd.func70, Tryd.ntmps70
  go_wp2
  go_ret
  exact ⟨ret_bool e2.out, rfl⟩
theorem half_low (u : Int) (w : World) (h0 : 0 ≤ u) (h1 : u ≤ 65535) :
    Calls Tryd.prog 70 #[.int .u16 56320, .int .u16 u] w fun e w' => e = .returned (.bool (loB u)) ∧ w = w' := by
  have e1 := clear_u16 10 u 1023 (by decide) (by decide) h0 h1
  have e2 := hid (lo_clear u)
  go_enter Tryd.func70, Tryd.ntmps70
  go_wp2
  go_ret
  exact ⟨ret_bool e2.out, rfl⟩
theorem Reads.head16 {w : World} {a : Option Addr} {len cap : Nat} {x : Int} {r : List Int} (h : Reads .u16 w a len cap (x :: r)) :
    ∃ b off, a = some ⟨b, off, none⟩ ∧ b < w.heap.size ∧ w.cell? ⟨b, off, none⟩ = some (.int .u16 x) ∧ 0 ≤ x ∧ x ≤ 65535 ∧ 0 < len := by
  have hs := h.size
  have hp : 0 < len := by simp at hs; omega
  obtain ⟨b, off, y, ha, hb, hc, h0, h1, hx⟩ := h.get16 hp
  have e : x = y := by have := hx.out.1; simpa using this
  subst e
  exact ⟨b, off, ha, hb, hc, h0, h1, hp⟩
theorem starts_high (a : Option Addr) (len cap : Nat) (xs : List Int) (w : World) (hr : Reads .u16 w a len cap xs) :
    Calls Tryd.prog 69 #[.slice a len cap, .func (.func 70) #[.int .u16 55296] #[]] w fun e w' => e = .returned (.bool (hdB hiB xs)) ∧ w = w' := by
  cases xs with
  | nil =>
    obtain rfl : 0 = len := hr.size
    clear hr
    go_enter Tryd.func69, Tryd.ntmps69
    go_wp2
    go_ret
    exact ⟨rfl, rfl⟩
  | cons x r =>
    have hl := hr.len_le
    obtain ⟨b, off, rfl, _, hc, h0, h1, hp⟩ := hr.head16
    clear hr
    go_enter Tryd.func69, Tryd.ntmps69
    go_wp2_with (go_at_call 70; (with_reducible refine (half_high _ _ h0 h1).mono ?_); rintro e w' ⟨rfl, rfl⟩)
    go_ret
    exact ⟨rfl, rfl⟩
theorem starts_none (a : Option Addr) (cap : Nat) (v : Value) (w : World) :
    Calls Tryd.prog 69 #[.slice a 0 cap, v] w fun e w' => e = .returned (.bool false) ∧ w = w' := by
  go_enter Tryd.func69, Tryd.ntmps69
  go_wp2
  go_ret
  exact ⟨rfl, rfl⟩
theorem starts_low (a : Option Addr) (len cap : Nat) (xs : List Int) (w : World) (hr : Reads .u16 w a len cap xs) :
    Calls Tryd.prog 69 #[.slice a len cap, .func (.func 70) #[.int .u16 56320] #[]] w fun e w' => e = .returned (.bool (hdB loB xs)) ∧ w = w' := by
  cases xs with
  | nil =>
    obtain rfl : 0 = len := hr.size
    clear hr
    go_enter Tryd.func69, Tryd.ntmps69
    go_wp2
    go_ret
    exact ⟨rfl, rfl⟩
  | cons x r =>
    have hl := hr.len_le
    obtain ⟨b, off, rfl, _, hc, h0, h1, hp⟩ := hr.head16
    clear hr
    go_enter Tryd.func69, Tryd.ntmps69
    go_wp2_with (go_at_call 70; (with_reducible refine (half_low _ _ h0 h1).mono ?_); rintro e w' ⟨rfl, rfl⟩)
    go_ret
    exact ⟨rfl, rfl⟩
theorem units_join (x y : Int) (w : World) (h0 : 0 ≤ x) (h1 : x ≤ 65535) (h2 : 0 ≤ y) (h3 : y ≤ 65535) (h : (hiB x && loB y) = true) :
    Calls Tryd.prog 71 #[.int .u16 x, .int .u16 y] w fun e w' => e = .returned (.int .i32 (pairU x y)) ∧ w = w' := by
  have e1 := and_u16 10 x 1023 (by decide) (by decide) h0 h1
  have e2 := and_u16 10 y 1023 (by decide) (by decide) h2 h3
  have e3 := or_i32 10 (x % 1024 * 1024) (y % 1024) (by omega) (by omega) (by omega) (by omega) (by omega)
  rw [Bool.and_eq_true, hiB_iff, loB_iff] at h
  go_enter Tryd.func71, Tryd.ntmps71
  go_wp2
  go_ret
  exact ⟨ret_int (by unfold pairU; omega), rfl⟩
theorem takeU_arms {x : Int} {r : List Int} (h : surB x = true) : ut1 (x :: r) = if utP (x :: r) = true then (pairU x (r.getD 0 0), 0) else (65533, if r = [] ∧ hiB x = true then 4 else 3) := by
  unfold ut1
  simp only [List.getD_cons_zero, List.getD_cons_succ, h, if_true]
  congr 2
  cases r <;> simp
set_option maxHeartbeats 1000000 in
theorem units_take (a : Option Addr) (len cap : Nat) (xs : List Int) (w : World) (hr : Reads .u16 w a len cap xs) (hne : xs ≠ []) :
    Calls Tryd.prog 59 #[.slice a len cap] w fun e w' => e = .returned (.tuple #[.int .i32 (ut1 xs).1, .int .i64 (utN xs), .int .i64 (ut1 xs).2]) ∧ ∃ n, w' = w.drewN n := by
  have hl := hr.len_le
  have hsz := hr.size
  have hroom := hr.room
  match xs, hne with
  | [], h => exact absurd rfl h
  | x :: r, _ =>
    obtain ⟨b, off, rfl, _, hc, h0, h1, hpos⟩ := hr.head16
    have hpc := hr.piece (l := 1) (r := len) (by omega) (Nat.le_refl _)
    rw [List.take_of_length_le (by omega), List.drop_succ_cons, List.drop_zero] at hpc
    have hQ := scalar_Surrogate x w
    have hS1 := starts_high _ _ _ _ _ hr
    rw [show hdB hiB (x :: r) = hiB x from rfl] at hS1
    cases hp : utP (x :: r)
    · have hN : Hid (utN (x :: r) = 1) := by unfold utN; rw [Hid, if_neg (by simp [hp])]
      cases hh : hiB x
      · rw [hh] at hS1
        cases hs : surB x
        · have hE : Hid (ut1 (x :: r) = (x, 0)) := by unfold ut1; rw [Hid, if_neg (by simp [hp]), if_neg (by simp [hs])]; rfl
          rw [hs] at hQ
          clear hp hh hs
          go_enter Tryd.func59, Tryd.ntmps59
          go_wp2_with (first
            | (go_at_call 69; (with_reducible refine hS1.mono ?_); rintro e w' ⟨rfl, rfl⟩)
            | (go_at_call 62; (with_reducible refine hQ.mono ?_); rintro e w' ⟨rfl, rfl⟩))
          go_ret3
          exact ⟨by rw [hE.out, hN.out]; rfl, 0, rfl⟩
        · have hE : Hid (ut1 (x :: r) = (65533, 3)) := by rw [Hid, takeU_arms hs, if_neg (by simp [hp]), if_neg (by simp [hh])]
          rw [hs] at hQ
          clear hp hh hs
          by_cases hlen : len = 1
          · subst hlen
            go_enter Tryd.func59, Tryd.ntmps59
            go_wp2_with (first
              | (go_at_call 69; (with_reducible refine hS1.mono ?_); rintro e w' ⟨rfl, rfl⟩)
              | (go_at_call 62; (with_reducible refine hQ.mono ?_); rintro e w' ⟨rfl, rfl⟩))
            go_ret3
            exact ⟨by rw [hE.out, hN.out]; rfl, 0, rfl⟩
          · have hlen' : ((len : Int) == 1) = false := by simp; omega
            go_enter Tryd.func59, Tryd.ntmps59
            go_wp2_with (first
              | (go_at_call 69; (with_reducible refine hS1.mono ?_); rintro e w' ⟨rfl, rfl⟩)
              | (go_at_call 62; (with_reducible refine hQ.mono ?_); rintro e w' ⟨rfl, rfl⟩))
            go_ret3
            exact ⟨by rw [hE.out, hN.out]; rfl, 0, rfl⟩
      · rw [hh] at hS1
        have hlo : hdB loB r = false := by rw [utP_hd] at hp; simpa [hdB, hh] using hp
        have hs : surB x = true := by rw [hi_lo, hh]; rfl
        by_cases hlen : len = 1
        · have hE : Hid (ut1 (x :: r) = (65533, 4)) := by rw [Hid, takeU_arms hs, if_neg (by simp [hp]), if_pos ⟨List.eq_nil_of_length_eq_zero (by simp at hsz; omega), hh⟩]
          rw [hs] at hQ
          clear hp hh hlo hs hpc
          subst hlen
          have hS2 := fun (a : Option Addr) (c : Nat) => starts_none a c (.func (.func 70) #[.int .u16 56320] #[]) w
          go_enter Tryd.func59, Tryd.ntmps59
          go_wp2_with (first
            | (go_at_call 69; (first | (with_reducible refine hS1.mono ?_) | (with_reducible refine hS2.mono ?_) | (with_reducible refine (hS2 _ _).mono ?_)); rintro e w' ⟨rfl, rfl⟩)
            | (go_at_call 62; (with_reducible refine hQ.mono ?_); rintro e w' ⟨rfl, rfl⟩))
          all_goals
            go_ret3
            exact ⟨by rw [hE.out, hN.out]; rfl, 0, rfl⟩
        · have hE : Hid (ut1 (x :: r) = (65533, 3)) := by rw [Hid, takeU_arms hs, if_neg (by simp [hp]), if_neg (by rintro ⟨rfl, _⟩; simp at hsz; omega)]
          rw [hs] at hQ
          have hlen' : ((len : Int) == 1) = false := by simp; omega
          rw [if_neg (by omega)] at hpc
          have hS2 := starts_low _ _ _ _ _ hpc
          rw [hlo] at hS2
          simp only [Option.map_some, Addr.add_lit] at hS2
          clear hp hh hlo hs
          go_enter Tryd.func59, Tryd.ntmps59
          go_wp2_with (first
            | (go_at_call 69; (first | (with_reducible refine hS1.mono ?_) | (with_reducible refine hS2.mono ?_) | (with_reducible refine (hS2 _ _).mono ?_)); rintro e w' ⟨rfl, rfl⟩)
            | (go_at_call 62; (with_reducible refine hQ.mono ?_); rintro e w' ⟨rfl, rfl⟩))
          go_ret3
          exact ⟨by rw [hE.out, hN.out]; rfl, 0, rfl⟩
    · have hN : Hid (utN (x :: r) = 2) := by unfold utN; rw [Hid, if_pos hp]
      match r, hp with
      | [], hp => cases hp
      | y :: r', hp =>
        have hpq : (hiB x && loB y) = true := hp
        have hE : Hid (ut1 (x :: y :: r') = (pairU x y, 0)) := by unfold ut1; rw [Hid, if_pos hp]; rfl
        have hpq2 := hpq
        rw [Bool.and_eq_true] at hpq2
        rw [hpq2.1] at hS1
        have hl2 : 2 ≤ len := by simp at hsz; omega
        rw [if_neg (by omega)] at hpc
        have hS2 := starts_low _ _ _ _ _ hpc
        rw [show hdB loB (y :: r') = true from hpq2.2] at hS2
        simp only [Option.map_some, Addr.add_lit] at hS2
        obtain ⟨b2, off2, y', hb, _, hcy, hy0, hy1, hy⟩ := hr.get16 (i := 1) (by omega)
        cases hb
        obtain rfl : y = y' := by have := hy.out.1; simpa using this
        have HPQ := hid hpq
        clear hp hpq hpq2 hy
        go_enter Tryd.func59, Tryd.ntmps59
        go_wp2_with (first
          | (go_at_call 69; (first | (with_reducible refine hS1.mono ?_) | (with_reducible refine hS2.mono ?_) | (with_reducible refine (hS2 _ _).mono ?_)); rintro e w' ⟨rfl, rfl⟩))
        go_quiet ((go_at_call 71; exact Calls.quiet_of_same (Calls.flip (units_join _ _ _ h0 h1 hy0 hy1 HPQ.out))))
        go_wp2_with fail
        go_ret3
        exact ⟨by rw [hE.out, hN.out]; rfl, _, rfl⟩
end Go.Proofs.YtobjdamlmaaidaaDoor

/-! C06b -/
namespace Go.Proofs.YtobjdamlmaaidaaDoor
open Go.RowKit
set_option linter.unusedVariables false

theorem half_with (h c : Int) (w : World) (hh : h = 55296 ∨ h = 56320) (h0 : 0 ≤ c) (h1 : c ≤ 2147483647) :
    Calls Tryd.prog 78 #[.int .u16 h, .int .i32 c] w fun e w' => e = .returned (.int .u16 (h + c % 1024)) ∧ w = w' := by
  have e1 := and_i32 10 c 1023 (by decide) (by decide) h0 h1
  have e2 := or_u16 10 h (c % 1024) (by omega) (by omega) (by omega) (by omega) (by omega)
  go_enter Tryd.func78, Tryd.ntmps78
  go_wp2
  go_ret
  exact ⟨rfl, rfl⟩
set_option maxHeartbeats 1000000 in
theorem units_lay (v : Value) (xs : List Int) (c : Int) (w0 w : World) (ho : Own .u16 70 w0.heap.size w v xs) (hb : Below w0.heap.size w0 w) (hn : xs.length < 100000000000) (hs : scB c = true) :
    Calls Tryd.prog 65 #[v, .int .i32 c] w fun e w' => ∃ v', e = .returned v' ∧ Own .u16 70 w0.heap.size w' v' (xs ++ uns c) ∧ Below w0.heap.size w0 w' := by
  have hc := (scB_iff c).1 hs
  have hwf := hid (uns_wf c)
  by_cases h1 : c < 65536
  · have e : uns c = [c] := by unfold uns; rw [if_pos hs, if_pos h1]
    rw [e] at hwf ⊢
    clear e
    go_enter Tryd.func65, Tryd.ntmps65
    go_wp2_with (at_builtin; go_must (refine wpList_push CT16 rfl _ _ rfl rfl ⟨_, rfl⟩ ho hb (by omega) (hwf.out c (List.mem_singleton.2 rfl)) ?_); intro v3 w3 ho3 hb3)
    go_ret
    exact ⟨_, rfl, ho3, hb3⟩
  · have e : uns c = [55296 + (c - 65536) / 1024 % 1024, 56320 + (c - 65536) % 1024] := by unfold uns; rw [if_pos hs, if_neg h1, show (c - 65536) / 1024 % 1024 = (c - 65536) / 1024 by omega]
    rw [e] at hwf ⊢
    clear e
    go_enter Tryd.func65, Tryd.ntmps65
    go_wp2_with (first
      | (go_at_call 78; (with_reducible refine (half_with _ _ _ (by omega) (by omega) (by omega)).mono ?_); rintro e w' ⟨rfl, rfl⟩)
      | (at_builtin; go_must (refine wpList_pushs CT16 [55296 + (c - 65536) / 1024 % 1024, 56320 + (c - 65536) % 1024] rfl _ _ rfl rfl ⟨_, rfl⟩ ho hb (by simp; omega) hwf.out ?_); intro v3 w3 ho3 hb3))
    go_ret
    exact ⟨_, rfl, ho3, hb3⟩
set_option maxHeartbeats 1000000 in
theorem units_LayNo (a : Option Addr) (len cap : Nat) (xs : List Int) (w : World) (hr : Reads .i32 w a len cap xs) (hs : xs.all scB = false) :
    Calls Tryd.prog 54 #[.slice a len cap] w fun e w' => e = .returned (.tuple #[.slice none 0 0, .int .i64 7]) ∧ w = w' := by
  have HR := hid hr
  clear hr
  go_enter Tryd.func54, Tryd.ntmps54
  go_wp2_with (go_at_call 28; (with_reducible refine (scalar_Right _ _ _ _ _ HR.out).mono ?_); rintro e w' ⟨rfl, rfl⟩)
  go_ret2
  exact ⟨rfl, rfl⟩
set_option maxHeartbeats 1000000 in
theorem units_Lay (a : Option Addr) (len cap : Nat) (xs : List Int) (w : World) (hr : Reads .i32 w a len cap xs) (hN : len < 10000000000) (hs : xs.all scB = true) :
    Calls Tryd.prog 54 #[.slice a len cap] w fun e w' => ∃ a' cap', e = .returned (.tuple #[.slice a' (unL xs).length cap', .int .i64 0]) ∧ Reads .u16 w' a' (unL xs).length cap' (unL xs) ∧ Below w.heap.size w w' := by
  have HR := hid hr
  have hsz := hr.size
  have HS := hid (List.all_eq_true.1 hs)
  clear hr
  go_enter Tryd.func54, Tryd.ntmps54
  go_wp2_with (first
    | (go_at_call 28; (with_reducible refine (scalar_Right _ _ _ _ _ HR.out).mono ?_); rintro e w' ⟨rfl, rfl⟩)
    | (at_make; (refine wpList_make0 (n := len) CT16 rfl _ _ rfl rfl rfl (Below.refl _ _) (by omega) ?_); intro v1 w1 ho1 hb1))
  go_loopw [4, 15] (fun v i wr => ∃ k : Nat, k ≤ len ∧ i = .int .i64 k ∧ Own .u16 70 w.heap.size wr v (unL (xs.take k)) ∧ Below w.heap.size w wr) (fun _ i _ => len - (intOf i).toNat)
  case atStart => exact ⟨0, Nat.zero_le _, rfl, ho1, hb1⟩
  case round =>
    obtain ⟨k, hk, rfl, hown', hbel'⟩ := hrel
    by_cases hlt : k < len
    · obtain ⟨b, off, x, rfl, _, hc, h0, h1, hx⟩ := (HR.out.below hbel').getR hlt
      have hsx := hid (HS.out x (List.mem_of_getElem? hx.out.1))
      have hb1 := unL_take xs k
      rw [hsz] at hb1
      go_wp2_with (go_at_call 65; (with_reducible refine (units_lay _ _ _ _ _ hown' hbel' (by omega) hsx.out).mono ?_); rintro e w3 ⟨v3, rfl, ho3, hb3⟩)
      rw [← unL_snoc hx.out.2] at ho3
      clear hown' hbel'
      go_roundw
      case rel => exact ⟨k + 1, by omega, by go_num, ho3, hb3⟩
      case measure => simp [intOf]; omega
    · go_wp2_with fail
      obtain ⟨a', cap', rfl, hrd⟩ := hown'.reads
      rw [HR.out.all (show len ≤ k by omega)] at hrd
      go_ret2
      exact ⟨a', cap', by rw [HR.out.all (show len ≤ k by omega)]; rfl, hrd, hbel'⟩
set_option maxHeartbeats 1000000 in
theorem units_Octets (a : Option Addr) (len cap : Nat) (xs : List Int) (w : World) (hr : Reads .u16 w a len cap xs) (hN : len < 10000000000) :
    Calls Tryd.prog 56 #[.slice a len cap] w fun e w' => ∃ a' cap', e = .returned (.slice a' (ocU xs).length cap') ∧ Reads .u8 w' a' (ocU xs).length cap' (ocU xs) ∧ Below w.heap.size w w' := by
  have HR := hid hr
  have hsz := hr.size
  clear hr
  go_enter Tryd.func56, Tryd.ntmps56
  go_wp2_with (at_make; (refine wpList_make0 (n := 2 * len) CT8 rfl _ _ rfl rfl rfl (Below.refl _ _) (by omega) ?_); intro v1 w1 ho1 hb1)
  go_loopw [3, 12] (fun v i wr => ∃ k : Nat, k ≤ len ∧ i = .int .i64 k ∧ Own .u8 5 w.heap.size wr v (ocU (xs.take k)) ∧ Below w.heap.size w wr) (fun _ i _ => len - (intOf i).toNat)
  case atStart => exact ⟨0, Nat.zero_le _, rfl, ho1, hb1⟩
  case round =>
    obtain ⟨k, hk, rfl, hown', hbel'⟩ := hrel
    by_cases hlt : k < len
    · obtain ⟨b, off, x, rfl, _, hc, h0, h1, hx⟩ := (HR.out.below hbel').get16 hlt
      have hb1 := ocU_len (xs.take k)
      rw [List.length_take] at hb1
      have hwf : Hid (∀ y ∈ [x / 256, x % 256], (Lit.int .u8 y).wf = true) := by
        intro y hy; simp at hy; rcases hy with rfl | rfl <;> exact mk_u8 (by omega) (by omega)
      go_wp2_with (at_builtin; go_must (refine wpList_pushs CT8 [x / 256, x % 256] rfl _ _ rfl rfl ⟨_, rfl⟩ hown' hbel' (by simp; omega) hwf.out ?_); intro v3 w3 ho3 hb3)
      rw [← ocU_snoc hx.out.2] at ho3
      clear hown' hbel'
      go_roundw
      case rel => exact ⟨k + 1, by omega, by go_num, ho3, hb3⟩
      case measure => simp [intOf]; omega
    · go_wp2_with fail
      obtain ⟨a', cap', rfl, hrd⟩ := hown'.reads
      rw [HR.out.all (show len ≤ k by omega)] at hrd
      go_ret
      exact ⟨a', cap', by rw [HR.out.all (show len ≤ k by omega)]; rfl, hrd, hbel'⟩
end Go.Proofs.YtobjdamlmaaidaaDoor

/-! C06c -/
namespace Go.Proofs.YtobjdamlmaaidaaDoor
open Go.RowKit
set_option linter.unusedVariables false

end Go.Proofs.YtobjdamlmaaidaaDoor

/-! C06d -/
namespace Go.Proofs.YtobjdamlmaaidaaDoor
open Go.RowKit Go.Shelf
set_option linter.unusedVariables false
attribute [local go_sem] Oper.semAt_some

def lenOfV : Value → Nat
  | .slice _ n _ => n
  | _ => 0
set_option maxRecDepth 100000 in
set_option maxHeartbeats 2000000 in
theorem usigns1_in (n l Bs n₀ : Nat) (hn : 1 ≤ n) (a : Option Addr) (len cap : Nat) (xs : List Int) (J Jx : List (Int × Int) → World → Prop) (W : World)
    (hJa : AbidesFrom W.heap.size J) (hn₀ : n₀ ≤ W.heap.size) (w0 : World) (hw0 : w0.heap.size ≤ n₀) (hr : Reads .u16 w0 a len cap xs) (hb0 : Below w0.heap.size w0 W)
    (hY : ∀ pre x W, J pre W → pre.length < len → YieldAt Fence.wide (n - 1) Tryd.prog l (encS x) W fun e W' =>
      (e = .returned (.bool true) ∧ J (pre ++ [x]) W' ∧ KeepsBox n₀ Bs 48 W W') ∨ (e = .returned (.bool false) ∧ Jx (pre ++ [x]) W'))
    (hBs : Boxed W Bs 48 (.slice a len cap)) (h0 : J [] W) :
    CallsIn Fence.wide n Tryd.prog 58 #[.func (.yield l) #[] #[], .pointer (some ⟨Bs, 0, none⟩)] W fun e W' => (∃ v, e = .returned v) ∧
      ((∃ ys, ys = usigs xs ∧ J ys W') ∨ (∃ pre, pre <+: usigs xs ∧ Jx pre W')) := by
  have hl := hr.len_le
  have HR := hid hr
  have hc := hBs.cell
  clear hr
  refine callsIn_of_wp Tryd.func58 rfl trivial ?_ rfl
  simp only [Tryd.ntmps58, List.size_toArray, List.length_cons, List.length_nil, Nat.reduceAdd, Nat.reduceSub, Array.replicate_succ, Array.replicate_zero, List.push_toArray, List.append_toArray, List.nil_append, List.cons_append]
  gi_wp2
  gi_loopw [3] (fun v wr => ∃ (m : Nat) (a' : Option Addr) (c' : Nat) (ys : List Int) (pre : List (Int × Int)), pre.length + m ≤ len ∧ v = .slice a' m c' ∧ Hid (pre ++ usigs ys = usigs xs) ∧ J pre wr ∧ Hid (Reads .u16 w0 a' m c' ys) ∧ Below n₀ W wr) (fun v _ => lenOfV v)
  case atStart => exact ⟨len, a, cap, xs, [], by simp, rfl, rfl, h0, HR, Below.refl _ _⟩
  case round =>
    obtain ⟨m, a', c', ys, pre, hpm, rfl, hps, hJs, hR, hnx⟩ := hrel
    have hszy := hR.out.size
    have hroom := hR.out.room
    clear hc
    by_cases hlt : 0 < m
    · have hne : ys ≠ [] := by intro h; subst h; simp at hszy; omega
      have hrd := hR.out.below (hb0.trans (hnx.mono hw0))
      have hT := units_take _ _ _ _ _ hrd hne
      have hsg := usigs_cons hne
      have hp0 := utN_pos ys
      have hp1 := utN_le hne
      rw [hszy] at hp1
      have hpc := hid (hR.out.piece (l := utN ys) (r := m) hp1 (Nat.le_refl _))
      rw [List.take_of_length_le (by omega)] at hpc
      have hnext : Hid (pre ++ [ut1 ys] ++ usigs (ys.drop (utN ys)) = usigs xs) := by
        rw [Hid, ← hps.out, hsg, List.append_assoc]; rfl
      have hfs : Hid (pre ++ [ut1 ys] <+: usigs xs) := ⟨_, hnext.out⟩
      have hpl : pre.length < len := by omega
      clear hsg hne hps
      gi_wp2_with (refine ⟨trivial, ?_⟩; gi_at_call 59; (with_reducible refine (callsIn_wide.2 hT).mono ?_); rintro e w' ⟨rfl, n1, rfl⟩; obtain ⟨fn, tmps, assign, body, hy, hR⟩ := hY pre (ut1 ys) _ (abides_drewN hJa hJs n1) hpl; unfold encS at hy)
      refine hR.mono ?_
      rintro e W3 (⟨rfl, hJ3, hk3⟩ | ⟨rfl, hJx3⟩)
      · have hnx3 := (Below.drewN hnx n1).trans hk3.1
        gi_wp2_with fail
        trace_state
        all_goals
          go_roundw
          case rel => exact ⟨m - utN ys, _, _, _, _, by simp; omega, rfl, hnext, hJ3, by have := hpc.out; simp_all, hnx3⟩
          case measure => simp [lenOfV]; omega
      · gi_wp2_with fail
        refine bodyPost_ret (results_none rfl _ _ _) rfl ?_
        exact ⟨⟨_, rfl⟩, .inr ⟨_, hfs.out, hJx3⟩⟩
    · obtain rfl : m = 0 := by omega
      obtain rfl : ys = [] := List.eq_nil_of_length_eq_zero hszy
      have hend : Hid (pre = usigs xs) := by
        have := hps.out
        rw [usigs_nil, List.append_nil] at this
        exact this
      gi_wp2_with fail
      go_end0
      exact ⟨⟨_, rfl⟩, .inl ⟨_, hend.out, hJs⟩⟩
set_option maxHeartbeats 1000000 in
theorem units_signs (n : Nat) (a : Option Addr) (len cap : Nat) (w : World) :
    CallsIn Fence.wide n Tryd.prog 47 #[.slice a len cap] w fun e w' => e = .returned (.func (.func 58) #[] #[.pointer (some ⟨w.heap.size, 0, none⟩)]) ∧ w' = w.alloc (.cells #[.slice a len cap] 48) := by
  refine callsIn_of_wp Tryd.func47 rfl trivial ?_ rfl
  simp only [Tryd.ntmps47, List.size_toArray, List.length_cons, List.length_nil, Nat.reduceAdd, Nat.reduceSub, Array.replicate_succ, Array.replicate_zero, List.push_toArray, List.append_toArray, List.nil_append, List.cons_append]
  gi_wp2
  go_ret
  exact ⟨rfl, rfl⟩
/-- The value that signs hands back: all signs in their order; or a beginning, where a round has said 'no more'. -/
theorem usigns_stops (n Bs n₀ : Nat) (hn : 1 ≤ n) (a : Option Addr) (len cap : Nat) (xs : List Int) (w0 w : World) (hr : Reads .u16 w0 a len cap xs) (hw0 : w0.heap.size ≤ n₀) (hn₀ : n₀ ≤ w.heap.size) (hb0 : Below w0.heap.size w0 w)
    (hlt : Bs < w.heap.size) (hBs : Boxed w Bs 48 (.slice a len cap)) :
    SeqStopsK Fence.wide n Tryd.prog 58 #[.pointer (some ⟨Bs, 0, none⟩)] encS (KeepsBox n₀ Bs 48) (fun ys => ys = usigs xs) (fun pre => pre <+: usigs xs) len w := fun l J Jx W hW hJ _ hY h0 =>
  usigns1_in n l Bs n₀ hn a len cap xs J Jx W hJ (Nat.le_trans hn₀ hW.size) w0 hw0 hr (hb0.trans (hW.mono (Nat.le_trans hw0 hn₀))) hY ((hW.block Bs hlt).trans hBs) h0

end Go.Proofs.YtobjdamlmaaidaaDoor

/-! C06e -/
namespace Go.Proofs.YtobjdamlmaaidaaDoor
open Go.RowKit Go.Shelf
set_option linter.unusedVariables false
attribute [local go_sem] Oper.semAt_some

set_option maxRecDepth 100000 in
set_option maxHeartbeats 2000000 in
theorem units_Right (a : Option Addr) (len cap : Nat) (xs : List Int) (w : World) (hr : Reads .u16 w a len cap xs) :
    Calls Tryd.prog 39 #[.slice a len cap] w fun e w' => e = .returned (.bool (decide (errP (usigs xs) = 0))) ∧ Below w.heap.size w w' := by
  have hl := hr.len_le
  refine (callsIn_wide (n := 4)).1 ?_
  refine callsIn_of_wp_marks Tryd.func39 rfl trivial ?_ rfl
  simp only [Tryd.ntmps39, List.size_toArray, List.length_cons, List.length_nil, Nat.reduceAdd, Nat.reduceSub, Array.replicate_succ, Array.replicate_zero, List.push_toArray, List.append_toArray, List.nil_append, List.cons_append]
  gi_wp2_with (refine ⟨trivial, ?_⟩; gi_at_call 47; (with_reducible refine (units_signs _ _ _ _ _).mono ?_); rintro e w' ⟨rfl, rfl⟩)
  obtain ⟨b1, b2, hB0⟩ := two_boxes w 4 48 (.bool false) (.slice a len cap)
  refine wpIn_rangeFunc_ownG rfl (by omega) (gf := 58) (lb := #[.pointer (some ⟨w.heap.size + 1, 0, none⟩)]) rfl trivial (enters_of Tryd.func58 (by kernel_rfl) rfl)
    (usigns_stops 3 (w.heap.size + 1) w.heap.size (by omega) a len cap xs w _ hr (Nat.le_refl _) hB0.size hB0 (by simp) b2) keepsBox_t (keepsBox_b hB0.size) (Below.refl _ _) (fun _ => rfl)
    (fun pre W => errP pre = 0 ∧ Boxed W w.heap.size 4 (.bool false) ∧ Below w.heap.size w W)
    (fun c pre W => (c = .ret ∧ errP pre ≠ 0) ∧ Boxed W w.heap.size 4 (.bool false) ∧ Below w.heap.size w W)
    (OwnFrom.and (ownFrom_pure _ (fun pre => errP pre = 0)) (own_box (Nat.le_refl _) hB0.size _ _ (fun _ => .bool false)))
    (fun c => OwnFrom.and (ownFrom_pure _ (fun pre => c = .ret ∧ errP pre ≠ 0)) (own_box (Nat.le_refl _) hB0.size _ _ (fun _ => .bool false)))
    ⟨rfl, b1, hB0⟩
    (fun x => { tmps := #[.slice a len cap, undef, .pointer (some ⟨w.heap.size, 0, none⟩), undef, .int .i64 x.2, .slice a len cap, .func (.func 58) #[] #[.pointer (some ⟨w.heap.size + 1, 0, none⟩)], .int .i32 x.1, .int .i64 x.2, undef, undef], defers := [] }) ?assign ?body ?done ?stop
  case assign =>
    intro l x W K hK
    dsimp only [encS]
    gi_wp2
    exact hK
  case body =>
    rintro l pre x W ⟨h0, hv, hB⟩ hlt
    have hc := hv.cell
    have hf := hv.frozen
    have hsn := errP_snoc pre x
    rw [if_pos h0] at hsn
    have H0 := hid h0
    clear h0
    cases he : x.2 == 0
    · have he' : x.2 ≠ 0 := by simpa using he
      rw [← hsn] at he'
      have HE := hid he'
      clear he'
      gi_wp2
      have hv' := hv.set (.bool false)
      exact ⟨(KeepsOthers.setCell _ _ _).from _, ⟨rfl, HE.out⟩, hv', hB.setCell (p := ⟨w.heap.size, 0, none⟩) (Nat.le_refl _) _⟩
    · have he' : x.2 = 0 := by simpa using he
      rw [← hsn] at he'
      have HE := hid he'
      clear he'
      gi_wp2
      exact ⟨KeepsFrom.refl _ _, KeepsBox.refl _ _ _ _, HE.out, hv, hB⟩
  case done =>
    rintro D ys W hD rfl ⟨h0, hv, hB⟩ hK
    have hc := hv.cell
    have hf := hv.frozen
    have H0 := hid h0
    clear h0
    gi_wp2
    have hK' := (KeepsOthers.setCell W ⟨w.heap.size, 0, none⟩ (.bool true)).same D _ hK rfl
    refine ⟨by simp, .inl ⟨_, _, rfl, run_takeDeferred hK', ?_⟩⟩
    have hc5 := cell_kept (hv.set (.bool true)).cell (grownBy_putObj' _ D (.deferred none)) (fun r e => by cases e; exact ⟨_, hK', rfl⟩)
    refine ⟨.bool true, ?_, by rw [H0.out]; rfl, (hB.setCell (p := ⟨w.heap.size, 0, none⟩) (Nat.le_refl _) _).trans (belowK_b (w := w) (Nat.le_refl _) _ D _ _ (by simp at hD; omega) hK' rfl rfl)⟩
    simp [results, Tryd.f39, go_sem, hc5]
  case stop =>
    rintro D c pre W hD hpre ⟨⟨rfl, h0⟩, hv, hB⟩ hK
    have H0 : Hid (errP (usigs xs) ≠ 0) := by rw [Hid, errP_pre hpre h0]; exact h0
    clear h0
    gi_wp2
    refine ⟨by simp, .inl ⟨_, _, rfl, run_takeDeferred hK, ?_⟩⟩
    have hc5 := cell_kept hv.cell (grownBy_putObj' _ D (.deferred none)) (fun r e => by cases e; exact ⟨_, hK, rfl⟩)
    refine ⟨.bool false, ?_, by rw [decide_eq_false H0.out], hB.trans (belowK_b (w := w) (Nat.le_refl _) W D _ _ (by simp at hD; omega) hK rfl rfl)⟩
    simp [results, Tryd.f39, go_sem, hc5]
theorem encR_utxt (xs : List Int) : encR (usigs xs) = (utxt xs).map (Value.int .i32) := by simp [encR, utxt, Function.comp_def]
theorem reads_urow {e : TypeId} {base : Nat} {w : World} {v : Value} {xs : List Int} (h : w.ownsRow base e 1 v (usigs xs).length (encR (usigs xs))) (hwf : ∀ x ∈ utxt xs, (Lit.int .i32 x).wf = true) :
    ∃ a cap, v = .slice a (usigs xs).length cap ∧ Reads .i32 w a (usigs xs).length cap (utxt xs) := by
  have hO : Own .i32 e base w v (utxt xs) := ⟨by rw [utxt_len, ← encR_utxt]; exact h, hwf⟩
  obtain ⟨a, cap, hv, hr⟩ := hO.reads
  rw [utxt_len] at hv hr
  exact ⟨a, cap, hv, hr⟩
set_option maxRecDepth 100000 in
set_option maxHeartbeats 4000000 in
theorem units_ReadO (a : Option Addr) (len cap : Nat) (xs : List Int) (w : World) (hr : Reads .u16 w a len cap xs) (hN : len < 1000000000000) :
    Calls Tryd.prog 38 #[.slice a len cap] w fun e w' => ∃ v, e = .returned v ∧ Own .i32 21 w.heap.size w' v (utxt xs) ∧ Below w.heap.size w w' := by
  have hl := hr.len_le
  have hbd : ∀ x ∈ xs, 0 ≤ x ∧ x ≤ 65535 := fun x hx => wf_u16 (hr.wf x hx)
  have hwf := hid (utxt_wf hbd)
  clear hbd
  obtain ⟨i0, hi, hz0, hz1, hz2⟩ := info_parts CTR.info
  refine (callsIn_wide (n := 4)).1 ?_
  refine callsIn_of_wp_marks Tryd.func38 rfl trivial ?_ rfl
  simp only [Tryd.ntmps38, List.size_toArray, List.length_cons, List.length_nil, Nat.reduceAdd, Nat.reduceSub, Array.replicate_succ, Array.replicate_zero, List.push_toArray, List.append_toArray, List.nil_append, List.cons_append]
  gi_wp2_with (refine ⟨trivial, ?_⟩; gi_at_call 47; (with_reducible refine (units_signs _ _ _ _ _).mono ?_); rintro e w' ⟨rfl, rfl⟩)
  obtain ⟨b1, b2, hB0⟩ := two_boxes w 22 48 (.slice none 0 0) (.slice a len cap)
  refine wpIn_rangeFunc_ownG rfl (by omega) (gf := 58) (lb := #[.pointer (some ⟨w.heap.size + 1, 0, none⟩)]) rfl trivial (enters_of Tryd.func58 (by kernel_rfl) rfl)
    (usigns_stops 3 (w.heap.size + 1) w.heap.size (by omega) a len cap xs w _ hr (Nat.le_refl _) hB0.size hB0 (by simp) b2) keepsBox_t (keepsBox_b hB0.size) (Below.refl _ _) (fun _ => rfl)
    (fun pre W => (∃ v, Boxed W w.heap.size 22 v ∧ W.ownsRow w.heap.size 21 1 v pre.length (encR pre) ∧ True) ∧ Below w.heap.size w W)
    (fun _ _ _ => False)
    (own_row (Nat.le_refl _) hB0.size _ _ _) (fun _ _ _ _ _ hs _ _ => hs)
    ⟨⟨_, b1, World.ownsRow_nil _ _ _ _, trivial⟩, hB0⟩
    (fun x => { tmps := #[.slice a len cap, undef, .slice none 0 0, .pointer (some ⟨w.heap.size, 0, none⟩), .int .i32 x.1, .slice a len cap, .func (.func 58) #[] #[.pointer (some ⟨w.heap.size + 1, 0, none⟩)], .int .i32 x.1, .int .i64 x.2, undef, undef, undef, undef, undef], defers := [] }) ?assign ?body ?done ?stop
  case assign =>
    intro l x W K hK
    dsimp only [encS]
    gi_wp2
    exact hK
  case body =>
    rintro l pre x W ⟨⟨v, hv, hrow, _⟩, hB⟩ hlt
    have hc := hv.cell
    gi_wp2_with (gi_at_builtin; refine wpListIn_append_own _ rfl _ _ 22 rfl w.heap.size 21 i0 (.int .i32 0) 1 4 Tryd.underlying22 hi hz0 hz1 hz2 rfl (by decide) _ _ _ rfl (hrow.alloc _) ⟨W.heap.size, 0, none⟩ 1 1 [.int .i32 x.1] rfl rfl (cell_one_new _ _ _) (by simp [Value.oneCell']) (by unfold maxLen; omega) (by omega) (by have := hB.size; simp; omega) ?_; intro v' w1 hown' hgrow _; obtain ⟨g', cap', rfl⟩ := ownsRow_succ hown'; obtain ⟨hv1, hv2, hr2, hk2, hb2⟩ := hv.appended (by decide) hrow hB.size (Nat.le_refl _) hown' hgrow; have hc1 := hv1.cell; have hf1 := hv1.frozen)
    exact ⟨hk2.from _, ⟨hb2, fun u hu => box_appended hu (by decide) (by omega) hrow hgrow⟩, ⟨_, hv2, by rw [encR_snoc]; simpa using hr2, trivial⟩, hB.trans hb2⟩
  case done =>
    rintro D ys W hD rfl ⟨⟨v, hv, hrow, _⟩, hB⟩ hK
    have hc := hv.cell
    gi_wp2
    refine ⟨by simp, .inl ⟨_, _, rfl, run_takeDeferred hK, ?_⟩⟩
    have hO : Own .i32 21 w.heap.size (W.putObj D (.deferred none)) v (utxt xs) := ⟨by rw [utxt_len, ← encR_utxt]; exact ownsRow_putObj hrow (.deferred none) hK rfl, hwf.out⟩
    exact ⟨_, results_tmp rfl _ _ _, v, rfl, hO, hB.trans (belowK_b (w := w) (Nat.le_refl _) W D _ _ (by simp at hD; omega) hK rfl rfl)⟩
  case stop =>
    rintro D c pre W _ _ h _
    exact h.elim
theorem units_Read (a : Option Addr) (len cap : Nat) (xs : List Int) (w : World) (hr : Reads .u16 w a len cap xs) (hN : len < 1000000000000) :
    Calls Tryd.prog 38 #[.slice a len cap] w fun e w' => ∃ a' cap', e = .returned (.slice a' (usigs xs).length cap') ∧ Reads .i32 w' a' (usigs xs).length cap' (utxt xs) ∧ Below w.heap.size w w' := by
  refine (units_ReadO a len cap xs w hr hN).mono ?_
  rintro e w' ⟨v, rfl, ho, hb⟩
  obtain ⟨a', cap', rfl, hrd⟩ := ho.reads
  rw [utxt_len] at hrd
  rw [utxt_len]
  exact ⟨a', cap', rfl, hrd, hb⟩

end Go.Proofs.YtobjdamlmaaidaaDoor

/-! D23b -/
namespace Go.Proofs.YtobjdamlmaaidaaDoor
open Go.RowKit
set_option linter.unusedVariables false

theorem pow2_le {m n : Nat} (h : m ≤ n) : (2 : Int) ^ m ≤ 2 ^ n := by
  have := Nat.pow_le_pow_right (n := 2) (by omega) h
  exact_mod_cast this
theorem parts_mul {n : Nat} (hn : 0 < n) (f : List Int → Int) : ∀ (q : Nat) (x y : List Int), x.length = n * q → parts n f (x ++ y) = parts n f x ++ parts n f y
  | 0, x, y, h => by
    obtain rfl : x = [] := List.eq_nil_of_length_eq_zero (by omega)
    rw [parts_short f (l := []) (by simpa using hn)]; rfl
  | q + 1, x, y, h => by
    have h1 : n * (q + 1) = n * q + n := Nat.mul_succ n q
    have hl : (x.take n).length = n := by rw [List.length_take]; omega
    have e := List.take_append_drop n x
    rw [← e, List.append_assoc, parts_app hn f hl, parts_app hn f hl, parts_mul hn f q (x.drop n) y (by rw [List.length_drop]; omega)]
    rfl
theorem rest_len (l : List Int) : (restD l).length = l.length % 16 := by unfold restD; rw [List.length_drop]; omega
theorem rest_all (l : List Int) : ∃ x, x.length = 16 * (l.length / 16) ∧ l = x ++ restD l :=
  ⟨l.take (16 * (l.length / 16)), by rw [List.length_take]; omega, (List.take_append_drop _ _).symm⟩
theorem bit6_01 (v : Int) : ∀ b ∈ bit6 v, b = 0 ∨ b = 1 := by
  intro b hb
  unfold bit6 at hb
  simp only [List.mem_cons, List.not_mem_nil, or_false] at hb
  omega
theorem num_bit6 {v : Int} (h : V6 v) : numL (bit6 v) = v := by
  unfold V6 at h
  simp only [numL, bit6, List.foldl_cons, List.foldl_nil]
  omega
theorem num_lt2 {l : List Int} (h : ∀ b ∈ l, b = 0 ∨ b = 1) : 0 ≤ numL l ∧ numL l < 2 ^ l.length := by
  have := num_lt7 l 0 h (Int.le_refl _)
  unfold numL
  simpa using this
/-- Six bits more, that make no unit yet. -/
theorem step_less {l : List Int} (v : Int) (hv : V6 v) (hm : l.length % 16 < 10) :
    parts 16 numL (l ++ bit6 v) = parts 16 numL l ∧ numL (restD (l ++ bit6 v)) = numL (restD l) * 64 + v := by
  obtain ⟨x, hx, hl⟩ := rest_all l
  have hr := rest_len l
  have h6 : (bit6 v).length = 6 := rfl
  constructor
  · conv => lhs; rw [hl]
    conv => rhs; rw [hl]
    rw [List.append_assoc, parts_mul (by decide) numL _ x _ hx, parts_mul (by decide) numL _ x _ hx, parts_short numL (l := restD l ++ bit6 v) (by rw [List.length_append]; omega), parts_short numL (l := restD l) (by omega)]
  · have e : restD (l ++ bit6 v) = restD l ++ bit6 v := by
      unfold restD
      rw [List.length_append, h6, show 16 * ((l.length + 6) / 16) = 16 * (l.length / 16) by omega, List.drop_append_of_le_length (by omega)]
    rw [e, num_app, num_bit6 hv, h6]
    rfl
/-- .. that make a unit, and leave j bits over. -/
theorem step_unit {l : List Int} (v : Int) (hv : V6 v) (j : Nat) (hj : l.length % 16 = j + 10) :
    parts 16 numL (l ++ bit6 v) = parts 16 numL l ++ [(numL (restD l) * 64 + v) / 2 ^ j] ∧ numL (restD (l ++ bit6 v)) = (numL (restD l) * 64 + v) % 2 ^ j := by
  obtain ⟨x, hx, hl⟩ := rest_all l
  have hr := rest_len l
  have h6 : (bit6 v).length = 6 := rfl
  obtain ⟨y, hy⟩ : ∃ y, y = restD l ++ bit6 v := ⟨_, rfl⟩
  have hyl : y.length = 16 + j := by rw [hy, List.length_append]; omega
  have hyn : numL y = numL (restD l) * 64 + v := by rw [hy, num_app, num_bit6 hv, h6]; rfl
  have hs : y = y.take 16 ++ y.drop 16 := (List.take_append_drop 16 y).symm
  have h16 : (y.take 16).length = 16 := by rw [List.length_take]; omega
  have hdl : (y.drop 16).length = j := by rw [List.length_drop]; omega
  have hd01 : ∀ b ∈ y.drop 16, b = 0 ∨ b = 1 := by
    intro b hb
    have h := List.mem_of_mem_drop hb
    -- j bits of the last six
    have : y.drop 16 = (bit6 v).drop (6 - j) := by
      rw [hy, List.drop_append, List.drop_of_length_le (by omega), List.nil_append]
      congr 1
      omega
    rw [this] at hb
    exact bit6_01 v b (List.mem_of_mem_drop hb)
  have hlt := num_lt2 hd01
  rw [hdl] at hlt
  have hnum : numL y = numL (y.take 16) * 2 ^ j + numL (y.drop 16) := by
    conv => lhs; rw [hs]
    rw [num_app, hdl]
  have hp : (0 : Int) < 2 ^ j := Int.pow_pos (by decide)
  rw [← hyn, hnum]
  constructor
  · rw [Int.add_comm, Int.add_mul_ediv_right _ _ (by omega), Int.ediv_eq_zero_of_lt hlt.1 hlt.2, Int.zero_add]
    conv => lhs; rw [hl]
    conv => rhs; rw [hl]
    rw [List.append_assoc, ← hy, parts_mul (by decide) numL _ x _ hx, parts_mul (by decide) numL _ x _ hx, parts_short numL (l := restD l) (by omega), List.append_nil]
    conv => lhs; rw [hs]
    rw [parts_app (by decide) numL h16, parts_short numL (l := y.drop 16) (by omega)]
  · rw [Int.add_comm, Int.add_mul_emod_self_right, Int.emod_eq_of_lt hlt.1 hlt.2]
    have e : restD (l ++ bit6 v) = y.drop 16 := by
      unfold restD
      rw [List.length_append, h6, show 16 * ((l.length + 6) / 16) = 16 * (l.length / 16) + 16 by omega, hy]
      conv => lhs; rw [hl]
      rw [List.append_assoc, ← List.drop_drop, show 16 * ((x ++ restD l).length / 16) = x.length by rw [← hl, hx], List.drop_left]
    rw [e]
/-- The bits of some digits of all. -/
theorem vlD_snoc {d : List Int} (h : d.all isDig = true) {k : Nat} {x : Int} (hx : d.take (k + 1) = d.take k ++ [x]) : vlD (d.take (k + 1)) = vlD (d.take k) ++ bit6 (valI x) := by
  have h1 : (d.take (k + 1)).all isDig = true := List.all_eq_true.2 fun y hy => List.all_eq_true.1 h y (List.mem_of_mem_take hy)
  have h2 : (d.take k).all isDig = true := List.all_eq_true.2 fun y hy => List.all_eq_true.1 h y (List.mem_of_mem_take hy)
  unfold vlD
  rw [if_pos h1, if_pos h2, hx, List.map_append]
  unfold bits6
  rw [List.flatMap_append]
  simp
theorem vlD_take {d : List Int} (h : d.all isDig = true) {k : Nat} (hk : k ≤ d.length) : (vlD (d.take k)).length = 6 * k := by
  have h2 : (d.take k).all isDig = true := List.all_eq_true.2 fun y hy => List.all_eq_true.1 h y (List.mem_of_mem_take hy)
  unfold vlD
  rw [if_pos h2, bits6_len, List.length_map, List.length_take]
  omega
end Go.Proofs.YtobjdamlmaaidaaDoor

/-! Stm -/
namespace Go.Proofs.YtobjdamlmaaidaaDoor
open Go.RowKit

section
variable {P : Program} {ops : Array Oper} {o : Oper} {a : Act} {K : Act → World → Prop} {Q : Exit → Act → World → Prop} {E : Prop} {t e : TypeId} {k : IntKind} {by_ : Nat}

theorem step_more (ST : SliceT P t e k by_) (hgd : o.guard = none) (s x : Operand) (ho : o.op = .call { callee := .builtin .append, args := #[s, x], argTypes := #[t, t] })
    {w0 wr : World} {v : Value} {xs ys : List Int} {ao : Option Addr} {m c : Nat} (hs : a.eval s = v) (hx : a.eval x = .slice ao m c)
    (hown : Own k e w0.heap.size wr v xs) (hbel : Below w0.heap.size w0 wr) (hr : Reads k wr ao m c ys) (hlen : xs.length + m < 1000000000000)
    (h : ∀ v' w', Own k e w0.heap.size w' v' (xs ++ ys) → Below w0.heap.size w0 w' → K (a.put o.dst v') w') :
    if Region.wanted o (yielded ops a.tmps) = true then Oper.wp P o a wr K Q else E := by
  obtain ⟨i, hi, hz0, hz1, hz2⟩ := info_parts ST.info
  have hsm := ST.small
  have hsz := hr.size
  have hw : Region.wanted o (yielded ops a.tmps) = true := by simp [Region.wanted, hgd]
  rw [if_pos hw]
  by_cases hm : m = 0
  · subst hm
    obtain rfl : ys = [] := List.eq_nil_of_length_eq_zero hsz
    have hrun : (Builtin.append_ #[t, t] o.type #[v, .slice ao 0 c]).run P wr = .ok v wr := by
      rcases hown.1.2 with ⟨rfl, _⟩ | ⟨g, cap, cur, rfl, _, _, hnc, _⟩
      · cases ao <;> simp [Builtin.append_, run_underlying ST.under, sizeOf, typeInfo, hi, Builtin.lenOf, Builtin.firstCells, loadCells, loadCellsFrom]
      · cases ao <;> simp [Builtin.append_, run_underlying ST.under, sizeOf, typeInfo, hi, Builtin.lenOf, Builtin.firstCells, hnc, storeCells, loadCells, loadCellsFrom]
    unfold Oper.wp
    simp [execOp, ho, resolve, invoke, builtin, hs, hx, hrun, Result.andThen]
    exact h v wr (by simpa using hown) hbel
  · obtain ⟨b, off, rfl, hb, hc⟩ := hr.cell (by omega)
    have hmul : (xs.length + m) * by_ ≤ (xs.length + m) * 8 := Nat.mul_le_mul_left _ hsm
    refine wp_append_lies _ s x t ho w0.heap.size e i (.int k 0) 1 by_ ST.under hi hz0 hz1 hz2 rfl (by decide) v xs.length (xs.map (Value.int k)) hs hown.1 ⟨b, off, none⟩ m c (ys.map (Value.int k)) hx (by simp [hsz]) ?_ (ints_oneCell _ _) (by omega) (by unfold maxLen; omega) (by omega)
      hbel.size _ rfl ?_
    · intro j u hj
      have hjl : j < ys.length := by
        have := (List.getElem?_eq_some_iff.1 hj).1
        simpa using this
      rw [Addr.add_lit, hc j (by omega)]
      simp only [List.getElem?_map, List.getElem?_eq_getElem hjl, Option.map_some, Option.some.injEq] at hj
      subst hj
      simp [hjl]
    · intro g cap w' hown' hgrow _ _
      refine h _ w' ⟨by simpa [hsz] using hown', ?_⟩ (hbel.grown hgrow hbel.size (fun j hj => (hown.1.lt j hj).1))
      intro z hz
      rcases List.mem_append.1 hz with hz | hz
      · exact hown.2 z hz
      · exact hr.wf z hz
end
end Go.Proofs.YtobjdamlmaaidaaDoor

/-! StmB -/
namespace Go.Proofs.YtobjdamlmaaidaaDoor
open Go.RowKit

theorem size_set (w : World) (B i : Nat) (v : Value) : (w.setCell ⟨B, i, none⟩ v).heap.size = w.heap.size := by simp [World.setCell]
theorem Own.shape {k : IntKind} {e : TypeId} {base : Nat} {w : World} {v : Value} {xs : List Int} (h : Own k e base w v xs) : ∃ a n cap, v = .slice a n cap := by
  obtain ⟨a, cap, rfl, _⟩ := h.reads
  exact ⟨_, _, _, rfl⟩
section
variable {P : Program} {ops : Array Oper} {o : Oper} {a : Act} {K : Act → World → Prop} {Q : Exit → Act → World → Prop} {E : Prop} {t e : TypeId} {k : IntKind} {by_ : Nat}

theorem step_moreB (ST : SliceT P t e k by_) (hgd : o.guard = none) (s x : Operand) (ho : o.op = .call { callee := .builtin .append, args := #[s, x], argTypes := #[t, t] })
    {w0 wr : World} {v : Value} {xs ys : List Int} {ao : Option Addr} {m c : Nat} (hs : a.eval s = v) (hx : a.eval x = .slice ao m c)
    {B : Nat} {T : TypeId} {vs : Array Value}
    (hown : Own k e w0.heap.size wr v xs) (hbel : Below w0.heap.size w0 wr) (hB : Blk wr B T vs) (hte : T ≠ e) (hr : Reads k wr ao m c ys) (hlen : xs.length + m < 1000000000000)
    (h : ∀ a' n' c' w', Own k e w0.heap.size w' (.slice a' n' c') (xs ++ ys) → Below w0.heap.size w0 w' → Blk w' B T vs → K (a.put o.dst (.slice a' n' c')) w') :
    if Region.wanted o (yielded ops a.tmps) = true then Oper.wp P o a wr K Q else E := by
  obtain ⟨i, hi, hz0, hz1, hz2⟩ := info_parts ST.info
  have hsm := ST.small
  have hsz := hr.size
  have hw : Region.wanted o (yielded ops a.tmps) = true := by simp [Region.wanted, hgd]
  rw [if_pos hw]
  by_cases hm : m = 0
  · subst hm
    obtain rfl : ys = [] := List.eq_nil_of_length_eq_zero hsz
    have hrun : (Builtin.append_ #[t, t] o.type #[v, .slice ao 0 c]).run P wr = .ok v wr := by
      rcases hown.1.2 with ⟨rfl, _⟩ | ⟨g, cap, cur, rfl, _, _, hnc, _⟩
      · cases ao <;> simp [Builtin.append_, run_underlying ST.under, sizeOf, typeInfo, hi, Builtin.lenOf, Builtin.firstCells, loadCells, loadCellsFrom]
      · cases ao <;> simp [Builtin.append_, run_underlying ST.under, sizeOf, typeInfo, hi, Builtin.lenOf, Builtin.firstCells, hnc, storeCells, loadCells, loadCellsFrom]
    obtain ⟨a', n', c', rfl⟩ := hown.shape
    unfold Oper.wp
    simp [execOp, ho, resolve, invoke, builtin, hs, hx, hrun, Result.andThen]
    exact h _ _ _ wr (by simpa using hown) hbel hB
  · obtain ⟨b, off, rfl, hb, hc⟩ := hr.cell (by omega)
    have hmul : (xs.length + m) * by_ ≤ (xs.length + m) * 8 := Nat.mul_le_mul_left _ hsm
    refine wp_append_lies _ s x t ho w0.heap.size e i (.int k 0) 1 by_ ST.under hi hz0 hz1 hz2 rfl (by decide) v xs.length (xs.map (Value.int k)) hs hown.1 ⟨b, off, none⟩ m c (ys.map (Value.int k)) hx (by simp [hsz]) ?_ (ints_oneCell _ _) (by omega) (by unfold maxLen; omega) (by omega)
      hbel.size _ rfl ?_
    · intro j u hj
      have hjl : j < ys.length := by
        have := (List.getElem?_eq_some_iff.1 hj).1
        simpa using this
      rw [Addr.add_lit, hc j (by omega)]
      simp only [List.getElem?_map, List.getElem?_eq_getElem hjl, Option.map_some, Option.some.injEq] at hj
      subst hj
      simp [hjl]
    · intro g cap w' hown' hgrow _ _
      refine h _ _ _ w' ⟨by simpa [hsz] using hown', ?_⟩ (hbel.grown hgrow hbel.size (fun j hj => (hown.1.lt j hj).1)) (hB.kept hgrow (hB.not_row hte hown.1))
      intro z hz
      rcases List.mem_append.1 hz with hz | hz
      · exact hown.2 z hz
      · exact hr.wf z hz
end
end Go.Proofs.YtobjdamlmaaidaaDoor

/-! Grb -/
namespace Go.Proofs.YtobjdamlmaaidaaDoor
open Go.RowKit

theorem grown_any {w w' : World} (h : w.grownBy w' none) (row : Option Nat) : w.grownBy w' row := ⟨h.os, h.tape, h.output, h.size, fun k hk _ => h.block k hk (by simp)⟩
theorem grown_of {w w' : World} (h : Below w.heap.size w w') (row : Option Nat) : w.grownBy w' row := ⟨h.os, h.tape, h.output, h.size, fun k hk _ => h.block k hk⟩
/-- Grown twice: the second row is the first one's, or one that was made since. -/
theorem grown_then {a b c : World} {r r' : Option Nat} (h : a.grownBy b r) (k : b.grownBy c r') (hr : r' = r ∨ ∃ j, r' = some j ∧ a.heap.size ≤ j) : a.grownBy c r := by
  rcases hr with rfl | ⟨j, rfl, hj⟩
  · exact grownBy_t h k
  · exact ⟨k.os.trans h.os, k.tape.trans h.tape, k.output.trans h.output, Nat.le_trans h.size k.size, fun i hi hne => (k.block i (Nat.lt_of_lt_of_le hi h.size) (fun he => by cases he; omega)).trans (h.block i hi hne)⟩
/-- A row of the call's own stays when another row, that lies below it, is appended to. -/
theorem Own.kept {k : IntKind} {e : TypeId} {D : Nat} {W W' : World} {row : Option Nat} {v : Value} {xs : List Int} (h : Own k e D W v xs) (hg : W.grownBy W' row) (hD : ∀ j, row = some j → j < D) : Own k e D W' v xs := by
  refine ⟨⟨h.1.1, ?_⟩, h.2⟩
  rcases h.1.2 with h' | ⟨g, cap, cur, h1, h2, h3, h4⟩
  · exact .inl h'
  · refine .inr ⟨g, cap, cur, h1, h2, ?_, h4⟩
    rw [hg.block g (Array.getElem?_eq_some_iff.1 h3).1 (fun he => by have := hD g he.symm; omega)]
    exact h3
section
variable {P : Program} {ops : Array Oper} {rest : List Oper} {o : Oper} {a : Act} {K : Act → World → Prop} {Q : Exit → Act → World → Prop} {E : Prop} {t e : TypeId} {k : IntKind} {by_ : Nat}

theorem run_moreO (ST : SliceT P t e k by_) (ty : TypeId) {W : World} {v : Value} {xs ys : List Int} {ao : Option Addr} {m c : Nat} {B0 : Nat}
    (hown : Own k e B0 W v xs) (hB : B0 ≤ W.heap.size) (hr : Reads k W ao m c ys) (hlen : xs.length + m < 1000000000000) :
    ∃ a' n' c' w', (Builtin.append_ #[t, t] ty #[v, .slice ao m c]).run P W = .ok (.slice a' n' c') w' ∧ Own k e B0 w' (.slice a' n' c') (xs ++ ys) ∧ W.grownBy w' v.ownBlock ∧ ((Value.slice a' n' c').ownBlock = v.ownBlock ∨ (Value.slice a' n' c').ownBlock = some W.heap.size) := by
  obtain ⟨i, hi, hz0, hz1, hz2⟩ := info_parts ST.info
  have hsm := ST.small
  have hsz := hr.size
  by_cases hm : m = 0
  · subst hm
    obtain rfl : ys = [] := List.eq_nil_of_length_eq_zero hsz
    have hrun : (Builtin.append_ #[t, t] ty #[v, .slice ao 0 c]).run P W = .ok v W := by
      rcases hown.1.2 with ⟨rfl, _⟩ | ⟨g, cap, cur, rfl, _, _, hnc, _⟩
      · cases ao <;> simp [Builtin.append_, run_underlying ST.under, sizeOf, typeInfo, hi, Builtin.lenOf, Builtin.firstCells, loadCells, loadCellsFrom]
      · cases ao <;> simp [Builtin.append_, run_underlying ST.under, sizeOf, typeInfo, hi, Builtin.lenOf, Builtin.firstCells, hnc, storeCells, loadCells, loadCellsFrom]
    obtain ⟨a', n', c', rfl⟩ := hown.shape
    exact ⟨a', n', c', W, hrun, by simpa using hown, ⟨rfl, rfl, rfl, Nat.le_refl _, fun _ _ _ => rfl⟩, .inl rfl⟩
  · obtain ⟨b, off, rfl, hb, hc⟩ := hr.cell (by omega)
    have hmul : (xs.length + m) * by_ ≤ (xs.length + m) * 8 := Nat.mul_le_mul_left _ hsm
    obtain ⟨v', w1, hrun, r1, r2, _, r3⟩ := run_append_own_at (P := P) (w := W) B0 t ty e i (.int k 0) 1 by_ ST.under hi hz0 hz1 hz2 rfl (by decide) v xs.length (xs.map (Value.int k)) hown.1 ⟨b, off, none⟩ m c (ys.map (Value.int k)) (by simp [hsz])
      (by
        intro j u hj
        have hjl : j < ys.length := by
          have := (List.getElem?_eq_some_iff.1 hj).1
          simpa using this
        rw [Addr.add_lit, hc j (by omega)]
        simp only [List.getElem?_map, List.getElem?_eq_getElem hjl, Option.map_some, Option.some.injEq] at hj
        subst hj
        simp [hjl])
      (ints_oneCell _ _) (by unfold maxLen; omega) (by omega) hB
    have hO : Own k e B0 w1 v' (xs ++ ys) := ⟨by simpa [hsz] using r1, fun z hz => by
      rcases List.mem_append.1 hz with hz | hz
      · exact hown.2 z hz
      · exact hr.wf z hz⟩
    obtain ⟨a', n', c', rfl⟩ := hO.shape
    exact ⟨a', n', c', w1, hrun, hO, r2, r3⟩
theorem wpList_moreO (ST : SliceT P t e k by_) (hgd : o.guard = none) (s x : Operand) (ho : o.op = .call { callee := .builtin .append, args := #[s, x], argTypes := #[t, t] })
    {W : World} {v : Value} {xs ys : List Int} {ao : Option Addr} {m c : Nat} {B0 : Nat} (hs : a.eval s = v) (hx : a.eval x = .slice ao m c)
    (hown : Own k e B0 W v xs) (hB : B0 ≤ W.heap.size) (hr : Reads k W ao m c ys) (hlen : xs.length + m < 1000000000000)
    (h : ∀ a' n' c' w', Own k e B0 w' (.slice a' n' c') (xs ++ ys) → W.grownBy w' v.ownBlock → ((Value.slice a' n' c').ownBlock = v.ownBlock ∨ (Value.slice a' n' c').ownBlock = some W.heap.size) → wpList P ops Q rest (a.put o.dst (.slice a' n' c')) w') : wpList P ops Q (o :: rest) a W := by
  obtain ⟨a', n', c', w', hrun, h1, h2, h3⟩ := run_moreO (P := P) ST o.type hown hB hr hlen
  refine wpList_plain hgd fun K hK => ?_
  unfold Oper.wp
  simp [execOp, ho, resolve, invoke, builtin, hs, hx, hrun, Result.andThen]
  exact hK _ _ (h _ _ _ _ h1 h2 h3)
theorem step_moreO (ST : SliceT P t e k by_) (hgd : o.guard = none) (s x : Operand) (ho : o.op = .call { callee := .builtin .append, args := #[s, x], argTypes := #[t, t] })
    {W : World} {v : Value} {xs ys : List Int} {ao : Option Addr} {m c : Nat} {B0 : Nat} (hs : a.eval s = v) (hx : a.eval x = .slice ao m c)
    (hown : Own k e B0 W v xs) (hB : B0 ≤ W.heap.size) (hr : Reads k W ao m c ys) (hlen : xs.length + m < 1000000000000)
    (h : ∀ a' n' c' w', Own k e B0 w' (.slice a' n' c') (xs ++ ys) → W.grownBy w' v.ownBlock → ((Value.slice a' n' c').ownBlock = v.ownBlock ∨ (Value.slice a' n' c').ownBlock = some W.heap.size) → K (a.put o.dst (.slice a' n' c')) w') :
    if Region.wanted o (yielded ops a.tmps) = true then Oper.wp P o a W K Q else E := by
  obtain ⟨a', n', c', w', hrun, h1, h2, h3⟩ := run_moreO (P := P) ST o.type hown hB hr hlen
  have hw : Region.wanted o (yielded ops a.tmps) = true := by simp [Region.wanted, hgd]
  rw [if_pos hw]
  unfold Oper.wp
  simp [execOp, ho, resolve, invoke, builtin, hs, hx, hrun, Result.andThen]
  exact h _ _ _ _ h1 h2 h3
end
end Go.Proofs.YtobjdamlmaaidaaDoor

/-! C23c -/
namespace Go.Proofs.YtobjdamlmaaidaaDoor
open Go.RowKit
set_option linter.unusedVariables false

/-- Where the loop over the digits stands. -/
def UnI (d : List Int) (k : Nat) (U : List Int) (X : Int) (m : Nat) : Prop := U = parts 16 numL (vlD (d.take k)) ∧ X = numL (restD (vlD (d.take k))) ∧ m = (vlD (d.take k)).length % 16
theorem UnI.start (d : List Int) : Hid (UnI d 0 [] 0 0) := by
  have e : vlD (d.take 0) = [] := rfl
  unfold Hid UnI
  rw [e]
  exact ⟨by rw [parts_short numL (l := []) (by decide)], rfl, rfl⟩
set_option maxRecDepth 100000 in
set_option maxHeartbeats 4000000 in
theorem sread_unitsOf (a : Option Addr) (len cap : Nat) (d : List Int) (w : World) (hr : Reads .u8 w a len cap d) (hd : d.all isDig = true) (hN : len < 10000000000) :
    Calls Tryd.prog 37 #[.slice a len cap] w fun e w' => ∃ v, e = .returned (.tuple #[v, .bool (!lftB (vlD d))]) ∧ Own .u16 70 w.heap.size w' v (uniD d) ∧ Below w.heap.size w w' := by
  have HR := hid hr
  have HD := hid hd
  have hl := hr.len_le
  have hsz := hr.size
  obtain ⟨L, hL⟩ : ∃ L, L = lftB (vlD d) := ⟨_, rfl⟩
  rw [← hL]
  have HL := hid hL
  clear hr hd hL
  go_enter Tryd.func37, Tryd.ntmps37
  go_wp2_with fail
  go_loopw [4, 5, 6, 13] (fun u b m i wr => ∃ (k : Nat) (U : List Int) (X : Int) (M : Nat), k ≤ len ∧ i = .int .i64 k ∧ b = .int .u32 X ∧ m = .int .i64 M ∧ Hid (UnI d k U X M) ∧ U.length ≤ k ∧ Own .u16 70 w.heap.size wr u U ∧ Below w.heap.size w wr) (fun _ _ _ i _ => len - (intOf i).toNat)
  case atStart => exact ⟨0, [], 0, 0, Nat.zero_le _, rfl, rfl, rfl, UnI.start d, Nat.zero_le _, Own.nil _ _ _ _, Below.refl _ _⟩
  case round =>
    obtain ⟨k, U, X, M, hk, rfl, rfl, rfl, hI, hUk, hown, hbel⟩ := hrel
    have hI' := hI.out
    unfold UnI at hI'
    obtain ⟨hU, hX, hM⟩ := hI'
    have hXb := num_lt2 (fun b hb => vlD_01 (d.take k) b (List.mem_of_mem_drop (show b ∈ (vlD (d.take k)).drop _ from hb)) : ∀ b ∈ restD (vlD (d.take k)), b = 0 ∨ b = 1)
    rw [rest_len, ← hX, ← hM] at hXb
    have hM16 : M < 16 := by omega
    by_cases hlt : k < len
    · obtain ⟨b, off, x, rfl, _, hc, h0, h1, hx⟩ := (HR.out.below hbel).get8 hlt
      have hs := vlD_snoc HD.out hx.out.2
      have hv := val_bd x
      have hV := bcode_Value x wr h0 h1
      have hln := vlD_take HD.out (k := k) (by omega)
      have hln2 := vlD_take HD.out (k := k + 1) (by omega)
      have hd1 : isDig x = true := List.all_eq_true.1 HD.out x (List.mem_of_getElem? hx.out.1)
      rw [hd1] at hV
      obtain ⟨v, hve⟩ : ∃ v, v = valI x := ⟨_, rfl⟩
      rw [← hve] at hs hv hV
      have HV := hid hV
      have hv2 := hv
      unfold V6 at hv2
      obtain ⟨v0, v1⟩ := hv2
      clear hV hve hx hd1 hI
      by_cases hm : M < 10
      · have hst := step_less v hv (l := vlD (d.take k)) (by omega)
        rw [← hs, ← hU, ← hX] at hst
        have hb2 : X ≤ 255 := by
          have : (2 : Int) ^ M ≤ 2 ^ 8 := pow2_le (by omega)
          have : (2 : Int) ^ 8 = 256 := by decide
          omega
        obtain ⟨x0, _⟩ := hXb
        have HI := hid (show UnI d (k + 1) U (X * 64 + v) (M + 6) from ⟨hst.1.symm, hst.2.symm, by omega⟩)
        have hor := or_u32 6 (X * 64) v (by omega) (by omega) (by omega) (by omega) (by omega)
        clear hst hs hU hX hM hln hln2 hv
        go_wp2_with (go_at_call 46; (with_reducible refine HV.out.mono ?_); rintro e w' ⟨rfl, rfl⟩)
        go_roundw
        case rel => exact ⟨k + 1, U, _, M + 6, by omega, by go_num, rfl, by go_num, HI, by omega, hown, hbel⟩
        case measure => simp [intOf]; omega
      · obtain ⟨j, hj⟩ : ∃ j, M = j + 10 := ⟨M - 10, by omega⟩
        have hst := step_unit v hv j (l := vlD (d.take k)) (by omega)
        rw [← hs, ← hU, ← hX] at hst
        have HI := hid (show UnI d (k + 1) (U ++ [(X * 64 + v) / 2 ^ j]) ((X * 64 + v) % 2 ^ j) j from ⟨hst.1.symm, hst.2.symm, by omega⟩)
        obtain ⟨x0, x1⟩ := hXb
        have hj3 : (j = 0 ∧ X ≤ 1023) ∨ (j = 2 ∧ X ≤ 4095) ∨ (j = 4 ∧ X ≤ 16383) := by
          rcases (show j = 0 ∨ j = 2 ∨ j = 4 by omega) with h | h | h
          · subst h; subst hj; have : (2 : Int) ^ (0 + 10) = 1024 := by decide
            omega
          · subst h; subst hj; have : (2 : Int) ^ (2 + 10) = 4096 := by decide
            omega
          · subst h; subst hj; have : (2 : Int) ^ (4 + 10) = 16384 := by decide
            omega
        clear hst hs hU hX hM hln hln2 hv hm x1
        have hor := fun (hx : X ≤ 16383) => or_u32 6 (X * 64) v (by omega) (by omega) (by omega) (by omega) (by omega)
        rcases hj3 with ⟨rfl, x1⟩ | ⟨rfl, x1⟩ | ⟨rfl, x1⟩
        all_goals
          subst hj
          replace hor := hor (by omega)
        case' inl =>
          have hand : bits .and .u32 (X * 64 + v) 0 = 0 := by rw [and_u32 0 _ 0 (by decide) (by decide) (by omega) (by omega)]; omega
          rw [show (2 : Int) ^ 0 = 1 by decide, Int.ediv_one, Int.emod_one] at HI
          have hY : 0 ≤ X * 64 + v ∧ X * 64 + v ≤ 65535 := by omega
        case' inr.inl =>
          have hand : bits .and .u32 (X * 64 + v) 3 = (X * 64 + v) % 4 := and_u32 2 _ 3 (by decide) (by decide) (by omega) (by omega)
          rw [show (2 : Int) ^ 2 = 4 by decide] at HI
          have hY : 0 ≤ (X * 64 + v) / 4 ∧ (X * 64 + v) / 4 ≤ 65535 := by omega
        case' inr.inr =>
          have hand : bits .and .u32 (X * 64 + v) 15 = (X * 64 + v) % 16 := and_u32 4 _ 15 (by decide) (by decide) (by omega) (by omega)
          rw [show (2 : Int) ^ 4 = 16 by decide] at HI
          have hY : 0 ≤ (X * 64 + v) / 16 ∧ (X * 64 + v) / 16 ≤ 65535 := by omega
        all_goals
          have HY := hid (mk_u16 hY.1 hY.2)
          go_wp2_with (first
            | (go_at_call 46; (with_reducible refine HV.out.mono ?_); rintro e w' ⟨rfl, rfl⟩)
            | (at_builtin; go_must (refine wpList_push CT16 rfl _ _ rfl rfl ⟨_, rfl⟩ hown hbel (by omega) HY.out ?_); intro v3 w3 ho3 hb3))
          go_roundw
          case rel => exact ⟨k + 1, _, _, _, by omega, by go_num, rfl, rfl, HI, by simp; omega, ho3, hb3⟩
          case measure => simp [intOf]; omega
    · obtain rfl : k = len := by omega
      rw [List.take_of_length_le (by omega)] at hU hX hM
      have hLF : L = (decide (6 ≤ M) || decide (X ≠ 0)) := by rw [HL.out]; unfold lftB; rw [← hM, ← hX]
      have hown' : Own .u16 70 w.heap.size wr u4 (uniD d) := by unfold uniD; rw [← hU]; exact hown
      clear hU hX hM hown hXb hI
      by_cases h6 : M < 6
      · rw [decide_eq_false (show ¬ 6 ≤ M by omega), Bool.false_or] at hLF
        by_cases h0 : X = 0
        · subst h0
          have HLF := hid hLF
          clear hLF
          go_wp2_with fail
          go_ret2
          exact ⟨_, by rw [HLF.out]; rfl, hown', hbel⟩
        · have hx : (X == 0) = false := by simpa using h0
          rw [decide_eq_true h0] at hLF
          have HLF := hid hLF
          clear hLF h0
          go_wp2_with fail
          go_ret2
          exact ⟨_, by rw [HLF.out]; rfl, hown', hbel⟩
      · rw [decide_eq_true (show 6 ≤ M by omega), Bool.true_or] at hLF
        have HLF := hid hLF
        clear hLF
        go_wp2_with fail
        go_ret2
        exact ⟨_, by rw [HLF.out]; rfl, hown', hbel⟩
theorem digN_iff : ∀ d : List Int, digN d = d.length ↔ d.all isDig = true
  | [] => ⟨fun _ => rfl, fun _ => rfl⟩
  | x :: d => by
    have ih := digN_iff d
    have h1 := digN_le d
    unfold digN at *
    cases hx : isDig x
    · rw [List.takeWhile_cons_of_neg (by simp [hx])]
      simp [hx]
    · rw [List.takeWhile_cons_of_pos hx, List.length_cons, List.length_cons, List.all_cons, hx, Bool.true_and, ← ih]
      omega
theorem digN_lt {d : List Int} (h : d.all isDig = false) : digN d < d.length := by
  have h1 := digN_le d
  have h2 : digN d ≠ d.length := fun he => by rw [digN_iff, h] at he; cases he
  omega
theorem digN_all {d : List Int} (h : d.all isDig = true) : digN d = d.length := (digN_iff d).2 h
theorem run_noD {d : List Int} (h : d.all isDig = false) : runT d = [] ∧ lftT d = [] ∧ runOk d = false := by
  have e : vlD d = [] := by unfold vlD; rw [if_neg (by rw [h]; decide)]
  refine ⟨?_, ?_, ?_⟩
  · unfold runT uniD
    rw [e, parts_short numL (l := []) (by decide)]
    rfl
  · unfold lftT
    rw [e]
    rfl
  · unfold runOk
    rw [h]; rfl
theorem piece_isRun (a : Option Addr) (m c : Nat) (s : Int) (r : Bool) (w : World) :
    Calls Tryd.prog 22 #[.agg #[.slice a m c, .int .i32 s, .bool r]] w fun e w' => e = .returned (.bool (decide (0 < m))) ∧ Below w.heap.size w w' := by
  go_enter Tryd.func22, Tryd.ntmps22
  go_wp2_with fail
  go_ret
  exact ⟨rfl, (Below.refl _ _).alloc (Nat.le_refl _) _⟩
set_option maxRecDepth 100000 in
set_option maxHeartbeats 4000000 in
theorem piece_put {w : World} {B0 : Nat} (hB0 : B0 ≤ w.heap.size) (a : Option Addr) (m c : Nat) (d : List Int) (s : Int) (r : Bool) (v : Value) (xs : List Int) (h0 : 0 ≤ s) (h1 : s ≤ 65533) (hdg : d.all isDig = true) (hp : Reads .u8 w a m c d) (ho : Own .i32 21 B0 w v xs) (hN : xs.length < 100000000000) (hL : m < 10000000000) :
    Calls Tryd.prog 26 #[.agg #[.slice a m c, .int .i32 s, .bool r], v] w fun e w' => ∃ a' n' c', e = .returned (.tuple #[.slice a' n' c', .bool (pcv d s r).2.1]) ∧ Own .i32 21 B0 w' (.slice a' n' c') (xs ++ (pcv d s r).1) ∧ w.grownBy w' v.ownBlock := by
  unfold pcv
  have hsz := hp.size
  obtain ⟨n, nl, cap, rfl⟩ := ho.shape
  obtain ⟨row, hrow⟩ : ∃ row, row = (Value.slice n nl cap).ownBlock := ⟨_, rfl⟩
  have hrowlt : ∀ j, row = some j → j < w.heap.size := fun j hj => (ho.1.lt j (hrow ▸ hj)).2
  rw [← hrow]
  have HI := hid (piece_isRun a m c s r (w.alloc (.cells #[.slice a m c, .int .i32 s, .bool r] 47)))
  by_cases hm : 0 < m
  · have hne : d ≠ [] := fun h => by rw [h, List.length_nil] at hsz; omega
    rw [decide_eq_true hm] at HI
    rw [if_neg hne]
    have HO := hid ho
    have hlen := uniD_len d
    have hTl := runT_len d
    have hR0 : runOk d = (decide (errP (usigs (uniD d)) = 0) && !lftB (vlD d)) := by unfold runOk; rw [hdg, Bool.true_and]
    have hT0 : lftT d = if lftB (vlD d) = true then [65533] else [] := rfl
    have HRun := hid (fun W (hW : Below w.heap.size w W) => sread_unitsOf a m c d W (hp.below hW) hdg hL)
    dsimp only
    rw [hR0, hT0]
    unfold runT at hTl ⊢
    clear hm hne hp ho hR0 hT0 hdg
    generalize uniD d = U at *
    have HRW := hid hrow
    have HLT := hid hrowlt
    clear hrow hrowlt
    cases hLf : lftB (vlD d)
    all_goals
      rw [hLf] at HRun
      clear hLf
      go_enter Tryd.func26, Tryd.ntmps26
      go_wp2_with (first
        | (go_at_call 22; (with_reducible refine HI.out.mono ?_); rintro e w1 ⟨rfl, hb1⟩; (have hs1 := hb1.size); rw [World.size_alloc] at hs1; (have hw1 : Below w.heap.size w w1 := ((Below.refl _ w).alloc (Nat.le_refl _) _).trans (hb1.mono (by simp))); (have BD := (Blk.new w 47 #[.slice a m c, .int .i32 s, .bool r]).below hb1 (by simp)); have d0 := BD.cell (i := 0) rfl; have hRun := HRun.out w1 hw1)
        | (go_at_call 37; (with_reducible refine hRun.mono ?_); rintro e w2 ⟨v2, rfl, ho2, hb2⟩; (obtain ⟨a2, c2, rfl, hr2⟩ := ho2.reads); have hw2 := below_then hw1 hb2)
        | (go_at_call 38; (with_reducible refine (units_ReadO _ _ _ _ _ hr2 (by omega)).mono ?_); rintro e w3 ⟨v3, rfl, ho3, hb3⟩; (obtain ⟨a3, c3, rfl, hr3⟩ := ho3.reads); have hw3 := below_then hw2 hb3; have hO3 := HO.out.below hw3; have hU3 := (own_mono ho2 hw1.size).below hb3)
        | (go_at_call 39; (with_reducible refine (units_Right _ _ _ _ _ hr4).mono ?_); rintro e w5 ⟨rfl, hb5⟩; have ho5 := ho4.below hb5; have hg5 := grownBy_t hg4' (grown_of hb5 row))
        | (at_builtin; have hX := hg4'; clear hX; go_must (refine wpList_moreO (B0 := B0) (W := w4.alloc (.cells #[.int .i32 65533] 21)) (v := .slice a4 n4 c4) (ao := some ⟨w4.heap.size, 0, none⟩) (m := 1) (c := 1) (ys := [65533]) CTR rfl _ _ rfl rfl rfl (ho4.below ((Below.refl _ _).alloc (Nat.le_refl _) _)) (by rw [World.size_alloc]; have := hw3.size; have := hg4.size; omega) (Reads.lit .i32 21 w4 [65533] (by decide) (by decide)) (by simp; omega) ?_); intro a6 n6 c6 w6 ho6 hg6 hk6)
        | (at_builtin; go_must (refine wpList_moreO (B0 := B0) (v := .slice n nl cap) (ao := a3) (m := (utxt U).length) (c := c3) CTR rfl _ _ rfl rfl rfl hO3 (Nat.le_trans hB0 hw3.size) hr3 (by omega) ?_); intro a4 n4 c4 w4 ho4 hg4 hk4; have hU4 := hU3.kept hg4 (by rw [← HRW.out]; exact HLT.out); (obtain ⟨a5, c5, he5, hr4⟩ := hU4.reads); cases he5; have hg4' : w.grownBy w4 row := grownBy_t (grown_of hw3 row) (by rw [HRW.out]; exact hg4)))
      go_ret2
      first
      | exact ⟨a4, n4, c4, by simp, by simpa using ho5, hg5⟩
      | exact ⟨a6, n6, c6, by simp, by simpa using ho6, grown_then (grownBy_t hg4' (grown_of ((Below.refl _ _).alloc (Nat.le_refl _) _) row)) hg6 (hk4.elim (fun h => .inl (by rw [HRW.out]; exact h)) (fun h => .inr ⟨_, h, hw3.size⟩))⟩
  · have hd : d = [] := List.eq_nil_of_length_eq_zero (by omega)
    rw [decide_eq_false hm] at HI
    rw [if_pos hd]
    have HO := hid ho
    have HRW := hid hrow
    clear hm hd hp hsz ho hrow
    go_enter Tryd.func26, Tryd.ntmps26
    go_wp2_with (go_at_call 22; (with_reducible refine HI.out.mono ?_); rintro e w1 ⟨rfl, hb1⟩)
    have hs1 := hb1.size
    rw [World.size_alloc] at hs1
    have hw1 : Below w.heap.size w w1.drew := below_drew (((Below.refl _ w).alloc (Nat.le_refl _) _).trans (hb1.mono (by simp)))
    have BD : Blk w1.drew w.heap.size 47 #[.slice a m c, .int .i32 s, .bool r] := (Blk.new w 47 #[.slice a m c, .int .i32 s, .bool r]).below (below_drew hb1) (by simp)
    have OD := HO.out.below hw1
    have hal : Below w1.drew.heap.size w1.drew (w1.drew.alloc (.cells #[.int .i32 s] 21)) := (Below.refl _ _).alloc (Nat.le_refl _) _
    have BA := BD.below hal BD.lt
    have OA := hid (OD.below hal)
    have bA := hid (below_then hw1 hal)
    have hrl : Hid (Reads .i32 (w1.drew.alloc (.cells #[.int .i32 s] 21)) (some ⟨w1.heap.size, 0, none⟩) 1 1 [s]) := hid (Reads.lit .i32 21 w1.drew [s] (by simp [maxLen]) (by intro x hx; simp at hx; subst hx; exact mk_r (by omega) (by omega)))
    have d1 := BD.cell (i := 1) rfl
    have d2 := BD.cell (i := 2) rfl
    have e2 : (w1.alloc (.cells #[.int .i32 s] 21)).cell? ⟨w.heap.size, 2, none⟩ = some (.bool r) := BA.cell (i := 2) rfl
    have hlt := BD.lt
    have hbo : Hid (some w.heap.size ≠ (Value.slice n nl cap).ownBlock) := BD.not_row (by decide) OD.1
    have HBA := hid BA
    have hB1 := Nat.le_trans hB0 bA.out.size
    clear BA OD hal BD hb1
    go_region_law (first
      | (refine step_moreO (B0 := B0) (W := w1.drew.alloc (.cells #[.int .i32 s] 21)) CTR rfl (.tmp 11) (.tmp 14) rfl rfl rfl OA.out hB1 hrl.out (by omega) ?_; intro a7 n7 k7 w7 ho7 hg7 _; have c7 := (HBA.out.kept hg7 hbo.out).cell (i := 2) rfl))
    all_goals
      have hG := hid (grownBy_t (grown_of bA.out (Value.slice n nl cap).ownBlock) hg7)
      clear hg7
      go_wp2_with fail
      go_ret2
      exact ⟨_, _, _, rfl, ho7, by rw [HRW.out]; exact hG.out⟩
end Go.Proofs.YtobjdamlmaaidaaDoor
