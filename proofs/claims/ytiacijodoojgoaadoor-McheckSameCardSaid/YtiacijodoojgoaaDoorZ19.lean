/-
  Texts of ours laid together: C06, C06b, Rdr.
-/
import Derived.Test.YtiacijodoojgoaaDoorZ18

/-! C06 -/
namespace Go.Proofs.YtiacijodoojgoaaDoor
open Go.RowKit
set_option linter.unusedVariables false

theorem CT16 : SliceT Tryd.prog 61 72 .u16 2 := ⟨Tryd.underlying61, by kernel_rfl, by decide⟩
theorem half_high (u : Int) (w : World) (h0 : 0 ≤ u) (h1 : u ≤ 65535) :
    Calls Tryd.prog 110 #[.int .u16 55296, .int .u16 u] w fun e w' => e = .returned (.bool (hiB u)) ∧ w = w' := by
  have e1 := clear_u16 10 u 1023 (by decide) (by decide) h0 h1
  have e2 := hid (hi_clear u)
  go_enter Tryd.func110, Tryd.ntmps110
  go_wp2
  go_ret
  exact ⟨ret_bool e2.out, rfl⟩
theorem half_low (u : Int) (w : World) (h0 : 0 ≤ u) (h1 : u ≤ 65535) :
    Calls Tryd.prog 110 #[.int .u16 56320, .int .u16 u] w fun e w' => e = .returned (.bool (loB u)) ∧ w = w' := by
  have e1 := clear_u16 10 u 1023 (by decide) (by decide) h0 h1
  have e2 := hid (lo_clear u)
  go_enter Tryd.func110, Tryd.ntmps110
  go_wp2
  go_ret
  exact ⟨ret_bool e2.out, rfl⟩
theorem Reads.head16 {w : World} {a : Option Addr} {len cap : Nat} {x : Int} {r : List Int} (h : Reads .u16 w a len cap (x :: r)) :
    ∃ b off, a = some ⟨b, off, none⟩ ∧ b < w.heap.size ∧ w.cell? ⟨b, off, none⟩ = some (.int .u16 x) ∧ 0 ≤ x ∧ x ≤ 65535 ∧ 0 < len := by
  have hs := h.size
  have hp : 0 < len := by simp at hs; omega
  obtain ⟨b, off, y, ha, hb, hc, h0, h1, hx⟩ := h.get16 hp
  have e : x = y := by have := hx.out.1; simpa using this
  subst e
  exact ⟨b, off, ha, hb, hc, h0, h1, hp⟩
theorem starts_high (a : Option Addr) (len cap : Nat) (xs : List Int) (w : World) (hr : Reads .u16 w a len cap xs) :
    Calls Tryd.prog 109 #[.slice a len cap, .func (.func 110) #[.int .u16 55296] #[]] w fun e w' => e = .returned (.bool (hdB hiB xs)) ∧ w = w' := by
  cases xs with
  | nil =>
    obtain rfl : 0 = len := hr.size
    clear hr
    go_enter Tryd.func109, Tryd.ntmps109
    go_wp2
    go_ret
    exact ⟨rfl, rfl⟩
  | cons x r =>
    have hl := hr.len_le
    obtain ⟨b, off, rfl, _, hc, h0, h1, hp⟩ := hr.head16
    clear hr
    go_enter Tryd.func109, Tryd.ntmps109
    go_wp2_with (go_at_call 110; (with_reducible refine (half_high _ _ h0 h1).mono ?_); rintro e w' ⟨rfl, rfl⟩)
    go_ret
    exact ⟨rfl, rfl⟩
theorem starts_none (a : Option Addr) (cap : Nat) (v : Value) (w : World) :
    Calls Tryd.prog 109 #[.slice a 0 cap, v] w fun e w' => e = .returned (.bool false) ∧ w = w' := by
  go_enter Tryd.func109, Tryd.ntmps109
  go_wp2
  go_ret
  exact ⟨rfl, rfl⟩
theorem starts_low (a : Option Addr) (len cap : Nat) (xs : List Int) (w : World) (hr : Reads .u16 w a len cap xs) :
    Calls Tryd.prog 109 #[.slice a len cap, .func (.func 110) #[.int .u16 56320] #[]] w fun e w' => e = .returned (.bool (hdB loB xs)) ∧ w = w' := by
  cases xs with
  | nil =>
    obtain rfl : 0 = len := hr.size
    clear hr
    go_enter Tryd.func109, Tryd.ntmps109
    go_wp2
    go_ret
    exact ⟨rfl, rfl⟩
  | cons x r =>
    have hl := hr.len_le
    obtain ⟨b, off, rfl, _, hc, h0, h1, hp⟩ := hr.head16
    clear hr
    go_enter Tryd.func109, Tryd.ntmps109
    go_wp2_with (go_at_call 110; (with_reducible refine (half_low _ _ h0 h1).mono ?_); rintro e w' ⟨rfl, rfl⟩)
    go_ret
    exact ⟨rfl, rfl⟩
theorem units_join (x y : Int) (w : World) (h0 : 0 ≤ x) (h1 : x ≤ 65535) (h2 : 0 ≤ y) (h3 : y ≤ 65535) (h : (hiB x && loB y) = true) :
    Calls Tryd.prog 111 #[.int .u16 x, .int .u16 y] w fun e w' => e = .returned (.int .i32 (pairU x y)) ∧ w = w' := by
  have e1 := and_u16 10 x 1023 (by decide) (by decide) h0 h1
  have e2 := and_u16 10 y 1023 (by decide) (by decide) h2 h3
  have e3 := or_i32 10 (x % 1024 * 1024) (y % 1024) (by omega) (by omega) (by omega) (by omega) (by omega)
  rw [Bool.and_eq_true, hiB_iff, loB_iff] at h
  go_enter Tryd.func111, Tryd.ntmps111
  go_wp2
  go_ret
  exact ⟨ret_int (by unfold pairU; omega), rfl⟩
theorem takeU_arms {x : Int} {r : List Int} (h : surB x = true) : ut1 (x :: r) = if utP (x :: r) = true then (pairU x (r.getD 0 0), 0) else (65533, if r = [] ∧ hiB x = true then 4 else 3) := by
  unfold ut1
  simp only [List.getD_cons_zero, List.getD_cons_succ, h, if_true]
  congr 2
  cases r <;> simp
set_option maxHeartbeats 1000000 in
theorem units_take (a : Option Addr) (len cap : Nat) (xs : List Int) (w : World) (hr : Reads .u16 w a len cap xs) (hne : xs ≠ []) :
    Calls Tryd.prog 104 #[.slice a len cap] w fun e w' => e = .returned (.tuple #[.int .i32 (ut1 xs).1, .int .i64 (utN xs), .int .i64 (ut1 xs).2]) ∧ ∃ n, w' = w.drewN n := by
  have hl := hr.len_le
  have hsz := hr.size
  have hroom := hr.room
  match xs, hne with
  | [], h => exact absurd rfl h
  | x :: r, _ =>
    obtain ⟨b, off, rfl, _, hc, h0, h1, hpos⟩ := hr.head16
    have hpc := hr.piece (l := 1) (r := len) (by omega) (Nat.le_refl _)
    rw [List.take_of_length_le (by omega), List.drop_succ_cons, List.drop_zero] at hpc
    have hQ := scalar_Surrogate x w
    have hS1 := starts_high _ _ _ _ _ hr
    rw [show hdB hiB (x :: r) = hiB x from rfl] at hS1
    cases hp : utP (x :: r)
    · have hN : Hid (utN (x :: r) = 1) := by unfold utN; rw [Hid, if_neg (by simp [hp])]
      cases hh : hiB x
      · rw [hh] at hS1
        cases hs : surB x
        · have hE : Hid (ut1 (x :: r) = (x, 0)) := by unfold ut1; rw [Hid, if_neg (by simp [hp]), if_neg (by simp [hs])]; rfl
          rw [hs] at hQ
          clear hp hh hs
          go_enter Tryd.func104, Tryd.ntmps104
          go_wp2_with (first
            | (go_at_call 109; (with_reducible refine hS1.mono ?_); rintro e w' ⟨rfl, rfl⟩)
            | (go_at_call 112; (with_reducible refine hQ.mono ?_); rintro e w' ⟨rfl, rfl⟩))
          go_ret3
          exact ⟨by rw [hE.out, hN.out]; rfl, 0, rfl⟩
        · have hE : Hid (ut1 (x :: r) = (65533, 3)) := by rw [Hid, takeU_arms hs, if_neg (by simp [hp]), if_neg (by simp [hh])]
          rw [hs] at hQ
          clear hp hh hs
          by_cases hlen : len = 1
          · subst hlen
            go_enter Tryd.func104, Tryd.ntmps104
            go_wp2_with (first
              | (go_at_call 109; (with_reducible refine hS1.mono ?_); rintro e w' ⟨rfl, rfl⟩)
              | (go_at_call 112; (with_reducible refine hQ.mono ?_); rintro e w' ⟨rfl, rfl⟩))
            go_ret3
            exact ⟨by rw [hE.out, hN.out]; rfl, 0, rfl⟩
          · have hlen' : ((len : Int) == 1) = false := by simp; omega
            go_enter Tryd.func104, Tryd.ntmps104
            go_wp2_with (first
              | (go_at_call 109; (with_reducible refine hS1.mono ?_); rintro e w' ⟨rfl, rfl⟩)
              | (go_at_call 112; (with_reducible refine hQ.mono ?_); rintro e w' ⟨rfl, rfl⟩))
            go_ret3
            exact ⟨by rw [hE.out, hN.out]; rfl, 0, rfl⟩
      · rw [hh] at hS1
        have hlo : hdB loB r = false := by rw [utP_hd] at hp; simpa [hdB, hh] using hp
        have hs : surB x = true := by rw [hi_lo, hh]; rfl
        by_cases hlen : len = 1
        · have hE : Hid (ut1 (x :: r) = (65533, 4)) := by rw [Hid, takeU_arms hs, if_neg (by simp [hp]), if_pos ⟨List.eq_nil_of_length_eq_zero (by simp at hsz; omega), hh⟩]
          rw [hs] at hQ
          clear hp hh hlo hs hpc
          subst hlen
          have hS2 := fun (a : Option Addr) (c : Nat) => starts_none a c (.func (.func 110) #[.int .u16 56320] #[]) w
          go_enter Tryd.func104, Tryd.ntmps104
          go_wp2_with (first
            | (go_at_call 109; (first | (with_reducible refine hS1.mono ?_) | (with_reducible refine hS2.mono ?_) | (with_reducible refine (hS2 _ _).mono ?_)); rintro e w' ⟨rfl, rfl⟩)
            | (go_at_call 112; (with_reducible refine hQ.mono ?_); rintro e w' ⟨rfl, rfl⟩))
          all_goals
            go_ret3
            exact ⟨by rw [hE.out, hN.out]; rfl, 0, rfl⟩
        · have hE : Hid (ut1 (x :: r) = (65533, 3)) := by rw [Hid, takeU_arms hs, if_neg (by simp [hp]), if_neg (by rintro ⟨rfl, _⟩; simp at hsz; omega)]
          rw [hs] at hQ
          have hlen' : ((len : Int) == 1) = false := by simp; omega
          rw [if_neg (by omega)] at hpc
          have hS2 := starts_low _ _ _ _ _ hpc
          rw [hlo] at hS2
          simp only [Option.map_some, Addr.add_lit] at hS2
          clear hp hh hlo hs
          go_enter Tryd.func104, Tryd.ntmps104
          go_wp2_with (first
            | (go_at_call 109; (first | (with_reducible refine hS1.mono ?_) | (with_reducible refine hS2.mono ?_) | (with_reducible refine (hS2 _ _).mono ?_)); rintro e w' ⟨rfl, rfl⟩)
            | (go_at_call 112; (with_reducible refine hQ.mono ?_); rintro e w' ⟨rfl, rfl⟩))
          go_ret3
          exact ⟨by rw [hE.out, hN.out]; rfl, 0, rfl⟩
    · have hN : Hid (utN (x :: r) = 2) := by unfold utN; rw [Hid, if_pos hp]
      match r, hp with
      | [], hp => cases hp
      | y :: r', hp =>
        have hpq : (hiB x && loB y) = true := hp
        have hE : Hid (ut1 (x :: y :: r') = (pairU x y, 0)) := by unfold ut1; rw [Hid, if_pos hp]; rfl
        have hpq2 := hpq
        rw [Bool.and_eq_true] at hpq2
        rw [hpq2.1] at hS1
        have hl2 : 2 ≤ len := by simp at hsz; omega
        rw [if_neg (by omega)] at hpc
        have hS2 := starts_low _ _ _ _ _ hpc
        rw [show hdB loB (y :: r') = true from hpq2.2] at hS2
        simp only [Option.map_some, Addr.add_lit] at hS2
        obtain ⟨b2, off2, y', hb, _, hcy, hy0, hy1, hy⟩ := hr.get16 (i := 1) (by omega)
        cases hb
        obtain rfl : y = y' := by have := hy.out.1; simpa using this
        have HPQ := hid hpq
        clear hp hpq hpq2 hy
        go_enter Tryd.func104, Tryd.ntmps104
        go_wp2_with (first
          | (go_at_call 109; (first | (with_reducible refine hS1.mono ?_) | (with_reducible refine hS2.mono ?_) | (with_reducible refine (hS2 _ _).mono ?_)); rintro e w' ⟨rfl, rfl⟩))
        go_quiet ((go_at_call 111; exact Calls.quiet_of_same (Calls.flip (units_join _ _ _ h0 h1 hy0 hy1 HPQ.out))))
        go_wp2_with fail
        go_ret3
        exact ⟨by rw [hE.out, hN.out]; rfl, _, rfl⟩
end Go.Proofs.YtiacijodoojgoaaDoor

/-! C06b -/
namespace Go.Proofs.YtiacijodoojgoaaDoor
open Go.RowKit
set_option linter.unusedVariables false

end Go.Proofs.YtiacijodoojgoaaDoor

/-! Rdr -/
namespace Go.Proofs.YtiacijodoojgoaaDoor
open Go.RowKit
set_option linter.unusedVariables false

/-- Block B holds the cells vs of type t. -/
def Blk (W : World) (B : Nat) (t : TypeId) (vs : Array Value) : Prop := W.heap[B]? = some (.cells vs t (0, 0))
theorem Blk.lt {W : World} {B : Nat} {t : TypeId} {vs : Array Value} (h : Blk W B t vs) : B < W.heap.size := (Array.getElem?_eq_some_iff.1 h).1
theorem Blk.cell {W : World} {B : Nat} {t : TypeId} {vs : Array Value} (h : Blk W B t vs) {i : Nat} {v : Value} (hi : vs[i]? = some v) : W.cell? ⟨B, i, none⟩ = some v := by rw [cell_of_row _ _ _ _ _ _ h]; exact hi
theorem Blk.frozen {W : World} {B : Nat} {t : TypeId} {vs : Array Value} (h : Blk W B t vs) (i : Nat) : W.frozen? ⟨B, i, none⟩ = false := by simp [World.frozen?, show W.heap[B]? = _ from h]
theorem Blk.new (W : World) (t : TypeId) (vs : Array Value) : Blk (W.alloc (.cells vs t)) W.heap.size t vs := heap_alloc_new W _
theorem Blk.kept {W W' : World} {row : Option Nat} {B : Nat} {t : TypeId} {vs : Array Value} (h : Blk W B t vs) (hg : W.grownBy W' row) (hne : some B ≠ row) : Blk W' B t vs := (hg.block B h.lt hne).trans h
theorem Blk.below {W W' : World} {B D : Nat} {t : TypeId} {vs : Array Value} (h : Blk W B t vs) (hb : Below D W W') (hlt : B < D) : Blk W' B t vs := (hb.block B hlt).trans h
theorem Blk.drewN {W : World} {B : Nat} {t : TypeId} {vs : Array Value} (h : Blk W B t vs) (n : Nat) : Blk (W.drewN n) B t vs := h
theorem Blk.set {W : World} {B : Nat} {t : TypeId} {vs : Array Value} (h : Blk W B t vs) (i : Nat) (u : Value) : Blk (W.setCell ⟨B, i, none⟩ u) B t (vs.setIfInBounds i u) := by
  obtain ⟨hlt, hk⟩ := Array.getElem?_eq_some_iff.1 h
  show (W.heap.modify B _)[B]? = _
  rw [Array.getElem?_eq_getElem (by rw [Array.size_modify]; exact hlt), Array.getElem_modify_self, hk]
  rfl
theorem grownBy_set (W : World) (b i : Nat) (v : Value) : W.grownBy (W.setCell ⟨b, i, none⟩ v) (some b) :=
  ⟨rfl, rfl, rfl, by simp [World.setCell], fun k _ hk => Below.heap_setCell _ _ _ k (fun e => hk (by rw [e]))⟩
theorem grownBy_t {a b c : World} {row : Option Nat} (h : a.grownBy b row) (k : b.grownBy c row) : a.grownBy c row :=
  ⟨k.os.trans h.os, k.tape.trans h.tape, k.output.trans h.output, Nat.le_trans h.size k.size, fun i hi hn => (k.block i (Nat.lt_of_lt_of_le hi h.size) hn).trans (h.block i hi hn)⟩
theorem grownBy_draws (W : World) (n : Nat) (row : Option Nat) : W.grownBy (W.drewN n) row := ⟨rfl, rfl, rfl, Nat.le_refl _, fun _ _ _ => rfl⟩
theorem Blk.not_row {W : World} {B : Nat} {t e : TypeId} {vs : Array Value} (h : Blk W B t vs) (hte : t ≠ e) {base size k : Nat} {v : Value} {xs : List Value} (hr : W.ownsRow base e size v k xs) : some B ≠ v.ownBlock := by
  rcases hr.2 with ⟨rfl, _⟩ | ⟨g, cap, cur, rfl, _, hgb, _⟩
  · simp [Value.ownBlock]
  · intro e'
    obtain rfl : B = g := by simpa [Value.ownBlock] using e'
    have := (show W.heap[B]? = _ from h).symm.trans hgb
    simp at this
    exact hte this.2
/-- A row of the call's own is not the struct's block: it stays when that is written. -/
theorem Own.beside {k : IntKind} {e t : TypeId} {base B : Nat} {W W' : World} {v : Value} {xs : List Int} {vs : Array Value} (h : Own k e base W v xs) (hB : Blk W B t vs) (hte : t ≠ e) (hg : W.grownBy W' (some B)) : Own k e base W' v xs :=
  ⟨h.1.kept hg (.inr fun e' => hB.not_row hte h.1 e'.symm), h.2⟩
/-- The struct's block is from B on: what is below stays. -/
theorem below_beside {a w w' : World} {B D : Nat} (h : Below D a w) (hg : w.grownBy w' (some B)) (hD : D ≤ w.heap.size) (hB : D ≤ B) : Below D a w' := h.grown hg hD (fun k hk => by cases hk; exact hB)

section
variable {P : Program} {ops : Array Oper} {rest : List Oper} {o : Oper} {a : Act} {Q : Exit → Act → World → Prop} {t e : TypeId} {k : IntKind} {by_ : Nat}
/-- 'append(s, y1, y2, ..)' beside a struct's block. -/
theorem wpList_pushsB (ST : SliceT P t e k by_) (ys : List Int) (hgd : o.guard = none) (s x : Operand) (ho : o.op = .call { callee := .builtin .append, args := #[s, x], argTypes := #[t, t] })
    {w0 wr : World} {e' T : TypeId} {v : Value} {xs : List Int} {B : Nat} {vs : Array Value} (hs : a.eval s = v) (hx : ∃ c, a.eval x = .slice (some ⟨wr.heap.size, 0, none⟩) ys.length c)
    (hown : Own k e w0.heap.size wr v xs) (hbel : Below w0.heap.size w0 wr) (hB : Blk wr B T vs) (hte : T ≠ e) (hlen : xs.length + ys.length < 1000000000000) (hwf : ∀ y ∈ ys, (Lit.int k y).wf = true)
    (h : ∀ v' w', Own k e w0.heap.size w' v' (xs ++ ys) → Below w0.heap.size w0 w' → Blk w' B T vs → wpList P ops Q rest (a.put o.dst v') w') :
    wpList P ops Q (o :: rest) a (wr.alloc (.cells (ys.map (Value.int k)).toArray e')) := by
  obtain ⟨i, hi, hz0, hz1, hz2⟩ := info_parts ST.info
  obtain ⟨c, hx⟩ := hx
  have hsm := ST.small
  have hmul : (xs.length + ys.length) * by_ ≤ (xs.length + ys.length) * 8 := Nat.mul_le_mul_left _ hsm
  have hB1 : Blk (wr.alloc (.cells (ys.map (Value.int k)).toArray e')) B T vs := hB.kept (World.grownBy_alloc _ _ none) (by simp)
  refine wpList_append_own _ hgd s x t ho w0.heap.size e i (.int k 0) 1 by_ ST.under hi hz0 hz1 hz2 rfl (by decide) v xs.length (xs.map (Value.int k)) hs (hown.1.alloc _) ⟨wr.heap.size, 0, none⟩ ys.length c (ys.map (Value.int k)) hx (by simp) ?_ (ints_oneCell _ _) (by unfold maxLen; omega) (by omega)
    (Nat.le_trans hbel.size (by simp)) ?_
  · intro j u hj
    rw [Addr.add_lit, World.cell?_alloc_at _ _ _ _ rfl]
    simpa using hj
  · intro v' w' hown' hgrow _
    refine h v' w' ⟨by simpa using hown', ?_⟩ ((hbel.alloc hbel.size _).grown hgrow (Nat.le_trans hbel.size (by simp)) (fun j hj => (hown.1.lt j hj).1)) (hB1.kept hgrow (hB1.not_row hte (hown.1.alloc _)))
    intro z hz
    rcases List.mem_append.1 hz with hz | hz
    · exact hown.2 z hz
    · exact hwf z hz
end
end Go.Proofs.YtiacijodoojgoaaDoor
