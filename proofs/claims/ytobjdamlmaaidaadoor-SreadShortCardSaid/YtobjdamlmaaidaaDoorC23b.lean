/-
  Contracts of package sread: piece by piece.
-/
import Derived.Test.YtobjdamlmaaidaaDoorC23a
import Derived.Test.YtobjdamlmaaidaaDoorItm
namespace Go.Proofs.YtobjdamlmaaidaaDoor
open Go.RowKit Go.Shelf
set_option linter.unusedVariables false
attribute [local go_sem] Oper.semAt_some

def Pc.up {w0 : World} {m L : Nat} (p : Pc w0 m) (h : m ≤ L) : Pc w0 L := ⟨p.a, p.m, p.c, p.d, p.s, p.r, p.hr, Nat.le_trans p.hl h, p.h0, p.h1, p.hd⟩
theorem seg7_next {xs : List Int} (h : xs ≠ []) : seg7 xs = u7 xs :: seg7 (xs.drop (nx7 xs)) := by
  cases xs with
  | nil => exact absurd rfl h
  | cons x r => exact seg7_cons x r

set_option maxRecDepth 100000 in
set_option maxHeartbeats 2000000 in
theorem pieces_gives (n n₀ : Nat) (hn : 1 ≤ n) (a : Option Addr) (len cap : Nat) (xs : List Int) (w0 w : World) (hr : Reads .u8 w0 a len cap xs) (hN : len < 10000000000) (hw0 : w0.heap.size ≤ n₀) (hn₀ : n₀ ≤ w.heap.size) (hb0 : Below w0.heap.size w0 w) :
    Gives (α := Pc w0 len) Fence.wide n Tryd.prog 19 #[.slice a len cap] (fun x => #[x.enc]) n₀ (fun ys => ys.map Pc.val = seg7 xs) len w := by
  intro l J W hW hJ hY h0
  show CallsIn _ _ _ _ #[.slice a len cap, .func (.yield l) #[] #[]] W _
  have hbW := hb0.trans (hW.mono (Nat.le_trans hw0 hn₀))
  have hnW := Nat.le_trans hn₀ hW.size
  have HR := hid hr
  clear hr
  refine callsIn_of_wp Tryd.func19 rfl trivial ?_ rfl
  simp only [Tryd.ntmps19, List.size_toArray, List.length_cons, List.length_nil, Nat.reduceAdd, Nat.reduceSub, Array.replicate_succ, Array.replicate_zero, List.push_toArray, List.append_toArray, List.nil_append, List.cons_append]
  gi_wp2_with fail
  gi_loopw [0] (fun v wr => ∃ (m : Nat) (a' : Option Addr) (c' : Nat) (ys : List Int) (pre : List (Pc w0 len)), pre.length + m ≤ len ∧ v = .slice a' m c' ∧ Hid (pre.map Pc.val ++ seg7 ys = seg7 xs) ∧ J pre wr ∧ Hid (Reads .u8 w0 a' m c' ys) ∧ Below n₀ W wr) (fun v _ => lenV v)
  case atStart => exact ⟨len, a, cap, xs, [], by simp, rfl, rfl, h0, HR, Below.refl _ _⟩
  case round =>
    obtain ⟨m, a', c', ys, pre, hpm, rfl, hps, hJs, hR, hnx⟩ := hrel
    have hszy := hR.out.size
    have hroom := hR.out.room
    by_cases hlt : 0 < m
    · obtain ⟨b, off, rfl, _⟩ := hR.out.cell hlt
      have hne : ys ≠ [] := by intro h; subst h; simp at hszy; omega
      have hF := sread_first w0 wr _ m c' ys hR.out (hbW.trans (hnx.mono hw0)) (by omega) hlt
      have hsg := seg7_next hne
      have hp1 : nx7 ys ≤ m := by
        cases ys with
        | nil => exact absurd rfl hne
        | cons x r => have := nx7_le x r; omega
      have hp0 : 0 < nx7 ys := by
        cases ys with
        | nil => exact absurd rfl hne
        | cons x r => exact nx7_pos x r
      obtain ⟨k, hk⟩ : ∃ k, k = nx7 ys := ⟨_, rfl⟩
      rw [← hk] at hF hsg hp1 hp0
      have hpc := hR.out.piece (l := k) (r := m) hp1 (Nat.le_refl _)
      rw [List.take_of_length_le (by omega)] at hpc
      rw [Option.map_some, Addr.add_lit] at hpc
      have hnext : Hid (∀ X : Pc w0 len, X.val = Go.Proofs.YtobjdamlmaaidaaDoor.u7 ys → (pre ++ [X]).map Pc.val ++ seg7 (ys.drop k) = seg7 xs) := fun X hX => by
        rw [← hps.out, hsg, List.map_append, List.append_assoc, ← hX]; rfl
      have hpl : pre.length < len := by omega
      clear hsg hne hps hk
      have q1 : (k : Int) ≤ (m : Int) := by omega
      have q2 : (0 : Int) ≤ (k : Int) := by omega
      have q3 : (k : Int) ≤ (c' : Int) := by omega
      by_cases hc : c' = k
      all_goals
        first | (rw [if_pos hc] at hpc; have r3 : (c' = k) = True := eq_true hc) | (rw [if_neg hc] at hpc; have r3 : (c' = k) = False := eq_false hc)
        have HPC := hid hpc
        clear hpc hc
        gi_wp2_with (refine ⟨trivial, ?_⟩; gi_at_call 27; (with_reducible refine (callsIn_wide.2 hF).mono ?_); rintro e w1 ⟨p, rfl, hpv, hb1⟩; have HV := hid (hnext.out (p.up (by omega)) hpv); clear hpv hnext; simp only [Pc.enc]; (obtain ⟨fn, tmps, assign, body, hy, hR2⟩ := hY pre (p.up (by omega)) _ (abides_below hJ hJs (hb1.alloc hb1.size (.cells #[.slice p.a p.m p.c, .int .i32 p.s, .bool p.r] 47))) hpl); simp only [Pc.enc, Pc.up] at hy)
        refine hR2.mono ?_
        rintro e W3 ⟨rfl, hJ3, hk3⟩
        have hnx3 := ((hnx.trans ((hb1.alloc hb1.size (.cells #[.slice p.a p.m p.c, .int .i32 p.s, .bool p.r] 47)).mono (Nat.le_trans hnW hnx.size)))).trans hk3
        gi_wp2_with fail
        go_roundw
        case rel => exact ⟨m - k, _, _, _, _, by simp; omega, rfl, HV, hJ3, HPC, hnx3⟩
        case measure => simp [lenV]; omega
    · obtain rfl : m = 0 := by omega
      obtain rfl : ys = [] := List.eq_nil_of_length_eq_zero hszy
      have hend : Hid (pre.map Pc.val = seg7 xs) := by
        have := hps.out
        rw [seg7_nil, List.append_nil] at this
        exact this
      gi_wp2_with fail
      go_end0
      exact ⟨⟨_, rfl⟩, _, hend.out, hJs⟩
end Go.Proofs.YtobjdamlmaaidaaDoor
