/-
  Proved: for every []byte s (nil, empty, of any length and capacity) and int at, in whatever memory and on every schedule, sheavelaw20.QwordParts(s, at) returns true, without a panic or a race, and its arguments read as before. No condition.
-/
import Derived.Test.YtkmilfhcembkfaaRows
import Derived.Test.YtkmilfhcembkfaaAlive20
import Derived.Test.YtkmilfhcembkfaaR20
import Derived.Test.YtkmilfhcembkfaaStm
import Derived.Test.YtkmilfhcembkfaaHeld
import Derived.WalkKit
import Derived.ProofKit
import Derived.OpenShut
import Derived.ShutString
import Derived.ChangeOld
import Derived.Below
namespace Go.Proofs.Ytkmilfhcembkfaa.qwordParts
open Go.ChangeShapes Go.WideShapes Go.ChangeAt Go.RowKit
open Go.ChangeMaps (open_string shut_string)
set_option linter.unusedVariables false

theorem own : ownKnob Try.prog.godebug = none := by kernel_rfl
theorem laidOut : laidOutB Try.prog = true := by kernel_rfl
theorem like20_same (a : Option Addr) (len cap : Nat) (a2 : Option Addr) (len2 cap2 : Nat) (xs : List Int) (w : World) (hr : Reads .u8 w a len cap xs) (hr2 : Reads .u8 w a2 len2 cap2 xs) :
    Calls Try.prog 9 #[.slice a len cap, .slice a2 len2 cap2] w fun e w' => e = .returned (.bool true) ∧ ∃ n, w' = w.drewN n := by
  have := like_r a len cap xs a2 len2 cap2 xs w hr hr2
  rwa [decide_eq_true rfl] at this
theorem layn {a : Option Addr} {len cap : Nat} {xs : List Int} {w : World} (hr : Reads .u8 w a len cap xs) (hN : len ≤ 1000) : Calls Try.prog 8 #[.slice a len cap] w fun e w' => ∃ a' len' cap', e = .returned (.slice a' len' cap') ∧ Reads .u8 w' a' len' cap' (layW xs) ∧ Below w.heap.size w w' ∧ len' ≤ 3000 := by
  refine (qword_Lay a len cap xs w hr (by omega)).mono ?_
  rintro e w' ⟨a', l, c, rfl, h1, h2⟩
  have := h1.size
  have := layW_len xs
  have := hr.size
  exact ⟨a', l, c, rfl, h1, h2, by omega⟩
theorem lenn {a : Option Addr} {len cap : Nat} {xs : List Int} {w : World} {l : Int} (hr : Reads .u8 w a len cap xs) (h : l = (layW xs).length) (hN : len ≤ 1000) : Calls Try.prog 11 #[.slice a len cap] w fun e w' => e = .returned (.int .i64 l) ∧ Below w.heap.size w w' := by
  rw [h]
  exact qword_Len a len cap xs w hr (by omega)
set_option maxHeartbeats 4000000 in
set_option maxRecDepth 100000 in
theorem walk (a0 : Option Addr) (len0 cap0 : Nat) (xs0 : List Int) (a1 : Int) (w : World) (r0 : Reads .u8 w a0 len0 cap0 xs0) (w1 : (Lit.int .i64 a1).wf = true) :
    Calls Try.prog 6 #[.slice a0 len0 cap0, .int .i64 a1] w fun e w' => e = .returned (.bool true) ∧ Below w.heap.size w w' := by
  have hw1 := wf_i64 w1
  clear w1
  by_cases hN : len0 ≤ 1000
  · have R := hid r0
    have hcap := r0.room
    obtain ⟨p, hp, hpl⟩ : ∃ p : Nat, (min (max a1 0) (len0 : Int)) = p ∧ p ≤ len0 := ⟨(min (max a1 0) (len0 : Int)).toNat, by omega, by omega⟩
    have hpc : p ≤ cap0 := Nat.le_trans hpl hcap
    have RA := hid (r0.pre hpl)
    have hq := r0.piece (l := p) (r := len0) hpl (Nat.le_refl _)
    rw [List.take_of_length_le (by rw [r0.size]; exact Nat.le_refl _)] at hq
    have RB := hid hq
    have LL : Hid ([] ++ layW (xs0.take p) ++ layW (xs0.drop p) = layW xs0) := by
      unfold Hid
      rw [List.nil_append, ← layW_app, List.take_append_drop]
    clear r0 hq
    have key : (a1 < 0 ∧ p = 0) ∨ (a1 = (p : Int) ∧ 0 ≤ a1 ∧ a1 ≤ (len0 : Int)) ∨ ((len0 : Int) < a1 ∧ p = len0) := by omega
    clear hp
    rcases key with ⟨ha, rfl⟩ | ⟨rfl, ha0, ha1⟩ | ⟨ha, rfl⟩
    · have RB := R
      have LL : Hid ([] ++ layW (xs0.take 0) ++ layW xs0 = layW xs0) := LL
      go_enter Try.func6, Try.ntmps6
      go_wp2_with fail
      go_region_held3 (fun _ => True) (trivial) (first
        | (go_at_call 8; (with_reducible refine (layn (RA.out.below (below_drew (Below.refl _ _))) (by omega)).mono ?_); rintro e w1 ⟨a1, l1, c1, rfl, r1, h1, hl1⟩; have RB1 := hid ((RB.out.below (below_drew (Below.refl _ _))).below h1))
        | (go_at_call 8; (with_reducible refine (layn RB1.out (by omega)).mono ?_); rintro e w2 ⟨a2, l2, c2, rfl, r2, h2, hl2⟩; have b2 := (below_drew (Below.refl w.heap.size w)).trans (h1.trans (h2.mono h1.size)); have R2 := hid (R.out.below b2); have RA2 := hid (RA.out.below b2); have RB2 := hid (RB.out.below b2); have hs1 := r1.size; have hs2 := r2.size; have X1 := hid (r1.below h2); have X2 := hid r2; clear r1 r2 h1 h2 RB1))
      all_goals
        have q0 : IntKind.i64.wrap ((l1 : Int) + (l2 : Int)) = (l1 : Int) + (l2 : Int) := IntWalk.i64_in _ (by omega)
        have HL : Hid ((l1 : Int) + (l2 : Int) = (layW xs0).length) := by
          unfold Hid
          rw [← LL.out, List.nil_append, List.length_append, hs1, hs2]
          exact (Int.natCast_add _ _).symm
        have HA : Hid ((l1 : Int) = (layW (List.take 0 xs0)).length) := by unfold Hid; rw [hs1]
        have HB : Hid ((l2 : Int) = (layW xs0).length) := by unfold Hid; rw [hs2]
        have hlx := layW_len xs0
        rw [R.out.size] at hlx
        clear hs1 hs2 RA RB
        go_wp2_with fail
        go_region_held3 (fun _ => True) (trivial) (first
          | (refine step_more (w0 := w2) (wr := w2.drew) CT8 rfl (.const (.slice none 0 0)) (.tmp 25) rfl rfl rfl (Own.nil _ _ _ _) (below_drew (Below.refl _ _)) (X1.out.below (below_drew (Below.refl _ _))) (by simp only [List.length_nil]; omega) ?_; intro v3 w3 o3 b3)
          | (refine step_more (w0 := w2) CT8 rfl (.tmp 26) (.tmp 27) rfl rfl rfl o3 b3 (X2.out.below b3) (by simp only [List.nil_append]; have := X1.out.size; omega) ?_; intro v4 w4 o4 b4; rw [LL.out] at o4; obtain ⟨a4, c4, hv4, r4⟩ := o4.reads; obtain ⟨l4, hl4⟩ : ∃ l4, l4 = (layW xs0).length := ⟨_, rfl⟩; rw [← hl4] at hv4 r4; subst hv4; have HR4 := hid r4; have B4 := hid b4; clear o4 r4 hl4 o3 b3 b4)
          | (go_at_call 8; (with_reducible refine (layn (R2.out.below B4.out) (by omega)).mono ?_); rintro e w5 ⟨a5, l5, c5, rfl, r5, h5, hl5⟩; have B5 := hid (below_then B4.out h5); have HR5 := hid r5; have HR45 := hid (HR4.out.below h5); clear h5 r5)
          | (go_at_call 9; (with_reducible refine (like20_same _ _ _ _ _ _ _ _ HR45.out HR5.out).mono ?_); rintro e w6 ⟨rfl, n6, hw6⟩; have B6 := hid (by rw [hw6]; exact Below.drewN B5.out n6 : Below w2.heap.size w2 w6); clear hw6)
          | (go_at_call 11; (with_reducible refine (lenn (R2.out.below B6.out) HL.out (by omega)).mono ?_); rintro e w7 ⟨rfl, h7⟩; have B7 := hid (below_then B6.out h7); clear h7)
          | (go_at_call 11; (with_reducible refine (lenn (RA2.out.below B7.out) HA.out (by omega)).mono ?_); rintro e w8 ⟨rfl, h8⟩; have B8 := hid (below_then B7.out h8); clear h8)
          | (go_at_call 11; (with_reducible refine (lenn (RB2.out.below B8.out) HB.out (by omega)).mono ?_); rintro e w9 ⟨rfl, h9⟩; have B9 := hid (below_then B8.out h9); clear h9)
          | (go_at_call 7; (with_reducible refine (alive20_any _).mono ?_); rintro e w10 ⟨rfl, h10⟩; have B10 := hid (below_then B9.out h10); clear h10))
        all_goals
          go_wp2_with fail
          go_ret
          exact ⟨rfl, b2.trans (B10.out.mono b2.size)⟩
    · have i0 : (0 : Int) ≤ (p : Int) := by omega
      have i2 : (p : Int) ≤ (cap0 : Int) := by omega
      have i1 : (p : Int) ≤ (len0 : Int) := by omega
      have i3 : (len0 : Int) ≤ (cap0 : Int) := by omega
      by_cases hcp : cap0 = p
      · have rb := RB.out
        rw [if_pos hcp] at rb
        clear RB
        subst hcp
        obtain rfl : len0 = cap0 := by omega
        simp only [Nat.sub_self] at rb
        have RB := hid rb
        clear rb
        go_enter Try.func6, Try.ntmps6
        go_wp2_with fail
        go_region_held3 (fun _ => True) (trivial) (first
          | (go_at_call 8; (with_reducible refine (layn (RA.out.below (below_drew (Below.refl _ _))) (by omega)).mono ?_); rintro e w1 ⟨a1, l1, c1, rfl, r1, h1, hl1⟩; have RB1 := hid ((RB.out.below (below_drew (Below.refl _ _))).below h1))
          | (go_at_call 8; (with_reducible refine (layn RB1.out (by omega)).mono ?_); rintro e w2 ⟨a2, l2, c2, rfl, r2, h2, hl2⟩; have b2 := (below_drew (Below.refl w.heap.size w)).trans (h1.trans (h2.mono h1.size)); have R2 := hid (R.out.below b2); have RA2 := hid (RA.out.below b2); have RB2 := hid (RB.out.below b2); have hs1 := r1.size; have hs2 := r2.size; have X1 := hid (r1.below h2); have X2 := hid r2; clear r1 r2 h1 h2 RB1))
        all_goals
          have q0 : IntKind.i64.wrap ((l1 : Int) + (l2 : Int)) = (l1 : Int) + (l2 : Int) := IntWalk.i64_in _ (by omega)
          have HL : Hid ((l1 : Int) + (l2 : Int) = (layW xs0).length) := by
            unfold Hid
            rw [← LL.out, List.nil_append, List.length_append, hs1, hs2]
            exact (Int.natCast_add _ _).symm
          have HA : Hid ((l1 : Int) = (layW (List.take len0 xs0)).length) := by unfold Hid; rw [hs1]
          have HB : Hid ((l2 : Int) = (layW (List.drop len0 xs0)).length) := by unfold Hid; rw [hs2]
          have hlx := layW_len xs0
          rw [R.out.size] at hlx
          clear hs1 hs2 RA RB
          go_wp2_with fail
          go_region_held3 (fun _ => True) (trivial) (first
            | (refine step_more (w0 := w2) (wr := w2.drew) CT8 rfl (.const (.slice none 0 0)) (.tmp 25) rfl rfl rfl (Own.nil _ _ _ _) (below_drew (Below.refl _ _)) (X1.out.below (below_drew (Below.refl _ _))) (by simp only [List.length_nil]; omega) ?_; intro v3 w3 o3 b3)
            | (refine step_more (w0 := w2) CT8 rfl (.tmp 26) (.tmp 27) rfl rfl rfl o3 b3 (X2.out.below b3) (by simp only [List.nil_append]; have := X1.out.size; omega) ?_; intro v4 w4 o4 b4; rw [LL.out] at o4; obtain ⟨a4, c4, hv4, r4⟩ := o4.reads; obtain ⟨l4, hl4⟩ : ∃ l4, l4 = (layW xs0).length := ⟨_, rfl⟩; rw [← hl4] at hv4 r4; subst hv4; have HR4 := hid r4; have B4 := hid b4; clear o4 r4 hl4 o3 b3 b4)
            | (go_at_call 8; (with_reducible refine (layn (R2.out.below B4.out) (by omega)).mono ?_); rintro e w5 ⟨a5, l5, c5, rfl, r5, h5, hl5⟩; have B5 := hid (below_then B4.out h5); have HR5 := hid r5; have HR45 := hid (HR4.out.below h5); clear h5 r5)
            | (go_at_call 9; (with_reducible refine (like20_same _ _ _ _ _ _ _ _ HR45.out HR5.out).mono ?_); rintro e w6 ⟨rfl, n6, hw6⟩; have B6 := hid (by rw [hw6]; exact Below.drewN B5.out n6 : Below w2.heap.size w2 w6); clear hw6)
            | (go_at_call 11; (with_reducible refine (lenn (R2.out.below B6.out) HL.out (by omega)).mono ?_); rintro e w7 ⟨rfl, h7⟩; have B7 := hid (below_then B6.out h7); clear h7)
            | (go_at_call 11; (with_reducible refine (lenn (RA2.out.below B7.out) HA.out (by omega)).mono ?_); rintro e w8 ⟨rfl, h8⟩; have B8 := hid (below_then B7.out h8); clear h8)
            | (go_at_call 11; (with_reducible refine (lenn (RB2.out.below B8.out) HB.out (by omega)).mono ?_); rintro e w9 ⟨rfl, h9⟩; have B9 := hid (below_then B8.out h9); clear h9)
            | (go_at_call 7; (with_reducible refine (alive20_any _).mono ?_); rintro e w10 ⟨rfl, h10⟩; have B10 := hid (below_then B9.out h10); clear h10))
          all_goals
            go_wp2_with fail
            go_ret
            exact ⟨rfl, b2.trans (B10.out.mono b2.size)⟩
      · have rb := RB.out
        rw [if_neg hcp] at rb
        clear RB
        have RB := hid rb
        clear rb
        go_enter Try.func6, Try.ntmps6
        go_wp2_with fail
        go_region_held3 (fun _ => True) (trivial) (first
          | (go_at_call 8; (with_reducible refine (layn (RA.out.below (below_drew (Below.refl _ _))) (by omega)).mono ?_); rintro e w1 ⟨a1, l1, c1, rfl, r1, h1, hl1⟩; have RB1 := hid ((RB.out.below (below_drew (Below.refl _ _))).below h1))
          | (go_at_call 8; (with_reducible refine (layn RB1.out (by omega)).mono ?_); rintro e w2 ⟨a2, l2, c2, rfl, r2, h2, hl2⟩; have b2 := (below_drew (Below.refl w.heap.size w)).trans (h1.trans (h2.mono h1.size)); have R2 := hid (R.out.below b2); have RA2 := hid (RA.out.below b2); have RB2 := hid (RB.out.below b2); have hs1 := r1.size; have hs2 := r2.size; have X1 := hid (r1.below h2); have X2 := hid r2; clear r1 r2 h1 h2 RB1))
        all_goals
          have q0 : IntKind.i64.wrap ((l1 : Int) + (l2 : Int)) = (l1 : Int) + (l2 : Int) := IntWalk.i64_in _ (by omega)
          have HL : Hid ((l1 : Int) + (l2 : Int) = (layW xs0).length) := by
            unfold Hid
            rw [← LL.out, List.nil_append, List.length_append, hs1, hs2]
            exact (Int.natCast_add _ _).symm
          have HA : Hid ((l1 : Int) = (layW (List.take p xs0)).length) := by unfold Hid; rw [hs1]
          have HB : Hid ((l2 : Int) = (layW (List.drop p xs0)).length) := by unfold Hid; rw [hs2]
          have hlx := layW_len xs0
          rw [R.out.size] at hlx
          clear hs1 hs2 RA RB
          go_wp2_with fail
          go_region_held3 (fun _ => True) (trivial) (first
            | (refine step_more (w0 := w2) (wr := w2.drew) CT8 rfl (.const (.slice none 0 0)) (.tmp 25) rfl rfl rfl (Own.nil _ _ _ _) (below_drew (Below.refl _ _)) (X1.out.below (below_drew (Below.refl _ _))) (by simp only [List.length_nil]; omega) ?_; intro v3 w3 o3 b3)
            | (refine step_more (w0 := w2) CT8 rfl (.tmp 26) (.tmp 27) rfl rfl rfl o3 b3 (X2.out.below b3) (by simp only [List.nil_append]; have := X1.out.size; omega) ?_; intro v4 w4 o4 b4; rw [LL.out] at o4; obtain ⟨a4, c4, hv4, r4⟩ := o4.reads; obtain ⟨l4, hl4⟩ : ∃ l4, l4 = (layW xs0).length := ⟨_, rfl⟩; rw [← hl4] at hv4 r4; subst hv4; have HR4 := hid r4; have B4 := hid b4; clear o4 r4 hl4 o3 b3 b4)
            | (go_at_call 8; (with_reducible refine (layn (R2.out.below B4.out) (by omega)).mono ?_); rintro e w5 ⟨a5, l5, c5, rfl, r5, h5, hl5⟩; have B5 := hid (below_then B4.out h5); have HR5 := hid r5; have HR45 := hid (HR4.out.below h5); clear h5 r5)
            | (go_at_call 9; (with_reducible refine (like20_same _ _ _ _ _ _ _ _ HR45.out HR5.out).mono ?_); rintro e w6 ⟨rfl, n6, hw6⟩; have B6 := hid (by rw [hw6]; exact Below.drewN B5.out n6 : Below w2.heap.size w2 w6); clear hw6)
            | (go_at_call 11; (with_reducible refine (lenn (R2.out.below B6.out) HL.out (by omega)).mono ?_); rintro e w7 ⟨rfl, h7⟩; have B7 := hid (below_then B6.out h7); clear h7)
            | (go_at_call 11; (with_reducible refine (lenn (RA2.out.below B7.out) HA.out (by omega)).mono ?_); rintro e w8 ⟨rfl, h8⟩; have B8 := hid (below_then B7.out h8); clear h8)
            | (go_at_call 11; (with_reducible refine (lenn (RB2.out.below B8.out) HB.out (by omega)).mono ?_); rintro e w9 ⟨rfl, h9⟩; have B9 := hid (below_then B8.out h9); clear h9)
            | (go_at_call 7; (with_reducible refine (alive20_any _).mono ?_); rintro e w10 ⟨rfl, h10⟩; have B10 := hid (below_then B9.out h10); clear h10))
          all_goals
            go_wp2_with fail
            go_ret
            exact ⟨rfl, b2.trans (B10.out.mono b2.size)⟩
    · have i0 : (0 : Int) ≤ (p : Int) := by omega
      have i2 : (p : Int) ≤ (cap0 : Int) := by omega
      by_cases hcp : cap0 = p
      · have rb := RB.out
        rw [if_pos hcp] at rb
        clear RB
        subst hcp
        simp only [Nat.sub_self] at rb
        have RB := hid rb
        clear rb
        go_enter Try.func6, Try.ntmps6
        go_wp2_with fail
        go_region_held3 (fun _ => True) (trivial) (first
          | (go_at_call 8; (with_reducible refine (layn (RA.out.below (below_drew (Below.refl _ _))) (by omega)).mono ?_); rintro e w1 ⟨a1, l1, c1, rfl, r1, h1, hl1⟩; have RB1 := hid ((RB.out.below (below_drew (Below.refl _ _))).below h1))
          | (go_at_call 8; (with_reducible refine (layn RB1.out (by omega)).mono ?_); rintro e w2 ⟨a2, l2, c2, rfl, r2, h2, hl2⟩; have b2 := (below_drew (Below.refl w.heap.size w)).trans (h1.trans (h2.mono h1.size)); have R2 := hid (R.out.below b2); have RA2 := hid (RA.out.below b2); have RB2 := hid (RB.out.below b2); have hs1 := r1.size; have hs2 := r2.size; have X1 := hid (r1.below h2); have X2 := hid r2; clear r1 r2 h1 h2 RB1))
        all_goals
          have q0 : IntKind.i64.wrap ((l1 : Int) + (l2 : Int)) = (l1 : Int) + (l2 : Int) := IntWalk.i64_in _ (by omega)
          have HL : Hid ((l1 : Int) + (l2 : Int) = (layW xs0).length) := by
            unfold Hid
            rw [← LL.out, List.nil_append, List.length_append, hs1, hs2]
            exact (Int.natCast_add _ _).symm
          have HA : Hid ((l1 : Int) = (layW (List.take cap0 xs0)).length) := by unfold Hid; rw [hs1]
          have HB : Hid ((l2 : Int) = (layW (List.drop cap0 xs0)).length) := by unfold Hid; rw [hs2]
          have hlx := layW_len xs0
          rw [R.out.size] at hlx
          clear hs1 hs2 RA RB
          go_wp2_with fail
          go_region_held3 (fun _ => True) (trivial) (first
            | (refine step_more (w0 := w2) (wr := w2.drew) CT8 rfl (.const (.slice none 0 0)) (.tmp 25) rfl rfl rfl (Own.nil _ _ _ _) (below_drew (Below.refl _ _)) (X1.out.below (below_drew (Below.refl _ _))) (by simp only [List.length_nil]; omega) ?_; intro v3 w3 o3 b3)
            | (refine step_more (w0 := w2) CT8 rfl (.tmp 26) (.tmp 27) rfl rfl rfl o3 b3 (X2.out.below b3) (by simp only [List.nil_append]; have := X1.out.size; omega) ?_; intro v4 w4 o4 b4; rw [LL.out] at o4; obtain ⟨a4, c4, hv4, r4⟩ := o4.reads; obtain ⟨l4, hl4⟩ : ∃ l4, l4 = (layW xs0).length := ⟨_, rfl⟩; rw [← hl4] at hv4 r4; subst hv4; have HR4 := hid r4; have B4 := hid b4; clear o4 r4 hl4 o3 b3 b4)
            | (go_at_call 8; (with_reducible refine (layn (R2.out.below B4.out) (by omega)).mono ?_); rintro e w5 ⟨a5, l5, c5, rfl, r5, h5, hl5⟩; have B5 := hid (below_then B4.out h5); have HR5 := hid r5; have HR45 := hid (HR4.out.below h5); clear h5 r5)
            | (go_at_call 9; (with_reducible refine (like20_same _ _ _ _ _ _ _ _ HR45.out HR5.out).mono ?_); rintro e w6 ⟨rfl, n6, hw6⟩; have B6 := hid (by rw [hw6]; exact Below.drewN B5.out n6 : Below w2.heap.size w2 w6); clear hw6)
            | (go_at_call 11; (with_reducible refine (lenn (R2.out.below B6.out) HL.out (by omega)).mono ?_); rintro e w7 ⟨rfl, h7⟩; have B7 := hid (below_then B6.out h7); clear h7)
            | (go_at_call 11; (with_reducible refine (lenn (RA2.out.below B7.out) HA.out (by omega)).mono ?_); rintro e w8 ⟨rfl, h8⟩; have B8 := hid (below_then B7.out h8); clear h8)
            | (go_at_call 11; (with_reducible refine (lenn (RB2.out.below B8.out) HB.out (by omega)).mono ?_); rintro e w9 ⟨rfl, h9⟩; have B9 := hid (below_then B8.out h9); clear h9)
            | (go_at_call 7; (with_reducible refine (alive20_any _).mono ?_); rintro e w10 ⟨rfl, h10⟩; have B10 := hid (below_then B9.out h10); clear h10))
          all_goals
            go_wp2_with fail
            go_ret
            exact ⟨rfl, b2.trans (B10.out.mono b2.size)⟩
      · have rb := RB.out
        rw [if_neg hcp] at rb
        clear RB
        rw [Nat.sub_self] at rb
        have RB := hid rb
        clear rb
        go_enter Try.func6, Try.ntmps6
        go_wp2_with fail
        go_region_held3 (fun _ => True) (trivial) (first
          | (go_at_call 8; (with_reducible refine (layn (RA.out.below (below_drew (Below.refl _ _))) (by omega)).mono ?_); rintro e w1 ⟨a1, l1, c1, rfl, r1, h1, hl1⟩; have RB1 := hid ((RB.out.below (below_drew (Below.refl _ _))).below h1))
          | (go_at_call 8; (with_reducible refine (layn RB1.out (by omega)).mono ?_); rintro e w2 ⟨a2, l2, c2, rfl, r2, h2, hl2⟩; have b2 := (below_drew (Below.refl w.heap.size w)).trans (h1.trans (h2.mono h1.size)); have R2 := hid (R.out.below b2); have RA2 := hid (RA.out.below b2); have RB2 := hid (RB.out.below b2); have hs1 := r1.size; have hs2 := r2.size; have X1 := hid (r1.below h2); have X2 := hid r2; clear r1 r2 h1 h2 RB1))
        all_goals
          have q0 : IntKind.i64.wrap ((l1 : Int) + (l2 : Int)) = (l1 : Int) + (l2 : Int) := IntWalk.i64_in _ (by omega)
          have HL : Hid ((l1 : Int) + (l2 : Int) = (layW xs0).length) := by
            unfold Hid
            rw [← LL.out, List.nil_append, List.length_append, hs1, hs2]
            exact (Int.natCast_add _ _).symm
          have HA : Hid ((l1 : Int) = (layW (List.take p xs0)).length) := by unfold Hid; rw [hs1]
          have HB : Hid ((l2 : Int) = (layW (List.drop p xs0)).length) := by unfold Hid; rw [hs2]
          have hlx := layW_len xs0
          rw [R.out.size] at hlx
          clear hs1 hs2 RA RB
          go_wp2_with fail
          go_region_held3 (fun _ => True) (trivial) (first
            | (refine step_more (w0 := w2) (wr := w2.drew) CT8 rfl (.const (.slice none 0 0)) (.tmp 25) rfl rfl rfl (Own.nil _ _ _ _) (below_drew (Below.refl _ _)) (X1.out.below (below_drew (Below.refl _ _))) (by simp only [List.length_nil]; omega) ?_; intro v3 w3 o3 b3)
            | (refine step_more (w0 := w2) CT8 rfl (.tmp 26) (.tmp 27) rfl rfl rfl o3 b3 (X2.out.below b3) (by simp only [List.nil_append]; have := X1.out.size; omega) ?_; intro v4 w4 o4 b4; rw [LL.out] at o4; obtain ⟨a4, c4, hv4, r4⟩ := o4.reads; obtain ⟨l4, hl4⟩ : ∃ l4, l4 = (layW xs0).length := ⟨_, rfl⟩; rw [← hl4] at hv4 r4; subst hv4; have HR4 := hid r4; have B4 := hid b4; clear o4 r4 hl4 o3 b3 b4)
            | (go_at_call 8; (with_reducible refine (layn (R2.out.below B4.out) (by omega)).mono ?_); rintro e w5 ⟨a5, l5, c5, rfl, r5, h5, hl5⟩; have B5 := hid (below_then B4.out h5); have HR5 := hid r5; have HR45 := hid (HR4.out.below h5); clear h5 r5)
            | (go_at_call 9; (with_reducible refine (like20_same _ _ _ _ _ _ _ _ HR45.out HR5.out).mono ?_); rintro e w6 ⟨rfl, n6, hw6⟩; have B6 := hid (by rw [hw6]; exact Below.drewN B5.out n6 : Below w2.heap.size w2 w6); clear hw6)
            | (go_at_call 11; (with_reducible refine (lenn (R2.out.below B6.out) HL.out (by omega)).mono ?_); rintro e w7 ⟨rfl, h7⟩; have B7 := hid (below_then B6.out h7); clear h7)
            | (go_at_call 11; (with_reducible refine (lenn (RA2.out.below B7.out) HA.out (by omega)).mono ?_); rintro e w8 ⟨rfl, h8⟩; have B8 := hid (below_then B7.out h8); clear h8)
            | (go_at_call 11; (with_reducible refine (lenn (RB2.out.below B8.out) HB.out (by omega)).mono ?_); rintro e w9 ⟨rfl, h9⟩; have B9 := hid (below_then B8.out h9); clear h9)
            | (go_at_call 7; (with_reducible refine (alive20_any _).mono ?_); rintro e w10 ⟨rfl, h10⟩; have B10 := hid (below_then B9.out h10); clear h10))
          all_goals
            go_wp2_with fail
            go_ret
            exact ⟨rfl, b2.trans (B10.out.mono b2.size)⟩
  · have hN' : 1000 < len0 := by omega
    go_enter Try.func6, Try.ntmps6
    go_wp2_with (go_at_call 7; (with_reducible refine (alive20_any _).mono ?_); rintro e w' ⟨rfl, hb⟩)
    go_ret
    exact ⟨rfl, hb⟩

set_option maxRecDepth 100000 in
theorem lifted (os : Os) (started : os.Started) (H : Type) (enc : TypeId × Value → H) :
    ReturnsInHanded {} Try.checked os 6 .any (Rows.qwordPartsSpec.pre6 enc Try.prog Try.f6 Rows.qwordPartsRow.domain false) (Rows.qwordPartsSpec.post enc Try.prog Try.f6 false true false false) := by
  refine returnsInHanded_of_change (C := Try.checked) own started (by kernel_rfl) Try.func6
    (ChangeSpec.witness6 (enc := enc) (C := Try.checked) false ⟨#[], #[.slice none 0 0, .int .i64 0], []⟩ 8 (by kernel_rfl) (by kernel_rfl) (by kernel_rfl) (by kernel_rfl)) ?_
  intro W base args ds gs before hval0 hW hcnd _
  have hval : ∀ (j : Nat) t v, Try.f6.params[j]? = some t → args[j]? = some v → Value.okWide Try.prog W .any base t v := hval0
  have hW' := hW
  obtain ⟨p, q, hA0, hV, rfl, hfz, hnd⟩ := hW
  have hA : DataW.TrodAll enc Try.prog W 0 (fun _ => true) true Try.f6.params.toList args.toList ds p := hA0
  rw [Try.params6] at hA hval
  obtain ⟨v0, vs0, d0, ds0, p0, q0, hargs, rfl, rfl, h0, r_0⟩ := trodAll_cons hA
  obtain ⟨v1, vs1, d1, ds1, p1, q1, rfl, rfl, rfl, h1, r_1⟩ := trodAll_cons r_0
  obtain ⟨rfl, rfl, rfl⟩ := trodAll_nil r_1
  obtain rfl : args = #[v0, v1] := by cases args; simp_all
  obtain ⟨rfl, rfl⟩ := trodVars_none hV
  obtain ⟨a0, len0, cap0, rfl⟩ := okWide_slice Try.underlying22 (hval 0 22 v0 rfl rfl)
  have k0 := h0
  have lt0 : ∀ x ∈ p0, x.block < W.heap.size := by obtain ⟨m, hm⟩ := k0; exact DataW.trod_lt m _ _ _ hm
  obtain ⟨xs0, r0⟩ : ∃ xs, Reads .u8 W a0 len0 cap0 xs := by
    obtain ⟨fuel, hf⟩ := h0
    rcases open_ints Try.underlying22 Try.underlying5 (by kernel_rfl) hf with ⟨hcs, _⟩ | ⟨x, l, c, zs, hcs, _, hl, hm, hz, _, hcell, hwz⟩
    · simp [Value.cells] at hcs
      obtain ⟨rfl, rfl, rfl⟩ := hcs
      exact ⟨[], Reads.nil _ _ _ _ (Nat.zero_le _)⟩
    · simp [Value.cells] at hcs
      obtain ⟨rfl, rfl, rfl⟩ := hcs
      exact ⟨_, reads_of_ints hl hm (by simpa using hz) hcell hwz⟩
  obtain ⟨a1, rfl, rfl, rfl, w1⟩ := open_int Try.underlying3 (hval 1 3 v1 rfl rfl) h1
  clear hA0 hval0
  refine (walk a0 len0 cap0 xs0 a1 W r0 w1).mono fun e W' ⟨he, bel⟩ => ?_
  subst he
  exact ⟨_, rfl, _, _, _, [], _, [], hW', trodAll_mk1 (shut_bool Try.underlying4 _), (trodAll_cons_mk (Below.trod laidOut (by kernel_rfl) (of_decide_eq_true (by kernel_rfl)) k0 bel lt0) (trodAll_cons_mk (shut_int Try.underlying3 w1) trodAll_mk0)), rfl, bel.frame _, fun h => by cases h⟩

theorem over : Rows.qwordPartsRow.holds Try.pinned (OpenSpec.ofChange Rows.qwordPartsSpec) :=
  OpenClaim.holds_of_wide 6 Try.f6 rfl rfl rfl rfl rfl rfl rfl ⟨rfl, rfl, rfl, rfl, rfl⟩ rfl rfl rfl rfl rfl (by kernel_rfl) Try.func6 (by kernel_rfl)
    (of_decide_eq_true (by kernel_rfl)) (by unfold Func.isWrapper; first | (rw [if_pos (by decide +kernel)]; kernel_rfl) | (rw [if_neg (by decide +kernel)]; exact ⟨rfl, rfl⟩))
    (fun os started H enc _ => lifted os started H enc)

end Go.Proofs.Ytkmilfhcembkfaa.qwordParts
namespace Go.Proofs.Ytkmilfhcembkfaa
theorem qwordParts_holds : Rows.QwordPartsSaid := qwordParts.over
#print axioms qwordParts_holds
end Go.Proofs.Ytkmilfhcembkfaa
