/-
  Texts of ours laid together: C24b, C04, C04b, C05, C05b, C05c.
-/
import Derived.Handy
import Derived.RangeFuncNested
import Derived.RangeFuncBox
import Derived.RangeFuncCalls
import Derived.RangeFuncLeaves
import Derived.Shelf.Abstract
import Derived.Shelf.RegionOpen
import Derived.OwnWalkIn
import Derived.TacticsInMore
import Derived.LoopNIn
import Derived.LoopIn
import Derived.Maps.AppendAt
import Derived.Test.YtiacijodoojgoaaDoorZ17

/-! C24b -/
namespace Go.Proofs.YtiacijodoojgoaaDoor
open Go.RowKit Go.Shelf
set_option linter.unusedVariables false
attribute [local go_sem] Oper.semAt_some

theorem mb_step2 (xs : List Int) (m j : Nat) (hm : m = cntF notP xs) (hj : j = cntF mbPrt (xs.drop m)) : m ≤ xs.length ∧ m + j ≤ xs.length ∧ (xs ≠ [] → 0 < m + j) ∧
    (∀ c ∈ xs.take m, mbPrt c = true) ∧
    mbLay xs [] = stL (xs.take m, (xs.drop m).take j) ++ mbLay (xs.drop (m + j)) [] ∧
    mbRuns xs false = (if 0 < j then 1 else 0) + mbRuns (xs.drop (m + j)) false := by
  obtain ⟨m', j', h1, h2, h3⟩ := mb_step xs
  obtain rfl : m = m' := hm.trans h1.symm
  obtain rfl : j = j' := hj.trans h2.symm
  exact h3
/-- A step of a text: what stands ahead of a run; the run. -/
structure Rn (w0 : World) (L : Nat) where
  a : Option Addr
  m : Nat
  c : Nat
  p : List Int
  a2 : Option Addr
  j : Nat
  c2 : Nat
  r : List Int
  hp : Reads .i32 w0 a m c p
  hr : Reads .i32 w0 a2 j c2 r
  hl : m + j ≤ L
  ha : ∀ x ∈ p, mbPrt x = true
def Rn.val {w0 : World} {L : Nat} (x : Rn w0 L) : List Int × List Int := (x.p, x.r)
/-- A step as yield is handed it. -/
def Rn.enc {w0 : World} {L : Nat} (x : Rn w0 L) : Array Value := #[.slice x.a x.m x.c, .slice x.a2 x.j x.c2]
def RnAll (w0 : World) (L : Nat) (xs : List Int) (ys : List (Rn w0 L)) : Prop := outS (ys.map Rn.val) = mbLay xs [] ∧ cntS (ys.map Rn.val) = mbRuns xs false


/-! ### piece by piece -/
/-- A piece: a run's digits, or a sign. -/
structure Pm (w0 : World) (L : Nat) where
  a : Option Addr
  m : Nat
  c : Nat
  d : List Int
  s : Int
  hr : Reads .u8 w0 a m c d
  hl : m ≤ L
  h0 : 0 ≤ s
  h1 : s ≤ 65533
  hd : d.all isM = true
def Pm.val {w0 : World} {L : Nat} (x : Pm w0 L) : List Int := pcm x.d x.s
def Pm.enc {w0 : World} {L : Nat} (x : Pm w0 L) : Array Value := #[.slice x.a x.m x.c, .int .i32 x.s]
def Pm.up {w0 : World} {m L : Nat} (p : Pm w0 m) (h : m ≤ L) : Pm w0 L := ⟨p.a, p.m, p.c, p.d, p.s, p.hr, Nat.le_trans p.hl h, p.h0, p.h1, p.hd⟩
set_option maxRecDepth 100000 in
set_option maxHeartbeats 2000000 in
theorem mseven_opened (w0 w : World) (a : Option Addr) (len cap : Nat) (r : List Int) (hr : Reads .u8 w0 a len cap r) (hb : Below w0.heap.size w0 w) :
    Calls Tryd.prog 59 #[.slice a len cap] w fun e w' => ∃ (p : Pm w0 len) (a' : Option Addr) (l' c' : Nat), e = .returned (.tuple #[.slice p.a p.m p.c, .int .i32 p.s, .slice a' l' c']) ∧ p.val = (mbU (38 :: r)).1 ∧ Reads .u8 w0 a' l' c' ((38 :: r).drop (mbN (38 :: r))) ∧ Below w.heap.size w w' := by
  have HC := hid (mseven_cutB _ notM idx_notM a len cap r w0 w hr hb)
  have eU := mbU_amp r
  have eN : (38 :: r).drop (mbN (38 :: r)) = if hdB is45 (r.drop (mbD r)) = true then (r.drop (mbD r)).drop 1 else r.drop (mbD r) := by
    rw [mbN_amp]
    split
    · rw [show 1 + mbD r + 1 = (mbD r + 1) + 1 by omega, List.drop_succ_cons, List.drop_drop]
    · rw [show 1 + mbD r + 0 = mbD r + 1 by omega, List.drop_succ_cons]
  have hall : Hid ((r.take (mbD r)).all isM = true) := by rw [take_mbD]; exact List.all_takeWhile
  have hbw := hid hb.size
  rw [eN, eU]
  clear eN eU hr
  obtain ⟨m, hm⟩ : ∃ m, m = mbD r := ⟨_, rfl⟩
  rw [← hm] at hall ⊢
  rw [cnt_noM, ← hm] at HC
  clear hm
  have HB := hid hb
  clear hb
  have HP := hid (fun a2 l2 c2 W (h : Reads .u8 w0 a2 l2 c2 (r.drop m)) (hW : Below w0.heap.size w0 W) => by
    have := bytes_CutPrefix1 a2 l2 c2 (r.drop m) (some ⟨W.heap.size, 0, none⟩) 1 45 w0 (W.alloc (.cells #[.int .u8 45] 5)) h (hW.alloc hW.size _) (Reads.lit .u8 5 W [45] (by simp [maxLen]) (by decide))
    rw [take1_45] at this
    exact this)
  by_cases hpos : 0 < m
  · rw [if_pos hpos]
    cases hc : hdB is45 (r.drop m)
    all_goals
      rw [hc] at HP
      clear hc
      first | rw [if_neg Bool.false_ne_true] | rw [if_pos rfl]
      first | rw [if_neg Bool.false_ne_true] at HP | rw [if_pos rfl] at HP
      go_enter Tryd.func59, Tryd.ntmps59
      go_wp2_with (first
        | (go_at_call 72; (with_reducible refine HC.out.mono ?_); rintro e w1 ⟨m1, c1, a2, c2, hm1, hm1l, rfl, r1, r2, hb1⟩; subst hm1; have hB1 := hid (HB.out.trans (hb1.mono hbw.out)))
        | (go_at_call 74; (with_reducible refine (HP.out _ _ _ _ r2 hB1.out).mono ?_); rintro e w2 ⟨a3, l3, c3, rfl, r3, rfl⟩))
      go_ret3
      refine ⟨⟨a, m1, c1, _, 0, r1, hm1l, by decide, by decide, hall.out⟩, a3, l3, c3, rfl, ?_, r3, hb1.alloc hb1.size _⟩
      have hne : r.take m1 ≠ [] := fun h0 => by have := r1.size; rw [h0, List.length_nil] at this; omega
      unfold Pm.val pcm
      rw [if_neg hne]
  · rw [if_neg hpos]
    have q0 : ¬ (0 : Int) < (m : Int) := by omega
    clear hpos
    cases hc : hdB is45 (r.drop m)
    all_goals
      rw [hc] at HP
      clear hc
      first | rw [if_neg Bool.false_ne_true] | rw [if_pos rfl]
      first | rw [if_neg Bool.false_ne_true] | rw [if_pos rfl]
      first | rw [if_neg Bool.false_ne_true] at HP | rw [if_pos rfl] at HP
      go_enter Tryd.func59, Tryd.ntmps59
      go_wp2_with (first
        | (go_at_call 72; (with_reducible refine HC.out.mono ?_); rintro e w1 ⟨m1, c1, a2, c2, hm1, hm1l, rfl, r1, r2, hb1⟩; subst hm1; have hB1 := hid (HB.out.trans (hb1.mono hbw.out)))
        | (go_at_call 74; (with_reducible refine (HP.out _ _ _ _ r2 hB1.out).mono ?_); rintro e w2 ⟨a3, l3, c3, rfl, r3, rfl⟩))
      go_ret3
      first
      | exact ⟨⟨none, 0, 0, [], 38, Reads.nil _ _ _ _ (Nat.zero_le _), Nat.zero_le _, by decide, by decide, rfl⟩, a3, l3, c3, rfl, rfl, r3, hb1.alloc hb1.size _⟩
      | exact ⟨⟨none, 0, 0, [], 65533, Reads.nil _ _ _ _ (Nat.zero_le _), Nat.zero_le _, by decide, by decide, rfl⟩, a3, l3, c3, rfl, rfl, r3, hb1.alloc hb1.size _⟩
set_option maxRecDepth 100000 in
set_option maxHeartbeats 2000000 in
theorem mseven_take (w0 w : World) (a : Option Addr) (len cap : Nat) (xs : List Int) (hr : Reads .u8 w0 a len cap xs) (hb : Below w0.heap.size w0 w) (h0 : 0 < len) :
    Calls Tryd.prog 42 #[.slice a len cap] w fun e w' => ∃ (p : Pm w0 len) (a' : Option Addr) (l' c' : Nat), e = .returned (.tuple #[.slice p.a p.m p.c, .int .i32 p.s, .slice a' l' c']) ∧ p.val = (mbU xs).1 ∧ Reads .u8 w0 a' l' c' (xs.drop (mbN xs)) ∧ Below w.heap.size w w' := by
  have hrm := hr.room
  have htp := hr.len_le
  have hsz := hr.size
  obtain ⟨b, off, x, rfl, _, hc, h1, h2, hx⟩ := (hr.below hb).get8 h0
  obtain ⟨r, rfl⟩ : ∃ r, xs = x :: r := by
    have h := hx.out.1
    cases xs with
    | nil => cases h
    | cons y r => exact ⟨r, by simp at h; rw [h]⟩
  rw [Nat.add_zero] at hc
  clear hx
  have hp := hr.piece (l := 1) (r := len) (by omega) (Nat.le_refl _)
  rw [List.take_of_length_le (by omega), List.drop_one, List.tail_cons, Option.map_some, Addr.add_lit] at hp
  have q1 : (1 : Int) ≤ (len : Int) := by omega
  have q3 : (1 : Int) ≤ (cap : Int) := by omega
  have q4 : (len : Int) ≤ (cap : Int) := by omega
  by_cases hcap : cap = 1
  all_goals
    first | (rw [if_pos hcap] at hp; have r3 : (cap = 1) = True := eq_true hcap; clear hcap) | (rw [if_neg hcap] at hp; have r3 : (cap = 1) = False := eq_false hcap; clear hcap)
    have HP := hid hp
    by_cases h38 : x = 38
    · subst h38
      have HO := hid (mseven_opened w0 w _ _ _ r hp hb)
      clear hr hsz hp hb
      go_enter Tryd.func42, Tryd.ntmps42
      go_wp2_with (go_at_call 59; (with_reducible refine HO.out.mono ?_); rintro e w1 ⟨p, a3, l3, c3, rfl, hpv, hr3, hb1⟩; have HPV := hid hpv; clear hpv)
      go_ret3
      exact ⟨p.up (by omega), a3, l3, c3, rfl, HPV.out, hr3, hb1⟩
    · have hn : (x == 38) = false := by simpa using h38
      obtain ⟨eN, eU⟩ := mbU_else h38 r
      rw [eN, eU, List.drop_one, List.tail_cons]
      clear hr hsz hp hb eN eU h38
      have HI := hid (mseven_isPlain x w)
      cases hpl : mbPrt x
      all_goals
        rw [hpl] at HI
        clear hpl
        first | rw [if_neg Bool.false_ne_true] | rw [if_pos rfl]
        go_enter Tryd.func42, Tryd.ntmps42
        go_wp2_with (go_at_call 57; (with_reducible refine HI.out.mono ?_); rintro e w' ⟨rfl, rfl⟩)
        go_quiet (fail)
        go_wp2_with fail
        go_ret3
        first
        | exact ⟨⟨none, 0, 0, [], x, Reads.nil _ _ _ _ (Nat.zero_le _), Nat.zero_le _, h1, by omega, rfl⟩, _, _, _, rfl, rfl, HP.out, Below.drewN (Below.refl _ _) _⟩
        | exact ⟨⟨none, 0, 0, [], 65533, Reads.nil _ _ _ _ (Nat.zero_le _), Nat.zero_le _, by decide, by decide, rfl⟩, _, _, _, rfl, rfl, HP.out, Below.drewN (Below.refl _ _) _⟩
theorem mbRd_next {xs : List Int} (h : xs ≠ []) : mbRd xs = (mbU xs).1 ++ mbRd (xs.drop (mbN xs)) ∧ 0 < mbN xs ∧ mbN xs ≤ xs.length := by
  cases xs with
  | nil => exact absurd rfl h
  | cons x r => exact ⟨mbRd_cons x r, mbN_pos x r, mbN_le x r⟩
def outM {w0 : World} {L : Nat} (P : List (Pm w0 L)) : List Int := P.flatMap Pm.val
theorem outM_snoc {w0 : World} {L : Nat} (P : List (Pm w0 L)) (p : Pm w0 L) : outM (P ++ [p]) = outM P ++ p.val := by simp [outM]
set_option maxRecDepth 100000 in
set_option maxHeartbeats 2000000 in
theorem mpieces1_in (n l Bs n₀ : Nat) (hn : 1 ≤ n) (a : Option Addr) (len cap : Nat) (xs : List Int) (w0 : World) (J Jx : List (Pm w0 len) → World → Prop) (W : World)
    (hJa : AbidesFrom W.heap.size J) (hn₀ : n₀ ≤ W.heap.size) (hw0 : w0.heap.size ≤ n₀) (hr : Reads .u8 w0 a len cap xs) (hb0 : Below w0.heap.size w0 W)
    (hY : ∀ pre x W, J pre W → pre.length < len → YieldAt Fence.wide (n - 1) Tryd.prog l (Pm.enc x) W fun e W' =>
      (e = .returned (.bool true) ∧ J (pre ++ [x]) W' ∧ Below n₀ W W') ∨ (e = .returned (.bool false) ∧ Jx (pre ++ [x]) W'))
    (hBs : Boxed W Bs 22 (.slice a len cap)) (h0 : J [] W) :
    CallsIn Fence.wide n Tryd.prog 41 #[.func (.yield l) #[] #[], .pointer (some ⟨Bs, 0, none⟩)] W fun e W' => (∃ v, e = .returned v) ∧
      ((∃ ys, outM ys = mbRd xs ∧ J ys W') ∨ (∃ pre, True ∧ Jx pre W')) := by
  have hl := hr.len_le
  have HR := hid hr
  clear hr
  have hc0 := hBs.cell
  refine callsIn_of_wp Tryd.func41 rfl trivial ?_ rfl
  simp only [Tryd.ntmps41, List.size_toArray, List.length_cons, List.length_nil, Nat.reduceAdd, Nat.reduceSub, Array.replicate_succ, Array.replicate_zero, List.push_toArray, List.append_toArray, List.nil_append, List.cons_append]
  gi_wp2_with fail
  gi_loopw [3] (fun v wr => ∃ (m : Nat) (a' : Option Addr) (c' : Nat) (ys : List Int) (pre : List (Pm w0 len)), pre.length + m ≤ len ∧ v = .slice a' m c' ∧ Hid (outM pre ++ mbRd ys = mbRd xs) ∧ J pre wr ∧ Hid (Reads .u8 w0 a' m c' ys) ∧ Below n₀ W wr) (fun v _ => lenV v)
  case atStart => exact ⟨len, a, cap, xs, [], by simp, rfl, rfl, h0, HR, Below.refl _ _⟩
  case round =>
    obtain ⟨m, a', c', ys, pre, hpm, rfl, hps, hJs, hR, hnx⟩ := hrel
    have hszy := hR.out.size
    have hroom := hR.out.room
    by_cases hlt : 0 < m
    · have hne : ys ≠ [] := by intro h; subst h; simp at hszy; omega
      have hbw := hid (hb0.trans (hnx.mono hw0))
      have H1 := hid (mseven_take w0 wr a' m c' ys hR.out hbw.out hlt)
      obtain ⟨e1, hp0, hp1⟩ := mbRd_next hne
      have hnext : Hid (∀ X : Pm w0 len, X.val = (mbU ys).1 → outM (pre ++ [X]) ++ mbRd (ys.drop (mbN ys)) = mbRd xs) := fun X hX => by
        rw [outM_snoc, hX, List.append_assoc, ← e1]; exact hps.out
      obtain ⟨k, hk⟩ : ∃ k, k = mbN ys := ⟨_, rfl⟩
      rw [← hk] at hp0 hp1 hnext H1
      have hpl : pre.length < len := by omega
      have hnw : n₀ ≤ wr.heap.size := Nat.le_trans hn₀ hnx.size
      clear e1 hne hps hk
      gi_wp2_with (refine ⟨trivial, ?_⟩; gi_at_call 42; (with_reducible refine (callsIn_wide.2 H1.out).mono ?_); rintro e w1 ⟨p, a2, l2, c2, rfl, hpv, r2, hb1⟩; have HV := hid (hnext.out (p.up (by omega)) hpv); clear hpv; have hl2 := r2.size; rw [List.length_drop] at hl2; have R2 := hid r2; clear r2; (obtain ⟨fn, tmps, assign, body, hy, hR2⟩ := hY pre (p.up (by omega)) _ (abides_below hJa hJs hb1) hpl); simp only [Pm.enc, Pm.up] at hy)
      refine hR2.mono ?_
      have hn2 := hnx.trans (hb1.mono hnw)
      clear H1
      rintro e W3 (⟨rfl, hJ3, hk3⟩ | ⟨rfl, hJx3⟩)
      · have hnx3 := hn2.trans hk3
        gi_wp2_with fail
        go_roundw
        case rel => exact ⟨l2, _, _, _, _, by simp; omega, rfl, HV, hJ3, R2, hnx3⟩
        case measure => simp [lenV]; omega
      · gi_wp2_with fail
        refine bodyPost_ret (results_none rfl _ _ _) rfl ?_
        exact ⟨⟨_, rfl⟩, .inr ⟨_, trivial, hJx3⟩⟩
    · obtain rfl : m = 0 := by omega
      obtain rfl : ys = [] := List.eq_nil_of_length_eq_zero hszy
      have hend : Hid (outM pre = mbRd xs) := by
        have := hps.out
        rw [mbRd_nil.1, List.append_nil] at this
        exact this
      gi_wp2_with fail
      go_end0
      exact ⟨⟨_, rfl⟩, .inl ⟨_, hend.out, hJs⟩⟩
set_option maxHeartbeats 1000000 in
theorem mseven_pieces (n : Nat) (a : Option Addr) (len cap : Nat) (w : World) :
    CallsIn Fence.wide n Tryd.prog 29 #[.slice a len cap] w fun e w' => e = .returned (.func (.func 41) #[] #[.pointer (some ⟨w.heap.size, 0, none⟩)]) ∧ w' = w.alloc (.cells #[.slice a len cap] 22) := by
  refine callsIn_of_wp Tryd.func29 rfl trivial ?_ rfl
  simp only [Tryd.ntmps29, List.size_toArray, List.length_cons, List.length_nil, Nat.reduceAdd, Nat.reduceSub, Array.replicate_succ, Array.replicate_zero, List.push_toArray, List.append_toArray, List.nil_append, List.cons_append]
  gi_wp2
  go_ret
  exact ⟨rfl, rfl⟩
/-- The value that pieces hands back: all pieces in their order. -/
theorem mpieces_stops (n Bs n₀ : Nat) (hn : 1 ≤ n) (a : Option Addr) (len cap : Nat) (xs : List Int) (w0 w : World) (hr : Reads .u8 w0 a len cap xs) (hw0 : w0.heap.size ≤ n₀) (hn₀ : n₀ ≤ w.heap.size) (hb0 : Below w0.heap.size w0 w)
    (hlt : Bs < w.heap.size) (hBs : Boxed w Bs 22 (.slice a len cap)) :
    SeqStopsK Fence.wide n Tryd.prog 41 #[.pointer (some ⟨Bs, 0, none⟩)] (Pm.enc (w0 := w0) (L := len)) (Below n₀) (fun ys => outM ys = mbRd xs) (fun _ => True) len w := fun l J Jx W hW hJ _ hY h0 =>
  mpieces1_in n l Bs n₀ hn a len cap xs w0 J Jx W hJ (Nat.le_trans hn₀ hW.size) hw0 hr (hb0.trans (hW.mono (Nat.le_trans hw0 hn₀))) hY ((hW.block Bs hlt).trans hBs) h0
end Go.Proofs.YtiacijodoojgoaaDoor

/-! C04 -/
namespace Go.Proofs.YtiacijodoojgoaaDoor
open Go.RowKit
set_option linter.unusedVariables false

theorem ret_ii3 {k k2 k3 : IntKind} {a b c d e f : Int} (h : a = b) (h' : c = d) (h2 : e = f) : Ending.returned (.tuple #[.int k a, .int k2 c, .int k3 e]) = .returned (.tuple #[.int k b, .int k2 d, .int k3 f]) := by rw [h, h', h2]


end Go.Proofs.YtiacijodoojgoaaDoor

/-! C04b -/
namespace Go.Proofs.YtiacijodoojgoaaDoor
open Go.RowKit
set_option linter.unusedVariables false

def bgW : List Int → Nat
  | [] => 0
  | a :: _ => startN a
def bgT : List Int → Int
  | [] => 0
  | a :: r => if startN a = 0 then 0 else topU a r (farN (a :: r))
theorem clr1 : ∀ n : Fin 128, bits .andNot .i32 (n.val : Int) 0 = n.val - 0 := by decide +kernel
theorem clr2 : ∀ n : Fin 32, bits .andNot .i32 ((192 + n.val : Nat) : Int) 192 = ((192 + n.val : Nat) : Int) - 192 := by decide +kernel
theorem clr3 : ∀ n : Fin 16, bits .andNot .i32 ((224 + n.val : Nat) : Int) 224 = ((224 + n.val : Nat) : Int) - 224 := by decide +kernel
theorem clr4 : ∀ n : Fin 8, bits .andNot .i32 ((240 + n.val : Nat) : Int) 240 = ((240 + n.val : Nat) : Int) - 240 := by decide +kernel
theorem clr (a : Int) (h0 : 0 ≤ a) (h : startN a ≠ 0) : bits .andNot .i32 a (markI (startN a)) = a - markI (startN a) := by
  have h4 := startN_le a
  obtain ⟨n, rfl⟩ := Int.eq_ofNat_of_zero_le h0
  rcases (show startN n = 1 ∨ startN n = 2 ∨ startN n = 3 ∨ startN n = 4 by omega) with e | e | e | e <;> rw [e]
  · rw [start_1] at e; exact clr1 ⟨n, by omega⟩
  · rw [start_2] at e; have := clr2 ⟨n - 192, by omega⟩; simp only at this; rwa [show 192 + (n - 192) = n by omega] at this
  · rw [start_3] at e; have := clr3 ⟨n - 224, by omega⟩; simp only at this; rwa [show 224 + (n - 224) = n by omega] at this
  · rw [start_4] at e; have := clr4 ⟨n - 240, by omega⟩; simp only at this; rwa [show 240 + (n - 240) = n by omega] at this


end Go.Proofs.YtiacijodoojgoaaDoor

/-! C05 -/
namespace Go.Proofs.YtiacijodoojgoaaDoor
open Go.RowKit Go.Shelf
set_option linter.unusedVariables false
attribute [local go_sem] Oper.semAt_some


/-- A sign, as yield is handed it. -/
def encS (p : Int × Int) : Array Value := #[.int .i32 p.1, .int .i64 p.2]


end Go.Proofs.YtiacijodoojgoaaDoor

/-! C05b -/
namespace Go.Proofs.YtiacijodoojgoaaDoor
open Go.RowKit Go.Shelf
set_option linter.unusedVariables false
attribute [local go_sem] Oper.semAt_some



end Go.Proofs.YtiacijodoojgoaaDoor

/-! C05c -/
namespace Go.Proofs.YtiacijodoojgoaaDoor
open Go.RowKit Go.Shelf
set_option linter.unusedVariables false
attribute [local go_sem] Oper.semAt_some

def encR (pre : List (Int × Int)) : List Value := pre.map (fun p => .int .i32 p.1)
theorem encR_snoc (pre : List (Int × Int)) (x : Int × Int) : encR (pre ++ [x]) = encR pre ++ [.int .i32 x.1] := by simp [encR]
theorem encR_txt (xs : List Int) : encR (sigs xs) = (txt xs).map (Value.int .i32) := by simp [encR, txt, Function.comp_def]
theorem reads_row {e : TypeId} {base : Nat} {w : World} {v : Value} {xs : List Int} (h : w.ownsRow base e 1 v (sigs xs).length (encR (sigs xs))) (hwf : ∀ x ∈ txt xs, (Lit.int .i32 x).wf = true) :
    ∃ a cap, v = .slice a (sigs xs).length cap ∧ Reads .i32 w a (sigs xs).length cap (txt xs) := by
  have hO : Own .i32 e base w v (txt xs) := ⟨by rw [txt_len, ← encR_txt]; exact h, hwf⟩
  obtain ⟨a, cap, hv, hr⟩ := hO.reads
  rw [txt_len] at hv hr
  exact ⟨a, cap, hv, hr⟩
theorem own_row {n₀ D : Nat} {w : World} (hn : n₀ ≤ w.heap.size) (hD : n₀ ≤ D) (B : Nat) (t e : TypeId) :
    OwnFrom D (fun (pre : List (Int × Int)) W => (∃ v, Boxed W B t v ∧ W.ownsRow n₀ e 1 v pre.length (encR pre) ∧ True) ∧ Below n₀ w W) :=
  OwnFrom.and (Go.Own.from (holdsRow_own n₀ B t e 1 (fun pre => pre.length) encR (fun _ _ => True)) _) (ownFrom_below hn hD)


end Go.Proofs.YtiacijodoojgoaaDoor
