/-
  Contracts of package qread's functions: the iterator over the lines.
-/
import Derived.Test.YtpdoehdmeojmkaaDoorC19a
import Derived.Test.YtpdoehdmeojmkaaDoorItr
namespace Go.Proofs.YtpdoehdmeojmkaaDoor
open Go.RowKit Go.Shelf
set_option linter.unusedVariables false
attribute [local go_sem] Oper.semAt_some

/-- A line and its break, by their places in a row of so many octets. -/
abbrev LPc (L : Nat) := { x : Nat × Nat × Nat // x.1 + (x.2.1 + x.2.2) ≤ L ∧ x.1 < L }
def encL {L : Nat} (b off cap : Nat) (x : LPc L) : Array Value :=
  #[.slice (some ⟨b, off + x.1.1, none⟩) x.1.2.1 (cap - x.1.1), .slice (if cap - x.1.1 = x.1.2.1 then some ⟨b, off + x.1.1, none⟩ else some ⟨b, off + x.1.1 + x.1.2.1, none⟩) x.1.2.2 (cap - x.1.1 - x.1.2.1)]
def valL {L : Nat} (pre : List (LPc L)) : List (Nat × Nat × Nat) := pre.map Subtype.val
theorem valL_snoc {L : Nat} (pre : List (LPc L)) (x : LPc L) : valL (pre ++ [x]) = valL pre ++ [x.1] := by simp [valL]
/-- What such a line, and its break, read as. -/
theorem lpc_line {L b off cap : Nat} {a : Option Addr} {xs : List Int} {w : World} (hr : Reads .u8 w a L cap xs) (ha : 0 < L → a = some ⟨b, off, none⟩) (x : LPc L) :
    Reads .u8 w (some ⟨b, off + x.1.1, none⟩) x.1.2.1 (cap - x.1.1) (linePc xs x.1) := by
  obtain ⟨⟨p, f, t⟩, h1, h2⟩ := x
  dsimp only at h1 h2 ⊢
  have hrm := hr.room
  have hp := hr.piece (l := p) (r := L) (by omega) (Nat.le_refl _)
  rw [ha (by omega), List.take_of_length_le (by rw [hr.size]; exact Nat.le_refl _), if_neg (by omega), Option.map_some, Addr.add_lit] at hp
  exact hp.pre (by omega)
theorem lpc_brk {L b off cap : Nat} {a : Option Addr} {xs : List Int} {w : World} (hr : Reads .u8 w a L cap xs) (ha : 0 < L → a = some ⟨b, off, none⟩) (x : LPc L) :
    Reads .u8 w (if cap - x.1.1 = x.1.2.1 then some ⟨b, off + x.1.1, none⟩ else some ⟨b, off + x.1.1 + x.1.2.1, none⟩) x.1.2.2 (cap - x.1.1 - x.1.2.1) (brkPc xs x.1) := by
  obtain ⟨⟨p, f, t⟩, h1, h2⟩ := x
  dsimp only at h1 h2 ⊢
  have hrm := hr.room
  have hp := hr.piece (l := p) (r := L) (by omega) (Nat.le_refl _)
  rw [ha (by omega), List.take_of_length_le (by rw [hr.size]; exact Nat.le_refl _), if_neg (by omega), Option.map_some, Addr.add_lit] at hp
  have hq := hp.piece (l := f) (r := f + t) (by omega) (by omega)
  rw [Option.map_some, Addr.add_lit, List.drop_take, List.drop_drop, show f + t - f = t by omega] at hq
  exact hq
/-- Where the loop over the lines stands. -/
def LsI (b off len cap : Nat) (xs : List Int) (n₀ : Nat) (W : World) (J : List (LPc len) → World → Prop) (s : Value) (wr : World) : Prop :=
  ∃ p m c k, ∃ pre : List (LPc len), ∃ a', s = .slice a' m c ∧ p + m = len ∧ p + c = cap ∧ (0 < m → a' = some ⟨b, off + p, none⟩) ∧ len ≤ p + k ∧ pre.length ≤ p ∧ Hid (valL pre ++ pcsN xs k p = pcsN xs len 0) ∧ J pre wr ∧ Below n₀ W wr
theorem LsI.mk {b off len cap : Nat} {xs : List Int} {n₀ : Nat} {W : World} {J : List (LPc len) → World → Prop} {wr : World} {p m c k : Nat} {pre : List (LPc len)} {a' : Option Addr}
    (h1 : p + m = len) (h2 : p + c = cap) (h3 : 0 < m → a' = some ⟨b, off + p, none⟩) (h4 : len ≤ p + k) (h5 : pre.length ≤ p) (h6 : Hid (valL pre ++ pcsN xs k p = pcsN xs len 0)) (h7 : J pre wr) (h8 : Below n₀ W wr) : LsI b off len cap xs n₀ W J (.slice a' m c) wr :=
  ⟨p, m, c, k, pre, a', rfl, h1, h2, h3, h4, h5, h6, h7, h8⟩

set_option maxRecDepth 100000 in
set_option maxHeartbeats 4000000 in
theorem lines1_in (n l Bs n₀ : Nat) (hn : 1 ≤ n) (b off : Nat) (a : Option Addr) (len cap : Nat) (xs : List Int) (ha : 0 < len → a = some ⟨b, off, none⟩) (J Jx : List (LPc len) → World → Prop) (W : World)
    (hJa : AbidesFrom W.heap.size J) (hn₀ : n₀ ≤ W.heap.size) (w0 : World) (hw0 : w0.heap.size ≤ n₀) (hr : Reads .u8 w0 a len cap xs) (hN : len < 1000000) (hT : Tabs w0) (hm : Mx w0) (hb0 : Below w0.heap.size w0 W)
    (hY : ∀ pre x W, J pre W → pre.length < len → YieldAt Fence.wide (n - 1) Tryd.prog l (encL b off cap x) W fun e W' =>
      (e = .returned (.bool true) ∧ J (pre ++ [x]) W' ∧ Below n₀ W W') ∨ (e = .returned (.bool false) ∧ Jx (pre ++ [x]) W'))
    (hBs : Boxed W Bs 22 (.slice a len cap)) (h0 : J [] W) :
    CallsIn Fence.wide n Tryd.prog 34 #[.func (.yield l) #[] #[], .pointer (some ⟨Bs, 0, none⟩)] W fun e W' => (∃ v, e = .returned v) ∧
      ((∃ ys, valL ys = pcsN xs len 0 ∧ J ys W') ∨ (∃ pre, valL pre <+: pcsN xs len 0 ∧ Jx pre W')) := by
  have hl := hr.len_le
  have hrm := hr.room
  have hsz := hr.size
  have HR := hid hr
  clear hr
  have hc0 := hBs.cell
  refine callsIn_of_wp Tryd.func34 rfl trivial ?_ rfl
  simp only [Tryd.ntmps34, List.size_toArray, List.length_cons, List.length_nil, Nat.reduceAdd, Nat.reduceSub, Array.replicate_succ, Array.replicate_zero, List.push_toArray, List.append_toArray, List.nil_append, List.cons_append]
  gi_wp2_with fail
  gi_loopw [3] (fun s wr => LsI b off len cap xs n₀ W J s wr) (fun s _ => lenV s)
  case atStart => exact LsI.mk (p := 0) (k := len) (pre := []) (by omega) (by omega) (fun h => ha h) (by omega) (Nat.le_refl _) rfl h0 (Below.refl _ _)
  case round =>
    obtain ⟨p, m, c, k, pre, a', rfl, hpm, hpc, ha', hk, hpl, hps, hJs, hnx⟩ := hrel
    by_cases hlt : 0 < m
    · obtain ⟨k, rfl⟩ : ∃ j, k = j + 1 := ⟨k - 1, by omega⟩
      have hp := HR.out.piece (l := p) (r := len) (by omega) (Nat.le_refl _)
      rw [ha (by omega), List.take_of_length_le (by omega), if_neg (by omega), Option.map_some, Addr.add_lit, show len - p = m by omega, show cap - p = c by omega] at hp
      obtain rfl := ha' hlt
      have hbw := hb0.trans (hnx.mono hw0)
      have hFB := hid (qread_firstBreak (some ⟨b, off + p, none⟩) m c (xs.drop p) wr (hp.below hbw) (by omega) (hT.below hbw) (hm.below hbw))
      have hle := brN_le (xs.drop p)
      rw [List.length_drop, hsz] at hle
      have hpos := lnbr_pos (xs := xs.drop p) (by rw [List.length_drop]; omega)
      have hnext := hps.out
      rw [pcsN, if_neg (by omega)] at hnext
      obtain ⟨f, hf⟩ : ∃ f, f = lnN (xs.drop p) := ⟨_, rfl⟩
      obtain ⟨t, ht⟩ : ∃ t, t = brN (xs.drop p) := ⟨_, rfl⟩
      rw [← hf, ← ht] at hle hpos hnext
      rw [← hf, ← ht] at hFB
      obtain ⟨X, hX⟩ : ∃ X : LPc len, X.1 = (p, f, t) := ⟨⟨(p, f, t), by dsimp only; omega, by dsimp only; omega⟩, rfl⟩
      have HN : Hid (valL (pre ++ [X]) ++ pcsN xs k (p + (f + t)) = pcsN xs len 0) := by
        unfold Hid
        rw [valL_snoc, ← hnext, List.append_assoc, hX]
        rfl
      have hE : encL b off cap X = #[.slice (some ⟨b, off + p, none⟩) f c, .slice (if c = f then some ⟨b, off + p, none⟩ else some ⟨b, off + p + f, none⟩) t (c - f)] := by
        unfold encL
        rw [hX]
        dsimp only
        rw [show cap - p = c by omega]
      have hpl2 : pre.length < len := by omega
      clear hps hnext hp hf ht hX
      gi_wp2_with (refine ⟨trivial, ?_⟩; gi_at_call 35; (with_reducible refine (callsIn_wide.2 hFB.out).mono ?_); rintro e w1 ⟨⟨f1, g1, rfl, hf1, hg1⟩, hb1⟩)
      subst hf1 hg1
      have hbD : Below wr.heap.size wr w1.drew := below_drew hb1
      have hJ1 : J pre w1.drew := abides_below hJa hJs hbD
      obtain ⟨fn, tmps, assign, body, hy, hR⟩ := hY pre X _ hJ1 hpl2
      rw [hE] at hy
      have hn1 : Below n₀ W w1.drew := hnx.trans (hbD.mono (Nat.le_trans hn₀ hnx.size))
      have r1 : (f1 : Int) ≤ (c : Int) := by omega
      have r2 : (0 : Int) ≤ (f1 : Int) := by omega
      have r3 : (f1 : Int) ≤ (f1 : Int) + (t : Int) := by omega
      have r4 : (f1 : Int) + (t : Int) ≤ (c : Int) := by omega
      have r5 : ((f1 : Int) + (t : Int)).toNat - f1 = t := by omega
      refine wpIn_region_any (by kernel_rfl) ?_
      change wpAnyIn _ _ _ _ _ _ 10 _ _ (World.drew _)
      refine wpAnyIn_take (i := 0) (v := .func (.yield l) #[] #[]) rfl rfl (by kernel_rfl) (by kernel_rfl) (by kernel_rfl) (fun _ _ _ h => h) ⟨Or.inl ⟨by rfl, fun w => by go_simp⟩, fun w => by simp [Oper.about]⟩ ?_
      try simp only [Act.put, List.getElem_toArray, List.getElem_cons_zero, List.setIfInBounds_toArray, List.set_cons_zero, List.set_cons_succ]
      refine wpAnyIn_take (i := 1) (v := .slice (some ⟨b, off + p, none⟩) m c) rfl rfl (by kernel_rfl) (by kernel_rfl) (by kernel_rfl) (fun _ _ _ h => h) ⟨Or.inl ⟨by rfl, fun w => by go_simp⟩, fun w => by simp [Oper.about]⟩ ?_
      try simp only [Act.put, List.getElem_toArray, List.getElem_cons_succ, List.getElem_cons_zero, List.setIfInBounds_toArray, List.set_cons_zero, List.set_cons_succ]
      refine wpAnyIn_take (i := 2) (v := .int .i64 f1) rfl rfl (by kernel_rfl) (by kernel_rfl) (by kernel_rfl) (fun _ _ _ h => h) ⟨Or.inl ⟨by rfl, fun w => by go_simp⟩, fun w => by simp [Oper.about]⟩ ?_
      try simp only [Act.put, List.getElem_toArray, List.getElem_cons_succ, List.getElem_cons_zero, List.setIfInBounds_toArray, List.set_cons_zero, List.set_cons_succ]
      refine wpAnyIn_take (i := 3) (v := .slice (some ⟨b, off + p, none⟩) f1 c) rfl rfl (by kernel_rfl) (by kernel_rfl) (by kernel_rfl) (fun _ _ _ h => h) ⟨Or.inl ⟨by rfl, fun w => by go_simp⟩, fun w => by simp [Oper.about]⟩ ?_
      try simp only [Act.put, List.getElem_toArray, List.getElem_cons_succ, List.getElem_cons_zero, List.setIfInBounds_toArray, List.set_cons_zero, List.set_cons_succ]
      refine wpAnyIn_take (i := 4) (v := .slice (some ⟨b, off + p, none⟩) m c) rfl rfl (by kernel_rfl) (by kernel_rfl) (by kernel_rfl) (fun _ _ _ h => h) ⟨Or.inl ⟨by rfl, fun w => by go_simp⟩, fun w => by simp [Oper.about]⟩ ?_
      try simp only [Act.put, List.getElem_toArray, List.getElem_cons_succ, List.getElem_cons_zero, List.setIfInBounds_toArray, List.set_cons_zero, List.set_cons_succ]
      refine wpAnyIn_take (i := 5) (v := .int .i64 f1) rfl rfl (by kernel_rfl) (by kernel_rfl) (by kernel_rfl) (fun _ _ _ h => h) ⟨Or.inl ⟨by rfl, fun w => by go_simp⟩, fun w => by simp [Oper.about]⟩ ?_
      try simp only [Act.put, List.getElem_toArray, List.getElem_cons_succ, List.getElem_cons_zero, List.setIfInBounds_toArray, List.set_cons_zero, List.set_cons_succ]
      refine wpAnyIn_take (i := 6) (v := .int .i64 ((f1 : Int) + (t : Int))) rfl rfl (by kernel_rfl) (by kernel_rfl) (by kernel_rfl) (fun _ _ _ h => h) ⟨Or.inl ⟨by rfl, fun w => by go_simp⟩, fun w => by simp [Oper.about]⟩ ?_
      try simp only [Act.put, List.getElem_toArray, List.getElem_cons_succ, List.getElem_cons_zero, List.setIfInBounds_toArray, List.set_cons_zero, List.set_cons_succ]
      refine wpAnyIn_take (i := 7) (v := .slice (if c = f1 then some ⟨b, off + p, none⟩ else some ⟨b, off + p + f1, none⟩) t (c - f1)) rfl rfl (by kernel_rfl) (by kernel_rfl) (by kernel_rfl) (fun _ _ _ h => h) ⟨Or.inl ⟨by rfl, fun w => by go_simp⟩, fun w => by simp [Oper.about]⟩ ?_
      try simp only [Act.put, List.getElem_toArray, List.getElem_cons_succ, List.getElem_cons_zero, List.setIfInBounds_toArray, List.set_cons_zero, List.set_cons_succ]
      refine wpAnyIn_ready (rs := [8]) (by kernel_rfl) (by simp) ?_
      apply ready_cons
      case hs => exact AllReadyIn.nil
      exact rfl
      intro K hK
      go_simp
      refine hR.mono ?_
      rintro e W3 (⟨rfl, hJ3, hk3⟩ | ⟨rfl, hJx3⟩)
      · refine hK _ _ ?_
        clear hK K
        try simp only [Act.put, List.getElem_toArray, List.getElem_cons_succ, List.getElem_cons_zero, List.setIfInBounds_toArray, List.set_cons_zero, List.set_cons_succ]
        refine wpAnyIn_take (i := 9) (v := .bool false) rfl rfl (by kernel_rfl) (by kernel_rfl) (by kernel_rfl) (fun _ _ _ h => h) ⟨Or.inl ⟨by rfl, fun w => by go_simp⟩, fun w => by simp [Oper.about]⟩ ?_
        try simp only [Act.put, List.getElem_toArray, List.getElem_cons_succ, List.getElem_cons_zero, List.setIfInBounds_toArray, List.set_cons_zero, List.set_cons_succ]
        refine wpAnyIn_done (by decide +kernel) ?_ _
        generalize (if c = f1 then (some ⟨b, off + p, none⟩ : Option Addr) else some ⟨b, off + p + f1, none⟩) = P2
        have hnx3 := hn1.trans hk3
        clear r3 r5
        have r6 : ((f1 + t : Nat) : Int) = (f1 : Int) + (t : Int) := by omega
        have r7 : (0 : Int) ≤ (f1 : Int) + (t : Int) := by omega
        have r8 : (f1 : Int) + (t : Int) ≤ (m : Int) := by omega
        gi_wp2_with fail
        go_roundw
        case rel => exact LsI.mk (p := p + (f1 + t)) (k := k) (pre := pre ++ [X]) (by omega) (by omega) (fun h => by rw [if_neg (by omega), Nat.add_assoc]) (by omega) (by simp; omega) HN hJ3 hnx3
        case measure => simp [lenV]; omega
      · refine hK _ _ ?_
        clear hK K
        try simp only [Act.put, List.getElem_toArray, List.getElem_cons_succ, List.getElem_cons_zero, List.setIfInBounds_toArray, List.set_cons_zero, List.set_cons_succ]
        refine wpAnyIn_take (i := 9) (v := .bool true) rfl rfl (by kernel_rfl) (by kernel_rfl) (by kernel_rfl) (fun _ _ _ h => h) ⟨Or.inl ⟨by rfl, fun w => by go_simp⟩, fun w => by simp [Oper.about]⟩ ?_
        try simp only [Act.put, List.getElem_toArray, List.getElem_cons_succ, List.getElem_cons_zero, List.setIfInBounds_toArray, List.set_cons_zero, List.set_cons_succ]
        refine wpAnyIn_done (by decide +kernel) ?_ _
        generalize (if c = f1 then (some ⟨b, off + p, none⟩ : Option Addr) else some ⟨b, off + p + f1, none⟩) = P2
        have HF : Hid (valL (pre ++ [X]) <+: pcsN xs len 0) := ⟨_, HN.out⟩
        gi_wp2_with fail
        refine bodyPost_ret (results_none rfl _ _ _) rfl ?_
        exact ⟨⟨_, rfl⟩, .inr ⟨_, HF.out, hJx3⟩⟩
    · obtain rfl : m = 0 := by omega
      have hend : Hid (valL pre = pcsN xs len 0) := by
        have h := hps.out
        have h2 : pcsN xs k p = [] := by
          cases k with
          | zero => rfl
          | succ k => rw [pcsN, if_pos (by omega)]
        rw [h2, List.append_nil] at h
        exact h
      gi_wp2_with fail
      go_end0
      exact ⟨⟨_, rfl⟩, .inl ⟨_, hend.out, hJs⟩⟩
set_option maxRecDepth 100000 in
set_option maxHeartbeats 1000000 in
theorem qread_lines (n : Nat) (a : Option Addr) (len cap : Nat) (w : World) :
    CallsIn Fence.wide n Tryd.prog 21 #[.slice a len cap] w fun e w' => e = .returned (.func (.func 34) #[] #[.pointer (some ⟨w.heap.size, 0, none⟩)]) ∧ w' = w.alloc (.cells #[.slice a len cap] 22) := by
  refine callsIn_of_wp Tryd.func21 rfl trivial ?_ rfl
  simp only [Tryd.ntmps21, List.size_toArray, List.length_cons, List.length_nil, Nat.reduceAdd, Nat.reduceSub, Array.replicate_succ, Array.replicate_zero, List.push_toArray, List.append_toArray, List.nil_append, List.cons_append]
  gi_wp2
  go_ret
  exact ⟨rfl, rfl⟩
/-- The value that lines hands back: all lines in their order; or a beginning, where a round has said 'no more'. -/
theorem lines_stops (n Bs n₀ : Nat) (hn : 1 ≤ n) (b off : Nat) (a : Option Addr) (len cap : Nat) (xs : List Int) (ha : 0 < len → a = some ⟨b, off, none⟩) (w0 w : World) (hr : Reads .u8 w0 a len cap xs) (hN : len < 1000000) (hT : Tabs w0) (hm : Mx w0) (hw0 : w0.heap.size ≤ n₀) (hn₀ : n₀ ≤ w.heap.size) (hb0 : Below w0.heap.size w0 w)
    (hlt : Bs < w.heap.size) (hBs : Boxed w Bs 22 (.slice a len cap)) :
    SeqStopsK Fence.wide n Tryd.prog 34 #[.pointer (some ⟨Bs, 0, none⟩)] (encL (L := len) b off cap) (Below n₀) (fun ys => valL ys = pcsN xs len 0) (fun pre => valL pre <+: pcsN xs len 0) len w := fun l J Jx W hW hJ _ hY h0 =>
  lines1_in n l Bs n₀ hn b off a len cap xs ha J Jx W hJ (Nat.le_trans hn₀ hW.size) w0 hw0 hr hN hT hm (hb0.trans (hW.mono (Nat.le_trans hw0 hn₀))) hY ((hW.block Bs hlt).trans hBs) h0
end Go.Proofs.YtpdoehdmeojmkaaDoor
