/-
  Texts of ours laid together: C23b, C06c, C06d, C06e.
-/
import Derived.Test.YtiacijodoojgoaaDoorZ20

/-! C23b -/
namespace Go.Proofs.YtiacijodoojgoaaDoor
open Go.RowKit Go.Shelf
set_option linter.unusedVariables false
attribute [local go_sem] Oper.semAt_some

def Pc.up {w0 : World} {m L : Nat} (p : Pc w0 m) (h : m ≤ L) : Pc w0 L := ⟨p.a, p.m, p.c, p.d, p.s, p.r, p.hr, Nat.le_trans p.hl h, p.h0, p.h1, p.hd⟩
theorem seg7_next {xs : List Int} (h : xs ≠ []) : seg7 xs = u7 xs :: seg7 (xs.drop (nx7 xs)) := by
  cases xs with
  | nil => exact absurd rfl h
  | cons x r => exact seg7_cons x r

set_option maxRecDepth 100000 in
set_option maxHeartbeats 2000000 in
theorem pieces_gives (n n₀ : Nat) (hn : 1 ≤ n) (a : Option Addr) (len cap : Nat) (xs : List Int) (w0 w : World) (hr : Reads .u8 w0 a len cap xs) (hN : len < 10000000000) (hw0 : w0.heap.size ≤ n₀) (hn₀ : n₀ ≤ w.heap.size) (hb0 : Below w0.heap.size w0 w) :
    Gives (α := Pc w0 len) Fence.wide n Tryd.prog 61 #[.slice a len cap] (fun x => #[x.enc]) n₀ (fun ys => ys.map Pc.val = seg7 xs) len w := by
  intro l J W hW hJ hY h0
  show CallsIn _ _ _ _ #[.slice a len cap, .func (.yield l) #[] #[]] W _
  have hbW := hb0.trans (hW.mono (Nat.le_trans hw0 hn₀))
  have hnW := Nat.le_trans hn₀ hW.size
  have HR := hid hr
  clear hr
  refine callsIn_of_wp Tryd.func61 rfl trivial ?_ rfl
  simp only [Tryd.ntmps61, List.size_toArray, List.length_cons, List.length_nil, Nat.reduceAdd, Nat.reduceSub, Array.replicate_succ, Array.replicate_zero, List.push_toArray, List.append_toArray, List.nil_append, List.cons_append]
  gi_wp2_with fail
  gi_loopw [0] (fun v wr => ∃ (m : Nat) (a' : Option Addr) (c' : Nat) (ys : List Int) (pre : List (Pc w0 len)), pre.length + m ≤ len ∧ v = .slice a' m c' ∧ Hid (pre.map Pc.val ++ seg7 ys = seg7 xs) ∧ J pre wr ∧ Hid (Reads .u8 w0 a' m c' ys) ∧ Below n₀ W wr) (fun v _ => lenV v)
  case atStart => exact ⟨len, a, cap, xs, [], by simp, rfl, rfl, h0, HR, Below.refl _ _⟩
  case round =>
    obtain ⟨m, a', c', ys, pre, hpm, rfl, hps, hJs, hR, hnx⟩ := hrel
    have hszy := hR.out.size
    have hroom := hR.out.room
    by_cases hlt : 0 < m
    · obtain ⟨b, off, rfl, _⟩ := hR.out.cell hlt
      have hne : ys ≠ [] := by intro h; subst h; simp at hszy; omega
      have hF := sread_first w0 wr _ m c' ys hR.out (hbW.trans (hnx.mono hw0)) (by omega) hlt
      have hsg := seg7_next hne
      have hp1 : nx7 ys ≤ m := by
        cases ys with
        | nil => exact absurd rfl hne
        | cons x r => have := nx7_le x r; omega
      have hp0 : 0 < nx7 ys := by
        cases ys with
        | nil => exact absurd rfl hne
        | cons x r => exact nx7_pos x r
      obtain ⟨k, hk⟩ : ∃ k, k = nx7 ys := ⟨_, rfl⟩
      rw [← hk] at hF hsg hp1 hp0
      have hpc := hR.out.piece (l := k) (r := m) hp1 (Nat.le_refl _)
      rw [List.take_of_length_le (by omega)] at hpc
      rw [Option.map_some, Addr.add_lit] at hpc
      have hnext : Hid (∀ X : Pc w0 len, X.val = Go.Proofs.YtiacijodoojgoaaDoor.u7 ys → (pre ++ [X]).map Pc.val ++ seg7 (ys.drop k) = seg7 xs) := fun X hX => by
        rw [← hps.out, hsg, List.map_append, List.append_assoc, ← hX]; rfl
      have hpl : pre.length < len := by omega
      clear hsg hne hps hk
      have q1 : (k : Int) ≤ (m : Int) := by omega
      have q2 : (0 : Int) ≤ (k : Int) := by omega
      have q3 : (k : Int) ≤ (c' : Int) := by omega
      by_cases hc : c' = k
      all_goals
        first | (rw [if_pos hc] at hpc; have r3 : (c' = k) = True := eq_true hc) | (rw [if_neg hc] at hpc; have r3 : (c' = k) = False := eq_false hc)
        have HPC := hid hpc
        clear hpc hc
        gi_wp2_with (refine ⟨trivial, ?_⟩; gi_at_call 76; (with_reducible refine (callsIn_wide.2 hF).mono ?_); rintro e w1 ⟨p, rfl, hpv, hb1⟩; have HV := hid (hnext.out (p.up (by omega)) hpv); clear hpv hnext; simp only [Pc.enc]; (obtain ⟨fn, tmps, assign, body, hy, hR2⟩ := hY pre (p.up (by omega)) _ (abides_below hJ hJs (hb1.alloc hb1.size (.cells #[.slice p.a p.m p.c, .int .i32 p.s, .bool p.r] 94))) hpl); simp only [Pc.enc, Pc.up] at hy)
        refine hR2.mono ?_
        rintro e W3 ⟨rfl, hJ3, hk3⟩
        have hnx3 := ((hnx.trans ((hb1.alloc hb1.size (.cells #[.slice p.a p.m p.c, .int .i32 p.s, .bool p.r] 94)).mono (Nat.le_trans hnW hnx.size)))).trans hk3
        gi_wp2_with fail
        go_roundw
        case rel => exact ⟨m - k, _, _, _, _, by simp; omega, rfl, HV, hJ3, HPC, hnx3⟩
        case measure => simp [lenV]; omega
    · obtain rfl : m = 0 := by omega
      obtain rfl : ys = [] := List.eq_nil_of_length_eq_zero hszy
      have hend : Hid (pre.map Pc.val = seg7 xs) := by
        have := hps.out
        rw [seg7_nil, List.append_nil] at this
        exact this
      gi_wp2_with fail
      go_end0
      exact ⟨⟨_, rfl⟩, _, hend.out, hJs⟩
end Go.Proofs.YtiacijodoojgoaaDoor

/-! C06c -/
namespace Go.Proofs.YtiacijodoojgoaaDoor
open Go.RowKit
set_option linter.unusedVariables false

end Go.Proofs.YtiacijodoojgoaaDoor

/-! C06d -/
namespace Go.Proofs.YtiacijodoojgoaaDoor
open Go.RowKit Go.Shelf
set_option linter.unusedVariables false
attribute [local go_sem] Oper.semAt_some

def lenOfV : Value → Nat
  | .slice _ n _ => n
  | _ => 0
set_option maxRecDepth 100000 in
set_option maxHeartbeats 2000000 in
theorem usigns1_in (n l Bs n₀ : Nat) (hn : 1 ≤ n) (a : Option Addr) (len cap : Nat) (xs : List Int) (J Jx : List (Int × Int) → World → Prop) (W : World)
    (hJa : AbidesFrom W.heap.size J) (hn₀ : n₀ ≤ W.heap.size) (w0 : World) (hw0 : w0.heap.size ≤ n₀) (hr : Reads .u16 w0 a len cap xs) (hb0 : Below w0.heap.size w0 W)
    (hY : ∀ pre x W, J pre W → pre.length < len → YieldAt Fence.wide (n - 1) Tryd.prog l (encS x) W fun e W' =>
      (e = .returned (.bool true) ∧ J (pre ++ [x]) W' ∧ KeepsBox n₀ Bs 61 W W') ∨ (e = .returned (.bool false) ∧ Jx (pre ++ [x]) W'))
    (hBs : Boxed W Bs 61 (.slice a len cap)) (h0 : J [] W) :
    CallsIn Fence.wide n Tryd.prog 103 #[.func (.yield l) #[] #[], .pointer (some ⟨Bs, 0, none⟩)] W fun e W' => (∃ v, e = .returned v) ∧
      ((∃ ys, ys = usigs xs ∧ J ys W') ∨ (∃ pre, pre <+: usigs xs ∧ Jx pre W')) := by
  have hl := hr.len_le
  have HR := hid hr
  have hc := hBs.cell
  clear hr
  refine callsIn_of_wp Tryd.func103 rfl trivial ?_ rfl
  simp only [Tryd.ntmps103, List.size_toArray, List.length_cons, List.length_nil, Nat.reduceAdd, Nat.reduceSub, Array.replicate_succ, Array.replicate_zero, List.push_toArray, List.append_toArray, List.nil_append, List.cons_append]
  gi_wp2
  gi_loopw [3] (fun v wr => ∃ (m : Nat) (a' : Option Addr) (c' : Nat) (ys : List Int) (pre : List (Int × Int)), pre.length + m ≤ len ∧ v = .slice a' m c' ∧ Hid (pre ++ usigs ys = usigs xs) ∧ J pre wr ∧ Hid (Reads .u16 w0 a' m c' ys) ∧ Below n₀ W wr) (fun v _ => lenOfV v)
  case atStart => exact ⟨len, a, cap, xs, [], by simp, rfl, rfl, h0, HR, Below.refl _ _⟩
  case round =>
    obtain ⟨m, a', c', ys, pre, hpm, rfl, hps, hJs, hR, hnx⟩ := hrel
    have hszy := hR.out.size
    have hroom := hR.out.room
    clear hc
    by_cases hlt : 0 < m
    · have hne : ys ≠ [] := by intro h; subst h; simp at hszy; omega
      have hrd := hR.out.below (hb0.trans (hnx.mono hw0))
      have hT := units_take _ _ _ _ _ hrd hne
      have hsg := usigs_cons hne
      have hp0 := utN_pos ys
      have hp1 := utN_le hne
      rw [hszy] at hp1
      have hpc := hid (hR.out.piece (l := utN ys) (r := m) hp1 (Nat.le_refl _))
      rw [List.take_of_length_le (by omega)] at hpc
      have hnext : Hid (pre ++ [ut1 ys] ++ usigs (ys.drop (utN ys)) = usigs xs) := by
        rw [Hid, ← hps.out, hsg, List.append_assoc]; rfl
      have hfs : Hid (pre ++ [ut1 ys] <+: usigs xs) := ⟨_, hnext.out⟩
      have hpl : pre.length < len := by omega
      clear hsg hne hps
      gi_wp2_with (refine ⟨trivial, ?_⟩; gi_at_call 104; (with_reducible refine (callsIn_wide.2 hT).mono ?_); rintro e w' ⟨rfl, n1, rfl⟩; obtain ⟨fn, tmps, assign, body, hy, hR⟩ := hY pre (ut1 ys) _ (abides_drewN hJa hJs n1) hpl; unfold encS at hy)
      refine hR.mono ?_
      rintro e W3 (⟨rfl, hJ3, hk3⟩ | ⟨rfl, hJx3⟩)
      · have hnx3 := (Below.drewN hnx n1).trans hk3.1
        gi_wp2_with fail
        trace_state
        all_goals
          go_roundw
          case rel => exact ⟨m - utN ys, _, _, _, _, by simp; omega, rfl, hnext, hJ3, by have := hpc.out; simp_all, hnx3⟩
          case measure => simp [lenOfV]; omega
      · gi_wp2_with fail
        refine bodyPost_ret (results_none rfl _ _ _) rfl ?_
        exact ⟨⟨_, rfl⟩, .inr ⟨_, hfs.out, hJx3⟩⟩
    · obtain rfl : m = 0 := by omega
      obtain rfl : ys = [] := List.eq_nil_of_length_eq_zero hszy
      have hend : Hid (pre = usigs xs) := by
        have := hps.out
        rw [usigs_nil, List.append_nil] at this
        exact this
      gi_wp2_with fail
      go_end0
      exact ⟨⟨_, rfl⟩, .inl ⟨_, hend.out, hJs⟩⟩
set_option maxHeartbeats 1000000 in
theorem units_signs (n : Nat) (a : Option Addr) (len cap : Nat) (w : World) :
    CallsIn Fence.wide n Tryd.prog 93 #[.slice a len cap] w fun e w' => e = .returned (.func (.func 103) #[] #[.pointer (some ⟨w.heap.size, 0, none⟩)]) ∧ w' = w.alloc (.cells #[.slice a len cap] 61) := by
  refine callsIn_of_wp Tryd.func93 rfl trivial ?_ rfl
  simp only [Tryd.ntmps93, List.size_toArray, List.length_cons, List.length_nil, Nat.reduceAdd, Nat.reduceSub, Array.replicate_succ, Array.replicate_zero, List.push_toArray, List.append_toArray, List.nil_append, List.cons_append]
  gi_wp2
  go_ret
  exact ⟨rfl, rfl⟩
/-- The value that signs hands back: all signs in their order; or a beginning, where a round has said 'no more'. -/
theorem usigns_stops (n Bs n₀ : Nat) (hn : 1 ≤ n) (a : Option Addr) (len cap : Nat) (xs : List Int) (w0 w : World) (hr : Reads .u16 w0 a len cap xs) (hw0 : w0.heap.size ≤ n₀) (hn₀ : n₀ ≤ w.heap.size) (hb0 : Below w0.heap.size w0 w)
    (hlt : Bs < w.heap.size) (hBs : Boxed w Bs 61 (.slice a len cap)) :
    SeqStopsK Fence.wide n Tryd.prog 103 #[.pointer (some ⟨Bs, 0, none⟩)] encS (KeepsBox n₀ Bs 61) (fun ys => ys = usigs xs) (fun pre => pre <+: usigs xs) len w := fun l J Jx W hW hJ _ hY h0 =>
  usigns1_in n l Bs n₀ hn a len cap xs J Jx W hJ (Nat.le_trans hn₀ hW.size) w0 hw0 hr (hb0.trans (hW.mono (Nat.le_trans hw0 hn₀))) hY ((hW.block Bs hlt).trans hBs) h0

end Go.Proofs.YtiacijodoojgoaaDoor

/-! C06e -/
namespace Go.Proofs.YtiacijodoojgoaaDoor
open Go.RowKit Go.Shelf
set_option linter.unusedVariables false
attribute [local go_sem] Oper.semAt_some

set_option maxRecDepth 100000 in
set_option maxHeartbeats 2000000 in
theorem units_Right (a : Option Addr) (len cap : Nat) (xs : List Int) (w : World) (hr : Reads .u16 w a len cap xs) :
    Calls Tryd.prog 86 #[.slice a len cap] w fun e w' => e = .returned (.bool (decide (errP (usigs xs) = 0))) ∧ Below w.heap.size w w' := by
  have hl := hr.len_le
  refine (callsIn_wide (n := 4)).1 ?_
  refine callsIn_of_wp_marks Tryd.func86 rfl trivial ?_ rfl
  simp only [Tryd.ntmps86, List.size_toArray, List.length_cons, List.length_nil, Nat.reduceAdd, Nat.reduceSub, Array.replicate_succ, Array.replicate_zero, List.push_toArray, List.append_toArray, List.nil_append, List.cons_append]
  gi_wp2_with (refine ⟨trivial, ?_⟩; gi_at_call 93; (with_reducible refine (units_signs _ _ _ _ _).mono ?_); rintro e w' ⟨rfl, rfl⟩)
  obtain ⟨b1, b2, hB0⟩ := two_boxes w 4 61 (.bool false) (.slice a len cap)
  refine wpIn_rangeFunc_ownG rfl (by omega) (gf := 103) (lb := #[.pointer (some ⟨w.heap.size + 1, 0, none⟩)]) rfl trivial (enters_of Tryd.func103 (by kernel_rfl) rfl)
    (usigns_stops 3 (w.heap.size + 1) w.heap.size (by omega) a len cap xs w _ hr (Nat.le_refl _) hB0.size hB0 (by simp) b2) keepsBox_t (keepsBox_b hB0.size) (Below.refl _ _) (fun _ => rfl)
    (fun pre W => errP pre = 0 ∧ Boxed W w.heap.size 4 (.bool false) ∧ Below w.heap.size w W)
    (fun c pre W => (c = .ret ∧ errP pre ≠ 0) ∧ Boxed W w.heap.size 4 (.bool false) ∧ Below w.heap.size w W)
    (OwnFrom.and (ownFrom_pure _ (fun pre => errP pre = 0)) (own_box (Nat.le_refl _) hB0.size _ _ (fun _ => .bool false)))
    (fun c => OwnFrom.and (ownFrom_pure _ (fun pre => c = .ret ∧ errP pre ≠ 0)) (own_box (Nat.le_refl _) hB0.size _ _ (fun _ => .bool false)))
    ⟨rfl, b1, hB0⟩
    (fun x => { tmps := #[.slice a len cap, undef, .pointer (some ⟨w.heap.size, 0, none⟩), undef, .int .i64 x.2, .slice a len cap, .func (.func 103) #[] #[.pointer (some ⟨w.heap.size + 1, 0, none⟩)], .int .i32 x.1, .int .i64 x.2, undef, undef], defers := [] }) ?assign ?body ?done ?stop
  case assign =>
    intro l x W K hK
    dsimp only [encS]
    gi_wp2
    exact hK
  case body =>
    rintro l pre x W ⟨h0, hv, hB⟩ hlt
    have hc := hv.cell
    have hf := hv.frozen
    have hsn := errP_snoc pre x
    rw [if_pos h0] at hsn
    have H0 := hid h0
    clear h0
    cases he : x.2 == 0
    · have he' : x.2 ≠ 0 := by simpa using he
      rw [← hsn] at he'
      have HE := hid he'
      clear he'
      gi_wp2
      have hv' := hv.set (.bool false)
      exact ⟨(KeepsOthers.setCell _ _ _).from _, ⟨rfl, HE.out⟩, hv', hB.setCell (p := ⟨w.heap.size, 0, none⟩) (Nat.le_refl _) _⟩
    · have he' : x.2 = 0 := by simpa using he
      rw [← hsn] at he'
      have HE := hid he'
      clear he'
      gi_wp2
      exact ⟨KeepsFrom.refl _ _, KeepsBox.refl _ _ _ _, HE.out, hv, hB⟩
  case done =>
    rintro D ys W hD rfl ⟨h0, hv, hB⟩ hK
    have hc := hv.cell
    have hf := hv.frozen
    have H0 := hid h0
    clear h0
    gi_wp2
    have hK' := (KeepsOthers.setCell W ⟨w.heap.size, 0, none⟩ (.bool true)).same D _ hK rfl
    refine ⟨by simp, .inl ⟨_, _, rfl, run_takeDeferred hK', ?_⟩⟩
    have hc5 := cell_kept (hv.set (.bool true)).cell (grownBy_putObj' _ D (.deferred none)) (fun r e => by cases e; exact ⟨_, hK', rfl⟩)
    refine ⟨.bool true, ?_, by rw [H0.out]; rfl, (hB.setCell (p := ⟨w.heap.size, 0, none⟩) (Nat.le_refl _) _).trans (belowK_b (w := w) (Nat.le_refl _) _ D _ _ (by simp at hD; omega) hK' rfl rfl)⟩
    simp [results, Tryd.f86, go_sem, hc5]
  case stop =>
    rintro D c pre W hD hpre ⟨⟨rfl, h0⟩, hv, hB⟩ hK
    have H0 : Hid (errP (usigs xs) ≠ 0) := by rw [Hid, errP_pre hpre h0]; exact h0
    clear h0
    gi_wp2
    refine ⟨by simp, .inl ⟨_, _, rfl, run_takeDeferred hK, ?_⟩⟩
    have hc5 := cell_kept hv.cell (grownBy_putObj' _ D (.deferred none)) (fun r e => by cases e; exact ⟨_, hK, rfl⟩)
    refine ⟨.bool false, ?_, by rw [decide_eq_false H0.out], hB.trans (belowK_b (w := w) (Nat.le_refl _) W D _ _ (by simp at hD; omega) hK rfl rfl)⟩
    simp [results, Tryd.f86, go_sem, hc5]
theorem encR_utxt (xs : List Int) : encR (usigs xs) = (utxt xs).map (Value.int .i32) := by simp [encR, utxt, Function.comp_def]
theorem reads_urow {e : TypeId} {base : Nat} {w : World} {v : Value} {xs : List Int} (h : w.ownsRow base e 1 v (usigs xs).length (encR (usigs xs))) (hwf : ∀ x ∈ utxt xs, (Lit.int .i32 x).wf = true) :
    ∃ a cap, v = .slice a (usigs xs).length cap ∧ Reads .i32 w a (usigs xs).length cap (utxt xs) := by
  have hO : Own .i32 e base w v (utxt xs) := ⟨by rw [utxt_len, ← encR_utxt]; exact h, hwf⟩
  obtain ⟨a, cap, hv, hr⟩ := hO.reads
  rw [utxt_len] at hv hr
  exact ⟨a, cap, hv, hr⟩
set_option maxRecDepth 100000 in
set_option maxHeartbeats 4000000 in
theorem units_ReadO (a : Option Addr) (len cap : Nat) (xs : List Int) (w : World) (hr : Reads .u16 w a len cap xs) (hN : len < 1000000000000) :
    Calls Tryd.prog 85 #[.slice a len cap] w fun e w' => ∃ v, e = .returned v ∧ Own .i32 21 w.heap.size w' v (utxt xs) ∧ Below w.heap.size w w' := by
  have hl := hr.len_le
  have hbd : ∀ x ∈ xs, 0 ≤ x ∧ x ≤ 65535 := fun x hx => wf_u16 (hr.wf x hx)
  have hwf := hid (utxt_wf hbd)
  clear hbd
  obtain ⟨i0, hi, hz0, hz1, hz2⟩ := info_parts CTR.info
  refine (callsIn_wide (n := 4)).1 ?_
  refine callsIn_of_wp_marks Tryd.func85 rfl trivial ?_ rfl
  simp only [Tryd.ntmps85, List.size_toArray, List.length_cons, List.length_nil, Nat.reduceAdd, Nat.reduceSub, Array.replicate_succ, Array.replicate_zero, List.push_toArray, List.append_toArray, List.nil_append, List.cons_append]
  gi_wp2_with (refine ⟨trivial, ?_⟩; gi_at_call 93; (with_reducible refine (units_signs _ _ _ _ _).mono ?_); rintro e w' ⟨rfl, rfl⟩)
  obtain ⟨b1, b2, hB0⟩ := two_boxes w 30 61 (.slice none 0 0) (.slice a len cap)
  refine wpIn_rangeFunc_ownG rfl (by omega) (gf := 103) (lb := #[.pointer (some ⟨w.heap.size + 1, 0, none⟩)]) rfl trivial (enters_of Tryd.func103 (by kernel_rfl) rfl)
    (usigns_stops 3 (w.heap.size + 1) w.heap.size (by omega) a len cap xs w _ hr (Nat.le_refl _) hB0.size hB0 (by simp) b2) keepsBox_t (keepsBox_b hB0.size) (Below.refl _ _) (fun _ => rfl)
    (fun pre W => (∃ v, Boxed W w.heap.size 30 v ∧ W.ownsRow w.heap.size 21 1 v pre.length (encR pre) ∧ True) ∧ Below w.heap.size w W)
    (fun _ _ _ => False)
    (own_row (Nat.le_refl _) hB0.size _ _ _) (fun _ _ _ _ _ hs _ _ => hs)
    ⟨⟨_, b1, World.ownsRow_nil _ _ _ _, trivial⟩, hB0⟩
    (fun x => { tmps := #[.slice a len cap, undef, .slice none 0 0, .pointer (some ⟨w.heap.size, 0, none⟩), .int .i32 x.1, .slice a len cap, .func (.func 103) #[] #[.pointer (some ⟨w.heap.size + 1, 0, none⟩)], .int .i32 x.1, .int .i64 x.2, undef, undef, undef, undef, undef], defers := [] }) ?assign ?body ?done ?stop
  case assign =>
    intro l x W K hK
    dsimp only [encS]
    gi_wp2
    exact hK
  case body =>
    rintro l pre x W ⟨⟨v, hv, hrow, _⟩, hB⟩ hlt
    have hc := hv.cell
    gi_wp2_with (gi_at_builtin; refine wpListIn_append_own _ rfl _ _ 30 rfl w.heap.size 21 i0 (.int .i32 0) 1 4 Tryd.underlying30 hi hz0 hz1 hz2 rfl (by decide) _ _ _ rfl (hrow.alloc _) ⟨W.heap.size, 0, none⟩ 1 1 [.int .i32 x.1] rfl rfl (cell_one_new _ _ _) (by simp [Value.oneCell']) (by unfold maxLen; omega) (by omega) (by have := hB.size; simp; omega) ?_; intro v' w1 hown' hgrow _; obtain ⟨g', cap', rfl⟩ := ownsRow_succ hown'; obtain ⟨hv1, hv2, hr2, hk2, hb2⟩ := hv.appended (by decide) hrow hB.size (Nat.le_refl _) hown' hgrow; have hc1 := hv1.cell; have hf1 := hv1.frozen)
    exact ⟨hk2.from _, ⟨hb2, fun u hu => box_appended hu (by decide) (by omega) hrow hgrow⟩, ⟨_, hv2, by rw [encR_snoc]; simpa using hr2, trivial⟩, hB.trans hb2⟩
  case done =>
    rintro D ys W hD rfl ⟨⟨v, hv, hrow, _⟩, hB⟩ hK
    have hc := hv.cell
    gi_wp2
    refine ⟨by simp, .inl ⟨_, _, rfl, run_takeDeferred hK, ?_⟩⟩
    have hO : Own .i32 21 w.heap.size (W.putObj D (.deferred none)) v (utxt xs) := ⟨by rw [utxt_len, ← encR_utxt]; exact ownsRow_putObj hrow (.deferred none) hK rfl, hwf.out⟩
    exact ⟨_, results_tmp rfl _ _ _, v, rfl, hO, hB.trans (belowK_b (w := w) (Nat.le_refl _) W D _ _ (by simp at hD; omega) hK rfl rfl)⟩
  case stop =>
    rintro D c pre W _ _ h _
    exact h.elim
theorem units_Read (a : Option Addr) (len cap : Nat) (xs : List Int) (w : World) (hr : Reads .u16 w a len cap xs) (hN : len < 1000000000000) :
    Calls Tryd.prog 85 #[.slice a len cap] w fun e w' => ∃ a' cap', e = .returned (.slice a' (usigs xs).length cap') ∧ Reads .i32 w' a' (usigs xs).length cap' (utxt xs) ∧ Below w.heap.size w w' := by
  refine (units_ReadO a len cap xs w hr hN).mono ?_
  rintro e w' ⟨v, rfl, ho, hb⟩
  obtain ⟨a', cap', rfl, hrd⟩ := ho.reads
  rw [utxt_len] at hrd
  rw [utxt_len]
  exact ⟨a', cap', rfl, hrd, hb⟩

end Go.Proofs.YtiacijodoojgoaaDoor
