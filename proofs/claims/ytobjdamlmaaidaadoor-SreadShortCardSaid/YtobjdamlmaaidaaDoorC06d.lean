/-
  Contracts of package units' functions: the iterator over units' signs.
-/
import Derived.Test.YtobjdamlmaaidaaDoorC06c
namespace Go.Proofs.YtobjdamlmaaidaaDoor
open Go.RowKit Go.Shelf
set_option linter.unusedVariables false
attribute [local go_sem] Oper.semAt_some

def lenOfV : Value → Nat
  | .slice _ n _ => n
  | _ => 0
set_option maxRecDepth 100000 in
set_option maxHeartbeats 2000000 in
theorem usigns1_in (n l Bs n₀ : Nat) (hn : 1 ≤ n) (a : Option Addr) (len cap : Nat) (xs : List Int) (J Jx : List (Int × Int) → World → Prop) (W : World)
    (hJa : AbidesFrom W.heap.size J) (hn₀ : n₀ ≤ W.heap.size) (w0 : World) (hw0 : w0.heap.size ≤ n₀) (hr : Reads .u16 w0 a len cap xs) (hb0 : Below w0.heap.size w0 W)
    (hY : ∀ pre x W, J pre W → pre.length < len → YieldAt Fence.wide (n - 1) Tryd.prog l (encS x) W fun e W' =>
      (e = .returned (.bool true) ∧ J (pre ++ [x]) W' ∧ KeepsBox n₀ Bs 48 W W') ∨ (e = .returned (.bool false) ∧ Jx (pre ++ [x]) W'))
    (hBs : Boxed W Bs 48 (.slice a len cap)) (h0 : J [] W) :
    CallsIn Fence.wide n Tryd.prog 58 #[.func (.yield l) #[] #[], .pointer (some ⟨Bs, 0, none⟩)] W fun e W' => (∃ v, e = .returned v) ∧
      ((∃ ys, ys = usigs xs ∧ J ys W') ∨ (∃ pre, pre <+: usigs xs ∧ Jx pre W')) := by
  have hl := hr.len_le
  have HR := hid hr
  have hc := hBs.cell
  clear hr
  refine callsIn_of_wp Tryd.func58 rfl trivial ?_ rfl
  simp only [Tryd.ntmps58, List.size_toArray, List.length_cons, List.length_nil, Nat.reduceAdd, Nat.reduceSub, Array.replicate_succ, Array.replicate_zero, List.push_toArray, List.append_toArray, List.nil_append, List.cons_append]
  gi_wp2
  gi_loopw [3] (fun v wr => ∃ (m : Nat) (a' : Option Addr) (c' : Nat) (ys : List Int) (pre : List (Int × Int)), pre.length + m ≤ len ∧ v = .slice a' m c' ∧ Hid (pre ++ usigs ys = usigs xs) ∧ J pre wr ∧ Hid (Reads .u16 w0 a' m c' ys) ∧ Below n₀ W wr) (fun v _ => lenOfV v)
  case atStart => exact ⟨len, a, cap, xs, [], by simp, rfl, rfl, h0, HR, Below.refl _ _⟩
  case round =>
    obtain ⟨m, a', c', ys, pre, hpm, rfl, hps, hJs, hR, hnx⟩ := hrel
    have hszy := hR.out.size
    have hroom := hR.out.room
    clear hc
    by_cases hlt : 0 < m
    · have hne : ys ≠ [] := by intro h; subst h; simp at hszy; omega
      have hrd := hR.out.below (hb0.trans (hnx.mono hw0))
      have hT := units_take _ _ _ _ _ hrd hne
      have hsg := usigs_cons hne
      have hp0 := utN_pos ys
      have hp1 := utN_le hne
      rw [hszy] at hp1
      have hpc := hid (hR.out.piece (l := utN ys) (r := m) hp1 (Nat.le_refl _))
      rw [List.take_of_length_le (by omega)] at hpc
      have hnext : Hid (pre ++ [ut1 ys] ++ usigs (ys.drop (utN ys)) = usigs xs) := by
        rw [Hid, ← hps.out, hsg, List.append_assoc]; rfl
      have hfs : Hid (pre ++ [ut1 ys] <+: usigs xs) := ⟨_, hnext.out⟩
      have hpl : pre.length < len := by omega
      clear hsg hne hps
      gi_wp2_with (refine ⟨trivial, ?_⟩; gi_at_call 59; (with_reducible refine (callsIn_wide.2 hT).mono ?_); rintro e w' ⟨rfl, n1, rfl⟩; obtain ⟨fn, tmps, assign, body, hy, hR⟩ := hY pre (ut1 ys) _ (abides_drewN hJa hJs n1) hpl; unfold encS at hy)
      refine hR.mono ?_
      rintro e W3 (⟨rfl, hJ3, hk3⟩ | ⟨rfl, hJx3⟩)
      · have hnx3 := (Below.drewN hnx n1).trans hk3.1
        gi_wp2_with fail
        trace_state
        all_goals
          go_roundw
          case rel => exact ⟨m - utN ys, _, _, _, _, by simp; omega, rfl, hnext, hJ3, by have := hpc.out; simp_all, hnx3⟩
          case measure => simp [lenOfV]; omega
      · gi_wp2_with fail
        refine bodyPost_ret (results_none rfl _ _ _) rfl ?_
        exact ⟨⟨_, rfl⟩, .inr ⟨_, hfs.out, hJx3⟩⟩
    · obtain rfl : m = 0 := by omega
      obtain rfl : ys = [] := List.eq_nil_of_length_eq_zero hszy
      have hend : Hid (pre = usigs xs) := by
        have := hps.out
        rw [usigs_nil, List.append_nil] at this
        exact this
      gi_wp2_with fail
      go_end0
      exact ⟨⟨_, rfl⟩, .inl ⟨_, hend.out, hJs⟩⟩
set_option maxHeartbeats 1000000 in
theorem units_signs (n : Nat) (a : Option Addr) (len cap : Nat) (w : World) :
    CallsIn Fence.wide n Tryd.prog 47 #[.slice a len cap] w fun e w' => e = .returned (.func (.func 58) #[] #[.pointer (some ⟨w.heap.size, 0, none⟩)]) ∧ w' = w.alloc (.cells #[.slice a len cap] 48) := by
  refine callsIn_of_wp Tryd.func47 rfl trivial ?_ rfl
  simp only [Tryd.ntmps47, List.size_toArray, List.length_cons, List.length_nil, Nat.reduceAdd, Nat.reduceSub, Array.replicate_succ, Array.replicate_zero, List.push_toArray, List.append_toArray, List.nil_append, List.cons_append]
  gi_wp2
  go_ret
  exact ⟨rfl, rfl⟩
/-- The value that signs hands back: all signs in their order; or a beginning, where a round has said 'no more'. -/
theorem usigns_stops (n Bs n₀ : Nat) (hn : 1 ≤ n) (a : Option Addr) (len cap : Nat) (xs : List Int) (w0 w : World) (hr : Reads .u16 w0 a len cap xs) (hw0 : w0.heap.size ≤ n₀) (hn₀ : n₀ ≤ w.heap.size) (hb0 : Below w0.heap.size w0 w)
    (hlt : Bs < w.heap.size) (hBs : Boxed w Bs 48 (.slice a len cap)) :
    SeqStopsK Fence.wide n Tryd.prog 58 #[.pointer (some ⟨Bs, 0, none⟩)] encS (KeepsBox n₀ Bs 48) (fun ys => ys = usigs xs) (fun pre => pre <+: usigs xs) len w := fun l J Jx W hW hJ _ hY h0 =>
  usigns1_in n l Bs n₀ hn a len cap xs J Jx W hJ (Nat.le_trans hn₀ hW.size) w0 hw0 hr (hb0.trans (hW.mono (Nat.le_trans hw0 hn₀))) hY ((hW.block Bs hlt).trans hBs) h0

end Go.Proofs.YtobjdamlmaaidaaDoor
