/-
  Texts of ours laid together: C15a.
-/
import Derived.Test.YtefhddbbiheadaaGreatRows
import Derived.Test.YtefhddbbiheadaaGreatZ36

/-! C15a -/
namespace Go.Proofs.YtefhddbbiheadaaGreat
open Go.RowKit Go.Shelf
set_option linter.unusedVariables false
attribute [local go_sem] Oper.semAt_some

/-- A digit with its number, as yield is handed it. -/
def encD (c : Int) : Array Value := #[.int .u8 c, .int .i64 (valI c)]

theorem cut_take (xs : List Int) : xs.take (cutEq xs).length = cutEq xs := by
  unfold cutEq
  induction xs with
  | nil => rfl
  | cons x xs ih =>
    by_cases h : noEq x = true
    · rw [List.takeWhile_cons_of_pos h, List.length_cons, List.take_succ_cons, ih]
    · rw [List.takeWhile_cons_of_neg h]; rfl
theorem cut_le (xs : List Int) : (cutEq xs).length ≤ xs.length := (List.takeWhile_sublist _).length_le
theorem reads_cut {w : World} {a : Option Addr} {len cap : Nat} {xs : List Int} (hr : Reads .u8 w a len cap xs) : Reads .u8 w a (cutEq xs).length cap (cutEq xs) := by
  have h := hr.pre (n := (cutEq xs).length) (by have := cut_le xs; have := hr.size; omega)
  rwa [cut_take] at h

theorem bloose_head (a : Option Addr) (len cap : Nat) (xs : List Int) (w : World) (hr : Reads .u8 w a len cap xs) :
    Calls Tryz.prog 166 #[.slice a len cap] w fun e w' => e = .returned (.slice a (cutEq xs).length cap) ∧ Below w.heap.size w w' := by
  have HR := hid (hr.below ((Below.refl w.heap.size w).alloc (Nat.le_refl _) (.cells #[.int .u8 61] 5)))
  have h2 : Hid (Reads .u8 (w.alloc (.cells #[.int .u8 61] 5)) (some ⟨w.heap.size, 0, none⟩) 1 1 [61]) := hid (Reads.lit .u8 5 w [61] (by simp [maxLen]) (by decide))
  have hb := (Below.refl w.heap.size w).alloc (Nat.le_refl _) (.cells #[.int .u8 61] 5)
  go_enter Tryz.func166, Tryz.ntmps166
  go_wp2_with (go_at_call 106; (with_reducible refine (bytes_Cut1 HR.out h2.out).mono ?_); rintro e w' ⟨l', v, rfl, hp, n, rfl⟩)
  go_ret
  refine ⟨?_, Below.drewN hb n⟩
  rw [show (cutEq xs).length = l' from hp.size]; rfl

/-! ### the iterator -/
theorem digL_take {xs : List Int} {k : Nat} {c : Int} (h : (cutEq xs).take (k + 1) = (cutEq xs).take k ++ [c]) : ((cutEq xs).take (k + 1)).filter isDig = ((cutEq xs).take k).filter isDig ++ (if isDig c = true then [c] else []) := by
  rw [h, List.filter_append]
  congr 1
  cases hd : isDig c <;> simp [hd]
set_option maxRecDepth 100000 in
set_option maxHeartbeats 2000000 in
theorem digits1_in (n l Bs n₀ : Nat) (hn : 1 ≤ n) (a : Option Addr) (len cap : Nat) (xs : List Int) (J Jx : List Int → World → Prop) (W : World)
    (hJa : AbidesFrom W.heap.size J) (hn₀ : n₀ ≤ W.heap.size) (w0 : World) (hw0 : w0.heap.size ≤ n₀) (hr : Reads .u8 w0 a len cap xs) (hb0 : Below w0.heap.size w0 W)
    (hY : ∀ pre x W, J pre W → pre.length < len → YieldAt Fence.wide (n - 1) Tryz.prog l (encD x) W fun e W' =>
      (e = .returned (.bool true) ∧ J (pre ++ [x]) W' ∧ Below n₀ W W') ∨ (e = .returned (.bool false) ∧ Jx (pre ++ [x]) W'))
    (hBs : Boxed W Bs 22 (.slice a len cap)) (h0 : J [] W) :
    CallsIn Fence.wide n Tryz.prog 165 #[.func (.yield l) #[] #[], .pointer (some ⟨Bs, 0, none⟩)] W fun e W' => (∃ v, e = .returned v) ∧
      ((∃ ys, ys = digL xs ∧ J ys W') ∨ (∃ pre, pre <+: digL xs ∧ Jx pre W')) := by
  have hl := hr.len_le
  have hsz := hr.size
  have hR1 := reads_cut hr
  have hcl := cut_le xs
  have hH := bloose_head a len cap xs W (hr.below hb0)
  obtain ⟨L, hL⟩ : ∃ L, L = (cutEq xs).length := ⟨_, rfl⟩
  rw [← hL] at hR1 hcl hH
  have HR := hid hR1
  have hLl := hR1.len_le
  clear hr hR1
  have hc0 := hBs.cell
  have HDone : Hid (digL xs = ((cutEq xs).take L).filter isDig) := by unfold Hid digL; rw [hL, List.take_length]
  have HPre : Hid (∀ k, ((cutEq xs).take k).filter isDig <+: digL xs) := fun k => (List.take_prefix k _).filter _
  clear hL
  refine callsIn_of_wp Tryz.func165 rfl trivial ?_ rfl
  simp only [Tryz.ntmps165, List.size_toArray, List.length_cons, List.length_nil, Nat.reduceAdd, Nat.reduceSub, Array.replicate_succ, Array.replicate_zero, List.push_toArray, List.append_toArray, List.nil_append, List.cons_append]
  gi_wp2_with (refine ⟨trivial, ?_⟩; gi_at_call 166; (with_reducible refine (callsIn_wide.2 hH).mono ?_); rintro e W1 ⟨rfl, hb1⟩)
  have hJ1 := abides_below hJa h0 hb1
  have hn1 : Below n₀ W W1 := hb1.mono hn₀
  gi_loopw [10] (fun i wr => ∃ (k : Nat) (pre : List Int), k ≤ L ∧ pre.length ≤ k ∧ i = .int .i64 k ∧ Hid (pre = ((cutEq xs).take k).filter isDig) ∧ J pre wr ∧ Below n₀ W wr) (fun i _ => L - (intOf i).toNat)
  case atStart => exact ⟨0, [], Nat.zero_le _, Nat.le_refl _, rfl, rfl, hJ1, hn1⟩
  case round =>
    obtain ⟨k, pre, hk, hpk, rfl, hps, hJs, hnx⟩ := hrel
    by_cases hlt : k < L
    · obtain ⟨b, off, x, rfl, _, hc, h0x, h1x, hx⟩ := (HR.out.below (hb0.trans (hnx.mono hw0))).get8 hlt
      have hnext := digL_take hx.out.2
      have hpl : pre.length < len := by omega
      have hV := bcode_Value x wr h0x h1x
      cases hd : isDig x
      · rw [hd] at hV hnext
        rw [if_neg (by decide), List.append_nil, ← hps.out] at hnext
        have HN := hid hnext.symm
        have HV := hid hV
        clear hV hnext hd
        gi_wp2_with (refine ⟨trivial, ?_⟩; gi_at_call 150; (with_reducible refine (callsIn_wide.2 HV.out).mono ?_); rintro e w' ⟨rfl, rfl⟩)
        refine ⟨fun _ h => (by cases h), ?_⟩
        gi_wp2_with fail
        go_roundw
        case rel => exact ⟨k + 1, pre, by omega, by omega, by go_num, HN, hJs, hnx⟩
        case measure => simp [intOf]; omega
      · rw [hd] at hV hnext
        rw [if_pos rfl, ← hps.out] at hnext
        have HN := hid hnext.symm
        have HF := hid (HPre.out (k + 1))
        rw [hnext] at HF
        have HV := hid hV
        clear hV hnext hd
        obtain ⟨fn, tmps, assign, body, hy, hR⟩ := hY pre x _ hJs hpl
        unfold encD at hy
        gi_wp2_with (refine ⟨trivial, ?_⟩; gi_at_call 150; (with_reducible refine (callsIn_wide.2 HV.out).mono ?_); rintro e w' ⟨rfl, rfl⟩)
        refine hR.mono ?_
        rintro e W3 (⟨rfl, hJ3, hk3⟩ | ⟨rfl, hJx3⟩)
        · have hnx3 := hnx.trans hk3
          gi_wp2_with fail
          go_roundw
          case rel => exact ⟨k + 1, _, by omega, by simp; omega, by go_num, HN, hJ3, hnx3⟩
          case measure => simp [intOf]; omega
        · gi_wp2_with fail
          refine bodyPost_ret (results_none rfl _ _ _) rfl ?_
          exact ⟨⟨_, rfl⟩, .inr ⟨_, HF.out, hJx3⟩⟩
    · obtain rfl : k = L := by omega
      have hend : Hid (pre = digL xs) := by rw [Hid, HDone.out]; exact hps.out
      gi_wp2_with fail
      go_end0
      exact ⟨⟨_, rfl⟩, .inl ⟨_, hend.out, hJs⟩⟩
set_option maxHeartbeats 1000000 in
theorem bloose_digits (n : Nat) (a : Option Addr) (len cap : Nat) (w : World) :
    CallsIn Fence.wide n Tryz.prog 143 #[.slice a len cap] w fun e w' => e = .returned (.func (.func 165) #[] #[.pointer (some ⟨w.heap.size, 0, none⟩)]) ∧ w' = w.alloc (.cells #[.slice a len cap] 22) := by
  refine callsIn_of_wp Tryz.func143 rfl trivial ?_ rfl
  simp only [Tryz.ntmps143, List.size_toArray, List.length_cons, List.length_nil, Nat.reduceAdd, Nat.reduceSub, Array.replicate_succ, Array.replicate_zero, List.push_toArray, List.append_toArray, List.nil_append, List.cons_append]
  gi_wp2
  go_ret
  exact ⟨rfl, rfl⟩
/-- The value that digits hands back: all digits in their order; or a beginning, where a round has said 'no more'. -/
theorem digits_stops (n Bs n₀ : Nat) (hn : 1 ≤ n) (a : Option Addr) (len cap : Nat) (xs : List Int) (w0 w : World) (hr : Reads .u8 w0 a len cap xs) (hw0 : w0.heap.size ≤ n₀) (hn₀ : n₀ ≤ w.heap.size) (hb0 : Below w0.heap.size w0 w)
    (hlt : Bs < w.heap.size) (hBs : Boxed w Bs 22 (.slice a len cap)) :
    SeqStopsK Fence.wide n Tryz.prog 165 #[.pointer (some ⟨Bs, 0, none⟩)] encD (Below n₀) (fun ys => ys = digL xs) (fun pre => pre <+: digL xs) len w := fun l J Jx W hW hJ _ hY h0 =>
  digits1_in n l Bs n₀ hn a len cap xs J Jx W hJ (Nat.le_trans hn₀ hW.size) w0 hw0 hr (hb0.trans (hW.mono (Nat.le_trans hw0 hn₀))) hY ((hW.block Bs hlt).trans hBs) h0
set_option maxRecDepth 100000 in
set_option maxHeartbeats 2000000 in
theorem bloose_count (a : Option Addr) (len cap : Nat) (xs : List Int) (w : World) (hr : Reads .u8 w a len cap xs) :
    Calls Tryz.prog 164 #[.slice a len cap] w fun e w' => e = .returned (.int .i64 (digL xs).length) ∧ Below w.heap.size w w' := by
  have hl := hr.len_le
  refine (callsIn_wide (n := 4)).1 ?_
  refine callsIn_of_wp_marks Tryz.func164 rfl trivial ?_ rfl
  simp only [Tryz.ntmps164, List.size_toArray, List.length_cons, List.length_nil, Nat.reduceAdd, Nat.reduceSub, Array.replicate_succ, Array.replicate_zero, List.push_toArray, List.append_toArray, List.nil_append, List.cons_append]
  gi_wp2_with (refine ⟨trivial, ?_⟩; gi_at_call 143; (with_reducible refine (bloose_digits _ _ _ _ _).mono ?_); rintro e w' ⟨rfl, rfl⟩)
  obtain ⟨b1, b2, hB0⟩ := two_boxes w 3 22 (.int .i64 0) (.slice a len cap)
  refine wpIn_rangeFunc_ownG rfl (by omega) (gf := 165) (lb := #[.pointer (some ⟨w.heap.size + 1, 0, none⟩)]) rfl trivial (enters_of Tryz.func165 (by kernel_rfl) rfl)
    (digits_stops 3 (w.heap.size + 1) w.heap.size (by omega) a len cap xs w _ hr (Nat.le_refl _) hB0.size hB0 (by simp) b2) (fun h k => h.trans k) (belowK_b hB0.size) (Below.refl _ _) (fun _ => rfl)
    (fun pre W => Boxed W w.heap.size 3 (.int .i64 pre.length) ∧ Below w.heap.size w W)
    (fun _ _ _ => False)
    (own_box (Nat.le_refl _) hB0.size _ _ (fun pre : List Int => .int .i64 pre.length)) (fun _ _ _ _ _ hs _ _ => hs)
    ⟨b1, hB0⟩
    (fun x => { tmps := #[.slice a len cap, undef, .int .i64 0, .pointer (some ⟨w.heap.size, 0, none⟩), .slice a len cap, .func (.func 165) #[] #[.pointer (some ⟨w.heap.size + 1, 0, none⟩)], .int .u8 x, .int .i64 (valI x), undef, undef, undef], defers := [] }) ?assign ?body ?done ?stop
  case assign =>
    intro l x W K hK
    dsimp only [encD]
    gi_wp2
    simp
    exact hK
  case body =>
    rintro l pre x W ⟨hv, hB⟩ hlt
    have hc := hv.cell
    have hf := hv.frozen
    gi_wp2
    have hv' := hv.set (.int .i64 (pre.length + 1))
    exact ⟨(KeepsOthers.setCell _ _ _).from _, (Below.refl _ _).setCell (p := ⟨w.heap.size, 0, none⟩) (Nat.le_refl _) _, by simpa using hv', hB.setCell (p := ⟨w.heap.size, 0, none⟩) (Nat.le_refl _) _⟩
  case done =>
    rintro D ys W hD rfl ⟨hv, hB⟩ hK
    have hc := hv.cell
    gi_wp2
    refine ⟨by simp, .inl ⟨_, _, rfl, run_takeDeferred hK, ?_⟩⟩
    exact ⟨_, results_tmp rfl _ _ _, rfl, hB.trans (belowK_b (w := w) (Nat.le_refl _) W D _ _ (by simp at hD; omega) hK rfl rfl)⟩
  case stop =>
    rintro D c pre W _ _ h _
    exact h.elim
theorem dig_n (xs : List Int) : (looL xs).length = (digL xs).length / 4 * 3 + (digL xs).length % 4 * 6 / 8 ∧ drpN xs = (digL xs).length % 4 * 6 % 8 := by
  constructor
  · unfold looL
    rw [rd64_len, List.length_map]
    omega
  · unfold drpN
    omega
theorem bloose_Len (a : Option Addr) (len cap : Nat) (xs : List Int) (w : World) (hr : Reads .u8 w a len cap xs) (hN : len < 10000000) :
    Calls Tryz.prog 142 #[.slice a len cap] w fun e w' => e = .returned (.int .i64 (looL xs).length) ∧ Below w.heap.size w w' := by
  have hsz := hr.size
  have hle := digL_le xs
  have hn := (dig_n xs).1
  have hC := bloose_count a len cap xs w hr
  obtain ⟨n, hnn⟩ : ∃ n, n = (digL xs).length := ⟨_, rfl⟩
  rw [← hnn] at hle hn hC
  have HN := hid hn
  clear hn hnn
  go_enter Tryz.func142, Tryz.ntmps142
  go_wp2_with (go_at_call 164; (with_reducible refine hC.mono ?_); rintro e w1 ⟨rfl, hb1⟩)
  all_goals
    go_ret
    exact ⟨ret_int (by rw [HN.out]; omega), hb1⟩
end Go.Proofs.YtefhddbbiheadaaGreat
