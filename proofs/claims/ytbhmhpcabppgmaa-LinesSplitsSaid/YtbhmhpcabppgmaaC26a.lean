/-
  Contracts of package lines' functions: the iterator over the lines; the longest one; whether they fit.
-/
import Derived.Test.YtbhmhpcabppgmaaRows
import Derived.Test.YtbhmhpcabppgmaaC01
import Derived.Test.YtbhmhpcabppgmaaItr
import Derived.Test.YtbhmhpcabppgmaaFirst
import Derived.Test.YtbhmhpcabppgmaaCutB
import Derived.Test.YtbhmhpcabppgmaaD26b
namespace Go.Proofs.Ytbhmhpcabppgmaa
open Go.RowKit Go.Shelf
set_option linter.unusedVariables false
attribute [local go_sem] Oper.semAt_some

/-- Where the loop over the lines stands. -/
def LnJ (b off len cap : Nat) (xs : List Int) (n₀ : Nat) (W : World) (J : List (LPn len) → World → Prop) (s : Value) (wr : World) : Prop :=
  ∃ p m c, ∃ pre : List (LPn len), ∃ a', s = .slice a' m c ∧ p + m = len ∧ (0 < m → p + c = cap ∧ a' = some ⟨b, off + p, none⟩) ∧ m ≤ c ∧ pre.length ≤ p ∧ Hid (valN xs pre ++ linL (xs.drop p) = linL xs) ∧ J pre wr ∧ Below n₀ W wr
theorem LnJ.mk {b off len cap : Nat} {xs : List Int} {n₀ : Nat} {W : World} {J : List (LPn len) → World → Prop} {wr : World} {p m c : Nat} {pre : List (LPn len)} {a' : Option Addr}
    (h1 : p + m = len) (h2 : 0 < m → p + c = cap ∧ a' = some ⟨b, off + p, none⟩) (h3 : m ≤ c) (h5 : pre.length ≤ p) (h6 : Hid (valN xs pre ++ linL (xs.drop p) = linL xs)) (h7 : J pre wr) (h8 : Below n₀ W wr) : LnJ b off len cap xs n₀ W J (.slice a' m c) wr :=
  ⟨p, m, c, pre, a', rfl, h1, h2, h3, h5, h6, h7, h8⟩

set_option maxRecDepth 100000 in
set_option maxHeartbeats 4000000 in
theorem each1_in (n l Bs n₀ : Nat) (hn : 1 ≤ n) (b off : Nat) (a : Option Addr) (len cap : Nat) (xs : List Int) (ha : 0 < len → a = some ⟨b, off, none⟩) (J Jx : List (LPn len) → World → Prop) (W : World)
    (hJa : AbidesFrom W.heap.size J) (hn₀ : n₀ ≤ W.heap.size) (w0 : World) (hw0 : w0.heap.size ≤ n₀) (hr : Reads .u8 w0 a len cap xs) (hN : len < 1000000) (hm : Mx w0) (hb0 : Below w0.heap.size w0 W)
    (hY : ∀ pre x W, J pre W → pre.length < len → YieldAt Fence.wide (n - 1) Try.prog l (encN b off cap x) W fun e W' =>
      (e = .returned (.bool true) ∧ J (pre ++ [x]) W' ∧ Below n₀ W W') ∨ (e = .returned (.bool false) ∧ Jx (pre ++ [x]) W'))
    (hBs : Boxed W Bs 22 (.slice a len cap)) (h0 : J [] W) :
    CallsIn Fence.wide n Try.prog 36 #[.func (.yield l) #[] #[], .pointer (some ⟨Bs, 0, none⟩)] W fun e W' => (∃ v, e = .returned v) ∧
      ((∃ ys, valN xs ys = linL xs ∧ J ys W') ∨ (∃ pre, valN xs pre <+: linL xs ∧ Jx pre W')) := by
  have hl := hr.len_le
  have hrm := hr.room
  have hsz := hr.size
  have HR := hid hr
  clear hr
  have hc0 := hBs.cell
  refine callsIn_of_wp Try.func36 rfl trivial ?_ rfl
  simp only [Try.ntmps36, List.size_toArray, List.length_cons, List.length_nil, Nat.reduceAdd, Nat.reduceSub, Array.replicate_succ, Array.replicate_zero, List.push_toArray, List.append_toArray, List.nil_append, List.cons_append]
  gi_wp2_with fail
  gi_loopw [3] (fun s wr => LnJ b off len cap xs n₀ W J s wr) (fun s _ => lenV s)
  case atStart => exact LnJ.mk (p := 0) (pre := []) (by omega) (fun h => ⟨by omega, ha h⟩) hrm (Nat.le_refl _) rfl h0 (Below.refl _ _)
  case round =>
    obtain ⟨p, m, c, pre, a', rfl, hpm, hpc, hmc, hpl, hps, hJs, hnx⟩ := hrel
    by_cases hlt : 0 < m
    · obtain ⟨hpc, rfl⟩ := hpc hlt
      have hp := HR.out.piece (l := p) (r := len) (by omega) (Nat.le_refl _)
      rw [ha (by omega), List.take_of_length_le (by omega), if_neg (by omega), Option.map_some, Addr.add_lit, show len - p = m by omega, show cap - p = c by omega] at hp
      have hbw := hb0.trans (hnx.mono hw0)
      have HRY := hid (hp.below hbw)
      have HMR := hid (hm.below hbw)
      have hpl2 : pre.length < len := by omega
      have kc := convB (P := Try.prog) (t := 22) (e := 5) Try.underlying22 Try.underlying5 wr wr.heap.size rfl
      have hls : (xs.drop p).length = m := by rw [List.length_drop]; omega
      rcases crI_cases hp.wf with ⟨hi, hnc⟩ | ⟨i, hi, hil, h13, h10, hnc⟩
      · have hopen := (linL_open hnc (by omega)).1
        have hnext := hps.out
        rw [hopen] at hnext
        have HI := hid hi
        obtain ⟨X, hX⟩ : ∃ X : LPn len, X.1 = (p, m) := ⟨⟨(p, m), by dsimp only; omega, by dsimp only; omega⟩, rfl⟩
        have HN : Hid (valN xs (pre ++ [X]) ++ linL (xs.drop len) = linL xs) := by
          unfold Hid
          rw [valN_snoc, hX, List.drop_of_length_le (by omega), linL_nil, List.append_nil, ← hnext]
          unfold pcN
          dsimp only
          rw [List.take_of_length_le (by omega)]
        have HF : Hid (valN xs (pre ++ [X]) <+: linL xs) := ⟨_, HN.out⟩
        have hE : encN b off cap X = #[.slice (some ⟨b, off + p, none⟩) m c] := by
          unfold encN
          rw [hX]
          dsimp only
          rw [show cap - p = c by omega]
        clear hps hnext hp hX hi hnc hopen hls
        gi_wp2_with (refine ⟨trivial, ?_⟩; gi_at_call 37; (with_reducible refine (callsIn_wide.2 (cutq_no _ _ _ _ _ _ rfl HRY.out hlt (by omega) HMR.out HI.out)).mono ?_); rintro e w1 ⟨rfl, hb1⟩; have hJ1 := abides_below hJa hJs hb1; have hn1 := hnx.trans (hb1.mono (Nat.le_trans hn₀ hnx.size)); obtain ⟨fn, tmps, assign, body, hy, hR⟩ := hY pre X _ hJ1 hpl2; rw [hE] at hy)
        refine hR.mono ?_
        rintro e W3 (⟨rfl, hJ3, hk3⟩ | ⟨rfl, hJx3⟩)
        · have hnx3 := hn1.trans hk3
          gi_wp2_with fail
          go_roundw
          case rel => exact LnJ.mk (p := len) (pre := pre ++ [X]) (by omega) (fun h => absurd h (Nat.lt_irrefl _)) (Nat.le_refl _) (by simp; omega) HN hJ3 hnx3
          case measure => simp [lenV]; omega
        · gi_wp2_with fail
          refine bodyPost_ret (results_none rfl _ _ _) rfl ?_
          exact ⟨⟨_, rfl⟩, .inr ⟨_, HF.out, hJx3⟩⟩
      · have hcut := (linL_cut hnc h13 h10).1
        rw [hls] at hil
        have hnext := hps.out
        rw [hcut, List.drop_drop] at hnext
        have HI := hid hi
        obtain ⟨X, hX⟩ : ∃ X : LPn len, X.1 = (p, i) := ⟨⟨(p, i), by dsimp only; omega, by dsimp only; omega⟩, rfl⟩
        have HN : Hid (valN xs (pre ++ [X]) ++ linL (xs.drop (p + (i + 2))) = linL xs) := by
          unfold Hid
          rw [valN_snoc, hX, ← hnext, List.append_assoc]
          rfl
        have HF : Hid (valN xs (pre ++ [X]) <+: linL xs) := ⟨_, HN.out⟩
        have hE : encN b off cap X = #[.slice (some ⟨b, off + p, none⟩) i c] := by
          unfold encN
          rw [hX]
          dsimp only
          rw [show cap - p = c by omega]
        obtain ⟨R, hR2⟩ : ∃ R, R = if c = i + 2 then (some ⟨b, off + p, none⟩ : Option Addr) else (some ⟨b, off + p, none⟩ : Option Addr).map (·.add (i + 2)) := ⟨_, rfl⟩
        obtain ⟨L, hL2⟩ : ∃ L, L = m - (i + 2) := ⟨_, rfl⟩
        obtain ⟨C, hC2⟩ : ∃ C, C = c - (i + 2) := ⟨_, rfl⟩
        have HR2 := hid hR2
        have HL2 := hid hL2
        have HC2 := hid hC2
        have hLm : L + 2 + i = m := by omega
        have hCm : C + 2 + i = c := by omega
        have hRa : 0 < L → R = some ⟨b, off + (p + (i + 2)), none⟩ := fun h => by
          rw [hR2, if_neg (by omega), Option.map_some, Addr.add_lit, Nat.add_assoc]
        clear hps hnext hp hX hi hnc hcut hls hR2 hL2 hC2 h13 h10
        gi_wp2_with (refine ⟨trivial, ?_⟩; gi_at_call 37; (with_reducible refine (callsIn_wide.2 (cutq_yes _ _ _ _ _ _ rfl HRY.out hlt (by omega) HMR.out i HI.out R HR2.out L C HL2.out HC2.out)).mono ?_); rintro e w1 ⟨rfl, hb1⟩; have hJ1 := abides_below hJa hJs hb1; have hn1 := hnx.trans (hb1.mono (Nat.le_trans hn₀ hnx.size)); obtain ⟨fn, tmps, assign, body, hy, hR⟩ := hY pre X _ hJ1 hpl2; rw [hE] at hy)
        refine hR.mono ?_
        rintro e W3 (⟨rfl, hJ3, hk3⟩ | ⟨rfl, hJx3⟩)
        · have hnx3 := hn1.trans hk3
          gi_wp2_with fail
          go_roundw
          case rel => exact LnJ.mk (p := p + (i + 2)) (pre := pre ++ [X]) (by omega) (fun h => ⟨by omega, hRa h⟩) (by omega) (by simp; omega) HN hJ3 hnx3
          case measure => simp [lenV]; omega
        · gi_wp2_with fail
          refine bodyPost_ret (results_none rfl _ _ _) rfl ?_
          exact ⟨⟨_, rfl⟩, .inr ⟨_, HF.out, hJx3⟩⟩
    · obtain rfl : m = 0 := by omega
      have hend : Hid (valN xs pre = linL xs) := by
        have h := hps.out
        rwa [List.drop_of_length_le (by omega), linL_nil, List.append_nil] at h
      gi_wp2_with fail
      go_end0
      exact ⟨⟨_, rfl⟩, .inl ⟨_, hend.out, hJs⟩⟩
set_option maxHeartbeats 1000000 in
theorem lines_each (n : Nat) (a : Option Addr) (len cap : Nat) (w : World) :
    CallsIn Fence.wide n Try.prog 25 #[.slice a len cap] w fun e w' => e = .returned (.func (.func 36) #[] #[.pointer (some ⟨w.heap.size, 0, none⟩)]) ∧ w' = w.alloc (.cells #[.slice a len cap] 22) := by
  refine callsIn_of_wp Try.func25 rfl trivial ?_ rfl
  simp only [Try.ntmps25, List.size_toArray, List.length_cons, List.length_nil, Nat.reduceAdd, Nat.reduceSub, Array.replicate_succ, Array.replicate_zero, List.push_toArray, List.append_toArray, List.nil_append, List.cons_append]
  gi_wp2
  go_ret
  exact ⟨rfl, rfl⟩
/-- The value that each hands back: all lines in their order; or a beginning, where a round has said 'no more'. -/
theorem each_stops (n Bs n₀ : Nat) (hn : 1 ≤ n) (b off : Nat) (a : Option Addr) (len cap : Nat) (xs : List Int) (ha : 0 < len → a = some ⟨b, off, none⟩) (w0 w : World) (hr : Reads .u8 w0 a len cap xs) (hN : len < 1000000) (hm : Mx w0) (hw0 : w0.heap.size ≤ n₀) (hn₀ : n₀ ≤ w.heap.size) (hb0 : Below w0.heap.size w0 w)
    (hlt : Bs < w.heap.size) (hBs : Boxed w Bs 22 (.slice a len cap)) :
    SeqStopsK Fence.wide n Try.prog 36 #[.pointer (some ⟨Bs, 0, none⟩)] (encN (L := len) b off cap) (Below n₀) (fun ys => valN xs ys = linL xs) (fun pre => valN xs pre <+: linL xs) len w := fun l J Jx W hW hJ _ hY h0 =>
  each1_in n l Bs n₀ hn b off a len cap xs ha J Jx W hJ (Nat.le_trans hn₀ hW.size) w0 hw0 hr hN hm (hb0.trans (hW.mono (Nat.le_trans hw0 hn₀))) hY ((hW.block Bs hlt).trans hBs) h0
theorem each_some {w : World} {a : Option Addr} {len cap : Nat} {xs : List Int} (hr : Reads .u8 w a len cap xs) : ∃ b off, 0 < len → a = some ⟨b, off, none⟩ := by
  by_cases h : 0 < len
  · obtain ⟨b, off, ha, _⟩ := hr.cell h
    exact ⟨b, off, fun _ => ha⟩
  · exact ⟨0, 0, fun h' => absurd h' h⟩
end Go.Proofs.Ytbhmhpcabppgmaa
