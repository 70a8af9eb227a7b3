/-
  Texts of ours laid together: C31a, ClnR.
-/
import Derived.Test.YtdglnpkkfkagaaaGreatRows
import Derived.Test.YtdglnpkkfkagaaaGreatZ42

/-! C31a -/
namespace Go.Proofs.YtdglnpkkfkagaaaGreat
open Go.RowKit Go.Shelf
set_option linter.unusedVariables false
attribute [local go_sem] Oper.semAt_some

/-- Where the loop over the pieces stands. -/
def PcJ (N K first : Int) (b off len cap : Nat) (xs : List Int) (n₀ B0 B1 : Nat) (t : TypeId) (W : World) (J : List (LPn len) → World → Prop) (r s : Value) (wr : World) : Prop :=
  ∃ p m c, ∃ R : Int, ∃ pre : List (LPn len), ∃ a', r = .int .i64 R ∧ s = .slice a' m c ∧ p + m = len ∧ (0 < m → p + c = cap ∧ a' = some ⟨b, off + p, none⟩) ∧ m ≤ c ∧ pre.length ≤ p ∧ Hid (valLn xs pre ++ cuyL N K (xs.drop p) R = cuyL N K xs first) ∧ (Lit.int .i64 R).wf = true ∧ J pre wr ∧ Keeps2 n₀ B0 B1 t W wr
theorem PcJ.mk {N K first : Int} {b off len cap : Nat} {xs : List Int} {n₀ B0 B1 : Nat} {t : TypeId} {W : World} {J : List (LPn len) → World → Prop} {wr : World} {p m c : Nat} {R : Int} {pre : List (LPn len)} {a' : Option Addr}
    (h1 : p + m = len) (h2 : 0 < m → p + c = cap ∧ a' = some ⟨b, off + p, none⟩) (h3 : m ≤ c) (h5 : pre.length ≤ p) (h6 : Hid (valLn xs pre ++ cuyL N K (xs.drop p) R = cuyL N K xs first)) (h9 : (Lit.int .i64 R).wf = true) (h7 : J pre wr) (h8 : Keeps2 n₀ B0 B1 t W wr) : PcJ N K first b off len cap xs n₀ B0 B1 t W J (.int .i64 R) (.slice a' m c) wr :=
  ⟨p, m, c, R, pre, a', rfl, rfl, h1, h2, h3, h5, h6, h9, h7, h8⟩

set_option maxRecDepth 100000 in
set_option maxHeartbeats 4000000 in
theorem pieces1_in (n l : Nat) (N K first : Int) (B0 B1 B2 B3 n₀ : Nat) (hn : 1 ≤ n) (b off : Nat) (a : Option Addr) (len cap : Nat) (xs : List Int) (ha : 0 < len → a = some ⟨b, off, none⟩) (J Jx : List (LPn len) → World → Prop) (W : World)
    (hJa : AbidesFrom W.heap.size J) (hn₀ : n₀ ≤ W.heap.size) (w0 : World) (hw0 : w0.heap.size ≤ n₀) (hr : Reads .i32 w0 a len cap xs) (hN : len < 100000) (hNw : (Lit.int .i64 N).wf = true) (hKw : (Lit.int .i64 K).wf = true) (hFw : (Lit.int .i64 first).wf = true) (hb0 : Below w0.heap.size w0 W)
    (hY : ∀ pre x W, J pre W → pre.length < len → YieldAt Fence.wide (n - 1) Tryz.prog l (encN b off cap x) W fun e W' =>
      (e = .returned (.bool true) ∧ J (pre ++ [x]) W' ∧ Keeps2 n₀ B0 B1 3 W W') ∨ (e = .returned (.bool false) ∧ Jx (pre ++ [x]) W'))
    (hB0 : Boxed W B0 3 (.int .i64 N)) (hB1 : Boxed W B1 3 (.int .i64 K)) (hB2 : Boxed W B2 23 (.slice a len cap)) (hB3 : Boxed W B3 3 (.int .i64 first)) (h0 : J [] W) :
    CallsIn Fence.wide n Tryz.prog 43 #[.func (.yield l) #[] #[], .pointer (some ⟨B3, 0, none⟩), .pointer (some ⟨B2, 0, none⟩), .pointer (some ⟨B0, 0, none⟩), .pointer (some ⟨B1, 0, none⟩)] W fun e W' => (∃ v, e = .returned v) ∧
      ((∃ ys, valLn xs ys = cuyL N K xs first ∧ J ys W') ∨ (∃ pre, valLn xs pre <+: cuyL N K xs first ∧ Jx pre W')) := by
  have hl := hr.len_le
  have hrm := hr.room
  have hsz := hr.size
  have HR := hid hr
  clear hr
  have HB0 := hid hB0
  have HB1 := hid hB1
  have hc2 := hB2.cell
  have hc3 := hB3.cell
  clear hB0 hB1
  refine callsIn_of_wp Tryz.func43 rfl trivial ?_ rfl
  simp only [Tryz.ntmps43, List.size_toArray, List.length_cons, List.length_nil, Nat.reduceAdd, Nat.reduceSub, Array.replicate_succ, Array.replicate_zero, List.push_toArray, List.append_toArray, List.nil_append, List.cons_append]
  gi_wp2_with fail
  gi_loopw [6, 7] (fun r s wr => PcJ N K first b off len cap xs n₀ B0 B1 3 W J r s wr) (fun _ s _ => lenV s)
  case atStart => exact PcJ.mk (p := 0) (pre := []) (by omega) (fun h => ⟨by omega, ha h⟩) hrm (Nat.le_refl _) rfl hFw h0 (Keeps2.refl _ _ _ _ _)
  case round =>
    obtain ⟨p, m, c, R, pre, a', rfl, rfl, hpm, hpc, hmc, hpl, hps, hRw, hJs, hnx⟩ := hrel
    clear hc2 hc3
    by_cases hlt : 0 < m
    · obtain ⟨hpc, rfl⟩ := hpc hlt
      have hp := HR.out.piece (l := p) (r := len) (by omega) (Nat.le_refl _)
      rw [ha (by omega), List.take_of_length_le (by omega), if_neg (by omega), Option.map_some, Addr.add_lit, show len - p = m by omega, show cap - p = c by omega] at hp
      have hnb := hnx.1.1
      have hbw := hb0.trans (hnb.mono hw0)
      have hc0 := (hnx.1.2 _ HB0.out).cell
      have hc1 := (hnx.2.2 _ HB1.out).cell
      have HP := hid (ewcost_Prefix N K _ _ _ (xs.drop p) R wr (hp.below hbw) (by omega) hNw hKw hRw)
      have hpl2 : pre.length < len := by omega
      have hls : (xs.drop p).length = m := by rw [List.length_drop]; omega
      have hne : xs.drop p ≠ [] := fun h => by rw [h, List.length_nil] at hls; omega
      have hPle := ewcP_le N K (xs.drop p) R
      rw [hls] at hPle
      have hnext := hps.out
      have hcy := fun h => cuyL_no (n := N) (k := K) (t := xs.drop p) (r := R) hne h
      have hcz := fun h => cuyL_on (n := N) (k := K) (t := xs.drop p) (r := R) hne h
      generalize ewcP N K (xs.drop p) R = P at *
      obtain ⟨X, hX⟩ : ∃ X : LPn len, X.1 = (p, P) := ⟨⟨(p, P), by dsimp only; omega, by dsimp only; omega⟩, rfl⟩
      have hE : encN b off cap X = #[.slice (some ⟨b, off + p, none⟩) P c] := by
        unfold encN
        rw [hX]
        dsimp only
        rw [show cap - p = c by omega]
      have p1 : (0 : Int) ≤ (P : Int) := by omega
      have p2 : (P : Int) ≤ (c : Int) := by omega
      have p3 : (P : Int) ≤ (m : Int) := by omega
      have p4 : (m : Int) ≤ (c : Int) := by omega
      have p5 : P ≤ c := by omega
      by_cases hP : P = 0
      · rw [hcy hP] at hnext
        have HN : Hid (valLn xs (pre ++ [X]) = cuyL N K xs first) := by
          unfold Hid
          rw [valLn_snoc, hX, ← hnext, hP]
          rfl
        have HF : Hid (valLn xs (pre ++ [X]) <+: cuyL N K xs first) := by rw [Hid, HN.out]; exact List.prefix_refl _
        have hP0 : ((P : Int) == 0) = true := by simp [hP]
        clear hps hnext hp hX hls hne hcy hcz hP hPle
        gi_wp2_with (refine ⟨trivial, ?_⟩; gi_at_call 44; (with_reducible refine (callsIn_wide.2 HP.out).mono ?_); rintro e w1 ⟨rfl, hb1⟩; have hJ1 := abides_below hJa hJs hb1; obtain ⟨fn, tmps, assign, body, hy, hR⟩ := hY pre X _ hJ1 hpl2; rw [hE] at hy)
        refine hR.mono ?_
        rintro e W3 (⟨rfl, hJ3, hk3⟩ | ⟨rfl, hJx3⟩)
        · gi_wp2_with fail
          refine bodyPost_ret (results_none rfl _ _ _) rfl ?_
          exact ⟨⟨_, rfl⟩, .inl ⟨_, HN.out, hJ3⟩⟩
        · gi_wp2_with fail
          refine bodyPost_ret (results_none rfl _ _ _) rfl ?_
          exact ⟨⟨_, rfl⟩, .inr ⟨_, HF.out, hJx3⟩⟩
      · rw [hcz hP, List.drop_drop] at hnext
        have HN : Hid (valLn xs (pre ++ [X]) ++ cuyL N K (xs.drop (p + P)) 75 = cuyL N K xs first) := by
          unfold Hid
          rw [valLn_snoc, hX, ← hnext, List.append_assoc]
          rfl
        have HF : Hid (valLn xs (pre ++ [X]) <+: cuyL N K xs first) := ⟨_, HN.out⟩
        have hP0 : ((P : Int) == 0) = false := by simpa using hP
        have hPp : 0 < P := by omega
        clear hps hnext hp hX hls hne hcy hcz hP hPle
        by_cases hc : c = P
        all_goals
          first | have r3 : (c = P) = True := eq_true hc | have r3 : (c = P) = False := eq_false hc
          have hcc := hid hc
          clear hc
          gi_wp2_with (refine ⟨trivial, ?_⟩; gi_at_call 44; (with_reducible refine (callsIn_wide.2 HP.out).mono ?_); rintro e w1 ⟨rfl, hb1⟩; have hJ1 := abides_below hJa hJs hb1; have hn1 := keeps2_t hnx (keeps2_below hb1 (Nat.le_trans hn₀ hnb.size)); obtain ⟨fn, tmps, assign, body, hy, hR⟩ := hY pre X _ hJ1 hpl2; rw [hE] at hy)
          refine hR.mono ?_
          rintro e W3 (⟨rfl, hJ3, hk3⟩ | ⟨rfl, hJx3⟩)
          · have hnx3 := keeps2_t hn1 hk3
            gi_wp2_with fail
            go_roundw
            case rel => exact PcJ.mk (p := p + P) (pre := pre ++ [X]) (by omega) (fun h => ⟨by have := hcc.out; omega, by first | rfl | (rw [Nat.add_assoc]) | (exfalso; have := hcc.out; omega)⟩) (by omega) (by simp; omega) HN (by decide) hJ3 hnx3
            case measure => simp [lenV]; omega
          · gi_wp2_with fail
            refine bodyPost_ret (results_none rfl _ _ _) rfl ?_
            exact ⟨⟨_, rfl⟩, .inr ⟨_, HF.out, hJx3⟩⟩
    · obtain rfl : m = 0 := by omega
      have hend : Hid (valLn xs pre = cuyL N K xs first) := by
        have h := hps.out
        rwa [List.drop_of_length_le (by omega), cuyL_nil, List.append_nil] at h
      gi_wp2_with fail
      go_end0
      exact ⟨⟨_, rfl⟩, .inl ⟨_, hend.out, hJs⟩⟩
set_option maxHeartbeats 1000000 in
theorem ewcut_pieces (n : Nat) (N K : Int) (a : Option Addr) (len cap : Nat) (first : Int) (w : World) :
    CallsIn Fence.wide n Tryz.prog 22 #[.int .i64 N, .int .i64 K, .slice a len cap, .int .i64 first] w fun e w' => e = .returned (.func (.func 43) #[] #[.pointer (some ⟨w.heap.size + 1 + 1 + 1, 0, none⟩), .pointer (some ⟨w.heap.size + 1 + 1, 0, none⟩), .pointer (some ⟨w.heap.size, 0, none⟩), .pointer (some ⟨w.heap.size + 1, 0, none⟩)]) ∧ w' = (((w.alloc (.cells #[.int .i64 N] 3)).alloc (.cells #[.int .i64 K] 3)).alloc (.cells #[.slice a len cap] 23)).alloc (.cells #[.int .i64 first] 3) := by
  refine callsIn_of_wp Tryz.func22 rfl trivial ?_ rfl
  simp only [Tryz.ntmps22, List.size_toArray, List.length_cons, List.length_nil, Nat.reduceAdd, Nat.reduceSub, Array.replicate_succ, Array.replicate_zero, List.push_toArray, List.append_toArray, List.nil_append, List.cons_append]
  gi_wp2
  go_ret
  exact ⟨rfl, rfl⟩
/-- The value that pieces hands back: all pieces in their order; or a beginning, where a round has said 'no more'. -/
theorem pieces_stops (n : Nat) (N K first : Int) (B0 B1 B2 B3 n₀ : Nat) (hn : 1 ≤ n) (b off : Nat) (a : Option Addr) (len cap : Nat) (xs : List Int) (ha : 0 < len → a = some ⟨b, off, none⟩) (w0 w : World) (hr : Reads .i32 w0 a len cap xs) (hN : len < 100000) (hNw : (Lit.int .i64 N).wf = true) (hKw : (Lit.int .i64 K).wf = true) (hFw : (Lit.int .i64 first).wf = true) (hw0 : w0.heap.size ≤ n₀) (hn₀ : n₀ ≤ w.heap.size) (hb0 : Below w0.heap.size w0 w)
    (hB0 : Boxed w B0 3 (.int .i64 N)) (hB1 : Boxed w B1 3 (.int .i64 K)) (hB2 : Boxed w B2 23 (.slice a len cap)) (hB3 : Boxed w B3 3 (.int .i64 first)) :
    SeqStopsK Fence.wide n Tryz.prog 43 #[.pointer (some ⟨B3, 0, none⟩), .pointer (some ⟨B2, 0, none⟩), .pointer (some ⟨B0, 0, none⟩), .pointer (some ⟨B1, 0, none⟩)] (encN (L := len) b off cap) (Keeps2 n₀ B0 B1 3) (fun ys => valLn xs ys = cuyL N K xs first) (fun pre => valLn xs pre <+: cuyL N K xs first) len w := fun l J Jx W hW hJ _ hY h0 =>
  pieces1_in n l N K first B0 B1 B2 B3 n₀ hn b off a len cap xs ha J Jx W hJ (Nat.le_trans hn₀ hW.size) w0 hw0 hr hN hNw hKw hFw (hb0.trans (hW.mono (Nat.le_trans hw0 hn₀))) hY (Boxed.below hB0 hW) (Boxed.below hB1 hW) (Boxed.below hB2 hW) (Boxed.below hB3 hW) h0
theorem reads_some {k : IntKind} {w : World} {a : Option Addr} {len cap : Nat} {xs : List Int} (hr : Reads k w a len cap xs) : ∃ b off, 0 < len → a = some ⟨b, off, none⟩ := by
  by_cases h : 0 < len
  · obtain ⟨b, off, ha, _⟩ := hr.cell h
    exact ⟨b, off, fun _ => ha⟩
  · exact ⟨0, 0, fun h' => absurd h' h⟩
end Go.Proofs.YtdglnpkkfkagaaaGreat

/-! ClnR -/
namespace Go.Proofs.YtdglnpkkfkagaaaGreat
open Go.RowKit
set_option linter.unusedVariables false

set_option maxHeartbeats 1000000 in
theorem slices_CloneR (a : Option Addr) (len cap : Nat) (xs : List Int) (w : World) (hr : Reads .i32 w a len cap xs) (hN : len < 100000000000) :
    Calls Tryz.prog 23 #[.slice a len cap] w fun e w' => ∃ a' c', e = .returned (.slice a' len c') ∧ Own .i32 21 w.heap.size w' (.slice a' len c') xs ∧ Below w.heap.size w w' := by
  have q22 : ∀ (w : World) (a : Option Addr) (n c n' c' : Nat), (binOp .eql 23 (.slice a n c) (.slice none n' c')).run Tryz.prog w = .ok (.bool a.isNone) w := fun w a n c n' c' => Lib.run_eql_slice_nil w _ _ a n c n' c' Tryz.underlying23
  cases a with
  | none =>
    have h0 : len = 0 := by
      rcases Nat.eq_zero_or_pos len with h0 | h0
      · exact h0
      · obtain ⟨_, _, ha, _⟩ := hr.cell h0; cases ha
    subst h0
    obtain rfl : xs = [] := List.eq_nil_of_length_eq_zero hr.size
    clear hr
    go_enter Tryz.func23, Tryz.ntmps23
    go_wp2
    go_ret
    exact ⟨_, _, rfl, Own.nil _ _ _ _, Below.refl _ _⟩
  | some p =>
    have h1 : Own .i32 21 w.heap.size (w.alloc (.cells #[] 21)) (.slice (some ⟨w.heap.size, 0, none⟩) 0 0) [] := by
      have := Own.lit .i32 21 w [] (by simp [maxLen]) (by decide)
      simpa using this
    have hb : Below w.heap.size w (w.alloc (.cells #[] 21)) := (Below.refl _ _).alloc (Nat.le_refl _) _
    have HR := hid (hr.below hb)
    have hsz := hr.size
    clear hr
    go_enter Tryz.func23, Tryz.ntmps23
    go_wp2_with (at_builtin; go_must (refine wpList_more CTR rfl _ _ rfl rfl rfl h1 hb HR.out (by simp; omega) ?_); intro v3 w3 ho3 hb3)
    rw [List.nil_append] at ho3
    obtain ⟨a', c', rfl, _⟩ := ho3.reads
    rw [hsz] at ho3
    go_ret
    exact ⟨a', c', by rw [← hsz]; rfl, ho3, hb3⟩
end Go.Proofs.YtdglnpkkfkagaaaGreat
