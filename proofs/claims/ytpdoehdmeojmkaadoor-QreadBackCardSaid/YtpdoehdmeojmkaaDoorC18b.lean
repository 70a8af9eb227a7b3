/-
  Contracts of package qpage's functions: what is laid is handed on piece by piece (those that the translation has).
-/
import Derived.Test.YtpdoehdmeojmkaaDoorC18a
import Derived.Test.YtpdoehdmeojmkaaDoorKeep
import Derived.Test.YtpdoehdmeojmkaaDoorFirst
import Derived.Shelf.Abstract
import Derived.RangeFuncBox
import Derived.Deep.RegionHeld3
import Derived.BigQuiet
namespace Go.Proofs.YtpdoehdmeojmkaaDoor
open Go.RowKit Go.Shelf
set_option linter.unusedVariables false

theorem lypQ_len (xs : List Int) : (lypQ xs 0).length ≤ 12 * xs.length + 3 := by
  have h1 := layS_len (brkL xs) false 0
  have h2 := brkS_len xs false
  unfold lypQ
  unfold brkL at h1 ⊢
  omega
/-- '[]byte("..")' of two, of three octets: what lies there. -/
theorem litq (w : World) (B : Nat) (hB : w.heap.size = B) (ys : List Int) (fz : Nat × Nat) (hm : ys.length ≤ maxLen) (hwf : ∀ x ∈ ys, (Lit.int .u8 x).wf = true) : Reads .u8 (w.alloc (.cells (ys.map (Value.int .u8)).toArray 5 fz)) (some ⟨B, 0, none⟩) ys.length ys.length ys ∧ Below w.heap.size w (w.alloc (.cells (ys.map (Value.int .u8)).toArray 5 fz)) :=
  ⟨Reads_litB .u8 5 fz w B hB ys hm hwf, (Below.refl _ _).alloc (Nat.le_refl _) _⟩
theorem Reads.keptFrom {S : Nat} {W W' : World} {a : Option Addr} {l c : Nat} {u : List Int} (h : Reads .u8 W a l c u) (hf : ∀ b off, a = some ⟨b, off, none⟩ → S ≤ b) (hs : W.heap.size ≤ W'.heap.size) (hk : ∀ b, S ≤ b → b < W.heap.size → W'.heap[b]? = W.heap[b]?) : Reads .u8 W' a l c u := by
  refine ⟨h.size, h.room, h.top, h.wf, fun hl => ?_⟩
  obtain ⟨b, off, ha, hlt, hc⟩ := h.cell hl
  refine ⟨b, off, ha, Nat.lt_of_lt_of_le hlt hs, fun i hi => ?_⟩
  rw [World.cell?_of_block (w := W) (hk b (hf b off ha) hlt)]
  exact hc i hi
set_option maxRecDepth 100000 in
set_option maxHeartbeats 4000000 in
theorem qpage_lay (N : FuncId) (p : Option Addr) (eN : ∀ args w, (callFunc N args).run Tryd.prog w = .ok (.enter N args) w) (J : List Int → Nat → World → Prop) (n₀ : Nat)
    (hJB : ∀ O S W W', J O S W → Below S W W' → J O S W')
    (hput : ∀ O u a l c S W, J O S W → S ≤ W.heap.size → Reads .u8 W a l c u → 0 < l → l ≤ 3 → O.length ≤ 100000000 → Calls Tryd.prog N #[.slice a l c, .pointer p] W fun e W' => (∃ v, e = .returned v) ∧ J (O ++ u) W'.heap.size W' ∧ (∀ b, S ≤ b → b < W.heap.size → W'.heap[b]? = W.heap[b]?) ∧ Below n₀ W W')
    (a : Option Addr) (len cap : Nat) (xs : List Int) (w0 W : World) (hr : Reads .u8 w0 a len cap xs) (hN : len < 1000000) (hw0 : w0.heap.size ≤ n₀) (hb0 : Below w0.heap.size w0 W) (hn₀ : n₀ ≤ W.heap.size) (hJ : J [] W.heap.size W) :
    Calls Tryd.prog 41 #[.slice a len cap, .func (.func N) #[] #[.pointer p]] W fun e W' => (∃ v, e = .returned v) ∧ J (lypQ xs 0) W'.heap.size W' ∧ Below n₀ W W' := by
  have HR := hid hr
  have hM := lypQ_len xs
  rw [hr.size] at hM
  have HJB := hid hJB
  have HPUT := hid hput
  clear hr hJB hput
  go_enter Tryd.func41, Tryd.ntmps41
  go_wp2
  go_loopw [0, 4] (fun s ln wr => ∃ a' m c' ys O, ∃ k : Nat, s = .slice a' m c' ∧ ln = .int .i64 k ∧ k ≤ 75 ∧ Reads .u8 w0 a' m c' ys ∧ J O wr.heap.size wr ∧ Below n₀ W wr ∧ Hid (O ++ lypQ ys k = lypQ xs 0)) (fun s _ _ => lenV s)
  case atStart => exact ⟨a, len, cap, xs, [], 0, rfl, rfl, Nat.zero_le _, HR.out, hJ, Below.refl _ _, rfl⟩
  case round =>
    obtain ⟨a', m, c', ys, O, k, rfl, rfl, hk, hry, hJs, hbel, hE⟩ := hrel
    have hys := hry.size
    have hrm := hry.room
    have htp := hry.len_le
    have hbel0 := hb0.trans (hbel.mono hw0)
    have HRY := hid (hry.below hbel0)
    have hOl := congrArg List.length hE.out
    rw [List.length_append] at hOl
    have hOb : O.length ≤ 50000000 := by omega
    have hn1 := Nat.le_trans hn₀ hbel.size
    clear hOl
    by_cases h0 : 0 < m
    · have hE1 := hE.out
      by_cases hb : 0 < brkN ys
      · rw [lypQ_hit hb] at hE1
        have hle := brkN_le ys
        obtain ⟨n, hn⟩ : ∃ n, n = brkN ys := ⟨_, rfl⟩
        rw [← hn] at hE1 hb hle
        have hpc := hry.piece (l := n) (r := m) (by omega) (Nat.le_refl _)
        rw [List.take_of_length_le (by omega)] at hpc
        have e1 : Hid ((O ++ [13, 10]) ++ lypQ (ys.drop n) 0 = lypQ xs 0) := by unfold Hid; rw [← hE1, List.append_assoc]
        have HN := hid hn
        have HPC := hid hpc
        rw [hys] at hle
        clear hE1 hE hn hpc hry hys
        go_wp2_with (first
          | (go_at_call 62; (with_reducible refine (qpage_breakLen _ _ _ ys _ HRY.out).mono ?_); rintro e w2 ⟨rfl, hb2⟩; rw [← HN.out]; have kc2 := convB (P := Tryd.prog) (t := 22) (e := 5) Tryd.underlying22 Tryd.underlying5 w2 w2.heap.size rfl; obtain ⟨hl2, hlb2⟩ := litq w2 _ rfl [13, 10] (2, 3) (by decide) (by decide); have hs2 := hb2.size; have hJ2 := HJB.out _ _ _ _ hJs (hb2.trans (hlb2.mono hs2)); have hn2 := hbel.trans ((hb2.trans (hlb2.mono hs2)).mono hn1))
          | (go_at_fn N; (refine (HPUT.out O [13, 10] _ 2 2 _ _ hJ2 (Nat.le_trans hs2 hlb2.size) hl2 (by omega) (by omega) (by omega)).mono ?_); rintro e w3 ⟨⟨v3, rfl⟩, hJ3, _, hb3⟩))
        have q1 : (0 : Int) ≤ (n : Int) := by omega
        have q2 : (n : Int) ≤ (m : Int) := by omega
        have hms : Hid (m - n < m) := by unfold Hid; omega
        by_cases hcn : c' = n
        all_goals
          first | (rw [if_pos hcn] at HPC; have q3 : (c' = n) = True := eq_true hcn; clear hcn) | (rw [if_neg hcn] at HPC; have q3 : (c' = n) = False := eq_false hcn; clear hcn)
          go_quiet (fail)
          go_wp2_with fail
          go_roundw
          case rel => exact ⟨_, _, _, _, _, 0, rfl, rfl, Nat.zero_le _, HPC.out, HJB.out _ _ _ _ hJ3 (Below.drewN (Below.refl _ _) _), Below.drewN (hn2.trans hb3) _, e1.out⟩
          case measure => exact hms.out
      · obtain ⟨b, off, x, rfl, _, hc, hx0, hx1, hx⟩ := HRY.out.get8 h0
        rw [Nat.add_zero] at hc
        have hyy := drop_one hx.out.1
        rw [List.drop_zero] at hyy
        have hb0 : brkN ys = 0 := by omega
        have hb1 := hb0
        rw [hyy] at hb1 hE1
        rw [lypQ_unit hb1] at hE1
        obtain ⟨n, hn⟩ : ∃ n, n = brkN (ys.drop 1) := ⟨_, rfl⟩
        rw [← hn] at hE1
        obtain ⟨e, he⟩ : ∃ e, decide (0 < n) = e := ⟨_, rfl⟩
        rw [he] at hE1
        have hu := unit_len x e
        obtain ⟨lu, hlu⟩ : ∃ lu, lu = (unitL x e).length := ⟨_, rfl⟩
        rw [← hlu] at hE1 hu
        have hpc := hry.piece (l := 1) (r := m) (by omega) (Nat.le_refl _)
        rw [List.take_of_length_le (by omega)] at hpc
        have HB := hid hb0
        have HN := hid hn
        have HE1 := hid hE1
        have HLU := hid hlu
        have hn1' : (0 : Int) ≤ 1 := by omega
        have hm1 : (1 : Int) ≤ (m : Int) := by omega
        have HMS : Hid (m - 1 < m) := by unfold Hid; omega
        clear hE1 hE hb0 hb1 hb hry hys hyy hn hlu
        by_cases hcn : c' = 1
        all_goals
          first | (rw [if_pos hcn] at hpc; have q3 : (c' = 1) = True := eq_true hcn; clear hcn) | (rw [if_neg hcn, Option.map_some, Addr.add_lit] at hpc; have q3 : (c' = 1) = False := eq_false hcn; clear hcn)
          have HPC := hid hpc
          clear hpc
          go_wp2_with (go_at_call 62; (with_reducible refine (qpage_breakLen _ _ _ ys _ HRY.out).mono ?_); rintro e w2 ⟨rfl, hb2⟩; rw [HB.out])
          have hc2 := ((HRY.out.below hb2).cellIs hx.out.1)
          rw [Nat.add_zero] at hc2
          have HP2 := hid ((HPC.out.below hbel0).below (below_drew hb2))
          go_region_held3 (fun W => W.cell? ⟨b, off, none⟩ = some (.int .u8 x)) (first | exact hc2 | exact hc3 | exact hc4) (first
            | (go_at_call 62; (with_reducible refine (qpage_breakLen _ _ _ (ys.drop 1) _ HP2.out).mono ?_); rintro e w3 ⟨rfl, hb3⟩; rw [← HN.out]; have hs3 := hb2.size; have hd3 := below_then (below_drew hb2) hb3; have hc3 := ((HRY.out.below hd3).cellIs hx.out.1); rw [Nat.add_zero] at hc3)
            | (go_at_call 63; (with_reducible refine (qpage_UnitF x e _ hx0 hx1).mono ?_); rintro _ w4 ⟨a4, c4, rfl, hr4, hf4, hb4⟩; rw [← HLU.out] at hr4; rw [← HLU.out]; have hd4 := below_then hd3 hb4; have hc4 := ((HRY.out.below hd4).cellIs hx.out.1); rw [Nat.add_zero] at hc4))
          have hbl4 := hbel.trans (hd4.mono hn1)
          have hs4 := hd4.size
          have hJ4 := HJB.out _ _ _ _ hJs hd4
          have hf4' : ∀ b off, a4 = some ⟨b, off, none⟩ → wr.heap.size ≤ b := fun b off h => Nat.le_trans hd3.size (hf4 b off h)
          have HF4 := hid hf4'
          have HR4 := hid hr4
          clear hf4 hf4' hr4 hc3 hc2 hc4 hb2 hb3 hb4 hd3
          by_cases hlong : 75 < k + lu
          · have hE2 := HE1.out
            rw [if_pos hlong] at hE2
            have e2 : Hid (((O ++ [61, 13, 10]) ++ unitL x e) ++ lypQ (ys.drop 1) lu = lypQ xs 0) := by unfold Hid; rw [← hE2]; simp only [List.append_assoc]
            have kc4 := convB (P := Tryd.prog) (t := 22) (e := 5) Tryd.underlying22 Tryd.underlying5 w4 w4.heap.size rfl
            obtain ⟨hl4, hlb4⟩ := litq w4 _ rfl [61, 13, 10] (3, 4) (by decide) (by decide)
            have hJ4' := HJB.out _ _ _ _ hJ4 (hlb4.mono hs4)
            have HR4' := hid (HR4.out.below hlb4)
            have hs4' := Nat.le_trans hs4 hlb4.size
            have hbl4' := hbl4.trans (hlb4.mono (Nat.le_trans hn1 hs4))
            have HO1 : Hid ((O ++ [61, 13, 10]).length ≤ 100000000) := by unfold Hid; simp; omega
            clear hE2
            go_wp2_with (first
              | (go_at_fn N; (refine (HPUT.out O [61, 13, 10] _ 3 3 _ _ hJ4' hs4' hl4 (by omega) (by omega) (by omega)).mono ?_); rintro e w5 ⟨⟨v5, rfl⟩, hJ5, hk5, hb5⟩; have HR5 := hid (HR4'.out.keptFrom HF4.out hb5.size hk5); have hbl5 := hbl4'.trans hb5)
              | (go_at_fn N; (refine (HPUT.out (O ++ [61, 13, 10]) (unitL x e) _ lu _ _ _ hJ5 (Nat.le_refl _) HR5.out (by omega) (by omega) HO1.out).mono ?_); rintro e w6 ⟨⟨v6, rfl⟩, hJ6, _, hb6⟩; have hbl6 := hbl5.trans hb6))
            have hq : IntKind.i64.wrap ((0 : Int) + (lu : Int)) = (lu : Int) := by rw [Int.zero_add]; exact IntWalk.i64_in _ (by omega)
            have hkk : Hid (lu ≤ 75) := by unfold Hid; omega
            go_quiet (fail)
            go_wp2_with fail
            go_roundw
            case rel => exact ⟨_, _, _, _, _, lu, rfl, rfl, hkk.out, HPC.out, HJB.out _ _ _ _ hJ6 (Below.drewN (Below.refl _ _) _), Below.drewN hbl6 _, e2.out⟩
            case measure => exact HMS.out
          · have hE2 := HE1.out
            rw [if_neg hlong] at hE2
            have e2 : Hid ((O ++ unitL x e) ++ lypQ (ys.drop 1) (k + lu) = lypQ xs 0) := by unfold Hid; rw [← hE2]; simp only [List.append_assoc]
            have hkl : ¬ ((75 : Int) < (k : Int) + (lu : Int)) := by omega
            clear hE2
            go_wp2_with (first
              | (go_at_fn N; (refine (HPUT.out O (unitL x e) _ lu _ _ _ hJ4 hs4 HR4.out (by omega) (by omega) (by omega)).mono ?_); rintro e w6 ⟨⟨v6, rfl⟩, hJ6, _, hb6⟩; have hbl6 := hbl4.trans hb6))
            have hq : IntKind.i64.wrap ((k : Int) + (lu : Int)) = ((k + lu : Nat) : Int) := by rw [Int.natCast_add]; exact IntWalk.i64_in _ (by omega)
            have hkk : Hid (k + lu ≤ 75) := by unfold Hid; omega
            go_quiet (fail)
            go_wp2_with fail
            go_roundw
            case rel => exact ⟨_, _, _, _, _, k + lu, rfl, rfl, hkk.out, HPC.out, HJB.out _ _ _ _ hJ6 (Below.drewN (Below.refl _ _) _), Below.drewN hbl6 _, e2.out⟩
            case measure => exact HMS.out
    · have hz : m = 0 := by omega
      subst hz
      obtain rfl : ys = [] := List.eq_nil_of_length_eq_zero hys
      have hE1 := hE.out
      rw [lypQ_nil] at hE1
      by_cases hk0 : 0 < k
      · rw [if_pos hk0] at hE1
        have HE := hid hE1
        have kc2 := convB (P := Tryd.prog) (t := 22) (e := 5) Tryd.underlying22 Tryd.underlying5 wr wr.heap.size rfl
        obtain ⟨hl2, hlb2⟩ := litq wr _ rfl [61, 13, 10] (3, 4) (by decide) (by decide)
        have hJ2 := HJB.out _ _ _ _ hJs hlb2
        have hn2 := hbel.trans (hlb2.mono hn1)
        clear hE1 hE
        go_wp2_with (first
          | (go_at_fn N; (refine (HPUT.out O [61, 13, 10] _ 3 3 _ _ hJ2 hlb2.size hl2 (by omega) (by omega) (by omega)).mono ?_); rintro e w3 ⟨⟨v3, rfl⟩, hJ3, _, hb3⟩))
        rw [HE.out] at hJ3
        go_end0
        exact ⟨⟨_, rfl⟩, hJ3, hn2.trans hb3⟩
      · rw [if_neg hk0, List.append_nil] at hE1
        subst hE1
        clear hE
        go_wp2_with fail
        go_end0
        exact ⟨⟨_, rfl⟩, hJs, hbel⟩
end Go.Proofs.YtpdoehdmeojmkaaDoor
