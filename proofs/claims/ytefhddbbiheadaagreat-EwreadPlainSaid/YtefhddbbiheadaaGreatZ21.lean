/-
  Texts of ours laid together: R29b.
-/
import Derived.StillTailTactics
import Derived.Deep.RegionHeld3
import Derived.Test.YtefhddbbiheadaaGreatZ20

/-! R29b -/
namespace Go.Proofs.YtefhddbbiheadaaGreat
open Go.RowKit
set_option linter.unusedVariables false

theorem rws5 {W : World} {a : Option Addr} {n c : Nat} {p0 p1 p2 p3 p4 : List Int} (h : Rws W a n c [p0, p1, p2, p3, p4]) :
    n = 5 ∧ ∃ b off, a = some ⟨b, off, none⟩ ∧ b < W.heap.size ∧ (∃ a0 l0 c0, W.cell? ⟨b, off, none⟩ = some (.slice a0 l0 c0) ∧ Reads .u8 W a0 l0 c0 p0) ∧ (∃ a0 l0 c0, W.cell? ⟨b, off + 1, none⟩ = some (.slice a0 l0 c0) ∧ Reads .u8 W a0 l0 c0 p1) ∧
      (∃ a0 l0 c0, W.cell? ⟨b, off + 2, none⟩ = some (.slice a0 l0 c0) ∧ Reads .u8 W a0 l0 c0 p2) ∧ (∃ a0 l0 c0, W.cell? ⟨b, off + 3, none⟩ = some (.slice a0 l0 c0) ∧ Reads .u8 W a0 l0 c0 p3) ∧ (∃ a0 l0 c0, W.cell? ⟨b, off + 4, none⟩ = some (.slice a0 l0 c0) ∧ Reads .u8 W a0 l0 c0 p4) := by
  have hn := h.size
  simp only [List.length_cons, List.length_nil] at hn
  obtain ⟨b, off, ha, hlt, hc⟩ := h.cell (by omega)
  exact ⟨by omega, b, off, ha, hlt, hc 0 p0 rfl, hc 1 p1 rfl, hc 2 p2 rfl, hc 3 p3 rfl, hc 4 p4 rfl⟩
theorem five_parts {L : List (List Int)} (h : L.length = 5) : ∃ p0 p1 p2 p3 p4, L = [p0, p1, p2, p3, p4] := by
  match L, h with
  | [p0, p1, p2, p3, p4], _ => exact ⟨p0, p1, p2, p3, p4, rfl⟩
theorem ew_no3 {xs : List Int} (h : ewForm (cutA xs) = false) : ewE xs = 3 ∧ ewN xs = [] ∧ ewK xs = 0 ∧ ewT xs = [] := by
  have hE : ewE xs = 3 := by unfold ewE; rw [h]; rfl
  exact ⟨hE, ewE_no (by rw [hE]; decide)⟩
theorem ew_no12 {xs : List Int} (h : ewForm (cutA xs) = true) (hl : 75 < xs.length) : ewE xs = 12 ∧ ewN xs = [] ∧ ewK xs = 0 ∧ ewT xs = [] := by
  have hE : ewE xs = 12 := by unfold ewE; rw [if_pos h, if_pos hl]
  exact ⟨hE, ewE_no (by rw [hE]; decide)⟩
theorem ew_yes {xs p1 p3 : List Int} {c : Int} (h : ewForm (cutA xs) = true) (hl : ¬ 75 < xs.length) (hc : cutA xs = [[61], p1, [c], p3, [61]]) : ewE xs = 0 ∧ ewN xs = p1 ∧ ewK xs = ewCd c ∧ ewT xs = p3 := by
  have hE : ewE xs = 0 := by unfold ewE; rw [if_pos h, if_neg hl]
  unfold ewN ewK ewT
  rw [if_pos hE, if_pos hE, if_pos hE, hc]
  exact ⟨hE, rfl, rfl, rfl⟩
theorem form_len {L : List (List Int)} (h : L.length ≠ 5) : ewForm L = false := by
  unfold ewForm
  split
  · exact absurd rfl h
  · rfl
theorem cntI_all {f : Int → Bool} {xs : List Int} : cntI f xs = xs.length ↔ xs.all f = true := by
  unfold cntI
  rw [List.all_eq_true]
  constructor
  · intro h x hx
    have h' : (xs.filter f).length = xs.length := by omega
    exact List.length_filter_eq_length_iff.1 h' x hx
  · intro h
    have : (xs.filter f).length = xs.length := List.length_filter_eq_length_iff.2 h
    omega
theorem strB61 : (strB [61]).toList = [61] := by rw [Go.ByteArray.toList_eq]; rfl
theorem size_setB (w : World) (B i : Nat) (v : Value) : (w.setCell ⟨B, i, none⟩ v).heap.size = w.heap.size := by simp [World.setCell]
/-- Octets stay when a cell of a block is written that holds none. -/
theorem Reads.beside {W : World} {a : Option Addr} {l c : Nat} {xs : List Int} (h : Reads .u8 W a l c xs) {B : Nat} {T : TypeId} {vs : Array Value} (hB : Blk W B T vs) (hv : ∀ (j : Nat) (x : Int), vs[j]? ≠ some (.int .u8 x)) {i : Nat} {u : Value} : Reads .u8 (W.setCell ⟨B, i, none⟩ u) a l c xs := by
  refine ⟨h.size, h.room, h.top, h.wf, fun hl => ?_⟩
  obtain ⟨b, off, ha, hlt, hc⟩ := h.cell hl
  have hne : b ≠ B := by
    rintro rfl
    have h0 := hc 0 hl
    rw [cell_of_row _ _ _ _ _ _ hB] at h0
    exact hv _ _ h0
  exact ⟨b, off, ha, by rw [size_setB]; exact hlt, fun j hj => (World.cell?_of_block (Below.heap_setCell _ _ _ _ hne)).trans (hc j hj)⟩
theorem wd_no {a0 a1 : Option Addr} {l0 c0 l1 c1 : Nat} {n : Int} : ∀ (j : Nat) (x : Int), (#[.slice a0 l0 c0, .int .i64 n, .slice a1 l1 c1] : Array Value)[j]? ≠ some (.int .u8 x) := by
  intro j x h
  match j, h with
  | 0, h => simp at h
  | 1, h => simp at h
  | 2, h => simp at h
  | j + 3, h => simp at h
/-- What Parse answers. -/
def ParP (xs : List Int) (w : World) (e : Ending) (w' : World) : Prop := ∃ a1 l1 c1 a2 l2 c2, e = .returned (.tuple #[.agg #[.slice a1 l1 c1, .int .i64 (ewK xs), .slice a2 l2 c2], .int .i64 (ewE xs)]) ∧ Reads .u8 w' a1 l1 c1 (ewN xs) ∧ Reads .u8 w' a2 l2 c2 (ewT xs) ∧ Below w.heap.size w w'
/-- The block that holds the answer, and what the call has been told. -/
theorem par_set {w W : World} {T : TypeId} (hb : Below w.heap.size w W) (B : Blk W w.heap.size T #[.slice none 0 0, .int .i64 0, .slice none 0 0]) (v0 v1 v2 : Value) :
    Blk (((W.setCell ⟨w.heap.size, 0, none⟩ v0).setCell ⟨w.heap.size, 1, none⟩ v1).setCell ⟨w.heap.size, 2, none⟩ v2) w.heap.size T #[v0, v1, v2] ∧ Below w.heap.size w (((W.setCell ⟨w.heap.size, 0, none⟩ v0).setCell ⟨w.heap.size, 1, none⟩ v1).setCell ⟨w.heap.size, 2, none⟩ v2) :=
  ⟨((B.set 0 v0).set 1 v1).set 2 v2, ((hb.setCell (p := ⟨w.heap.size, 0, none⟩) (Nat.le_refl _) v0).setCell (p := ⟨w.heap.size, 1, none⟩) (Nat.le_refl _) v1).setCell (p := ⟨w.heap.size, 2, none⟩) (Nat.le_refl _) v2⟩
set_option maxRecDepth 100000 in
set_option maxHeartbeats 4000000 in
theorem par_a (a : Option Addr) (len cap : Nat) (xs : List Int) (w : World) (hr : Reads .u8 w a len cap xs) (hN : len < 10000000) (h5 : (cutA xs).length ≠ 5) :
    Calls Tryz.prog 37 #[.slice a len cap] w (ParP xs w) := by
  obtain ⟨hE, hEN, hEK, hET⟩ := ew_no3 (form_len h5)
  unfold ParP
  rw [hE, hEN, hEK, hET]
  have hsz := hr.size
  have hal := (Below.refl w.heap.size w).alloc (Nat.le_refl _) (.cells #[.slice none 0 0, .int .i64 0, .slice none 0 0] 59)
  have hC := ref29_cut a len cap xs _ (hr.below hal) hN
  have HC := hid hC
  have H5 := hid h5
  clear hr h5 hE hEN hEK hET hC hsz
  go_enter Tryz.func37, Tryz.ntmps37
  go_wp2_with (go_at_call 57; (with_reducible refine HC.out.mono ?_); rintro e w1 ⟨a1, n1, k1, rfl, r1, hb1⟩; have hw1 := hal.trans (hb1.mono hal.size); have B1 := (Blk.new w 59 #[.slice none 0 0, .int .i64 0, .slice none 0 0]).below hb1 (by simp); have d0 := B1.cell (i := 0) rfl; have d1 := B1.cell (i := 1) rfl; have d2 := B1.cell (i := 2) rfl; have f0 := B1.frozen 0; have f1 := B1.frozen 1; have f2 := B1.frozen 2; have hq : ((n1 : Int) != 5) = true := (by have := r1.size; have := H5.out; simp; omega))
  have hset := par_set (hw1) B1 (.slice none 0 0) (.int .i64 0) (.slice none 0 0)
  obtain ⟨B3, hbw⟩ := hset
  have e0 := B3.cell (i := 0) rfl
  have e1 := B3.cell (i := 1) rfl
  have e2 := B3.cell (i := 2) rfl
  generalize (((w1).setCell ⟨w.heap.size, 0, none⟩ (.slice none 0 0)).setCell ⟨w.heap.size, 1, none⟩ (.int .i64 0)).setCell ⟨w.heap.size, 2, none⟩ (.slice none 0 0) = W3 at *
  refine bodyPost_ret (v := .tuple #[.agg #[.slice none 0 0, .int .i64 0, .slice none 0 0], .int .i64 3]) (by simp [results, Tryz.f37, go_sem, e0, e1, e2]) rfl ?_
  exact ⟨none, 0, 0, none, 0, 0, rfl, Reads.nil _ _ _ _ (Nat.zero_le _), Reads.nil _ _ _ _ (Nat.zero_le _), hbw⟩
set_option maxRecDepth 100000 in
set_option maxHeartbeats 4000000 in
theorem par_b1 (a : Option Addr) (len cap : Nat) (xs : List Int) (w : World) (hr : Reads .u8 w a len cap xs) (hN : len < 10000000) (p0 p1 p2 p3 p4 : List Int) (hL : cutA xs = [p0, p1, p2, p3, p4]) (h : p0 ≠ [61]) :
    Calls Tryz.prog 37 #[.slice a len cap] w (ParP xs w) := by
  have hF : ewForm (cutA xs) = false := by rw [hL]; unfold ewForm; simp [h]
  obtain ⟨hE, hEN, hEK, hET⟩ := ew_no3 hF
  unfold ParP
  rw [hE, hEN, hEK, hET]
  have hsz := hr.size
  have hal := (Below.refl w.heap.size w).alloc (Nat.le_refl _) (.cells #[.slice none 0 0, .int .i64 0, .slice none 0 0] 59)
  have hC := ref29_cut a len cap xs _ (hr.below hal) hN
  rw [hL] at hC
  have HC := hid hC
  have HX := hid h
  clear h
  clear hr hE hEN hEK hET hC hL hF
  go_enter Tryz.func37, Tryz.ntmps37
  go_wp2_with (first
    | (go_at_call 57; (with_reducible refine HC.out.mono ?_); rintro e w1 ⟨a1, n1, k1, rfl, r1, hb1⟩; have hw1 := hal.trans (hb1.mono hal.size); have B1 := (Blk.new w 59 #[.slice none 0 0, .int .i64 0, .slice none 0 0]).below hb1 (by simp); have d0 := B1.cell (i := 0) rfl; have d1 := B1.cell (i := 1) rfl; have d2 := B1.cell (i := 2) rfl; have f0 := B1.frozen 0; have f1 := B1.frozen 1; have f2 := B1.frozen 2; (obtain ⟨rfl, b1, o1, rfl, hlt1, ⟨a0, l0, c0, y0, z0⟩, ⟨a2, l2, c2, y1, z1⟩, ⟨a3, l3, c3, y2, z2⟩, ⟨a4, l4, c4, y3, z3⟩, ⟨a5, l5, c5, y4, z4⟩⟩ := rws5 r1); clear r1; have g0 := z0.string (P := Tryz.prog) Tryz.underlying22 Tryz.underlying5 Tryz.underlying9; have g4 := z4.string (P := Tryz.prog) Tryz.underlying22 Tryz.underlying5 Tryz.underlying9; have E0 : ¬ (strB p0).toList = [61] := (by have h := strB_eq (xs := p0) (ys := [61]) (fun x hx => wf_u8 (z0.wf x hx)) (by intro y hy; simp at hy; subst hy; decide); rw [decide_eq_false HX.out, beq_eq_false_iff_ne, strB61] at h; exact h)))
  have hset := par_set (hw1) B1 (.slice none 0 0) (.int .i64 0) (.slice none 0 0)
  obtain ⟨B3, hbw⟩ := hset
  have e0 := B3.cell (i := 0) rfl
  have e1 := B3.cell (i := 1) rfl
  have e2 := B3.cell (i := 2) rfl
  generalize (((w1).setCell ⟨w.heap.size, 0, none⟩ (.slice none 0 0)).setCell ⟨w.heap.size, 1, none⟩ (.int .i64 0)).setCell ⟨w.heap.size, 2, none⟩ (.slice none 0 0) = W3 at *
  refine bodyPost_ret (v := .tuple #[.agg #[.slice none 0 0, .int .i64 0, .slice none 0 0], .int .i64 3]) (by simp [results, Tryz.f37, go_sem, e0, e1, e2]) rfl ?_
  exact ⟨none, 0, 0, none, 0, 0, rfl, Reads.nil _ _ _ _ (Nat.zero_le _), Reads.nil _ _ _ _ (Nat.zero_le _), hbw⟩
set_option maxRecDepth 100000 in
set_option maxHeartbeats 4000000 in
theorem par_b2 (a : Option Addr) (len cap : Nat) (xs : List Int) (w : World) (hr : Reads .u8 w a len cap xs) (hN : len < 10000000) (p1 p2 p3 p4 : List Int) (hL : cutA xs = [[61], p1, p2, p3, p4]) (h : p4 ≠ [61]) :
    Calls Tryz.prog 37 #[.slice a len cap] w (ParP xs w) := by
  have hF : ewForm (cutA xs) = false := by rw [hL]; unfold ewForm; simp [h]
  obtain ⟨hE, hEN, hEK, hET⟩ := ew_no3 hF
  unfold ParP
  rw [hE, hEN, hEK, hET]
  have hsz := hr.size
  have hal := (Below.refl w.heap.size w).alloc (Nat.le_refl _) (.cells #[.slice none 0 0, .int .i64 0, .slice none 0 0] 59)
  have hC := ref29_cut a len cap xs _ (hr.below hal) hN
  rw [hL] at hC
  have HC := hid hC
  have HX := hid h
  clear h
  clear hr hE hEN hEK hET hC hL hF
  go_enter Tryz.func37, Tryz.ntmps37
  go_wp2_with (first
    | (go_at_call 57; (with_reducible refine HC.out.mono ?_); rintro e w1 ⟨a1, n1, k1, rfl, r1, hb1⟩; have hw1 := hal.trans (hb1.mono hal.size); have B1 := (Blk.new w 59 #[.slice none 0 0, .int .i64 0, .slice none 0 0]).below hb1 (by simp); have d0 := B1.cell (i := 0) rfl; have d1 := B1.cell (i := 1) rfl; have d2 := B1.cell (i := 2) rfl; have f0 := B1.frozen 0; have f1 := B1.frozen 1; have f2 := B1.frozen 2; (obtain ⟨rfl, b1, o1, rfl, hlt1, ⟨a0, l0, c0, y0, z0⟩, ⟨a2, l2, c2, y1, z1⟩, ⟨a3, l3, c3, y2, z2⟩, ⟨a4, l4, c4, y3, z3⟩, ⟨a5, l5, c5, y4, z4⟩⟩ := rws5 r1); clear r1; have g0 := z0.string (P := Tryz.prog) Tryz.underlying22 Tryz.underlying5 Tryz.underlying9; have g4 := z4.string (P := Tryz.prog) Tryz.underlying22 Tryz.underlying5 Tryz.underlying9; rw [show strB [61] = { data := #[61] } from rfl] at g0; have E4 : ¬ (strB p4).toList = [61] := (by have h := strB_eq (xs := p4) (ys := [61]) (fun x hx => wf_u8 (z4.wf x hx)) (by intro y hy; simp at hy; subst hy; decide); rw [decide_eq_false HX.out, beq_eq_false_iff_ne, strB61] at h; exact h)))
  have hset := par_set (hw1) B1 (.slice none 0 0) (.int .i64 0) (.slice none 0 0)
  obtain ⟨B3, hbw⟩ := hset
  have e0 := B3.cell (i := 0) rfl
  have e1 := B3.cell (i := 1) rfl
  have e2 := B3.cell (i := 2) rfl
  generalize (((w1).setCell ⟨w.heap.size, 0, none⟩ (.slice none 0 0)).setCell ⟨w.heap.size, 1, none⟩ (.int .i64 0)).setCell ⟨w.heap.size, 2, none⟩ (.slice none 0 0) = W3 at *
  refine bodyPost_ret (v := .tuple #[.agg #[.slice none 0 0, .int .i64 0, .slice none 0 0], .int .i64 3]) (by simp [results, Tryz.f37, go_sem, e0, e1, e2]) rfl ?_
  exact ⟨none, 0, 0, none, 0, 0, rfl, Reads.nil _ _ _ _ (Nat.zero_le _), Reads.nil _ _ _ _ (Nat.zero_le _), hbw⟩
set_option maxRecDepth 100000 in
set_option maxHeartbeats 4000000 in
theorem par_b3 (a : Option Addr) (len cap : Nat) (xs : List Int) (w : World) (hr : Reads .u8 w a len cap xs) (hN : len < 10000000) (p1 p2 p3 : List Int) (hL : cutA xs = [[61], p1, p2, p3, [61]]) (h : p2.length ≠ 1) :
    Calls Tryz.prog 37 #[.slice a len cap] w (ParP xs w) := by
  have hF : ewForm (cutA xs) = false := by rw [hL]; unfold ewForm; simp [h]
  obtain ⟨hE, hEN, hEK, hET⟩ := ew_no3 hF
  unfold ParP
  rw [hE, hEN, hEK, hET]
  have hsz := hr.size
  have hal := (Below.refl w.heap.size w).alloc (Nat.le_refl _) (.cells #[.slice none 0 0, .int .i64 0, .slice none 0 0] 59)
  have hC := ref29_cut a len cap xs _ (hr.below hal) hN
  rw [hL] at hC
  have HC := hid hC
  have HX := hid h
  clear h
  clear hr hE hEN hEK hET hC hL hF
  go_enter Tryz.func37, Tryz.ntmps37
  go_wp2_with (first
    | (go_at_call 57; (with_reducible refine HC.out.mono ?_); rintro e w1 ⟨a1, n1, k1, rfl, r1, hb1⟩; have hw1 := hal.trans (hb1.mono hal.size); have B1 := (Blk.new w 59 #[.slice none 0 0, .int .i64 0, .slice none 0 0]).below hb1 (by simp); have d0 := B1.cell (i := 0) rfl; have d1 := B1.cell (i := 1) rfl; have d2 := B1.cell (i := 2) rfl; have f0 := B1.frozen 0; have f1 := B1.frozen 1; have f2 := B1.frozen 2; (obtain ⟨rfl, b1, o1, rfl, hlt1, ⟨a0, l0, c0, y0, z0⟩, ⟨a2, l2, c2, y1, z1⟩, ⟨a3, l3, c3, y2, z2⟩, ⟨a4, l4, c4, y3, z3⟩, ⟨a5, l5, c5, y4, z4⟩⟩ := rws5 r1); clear r1; have g0 := z0.string (P := Tryz.prog) Tryz.underlying22 Tryz.underlying5 Tryz.underlying9; have g4 := z4.string (P := Tryz.prog) Tryz.underlying22 Tryz.underlying5 Tryz.underlying9; rw [show strB [61] = { data := #[61] } from rfl] at g0; rw [show strB [61] = { data := #[61] } from rfl] at g4; have hq : ((l3 : Int) != 1) = true := (by have := z2.size; have := HX.out; simp; omega)))
  have hset := par_set (hw1) B1 (.slice none 0 0) (.int .i64 0) (.slice none 0 0)
  obtain ⟨B3, hbw⟩ := hset
  have e0 := B3.cell (i := 0) rfl
  have e1 := B3.cell (i := 1) rfl
  have e2 := B3.cell (i := 2) rfl
  generalize (((w1).setCell ⟨w.heap.size, 0, none⟩ (.slice none 0 0)).setCell ⟨w.heap.size, 1, none⟩ (.int .i64 0)).setCell ⟨w.heap.size, 2, none⟩ (.slice none 0 0) = W3 at *
  refine bodyPost_ret (v := .tuple #[.agg #[.slice none 0 0, .int .i64 0, .slice none 0 0], .int .i64 3]) (by simp [results, Tryz.f37, go_sem, e0, e1, e2]) rfl ?_
  exact ⟨none, 0, 0, none, 0, 0, rfl, Reads.nil _ _ _ _ (Nat.zero_le _), Reads.nil _ _ _ _ (Nat.zero_le _), hbw⟩
set_option maxRecDepth 100000 in
set_option maxHeartbeats 4000000 in
theorem par_b4 (a : Option Addr) (len cap : Nat) (xs : List Int) (w : World) (hr : Reads .u8 w a len cap xs) (hN : len < 10000000) (p1 p3 : List Int) (c : Int) (hL : cutA xs = [[61], p1, [c], p3, [61]]) (h : ewCd c = 0) :
    Calls Tryz.prog 37 #[.slice a len cap] w (ParP xs w) := by
  have hF : ewForm (cutA xs) = false := by rw [hL]; unfold ewForm; simp [h]
  obtain ⟨hE, hEN, hEK, hET⟩ := ew_no3 hF
  unfold ParP
  rw [hE, hEN, hEK, hET]
  have hsz := hr.size
  have hal := (Below.refl w.heap.size w).alloc (Nat.le_refl _) (.cells #[.slice none 0 0, .int .i64 0, .slice none 0 0] 59)
  have hC := ref29_cut a len cap xs _ (hr.below hal) hN
  rw [hL] at hC
  have HC := hid hC
  clear hr hE hEN hEK hET hC hL hF
  go_enter Tryz.func37, Tryz.ntmps37
  go_wp2_with (first
    | (go_at_call 57; (with_reducible refine HC.out.mono ?_); rintro e w1 ⟨a1, n1, k1, rfl, r1, hb1⟩; have hw1 := hal.trans (hb1.mono hal.size); have B1 := (Blk.new w 59 #[.slice none 0 0, .int .i64 0, .slice none 0 0]).below hb1 (by simp); have d0 := B1.cell (i := 0) rfl; have d1 := B1.cell (i := 1) rfl; have d2 := B1.cell (i := 2) rfl; have f0 := B1.frozen 0; have f1 := B1.frozen 1; have f2 := B1.frozen 2; (obtain ⟨rfl, b1, o1, rfl, hlt1, ⟨a0, l0, c0, y0, z0⟩, ⟨a2, l2, c2, y1, z1⟩, ⟨a3, l3, c3, y2, z2⟩, ⟨a4, l4, c4, y3, z3⟩, ⟨a5, l5, c5, y4, z4⟩⟩ := rws5 r1); clear r1; have g0 := z0.string (P := Tryz.prog) Tryz.underlying22 Tryz.underlying5 Tryz.underlying9; have g4 := z4.string (P := Tryz.prog) Tryz.underlying22 Tryz.underlying5 Tryz.underlying9; rw [show strB [61] = { data := #[61] } from rfl] at g0; rw [show strB [61] = { data := #[61] } from rfl] at g4; (obtain rfl : 1 = l3 := z2.size); (obtain ⟨b3, o3, x3, rfl, _, hx3, u0, u1, hxx⟩ := z2.get8 (i := 0) (by decide)); (obtain rfl : c = x3 := by simpa using hxx.out.1); rw [Nat.add_zero] at hx3; clear hxx; have HCD := hid (fun W => ref29_code c W u0 u1); rw [h] at HCD)
    | (go_at_call 58; (with_reducible refine (HCD.out _).mono ?_); rintro e w' ⟨rfl, rfl⟩))
  have hset := par_set (hw1) B1 (.slice none 0 0) (.int .i64 0) (.slice none 0 0)
  obtain ⟨B3, hbw⟩ := hset
  have e0 := B3.cell (i := 0) rfl
  have e1 := B3.cell (i := 1) rfl
  have e2 := B3.cell (i := 2) rfl
  generalize (((w1).setCell ⟨w.heap.size, 0, none⟩ (.slice none 0 0)).setCell ⟨w.heap.size, 1, none⟩ (.int .i64 0)).setCell ⟨w.heap.size, 2, none⟩ (.slice none 0 0) = W3 at *
  refine bodyPost_ret (v := .tuple #[.agg #[.slice none 0 0, .int .i64 0, .slice none 0 0], .int .i64 3]) (by simp [results, Tryz.f37, go_sem, e0, e1, e2]) rfl ?_
  exact ⟨none, 0, 0, none, 0, 0, rfl, Reads.nil _ _ _ _ (Nat.zero_le _), Reads.nil _ _ _ _ (Nat.zero_le _), hbw⟩
set_option maxRecDepth 100000 in
set_option maxHeartbeats 4000000 in
theorem par_b5 (a : Option Addr) (len cap : Nat) (xs : List Int) (w : World) (hr : Reads .u8 w a len cap xs) (hN : len < 10000000) (p1 p3 : List Int) (c : Int) (hL : cutA xs = [[61], p1, [c], p3, [61]]) (hcd : ewCd c ≠ 0) (h : p1 = []) :
    Calls Tryz.prog 37 #[.slice a len cap] w (ParP xs w) := by
  have hF : ewForm (cutA xs) = false := by rw [hL]; unfold ewForm; simp [h]
  obtain ⟨hE, hEN, hEK, hET⟩ := ew_no3 hF
  unfold ParP
  rw [hE, hEN, hEK, hET]
  have hsz := hr.size
  have hal := (Below.refl w.heap.size w).alloc (Nat.le_refl _) (.cells #[.slice none 0 0, .int .i64 0, .slice none 0 0] 59)
  have hC := ref29_cut a len cap xs _ (hr.below hal) hN
  rw [hL] at hC
  have HC := hid hC
  obtain ⟨V, hCV⟩ : ∃ V, V = ewCd c := ⟨_, rfl⟩
  rw [← hCV] at hcd
  have hcv : (V == 0) = false := by simpa using hcd
  clear hcd
  subst h
  clear hr hE hEN hEK hET hC hL hF
  go_enter Tryz.func37, Tryz.ntmps37
  go_wp2_with (first
    | (go_at_call 57; (with_reducible refine HC.out.mono ?_); rintro e w1 ⟨a1, n1, k1, rfl, r1, hb1⟩; have hw1 := hal.trans (hb1.mono hal.size); have B1 := (Blk.new w 59 #[.slice none 0 0, .int .i64 0, .slice none 0 0]).below hb1 (by simp); have d0 := B1.cell (i := 0) rfl; have d1 := B1.cell (i := 1) rfl; have d2 := B1.cell (i := 2) rfl; have f0 := B1.frozen 0; have f1 := B1.frozen 1; have f2 := B1.frozen 2; (obtain ⟨rfl, b1, o1, rfl, hlt1, ⟨a0, l0, c0, y0, z0⟩, ⟨a2, l2, c2, y1, z1⟩, ⟨a3, l3, c3, y2, z2⟩, ⟨a4, l4, c4, y3, z3⟩, ⟨a5, l5, c5, y4, z4⟩⟩ := rws5 r1); clear r1; have g0 := z0.string (P := Tryz.prog) Tryz.underlying22 Tryz.underlying5 Tryz.underlying9; have g4 := z4.string (P := Tryz.prog) Tryz.underlying22 Tryz.underlying5 Tryz.underlying9; rw [show strB [61] = { data := #[61] } from rfl] at g0; rw [show strB [61] = { data := #[61] } from rfl] at g4; (obtain rfl : 1 = l3 := z2.size); (obtain ⟨b3, o3, x3, rfl, _, hx3, u0, u1, hxx⟩ := z2.get8 (i := 0) (by decide)); (obtain rfl : c = x3 := by simpa using hxx.out.1); rw [Nat.add_zero] at hx3; clear hxx; have HCD := hid (fun W => ref29_code c W u0 u1); rw [← hCV] at HCD; (obtain rfl : 0 = l2 := z1.size))
    | (go_at_call 58; (with_reducible refine (HCD.out _).mono ?_); rintro e w' ⟨rfl, rfl⟩))
  go_quiet (fail)
  go_wp2_with fail
  have hset := par_set (hw1.trans (Below.drewN (Below.refl _ _) nq)) (B1.drewN nq) (.slice none 0 0) (.int .i64 0) (.slice none 0 0)
  obtain ⟨B3, hbw⟩ := hset
  have e0 := B3.cell (i := 0) rfl
  have e1 := B3.cell (i := 1) rfl
  have e2 := B3.cell (i := 2) rfl
  generalize (((w1.drewN nq).setCell ⟨w.heap.size, 0, none⟩ (.slice none 0 0)).setCell ⟨w.heap.size, 1, none⟩ (.int .i64 0)).setCell ⟨w.heap.size, 2, none⟩ (.slice none 0 0) = W3 at *
  refine bodyPost_ret (v := .tuple #[.agg #[.slice none 0 0, .int .i64 0, .slice none 0 0], .int .i64 3]) (by simp [results, Tryz.f37, go_sem, e0, e1, e2]) rfl ?_
  exact ⟨none, 0, 0, none, 0, 0, rfl, Reads.nil _ _ _ _ (Nat.zero_le _), Reads.nil _ _ _ _ (Nat.zero_le _), hbw⟩
set_option maxRecDepth 100000 in
set_option maxHeartbeats 4000000 in
theorem par_b6 (a : Option Addr) (len cap : Nat) (xs : List Int) (w : World) (hr : Reads .u8 w a len cap xs) (hN : len < 10000000) (p1 p3 : List Int) (c : Int) (hL : cutA xs = [[61], p1, [c], p3, [61]]) (hcd : ewCd c ≠ 0) (h1 : p1 ≠ []) (ha1 : ¬ p1.all (isB 64) = true) :
    Calls Tryz.prog 37 #[.slice a len cap] w (ParP xs w) := by
  have hF : ewForm (cutA xs) = false := by rw [hL]; unfold ewForm; simp [ha1]
  obtain ⟨hE, hEN, hEK, hET⟩ := ew_no3 hF
  unfold ParP
  rw [hE, hEN, hEK, hET]
  have hsz := hr.size
  have hal := (Below.refl w.heap.size w).alloc (Nat.le_refl _) (.cells #[.slice none 0 0, .int .i64 0, .slice none 0 0] 59)
  have hC := ref29_cut a len cap xs _ (hr.below hal) hN
  rw [hL] at hC
  have HC := hid hC
  obtain ⟨V, hCV⟩ : ∃ V, V = ewCd c := ⟨_, rfl⟩
  rw [← hCV] at hcd
  have hcv : (V == 0) = false := by simpa using hcd
  clear hcd
  have H1 := hid h1
  have HA1 := hid ha1
  clear h1 ha1
  clear hr hE hEN hEK hET hC hL hF
  go_enter Tryz.func37, Tryz.ntmps37
  go_wp2_with (first
    | (go_at_call 57; (with_reducible refine HC.out.mono ?_); rintro e w1 ⟨a1, n1, k1, rfl, r1, hb1⟩; have hw1 := hal.trans (hb1.mono hal.size); have B1 := (Blk.new w 59 #[.slice none 0 0, .int .i64 0, .slice none 0 0]).below hb1 (by simp); have d0 := B1.cell (i := 0) rfl; have d1 := B1.cell (i := 1) rfl; have d2 := B1.cell (i := 2) rfl; have f0 := B1.frozen 0; have f1 := B1.frozen 1; have f2 := B1.frozen 2; (obtain ⟨rfl, b1, o1, rfl, hlt1, ⟨a0, l0, c0, y0, z0⟩, ⟨a2, l2, c2, y1, z1⟩, ⟨a3, l3, c3, y2, z2⟩, ⟨a4, l4, c4, y3, z3⟩, ⟨a5, l5, c5, y4, z4⟩⟩ := rws5 r1); clear r1; have g0 := z0.string (P := Tryz.prog) Tryz.underlying22 Tryz.underlying5 Tryz.underlying9; have g4 := z4.string (P := Tryz.prog) Tryz.underlying22 Tryz.underlying5 Tryz.underlying9; rw [show strB [61] = { data := #[61] } from rfl] at g0; rw [show strB [61] = { data := #[61] } from rfl] at g4; (obtain rfl : 1 = l3 := z2.size); (obtain ⟨b3, o3, x3, rfl, _, hx3, u0, u1, hxx⟩ := z2.get8 (i := 0) (by decide)); (obtain rfl : c = x3 := by simpa using hxx.out.1); rw [Nat.add_zero] at hx3; clear hxx; have HCD := hid (fun W => ref29_code c W u0 u1); rw [← hCV] at HCD; have hp1 : ((l2 : Int) == 0) = false := (by have := z1.size; have := List.length_pos_iff.2 H1.out; simp; omega); have HN1 := hid (fun n => count_r a2 l2 c2 p1 64 (w1.drewN n) (z1.below (Below.drewN (Below.refl _ _) n))); (obtain ⟨K1, hK1⟩ : ∃ K1, K1 = cntI (isB 64) p1 := ⟨_, rfl⟩); rw [← hK1] at HN1; have hk1 : (K1 != (l2 : Int)) = true := (by have h := fun e => HA1.out (cntI_all.1 e); rw [← hK1, z1.size] at h; simpa using h); clear hK1)
    | (go_at_call 58; (with_reducible refine (HCD.out _).mono ?_); rintro e w' ⟨rfl, rfl⟩))
  go_quiet ((first | (go_at_call 59; with_reducible exact Calls.quiet_of_same (Calls.flip (HN1.out _)))))
  go_wp2_with fail
  have hset := par_set (hw1.trans (Below.drewN (Below.refl _ _) nq)) (B1.drewN nq) (.slice none 0 0) (.int .i64 0) (.slice none 0 0)
  obtain ⟨B3, hbw⟩ := hset
  have e0 := B3.cell (i := 0) rfl
  have e1 := B3.cell (i := 1) rfl
  have e2 := B3.cell (i := 2) rfl
  generalize (((w1.drewN nq).setCell ⟨w.heap.size, 0, none⟩ (.slice none 0 0)).setCell ⟨w.heap.size, 1, none⟩ (.int .i64 0)).setCell ⟨w.heap.size, 2, none⟩ (.slice none 0 0) = W3 at *
  refine bodyPost_ret (v := .tuple #[.agg #[.slice none 0 0, .int .i64 0, .slice none 0 0], .int .i64 3]) (by simp [results, Tryz.f37, go_sem, e0, e1, e2]) rfl ?_
  exact ⟨none, 0, 0, none, 0, 0, rfl, Reads.nil _ _ _ _ (Nat.zero_le _), Reads.nil _ _ _ _ (Nat.zero_le _), hbw⟩
set_option maxRecDepth 100000 in
set_option maxHeartbeats 4000000 in
theorem par_b7 (a : Option Addr) (len cap : Nat) (xs : List Int) (w : World) (hr : Reads .u8 w a len cap xs) (hN : len < 10000000) (p1 p3 : List Int) (c : Int) (hL : cutA xs = [[61], p1, [c], p3, [61]]) (hcd : ewCd c ≠ 0) (h1 : p1 ≠ []) (ha1 : p1.all (isB 64) = true) (h3 : p3 = []) :
    Calls Tryz.prog 37 #[.slice a len cap] w (ParP xs w) := by
  have hF : ewForm (cutA xs) = false := by rw [hL]; unfold ewForm; simp [h3]
  obtain ⟨hE, hEN, hEK, hET⟩ := ew_no3 hF
  unfold ParP
  rw [hE, hEN, hEK, hET]
  have hsz := hr.size
  have hal := (Below.refl w.heap.size w).alloc (Nat.le_refl _) (.cells #[.slice none 0 0, .int .i64 0, .slice none 0 0] 59)
  have hC := ref29_cut a len cap xs _ (hr.below hal) hN
  rw [hL] at hC
  have HC := hid hC
  obtain ⟨V, hCV⟩ : ∃ V, V = ewCd c := ⟨_, rfl⟩
  rw [← hCV] at hcd
  have hcv : (V == 0) = false := by simpa using hcd
  clear hcd
  have H1 := hid h1
  have HA1 := hid ha1
  clear h1 ha1
  subst h3
  clear hr hE hEN hEK hET hC hL hF
  go_enter Tryz.func37, Tryz.ntmps37
  go_wp2_with (first
    | (go_at_call 57; (with_reducible refine HC.out.mono ?_); rintro e w1 ⟨a1, n1, k1, rfl, r1, hb1⟩; have hw1 := hal.trans (hb1.mono hal.size); have B1 := (Blk.new w 59 #[.slice none 0 0, .int .i64 0, .slice none 0 0]).below hb1 (by simp); have d0 := B1.cell (i := 0) rfl; have d1 := B1.cell (i := 1) rfl; have d2 := B1.cell (i := 2) rfl; have f0 := B1.frozen 0; have f1 := B1.frozen 1; have f2 := B1.frozen 2; (obtain ⟨rfl, b1, o1, rfl, hlt1, ⟨a0, l0, c0, y0, z0⟩, ⟨a2, l2, c2, y1, z1⟩, ⟨a3, l3, c3, y2, z2⟩, ⟨a4, l4, c4, y3, z3⟩, ⟨a5, l5, c5, y4, z4⟩⟩ := rws5 r1); clear r1; have g0 := z0.string (P := Tryz.prog) Tryz.underlying22 Tryz.underlying5 Tryz.underlying9; have g4 := z4.string (P := Tryz.prog) Tryz.underlying22 Tryz.underlying5 Tryz.underlying9; rw [show strB [61] = { data := #[61] } from rfl] at g0; rw [show strB [61] = { data := #[61] } from rfl] at g4; (obtain rfl : 1 = l3 := z2.size); (obtain ⟨b3, o3, x3, rfl, _, hx3, u0, u1, hxx⟩ := z2.get8 (i := 0) (by decide)); (obtain rfl : c = x3 := by simpa using hxx.out.1); rw [Nat.add_zero] at hx3; clear hxx; have HCD := hid (fun W => ref29_code c W u0 u1); rw [← hCV] at HCD; have hp1 : ((l2 : Int) == 0) = false := (by have := z1.size; have := List.length_pos_iff.2 H1.out; simp; omega); have HN1 := hid (fun n => count_r a2 l2 c2 p1 64 (w1.drewN n) (z1.below (Below.drewN (Below.refl _ _) n))); have hk1 : cntI (isB 64) p1 = (l2 : Int) := (by rw [cntI_all.2 HA1.out, z1.size]); rw [hk1] at HN1; clear hk1; (obtain rfl : 0 = l4 := z3.size))
    | (go_at_call 58; (with_reducible refine (HCD.out _).mono ?_); rintro e w' ⟨rfl, rfl⟩))
  go_quiet ((first | (go_at_call 59; with_reducible exact Calls.quiet_of_same (Calls.flip (HN1.out _)))))
  go_wp2_with fail
  have hset := par_set (hw1.trans (Below.drewN (Below.refl _ _) nq)) (B1.drewN nq) (.slice none 0 0) (.int .i64 0) (.slice none 0 0)
  obtain ⟨B3, hbw⟩ := hset
  have e0 := B3.cell (i := 0) rfl
  have e1 := B3.cell (i := 1) rfl
  have e2 := B3.cell (i := 2) rfl
  generalize (((w1.drewN nq).setCell ⟨w.heap.size, 0, none⟩ (.slice none 0 0)).setCell ⟨w.heap.size, 1, none⟩ (.int .i64 0)).setCell ⟨w.heap.size, 2, none⟩ (.slice none 0 0) = W3 at *
  refine bodyPost_ret (v := .tuple #[.agg #[.slice none 0 0, .int .i64 0, .slice none 0 0], .int .i64 3]) (by simp [results, Tryz.f37, go_sem, e0, e1, e2]) rfl ?_
  exact ⟨none, 0, 0, none, 0, 0, rfl, Reads.nil _ _ _ _ (Nat.zero_le _), Reads.nil _ _ _ _ (Nat.zero_le _), hbw⟩
set_option maxRecDepth 100000 in
set_option maxHeartbeats 4000000 in
theorem par_b8 (a : Option Addr) (len cap : Nat) (xs : List Int) (w : World) (hr : Reads .u8 w a len cap xs) (hN : len < 10000000) (p1 p3 : List Int) (c : Int) (hL : cutA xs = [[61], p1, [c], p3, [61]]) (hcd : ewCd c ≠ 0) (h1 : p1 ≠ []) (ha1 : p1.all (isB 64) = true) (h3 : p3 ≠ []) (ha3 : ¬ p3.all (isB 4) = true) :
    Calls Tryz.prog 37 #[.slice a len cap] w (ParP xs w) := by
  have hF : ewForm (cutA xs) = false := by rw [hL]; unfold ewForm; simp [ha3]
  obtain ⟨hE, hEN, hEK, hET⟩ := ew_no3 hF
  unfold ParP
  rw [hE, hEN, hEK, hET]
  have hsz := hr.size
  have hal := (Below.refl w.heap.size w).alloc (Nat.le_refl _) (.cells #[.slice none 0 0, .int .i64 0, .slice none 0 0] 59)
  have hC := ref29_cut a len cap xs _ (hr.below hal) hN
  rw [hL] at hC
  have HC := hid hC
  obtain ⟨V, hCV⟩ : ∃ V, V = ewCd c := ⟨_, rfl⟩
  rw [← hCV] at hcd
  have hcv : (V == 0) = false := by simpa using hcd
  clear hcd
  have H1 := hid h1
  have HA1 := hid ha1
  have H3 := hid h3
  have HA3 := hid ha3
  clear h1 ha1 h3 ha3
  clear hr hE hEN hEK hET hC hL hF
  go_enter Tryz.func37, Tryz.ntmps37
  go_wp2_with (first
    | (go_at_call 57; (with_reducible refine HC.out.mono ?_); rintro e w1 ⟨a1, n1, k1, rfl, r1, hb1⟩; have hw1 := hal.trans (hb1.mono hal.size); have B1 := (Blk.new w 59 #[.slice none 0 0, .int .i64 0, .slice none 0 0]).below hb1 (by simp); have d0 := B1.cell (i := 0) rfl; have d1 := B1.cell (i := 1) rfl; have d2 := B1.cell (i := 2) rfl; have f0 := B1.frozen 0; have f1 := B1.frozen 1; have f2 := B1.frozen 2; (obtain ⟨rfl, b1, o1, rfl, hlt1, ⟨a0, l0, c0, y0, z0⟩, ⟨a2, l2, c2, y1, z1⟩, ⟨a3, l3, c3, y2, z2⟩, ⟨a4, l4, c4, y3, z3⟩, ⟨a5, l5, c5, y4, z4⟩⟩ := rws5 r1); clear r1; have g0 := z0.string (P := Tryz.prog) Tryz.underlying22 Tryz.underlying5 Tryz.underlying9; have g4 := z4.string (P := Tryz.prog) Tryz.underlying22 Tryz.underlying5 Tryz.underlying9; rw [show strB [61] = { data := #[61] } from rfl] at g0; rw [show strB [61] = { data := #[61] } from rfl] at g4; (obtain rfl : 1 = l3 := z2.size); (obtain ⟨b3, o3, x3, rfl, _, hx3, u0, u1, hxx⟩ := z2.get8 (i := 0) (by decide)); (obtain rfl : c = x3 := by simpa using hxx.out.1); rw [Nat.add_zero] at hx3; clear hxx; have HCD := hid (fun W => ref29_code c W u0 u1); rw [← hCV] at HCD; have hp1 : ((l2 : Int) == 0) = false := (by have := z1.size; have := List.length_pos_iff.2 H1.out; simp; omega); have HN1 := hid (fun n => count_r a2 l2 c2 p1 64 (w1.drewN n) (z1.below (Below.drewN (Below.refl _ _) n))); have hk1 : cntI (isB 64) p1 = (l2 : Int) := (by rw [cntI_all.2 HA1.out, z1.size]); rw [hk1] at HN1; clear hk1; have hp3 : ((l4 : Int) == 0) = false := (by have := z3.size; have := List.length_pos_iff.2 H3.out; simp; omega); have HN3 := hid (fun n => count_r a4 l4 c4 p3 4 (w1.drewN n) (z3.below (Below.drewN (Below.refl _ _) n))); (obtain ⟨K3, hK3⟩ : ∃ K3, K3 = cntI (isB 4) p3 := ⟨_, rfl⟩); rw [← hK3] at HN3; have hk3 : (K3 != (l4 : Int)) = true := (by have h := fun e => HA3.out (cntI_all.1 e); rw [← hK3, z3.size] at h; simpa using h); clear hK3)
    | (go_at_call 58; (with_reducible refine (HCD.out _).mono ?_); rintro e w' ⟨rfl, rfl⟩))
  go_quiet ((first | (go_at_call 59; with_reducible exact Calls.quiet_of_same (Calls.flip (HN1.out _))) | (go_at_call 59; with_reducible exact Calls.quiet_of_same (Calls.flip (HN3.out _)))))
  go_wp2_with fail
  have hset := par_set (hw1.trans (Below.drewN (Below.refl _ _) nq)) (B1.drewN nq) (.slice none 0 0) (.int .i64 0) (.slice none 0 0)
  obtain ⟨B3, hbw⟩ := hset
  have e0 := B3.cell (i := 0) rfl
  have e1 := B3.cell (i := 1) rfl
  have e2 := B3.cell (i := 2) rfl
  generalize (((w1.drewN nq).setCell ⟨w.heap.size, 0, none⟩ (.slice none 0 0)).setCell ⟨w.heap.size, 1, none⟩ (.int .i64 0)).setCell ⟨w.heap.size, 2, none⟩ (.slice none 0 0) = W3 at *
  refine bodyPost_ret (v := .tuple #[.agg #[.slice none 0 0, .int .i64 0, .slice none 0 0], .int .i64 3]) (by simp [results, Tryz.f37, go_sem, e0, e1, e2]) rfl ?_
  exact ⟨none, 0, 0, none, 0, 0, rfl, Reads.nil _ _ _ _ (Nat.zero_le _), Reads.nil _ _ _ _ (Nat.zero_le _), hbw⟩
set_option maxRecDepth 100000 in
set_option maxHeartbeats 4000000 in
theorem par_b9 (a : Option Addr) (len cap : Nat) (xs : List Int) (w : World) (hr : Reads .u8 w a len cap xs) (hN : len < 10000000) (p1 p3 : List Int) (c : Int) (hL : cutA xs = [[61], p1, [c], p3, [61]]) (hcd : ewCd c ≠ 0) (h1 : p1 ≠ []) (ha1 : p1.all (isB 64) = true) (h3 : p3 ≠ []) (ha3 : p3.all (isB 4) = true) (hl : 75 < xs.length) :
    Calls Tryz.prog 37 #[.slice a len cap] w (ParP xs w) := by
  have hF : ewForm (cutA xs) = true := by rw [hL]; unfold ewForm; simp [hcd, h1, h3, ha1, ha3]
  obtain ⟨hE, hEN, hEK, hET⟩ := ew_no12 hF hl
  unfold ParP
  rw [hE, hEN, hEK, hET]
  have hsz := hr.size
  have hal := (Below.refl w.heap.size w).alloc (Nat.le_refl _) (.cells #[.slice none 0 0, .int .i64 0, .slice none 0 0] 59)
  have hC := ref29_cut a len cap xs _ (hr.below hal) hN
  rw [hL] at hC
  have HC := hid hC
  obtain ⟨V, hCV⟩ : ∃ V, V = ewCd c := ⟨_, rfl⟩
  rw [← hCV] at hcd
  have hcv : (V == 0) = false := by simpa using hcd
  clear hcd
  have H1 := hid h1
  have HA1 := hid ha1
  have H3 := hid h3
  have HA3 := hid ha3
  clear h1 ha1 h3 ha3
  rw [hsz] at hl
  clear hr hE hEN hEK hET hC hL hF
  go_enter Tryz.func37, Tryz.ntmps37
  go_wp2_with (first
    | (go_at_call 57; (with_reducible refine HC.out.mono ?_); rintro e w1 ⟨a1, n1, k1, rfl, r1, hb1⟩; have hw1 := hal.trans (hb1.mono hal.size); have B1 := (Blk.new w 59 #[.slice none 0 0, .int .i64 0, .slice none 0 0]).below hb1 (by simp); have d0 := B1.cell (i := 0) rfl; have d1 := B1.cell (i := 1) rfl; have d2 := B1.cell (i := 2) rfl; have f0 := B1.frozen 0; have f1 := B1.frozen 1; have f2 := B1.frozen 2; (obtain ⟨rfl, b1, o1, rfl, hlt1, ⟨a0, l0, c0, y0, z0⟩, ⟨a2, l2, c2, y1, z1⟩, ⟨a3, l3, c3, y2, z2⟩, ⟨a4, l4, c4, y3, z3⟩, ⟨a5, l5, c5, y4, z4⟩⟩ := rws5 r1); clear r1; have g0 := z0.string (P := Tryz.prog) Tryz.underlying22 Tryz.underlying5 Tryz.underlying9; have g4 := z4.string (P := Tryz.prog) Tryz.underlying22 Tryz.underlying5 Tryz.underlying9; rw [show strB [61] = { data := #[61] } from rfl] at g0; rw [show strB [61] = { data := #[61] } from rfl] at g4; (obtain rfl : 1 = l3 := z2.size); (obtain ⟨b3, o3, x3, rfl, _, hx3, u0, u1, hxx⟩ := z2.get8 (i := 0) (by decide)); (obtain rfl : c = x3 := by simpa using hxx.out.1); rw [Nat.add_zero] at hx3; clear hxx; have HCD := hid (fun W => ref29_code c W u0 u1); rw [← hCV] at HCD; have hp1 : ((l2 : Int) == 0) = false := (by have := z1.size; have := List.length_pos_iff.2 H1.out; simp; omega); have HN1 := hid (fun n => count_r a2 l2 c2 p1 64 (w1.drewN n) (z1.below (Below.drewN (Below.refl _ _) n))); have hk1 : cntI (isB 64) p1 = (l2 : Int) := (by rw [cntI_all.2 HA1.out, z1.size]); rw [hk1] at HN1; clear hk1; have hp3 : ((l4 : Int) == 0) = false := (by have := z3.size; have := List.length_pos_iff.2 H3.out; simp; omega); have HN3 := hid (fun n => count_r a4 l4 c4 p3 4 (w1.drewN n) (z3.below (Below.drewN (Below.refl _ _) n))); have hk3 : cntI (isB 4) p3 = (l4 : Int) := (by rw [cntI_all.2 HA3.out, z3.size]); rw [hk3] at HN3; clear hk3)
    | (go_at_call 58; (with_reducible refine (HCD.out _).mono ?_); rintro e w' ⟨rfl, rfl⟩))
  go_quiet ((first | (go_at_call 59; with_reducible exact Calls.quiet_of_same (Calls.flip (HN1.out _))) | (go_at_call 59; with_reducible exact Calls.quiet_of_same (Calls.flip (HN3.out _)))))
  go_wp2_with fail
  have hset := par_set (hw1.trans (Below.drewN (Below.refl _ _) nq)) (B1.drewN nq) (.slice none 0 0) (.int .i64 0) (.slice none 0 0)
  obtain ⟨B3, hbw⟩ := hset
  have e0 := B3.cell (i := 0) rfl
  have e1 := B3.cell (i := 1) rfl
  have e2 := B3.cell (i := 2) rfl
  generalize (((w1.drewN nq).setCell ⟨w.heap.size, 0, none⟩ (.slice none 0 0)).setCell ⟨w.heap.size, 1, none⟩ (.int .i64 0)).setCell ⟨w.heap.size, 2, none⟩ (.slice none 0 0) = W3 at *
  refine bodyPost_ret (v := .tuple #[.agg #[.slice none 0 0, .int .i64 0, .slice none 0 0], .int .i64 12]) (by simp [results, Tryz.f37, go_sem, e0, e1, e2]) rfl ?_
  exact ⟨none, 0, 0, none, 0, 0, rfl, Reads.nil _ _ _ _ (Nat.zero_le _), Reads.nil _ _ _ _ (Nat.zero_le _), hbw⟩
set_option maxRecDepth 100000 in
set_option maxHeartbeats 4000000 in
theorem par_b0 (a : Option Addr) (len cap : Nat) (xs : List Int) (w : World) (hr : Reads .u8 w a len cap xs) (hN : len < 10000000) (p1 p3 : List Int) (c : Int) (hL : cutA xs = [[61], p1, [c], p3, [61]]) (hcd : ewCd c ≠ 0) (h1 : p1 ≠ []) (ha1 : p1.all (isB 64) = true) (h3 : p3 ≠ []) (ha3 : p3.all (isB 4) = true) (hl : ¬ 75 < xs.length) :
    Calls Tryz.prog 37 #[.slice a len cap] w (ParP xs w) := by
  have hF : ewForm (cutA xs) = true := by rw [hL]; unfold ewForm; simp [hcd, h1, h3, ha1, ha3]
  obtain ⟨hE, hEN, hEK, hET⟩ := ew_yes hF hl hL
  unfold ParP
  rw [hE, hEN, hEK, hET]
  have hsz := hr.size
  have hal := (Below.refl w.heap.size w).alloc (Nat.le_refl _) (.cells #[.slice none 0 0, .int .i64 0, .slice none 0 0] 59)
  have hC := ref29_cut a len cap xs _ (hr.below hal) hN
  rw [hL] at hC
  have HC := hid hC
  obtain ⟨V, hCV⟩ : ∃ V, V = ewCd c := ⟨_, rfl⟩
  rw [← hCV] at hcd
  have hcv : (V == 0) = false := by simpa using hcd
  clear hcd
  have H1 := hid h1
  have HA1 := hid ha1
  have H3 := hid h3
  have HA3 := hid ha3
  clear h1 ha1 h3 ha3
  rw [hsz] at hl
  clear hr hE hEN hEK hET hC hL hF
  go_enter Tryz.func37, Tryz.ntmps37
  go_wp2_with (first
    | (go_at_call 57; (with_reducible refine HC.out.mono ?_); rintro e w1 ⟨a1, n1, k1, rfl, r1, hb1⟩; have hw1 := hal.trans (hb1.mono hal.size); have B1 := (Blk.new w 59 #[.slice none 0 0, .int .i64 0, .slice none 0 0]).below hb1 (by simp); have d0 := B1.cell (i := 0) rfl; have d1 := B1.cell (i := 1) rfl; have d2 := B1.cell (i := 2) rfl; have f0 := B1.frozen 0; have f1 := B1.frozen 1; have f2 := B1.frozen 2; (obtain ⟨rfl, b1, o1, rfl, hlt1, ⟨a0, l0, c0, y0, z0⟩, ⟨a2, l2, c2, y1, z1⟩, ⟨a3, l3, c3, y2, z2⟩, ⟨a4, l4, c4, y3, z3⟩, ⟨a5, l5, c5, y4, z4⟩⟩ := rws5 r1); clear r1; have g0 := z0.string (P := Tryz.prog) Tryz.underlying22 Tryz.underlying5 Tryz.underlying9; have g4 := z4.string (P := Tryz.prog) Tryz.underlying22 Tryz.underlying5 Tryz.underlying9; rw [show strB [61] = { data := #[61] } from rfl] at g0; rw [show strB [61] = { data := #[61] } from rfl] at g4; (obtain rfl : 1 = l3 := z2.size); (obtain ⟨b3, o3, x3, rfl, _, hx3, u0, u1, hxx⟩ := z2.get8 (i := 0) (by decide)); (obtain rfl : c = x3 := by simpa using hxx.out.1); rw [Nat.add_zero] at hx3; clear hxx; have HCD := hid (fun W => ref29_code c W u0 u1); rw [← hCV] at HCD; have hp1 : ((l2 : Int) == 0) = false := (by have := z1.size; have := List.length_pos_iff.2 H1.out; simp; omega); have HN1 := hid (fun n => count_r a2 l2 c2 p1 64 (w1.drewN n) (z1.below (Below.drewN (Below.refl _ _) n))); have hk1 : cntI (isB 64) p1 = (l2 : Int) := (by rw [cntI_all.2 HA1.out, z1.size]); rw [hk1] at HN1; clear hk1; have hp3 : ((l4 : Int) == 0) = false := (by have := z3.size; have := List.length_pos_iff.2 H3.out; simp; omega); have HN3 := hid (fun n => count_r a4 l4 c4 p3 4 (w1.drewN n) (z3.below (Below.drewN (Below.refl _ _) n))); have hk3 : cntI (isB 4) p3 = (l4 : Int) := (by rw [cntI_all.2 HA3.out, z3.size]); rw [hk3] at HN3; clear hk3)
    | (go_at_call 58; (with_reducible refine (HCD.out _).mono ?_); rintro e w' ⟨rfl, rfl⟩))
  go_quiet ((first | (go_at_call 59; with_reducible exact Calls.quiet_of_same (Calls.flip (HN1.out _))) | (go_at_call 59; with_reducible exact Calls.quiet_of_same (Calls.flip (HN3.out _)))))
  go_wp2_with fail
  have hwd := hw1.trans (Below.drewN (Below.refl _ _) nq)
  have r1' := z1.below (Below.drewN (Below.refl w1.heap.size w1) nq)
  have r3' := z3.below (Below.drewN (Below.refl w1.heap.size w1) nq)
  have Bd := B1.drewN nq
  have y1' : (w1.drewN nq).cell? ⟨b1, o1 + 1, none⟩ = some (.slice a2 l2 c2) := y1
  have y2' : (w1.drewN nq).cell? ⟨b1, o1 + 2, none⟩ = some (.slice (some ⟨b3, o3, none⟩) 1 c3) := y2
  have y3' : (w1.drewN nq).cell? ⟨b1, o1 + 3, none⟩ = some (.slice a4 l4 c4) := y3
  have hx3' : (w1.drewN nq).cell? ⟨b3, o3, none⟩ = some (.int .u8 c) := hx3
  generalize w1.drewN nq = W at hwd r1' r3' Bd y1' y2' y3' hx3' ⊢
  clear d0 d1 d2 f0 f1 f2 y0 y1 y2 y3 y4 g0 g4 hx3 HN1 HN3 z0 z1 z2 z3 z4 B1 hw1 hb1
  have m1 : W.drew.cell? ⟨b1, o1 + 1, none⟩ = some (.slice a2 l2 c2) := y1'
  have m2 : W.drew.cell? ⟨b1, o1 + 2, none⟩ = some (.slice (some ⟨b3, o3, none⟩) 1 c3) := y2'
  have m3 : W.drew.cell? ⟨b1, o1 + 3, none⟩ = some (.slice a4 l4 c4) := y3'
  have m4 : W.drew.cell? ⟨b3, o3, none⟩ = some (.int .u8 c) := hx3'
  have d0 := Bd.cell (i := 0) rfl
  have d1 := Bd.cell (i := 1) rfl
  have d2 := Bd.cell (i := 2) rfl
  have f0 := Bd.frozen 0
  have f1 := Bd.frozen 1
  have f2 := Bd.frozen 2
  have HCV := hid hCV
  clear hCV
  refine wp_region_still_tail 13 (by kernel_rfl) (by kernel_rfl) ?_
  simp only [List.take_succ_cons, List.take_zero, List.drop_succ_cons, List.drop_zero]
  repeat (first | still_step | still_call (Calls.flip (HCD.out _)))
  refine wpStill_nil ?_
  change wpList _ _ _ _ _ W.drew
  have BD : Blk W.drew w.heap.size 59 #[.slice none 0 0, .int .i64 0, .slice none 0 0] := Bd
  have hwD := below_drew hwd
  have r1D := r1'.below (below_drew (Below.refl W.heap.size W))
  have r3D := r3'.below (below_drew (Below.refl W.heap.size W))
  generalize W.drew = X at BD hwD r1D r3D ⊢
  clear m1 m2 m3 m4 d0 d1 d2 f0 f1 f2 Bd hwd r1' r3' y1' y2' y3' hx3'
  have d0 := BD.cell (i := 0) rfl
  have d1 := BD.cell (i := 1) rfl
  have d2 := BD.cell (i := 2) rfl
  have f0 := BD.frozen 0
  have f1 := BD.frozen 1
  have f2 := BD.frozen 2
  go_wp2_with fail
  obtain ⟨B3, hbw⟩ := par_set hwD BD (.slice a2 l2 c2) (.int .i64 V) (.slice a4 l4 c4)
  have BA : Blk (X.setCell ⟨w.heap.size, 0, none⟩ (.slice a2 l2 c2)) w.heap.size 59 #[.slice a2 l2 c2, .int .i64 0, .slice none 0 0] := BD.set 0 _
  have BB : Blk ((X.setCell ⟨w.heap.size, 0, none⟩ (.slice a2 l2 c2)).setCell ⟨w.heap.size, 1, none⟩ (.int .i64 V)) w.heap.size 59 #[.slice a2 l2 c2, .int .i64 V, .slice none 0 0] := BA.set 1 _
  have r1W := ((r1D.beside BD wd_no (i := 0) (u := .slice a2 l2 c2)).beside BA wd_no (i := 1) (u := .int .i64 V)).beside BB wd_no (i := 2) (u := .slice a4 l4 c4)
  have r3W := ((r3D.beside BD wd_no (i := 0) (u := .slice a2 l2 c2)).beside BA wd_no (i := 1) (u := .int .i64 V)).beside BB wd_no (i := 2) (u := .slice a4 l4 c4)
  have e0 := B3.cell (i := 0) rfl
  have e1 := B3.cell (i := 1) rfl
  have e2 := B3.cell (i := 2) rfl
  generalize ((X.setCell ⟨w.heap.size, 0, none⟩ (.slice a2 l2 c2)).setCell ⟨w.heap.size, 1, none⟩ (.int .i64 V)).setCell ⟨w.heap.size, 2, none⟩ (.slice a4 l4 c4) = W3 at *
  refine bodyPost_ret (v := .tuple #[.agg #[.slice a2 l2 c2, .int .i64 V, .slice a4 l4 c4], .int .i64 0]) (by simp [results, Tryz.f37, go_sem, e0, e1, e2]) rfl ?_
  exact ⟨_, _, _, _, _, _, by rw [HCV.out], r1W, r3W, hbw⟩
theorem ref29_Parse (a : Option Addr) (len cap : Nat) (xs : List Int) (w : World) (hr : Reads .u8 w a len cap xs) (hN : len < 10000000) :
    Calls Tryz.prog 37 #[.slice a len cap] w (ParP xs w) := by
  by_cases h5 : (cutA xs).length = 5
  · obtain ⟨p0, p1, p2, p3, p4, hL⟩ := five_parts h5
    by_cases h0 : p0 = [61]
    · subst h0
      by_cases h4 : p4 = [61]
      · subst h4
        by_cases h2 : p2.length = 1
        · obtain ⟨c, rfl⟩ := List.length_eq_one_iff.1 h2
          by_cases hc : ewCd c = 0
          · exact par_b4 a len cap xs w hr hN p1 p3 c hL hc
          · by_cases h1 : p1 = []
            · exact par_b5 a len cap xs w hr hN p1 p3 c hL hc h1
            · by_cases ha1 : p1.all (isB 64) = true
              · by_cases h3 : p3 = []
                · exact par_b7 a len cap xs w hr hN p1 p3 c hL hc h1 ha1 h3
                · by_cases ha3 : p3.all (isB 4) = true
                  · by_cases hl : 75 < xs.length
                    · exact par_b9 a len cap xs w hr hN p1 p3 c hL hc h1 ha1 h3 ha3 hl
                    · exact par_b0 a len cap xs w hr hN p1 p3 c hL hc h1 ha1 h3 ha3 hl
                  · exact par_b8 a len cap xs w hr hN p1 p3 c hL hc h1 ha1 h3 ha3
              · exact par_b6 a len cap xs w hr hN p1 p3 c hL hc h1 ha1
        · exact par_b3 a len cap xs w hr hN p1 p2 p3 hL h2
      · exact par_b2 a len cap xs w hr hN p1 p2 p3 p4 hL h4
    · exact par_b1 a len cap xs w hr hN p0 p1 p2 p3 p4 hL h0
  · exact par_a a len cap xs w hr hN h5
end Go.Proofs.YtefhddbbiheadaaGreat
