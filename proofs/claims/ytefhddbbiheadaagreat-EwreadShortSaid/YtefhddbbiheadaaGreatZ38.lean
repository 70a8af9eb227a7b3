/-
  Texts of ours laid together: C15.
-/
import Derived.Test.YtefhddbbiheadaaGreatZ37

/-! C15 -/
namespace Go.Proofs.YtefhddbbiheadaaGreat
open Go.RowKit Go.Shelf
set_option linter.unusedVariables false
attribute [local go_sem] Oper.semAt_some

theorem digL_wf {xs : List Int} (h : ∀ x ∈ xs, (Lit.int .u8 x).wf = true) : ∀ x ∈ digL xs, (Lit.int .u8 x).wf = true := fun x hx => h x ((List.takeWhile_sublist _).mem (List.mem_filter.1 hx).1)
/-! ### what is read, digit by digit -/
/-- The bits that are left over, as a number. -/
def lft : List Int → Int
  | _ :: _ :: _ :: _ :: t => lft t
  | [_, _, r] => r % 4
  | [_, q] => q % 16
  | [p] => p
  | [] => 0
theorem lft_snoc (v : Int) (hv : V6 v) : ∀ vs : List Int, (∀ x ∈ vs, V6 x) →
    (vs.length % 4 = 0 → rd64 (vs ++ [v]) = rd64 vs ∧ lft (vs ++ [v]) = v ∧ lft vs = 0) ∧
    (vs.length % 4 = 1 → rd64 (vs ++ [v]) = rd64 vs ++ [(lft vs * 64 + v) / 16] ∧ lft (vs ++ [v]) = (lft vs * 64 + v) % 16 ∧ 0 ≤ lft vs ∧ lft vs ≤ 63) ∧
    (vs.length % 4 = 2 → rd64 (vs ++ [v]) = rd64 vs ++ [(lft vs * 64 + v) / 4] ∧ lft (vs ++ [v]) = (lft vs * 64 + v) % 4 ∧ 0 ≤ lft vs ∧ lft vs ≤ 15) ∧
    (vs.length % 4 = 3 → rd64 (vs ++ [v]) = rd64 vs ++ [lft vs * 64 + v] ∧ lft (vs ++ [v]) = 0 ∧ 0 ≤ lft vs ∧ lft vs ≤ 3) := by
  obtain ⟨v0, v1⟩ := hv
  refine ind4 ?_ ?_ ?_ ?_ ?_
  · intro _; simp [rd64, lft]
  · intro p h
    obtain ⟨p0, p1⟩ := h p (by simp)
    refine ⟨fun h => by simp at h, fun _ => ⟨?_, ?_, p0, p1⟩, fun h => by simp at h, fun h => by simp at h⟩
    · show [p * 4 + v / 16] = [(p * 64 + v) / 16]
      rw [show (p * 64 + v) / 16 = p * 4 + v / 16 by omega]
    · show v % 16 = (p * 64 + v) % 16
      omega
  · intro p q h
    obtain ⟨q0, q1⟩ := h q (by simp)
    refine ⟨fun h => by simp at h, fun h => by simp at h, fun _ => ⟨?_, ?_, ?_, ?_⟩, fun h => by simp at h⟩
    · show [p * 4 + q / 16, q % 16 * 16 + v / 4] = [p * 4 + q / 16, (q % 16 * 64 + v) / 4]
      rw [show (q % 16 * 64 + v) / 4 = q % 16 * 16 + v / 4 by omega]
    · show v % 4 = (q % 16 * 64 + v) % 4
      omega
    · show 0 ≤ q % 16
      omega
    · show q % 16 ≤ 15
      omega
  · intro p q r h
    obtain ⟨r0, r1⟩ := h r (by simp)
    refine ⟨fun h => by simp at h, fun h => by simp at h, fun h => by simp at h, fun _ => ⟨rfl, rfl, ?_, ?_⟩⟩
    · show 0 ≤ r % 4
      omega
    · show r % 4 ≤ 3
      omega
  · intro p q r s t ih h
    have i := ih (fun x hx => h x (by simp [hx]))
    have e : (p :: q :: r :: s :: t).length % 4 = t.length % 4 := by simp only [List.length_cons]; omega
    rw [e]
    refine ⟨fun h => ?_, fun h => ?_, fun h => ?_, fun h => ?_⟩
    · obtain ⟨i1, i2, i3⟩ := i.1 h
      exact ⟨by simp only [List.cons_append, rd64, i1], i2, i3⟩
    · obtain ⟨i1, i2, i3⟩ := i.2.1 h
      exact ⟨by simp only [List.cons_append, rd64, i1, lft], i2, i3⟩
    · obtain ⟨i1, i2, i3⟩ := i.2.2.1 h
      exact ⟨by simp only [List.cons_append, rd64, i1, lft], i2, i3⟩
    · obtain ⟨i1, i2, i3⟩ := i.2.2.2 h
      exact ⟨by simp only [List.cons_append, rd64, i1, lft], i2, i3⟩
/-- .. where an octet more has come together: m bits are left over. -/
theorem lft_step (v : Int) (hv : V6 v) (vs : List Int) (hvs : ∀ x ∈ vs, V6 x) (h : vs.length % 4 ≠ 0) :
    ∃ m : Nat, m ≤ 4 ∧ 6 * vs.length % 8 = m + 2 ∧ 6 * (vs.length + 1) % 8 = m ∧ rd64 (vs ++ [v]) = rd64 vs ++ [(lft vs * 64 + v) / 2 ^ m] ∧ lft (vs ++ [v]) = (lft vs * 64 + v) % 2 ^ m ∧ 0 ≤ lft vs ∧ lft vs ≤ 63 ∧ 0 ≤ (lft vs * 64 + v) / 2 ^ m ∧ (lft vs * 64 + v) / 2 ^ m ≤ 255 := by
  obtain ⟨_, k1, k2, k3⟩ := lft_snoc v hv vs hvs
  obtain ⟨v0, v1⟩ := hv
  rcases (show vs.length % 4 = 1 ∨ vs.length % 4 = 2 ∨ vs.length % 4 = 3 by omega) with h | h | h
  · obtain ⟨e1, e2, z0, z1⟩ := k1 h
    exact ⟨4, by omega, by omega, by omega, e1, e2, z0, z1, by omega, by omega⟩
  · obtain ⟨e1, e2, z0, z1⟩ := k2 h
    exact ⟨2, by omega, by omega, by omega, e1, e2, z0, by omega, by omega, by omega⟩
  · obtain ⟨e1, e2, z0, z1⟩ := k3 h
    exact ⟨0, by omega, by omega, by omega, by rw [e1]; simp, by rw [e2]; simp, z0, by omega, by simp; omega, by simp; omega⟩
theorem mask_i64 (m : Nat) (hm : m ≤ 4) (n : Int) : bits .and .i64 n (2 ^ m - 1) = n % 2 ^ m := by
  rcases (show m = 0 ∨ m = 1 ∨ m = 2 ∨ m = 3 ∨ m = 4 by omega) with h | h | h | h | h <;> subst h
  all_goals
    show IntKind.i64.wrap ((BitVec.ofInt 64 n &&& BitVec.ofInt 64 _).toNat : Int) = _
    rw [BitVec.toNat_and, BitVec.toNat_ofInt, BitVec.toNat_ofInt]
  · rw [show (((2 ^ 0 - 1 : Int)) % ((2 ^ 64 : Nat) : Int)).toNat = 2 ^ 0 - 1 by decide, Nat.and_two_pow_sub_one_eq_mod, IntWalk.i64_in _ (by omega)]; omega
  · rw [show (((2 ^ 1 - 1 : Int)) % ((2 ^ 64 : Nat) : Int)).toNat = 2 ^ 1 - 1 by decide, Nat.and_two_pow_sub_one_eq_mod, IntWalk.i64_in _ (by omega)]; omega
  · rw [show (((2 ^ 2 - 1 : Int)) % ((2 ^ 64 : Nat) : Int)).toNat = 2 ^ 2 - 1 by decide, Nat.and_two_pow_sub_one_eq_mod, IntWalk.i64_in _ (by omega)]; omega
  · rw [show (((2 ^ 3 - 1 : Int)) % ((2 ^ 64 : Nat) : Int)).toNat = 2 ^ 3 - 1 by decide, Nat.and_two_pow_sub_one_eq_mod, IntWalk.i64_in _ (by omega)]; omega
  · rw [show (((2 ^ 4 - 1 : Int)) % ((2 ^ 64 : Nat) : Int)).toNat = 2 ^ 4 - 1 by decide, Nat.and_two_pow_sub_one_eq_mod, IntWalk.i64_in _ (by omega)]; omega
theorem looL_wf (xs : List Int) : ∀ x ∈ looL xs, (Lit.int .u8 x).wf = true := by
  have key : ∀ vs : List Int, (∀ v ∈ vs, V6 v) → ∀ x ∈ rd64 vs, 0 ≤ x ∧ x ≤ 255 := by
    refine ind4 ?_ ?_ ?_ ?_ ?_
    · intro _ x hx; cases hx
    · intro p _ x hx; cases hx
    · intro p q h x hx
      obtain ⟨p0, p1⟩ := h p (by simp)
      obtain ⟨q0, q1⟩ := h q (by simp)
      simp only [rd64, List.mem_cons, List.not_mem_nil, or_false] at hx
      omega
    · intro p q r h x hx
      obtain ⟨p0, p1⟩ := h p (by simp)
      obtain ⟨q0, q1⟩ := h q (by simp)
      obtain ⟨r0, r1⟩ := h r (by simp)
      simp only [rd64, List.mem_cons, List.not_mem_nil, or_false] at hx
      omega
    · intro p q r s t ih h x hx
      obtain ⟨p0, p1⟩ := h p (by simp)
      obtain ⟨q0, q1⟩ := h q (by simp)
      obtain ⟨r0, r1⟩ := h r (by simp)
      obtain ⟨s0, s1⟩ := h s (by simp)
      simp only [rd64, List.mem_cons] at hx
      rcases hx with hx | hx | hx | hx
      · omega
      · omega
      · omega
      · exact ih (fun x hx => h x (by simp [hx])) x hx
  intro x hx
  have := key _ (digL_v6 xs) x hx
  exact mk_u8 this.1 this.2

set_option maxRecDepth 100000 in
set_option maxHeartbeats 4000000 in
theorem bloose_Read (a : Option Addr) (len cap : Nat) (xs : List Int) (w : World) (hr : Reads .u8 w a len cap xs) (hN : len < 10000000) :
    Calls Tryz.prog 121 #[.slice a len cap] w fun e w' => ∃ a' len' cap', e = .returned (.slice a' len' cap') ∧ Reads .u8 w' a' len' cap' (looL xs) ∧ Below w.heap.size w w' := by
  have hl := hr.len_le
  have hsz := hr.size
  have hle := digL_le xs
  have hll := looL_le xs
  have hC := bloose_Len a len cap xs w hr hN
  obtain ⟨M, hM⟩ : ∃ M, M = (looL xs).length := ⟨_, rfl⟩
  rw [← hM] at hC hll
  clear hM
  have HWF := hid (looL_wf xs)
  refine (callsIn_wide (n := 4)).1 ?_
  refine callsIn_of_wp_marks Tryz.func121 rfl trivial ?_ rfl
  simp only [Tryz.ntmps121, List.size_toArray, List.length_cons, List.length_nil, Nat.reduceAdd, Nat.reduceSub, Array.replicate_succ, Array.replicate_zero, List.push_toArray, List.append_toArray, List.nil_append, List.cons_append]
  gi_wp2_with (first
    | (refine ⟨trivial, ?_⟩; gi_at_call 142; (with_reducible refine (callsIn_wide.2 hC).mono ?_); rintro e w1 ⟨rfl, hb1⟩)
    | (gi_at_make; refine wpListIn_make0 CT8 rfl _ _ rfl (w0 := w) rfl rfl hb1 (by omega) ?_; intro g w2 ho2 hb2)
    | (refine ⟨trivial, ?_⟩; gi_at_call 143; (with_reducible refine (bloose_digits _ _ _ _ _).mono ?_); rintro e w' ⟨rfl, rfl⟩))
  obtain ⟨b1, b2, b3, b4, hB0⟩ := four_boxes w2 22 3 3 22 (.slice (some ⟨g, 0, none⟩) 0 M) (.int .i64 0) (.int .i64 0) (.slice a len cap)
  have hB := below_then hb2 hB0
  have hw2 := hb2.size
  have ho3 := ho2.below hB0
  refine wpIn_rangeFunc_ownG rfl (by omega) (gf := 165) (lb := #[.pointer (some ⟨w2.heap.size + 1 + 1 + 1, 0, none⟩)]) rfl trivial (enters_of Tryz.func165 (by kernel_rfl) rfl)
    (digits_stops 3 (w2.heap.size + 1 + 1 + 1) w.heap.size (by omega) a len cap xs w _ hr (Nat.le_refl _) hB.size hB (by simp) b4) (fun h k => h.trans k) (belowK_b hB.size) (Below.refl _ _) (fun _ => rfl)
    (fun pre W => (∃ v, Boxed W w2.heap.size 22 v ∧ Row .u8 5 w.heap.size W v (rd64 (pre.map valI))) ∧ Boxed W (w2.heap.size + 1) 3 (.int .i64 (lft (pre.map valI))) ∧ Boxed W (w2.heap.size + 1 + 1) 3 (.int .i64 ((6 * pre.length % 8 : Nat) : Int)) ∧ Below w.heap.size w W)
    (fun _ _ _ => False)
    (OwnFrom.and (own_rowO _ _ _ _ _ _ (fun pre : List Int => rd64 (pre.map valI))) (OwnFrom.and (Go.Own.from (boxed_own _ _ (fun pre : List Int => .int .i64 (lft (pre.map valI)))) _) (own_box (Nat.le_refl _) hB.size _ _ (fun pre : List Int => .int .i64 ((6 * pre.length % 8 : Nat) : Int))))) (fun _ _ _ _ _ hs _ _ => hs)
    ⟨⟨_, b1, ho3.1⟩, b2, b3, hB⟩
    (fun x => { tmps := #[.slice a len cap, undef, .slice none 0 0, .pointer (some ⟨w2.heap.size, 0, none⟩), .pointer (some ⟨w2.heap.size + 1, 0, none⟩), .pointer (some ⟨w2.heap.size + 1 + 1, 0, none⟩), undef, .int .i64 (valI x), .slice a len cap, .int .i64 M, .slice (some ⟨g, 0, none⟩) 0 M, .slice a len cap, .func (.func 165) #[] #[.pointer (some ⟨w2.heap.size + 1 + 1 + 1, 0, none⟩)], .int .u8 x, .int .i64 (valI x), undef, undef, undef, undef, undef, undef, undef, undef, undef, undef, undef, undef, undef, undef, undef, undef, undef, undef, undef, undef, undef, undef, undef], defers := [] }) ?assign ?body ?done ?stop
  case assign =>
    intro l x W K hK
    dsimp only [encD]
    gi_wp2
    exact hK
  case body =>
    rintro l pre x W ⟨⟨v, hv, hown⟩, hv4, hv5, hB⟩ hlt
    have hV : ∀ z ∈ pre.map valI, V6 z := fun z hz => by obtain ⟨c, _, rfl⟩ := List.mem_map.1 hz; exact val_bd c
    have k0 := (lft_snoc (valI x) (val_bd x) (pre.map valI) hV).1
    have k1 := lft_step (valI x) (val_bd x) (pre.map valI) hV
    rw [List.length_map] at k0 k1
    clear hV
    obtain ⟨y0, y1⟩ := val_bd x
    obtain ⟨y, hy⟩ : ∃ y, y = valI x := ⟨_, rfl⟩
    have hmap : (pre ++ [x]).map valI = pre.map valI ++ [y] := by rw [hy, List.map_append]; rfl
    have hlen : (pre ++ [x]).length = pre.length + 1 := by simp
    rw [← hy] at k0 k1 y0 y1
    have HM := hid hmap
    have HL := hid hlen
    have HY := hid hy
    obtain ⟨z, hz⟩ : ∃ z, z = lft (pre.map valI) := ⟨_, rfl⟩
    rw [← hz] at k0 k1 hv4
    have hor0 := fun (h0 : 0 ≤ z) (h1 : z ≤ 63) => or_i64 6 (z * 64) y (by omega) (by omega) (by omega) (by omega) (by omega)
    have hc := hv.cell
    have hc4 := hv4.cell
    have hf4 := hv4.frozen
    have hB1 := hB.size
    clear hmap hlen hy hz
    rw [← HY.out]
    by_cases h4 : pre.length % 4 = 0
    · obtain ⟨e1, e2, e3⟩ := k0 h4
      clear k0 k1
      subst e3
      rw [show 6 * pre.length % 8 = 0 by omega] at hv5
      have hc5 := hv5.cell
      have hf5 := hv5.frozen
      have hor := hor0 (by omega) (by omega)
      clear hor0
      rw [Int.zero_mul, Int.zero_add] at hor
      have E1 := hid e1
      have E2 := hid e2
      clear e1 e2
      gi_wp2
      refine ⟨((KeepsOthers.setCell _ _ _).trans (KeepsOthers.setCell _ _ _)).from _, (keeps_below_trans (keeps_set W (n₀ := w.heap.size) (B := w2.heap.size + 1) (by omega) (.int .i64 y)) (keeps_set _ (B := w2.heap.size + 1 + 1) (by omega) (.int .i64 6))).2, ⟨v, (hv.other (by omega) _).other (by omega) _, ?_⟩, ?_, ?_, hB.trans (keeps_below_trans (keeps_set W (n₀ := w.heap.size) (B := w2.heap.size + 1) (by omega) (.int .i64 y)) (keeps_set _ (B := w2.heap.size + 1 + 1) (by omega) (.int .i64 6))).2⟩
      · rw [HM.out, E1.out]
        exact (hown.set hv4 (by decide) (.int .i64 y)).set (hv5.other (show w2.heap.size + 1 + 1 ≠ w2.heap.size + 1 by omega) _) (by decide) (.int .i64 6)
      · rw [HM.out, E2.out]
        exact (hv4.set _).other (by omega) _
      · rw [HL.out, show 6 * (pre.length + 1) % 8 = 6 by omega]
        exact (hv5.other (show w2.heap.size + 1 + 1 ≠ w2.heap.size + 1 by omega) _).set _
    · obtain ⟨m, hm, m1, m2, e1, e2, z0, z1, Y0, Y1⟩ := k1 h4
      clear k0 k1 h4
      rw [m1] at hv5
      have hc5 := hv5.cell
      have hf5 := hv5.frozen
      have hor := hor0 z0 z1
      clear hor0
      obtain ⟨X, hX⟩ : ∃ X, X = z * 64 + y := ⟨_, rfl⟩
      rw [← hX] at hor e1 e2 Y0 Y1
      obtain ⟨Y, hY⟩ : ∃ Y, X / 2 ^ m = Y := ⟨_, rfl⟩
      rw [hY] at e1 Y0 Y1
      have HX := hid hX
      have HYY := hid hY
      have E1 := hid e1
      have E2 := hid e2
      have M2 := hid m2
      clear hX hY e1 e2 m1 m2
      gi_wp2
      have g3 := (((hv.other (show w2.heap.size ≠ w2.heap.size + 1 by omega) (.int .i64 X)).other (show w2.heap.size ≠ w2.heap.size + 1 + 1 by omega) (.int .i64 (m + 2 + 6))).other (show w2.heap.size ≠ w2.heap.size + 1 + 1 by omega) (.int .i64 (m + 2 + 6 - 8)))
      have g4 := (((hv4.set (.int .i64 X)).other (show w2.heap.size + 1 ≠ w2.heap.size + 1 + 1 by omega) (.int .i64 (m + 2 + 6))).other (show w2.heap.size + 1 ≠ w2.heap.size + 1 + 1 by omega) (.int .i64 (m + 2 + 6 - 8)))
      have q5 := hv5.other (show w2.heap.size + 1 + 1 ≠ w2.heap.size + 1 by omega) (.int .i64 X)
      have g5 := (q5.set (.int .i64 (m + 2 + 6))).set (.int .i64 (m + 2 + 6 - 8))
      have gr := ((hown.set hv4 (by decide) (.int .i64 X)).set q5 (by decide) (.int .i64 (m + 2 + 6))).set (q5.set (.int .i64 (m + 2 + 6))) (by decide) (.int .i64 (m + 2 + 6 - 8))
      have gk := keeps_below_trans (keeps_below_trans (keeps_set W (n₀ := w.heap.size) (B := w2.heap.size + 1) (by omega) (.int .i64 X)) (keeps_set _ (B := w2.heap.size + 1 + 1) (by omega) (.int .i64 (m + 2 + 6)))) (keeps_set _ (B := w2.heap.size + 1 + 1) (by omega) (.int .i64 (m + 2 + 6 - 8)))
      clear hc hc4 hf4 hc5 hf5 q5
      generalize ((W.setCell ⟨w2.heap.size + 1, 0, none⟩ (.int .i64 X)).setCell ⟨w2.heap.size + 1 + 1, 0, none⟩ (.int .i64 (m + 2 + 6))).setCell ⟨w2.heap.size + 1 + 1, 0, none⟩ (.int .i64 (m + 2 + 6 - 8)) = W8 at *
      rw [show (m : Int) + 2 + 6 - 8 = m by omega] at g5
      have gl : (rd64 (pre.map valI)).length < 1000000000000 := by rw [rd64_len, List.length_map]; omega
      have gb : w.heap.size ≤ W8.drew.heap.size := Nat.le_trans hB1 gk.2.size
      have c3 : W8.drew.cell? ⟨w2.heap.size, 0, none⟩ = some v := g3.cell
      have c4 : W8.drew.cell? ⟨w2.heap.size + 1, 0, none⟩ = some (.int .i64 X) := g4.cell
      have c5 : W8.drew.cell? ⟨w2.heap.size + 1 + 1, 0, none⟩ = some (.int .i64 m) := g5.cell
      have hu : IntKind.u8.wrap Y = Y := by rw [IntWalk.u8_in _ (by omega)]
      have d3 : Boxed W8.drew w2.heap.size 22 v := g3
      have c8 : W8.cell? ⟨w2.heap.size, 0, none⟩ = some v := g3.cell
      have c9 : (W8.alloc (.cells #[.int .u8 Y] 5)).drew.cell? ⟨w2.heap.size, 0, none⟩ = some v := (g3.alloc (.cells #[.int .u8 Y] 5)).cell
      refine wpIn_mono (Q := fun e a' w' => e = .normal ∧ ∃ u22 u25 u26 u27 u28 u29 u30 u31 g' cap' w9, Pushed1 22 5 .u8 w.heap.size w2.heap.size W8.drew w9 v (.slice (some ⟨g', 0, none⟩) ((rd64 (pre.map valI)).length + 1) cap') (rd64 (pre.map valI)) Y ∧
        a' = { tmps := #[.slice a len cap, undef, .slice none 0 0, .pointer (some ⟨w2.heap.size, 0, none⟩), .pointer (some ⟨w2.heap.size + 1, 0, none⟩), .pointer (some ⟨w2.heap.size + 1 + 1, 0, none⟩), undef, .int .i64 y, .slice a len cap, .int .i64 M, .slice (some ⟨g, 0, none⟩) 0 M, .slice a len cap, .func (.func 165) #[] #[.pointer (some ⟨w2.heap.size + 1 + 1 + 1, 0, none⟩)], .int .u8 x, .int .i64 y, .int .i64 z, .int .i64 (z * 64), .int .i64 y, .int .i64 X, .int .i64 (m + 2), .int .i64 (m + 2 + 6), .int .i64 (m + 2 + 6), u22, .int .i64 (m + 2 + 6), .int .i64 (m + 2 + 6 - 8), u25, u26, u27, u28, u29, u30, u31, undef, undef, undef, undef, undef, undef], defers := [] } ∧ w' = w9.setCell ⟨w2.heap.size, 0, none⟩ (.slice (some ⟨g', 0, none⟩) ((rd64 (pre.map valI)).length + 1) cap')) ?_ ?_
      · refine wpIn_region_any (by kernel_rfl) ?_
        change wpAnyIn _ _ _ _ _ _ 8 _ _ (World.drew _)
        repeat' (first
          | exact AllReadyIn.nil
          | with_reducible refine wpAnyIn_ready (rs := [0, 1, 2]) (by decide +kernel) (by simp) ?_
          | with_reducible refine wpAnyIn_ready (rs := [0, 2]) (by decide +kernel) (by simp) ?_
          | with_reducible refine wpAnyIn_ready (rs := [0, 1]) (by decide +kernel) (by simp) ?_
          | with_reducible refine wpAnyIn_ready (rs := [0, 3]) (by decide +kernel) (by simp) ?_
          | with_reducible refine wpAnyIn_ready (rs := [0, 4]) (by decide +kernel) (by simp) ?_
          | with_reducible refine wpAnyIn_ready (rs := [0, 5]) (by decide +kernel) (by simp) ?_
          | with_reducible refine wpAnyIn_ready (rs := [1, 2]) (by decide +kernel) (by simp) ?_
          | with_reducible refine wpAnyIn_ready (rs := [0]) (by decide +kernel) (by simp) ?_
          | with_reducible refine wpAnyIn_ready (rs := [1]) (by decide +kernel) (by simp) ?_
          | with_reducible refine wpAnyIn_ready (rs := [2]) (by decide +kernel) (by simp) ?_
          | with_reducible refine wpAnyIn_ready (rs := [3]) (by decide +kernel) (by simp) ?_
          | with_reducible refine wpAnyIn_ready (rs := [4]) (by decide +kernel) (by simp) ?_
          | with_reducible refine wpAnyIn_ready (rs := [5]) (by decide +kernel) (by simp) ?_
          | with_reducible refine wpAnyIn_ready (rs := [6]) (by decide +kernel) (by simp) ?_
          | with_reducible refine wpAnyIn_ready (rs := [7]) (by decide +kernel) (by simp) ?_
          | ((with_reducible change AllReadyIn _ _ _ _ _ _ _ _ _ _ _); apply ready_cons; exact rfl; intro K hK)
          | (refine opIn_shr rfl rfl rfl rfl (by omega) HYY.out ?_; refine hK _ _ ?_; clear hK K)
          | (refine opIn_push1 CT8 rfl rfl (W := W8.drew) (y := Y) (e' := 5) rfl rfl ⟨_, rfl⟩ d3 (by decide) gr gb (by omega) gl ?_; intro g' cap' w9 hp; have hc1 := hp.box.cell; have hf1 := hp.box.frozen; refine hK _ _ ?_; clear hK K)
          | (go_simp; refine hK _ _ ?_; clear hK K)
          | with_reducible refine wpAnyIn_done (by decide +kernel) ?_ _)
        all_goals exact ⟨rfl, _, _, _, _, _, _, _, _, _, _, _, hp, rfl, rfl⟩
      · rename_i K1 hK1
        rintro e a1 w1 ⟨rfl, u22, u25, u26, u27, u28, u29, u30, u31, g', cap', w9, hp, rfl, rfl⟩
        have p4 := hp.other (w2.heap.size + 1) 3 _ (by omega) (by decide) (show Boxed W8.drew _ _ _ from g4)
        have p5 := hp.other (w2.heap.size + 1 + 1) 3 _ (by omega) (by decide) (show Boxed W8.drew _ _ _ from g5)
        have pk := keeps_below_trans gk ⟨(KeepsOthers.drew W8).trans hp.keeps, (below_drew (Below.refl w.heap.size W8)).trans hp.below⟩
        have po := hp.own
        have pp := hp.put
        clear hp c3 c4 c5 c8 c9 d3 g3 g4 g5 gr gk gb
        generalize w9.setCell ⟨w2.heap.size, 0, none⟩ (.slice (some ⟨g', 0, none⟩) ((rd64 (pre.map valI)).length + 1) cap') = W9 at *
        obtain ⟨P, hP⟩ : ∃ P, P = (2 : Int) ^ m := ⟨_, rfl⟩
        have hP1 : 1 ≤ P ∧ P ≤ 16 := by
          rcases (show m = 0 ∨ m = 1 ∨ m = 2 ∨ m = 3 ∨ m = 4 by omega) with h | h | h | h | h <;> subst h <;> subst hP <;> decide
        have hPP : IntKind.i64.wrap (1 * 2 ^ m) = P := by rw [Int.one_mul, ← hP, IntWalk.i64_in _ (by omega)]
        have hP2 : IntKind.i64.wrap (P - 1) = P - 1 := by rw [IntWalk.i64_in _ (by omega)]
        have hand : bits .and .i64 X (P - 1) = X % 2 ^ m := by rw [hP]; exact mask_i64 m hm X
        have HPP := hid hPP
        clear hP hPP
        obtain ⟨Z, hZ⟩ : ∃ Z, Z = X % 2 ^ m := ⟨_, rfl⟩
        rw [← hZ] at hand
        have HZ := hid hZ
        clear hZ
        have c4 : W9.drew.cell? ⟨w2.heap.size + 1, 0, none⟩ = some (.int .i64 X) := p4.cell
        have c5 : W9.drew.cell? ⟨w2.heap.size + 1 + 1, 0, none⟩ = some (.int .i64 m) := p5.cell
        have f4 : W9.drew.frozen? ⟨w2.heap.size + 1, 0, none⟩ = false := p4.frozen
        refine hK1 _ _ ?_
        clear hK1 K1
        refine wpIn_mono (Q := fun e a' w' => e = .normal ∧ ∃ u32 u33 u34 u35 u36, 
          a' = { tmps := #[.slice a len cap, undef, .slice none 0 0, .pointer (some ⟨w2.heap.size, 0, none⟩), .pointer (some ⟨w2.heap.size + 1, 0, none⟩), .pointer (some ⟨w2.heap.size + 1 + 1, 0, none⟩), undef, .int .i64 y, .slice a len cap, .int .i64 M, .slice (some ⟨g, 0, none⟩) 0 M, .slice a len cap, .func (.func 165) #[] #[.pointer (some ⟨w2.heap.size + 1 + 1 + 1, 0, none⟩)], .int .u8 x, .int .i64 y, .int .i64 z, .int .i64 (z * 64), .int .i64 y, .int .i64 X, .int .i64 (m + 2), .int .i64 (m + 2 + 6), .int .i64 (m + 2 + 6), u22, .int .i64 (m + 2 + 6), .int .i64 (m + 2 + 6 - 8), u25, u26, u27, u28, u29, u30, u31, u32, u33, u34, u35, u36, undef], defers := [] } ∧ w' = W9.drew.setCell ⟨w2.heap.size + 1, 0, none⟩ (.int .i64 Z)) ?_ ?_
        · refine wpIn_region_any (by kernel_rfl) ?_
          change wpAnyIn _ _ _ _ _ _ 6 _ _ (World.drew _)
          repeat' (first
            | exact AllReadyIn.nil
            | with_reducible refine wpAnyIn_ready (rs := [0, 1]) (by decide +kernel) (by simp) ?_
            | with_reducible refine wpAnyIn_ready (rs := [0, 2]) (by decide +kernel) (by simp) ?_
            | with_reducible refine wpAnyIn_ready (rs := [0, 3]) (by decide +kernel) (by simp) ?_
            | with_reducible refine wpAnyIn_ready (rs := [0]) (by decide +kernel) (by simp) ?_
            | with_reducible refine wpAnyIn_ready (rs := [1]) (by decide +kernel) (by simp) ?_
            | with_reducible refine wpAnyIn_ready (rs := [2]) (by decide +kernel) (by simp) ?_
            | with_reducible refine wpAnyIn_ready (rs := [3]) (by decide +kernel) (by simp) ?_
            | with_reducible refine wpAnyIn_ready (rs := [4]) (by decide +kernel) (by simp) ?_
            | with_reducible refine wpAnyIn_ready (rs := [5]) (by decide +kernel) (by simp) ?_
            | ((with_reducible change AllReadyIn _ _ _ _ _ _ _ _ _ _ _); apply ready_cons; exact rfl; intro K hK)
            | (refine opIn_shl rfl rfl rfl rfl (by omega) HPP.out ?_; refine hK _ _ ?_; clear hK K)
            | (go_simp; refine hK _ _ ?_; clear hK K)
            | with_reducible refine wpAnyIn_done (by decide +kernel) ?_ _)
          all_goals exact ⟨rfl, _, _, _, _, _, rfl, rfl⟩
        · rintro e a2 w3 ⟨rfl, u32, u33, u34, u35, u36, rfl, rfl⟩
          gi_wp2_with fail
          have pk2 := keeps_below_trans (keeps_below_trans pk ⟨KeepsOthers.drew W9, below_drew (Below.refl w.heap.size W9)⟩) (keeps_set _ (B := w2.heap.size + 1) (by omega) (.int .i64 Z))
          refine ⟨pk2.1.from _, pk2.2, ⟨_, Boxed.other (W := W9.drew) pp (by omega) _, ?_⟩, ?_, ?_, hB.trans pk2.2⟩
          · rw [HM.out, E1.out]
            exact Row.set (w := W9.drew) po (show Boxed W9.drew _ _ _ from p4) (by decide) (.int .i64 Z)
          · rw [HM.out, E2.out, ← HZ.out]
            exact (show Boxed W9.drew _ _ _ from p4).set _
          · rw [HL.out, M2.out]
            exact Boxed.other (W := W9.drew) p5 (by omega) _
  case done =>
    rintro D ys W hD rfl ⟨⟨v, hv, hown⟩, hv4, hv5, hB⟩ hK
    have hc := hv.cell
    gi_wp2
    refine ⟨by simp, .inl ⟨_, _, rfl, run_takeDeferred hK, ?_⟩⟩
    obtain ⟨a', cap', rfl, hrd⟩ := ((hown.putObj (.deferred none) hK rfl).own HWF.out).reads
    exact ⟨_, results_tmp rfl _ _ _, a', _, cap', rfl, hrd, hB.trans (belowK_b (w := w) (Nat.le_refl _) W D _ _ (by simp at hD; omega) hK rfl rfl)⟩
  case stop =>
    rintro D c pre W _ _ h _
    exact h.elim
end Go.Proofs.YtefhddbbiheadaaGreat
