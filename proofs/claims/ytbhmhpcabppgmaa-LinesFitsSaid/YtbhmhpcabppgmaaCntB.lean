/-
  bytes.Count at a separator of three octets, 61, 13 and 10: by the library's own contract.
-/
import Derived.Test.YtbhmhpcabppgmaaCutB
import Derived.Test.YtbhmhpcabppgmaaD18d
import Derived.Shelf.Bytes.SlCountWhole
namespace Go.Proofs.Ytbhmhpcabppgmaa
open Go.RowKit
set_option linter.unusedVariables false

def cntRen : Go.Shelf.Ren :=
  ⟨fun | 12 => 35 | 13 => 24 | 19 => 29 | 20 => 38 | 21 => 43 | 22 => 44 | 23 => 45 | 24 => 33 | 25 => 34 | 29 => 39 | 30 => 46 | n => n,
   fun | 0 => 0 | 3 => 3 | 4 => 4 | 5 => 5 | 9 => 9 | 22 => 22 | 33 => 53 | 39 => 54 | 40 => 55 | n => n,
   fun | 0 => 0 | n => n⟩
theorem cntLays : SlLaysC.n13 Try.prog cntRen := {
  mixed := by kernel_rfl
  f12 := Try.func35.trans (congrArg some (by kernel_rfl))
  f13 := Try.func24.trans (congrArg some (by kernel_rfl))
  f19 := Try.func29.trans (congrArg some (by kernel_rfl))
  f20 := Try.func38.trans (congrArg some (by kernel_rfl))
  f21 := Try.func43.trans (congrArg some (by kernel_rfl))
  f22 := Try.func44.trans (congrArg some (by kernel_rfl))
  f23 := Try.func45.trans (congrArg some (by kernel_rfl))
  f25 := Try.func34.trans (congrArg some (by kernel_rfl))
  f29 := Try.func39.trans (congrArg some (by kernel_rfl))
  f30 := Try.func46.trans (congrArg some (by kernel_rfl))
  t0 := Try.underlying0
  a0 := Try.isAgg0
  z0 := Try.sizeOf0
  v0 := Try.zeroValue0
  t3 := Try.underlying3
  a3 := Try.isAgg3
  z3 := Try.sizeOf3
  v3 := Try.zeroValue3
  t4 := Try.underlying4
  a4 := Try.isAgg4
  z4 := Try.sizeOf4
  v4 := Try.zeroValue4
  t5 := Try.underlying5
  a5 := Try.isAgg5
  z5 := Try.sizeOf5
  v5 := Try.zeroValue5
  t9 := Try.underlying9
  a9 := Try.isAgg9
  z9 := Try.sizeOf9
  v9 := Try.zeroValue9
  t22 := Try.underlying22
  a22 := Try.isAgg22
  z22 := Try.sizeOf22
  v22 := Try.zeroValue22
  t33 := Try.underlying53
  a33 := Try.isAgg53
  z33 := Try.sizeOf53
  v33 := Try.zeroValue53
  t39 := Try.underlying54
  a39 := Try.isAgg54
  z39 := Try.sizeOf54
  v39 := Try.zeroValue54
  t40 := Try.underlying55
  a40 := Try.isAgg55
  z40 := Try.sizeOf55
  v40 := Try.zeroValue55
  g0 := by kernel_rfl
}
theorem occ3_iff {xs : List Int} (hw : ∀ x ∈ xs, (Lit.int .u8 x).wf = true) (i : Nat) : Lib.occAt (Lib.bytesOf xs) [61, 13, 10] i = true ↔ At3 xs i := by
  unfold Lib.occAt At3
  rw [← Lib.bytesOf_drop]
  have e0 : xs[i]? = (xs.drop i)[0]? := by rw [List.getElem?_drop]; rfl
  have e1 : xs[i + 1]? = (xs.drop i)[1]? := by rw [List.getElem?_drop]
  have e2 : xs[i + 2]? = (xs.drop i)[2]? := by rw [List.getElem?_drop]
  rw [e0, e1, e2]
  have hw' : ∀ x ∈ xs.drop i, (Lit.int .u8 x).wf = true := fun x hx => hw x (List.mem_of_mem_drop hx)
  match xs.drop i, hw' with
  | [], _ => simp [Lib.bytesOf]
  | [x], _ => simp [Lib.bytesOf]
  | [x, y], _ => simp [Lib.bytesOf]
  | x :: y :: z :: r, hw' =>
    obtain ⟨a0, a1⟩ := wf_u8 (hw' x (by simp))
    obtain ⟨b0, b1⟩ := wf_u8 (hw' y (by simp))
    obtain ⟨c0, c1⟩ := wf_u8 (hw' z (by simp))
    simp only [Lib.bytesOf, List.map_cons, List.isPrefixOf, Bool.and_eq_true, Bool.and_true, beq_iff_eq, List.getElem?_cons_zero, List.getElem?_cons_succ, Option.some.injEq]
    constructor
    · rintro ⟨h1, h2, h3⟩
      exact ⟨u8_13 a0 a1 h1.symm, u8_13 b0 b1 h2.symm, u8_13 c0 c1 h3.symm⟩
    · rintro ⟨rfl, rfl, rfl⟩
      exact ⟨rfl, rfl, rfl⟩
theorem cnt_c3 : ∀ (n : Nat) (xs : List Int), xs.length ≤ n → (∀ x ∈ xs, (Lit.int .u8 x).wf = true) → Lib.count (Lib.bytesOf xs) [61, 13, 10] = c3 xs none := by
  intro n
  induction n with
  | zero =>
    intro xs h _
    obtain rfl : xs = [] := List.eq_nil_of_length_eq_zero (by omega)
    rfl
  | succ n ih =>
    intro xs h hw
    rcases Lib.index_spec (Lib.bytesOf xs) [61, 13, 10] with ⟨h1, h2⟩ | ⟨i, h1, h2, h3, h4⟩
    · rw [Lib.count_miss h1, c3_none _ xs none (Nat.le_refl _) (fun j hj => ?_) (fun e => by cases e.1)]
      have hl := (List.getElem?_eq_some_iff.1 hj.1).1
      have := h2 j (by rw [Lib.bytesOf_length]; omega)
      rw [(occ3_iff hw j).2 hj] at this
      cases this
    · have ho := (occ3_iff hw i).1 h3
      have hl := (List.getElem?_eq_some_iff.1 ho.2.2).1
      rw [Lib.count_hit (by simp) h1, show i + [(61 : UInt8), 13, 10].length = i + 3 from rfl, ← Lib.bytesOf_drop, ih (xs.drop (i + 3)) (by rw [List.length_drop]; omega) (fun x hx => hw x (List.mem_of_mem_drop hx)),
        c3_hit _ xs none i (Nat.le_refl _) ho (fun j hj hh => ?_) (fun e => by cases e.1)]
      have := h4 j hj
      rw [(occ3_iff hw j).2 hh] at this
      cases this
theorem cnt_soft {xs : List Int} (hw : ∀ x ∈ xs, (Lit.int .u8 x).wf = true) : Lib.count (Lib.bytesOf xs) (Lib.bytesOf [61, 13, 10]) = softQ xs := by
  rw [soft_c3]
  exact cnt_c3 _ xs (Nat.le_refl _) hw
theorem bytes_Count3 (a : Option Addr) (len cap : Nat) (xs : List Int) (a2 : Option Addr) (c2 : Nat) (w : World) (hr : Reads .u8 w a len cap xs) (hr2 : Reads .u8 w a2 3 c2 [61, 13, 10]) (h0 : 0 < len) (hN : len < 4294967281) (hm : Mx w) :
    Calls Try.prog 24 #[.slice a len cap, .slice a2 3 c2] w fun e w' => e = .returned (.int .i64 (softQ xs)) ∧ ∃ q, w' = w.drewN q := by
  obtain ⟨m, hm⟩ := hm
  have hw : ∀ x ∈ xs, 0 ≤ x ∧ x < 256 := fun x hx => by have := wf_u8 (hr.wf x hx); omega
  obtain ⟨b, off, rfl, _, hc⟩ := hr.cell h0
  obtain ⟨b2, off2, rfl, _, hc2⟩ := hr2.cell (by decide)
  rw [← cnt_soft hr.wf]
  exact Any.bytes_Count_at cntLays ⟨b, off, none⟩ ⟨b2, off2, none⟩ len cap 3 c2 xs [61, 13, 10] m w hr.size rfl hw (by decide) (fun i hi => by rw [Addr.add_lit]; exact hc i hi) (fun i hi => by rw [Addr.add_lit]; exact hc2 i hi) hr.room hN (by decide) (by decide) hm
/-- .. of no octets, whatever the address. -/
theorem bytes_Count0 (a : Option Addr) (cap : Nat) (a2 : Option Addr) (c2 : Nat) (w : World) :
    Calls Try.prog 24 #[.slice a 0 cap, .slice a2 3 c2] w fun e w' => e = .returned (.int .i64 0) ∧ w = w' := by
  have hcon : Calls Try.prog 35 #[.slice a 0 cap, .slice a2 3 c2] w fun e w' => e = .returned (.int .i64 (-1)) ∧ w' = w := Any.bytes_Index_longer cntLays.index a a2 0 cap 3 c2 w (by decide) (by decide) (by decide)
  have HC := hid hcon
  clear hcon
  go_enter Try.func24, Try.ntmps24
  go_wp2
  refine wp_loop_rounds 1 ?_
  rw [rounds_succ]
  go_wp2_with (go_at_call 35; (refine HC.out.mono ?_); rintro e w' ⟨rfl, hw'⟩; have hw2 := hw'.symm; subst hw2)
  go_ret
  exact ⟨rfl, rfl⟩
end Go.Proofs.Ytbhmhpcabppgmaa
