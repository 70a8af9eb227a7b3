/-
  bytes.Cut at a separator of two octets, 13 and 10: by the library's own contract.
-/
import Derived.Test.YtbhmhpcabppgmaaBase2
import Derived.Test.YtbhmhpcabppgmaaNoCr
import Derived.Test.YtbhmhpcabppgmaaRows
import Derived.Shelf.Bytes.SlCut
import Derived.Shelf.Vars
namespace Go.Proofs.Ytbhmhpcabppgmaa
open Go.RowKit
set_option linter.unusedVariables false

/-- The library's own variable holds some number. -/
def Mx (w : World) : Prop := ∃ m, w.cell? ⟨0, 0, none⟩ = some (.int .i64 m)
theorem Mx.below {w w' : World} (h : Mx w) (hb : Below w.heap.size w w') : Mx w' := by
  obtain ⟨m, hm⟩ := h
  exact ⟨m, (hb.cell (p := ⟨0, 0, none⟩) (by have := World.block_lt_of_cell? _ _ hm; exact this)).trans hm⟩
theorem Mx.shaped {w : World} (h : w.ShapedOpen Try.prog) : Mx w :=
  Go.Proofs.cell_of_shapedOpen_int (zero := #[.int .i64 0]) (t := 3) h (of_decide_eq_true (by kernel_rfl)) (by kernel_rfl) rfl (by kernel_rfl) (by kernel_rfl) Try.underlying3

def cutRen : Go.Shelf.Ren :=
  ⟨fun | 4 => 37 | 5 => 35 | 6 => 29 | 7 => 38 | 8 => 43 | 9 => 44 | 10 => 45 | 11 => 39 | 12 => 46 | n => n,
   fun | 0 => 0 | 3 => 3 | 4 => 4 | 5 => 5 | 9 => 9 | 22 => 22 | 29 => 53 | 30 => 54 | 31 => 55 | n => n,
   fun | 0 => 0 | n => n⟩
theorem cutLays : SlLaysT.n4 Try.prog cutRen := {
  mixed := by kernel_rfl
  f4 := Try.func37.trans (congrArg some (by kernel_rfl))
  f5 := Try.func35.trans (congrArg some (by kernel_rfl))
  f6 := Try.func29.trans (congrArg some (by kernel_rfl))
  f7 := Try.func38.trans (congrArg some (by kernel_rfl))
  f8 := Try.func43.trans (congrArg some (by kernel_rfl))
  f9 := Try.func44.trans (congrArg some (by kernel_rfl))
  f10 := Try.func45.trans (congrArg some (by kernel_rfl))
  f11 := Try.func39.trans (congrArg some (by kernel_rfl))
  f12 := Try.func46.trans (congrArg some (by kernel_rfl))
  t0 := Try.underlying0
  a0 := Try.isAgg0
  z0 := Try.sizeOf0
  v0 := Try.zeroValue0
  t3 := Try.underlying3
  a3 := Try.isAgg3
  z3 := Try.sizeOf3
  v3 := Try.zeroValue3
  t4 := Try.underlying4
  a4 := Try.isAgg4
  z4 := Try.sizeOf4
  v4 := Try.zeroValue4
  t5 := Try.underlying5
  a5 := Try.isAgg5
  z5 := Try.sizeOf5
  v5 := Try.zeroValue5
  t9 := Try.underlying9
  a9 := Try.isAgg9
  z9 := Try.sizeOf9
  v9 := Try.zeroValue9
  t22 := Try.underlying22
  a22 := Try.isAgg22
  z22 := Try.sizeOf22
  v22 := Try.zeroValue22
  t29 := Try.underlying53
  a29 := Try.isAgg53
  z29 := Try.sizeOf53
  v29 := Try.zeroValue53
  t30 := Try.underlying54
  a30 := Try.isAgg54
  z30 := Try.sizeOf54
  v30 := Try.zeroValue54
  t31 := Try.underlying55
  a31 := Try.isAgg55
  z31 := Try.sizeOf55
  v31 := Try.zeroValue55
  g0 := by kernel_rfl
}
theorem u8_13 {x : Int} (h0 : 0 ≤ x) (h1 : x ≤ 255) {c : UInt8} (h : UInt8.ofNat x.toNat = c) : x = (c.toNat : Int) := by
  rw [← h]
  simp
  omega
theorem occ_iff {xs : List Int} (hw : ∀ x ∈ xs, (Lit.int .u8 x).wf = true) (i : Nat) : Lib.occAt (Lib.bytesOf xs) [13, 10] i = true ↔ xs[i]? = some 13 ∧ xs[i + 1]? = some 10 := by
  unfold Lib.occAt
  rw [← Lib.bytesOf_drop]
  have e0 : xs[i]? = (xs.drop i)[0]? := by rw [List.getElem?_drop]; rfl
  have e1 : xs[i + 1]? = (xs.drop i)[1]? := by rw [List.getElem?_drop]
  rw [e0, e1]
  have hw' : ∀ x ∈ xs.drop i, (Lit.int .u8 x).wf = true := fun x hx => hw x (List.mem_of_mem_drop hx)
  match xs.drop i, hw' with
  | [], _ => simp [Lib.bytesOf]
  | [x], _ => simp [Lib.bytesOf]
  | x :: y :: r, hw' =>
    obtain ⟨a0, a1⟩ := wf_u8 (hw' x (by simp))
    obtain ⟨b0, b1⟩ := wf_u8 (hw' y (by simp))
    simp only [Lib.bytesOf, List.map_cons, List.isPrefixOf, Bool.and_eq_true, Bool.and_true, beq_iff_eq, List.getElem?_cons_zero, List.getElem?_cons_succ, Option.some.injEq]
    constructor
    · rintro ⟨h1, h2⟩
      exact ⟨u8_13 a0 a1 h1.symm, u8_13 b0 b1 h2.symm⟩
    · rintro ⟨rfl, rfl⟩
      exact ⟨rfl, rfl⟩
/-- Where the first 13 and 10 stand; -1: nowhere. -/
def crI (xs : List Int) : Int := Lib.index (Lib.bytesOf xs) [13, 10]
theorem crI_cases {xs : List Int} (hw : ∀ x ∈ xs, (Lit.int .u8 x).wf = true) : (crI xs = -1 ∧ NoCr xs xs.length) ∨ ∃ i : Nat, crI xs = i ∧ i + 2 ≤ xs.length ∧ xs[i]? = some 13 ∧ xs[i + 1]? = some 10 ∧ NoCr xs i := by
  have hl : (Lib.bytesOf xs).length = xs.length := Lib.bytesOf_length xs
  rcases Lib.index_spec (Lib.bytesOf xs) [13, 10] with ⟨h1, h2⟩ | ⟨i, h1, h2, h3, h4⟩
  · refine .inl ⟨h1, fun j hj hh => ?_⟩
    have := h2 j (by omega)
    rw [(occ_iff hw j).2 hh] at this
    cases this
  · have ho := (occ_iff hw i).1 h3
    refine .inr ⟨i, h1, ?_, ho.1, ho.2, fun j hj hh => ?_⟩
    · have := (List.getElem?_eq_some_iff.1 ho.2).1
      omega
    · have := h4 j hj
      rw [(occ_iff hw j).2 hh] at this
      cases this
theorem cut_any (a : Option Addr) (len cap : Nat) (xs : List Int) (a2 : Option Addr) (c2 : Nat) (w : World) (hr : Reads .u8 w a len cap xs) (hr2 : Reads .u8 w a2 2 c2 [13, 10]) (h0 : 0 < len) (hN : len < 4294967281) (hm : Mx w) :
    Calls Try.prog 37 #[.slice a len cap, .slice a2 2 c2] w fun e w' => e = .returned (Lib.cutV a len cap 2 (crI xs)) ∧ ∃ q, w' = w.drewN q := by
  obtain ⟨m, hm⟩ := hm
  have hw : ∀ x ∈ xs, 0 ≤ x ∧ x < 256 := fun x hx => by have := wf_u8 (hr.wf x hx); omega
  exact Any.bytes_Cut_all cutLays a a2 len cap 2 c2 xs [13, 10] m w hr.size rfl hw (by decide) (fun hl => by
      obtain ⟨b, off, ha, _, hc⟩ := hr.cell hl
      exact ⟨b, off, ha, hc⟩) (fun hl => by
      obtain ⟨b, off, ha, _, hc⟩ := hr2.cell hl
      exact ⟨b, off, ha, hc⟩) (fun ha => by
      obtain ⟨b, off, ha', _⟩ := hr.cell h0
      rw [ha] at ha'
      cases ha') hr.room hN (by decide) hm
theorem cut_no (a : Option Addr) (len cap : Nat) (xs : List Int) (a2 : Option Addr) (c2 : Nat) (w : World) (hr : Reads .u8 w a len cap xs) (hr2 : Reads .u8 w a2 2 c2 [13, 10]) (h0 : 0 < len) (hN : len < 4294967281) (hm : Mx w) (hi : crI xs = -1) :
    Calls Try.prog 37 #[.slice a len cap, .slice a2 2 c2] w fun e w' => e = .returned (.tuple #[.slice a len cap, .slice none 0 0, .bool false]) ∧ ∃ q, w' = w.drewN q := by
  have h := cut_any a len cap xs a2 c2 w hr hr2 h0 hN hm
  rw [hi] at h
  exact h
theorem cut_yes (a : Option Addr) (len cap : Nat) (xs : List Int) (a2 : Option Addr) (c2 : Nat) (w : World) (hr : Reads .u8 w a len cap xs) (hr2 : Reads .u8 w a2 2 c2 [13, 10]) (h0 : 0 < len) (hN : len < 4294967281) (hm : Mx w) (i : Nat) (hi : crI xs = i) :
    Calls Try.prog 37 #[.slice a len cap, .slice a2 2 c2] w fun e w' => e = .returned (.tuple #[.slice a i cap, .slice (if cap = i + 2 then a else a.map (·.add (i + 2))) (len - (i + 2)) (cap - (i + 2)), .bool true]) ∧ ∃ q, w' = w.drewN q := by
  have h := cut_any a len cap xs a2 c2 w hr hr2 h0 hN hm
  rw [hi] at h
  unfold Lib.cutV Lib.fromV at h
  rw [if_pos (by omega), Int.toNat_natCast] at h
  exact h
theorem litCr (wr : World) (B : Nat) (hB : wr.heap.size = B) : Reads .u8 (wr.alloc (.cells #[.int .u8 13, .int .u8 10] 5 (2, 3))) (some ⟨B, 0, none⟩) 2 2 [13, 10] :=
  Reads_litB .u8 5 (2, 3) wr B hB [13, 10] (by decide) (by decide)
theorem cutq_no (a : Option Addr) (len cap : Nat) (xs : List Int) (wr : World) (B : Nat) (hB : wr.heap.size = B) (hr : Reads .u8 wr a len cap xs) (h0 : 0 < len) (hN : len < 4294967281) (hm : Mx wr) (hi : crI xs = -1) :
    Calls Try.prog 37 #[.slice a len cap, .slice (some ⟨B, 0, none⟩) 2 2] (wr.alloc (.cells #[.int .u8 13, .int .u8 10] 5 (2, 3))) fun e w' => e = .returned (.tuple #[.slice a len cap, .slice none 0 0, .bool false]) ∧ Below wr.heap.size wr w' := by
  have hb : Below wr.heap.size wr (wr.alloc (.cells #[.int .u8 13, .int .u8 10] 5 (2, 3))) := (Below.refl _ _).alloc (Nat.le_refl _) _
  refine (cut_no a len cap xs _ 2 _ (hr.below hb) (litCr wr B hB) h0 hN (hm.below hb) hi).mono ?_
  rintro e w' ⟨rfl, q, rfl⟩
  exact ⟨rfl, Below.drewN hb q⟩
theorem cutq_yes (a : Option Addr) (len cap : Nat) (xs : List Int) (wr : World) (B : Nat) (hB : wr.heap.size = B) (hr : Reads .u8 wr a len cap xs) (h0 : 0 < len) (hN : len < 4294967281) (hm : Mx wr) (i : Nat) (hi : crI xs = i) (R : Option Addr) (hR : R = if cap = i + 2 then a else a.map (·.add (i + 2))) (L C : Nat) (hL : L = len - (i + 2)) (hC : C = cap - (i + 2)) :
    Calls Try.prog 37 #[.slice a len cap, .slice (some ⟨B, 0, none⟩) 2 2] (wr.alloc (.cells #[.int .u8 13, .int .u8 10] 5 (2, 3))) fun e w' => e = .returned (.tuple #[.slice a i cap, .slice R L C, .bool true]) ∧ Below wr.heap.size wr w' := by
  subst hR hL hC
  have hb : Below wr.heap.size wr (wr.alloc (.cells #[.int .u8 13, .int .u8 10] 5 (2, 3))) := (Below.refl _ _).alloc (Nat.le_refl _) _
  refine (cut_yes a len cap xs _ 2 _ (hr.below hb) (litCr wr B hB) h0 hN (hm.below hb) i hi).mono ?_
  rintro e w' ⟨rfl, q, rfl⟩
  exact ⟨rfl, Below.drewN hb q⟩
end Go.Proofs.Ytbhmhpcabppgmaa
