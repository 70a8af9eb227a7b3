/-
  bytes.TrimRight at 32 and 9: by the library's own contract.
-/
import Derived.Test.YtpdoehdmeojmkaaDoorRows
import Derived.Test.YtpdoehdmeojmkaaDoorBase2
import Derived.Test.YtpdoehdmeojmkaaDoorD19c
import Derived.Shelf.Bytes.SlTrim
namespace Go.Proofs.YtpdoehdmeojmkaaDoor
open Go.RowKit
set_option linter.unusedVariables false

def trmRen : Go.Shelf.Ren :=
  ⟨fun | 7 => 37 | 10 => 52 | 11 => 53 | 13 => 54 | 15 => 55 | 16 => 72 | 17 => 73 | 18 => 76 | 19 => 75 | 20 => 86 | 21 => 87 | n => n,
   fun | 0 => 0 | 3 => 3 | 4 => 4 | 5 => 5 | 9 => 9 | 21 => 21 | 22 => 22 | 27 => 67 | 28 => 68 | 31 => 71 | 33 => 82 | 36 => 93 | 37 => 74 | 39 => 95 | 40 => 96 | n => n,
   fun | 0 => 1 | 1 => 2 | n => n⟩
theorem trmLays : SlLaysV.n7 Tryd.prog trmRen := {
  mixed := by kernel_rfl
  f7 := Tryd.func37.trans (congrArg some (by kernel_rfl))
  f10 := Tryd.func52.trans (congrArg some (by kernel_rfl))
  f11 := Tryd.func53.trans (congrArg some (by kernel_rfl))
  f13 := Tryd.func54.trans (congrArg some (by kernel_rfl))
  f15 := Tryd.func55.trans (congrArg some (by kernel_rfl))
  f16 := Tryd.func72.trans (congrArg some (by kernel_rfl))
  f17 := Tryd.func73.trans (congrArg some (by kernel_rfl))
  f18 := Tryd.func76.trans (congrArg some (by kernel_rfl))
  f19 := Tryd.func75.trans (congrArg some (by kernel_rfl))
  f20 := Tryd.func86.trans (congrArg some (by kernel_rfl))
  f21 := Tryd.func87.trans (congrArg some (by kernel_rfl))
  t0 := Tryd.underlying0
  a0 := Tryd.isAgg0
  z0 := Tryd.sizeOf0
  v0 := Tryd.zeroValue0
  t3 := Tryd.underlying3
  a3 := Tryd.isAgg3
  z3 := Tryd.sizeOf3
  v3 := Tryd.zeroValue3
  t4 := Tryd.underlying4
  a4 := Tryd.isAgg4
  z4 := Tryd.sizeOf4
  v4 := Tryd.zeroValue4
  t5 := Tryd.underlying5
  a5 := Tryd.isAgg5
  z5 := Tryd.sizeOf5
  v5 := Tryd.zeroValue5
  t9 := Tryd.underlying9
  a9 := Tryd.isAgg9
  z9 := Tryd.sizeOf9
  v9 := Tryd.zeroValue9
  t21 := Tryd.underlying21
  a21 := Tryd.isAgg21
  z21 := Tryd.sizeOf21
  v21 := Tryd.zeroValue21
  t22 := Tryd.underlying22
  a22 := Tryd.isAgg22
  z22 := Tryd.sizeOf22
  v22 := Tryd.zeroValue22
  t27 := Tryd.underlying67
  a27 := Tryd.isAgg67
  z27 := Tryd.sizeOf67
  t28 := Tryd.underlying68
  a28 := Tryd.isAgg68
  z28 := Tryd.sizeOf68
  v28 := Tryd.zeroValue68
  t31 := Tryd.underlying71
  a31 := Tryd.isAgg71
  z31 := Tryd.sizeOf71
  v31 := Tryd.zeroValue71
  t33 := Tryd.underlying82
  a33 := Tryd.isAgg82
  z33 := Tryd.sizeOf82
  v33 := Tryd.zeroValue82
  t36 := Tryd.underlying93
  a36 := Tryd.isAgg93
  z36 := Tryd.sizeOf93
  t37 := Tryd.underlying74
  a37 := Tryd.isAgg74
  z37 := Tryd.sizeOf74
  v37 := Tryd.zeroValue74
  t39 := Tryd.underlying95
  a39 := Tryd.isAgg95
  z39 := Tryd.sizeOf95
  v39 := Tryd.zeroValue95
  t40 := Tryd.underlying96
  a40 := Tryd.isAgg96
  z40 := Tryd.sizeOf96
  v40 := Tryd.zeroValue96
}
theorem isB2 {x : Int} (h0 : 0 ≤ x) (h1 : x ≤ 255) : isB 2 x = decide (x = 32 ∨ x = 9) := byte_fin (p := fun x => isB 2 x = decide (x = 32 ∨ x = 9)) (by decide +kernel) x h0 h1
theorem trim_lib : ∀ xs : List Int, (∀ x ∈ xs, (Lit.int .u8 x).wf = true) → (Lib.trimRightS (Lib.bytesOf xs) [32, 9]).length = (trimE xs).length := by
  intro xs
  unfold Lib.trimRightS
  generalize hr : xs.reverse = r
  have hx : xs = r.reverse := by rw [← hr, List.reverse_reverse]
  subst hx
  clear hr
  induction r with
  | nil => intro _; rfl
  | cons x r ih =>
    intro hw
    rw [List.reverse_cons] at hw ⊢
    have hwx := wf_u8 (hw x (by simp))
    have hwr : ∀ y ∈ r.reverse, (Lit.int .u8 y).wf = true := fun y hy => hw y (by simp at hy ⊢; exact .inl hy)
    have hb : Lib.bytesOf (r.reverse ++ [x]) = Lib.bytesOf r.reverse ++ [x.toNat.toUInt8] := by unfold Lib.bytesOf; simp
    have hc : ([32, 9] : List UInt8).contains x.toNat.toUInt8 = isB 2 x := by
      rw [isB2 hwx.1 hwx.2]
      exact byte_fin (p := fun x => ([32, 9] : List UInt8).contains x.toNat.toUInt8 = decide (x = 32 ∨ x = 9)) (by decide +kernel) x hwx.1 hwx.2
    rw [hb, trimE_snoc, List.reverse_append, List.reverse_cons, List.reverse_nil, List.nil_append, List.singleton_append, List.dropWhile_cons, hc]
    cases h : isB 2 x
    · simp [Lib.bytesOf]
    · simp only [if_true]
      exact ih hwr
theorem bytes_TrimRightB (a : Option Addr) (len cap : Nat) (xs : List Int) (w : World) (hr : Reads .u8 w a len cap xs) :
    Calls Tryd.prog 37 #[.slice a len cap, .string { data := #[32, 9] }] w fun e w' => (∃ m, e = .returned (.slice a m cap) ∧ m = (trimE xs).length) ∧ Below w.heap.size w w' := by
  have hw : ∀ x ∈ xs, 0 ≤ x ∧ x < 256 := fun x hx => by have := wf_u8 (hr.wf x hx); omega
  have h := Any.bytes_TrimRight_laid trmLays (by kernel_rfl) a len cap xs { data := #[32, 9] } w hr.size hr.room (by have := hr.top; unfold maxLen at this; omega) (fun hl => by
      obtain ⟨b, off, ha, _, hc⟩ := hr.cell hl
      exact ⟨b, off, ha, hc⟩) hw (by decide) (by
      intro j b hb
      match j, hb with
      | 0, hb => cases hb; decide
      | 1, hb => cases hb; decide
      | j + 2, hb => simp at hb)
  refine h.mono ?_
  rintro e w' ⟨rfl, hb⟩
  exact ⟨⟨_, rfl, trim_lib xs hr.wf⟩, hb⟩
end Go.Proofs.YtpdoehdmeojmkaaDoor
