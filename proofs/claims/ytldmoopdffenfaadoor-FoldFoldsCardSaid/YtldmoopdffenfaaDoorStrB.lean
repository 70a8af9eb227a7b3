/-
  Texts of octets compared; bytes.Equal, where the translation has it.
-/
import Derived.Test.YtldmoopdffenfaaDoorRows
import Derived.Test.YtldmoopdffenfaaDoorBase2
import Derived.Test.YtldmoopdffenfaaDoorD03
namespace Go.Proofs.YtldmoopdffenfaaDoor
open Go.RowKit
set_option linter.unusedVariables false

/-- Texts of octets are the same just if the octets are. -/
theorem strB_inj {xs ys : List Int} (hx : ∀ x ∈ xs, 0 ≤ x ∧ x ≤ 255) (hy : ∀ y ∈ ys, 0 ≤ y ∧ y ≤ 255) (h : strB xs = strB ys) : xs = ys := by
  have e : (xs.map fun x => UInt8.ofNat x.toNat) = ys.map fun x => UInt8.ofNat x.toNat := by
    have h' : (xs.map fun x => UInt8.ofNat x.toNat).toArray = (ys.map fun x => UInt8.ofNat x.toNat).toArray := congrArg ByteArray.data h
    simpa using h'
  clear h
  induction xs generalizing ys with
  | nil => cases ys with
    | nil => rfl
    | cons y ys => simp at e
  | cons x xs ih => cases ys with
    | nil => simp at e
    | cons y ys =>
      simp only [List.map_cons, List.cons.injEq] at e
      have hx1 := hx x (by simp)
      have hy1 := hy y (by simp)
      have e1 : x = y := by
        have := congrArg UInt8.toNat e.1
        simp at this
        omega
      rw [e1, ih (fun z hz => hx z (by simp [hz])) (fun z hz => hy z (by simp [hz])) e.2]
theorem strB_eq {xs ys : List Int} (hx : ∀ x ∈ xs, 0 ≤ x ∧ x ≤ 255) (hy : ∀ y ∈ ys, 0 ≤ y ∧ y ≤ 255) : ((strB xs).toList == (strB ys).toList) = decide (xs = ys) := by
  by_cases h : xs = ys
  · rw [h]; simp
  · rw [decide_eq_false h, beq_eq_false_iff_ne]
    intro he
    rw [Go.ByteArray.toList_eq, Go.ByteArray.toList_eq] at he
    exact h (strB_inj hx hy (ByteArray.ext (Array.toList_inj.1 he)))

theorem bytes_Equal (a : Option Addr) (len cap : Nat) (xs : List Int) (b : Option Addr) (len' cap' : Nat) (ys : List Int) (w : World) (hr : Reads .u8 w a len cap xs) (hr' : Reads .u8 w b len' cap' ys) :
    Calls Tryd.prog 35 #[.slice a len cap, .slice b len' cap'] w fun e w' => e = .returned (.bool (decide (xs = ys))) ∧ w = w' := by
  have s1 := hr.string (P := Tryd.prog) Tryd.underlying22 Tryd.underlying5 Tryd.underlying9
  have s2 := hr'.string (P := Tryd.prog) Tryd.underlying22 Tryd.underlying5 Tryd.underlying9
  have e := hid (strB_eq (fun x hx => wf_u8 (hr.wf x hx)) (fun x hx => wf_u8 (hr'.wf x hx)))
  clear hr hr'
  go_enter Tryd.func35, Tryd.ntmps35
  go_wp2
  go_ret
  exact ⟨ret_bool e.out, rfl⟩
end Go.Proofs.YtldmoopdffenfaaDoor
