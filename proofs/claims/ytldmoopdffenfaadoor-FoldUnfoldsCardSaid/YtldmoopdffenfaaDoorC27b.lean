/-
  Package fold's Right: bytes.ContainsAny at 13 and 10.
-/
import Derived.Test.YtldmoopdffenfaaDoorC27
import Derived.Test.YtldmoopdffenfaaDoorIdxA
namespace Go.Proofs.YtldmoopdffenfaaDoor
open Go.RowKit
set_option linter.unusedVariables false

theorem end_brk : isEnd = brkB := by
  funext x
  unfold isEnd brkB
  rw [Bool.eq_iff_iff]; simp
set_option maxHeartbeats 1000000 in
theorem bytes_ContainsBr (a : Option Addr) (len cap : Nat) (xs : List Int) (w : World) (hr : Reads .u8 w a len cap xs) (hT : Tabs w) (hm : Mx w) :
    Calls Tryd.prog 18 #[.slice a len cap, .string { data := #[13, 10] }] w fun e w' => e = .returned (.bool (xs.any isEnd)) ∧ Below w.heap.size w w' := by
  have HI := hid (bytes_IndexAny a len cap xs w hr hT hm)
  rw [end_brk, ← idx_any]
  generalize idxI brkB xs = I at *
  clear hr
  go_enter Tryd.func18, Tryd.ntmps18
  go_wp2_with (go_at_call 24; (with_reducible refine HI.out.mono ?_); rintro e w' ⟨rfl, hb⟩)
  go_ret
  exact ⟨rfl, hb⟩
set_option maxHeartbeats 1000000 in
theorem fold_Right (a : Option Addr) (len cap : Nat) (xs : List Int) (w : World) (hr : Reads .u8 w a len cap xs) (hN : len < 1000000) (hT : Tabs w) (hm : Mx w) :
    Calls Tryd.prog 11 #[.slice a len cap] w fun e w' => e = .returned (.bool (rgtF xs)) ∧ Below w.heap.size w w' := by
  have HU := hid (fold_Unfold a len cap xs w hr hN)
  have HC := hid (fun a' l' c' W (h : Reads .u8 W a' l' c' (unfL xs)) (hb : Below w.heap.size w W) => bytes_ContainsBr a' l' c' _ W h (hT.below hb) (hm.below hb))
  unfold rgtF
  generalize unfL xs = U at *
  generalize U.any isEnd = B at *
  clear hr hT hm
  go_enter Tryd.func11, Tryd.ntmps11
  go_wp2_with (first
    | (go_at_call 9; (with_reducible refine HU.out.mono ?_); rintro e w1 ⟨a1, l1, c1, rfl, r1, h1⟩)
    | (go_at_call 18; (with_reducible refine (HC.out _ _ _ _ r1 h1).mono ?_); rintro e w2 ⟨rfl, h2⟩; have t2 := below_then h1 h2))
  go_ret
  exact ⟨rfl, t2⟩
end Go.Proofs.YtldmoopdffenfaaDoor
