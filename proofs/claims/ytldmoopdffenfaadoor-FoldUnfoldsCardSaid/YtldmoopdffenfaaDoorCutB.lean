/-
  bytes.Cut at a separator of two octets, 13 and 10: by the library's own contract.
-/
import Derived.Test.YtldmoopdffenfaaDoorBase2
import Derived.Test.YtldmoopdffenfaaDoorNoCr
import Derived.Test.YtldmoopdffenfaaDoorRows
import Derived.Shelf.Bytes.SlCut
import Derived.Shelf.Vars
namespace Go.Proofs.YtldmoopdffenfaaDoor
open Go.RowKit
set_option linter.unusedVariables false

/-- The library's own variable holds some number. -/
def Mx (w : World) : Prop := ∃ m, w.cell? ⟨0, 0, none⟩ = some (.int .i64 m)
theorem Mx.below {w w' : World} (h : Mx w) (hb : Below w.heap.size w w') : Mx w' := by
  obtain ⟨m, hm⟩ := h
  exact ⟨m, (hb.cell (p := ⟨0, 0, none⟩) (by have := World.block_lt_of_cell? _ _ hm; exact this)).trans hm⟩
theorem Mx.shaped {w : World} (h : w.ShapedOpen Tryd.prog) : Mx w :=
  Go.Proofs.cell_of_shapedOpen_int (zero := #[.int .i64 0]) (t := 3) h (of_decide_eq_true (by kernel_rfl)) (by kernel_rfl) rfl (by kernel_rfl) (by kernel_rfl) Tryd.underlying3

end Go.Proofs.YtldmoopdffenfaaDoor
