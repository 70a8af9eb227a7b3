/-
  A lemma of my own that speaks of no program: a literal of the call's own.
-/
import Derived.Test.YtdipabcoeloeoaaBase2
namespace Go.Proofs.Ytdipabcoeloeoaa
open Go.RowKit

/-- A literal of the call's own may be written on. -/
theorem Own.lit (k : IntKind) (e : TypeId) (w : World) (xs : List Int) (hm : xs.length ≤ maxLen) (hwf : ∀ x ∈ xs, (Lit.int k x).wf = true) :
    Own k e w.heap.size (w.alloc (.cells (xs.map (Value.int k)).toArray e)) (.slice (some ⟨w.heap.size, 0, none⟩) xs.length xs.length) xs := by
  refine ⟨⟨by simp, .inr ⟨w.heap.size, xs.length, (xs.map (Value.int k)).toArray, rfl, Nat.le_refl _, heap_alloc_new w _, Nat.le_refl _, hm, by simp, ?_⟩⟩, hwf⟩
  rw [List.toList_toArray, Nat.mul_one]
  exact List.take_of_length_le (by simp)
end Go.Proofs.Ytdipabcoeloeoaa
