/-
  Contracts of package utfall's functions: those that range over octets' signs.
-/
import Derived.Test.YtgeadmpbfbdopaaC05
namespace Go.Proofs.Ytgeadmpbfbdopaa
open Go.RowKit Go.Shelf
set_option linter.unusedVariables false
attribute [local go_sem] Oper.semAt_some

/-- A store into the caller's own box. -/
theorem keepsBox_set {n₀ B Bs : Nat} {t : TypeId} {W : World} (hB : n₀ ≤ B) (hne : Bs ≠ B) (u : Value) : KeepsBox n₀ Bs t W (W.setCell ⟨B, 0, none⟩ u) :=
  ⟨(Below.refl n₀ W).setCell (p := ⟨B, 0, none⟩) hB _, fun v hv => hv.other hne u⟩
/-- The world where the loop begins: the caller's box, then the iterator's. -/
theorem two_boxes (w : World) (t t2 : TypeId) (v v2 : Value) :
    Boxed ((w.alloc (.cells #[v] t)).alloc (.cells #[v2] t2)) w.heap.size t v ∧ Boxed ((w.alloc (.cells #[v] t)).alloc (.cells #[v2] t2)) (w.heap.size + 1) t2 v2 ∧ Below w.heap.size w ((w.alloc (.cells #[v] t)).alloc (.cells #[v2] t2)) := by
  refine ⟨(Boxed.new w t v).alloc _, ?_, ((Below.refl _ w).alloc (Nat.le_refl _) _).alloc (by simp) _⟩
  have := Boxed.new (w.alloc (.cells #[v] t)) t2 v2
  rwa [World.size_alloc] at this
theorem own_box {β : Type} {n₀ D : Nat} {w : World} (hn : n₀ ≤ w.heap.size) (hD : n₀ ≤ D) (B : Nat) (t : TypeId) (f : β → Value) : OwnFrom D (fun (s : β) W => Boxed W B t (f s) ∧ Below n₀ w W) :=
  OwnFrom.and (Go.Own.from (boxed_own B t f) _) (ownFrom_below hn hD)


end Go.Proofs.Ytgeadmpbfbdopaa
