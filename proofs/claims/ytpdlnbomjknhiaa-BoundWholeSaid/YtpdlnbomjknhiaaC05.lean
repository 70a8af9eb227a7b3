/-
  Contracts of package utfall's functions: the iterator over octets' signs.
-/
import Derived.RangeFuncNested
import Derived.RangeFuncBox
import Derived.RangeFuncCalls
import Derived.RangeFuncLeaves
import Derived.Shelf.Abstract
import Derived.Shelf.RegionOpen
import Derived.OwnWalkIn
import Derived.TacticsInMore
import Derived.LoopNIn
import Derived.LoopIn
import Derived.Maps.AppendAt
import Derived.Test.YtpdlnbomjknhiaaC04b
import Derived.Test.YtpdlnbomjknhiaaD05
namespace Go.Proofs.Ytpdlnbomjknhiaa
open Go.RowKit Go.Shelf
set_option linter.unusedVariables false
attribute [local go_sem] Oper.semAt_some

/-- What a round keeps: what lay below n₀; the box Bs. -/
def KeepsBox (n₀ Bs : Nat) (t : TypeId) (W W' : World) : Prop := Below n₀ W W' ∧ ∀ v, Boxed W Bs t v → Boxed W' Bs t v
theorem KeepsBox.refl (n₀ Bs : Nat) (t : TypeId) (W : World) : KeepsBox n₀ Bs t W W := ⟨Below.refl _ _, fun _ h => h⟩
theorem keepsBox_t {n₀ Bs : Nat} {t : TypeId} {A B C : World} (h : KeepsBox n₀ Bs t A B) (k : KeepsBox n₀ Bs t B C) : KeepsBox n₀ Bs t A C := ⟨h.1.trans k.1, fun v hv => k.2 v (h.2 v hv)⟩
theorem keepsBox_b {n₀ Bs : Nat} {t : TypeId} {w : World} (hn : n₀ ≤ w.heap.size) (W : World) (l : Nat) (o o' : Obj) (hl : w.heap.size ≤ l) (h : W.heap[l]? = some o) (hc : o.isCells = false) (hw : o.isWalk = false) : KeepsBox n₀ Bs t W (W.putObj l o') :=
  ⟨belowK_b hn W l o o' hl h hc hw, fun v hv => hv.kept (grownBy_putObj' W l o') (by
    intro e
    cases e
    rw [show W.heap[Bs]? = _ from hv] at h
    cases h
    cases hc)⟩
theorem grownBy_drewN (W : World) (n : Nat) : W.grownBy (W.drewN n) none := ⟨rfl, rfl, rfl, Nat.le_refl _, fun _ _ _ => rfl⟩
theorem abides_drewN {β : Type} {B : Nat} {J : β → World → Prop} (h : AbidesFrom B J) {s : β} {W : World} (hs : J s W) (n : Nat) : J s (W.drewN n) := h s W _ none hs (grownBy_drewN W n) (fun r e => by cases e)

/-- A sign, as yield is handed it. -/
def encS (p : Int × Int) : Array Value := #[.int .i32 p.1, .int .i64 p.2]


end Go.Proofs.Ytpdlnbomjknhiaa
