/-
  Texts of ours laid together: Bol.
-/
import Derived.Test.YtkaldjekjgecbaaZ21

/-! Bol -/
namespace Go.Proofs.Ytkaldjekjgecbaa
open Go.RowKit
set_option linter.unusedVariables false

/-- The slice value v holds these yes and no in a row of the call's own. -/
def OwnB (e : TypeId) (base : Nat) (w : World) (v : Value) (bs : List Bool) : Prop :=
  w.ownsRow base e 1 v bs.length (bs.map Value.bool)
theorem OwnB.shape {e : TypeId} {base : Nat} {w : World} {g n cap : Nat} {bs : List Bool} (h : OwnB e base w (.slice (some ⟨g, 0, none⟩) n cap) bs) : bs.length = n := by
  rcases h.2 with ⟨h', _⟩ | ⟨_, _, _, h', _⟩
  · simp at h'
  · simp only [Value.slice.injEq] at h'; exact h'.2.1.symm
theorem OwnB.lt {e : TypeId} {base : Nat} {w : World} {v : Value} {bs : List Bool} (h : OwnB e base w v bs) : ∀ j, v.ownBlock = some j → base ≤ j ∧ j < w.heap.size := World.ownsRow.lt h
theorem OwnB.below {e : TypeId} {base : Nat} {w w' : World} {v : Value} {bs : List Bool} (h : OwnB e base w v bs) (hb : Below w.heap.size w w') : OwnB e base w' v bs :=
  World.ownsRow.kept (row := none) h ⟨hb.os, hb.tape, hb.output, hb.size, fun k hk _ => hb.block k hk⟩ (by
    cases hv : v.ownBlock with
    | none => exact .inl rfl
    | some g => exact .inr (by simp))
theorem OwnB.store {e : TypeId} {base : Nat} {w : World} {g n cap : Nat} {bs : List Bool} (h : OwnB e base w (.slice (some ⟨g, 0, none⟩) n cap) bs) (j : Nat) (y : Bool) :
    OwnB e base (w.setCell ⟨g, j, none⟩ (.bool y)) (.slice (some ⟨g, 0, none⟩) n cap) (bs.set j y) := by
  have hn := h.shape
  subst hn
  have := (World.ownsRow.stored h j (.bool y)).1
  rw [← List.map_set] at this
  unfold OwnB
  simpa using this
theorem OwnB.at {e : TypeId} {base : Nat} {w : World} {g n cap : Nat} {bs : List Bool} (h : OwnB e base w (.slice (some ⟨g, 0, none⟩) n cap) bs) {j : Nat} (hj : j < n) :
    (∃ y, w.cell? ⟨g, j, none⟩ = some (.bool y)) ∧ w.frozen? ⟨g, j, none⟩ = false := by
  have hn := h.shape
  subst hn
  refine ⟨⟨bs[j], ?_⟩, World.ownsRow.frozenAt h j⟩
  rw [World.ownsRow.cellAt h j (by omega)]
  simp [hj]
theorem OwnB.rdB {e : TypeId} {base : Nat} {w : World} {v : Value} {bs : List Bool} (h : OwnB e base w v bs) : ∃ a c, v = .slice a bs.length c ∧ RdB w a bs.length c bs := by
  rcases h.2 with ⟨rfl, hn⟩ | ⟨g, cap, cur, rfl, hg, hb, hnc, hcm, hcs, htk⟩
  · exact ⟨none, 0, by rw [hn], rfl, by omega, Nat.zero_le _, fun hl => absurd hl (by omega)⟩
  · refine ⟨_, _, rfl, rfl, hnc, hcm, fun hl => ⟨g, 0, rfl, (World.ownsRow.lt h g rfl).2, fun i hi => ?_⟩⟩
    rw [Nat.zero_add, World.ownsRow.cellAt h i (by omega)]
    simp [hi]
section
variable {P : Program} {ops : Array Oper} {rest : List Oper} {o : Oper} {a : Act} {Q : Exit → Act → World → Prop}
/-- 'make([]bool, n)'. -/
theorem wpList_zerosB (hgd : o.guard = none) {t e : TypeId} (l c : Operand) (ho : o.op = Op.makeSlice t l c)
    {by_ : Nat} (ht : P.underlying t = some (.slice e)) (hinf : (P.info? e).map (fun i => (i.zero, i.size, i.bytes)) = some (some (.bool false), 1, by_)) (hby : by_ ≤ 1000)
    {w0 wr : World} {kl kc : IntKind} {n : Nat} (hl : a.eval l = .int kl n) (hc : a.eval c = .int kc n) (hbel : Below w0.heap.size w0 wr) (hlen : n < 100000000000)
    (h : ∀ g w', OwnB e w0.heap.size w' (.slice (some ⟨g, 0, none⟩) n n) (List.replicate n false) → Below w0.heap.size w0 w' → wpList P ops Q rest (a.put o.dst (.slice (some ⟨g, 0, none⟩) n n)) w') :
    wpList P ops Q (o :: rest) a wr := by
  obtain ⟨i0, hi, hz0, hz1, hz2⟩ : ∃ i, P.info? e = some i ∧ i.zero = some (.bool false) ∧ i.size = 1 ∧ i.bytes = by_ := by
    cases hh : P.info? e with
    | none => rw [hh] at hinf; cases hinf
    | some i =>
      rw [hh] at hinf
      simp only [Option.map_some, Option.some.injEq, Prod.mk.injEq] at hinf
      exact ⟨i, rfl, hinf.1, hinf.2.1, hinf.2.2⟩
  have hmul : i0.bytes * n ≤ 1000 * n := Nat.mul_le_mul_right _ (by omega)
  refine wpList_make_full _ hgd l c t ho w0.heap.size e i0 (.bool false) 1 ht hi hz0 hz1 kl kc n n n hl hc rfl rfl (by omega) (by unfold maxLen; omega) hbel.size ?_
  intro w' hown hgrow
  refine h _ w' ?_ (hbel.grown hgrow hbel.size (fun j hj => by cases hj))
  have e1 : (madeCells (Value.bool false).cells (n * 1)).toList = (List.replicate n false).map Value.bool := by
    rw [Nat.mul_one, List.map_replicate]
    exact toList_madeCells_one _ _
  rw [e1] at hown
  unfold OwnB
  simpa using hown
end
/-- A list that is filled from the front. -/
theorem fill_bools (f : Nat → Bool) (n j : Nat) (hj : j < n) :
    ((List.range j).map f ++ List.replicate (n - j) false).set j (f j) = (List.range (j + 1)).map f ++ List.replicate (n - (j + 1)) false := by
  have h1 : ((List.range j).map f).length = j := by rw [List.length_map, List.length_range]
  rw [List.set_append_right j _ (by omega), h1, Nat.sub_self, List.range_succ, List.map_append, List.append_assoc]
  congr 1
  obtain ⟨m, hm⟩ : ∃ m, n - j = m + 1 := ⟨n - j - 1, by omega⟩
  rw [hm, show n - (j + 1) = m by omega, List.replicate_succ]
  rfl
theorem fill_no (f : Nat → Bool) (n j : Nat) (hj : j < n) (hf : f j = false) :
    (List.range j).map f ++ List.replicate (n - j) false = (List.range (j + 1)).map f ++ List.replicate (n - (j + 1)) false := by
  rw [List.range_succ, List.map_append, List.append_assoc]
  congr 1
  obtain ⟨m, hm⟩ : ∃ m, n - j = m + 1 := ⟨n - j - 1, by omega⟩
  rw [hm, show n - (j + 1) = m by omega, List.replicate_succ, List.map_cons, List.map_nil, hf]
  rfl
end Go.Proofs.Ytkaldjekjgecbaa
