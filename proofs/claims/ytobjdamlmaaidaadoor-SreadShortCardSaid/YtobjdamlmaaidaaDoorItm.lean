/-
  Lemmas of my own that speak of no program: a range over a method that is handed on as a value (its receiver is bound to it); the loop's variable may lie in a box of the round's own; no round leaves the loop.
-/
import Derived.Test.YtobjdamlmaaidaaDoorItr
namespace Go.Proofs.YtobjdamlmaaidaaDoor
open Go.RowKit Go.Shelf
set_option linter.unusedVariables false

/-- What an iterator promises whose receiver (rv) is bound: for every invariant J of the rounds, if each round keeps what lies below n₀, J holds of all of the elements in the end. -/
def Gives {α : Type} (F : Fence) (n : Nat) (P : Program) (g : Nat) (rv : Array Value) (encs : α → Array Value) (n₀ : Nat) (S : List α → Prop) (N : Nat) (w : World) : Prop :=
  ∀ (l : Nat) (J : List α → World → Prop) (W : World), Below w.heap.size w W → AbidesFrom W.heap.size J →
    (∀ pre x W1, J pre W1 → pre.length < N → YieldAt F (n - 1) P l (encs x) W1 fun e W' => e = .returned (.bool true) ∧ J (pre ++ [x]) W' ∧ Below n₀ W1 W') → J [] W →
    CallsIn F n P g (rv ++ #[.func (.yield l) #[] #[]]) W fun e W' => (∃ v, e = .returned v) ∧ ∃ ys, S ys ∧ J ys W'

variable {F : Fence} {n : Nat} {P : Program}

theorem wpIn_rangeRecv {α : Type} {g : Operand} {ps : Array Tmp} {assign body : Code} {Q : Exit → Act → World → Prop} {a : Act} {w w0 : World} {gf n₀ N : Nat} {rv : Array Value} {encs : α → Array Value} {S : List α → Prop}
    (hro : F.round = none) (h1 : 1 ≤ n) (hg : a.eval g = .func (.func gf) rv #[]) (hF : F.fn gf) (eg : ∀ args w, (callFunc gf args).run P w = .ok (.enter gf args) w)
    (hseq : Gives F (n - 1) P gf rv encs n₀ S N w0) (hn : n₀ ≤ w.heap.size) (hb : Below w0.heap.size w0 w) (hps : ∀ x, (encs x).size = ps.size)
    (I : List α → World → Prop) (hI : OwnFrom w.heap.size I) (hI0 : I [] w)
    (X : α → Act → World → Prop) (hX : ∀ x a', OwnFrom w.heap.size (fun (_ : Unit) W => X x a' W))
    (hassign : ∀ (l : Nat) (pre : List α) (x : α) (W : World) (K : Act → World → Prop), I pre W → pre.length < N → (∀ a' W', KeepsFrom w.heap.size W W' → Below n₀ W W' → I pre W' → X x a' W' → K a' W') →
      assign.wpIn (F.inRound l) (n - 1 - 1) P (Exit.then K (fun _ _ _ => False)) { tmps := (ps.zip (encs x)).foldl (fun t (p, v) => t.setIfInBounds p v) a.tmps, defers := [] } W)
    (hbody : ∀ (l : Nat) (pre : List α) (x : α) (a' : Act) (W : World), I pre W → X x a' W → pre.length < N → body.wpIn (F.inRound l) (n - 1 - 1) P (fun e _ W' => e = .normal ∧ KeepsFrom w.heap.size W W' ∧ Below n₀ W W' ∧ I (pre ++ [x]) W') a' W)
    (hdone : ∀ (D : Nat) (ys : List α) (W : World), w.heap.size ≤ D → S ys → I ys W → W.heap[D]? = some (.deferred (some [])) → Q .normal { a with defers := { target := .collected D, args := #[] } :: a.defers } W) :
    (Code.rangeFunc g ps assign body).wpIn F n P Q a w := by
  have hnl : (w.alloc (.deferred (some []))).heap.size = w.heap.size + 1 := by simp
  refine wpIn_rangeFunc fun fn hfn => ?_
  rw [hro]
  -- the loop's record, ready (r), busy (u), done with (d)
  generalize hr : ({ state := .ready, pending := none, fn := fn, tmps := a.tmps, params := ps, assign := assign, body := body, defers := w.heap.size } : Loop) = r
  have r1 : r.fn = fn ∧ r.tmps = a.tmps ∧ r.params = ps ∧ r.assign = assign ∧ r.body = body ∧ r.state = .ready ∧ r.pending = none := by rw [← hr]; exact ⟨rfl, rfl, rfl, rfl, rfl, rfl, rfl⟩
  generalize hV : (w.alloc (.deferred (some []))).alloc (.loop r) = V
  have v1 : V.heap[w.heap.size + 1]? = some (.loop r) := by
    have h := World.alloc_heap_new (w.alloc (.deferred (some []))) (.loop r)
    rw [hnl] at h
    rw [← hV]
    exact h
  have v0 : V.heap[w.heap.size]? = some (.deferred (some [])) := by
    rw [← hV, Below.heap_alloc _ _ _ (by simp)]
    exact World.alloc_heap_new w _
  have vI : I [] V := by rw [← hV]; exact hI.alloc _ (hI.alloc _ hI0)
  have vb : Below w.heap.size w V := by rw [← hV]; exact ((Below.refl _ w).alloc (Nat.le_refl _) _).alloc (by simp) _
  have vs := vb.size
  refine ⟨w.heap.size + 1, [{ target := .collected w.heap.size, args := #[] }], V, { target := .fn (.func gf) #[], args := rv ++ #[.func (.yield (w.heap.size + 1)) #[] #[]] }, V, gf, rv ++ #[.func (.yield (w.heap.size + 1)) #[] #[]], V, ?_, ?_, ?_, ?_, fun _ => h1, ?_⟩
  · rw [run_enterLoop_outer, hr, hV]
  · simp only [resolve, hg]
    simp [go_sem]
  · intro f' hf'
    simp [Target.leads] at hf'
    exact hf' ▸ hF
  · simp [invoke, go_sem, eg]
  -- what the rounds keep beside I: the record and the block for deferred calls
  have key : ∀ {A B : World} {row : Option Nat}, (∀ k, row = some k → V.heap.size ≤ k ∧ ∃ o : Obj, A.heap[k]? = some o ∧ o.isWalk = true) → ∀ k, row = some k → w.heap.size ≤ k ∧ ∃ o : Obj, A.heap[k]? = some o ∧ o.isCells = false := by
    intro A B row hrow k hk
    obtain ⟨h2, o, ho, hw⟩ := hrow k hk
    exact ⟨Nat.le_trans vs h2, o, ho, Obj.not_cells_of_walk hw⟩
  refine (hseq (w.heap.size + 1) (fun pre W => I pre W ∧ W.heap[w.heap.size + 1]? = some (.loop r) ∧ W.heap[w.heap.size]? = some (.deferred (some []))) V (hb.trans (vb.mono hb.size)) ?_ ?_ ⟨vI, v1, v0⟩).mono ?_
  · rintro s A B row ⟨q1, q2, q3⟩ hgr hrow
    have hw := fun k hk => (hrow k hk).2
    exact ⟨hI s A B row q1 hgr (key (B := B) hrow), by rw [grownBy_keeps hgr hw q2 rfl, q2], by rw [grownBy_keeps hgr hw q3 rfl, q3]⟩
  · rintro pre x W ⟨q1, q2, q3⟩ hlen
    have hy := run_yield (P := P) (args := encs x) q2 (by rw [r1.2.2.1]; exact hps x)
    rw [r1.1, r1.2.1, r1.2.2.1, r1.2.2.2.1, r1.2.2.2.2.1] at hy
    refine ⟨fn, _, assign, body, hy, roundIn_of_wpIn hfn (hassign _ pre x W _ q1 hlen ?_)⟩
    intro a' W1 hk1 hb1 hi1 hx1
    have q4 := hk1.same _ _ (by omega) q2 rfl
    have q5 := hk1.same _ _ (Nat.le_refl _) q3 rfl
    have hlt := (Array.getElem?_eq_some_iff.1 q4).1
    refine ⟨_, run_beginRound q4 r1.2.2.2.2.2.1, ?_⟩
    have q6 : (W1.putObj (w.heap.size + 1) (.loop { r with state := .busy })).heap[w.heap.size + 1]? = some (.loop { r with state := .busy }) := World.putObj_heap_same hlt
    have q7 : (W1.putObj (w.heap.size + 1) (.loop { r with state := .busy })).heap[w.heap.size]? = some (.deferred (some [])) := (World.putObj_heap_other (by omega)).trans q5
    have b2 := belowK_b (n₀ := n₀) hn W1 (w.heap.size + 1) _ (.loop { r with state := .busy }) (by omega) q4 rfl rfl
    refine wpIn_mono (hbody _ pre x a' _ (hI.putObj _ hi1 (by omega) q4 rfl) ((hX x a').putObj (s := ()) _ hx1 (by omega) q4 rfl) hlen) ?_
    rintro e a3 W3 ⟨rfl, hk3, hb3, hi3⟩
    have q8 := hk3.same _ _ (by omega) q6 rfl
    have q9 := hk3.same _ _ (Nat.le_refl _) q7 rfl
    refine ⟨_, _, run_endRound none q8, rfl, ⟨hI.putObj _ hi3 (by omega) q8 rfl, ?_, (World.putObj_heap_other (by omega)).trans q9⟩, (hb1.trans b2).trans (hb3.trans (belowK_b hn W3 _ _ _ (by omega) q8 rfl rfl))⟩
    rw [World.putObj_heap_same (Array.getElem?_eq_some_iff.1 q8).1, ← hr]
    rfl
  · rintro e W2 ⟨⟨v, rfl⟩, ys, hS, q1, q2, q3⟩
    have he := run_endLoop (P := P) q2 (by rw [r1.2.2.2.2.2.1]; simp)
    rw [r1.2.2.2.2.2.2] at he
    exact ⟨none, _, he, hdone _ ys _ (Nat.le_refl _) hS (hI.putObj _ q1 (by omega) q2 rfl) ((World.putObj_heap_other (by omega)).trans q3)⟩
end Go.Proofs.YtobjdamlmaaidaaDoor
