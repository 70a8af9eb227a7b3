/-
  Lemmas of my own that speak of no program: a slice that is read beside a row of the call's own that grows.
-/
import Derived.Test.YtldmoopdffenfaaDoorBase2
import Derived.Deep.AppendLies
import Derived.Lib.AppendStr
namespace Go.Proofs.YtldmoopdffenfaaDoor
open Go.RowKit
set_option linter.unusedVariables false

/-- The slice (a, len, cap) reads as xs, in another block than v's row. -/
def Bes (k : IntKind) (w : World) (v : Value) (a : Option Addr) (len cap : Nat) (xs : List Int) : Prop :=
  Reads k w a len cap xs ∧ ∀ b off, 0 < len → a = some ⟨b, off, none⟩ → v.ownBlock ≠ some b
theorem Bes.turn {k : IntKind} {w w' : World} {v v' : Value} {a : Option Addr} {len cap : Nat} {xs : List Int} (h : Bes k w v a len cap xs) (hs : w.heap.size ≤ w'.heap.size)
    (hb : ∀ b, b < w.heap.size → v.ownBlock ≠ some b → v'.ownBlock ≠ some b ∧ w'.heap[b]? = w.heap[b]?) : Bes k w' v' a len cap xs := by
  obtain ⟨h, hne⟩ := h
  refine ⟨⟨h.size, h.room, h.top, h.wf, fun hl => ?_⟩, fun b off hl ha => ?_⟩
  · obtain ⟨b, off, ha, hlt, hc⟩ := h.cell hl
    refine ⟨b, off, ha, Nat.lt_of_lt_of_le hlt hs, fun i hi => ?_⟩
    rw [World.cell?_of_block (w := w) (hb b hlt (hne b off hl ha)).2]
    exact hc i hi
  · obtain ⟨b', off', ha', hlt, _⟩ := h.cell hl
    rw [ha] at ha'
    cases ha'
    exact (hb b hlt (hne b off hl ha)).1
theorem Bes.piece {k : IntKind} {w : World} {v : Value} {a : Option Addr} {len cap : Nat} {xs : List Int} (h : Bes k w v a len cap xs) {l r : Nat} (hlr : l ≤ r) (hr : r ≤ len) :
    Bes k w v (if cap = l then a else a.map (·.add l)) (r - l) (cap - l) ((xs.take r).drop l) := by
  obtain ⟨h, hne⟩ := h
  refine ⟨h.piece hlr hr, fun b off hl ha => ?_⟩
  have hrm := h.room
  obtain ⟨b', off', ha', _⟩ := h.cell (by omega)
  rw [if_neg (by omega), ha'] at ha
  simp [Addr.add_lit] at ha
  exact ha.1 ▸ hne b' off' (by omega) ha'
theorem Bes.below {k : IntKind} {w w' : World} {v : Value} {a : Option Addr} {len cap : Nat} {xs : List Int} (h : Bes k w v a len cap xs) (hb : Below w.heap.size w w') : Bes k w' v a len cap xs :=
  ⟨h.1.below hb, h.2⟩
section
variable {P : Program} {ops : Array Oper} {rest : List Oper} {o : Oper} {a : Act} {Q : Exit → Act → World → Prop} {t e : TypeId} {k : IntKind} {by_ : Nat}
/-- 'append(v, y)': what is read beside v stays beside it. -/
theorem wpList_pushA (ST : SliceT P t e k by_) (hgd : o.guard = none) (s x : Operand) (ho : o.op = .call { callee := .builtin .append, args := #[s, x], argTypes := #[t, t] })
    {B : Nat} {w0 wr : World} {e' : TypeId} {y : Int} {v : Value} {xs : List Int} (hs : a.eval s = v) (hx : ∃ c, a.eval x = .slice (some ⟨wr.heap.size, 0, none⟩) 1 c)
    (hown : Own k e B wr v xs) (hB : B ≤ wr.heap.size) (hbel : Below B w0 wr) (hlen : xs.length < 1000000000000) (hwf : (Lit.int k y).wf = true)
    (h : ∀ v' w', Own k e B w' v' (xs ++ [y]) → Below B w0 w' → (∀ (k2 : IntKind) ao n c zs, Bes k2 wr v ao n c zs → Bes k2 w' v' ao n c zs) → wpList P ops Q rest (a.put o.dst v') w') :
    wpList P ops Q (o :: rest) a (wr.alloc (.cells #[.int k y] e')) := by
  obtain ⟨i, hi, hz0, hz1, hz2⟩ := info_parts ST.info
  obtain ⟨c, hx⟩ := hx
  have hsm := ST.small
  have hmul : (xs.length + 1) * by_ ≤ (xs.length + 1) * 8 := Nat.mul_le_mul_left _ hsm
  refine wpList_append_lies _ hgd s x t ho B e i (.int k 0) 1 by_ ST.under hi hz0 hz1 hz2 rfl (by decide) v xs.length (xs.map (Value.int k)) hs (hown.1.alloc _) ⟨wr.heap.size, 0, none⟩ 1 c [.int k y] hx rfl ?_ ?_ (by omega) (by unfold maxLen; omega) (by omega)
    (Nat.le_trans hB (by simp)) (wr.heap.size + 1) (by simp) ?_
  · intro j u hj
    match j, hj with
    | 0, hj => simp at hj; subst hj; simp [Addr.add]
  · intro u hu; simp at hu; subst hu; rfl
  · intro g cap w' hown' hgrow hat hlt
    refine h _ w' ⟨by simpa using hown', ?_⟩ ((hbel.alloc hB _).grown hgrow (Nat.le_trans hB (by simp)) (fun j hj => (hown.1.lt j hj).1)) ?_
    · intro z hz
      rcases List.mem_append.1 hz with hz | hz
      · exact hown.2 z hz
      · simp at hz; subst hz; exact hwf
    · intro k2 ao n c2 zs hb
      refine hb.turn (Nat.le_trans (by simp) hgrow.size) fun b hbl hne => ⟨?_, ?_⟩
      · show some g ≠ some b
        rintro ⟨rfl⟩
        rcases hat with hat | hat
        · exact hne hat
        · omega
      · rw [hgrow.block b (by simp; omega) (fun hh => hne hh.symm)]
        exact heap_alloc_old wr _ hbl
/-- 'append(v, s...)', s a string. -/
theorem wpList_moreA {st : TypeId} (ST : SliceT P t e .u8 1) (hgd : o.guard = none) (s x : Operand) (hst : P.underlying st = some .string) (ho : o.op = .call { callee := .builtin .append, args := #[s, x], argTypes := #[t, st] })
    {B : Nat} {w0 wr : World} {v : Value} {xs : List Int} (ys : List Int) {S : ByteArray} (hs : a.eval s = v) (hx : a.eval x = .string S) (hS : Lib.strCells S = ys.map (Value.int .u8))
    (hown : Own .u8 e B wr v xs) (hB : B ≤ wr.heap.size) (hbel : Below B w0 wr) (hlen : xs.length + ys.length < 1000000000000) (hwf : ∀ y ∈ ys, (Lit.int .u8 y).wf = true)
    (h : ∀ v' w', Own .u8 e B w' v' (xs ++ ys) → Below B w0 w' → (∀ (k2 : IntKind) ao n c zs, Bes k2 wr v ao n c zs → Bes k2 w' v' ao n c zs) → wpList P ops Q rest (a.put o.dst v') w') :
    wpList P ops Q (o :: rest) a wr := by
  obtain ⟨i, hi, hz0, hz1, hz2⟩ := info_parts ST.info
  have hSl : S.size = ys.length := by rw [← Lib.strCells_length, hS, List.length_map]
  refine wpList_plain hgd fun K hK => ?_
  obtain ⟨v', w', hr, h2, h3, h4⟩ := Lib.run_append_own_string (P := P) wr B t st o.type e i ST.under hst hi hz0 hz1 hz2 v xs.length (xs.map (Value.int .u8)) hown.1 S (by unfold maxLen; omega) (by omega) hB
  have hat : v'.ownBlock = v.ownBlock ∨ v'.ownBlock = some wr.heap.size := by
    rcases hown.1.2 with ⟨rfl, hn⟩ | ⟨g, cap, cur, rfl, hbg, hg, hnc, hcm, hcs, htk⟩
    · by_cases hm : S.size = 0
      · exact .inl (by rw [h4.2 ⟨rfl, hm⟩])
      · have hr2 := run_append_nil_string (P := P) wr t st o.type e i (.int .u8 0) ST.under hst hi hz0 S (by omega) (by omega) (by rw [hz2]; omega)
        injection hr2.symm.trans hr with e1 _
        exact .inr (by rw [← e1]; rfl)
    · by_cases hroom : xs.length + S.size ≤ cap
      · have hr2 := Lib.run_append_room_string (P := P) wr t st o.type e i ST.under hst hi hz1 g xs.length cap cur hg S hroom (by simp at hcs; omega)
        injection hr2.symm.trans hr with e1 _
        exact .inl (by rw [← e1]; rfl)
      · have hr2 := Lib.run_append_grow_string (P := P) wr t st o.type e i (.int .u8 0) ST.under hst hi hz0 ⟨g, 0, none⟩ xs.length cap (xs.map (Value.int .u8)) (by rw [hz1]; simp) (hown.1.cells (g := g) rfl) S (by omega) (by omega) (by rw [hz2]; exact growslice_fits (by omega) (by omega))
        injection hr2.symm.trans hr with e1 _
        exact .inr (by rw [← e1]; rfl)
  unfold Oper.wp execOp
  simp only [ho, resolve, invoke, builtin, Sem.run_bind, Sem.run_pure, Result.andThen_ok, List.map_toArray, List.map_cons, List.map_nil, hs, hx, hr]
  refine hK _ _ (h v' w' ⟨by rw [List.map_append, ← hS, List.length_append, ← hSl]; exact h2, ?_⟩ (hbel.grown h3 hB (fun j hj => (hown.1.lt j hj).1)) ?_)
  · intro z hz
    rcases List.mem_append.1 hz with hz | hz
    · exact hown.2 z hz
    · exact hwf z hz
  · intro k2 ao n c2 zs hb
    refine hb.turn h3.size fun b hbl hne => ⟨?_, h3.block b hbl (fun hh => hne hh.symm)⟩
    rcases hat with hat | hat
    · rw [hat]; exact hne
    · rw [hat]; rintro ⟨rfl⟩; omega
end
end Go.Proofs.YtldmoopdffenfaaDoor
