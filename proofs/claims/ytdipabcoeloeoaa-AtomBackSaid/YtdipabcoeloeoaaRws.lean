/-
  Lemmas of my own that speak of no program: slices of slices of octets, read; as an argument.
-/
import Derived.Deep.Matrix
import Derived.Test.YtdipabcoeloeoaaBase2
namespace Go.Proofs.Ytdipabcoeloeoaa
open Go.RowKit
set_option linter.unusedVariables false

/-! ### slices of slices, read -/
structure Rws (W : World) (a : Option Addr) (n c : Nat) (xss : List (List Int)) : Prop where
  size : xss.length = n
  room : n ≤ c
  top : c ≤ maxLen
  cell : 0 < n → ∃ b off, a = some ⟨b, off, none⟩ ∧ b < W.heap.size ∧ ∀ (i : Nat) (xs : List Int), xss[i]? = some xs → ∃ ai li ci, W.cell? ⟨b, off + i, none⟩ = some (.slice ai li ci) ∧ Reads .u8 W ai li ci xs
theorem Rws.below {W W' : World} {a : Option Addr} {n c : Nat} {xss : List (List Int)} (h : Rws W a n c xss) (hb : Below W.heap.size W W') : Rws W' a n c xss :=
  ⟨h.size, h.room, h.top, fun hl => by
    obtain ⟨b, off, ha, hlt, hc⟩ := h.cell hl
    refine ⟨b, off, ha, Nat.lt_of_lt_of_le hlt hb.size, fun i xs hi => ?_⟩
    obtain ⟨ai, li, ci, h1, h2⟩ := hc i xs hi
    exact ⟨ai, li, ci, (hb.cell (p := ⟨b, off + i, none⟩) hlt).trans h1, h2.below hb⟩⟩
theorem Rws.get {W : World} {a : Option Addr} {n c : Nat} {xss : List (List Int)} (h : Rws W a n c xss) {i : Nat} (hi : i < n) :
    ∃ b off xs ai li ci, a = some ⟨b, off, none⟩ ∧ b < W.heap.size ∧ W.cell? ⟨b, off + i, none⟩ = some (.slice ai li ci) ∧ Reads .u8 W ai li ci xs ∧ xss[i]? = some xs ∧ xss.take (i + 1) = xss.take i ++ [xs] := by
  have hx : i < xss.length := by rw [h.size]; exact hi
  obtain ⟨b, off, ha, hlt, hc⟩ := h.cell (by omega)
  obtain ⟨ai, li, ci, h1, h2⟩ := hc i _ (List.getElem?_eq_getElem hx)
  exact ⟨b, off, _, ai, li, ci, ha, hlt, h1, h2, List.getElem?_eq_getElem hx, by rw [List.take_succ_eq_append_getElem hx]⟩
/-- An argument of slices of octets, opened. -/
theorem rws_open {H : Type} {enc : TypeId × Value → H} {P : Program} {w : World} {t e q : TypeId} (ht : P.underlying t = some (.slice e)) (he : P.underlying e = some (.slice q)) (hq : P.underlying q = some (.int .u8)) (ce : P.cellsOf e = 1) (cq : P.cellsOf q = 1)
    {fuel : Nat} {a : Option Addr} {len cap : Nat} {x : DataW H × List MemPlace} (h : DataW.trod enc P w 0 (fun _ => true) true fuel t [.slice a len cap] = some x) : ∃ xss, Rws w a len cap xss := by
  rcases Go.Deep.open_int_rows ht he hq ce cq h with ⟨hcs, _⟩ | ⟨a', l', c', A, L, C, Z, hcs, _, hl, hm, _, hr⟩
  · simp at hcs
    obtain ⟨rfl, rfl, rfl⟩ := hcs
    exact ⟨[], rfl, Nat.le_refl _, Nat.zero_le _, fun hh => by omega⟩
  · simp at hcs
    obtain ⟨rfl, rfl, rfl⟩ := hcs
    refine ⟨(List.range len).map fun r => (Z r).take (L r), by simp, hl, hm, fun hpos => ?_⟩
    obtain ⟨b, off, spot⟩ := a'
    have h0 := (hr 0 (by omega)).1
    have hspot : spot = none := by simpa [Addr.add] using World.cell?_spot h0
    subst hspot
    refine ⟨b, off, rfl, World.block_lt_of_cell? w _ h0, fun i xs hi => ?_⟩
    have hil : i < len := by
      have := (List.getElem?_eq_some_iff.1 hi).1
      simpa using this
    obtain ⟨r1, r2, r3, r4, r5, r6, r7⟩ := hr i (by omega)
    have hx : (Z i).take (L i) = xs := by
      rw [List.getElem?_map, List.getElem?_range hil] at hi
      exact Option.some.inj hi
    refine ⟨A i, L i, C i, by rw [← Go.WideShapes.add_plain]; exact r1, ?_⟩
    rw [← hx]
    cases hA : A i with
    | none =>
      have hC := r6 hA
      have hL : L i = 0 := by omega
      rw [hL, List.take_zero]
      exact Reads.nil _ _ _ _ r3
    | some a2 =>
      exact reads_of_ints r2 r3 r4 (fun c hc => (r7 a2 hA).2 c (by omega)) r5
end Go.Proofs.Ytdipabcoeloeoaa
