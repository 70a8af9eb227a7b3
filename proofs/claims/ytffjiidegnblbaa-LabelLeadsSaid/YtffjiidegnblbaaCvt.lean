/-
  '[]byte(s)' of a string that is no constant: its octets' row, which the call may write into.
-/
import Derived.Test.YtffjiidegnblbaaBase2
import Derived.Laws.IdiomStrings
namespace Go.Proofs.Ytffjiidegnblbaa
open Go.RowKit
set_option linter.unusedVariables false

structure Cvt (w : World) (g : Nat) (zs : List Int) : Prop where
  row : ∃ cur e, w.heap[g]? = some (.cells cur e (cur.size, cur.size + 1)) ∧ zs.length ≤ cur.size ∧ ∀ j, j < zs.length → cur[j]? = some (.int .u8 (zs.getD j 0))
  wf : ∀ z ∈ zs, (Lit.int .u8 z).wf = true
theorem Cvt.at {w : World} {g : Nat} {zs : List Int} (h : Cvt w g zs) {j : Nat} (hj : j < zs.length) : w.cell? ⟨g, j, none⟩ = some (.int .u8 (zs.getD j 0)) ∧ w.frozen? ⟨g, j, none⟩ = false := by
  obtain ⟨cur, e, h1, h2, h3⟩ := h.row
  refine ⟨?_, ?_⟩
  · simp [World.cell?, h1, h3 j hj]
  · simp [World.frozen?, h1]; omega
theorem Cvt.lt {w : World} {g : Nat} {zs : List Int} (h : Cvt w g zs) : g < w.heap.size := by
  obtain ⟨cur, e, h1, _⟩ := h.row
  exact (Array.getElem?_eq_some_iff.1 h1).1
theorem Cvt.store {w : World} {g : Nat} {zs : List Int} (h : Cvt w g zs) (j : Nat) {y : Int} (hy : (Lit.int .u8 y).wf = true) : Cvt (w.setCell ⟨g, j, none⟩ (.int .u8 y)) g (zs.set j y) := by
  obtain ⟨cur, e, h1, h2, h3⟩ := h.row
  refine ⟨⟨cur.setIfInBounds j (.int .u8 y), e, ?_, by simpa using h2, fun i hi => ?_⟩, fun z hz => ?_⟩
  · simp [World.setCell, Array.getElem?_modify, h1]
  · simp only [List.length_set] at hi
    rw [Array.getElem?_setIfInBounds]
    by_cases hij : j = i
    · subst hij
      rw [if_pos rfl, if_pos (by omega), List.getD_eq_getElem?_getD, List.getElem?_set_self hi]; rfl
    · rw [if_neg hij, h3 i hi, List.getD_eq_getElem?_getD, List.getD_eq_getElem?_getD, List.getElem?_set_ne hij]
  · rcases List.mem_or_eq_of_mem_set hz with hz | rfl
    · exact h.wf z hz
    · exact hy
theorem Cvt.below {w w' : World} {g : Nat} {zs : List Int} (h : Cvt w g zs) (hb : Below w.heap.size w w') : Cvt w' g zs := by
  obtain ⟨cur, e, h1, h2⟩ := h.row
  exact ⟨⟨cur, e, by rw [hb.block g h.lt]; exact h1, h2⟩, h.wf⟩
theorem Cvt.reads {w : World} {g c : Nat} {zs : List Int} (h : Cvt w g zs) (hc : zs.length ≤ c) (hm : c ≤ maxLen) : Reads .u8 w (some ⟨g, 0, none⟩) zs.length c zs :=
  ⟨rfl, hc, hm, h.wf, fun hl => ⟨g, 0, rfl, h.lt, fun i hi => by rw [Nat.zero_add]; exact (h.at hi).1⟩⟩
def octB' (s : ByteArray) : List Int := s.data.toList.map (fun b => (b.toNat : Int))
theorem conv_str {P : Program} {src dst e : TypeId} (hs : P.underlying src = some .string) (hd : P.underlying dst = some (.slice e)) (he : P.underlying e = some (.int .u8)) (w : World) (s : ByteArray) (hl : s.size ≤ 1000000000000) :
    ∃ w' C, (convert src dst (.string s)).run P w = .ok (.slice (some ⟨w.heap.size, 0, none⟩) s.size C) w' ∧ Cvt w' w.heap.size (octB' s) ∧ Below w.heap.size w w' ∧ s.size ≤ C ∧ C ≤ maxLen := by
  have hge := grownCap_ge w s.size 0 e
  have hle := grownCap_le_maxLen w s.size 0 e (by unfold maxLen; omega)
  refine ⟨_, _, run_bytes_of_string w src dst e s hs hd he, ⟨⟨_, _, heap_alloc_new w.drew _, ?_, fun j hj => ?_⟩, fun z hz => ?_⟩, (Below.refl _ _).drew.alloc (Nat.le_refl _) _, hge, hle⟩
  · simp [octB', bytesRow]
  · simp only [octB', List.length_map, Array.length_toList] at hj
    have hj' : j < (s.data.map fun b => Value.int .u8 b.toNat).size := by simpa using hj
    unfold bytesRow
    rw [Array.getElem?_append_left hj', Array.getElem?_map, Array.getElem?_eq_getElem hj, List.getD_eq_getElem?_getD]
    simp only [octB', List.getElem?_map, Array.getElem?_toList, Array.getElem?_eq_getElem hj, Option.map_some, Option.getD_some]
  · unfold octB' at hz
    obtain ⟨b, _, rfl⟩ := List.mem_map.1 hz
    have := b.toNat_lt
    exact mk_u8 (by omega) (by omega)
end Go.Proofs.Ytffjiidegnblbaa
