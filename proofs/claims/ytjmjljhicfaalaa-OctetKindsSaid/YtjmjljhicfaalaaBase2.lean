/-
  More lemmas of my own that speak of no program.
-/
import Derived.Test.YtjmjljhicfaalaaBase
import Derived.Lib.SlBytesConst
namespace Go.Proofs.Ytjmjljhicfaalaa
open Go.RowKit

theorem reads_of_ints {k : IntKind} {w : World} {x : Addr} {len cap : Nat} {zs : List Int} (hl : len ≤ cap) (hm : cap ≤ maxLen) (hz : zs.length = cap)
    (hcell : ∀ i, i < zs.length → w.cell? (x.add i) = some (.int k (zs.getD i 0))) (hwz : ∀ n ∈ zs, (Lit.int k n).wf = true) : Reads k w (some x) len cap (zs.take len) :=
  ⟨by simp; omega, hl, hm, fun y hy => hwz y (List.mem_of_mem_take hy), fun hpos => by
    obtain ⟨b, off, rfl, hc⟩ := ints_at hcell (by omega)
    have h0 := hc 0 (by omega)
    refine ⟨b, off, rfl, World.block_lt_of_cell? w _ h0, fun i hi => ?_⟩
    rw [hc i (by omega)]
    simp [hi]⟩

/-- A constant's row, marked. -/
theorem Reads_lit (k : IntKind) (e : TypeId) (fz : Nat × Nat) (w : World) (xs : List Int) (hm : xs.length ≤ maxLen) (hwf : ∀ x ∈ xs, (Lit.int k x).wf = true) :
    Reads k (w.alloc (.cells (xs.map (Value.int k)).toArray e fz)) (some ⟨w.heap.size, 0, none⟩) xs.length xs.length xs :=
  ⟨rfl, Nat.le_refl _, hm, hwf, fun hl => ⟨w.heap.size, 0, rfl, by simp, fun i hi => by
    have hb : (w.alloc (.cells (xs.map (Value.int k)).toArray e fz)).heap[w.heap.size]? = some (.cells (xs.map (Value.int k)).toArray e fz) := heap_alloc_new w _
    rw [cell_of_row _ _ _ _ _ _ hb]
    simp [hi]⟩⟩

/-- '[]byte("..")' of a constant, the n-th in a row. -/
theorem conv0 {P : Program} {t e : TypeId} (ht : P.underlying t = some (.slice e)) (he : P.underlying e = some (.int .u8)) (w : World) (C : Array Value) (n c : Nat) :
    (convert t t (.slice (some ⟨w.heap.size, 0, none⟩) n c)).run P (w.alloc (.cells C e)) = .ok (.slice (some ⟨w.heap.size, 0, none⟩) n c) (w.alloc (.cells C e (C.size, C.size + 1))) :=
  Lib.run_convert_bytes_const w t e C n c ht he
theorem conv1 {P : Program} {t e : TypeId} (ht : P.underlying t = some (.slice e)) (he : P.underlying e = some (.int .u8)) (w : World) (o : Obj) (C : Array Value) (n c : Nat) :
    (convert t t (.slice (some ⟨w.heap.size + 1, 0, none⟩) n c)).run P ((w.alloc o).alloc (.cells C e)) = .ok (.slice (some ⟨w.heap.size + 1, 0, none⟩) n c) ((w.alloc o).alloc (.cells C e (C.size, C.size + 1))) := by
  have := Lib.run_convert_bytes_const (P := P) (w.alloc o) t e C n c ht he
  simpa using this
theorem conv2 {P : Program} {t e : TypeId} (ht : P.underlying t = some (.slice e)) (he : P.underlying e = some (.int .u8)) (w : World) (o o' : Obj) (C : Array Value) (n c : Nat) :
    (convert t t (.slice (some ⟨w.heap.size + 2, 0, none⟩) n c)).run P (((w.alloc o).alloc o').alloc (.cells C e)) = .ok (.slice (some ⟨w.heap.size + 2, 0, none⟩) n c) (((w.alloc o).alloc o').alloc (.cells C e (C.size, C.size + 1))) := by
  have := Lib.run_convert_bytes_const (P := P) ((w.alloc o).alloc o') t e C n c ht he
  simpa using this

theorem below_then {a b c : World} (h : Below a.heap.size a b) (h' : Below b.heap.size b c) : Below a.heap.size a c := h.trans (h'.mono h.size)
theorem below_then' {a b c : World} {B : Nat} (h : Below B a b) (h' : Below b.heap.size b c) (hB : B ≤ a.heap.size) : Below B a c := h.trans (h'.mono (Nat.le_trans hB h.size))

end Go.Proofs.Ytjmjljhicfaalaa
