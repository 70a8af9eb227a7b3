/-
  Texts of ours laid together: C14.
-/
import Derived.Test.YtdglnpkkfkagaaaGreatRows
import Derived.Lib.Bytealg
import Derived.Laws.CopyOwn
import Derived.IntWalk
import Derived.Test.YtdglnpkkfkagaaaGreatZ27

/-! C14 -/
namespace Go.Proofs.YtdglnpkkfkagaaaGreat
open Go.RowKit
set_option linter.unusedVariables false
set_option maxRecDepth 100000

abbrev digS64 : ByteArray := { data := #[65, 66, 67, 68, 69, 70, 71, 72, 73, 74, 75, 76, 77, 78, 79, 80, 81, 82, 83, 84, 85, 86, 87, 88, 89, 90, 97, 98, 99, 100, 101, 102, 103, 104, 105, 106, 107, 108, 109, 110, 111, 112, 113, 114, 115, 116, 117, 118, 119, 120, 121, 122, 48, 49, 50, 51, 52, 53, 54, 55, 56, 57, 43, 47] }
theorem digS64_fin : ∀ k : Fin 64, ((digS64.data[k.val]'(by have := k.isLt; simp)).toNat : Int) = dg64 (k.val : Int) := by decide +kernel
theorem digS64_get (k : Nat) (h : k < digS64.size) : ((digS64[k]'h).toNat : Int) = dg64 k := digS64_fin ⟨k, h⟩
theorem and63 (n : Int) : bits .and .i64 n 63 = n % 64 := by
  show IntKind.i64.wrap ((BitVec.ofInt 64 n &&& BitVec.ofInt 64 63).toNat : Int) = _
  rw [BitVec.toNat_and, BitVec.toNat_ofInt, BitVec.toNat_ofInt]
  rw [show ((63 : Int) % (2 ^ 64 : Nat)).toNat = 2 ^ 6 - 1 by decide, Nat.and_two_pow_sub_one_eq_mod]
  rw [IntWalk.i64_in _ (by omega)]
  omega
/-- The place of a digit in the alphabet, or -1. -/
def at64 (c : Int) : Int := if isDig c then valI c else -1
theorem idx64_fin : ∀ c : Fin 256, Lib.indexByte digS64.data.toList (c.val.toUInt8) = at64 (c.val : Int) := by decide +kernel
theorem idx64 (c : Int) (h0 : 0 ≤ c) (h1 : c ≤ 255) : Lib.indexByte digS64.data.toList c.toNat.toUInt8 = at64 c := by
  have := idx64_fin ⟨c.toNat, by omega⟩
  simp only at this
  rwa [show ((c.toNat : Nat) : Int) = c by omega] at this

set_option maxHeartbeats 1000000 in
theorem bcode_Digit (n : Int) (w : World) :
    Calls Tryz.prog 144 #[.int .i64 n] w fun e w' => e = .returned (.int .u8 (dg64 (n % 64))) ∧ w = w' := by
  obtain ⟨m, hm⟩ : ∃ m : Nat, n % 64 = (m : Int) := ⟨(n % 64).toNat, by omega⟩
  have ha : bits .and .i64 n 63 = (m : Int) := by rw [and63, hm]
  have hlt : m < 64 := by omega
  rw [hm]
  clear hm
  go_enter Tryz.func144, Tryz.ntmps144
  go_wp2
  go_ret
  exact ⟨ret_int (digS64_get m _), rfl⟩
theorem ibS (s : ByteArray) (c : Int) (w : World) : (callFunc 159 #[.string s, .int .u8 c]).run Tryz.prog w = .ok (.value (.int .i64 (Lib.indexByte s.data.toList c.toNat.toUInt8))) w := by
  rw [run_callFunc_extern (fn := Tryz.f159) (e := Extern.BytealgIndexByte.indexByte) (by kernel_rfl) (by kernel_rfl) (by kernel_rfl) (by kernel_rfl) (by kernel_rfl)]
  rw [Lib.run_indexByteString]; rfl
set_option maxHeartbeats 1000000 in
theorem bcode_Len (n : Int) (w : World) (hn : n ≤ 1099511627776) :
    Calls Tryz.prog 98 #[.int .i64 n] w fun e w' => e = .returned (.int .i64 (lenB n)) ∧ w = w' := by
  unfold lenB
  by_cases h : n < 1
  · go_enter Tryz.func98, Tryz.ntmps98
    go_wp2
    go_ret
    exact ⟨ret_int (by first | rfl | rw [if_pos h]), rfl⟩
  · have h1 : 1 ≤ n := by omega
    rw [if_neg h]
    clear h
    go_enter Tryz.func98, Tryz.ntmps98
    go_wp2
    all_goals
      go_ret
      exact ⟨ret_int (by omega), rfl⟩
theorem or3 (a b c : Int) (ha0 : 0 ≤ a) (ha1 : a ≤ 255) (hb0 : 0 ≤ b) (hb1 : b ≤ 255) (hc0 : 0 ≤ c) (hc1 : c ≤ 255) : bits .or .i64 (bits .or .i64 (a * 65536) (b * 256)) c = a * 65536 + b * 256 + c := by
  rw [or_i64 16 (a * 65536) (b * 256) (by omega) (by omega) (by omega) (by omega) (by omega), or_i64 8 _ c (by omega) (by omega) (by omega) (by omega) (by omega)]
theorem heap_two (w : World) (x y : Obj) : ((w.alloc x).alloc y).heap[w.heap.size + 1]? = some y := by
  rw [show w.heap.size + 1 = (w.alloc x).heap.size by simp]; exact heap_alloc_last _ _
theorem rowCell {w : World} {g : Nat} {L : List Value} {t : TypeId} {fz : Nat × Nat} (h : w.heap[g]? = some (.cells L.toArray t fz)) {j : Nat} {v : Value} (hj : L[j]? = some v) : w.cell? ⟨g, j, none⟩ = some v := by
  simp [World.cell?, h, hj]
/-- The digits of a group, filled up from the place behind the last octet on (so far as place k). -/
def rowD (m k : Nat) (q0 q1 q2 q3 : Int) : List Int := [q0, q1, if m < 2 ∧ 2 < k then 61 else q2, if m < 3 ∧ 3 < k then 61 else q3]
theorem rowD_set {m k : Nat} {q0 q1 q2 q3 : Int} (h2 : 2 ≤ k) (hm : m < k) (h4 : k < 4) : (rowD m k q0 q1 q2 q3).set k 61 = rowD m (k + 1) q0 q1 q2 q3 := by
  have hk : k = 2 ∨ k = 3 := by omega
  rcases hk with rfl | rfl
  · simp [rowD, show m < 2 from hm]
  · by_cases h : m < 2 <;> simp [rowD, h, show m < 3 from hm]
/-- Two blocks more: what was there stands; the second one's first cells are the row. -/
theorem two_alloc (w : World) (x y : Obj) : Below w.heap.size w ((w.alloc x).alloc y) := ((Below.refl _ _).alloc (Nat.le_refl _) _).alloc (by simp) _
set_option maxHeartbeats 4000000 in
theorem bcode_laidM (b off m cap : Nat) (c0 c1 c2 : Int) (cs : List Value) (w : World) (hm : m = 1 ∨ m = 2 ∨ m = 3) (hcs : cs.length = m) (hone : ∀ v ∈ cs, v.oneCell' = true) (hbl : b < w.heap.size)
    (hsrc : ∀ j v, cs[j]? = some v → w.cell? ⟨b, off + j, none⟩ = some v) (hspl : splice [Value.int .u8 0, .int .u8 0, .int .u8 0] 0 cs = [.int .u8 c0, .int .u8 c1, .int .u8 c2]) (h0 : O8 c0) (h1 : O8 c1) (h2 : O8 c2) :
    Calls Tryz.prog 131 #[.slice (some ⟨b, off, none⟩) m cap] w fun e w' => e = .returned (.agg #[.int .u8 (dg64 (c0 / 4)), .int .u8 (dg64 (c0 % 4 * 16 + c1 / 16)), .int .u8 (if m < 2 then 61 else dg64 (c1 % 16 * 4 + c2 / 64)), .int .u8 (if m < 3 then 61 else dg64 (c2 % 64))]) ∧ Below w.heap.size w w' := by
  unfold O8 at h0 h1 h2
  have hor := or3 c0 c1 c2 h0.1 h0.2 h1.1 h1.2 h2.1 h2.2
  have hu0 : 0 ≤ c0 := h0.1
  have hu1 : c0 ≤ 255 := h0.2
  have hv0 : 0 ≤ c1 := h1.1
  have hv1 : c1 ≤ 255 := h1.2
  have hw0 : 0 ≤ c2 := h2.1
  have hw1 : c2 ≤ 255 := h2.2
  have HS := hid (fun (x y : Obj) j v (hv : cs[j]? = some v) => (show (((w.alloc x).alloc y).cell? ((⟨b, off, none⟩ : Addr).add j) = some v) by rw [Addr.add_lit, (two_alloc w x y).cell (p := ⟨b, off + j, none⟩) hbl]; exact hsrc j v hv))
  have HP := hid hspl
  have HC := hid hcs
  have HO := hid hone
  clear h0 h1 h2 hsrc hspl hcs hone
  obtain ⟨V, hV⟩ : ∃ V, V = c0 * 65536 + c1 * 256 + c2 := ⟨_, rfl⟩
  rw [← hV] at hor
  have hV0 : 0 ≤ V := by omega
  have hV1 : V ≤ 16777215 := by omega
  have E0 : Hid (V / 262144 % 64 = c0 / 4) := by unfold Hid; omega
  have E1 : Hid (V / 4096 % 64 = c0 % 4 * 16 + c1 / 16) := by unfold Hid; omega
  have E2 : Hid (V / 64 % 64 = c1 % 16 * 4 + c2 / 64) := by unfold Hid; omega
  have E3 : Hid (V % 64 = c2 % 64) := by unfold Hid; omega
  have HW := hid (show ∀ z ∈ [dg64 (V / 262144 % 64), dg64 (V / 4096 % 64), dg64 (V / 64 % 64), dg64 (V % 64)], (Lit.int .u8 z).wf = true by
    intro z hz
    simp only [List.mem_cons, List.not_mem_nil, or_false] at hz
    rcases hz with rfl | rfl | rfl | rfl <;> exact dg_wf ⟨by omega, by omega⟩)
  clear hV
  rcases hm with rfl | rfl | rfl
  · go_enter Tryz.func131, Tryz.ntmps131
    go_wp2_with (first
      | (refine wpList_copy_splice rfl (.tmp 7) (.tmp 8) 42 42 rfl 5 Tryz.underlying42 (by kernel_rfl) (some ⟨w.heap.size + 1, 0, none⟩) (some ⟨b, off, none⟩) 3 3 1 cap rfl rfl (w.heap.size + 1) 0 [.int .u8 0, .int .u8 0, .int .u8 0] 151 (heap_two w _ _) cs (by rw [HC.out]; decide) (fun _ => ⟨rfl, _, rfl, HS.out _ _⟩) (by rw [HC.out]; decide) HO.out (w.heap.size + 1) (w.alloc (.cells #[.int .u8 0, .int .u8 0, .int .u8 0, .int .u8 0] 138)) ((Below.refl _ _).alloc (by simp) _) (by omega) ?_; intro w2 HG2 hB2; rw [HP.out] at HG2; have k0 := rowCell HG2.out (j := 0) rfl; have k1 := rowCell HG2.out (j := 1) rfl; have k2 := rowCell HG2.out (j := 2) rfl; clear HG2)
      | (go_at_call 144; (with_reducible refine (bcode_Digit _ _).mono ?_); rintro e w' ⟨rfl, rfl⟩)
      | (refine wpList_storeNew (w0 := w2) .u8 [dg64 (V / 262144 % 64), dg64 (V / 4096 % 64), dg64 (V / 64 % 64), dg64 (V % 64)] _ _ _ rfl rfl _ rfl rfl rfl (by kernel_rfl) rfl ?_))
    have ho0 := Own.ofLit .u8 138 w2 [dg64 (V / 262144 % 64), dg64 (V / 4096 % 64), dg64 (V / 64 % 64), dg64 (V % 64)] (by simp [maxLen]) HW.out
    have hres : w2.heap[w.heap.size]? = some (.cells #[.int .u8 0, .int .u8 0, .int .u8 0, .int .u8 0] 138 (0, 0)) := (hB2.block w.heap.size (by omega)).trans (heap_alloc_last w _)
    have hlt2 : w.heap.size < w2.heap.size := by have := hB2.size; simp at this; omega
    have HRES := hid hres
    clear hres
    go_loopw [6] (fun i wr => ∃ k : Nat, 2 ≤ k ∧ k ≤ 4 ∧ i = .int .i64 k ∧ Own .u8 138 w2.heap.size wr (.slice (some ⟨w2.heap.size, 0, none⟩) 4 4) (rowD 1 k (dg64 (V / 262144 % 64)) (dg64 (V / 4096 % 64)) (dg64 (V / 64 % 64)) (dg64 (V % 64))) ∧ Below w2.heap.size w2 wr) (fun i _ => 4 - (intOf i).toNat)
    case atStart => exact ⟨2, by omega, by omega, rfl, ho0, (Below.refl _ _).alloc (Nat.le_refl _) _⟩
    case round =>
      obtain ⟨k, hk0, hk1, rfl, hown, hbel⟩ := hrel
      by_cases hlt : k < 4
      · obtain ⟨hcell, hfz⟩ := hown.at (j := k) hlt
        obtain ⟨ho2, hb2⟩ := hown.store hbel k (y := 61) (by decide)
        rw [rowD_set (by omega) (by omega) hlt] at ho2
        have HO2 := hid ho2
        clear ho2
        go_wp2_with fail
        go_roundw
        case rel => exact ⟨k + 1, by omega, by omega, by go_num, HO2.out, hb2⟩
        case measure => simp [intOf]; omega
      · obtain rfl : k = 4 := by omega
        rw [show rowD 1 4 (dg64 (V / 262144 % 64)) (dg64 (V / 4096 % 64)) (dg64 (V / 64 % 64)) (dg64 (V % 64)) = [dg64 (V / 262144 % 64), dg64 (V / 4096 % 64), 61, 61] by simp [rowD]] at hown
        have hrow := hid (hown.whole (by decide))
        have hsz : Hid ((Tryz.prog.info? 138).map (·.size) = some 4) := by unfold Hid; kernel_rfl
        have hr2 := hid ((hbel.block w.heap.size hlt2).trans HRES.out)
        go_wp2_with (first
          | (refine wpList_load_row rfl 138 (.tmp 5) rfl w2.heap.size _ rfl _ _ hrow.out 4 5 Tryz.underlying138 hsz.out ?_)
          | (refine wpList_store_row rfl 138 (.tmp 2) (.tmp 44) rfl w.heap.size _ rfl rfl _ _ hr2.out hsz.out rfl (ints_one .u8 [dg64 (V / 262144 % 64), dg64 (V / 4096 % 64), 61, 61]) ?_))
        refine bodyPost_ret (results_cell rfl _ _ _ w.heap.size _ _ _ rfl (setRow_heap wr w.heap.size _ _ _ _ hr2.out) 4 5 Tryz.underlying138 hsz.out) rfl ?_
        refine ⟨by rw [E0.out, E1.out], ?_⟩
        exact (((Below.refl _ _).alloc (Nat.le_refl _) _).trans (hB2.mono (by omega))).trans (hbel.mono (by omega)) |>.trans ⟨rfl, rfl, rfl, by simp [World.setRow], fun k hk => setRow_other wr w.heap.size k _ (by omega)⟩
  · go_enter Tryz.func131, Tryz.ntmps131
    go_wp2_with (first
      | (refine wpList_copy_splice rfl (.tmp 7) (.tmp 8) 42 42 rfl 5 Tryz.underlying42 (by kernel_rfl) (some ⟨w.heap.size + 1, 0, none⟩) (some ⟨b, off, none⟩) 3 3 2 cap rfl rfl (w.heap.size + 1) 0 [.int .u8 0, .int .u8 0, .int .u8 0] 151 (heap_two w _ _) cs (by rw [HC.out]; decide) (fun _ => ⟨rfl, _, rfl, HS.out _ _⟩) (by rw [HC.out]; decide) HO.out (w.heap.size + 1) (w.alloc (.cells #[.int .u8 0, .int .u8 0, .int .u8 0, .int .u8 0] 138)) ((Below.refl _ _).alloc (by simp) _) (by omega) ?_; intro w2 HG2 hB2; rw [HP.out] at HG2; have k0 := rowCell HG2.out (j := 0) rfl; have k1 := rowCell HG2.out (j := 1) rfl; have k2 := rowCell HG2.out (j := 2) rfl; clear HG2)
      | (go_at_call 144; (with_reducible refine (bcode_Digit _ _).mono ?_); rintro e w' ⟨rfl, rfl⟩)
      | (refine wpList_storeNew (w0 := w2) .u8 [dg64 (V / 262144 % 64), dg64 (V / 4096 % 64), dg64 (V / 64 % 64), dg64 (V % 64)] _ _ _ rfl rfl _ rfl rfl rfl (by kernel_rfl) rfl ?_))
    have ho0 := Own.ofLit .u8 138 w2 [dg64 (V / 262144 % 64), dg64 (V / 4096 % 64), dg64 (V / 64 % 64), dg64 (V % 64)] (by simp [maxLen]) HW.out
    have hres : w2.heap[w.heap.size]? = some (.cells #[.int .u8 0, .int .u8 0, .int .u8 0, .int .u8 0] 138 (0, 0)) := (hB2.block w.heap.size (by omega)).trans (heap_alloc_last w _)
    have hlt2 : w.heap.size < w2.heap.size := by have := hB2.size; simp at this; omega
    have HRES := hid hres
    clear hres
    go_loopw [6] (fun i wr => ∃ k : Nat, 3 ≤ k ∧ k ≤ 4 ∧ i = .int .i64 k ∧ Own .u8 138 w2.heap.size wr (.slice (some ⟨w2.heap.size, 0, none⟩) 4 4) (rowD 2 k (dg64 (V / 262144 % 64)) (dg64 (V / 4096 % 64)) (dg64 (V / 64 % 64)) (dg64 (V % 64))) ∧ Below w2.heap.size w2 wr) (fun i _ => 4 - (intOf i).toNat)
    case atStart => exact ⟨3, by omega, by omega, rfl, ho0, (Below.refl _ _).alloc (Nat.le_refl _) _⟩
    case round =>
      obtain ⟨k, hk0, hk1, rfl, hown, hbel⟩ := hrel
      by_cases hlt : k < 4
      · obtain ⟨hcell, hfz⟩ := hown.at (j := k) hlt
        obtain ⟨ho2, hb2⟩ := hown.store hbel k (y := 61) (by decide)
        rw [rowD_set (by omega) (by omega) hlt] at ho2
        have HO2 := hid ho2
        clear ho2
        go_wp2_with fail
        go_roundw
        case rel => exact ⟨k + 1, by omega, by omega, by go_num, HO2.out, hb2⟩
        case measure => simp [intOf]; omega
      · obtain rfl : k = 4 := by omega
        rw [show rowD 2 4 (dg64 (V / 262144 % 64)) (dg64 (V / 4096 % 64)) (dg64 (V / 64 % 64)) (dg64 (V % 64)) = [dg64 (V / 262144 % 64), dg64 (V / 4096 % 64), dg64 (V / 64 % 64), 61] by simp [rowD]] at hown
        have hrow := hid (hown.whole (by decide))
        have hsz : Hid ((Tryz.prog.info? 138).map (·.size) = some 4) := by unfold Hid; kernel_rfl
        have hr2 := hid ((hbel.block w.heap.size hlt2).trans HRES.out)
        go_wp2_with (first
          | (refine wpList_load_row rfl 138 (.tmp 5) rfl w2.heap.size _ rfl _ _ hrow.out 4 5 Tryz.underlying138 hsz.out ?_)
          | (refine wpList_store_row rfl 138 (.tmp 2) (.tmp 44) rfl w.heap.size _ rfl rfl _ _ hr2.out hsz.out rfl (ints_one .u8 [dg64 (V / 262144 % 64), dg64 (V / 4096 % 64), dg64 (V / 64 % 64), 61]) ?_))
        refine bodyPost_ret (results_cell rfl _ _ _ w.heap.size _ _ _ rfl (setRow_heap wr w.heap.size _ _ _ _ hr2.out) 4 5 Tryz.underlying138 hsz.out) rfl ?_
        refine ⟨by rw [E0.out, E1.out, E2.out], ?_⟩
        exact (((Below.refl _ _).alloc (Nat.le_refl _) _).trans (hB2.mono (by omega))).trans (hbel.mono (by omega)) |>.trans ⟨rfl, rfl, rfl, by simp [World.setRow], fun k hk => setRow_other wr w.heap.size k _ (by omega)⟩
  · go_enter Tryz.func131, Tryz.ntmps131
    go_wp2_with (first
      | (refine wpList_copy_splice rfl (.tmp 7) (.tmp 8) 42 42 rfl 5 Tryz.underlying42 (by kernel_rfl) (some ⟨w.heap.size + 1, 0, none⟩) (some ⟨b, off, none⟩) 3 3 3 cap rfl rfl (w.heap.size + 1) 0 [.int .u8 0, .int .u8 0, .int .u8 0] 151 (heap_two w _ _) cs (by rw [HC.out]; decide) (fun _ => ⟨rfl, _, rfl, HS.out _ _⟩) (by rw [HC.out]; decide) HO.out (w.heap.size + 1) (w.alloc (.cells #[.int .u8 0, .int .u8 0, .int .u8 0, .int .u8 0] 138)) ((Below.refl _ _).alloc (by simp) _) (by omega) ?_; intro w2 HG2 hB2; rw [HP.out] at HG2; have k0 := rowCell HG2.out (j := 0) rfl; have k1 := rowCell HG2.out (j := 1) rfl; have k2 := rowCell HG2.out (j := 2) rfl; clear HG2)
      | (go_at_call 144; (with_reducible refine (bcode_Digit _ _).mono ?_); rintro e w' ⟨rfl, rfl⟩)
      | (refine wpList_storeNew (w0 := w2) .u8 [dg64 (V / 262144 % 64), dg64 (V / 4096 % 64), dg64 (V / 64 % 64), dg64 (V % 64)] _ _ _ rfl rfl _ rfl rfl rfl (by kernel_rfl) rfl ?_))
    have ho0 := Own.ofLit .u8 138 w2 [dg64 (V / 262144 % 64), dg64 (V / 4096 % 64), dg64 (V / 64 % 64), dg64 (V % 64)] (by simp [maxLen]) HW.out
    have hres : w2.heap[w.heap.size]? = some (.cells #[.int .u8 0, .int .u8 0, .int .u8 0, .int .u8 0] 138 (0, 0)) := (hB2.block w.heap.size (by omega)).trans (heap_alloc_last w _)
    have hlt2 : w.heap.size < w2.heap.size := by have := hB2.size; simp at this; omega
    have HRES := hid hres
    clear hres
    go_loopw [6] (fun i wr => ∃ k : Nat, 4 ≤ k ∧ k ≤ 4 ∧ i = .int .i64 k ∧ Own .u8 138 w2.heap.size wr (.slice (some ⟨w2.heap.size, 0, none⟩) 4 4) (rowD 3 k (dg64 (V / 262144 % 64)) (dg64 (V / 4096 % 64)) (dg64 (V / 64 % 64)) (dg64 (V % 64))) ∧ Below w2.heap.size w2 wr) (fun i _ => 4 - (intOf i).toNat)
    case atStart => exact ⟨4, by omega, by omega, rfl, ho0, (Below.refl _ _).alloc (Nat.le_refl _) _⟩
    case round =>
      obtain ⟨k, hk0, hk1, rfl, hown, hbel⟩ := hrel
      by_cases hlt : k < 4
      · exact absurd hlt (by omega)
      · obtain rfl : k = 4 := by omega
        rw [show rowD 3 4 (dg64 (V / 262144 % 64)) (dg64 (V / 4096 % 64)) (dg64 (V / 64 % 64)) (dg64 (V % 64)) = [dg64 (V / 262144 % 64), dg64 (V / 4096 % 64), dg64 (V / 64 % 64), dg64 (V % 64)] by simp [rowD]] at hown
        have hrow := hid (hown.whole (by decide))
        have hsz : Hid ((Tryz.prog.info? 138).map (·.size) = some 4) := by unfold Hid; kernel_rfl
        have hr2 := hid ((hbel.block w.heap.size hlt2).trans HRES.out)
        go_wp2_with (first
          | (refine wpList_load_row rfl 138 (.tmp 5) rfl w2.heap.size _ rfl _ _ hrow.out 4 5 Tryz.underlying138 hsz.out ?_)
          | (refine wpList_store_row rfl 138 (.tmp 2) (.tmp 44) rfl w.heap.size _ rfl rfl _ _ hr2.out hsz.out rfl (ints_one .u8 [dg64 (V / 262144 % 64), dg64 (V / 4096 % 64), dg64 (V / 64 % 64), dg64 (V % 64)]) ?_))
        refine bodyPost_ret (results_cell rfl _ _ _ w.heap.size _ _ _ rfl (setRow_heap wr w.heap.size _ _ _ _ hr2.out) 4 5 Tryz.underlying138 hsz.out) rfl ?_
        refine ⟨by rw [E0.out, E1.out, E2.out, E3.out], ?_⟩
        exact (((Below.refl _ _).alloc (Nat.le_refl _) _).trans (hB2.mono (by omega))).trans (hbel.mono (by omega)) |>.trans ⟨rfl, rfl, rfl, by simp [World.setRow], fun k hk => setRow_other wr w.heap.size k _ (by omega)⟩
end Go.Proofs.YtdglnpkkfkagaaaGreat
