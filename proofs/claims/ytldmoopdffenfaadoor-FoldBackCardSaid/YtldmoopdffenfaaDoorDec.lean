/-
  What bytes.IndexAny calls: the set that it makes, utf8.DecodeRune at an octet from 128 on, bytealg's entries: by the library's own contracts.
-/
import Derived.Test.YtldmoopdffenfaaDoorRows
import Derived.Test.YtldmoopdffenfaaDoorBase2
import Derived.Test.YtldmoopdffenfaaDoorD03
import Derived.Test.YtldmoopdffenfaaDoorStrB
import Derived.Shelf.Bytes.SlTrimWalks
import Derived.Shelf.Spec.DecodeRune
import Derived.Lib.IndexEntry
import Derived.Lib.Bytealg
namespace Go.Proofs.YtldmoopdffenfaaDoor
open Go.RowKit
set_option linter.unusedVariables false

/-! ### the set -/
def ascRen : Go.Shelf.Ren :=
  ⟨fun | 11 => 31 | n => n,
   fun | 0 => 0 | 3 => 3 | 4 => 4 | 5 => 5 | 9 => 9 | 27 => 49 | n => n,
   fun  | n => n⟩
theorem ascLays : SlLaysV.n11 Tryd.prog ascRen := {
  mixed := by kernel_rfl
  f11 := Tryd.func31.trans (congrArg some (by kernel_rfl))
  t0 := Tryd.underlying0
  a0 := Tryd.isAgg0
  z0 := Tryd.sizeOf0
  v0 := Tryd.zeroValue0
  t3 := Tryd.underlying3
  a3 := Tryd.isAgg3
  z3 := Tryd.sizeOf3
  v3 := Tryd.zeroValue3
  t4 := Tryd.underlying4
  a4 := Tryd.isAgg4
  z4 := Tryd.sizeOf4
  v4 := Tryd.zeroValue4
  t5 := Tryd.underlying5
  a5 := Tryd.isAgg5
  z5 := Tryd.sizeOf5
  v5 := Tryd.zeroValue5
  t9 := Tryd.underlying9
  a9 := Tryd.isAgg9
  z9 := Tryd.sizeOf9
  v9 := Tryd.zeroValue9
  t27 := Tryd.underlying49
  a27 := Tryd.isAgg49
  z27 := Tryd.sizeOf49
}
def conRen : Go.Shelf.Ren :=
  ⟨fun | 16 => 32 | n => n,
   fun | 0 => 0 | 4 => 4 | 5 => 5 | 27 => 49 | 31 => 61 | n => n,
   fun  | n => n⟩
theorem conLays : SlLaysV.n16 Tryd.prog conRen := {
  mixed := by kernel_rfl
  f16 := Tryd.func32.trans (congrArg some (by kernel_rfl))
  t0 := Tryd.underlying0
  a0 := Tryd.isAgg0
  z0 := Tryd.sizeOf0
  v0 := Tryd.zeroValue0
  t4 := Tryd.underlying4
  a4 := Tryd.isAgg4
  z4 := Tryd.sizeOf4
  v4 := Tryd.zeroValue4
  t5 := Tryd.underlying5
  a5 := Tryd.isAgg5
  z5 := Tryd.sizeOf5
  v5 := Tryd.zeroValue5
  t27 := Tryd.underlying49
  a27 := Tryd.isAgg49
  z27 := Tryd.sizeOf49
  t31 := Tryd.underlying61
  a31 := Tryd.isAgg61
  z31 := Tryd.sizeOf61
  v31 := Tryd.zeroValue61
}
theorem set_info : (Tryd.prog.info? 49).map (fun i => (i.zero, i.size)) = some (some (.agg (Array.replicate 256 (.bool false))), 256) := by kernel_rfl
/-- 13 and 10, as a set. -/
def setBr : Array Value := Lib.setCells [13, 10]
theorem bytes_makeSet (w : World) :
    Calls Tryd.prog 31 #[.string { data := #[13, 10] }] w fun e w' => e = .returned (.tuple #[.agg setBr, .bool true]) ∧ w' = w.alloc (.cells setBr 49) :=
  Any.bytes_makeASCIISet ascLays (zero_of_info set_info).1 (zero_of_info set_info).2 { data := #[13, 10] } w (by decide) (by
      intro j b hb
      match j, hb with
      | 0, hb => cases hb; decide
      | 1, hb => cases hb; decide
      | j + 2, hb => simp at hb)
theorem bytes_contains (w : World) (B : Nat) (x : Int) (v : Bool) (h0 : 0 ≤ x) (h1 : x ≤ 255) (hc : w.cell? ⟨B, x.toNat, none⟩ = some (.bool v)) :
    Calls Tryd.prog 32 #[.pointer (some ⟨B, 0, none⟩), .int .u8 x] w fun e w' => e = .returned (.bool v) ∧ w = w' := by
  have hx : (x.toNat.toUInt8).toNat = x.toNat := by simp; omega
  have h := Any.bytes_asciiSet_contains conLays B x.toNat.toUInt8 v w (by rw [hx]; exact hc)
  rw [hx, Int.toNat_of_nonneg h0] at h
  exact h.mono fun e w' ⟨h1, h2⟩ => ⟨h1, h2.symm⟩
theorem setBr_at {x : Int} (h0 : 0 ≤ x) (h1 : x ≤ 255) : setBr[x.toNat]? = some (.bool (decide (x = 13 ∨ x = 10))) := by
  have hx : (x.toNat.toUInt8).toNat = x.toNat := by simp; omega
  have h := Lib.setCells_at [13, 10] x.toNat.toUInt8
  rw [hx] at h
  rw [setBr, h, byte_fin (p := fun x => ([13, 10] : List UInt8).contains x.toNat.toUInt8 = decide (x = 13 ∨ x = 10)) (by decide +kernel) x h0 h1]

/-! ### a sign from 128 on -/
def decRen : Go.Shelf.Ren :=
  ⟨fun | 32 => 33 | 49 => 44 | n => n,
   fun | 0 => 0 | 3 => 3 | 4 => 4 | 5 => 5 | 21 => 21 | 25 => 59 | 30 => 22 | 33 => 52 | 66 => 65 | 68 => 67 | 69 => 68 | n => n,
   fun | 2 => 1 | 3 => 2 | n => n⟩
theorem decLays : Lays7.n32 Tryd.prog decRen := {
  mixed := by kernel_rfl
  f32 := Tryd.func33.trans (congrArg some (by kernel_rfl))
  f49 := Tryd.func44.trans (congrArg some (by kernel_rfl))
  t0 := Tryd.underlying0
  a0 := Tryd.isAgg0
  z0 := Tryd.sizeOf0
  v0 := Tryd.zeroValue0
  i0 := by kernel_rfl
  t3 := Tryd.underlying3
  a3 := Tryd.isAgg3
  z3 := Tryd.sizeOf3
  v3 := Tryd.zeroValue3
  i3 := by kernel_rfl
  t4 := Tryd.underlying4
  a4 := Tryd.isAgg4
  z4 := Tryd.sizeOf4
  v4 := Tryd.zeroValue4
  i4 := by kernel_rfl
  t5 := Tryd.underlying5
  a5 := Tryd.isAgg5
  z5 := Tryd.sizeOf5
  v5 := Tryd.zeroValue5
  i5 := by kernel_rfl
  t21 := Tryd.underlying21
  a21 := Tryd.isAgg21
  z21 := Tryd.sizeOf21
  v21 := Tryd.zeroValue21
  i21 := by kernel_rfl
  t25 := Tryd.underlying59
  a25 := Tryd.isAgg59
  z25 := Tryd.sizeOf59
  v25 := Tryd.zeroValue59
  i25 := by kernel_rfl
  t30 := Tryd.underlying22
  a30 := Tryd.isAgg22
  z30 := Tryd.sizeOf22
  v30 := Tryd.zeroValue22
  i30 := by kernel_rfl
  t33 := Tryd.underlying52
  a33 := Tryd.isAgg52
  z33 := Tryd.sizeOf52
  v33 := Tryd.zeroValue52
  i33 := by kernel_rfl
  t66 := Tryd.underlying65
  a66 := Tryd.isAgg65
  z66 := Tryd.sizeOf65
  t68 := Tryd.underlying67
  a68 := Tryd.isAgg67
  z68 := Tryd.sizeOf67
  v68 := Tryd.zeroValue67
  i68 := by kernel_rfl
  t69 := Tryd.underlying68
  a69 := Tryd.isAgg68
  z69 := Tryd.sizeOf68
  v69 := Tryd.zeroValue68
  i69 := by kernel_rfl
  g2 := by kernel_rfl
  g3 := by kernel_rfl
}
/-- The library's own tables lie as its text lays them. -/
def Tabs (w : World) : Prop := Lib.Utf8Tabs 1 2 w
theorem Tabs.below {w w' : World} (h : Tabs w) (hb : Below w.heap.size w w') : Tabs w' := by
  have hc : ∀ {p : Addr} {v : Value}, w.cell? p = some v → w'.cell? p = some v := fun {p v} hp => (hb.cell (p := p) (World.block_lt_of_cell? _ _ hp)).trans hp
  exact ⟨fun c h' => hc (h.1 c h'), fun i h' => ⟨hc (h.2 i h').1, hc (h.2 i h').2⟩⟩
/-- What an octet from 128 on begins: a sign (k octets), or none. -/
def Sg (r k : Nat) : Prop := (r = 65533 ∧ k = 1) ∨ (k = 2 ∧ 128 ≤ r ∧ r < 2048) ∨ (k = 3 ∧ 2048 ≤ r ∧ r < 65536 ∧ (r < 55296 ∨ 57344 ≤ r)) ∨ (k = 4 ∧ 65536 ≤ r ∧ r ≤ 1114111)
theorem dec_high (n b0 b1 b2 b3 : Nat) (h0 : 128 ≤ b0) (hn : 1 ≤ n) : Sg (Lib.decodeN n b0 b1 b2 b3).1 (Lib.decodeN n b0 b1 b2 b3).2 ∧ (Lib.decodeN n b0 b1 b2 b3).2 ≤ n ∧ ((Lib.decodeN n b0 b1 b2 b3).2 ≥ 2 → 128 ≤ b1) ∧ ((Lib.decodeN n b0 b1 b2 b3).2 ≥ 3 → 128 ≤ b2) ∧ ((Lib.decodeN n b0 b1 b2 b3).2 ≥ 4 → 128 ≤ b3) := by
  unfold Lib.decodeN Sg
  repeat' split
  all_goals
    dsimp only
    refine ⟨?_, ?_, ?_, ?_, ?_⟩ <;> omega
theorem strB_size (xs : List Int) : (strB xs).size = xs.length := by
  show ((xs.map fun x => UInt8.ofNat x.toNat).toArray).size = _
  simp
theorem strB_get {xs : List Int} (hw : ∀ x ∈ xs, (Lit.int .u8 x).wf = true) (j : Nat) (hj : j < xs.length) : (((strB xs).get! j).toNat : Int) = xs.getD j 0 := by
  rw [Utf8W.get!_of_lt _ _ (by rw [strB_size]; exact hj)]
  have e : (strB xs)[j]'(by rw [strB_size]; exact hj) = UInt8.ofNat (xs[j]).toNat := by
    show ((xs.map fun x => UInt8.ofNat x.toNat).toArray)[j]'(by simpa using hj) = _
    simp
  have := wf_u8 (hw xs[j] (List.getElem_mem hj))
  rw [e, List.getD_eq_getElem?_getD, List.getElem?_eq_getElem hj]
  simp; omega
theorem utf8_Decode (a : Option Addr) (len cap : Nat) (xs : List Int) (w : World) (hr : Reads .u8 w a len cap xs) (h0 : 0 < len) (hT : Tabs w) (h1 : 128 ≤ xs.getD 0 0) :
    ∃ r k : Nat, Sg r k ∧ k ≤ len ∧ (∀ j, j < k → 128 ≤ xs.getD j 0) ∧ Calls Tryd.prog 33 #[.slice a len cap] w fun e w' => e = .returned (.tuple #[.int .i32 r, .int .i64 k]) ∧ Below w.heap.size w w' := by
  obtain ⟨b, off, rfl, _, hc⟩ := hr.cell h0
  have hsz := strB_size xs
  rw [hr.size] at hsz
  have g := strB_get hr.wf
  have h := Any7.utf8_DecodeRune decLays (strB xs) b off cap w hT (fun j hj => by
    rw [hsz] at hj
    rw [g j (by rw [hr.size]; exact hj)]
    exact hc j hj)
  rw [hsz] at h
  have hd : Lib.decodeGo (strB xs) = Lib.decodeN len ((strB xs).get! 0).toNat ((strB xs).get! 1).toNat ((strB xs).get! 2).toNat ((strB xs).get! 3).toNat := by
    unfold Lib.decodeGo
    rw [if_neg (by omega), Lib.decode_at, hsz]
    rfl
  have k := dec_high len ((strB xs).get! 0).toNat ((strB xs).get! 1).toNat ((strB xs).get! 2).toNat ((strB xs).get! 3).toNat (by have := g 0 (by rw [hr.size]; exact h0); omega) (by omega)
  rw [← hd] at k
  refine ⟨_, _, k.1, k.2.1, fun j hj => ?_, h⟩
  have k0 := k.1
  have hsx := hr.size
  have k4 := k.2.1
  unfold Sg at k0
  match j, hj with
  | 0, _ => exact h1
  | 1, hj => have := k.2.2.1 (by omega); have := g 1 (by omega); omega
  | 2, hj => have := k.2.2.2.1 (by omega); have := g 2 (by omega); omega
  | 3, hj => have := k.2.2.2.2 (by omega); have := g 3 (by omega); omega
  | j + 4, hj => exfalso; omega

/-! ### a sign's octets as a text -/
theorem enc_two {r : Nat} (h0 : 128 ≤ r) (h1 : r < 2048) : (([13, 10] : List UInt8) == (Utf8.encode (r : Int)).toList) = false := by
  have hv : Utf8.valid (r : Int) = true := by unfold Utf8.valid; simp; omega
  unfold Utf8.encode
  rw [hv]
  simp only [if_true, Int.toNat_natCast]
  rw [if_neg (by omega), if_pos (by omega), Go.ByteArray.toList_eq]
  show (([13, 10] : List UInt8) == [UInt8.ofNat (192 + r / 64), UInt8.ofNat (128 + r % 64)]) = false
  rw [beq_eq_false_iff_ne]
  intro h
  injection h with h1 _
  have := congrArg UInt8.toNat h1
  rw [UInt8.toNat_ofNat'] at this
  simp at this
  omega
theorem enc_more {r k : Nat} (h : Sg r k) (h0 : 3 ≤ k) : (Utf8.encode (r : Int)).size = k := by
  unfold Sg at h
  have hv : Utf8.valid (r : Int) = true := by unfold Utf8.valid; simp; omega
  unfold Utf8.encode
  rw [hv]
  simp only [if_true, Int.toNat_natCast]
  rw [if_neg (by omega), if_neg (by omega)]
  by_cases h4 : r < 65536
  · rw [if_pos h4]
    have : k = 3 := by omega
    subst this; rfl
  · rw [if_neg h4]
    have : k = 4 := by omega
    subst this; rfl
theorem index_long : ∀ (l sub : List UInt8), l.length < sub.length → Lib.index l sub = -1
  | [], sub, h => by
    unfold Lib.index
    cases sub with
    | nil => cases h
    | cons _ _ => rfl
  | b :: l, sub, h => by
    unfold Lib.index
    have hp : sub.isPrefixOf (b :: l) = false := by
      cases hh : sub.isPrefixOf (b :: l)
      · rfl
      · have := (List.isPrefixOf_iff_prefix.1 hh).length_le
        omega
    rw [hp, index_long l sub (by simp only [List.length_cons] at h; omega)]
    rfl
theorem ibsBr (c : Int) (w : World) : (callFunc 28 #[.string { data := #[13, 10] }, .int .u8 c]).run Tryd.prog w = .ok (.value (.int .i64 (Lib.indexByte [13, 10] c.toNat.toUInt8))) w := by
  rw [run_callFunc_extern (fn := Tryd.f28) (e := Extern.BytealgIndexByte.indexByte) (by kernel_rfl) (by kernel_rfl) (by kernel_rfl) (by kernel_rfl) (by kernel_rfl)]
  rw [Lib.run_indexByteString]; rfl
theorem ib_br {x : Int} (h0 : 0 ≤ x) (h1 : x ≤ 255) : decide (0 ≤ Lib.indexByte [13, 10] x.toNat.toUInt8) = decide (x = 13 ∨ x = 10) :=
  byte_fin (p := fun x => decide (0 ≤ Lib.indexByte [13, 10] x.toNat.toUInt8) = decide (x = 13 ∨ x = 10)) (by decide +kernel) x h0 h1
theorem ixS {r k : Nat} (h : Sg r k) (h0 : 3 ≤ k) (w : World) (m : Int) (hm : w.cell? ⟨0, 0, none⟩ = some (.int .i64 m)) (hk : (k : Int) ≤ m) :
    (callFunc 34 #[.string { data := #[13, 10] }, .string (Utf8.encode (r : Int))]).run Tryd.prog w = .ok (.value (.int .i64 (-1))) w := by
  have hs := enc_more h h0
  rw [run_callFunc_extern (fn := Tryd.f34) (e := Extern.BytealgIndex.index) (by kernel_rfl) (by kernel_rfl) (by kernel_rfl) (by kernel_rfl) (by kernel_rfl)]
  rw [Lib.run_indexString _ _ w 0 m (by kernel_rfl) hm (by omega) (by omega) (by decide), index_long _ _ (by rw [← Lib.size_eq, ← Lib.size_eq, hs]; show 2 < k; omega)]
  rfl
end Go.Proofs.YtldmoopdffenfaaDoor
