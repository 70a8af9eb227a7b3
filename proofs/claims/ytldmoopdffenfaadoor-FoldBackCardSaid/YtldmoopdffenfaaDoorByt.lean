/-
  Contracts of the library's functions on octets that look for one octet: bytes.IndexByte, bytes.Index, bytes.Cut (those that the translation has).
-/
import Derived.Test.YtldmoopdffenfaaDoorRows
import Derived.Test.YtldmoopdffenfaaDoorD03
import Derived.Test.YtldmoopdffenfaaDoorC01
import Derived.Lib.BytesEntry
namespace Go.Proofs.YtldmoopdffenfaaDoor
open Go.RowKit
set_option linter.unusedVariables false

/-- The place of the first c, or -1. -/
def idxO (c : Int) (xs : List Int) : Int := idxI (fun x => decide (x = c)) xs
def notO (c : Int) (x : Int) : Bool := decide (x ≠ c)

theorem idx_cons (f : Int → Bool) (x : Int) (t : List Int) : idxI f (x :: t) = if f x then 0 else if idxI f t = -1 then -1 else idxI f t + 1 := by
  unfold idxI
  rw [List.findIdx?_cons]
  by_cases hf : f x = true
  · rw [if_pos hf, if_pos hf]; rfl
  · rw [if_neg hf, if_neg hf]
    cases h : t.findIdx? f with
    | none => rfl
    | some i =>
      have : ¬ ((i : Int) = -1) := by omega
      simp [this]
theorem lib_idx (c : Int) (h0 : 0 ≤ c) (h1 : c ≤ 255) : ∀ xs : List Int, (∀ x ∈ xs, (Lit.int .u8 x).wf = true) → Lib.indexByte (Lib.bytesOf xs) c.toNat.toUInt8 = idxO c xs
  | [], _ => rfl
  | x :: t, h => by
    have hx := wf_u8 (h x (List.mem_cons_self ..))
    have ih := lib_idx c h0 h1 t (fun y hy => h y (List.mem_cons_of_mem _ hy))
    unfold idxO at ih ⊢
    rw [idx_cons, ← ih]
    have he : (x.toNat.toUInt8 == c.toNat.toUInt8) = decide (x = c) := by
      rw [u8_eq _ _ h0 h1, Bool.eq_iff_iff, beq_iff_eq, decide_eq_true_iff]
      have : (x.toNat.toUInt8.toNat : Int) = x := by simp; omega
      rw [this]
    show Lib.indexByte (x.toNat.toUInt8 :: Lib.bytesOf t) c.toNat.toUInt8 = _
    rw [Lib.indexByte, he]
    simp only [beq_iff_eq]
theorem idxO_bd (c : Int) (xs : List Int) : -1 ≤ idxO c xs ∧ idxO c xs ≤ xs.length := idx_bd _ _
/-- None: all stays; one: what is ahead of it, and that it lies inside. -/
theorem idxO_none {c : Int} {xs : List Int} (h : ¬ 0 ≤ idxO c xs) : xs.takeWhile (notO c) = xs := by
  have key : ∀ l : List Int, (∀ x ∈ l, notO c x = true) → l.takeWhile (notO c) = l := by
    intro l
    induction l with
    | nil => intro _; rfl
    | cons y l ih => intro hl; rw [List.takeWhile_cons_of_pos (hl y (List.mem_cons_self ..)), ih (fun x hx => hl x (List.mem_cons_of_mem _ hx))]
  refine key xs fun x hx => ?_
  have h2 := idx_pos (fun x => decide (x = c)) xs
  rw [decide_eq_false (by exact h)] at h2
  have := List.any_eq_false.1 h2.symm x hx
  simpa [notO] using this
theorem idxO_some {c : Int} : ∀ {xs : List Int}, 0 ≤ idxO c xs → ∃ k : Nat, idxO c xs = k ∧ k < xs.length ∧ xs.takeWhile (notO c) = xs.take k
  | [], h => by
    have : idxO c [] = -1 := rfl
    omega
  | x :: t, h => by
    unfold idxO at h ⊢
    rw [idx_cons] at h ⊢
    by_cases hx : x = c
    · exact ⟨0, by rw [if_pos (decide_eq_true hx)]; rfl, by simp, by simp [notO, hx]⟩
    · rw [if_neg (by simpa using hx)] at h ⊢
      by_cases ht : idxI (fun x => decide (x = c)) t = -1
      · rw [if_pos ht] at h; omega
      · rw [if_neg ht] at h ⊢
        obtain ⟨k, e, hk, hw⟩ := idxO_some (c := c) (xs := t) (by have := (idxO_bd c t).1; unfold idxO at this ⊢; omega)
        unfold idxO at e
        refine ⟨k + 1, by rw [e]; rfl, by simpa using hk, ?_⟩
        rw [List.takeWhile_cons_of_pos (by simpa [notO] using hx), hw, List.take_succ_cons]

theorem ib8 {a : Option Addr} {len cap : Nat} {xs : List Int} {w : World} (hr : Reads .u8 w a len cap xs) (c : Int) (h0 : 0 ≤ c) (h1 : c ≤ 255) :
    (callFunc 47 #[.slice a len cap, .int .u8 c]).run Tryd.prog w = .ok (.value (.int .i64 (idxO c xs))) w := by
  rw [run_callFunc_extern (fn := Tryd.f47) (e := Extern.BytealgIndexByte.indexByte) (by kernel_rfl) (by kernel_rfl) (by kernel_rfl) (by kernel_rfl) (by kernel_rfl)]
  by_cases hl : 0 < len
  · obtain ⟨b, off, rfl, _, hc⟩ := hr.cell hl
    rw [Lib.run_indexByteSlice w b off len cap xs hr.size hc c, lib_idx c h0 h1 xs hr.wf]
    rfl
  · obtain rfl : len = 0 := by omega
    obtain rfl : xs = [] := List.eq_nil_of_length_eq_zero hr.size
    have hn := Lib.run_indexByteNil (P := Tryd.prog) w 0 cap c
    cases a with
    | none => rw [hn]; rfl
    | some p =>
      have he : (Extern.BytealgIndexByte.indexByte #[.slice (some p) 0 cap, .int .u8 c]).run Tryd.prog w = (Extern.BytealgIndexByte.indexByte #[.slice none 0 cap, .int .u8 c]).run Tryd.prog w := rfl
      rw [he, hn]; rfl
theorem bytes_IndexByte {a : Option Addr} {len cap : Nat} {xs : List Int} {w : World} (hr : Reads .u8 w a len cap xs) (c : Int) (h0 : 0 ≤ c) (h1 : c ≤ 255) :
    Calls Tryd.prog 39 #[.slice a len cap, .int .u8 c] w fun e w' => e = .returned (.int .i64 (idxO c xs)) ∧ w = w' := by
  have hx := ib8 hr c h0 h1
  clear hr
  go_enter Tryd.func39, Tryd.ntmps39
  go_wp2
  go_ret
  exact ⟨rfl, rfl⟩
end Go.Proofs.YtldmoopdffenfaaDoor
