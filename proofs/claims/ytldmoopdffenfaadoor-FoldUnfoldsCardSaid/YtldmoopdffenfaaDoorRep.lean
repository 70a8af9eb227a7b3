/-
  Contracts of the library's functions that put one octet in the place of another: bytes.Count of one octet, bytes.Replace, bytes.ReplaceAll (those that the translation has).
-/
import Derived.Test.YtldmoopdffenfaaDoorByt
import Derived.Test.YtldmoopdffenfaaDoorSto
import Derived.Laws.CopyOwn
import Derived.Shelf.Bytes.SlCountOne
namespace Go.Proofs.YtldmoopdffenfaaDoor
open Go.RowKit
set_option linter.unusedVariables false

def replI (p q x : Int) : Int := if x = p then q else x
def replL (p q : Int) (xs : List Int) : List Int := xs.map (replI p q)
/-- How many are c. -/
def cntO (c : Int) (xs : List Int) : Nat := xs.count c

theorem lib_cnt (c : Int) (h0 : 0 ≤ c) (h1 : c ≤ 255) : ∀ xs : List Int, (∀ x ∈ xs, (Lit.int .u8 x).wf = true) → Lib.countByte (Lib.bytesOf xs) c.toNat.toUInt8 = cntO c xs
  | [], _ => rfl
  | x :: t, h => by
    have hx := wf_u8 (h x (List.mem_cons_self ..))
    have ih := lib_cnt c h0 h1 t (fun y hy => h y (List.mem_cons_of_mem _ hy))
    have he : (x.toNat.toUInt8 == c.toNat.toUInt8) = (x == c) := by
      rw [u8_eq _ _ h0 h1]
      have : (x.toNat.toUInt8.toNat : Int) = x := by simp; omega
      rw [this]
    unfold cntO Lib.countByte at ih ⊢
    show List.count _ (x.toNat.toUInt8 :: Lib.bytesOf t) = _
    rw [List.count_cons, List.count_cons, ih, he]
theorem cnt_zero {p : Int} (q : Int) {xs : List Int} (h : cntO p xs = 0) : replL p q xs = xs := by
  unfold cntO at h
  have hn := List.count_eq_zero.1 h
  unfold replL
  conv => rhs; rw [← List.map_id xs]
  refine List.map_congr_left fun x hx => ?_
  have : x ≠ p := fun e => hn (e ▸ hx)
  simp [replI, this]
theorem cnt_step (p q : Int) : ∀ xs : List Int, 0 < cntO p xs → ∃ k : Nat, idxO p xs = k ∧ k < xs.length ∧ cntO p (xs.drop (k + 1)) + 1 = cntO p xs ∧ replL p q (xs.take (k + 1)) = xs.take k ++ [q]
  | [], h => by simp [cntO] at h
  | x :: t, h => by
    unfold idxO
    rw [idx_cons]
    by_cases hx : x = p
    · subst hx
      refine ⟨0, by simp, by simp, by simp [cntO], by simp [replL, replI]⟩
    · have h' : 0 < cntO p t := by unfold cntO at h ⊢; rwa [List.count_cons_of_ne (by simpa using hx)] at h
      obtain ⟨k, e, hk, hc, hr⟩ := cnt_step p q t h'
      unfold idxO at e
      have hne : ¬ ((k : Int) = -1) := by omega
      refine ⟨k + 1, by rw [e]; simp [hx, hne], by simpa using hk, ?_, ?_⟩
      · have e2 : cntO p (x :: t) = cntO p t := by unfold cntO; rw [List.count_cons_of_ne (by simpa using hx)]
        rw [e2]; simpa using hc
      · rw [List.take_succ_cons, List.take_succ_cons]
        unfold replL at hr ⊢
        rw [List.map_cons, hr]
        simp [replI, hx]

theorem Own.ofHeap {k : IntKind} {e : TypeId} {base : Nat} {w : World} {g : Nat} {xs : List Int} (hg : w.heap[g]? = some (.cells (xs.map (Value.int k)).toArray e (0, 0))) (hb : base ≤ g) (hm : xs.length ≤ maxLen) (hwf : ∀ x ∈ xs, (Lit.int k x).wf = true) :
    Own k e base w (.slice (some ⟨g, 0, none⟩) xs.length xs.length) xs := by
  refine ⟨⟨by simp, .inr ⟨g, xs.length, (xs.map (Value.int k)).toArray, rfl, hb, hg, Nat.le_refl _, hm, by simp, ?_⟩⟩, hwf⟩
  rw [List.toList_toArray, Nat.mul_one]
  exact List.take_of_length_le (by simp)

theorem splice_next {α : Type} (A Z Y : List α) (n : Nat) (h : A.length = n) : splice (A ++ Z) n Y = (A ++ Y) ++ Z.drop Y.length := by
  subst h
  unfold splice
  rw [List.take_left, List.drop_append, List.drop_of_length_le (by omega), show A.length + Y.length - A.length = Y.length by omega]
  simp
/-- One more is turned: what was copied of the rest, and the new octet behind it. -/
theorem rep_row {p q : Int} {xs : List Int} {st k len : Nat} (hsz : xs.length = len) (h : st + k < len) (hrep : replL p q ((xs.drop st).take (k + 1)) = (xs.drop st).take k ++ [q]) :
    splice (splice ((replL p q (xs.take st) ++ List.replicate (len - st) 0).map (Value.int .u8)) st (((xs.drop st).take k).map (Value.int .u8))) (st + k) [.int .u8 q] = (replL p q (xs.take (st + k + 1)) ++ List.replicate (len - (st + k + 1)) 0).map (Value.int .u8) := by
  have e : xs.take (st + k + 1) = xs.take st ++ (xs.drop st).take (k + 1) := by rw [show st + k + 1 = st + (k + 1) by omega, List.take_add]
  have e2 : replL p q (xs.take (st + k + 1)) = replL p q (xs.take st) ++ ((xs.drop st).take k ++ [q]) := by rw [e, ← hrep]; unfold replL; rw [List.map_append]
  rw [e2, List.map_append, splice_next _ _ _ _ (by simp [replL]; omega), splice_next _ _ _ _ (by simp [replL]; omega)]
  simp
  rw [show len - st - min k (xs.length - st) - 1 = len - (st + k + 1) by omega]
/-- None is left: the rest is copied. -/
theorem rep_end {p q : Int} {xs : List Int} {st len : Nat} (hsz : xs.length = len) (h : st ≤ len) (hc : cntO p (xs.drop st) = 0) :
    splice ((replL p q (xs.take st) ++ List.replicate (len - st) 0).map (Value.int .u8)) st ((xs.drop st).map (Value.int .u8)) = (replL p q xs).map (Value.int .u8) := by
  have e : replL p q xs = replL p q (xs.take st) ++ xs.drop st := by
    conv => rhs; rw [← cnt_zero q hc]
    unfold replL
    rw [← List.map_append, List.take_append_drop]
  have e3 : ((List.replicate (len - st) (0 : Int)).map (Value.int .u8)).drop (((xs.drop st).map (Value.int .u8)).length) = [] := by
    apply List.drop_eq_nil_of_le
    simp
    omega
  rw [e, List.map_append, splice_next _ _ _ _ (by simp [replL]; omega), e3, List.map_append]
  simp

end Go.Proofs.YtldmoopdffenfaaDoor
