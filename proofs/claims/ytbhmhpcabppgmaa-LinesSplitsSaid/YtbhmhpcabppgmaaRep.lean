/-
  Contracts of the library's functions that put one octet in the place of another: bytes.Count of one octet, bytes.Replace, bytes.ReplaceAll (those that the translation has).
-/
import Derived.Test.YtbhmhpcabppgmaaByt
import Derived.Test.YtbhmhpcabppgmaaSto
import Derived.Laws.CopyOwn
import Derived.Shelf.Bytes.SlCountOne
namespace Go.Proofs.Ytbhmhpcabppgmaa
open Go.RowKit
set_option linter.unusedVariables false

def replI (p q x : Int) : Int := if x = p then q else x
def replL (p q : Int) (xs : List Int) : List Int := xs.map (replI p q)
/-- How many are c. -/
def cntO (c : Int) (xs : List Int) : Nat := xs.count c

theorem lib_cnt (c : Int) (h0 : 0 ≤ c) (h1 : c ≤ 255) : ∀ xs : List Int, (∀ x ∈ xs, (Lit.int .u8 x).wf = true) → Lib.countByte (Lib.bytesOf xs) c.toNat.toUInt8 = cntO c xs
  | [], _ => rfl
  | x :: t, h => by
    have hx := wf_u8 (h x (List.mem_cons_self ..))
    have ih := lib_cnt c h0 h1 t (fun y hy => h y (List.mem_cons_of_mem _ hy))
    have he : (x.toNat.toUInt8 == c.toNat.toUInt8) = (x == c) := by
      rw [u8_eq _ _ h0 h1]
      have : (x.toNat.toUInt8.toNat : Int) = x := by simp; omega
      rw [this]
    unfold cntO Lib.countByte at ih ⊢
    show List.count _ (x.toNat.toUInt8 :: Lib.bytesOf t) = _
    rw [List.count_cons, List.count_cons, ih, he]
theorem cnt_zero {p : Int} (q : Int) {xs : List Int} (h : cntO p xs = 0) : replL p q xs = xs := by
  unfold cntO at h
  have hn := List.count_eq_zero.1 h
  unfold replL
  conv => rhs; rw [← List.map_id xs]
  refine List.map_congr_left fun x hx => ?_
  have : x ≠ p := fun e => hn (e ▸ hx)
  simp [replI, this]
theorem cnt_step (p q : Int) : ∀ xs : List Int, 0 < cntO p xs → ∃ k : Nat, idxO p xs = k ∧ k < xs.length ∧ cntO p (xs.drop (k + 1)) + 1 = cntO p xs ∧ replL p q (xs.take (k + 1)) = xs.take k ++ [q]
  | [], h => by simp [cntO] at h
  | x :: t, h => by
    unfold idxO
    rw [idx_cons]
    by_cases hx : x = p
    · subst hx
      refine ⟨0, by simp, by simp, by simp [cntO], by simp [replL, replI]⟩
    · have h' : 0 < cntO p t := by unfold cntO at h ⊢; rwa [List.count_cons_of_ne (by simpa using hx)] at h
      obtain ⟨k, e, hk, hc, hr⟩ := cnt_step p q t h'
      unfold idxO at e
      have hne : ¬ ((k : Int) = -1) := by omega
      refine ⟨k + 1, by rw [e]; simp [hx, hne], by simpa using hk, ?_, ?_⟩
      · have e2 : cntO p (x :: t) = cntO p t := by unfold cntO; rw [List.count_cons_of_ne (by simpa using hx)]
        rw [e2]; simpa using hc
      · rw [List.take_succ_cons, List.take_succ_cons]
        unfold replL at hr ⊢
        rw [List.map_cons, hr]
        simp [replI, hx]

theorem Own.ofHeap {k : IntKind} {e : TypeId} {base : Nat} {w : World} {g : Nat} {xs : List Int} (hg : w.heap[g]? = some (.cells (xs.map (Value.int k)).toArray e (0, 0))) (hb : base ≤ g) (hm : xs.length ≤ maxLen) (hwf : ∀ x ∈ xs, (Lit.int k x).wf = true) :
    Own k e base w (.slice (some ⟨g, 0, none⟩) xs.length xs.length) xs := by
  refine ⟨⟨by simp, .inr ⟨g, xs.length, (xs.map (Value.int k)).toArray, rfl, hb, hg, Nat.le_refl _, hm, by simp, ?_⟩⟩, hwf⟩
  rw [List.toList_toArray, Nat.mul_one]
  exact List.take_of_length_le (by simp)

theorem splice_next {α : Type} (A Z Y : List α) (n : Nat) (h : A.length = n) : splice (A ++ Z) n Y = (A ++ Y) ++ Z.drop Y.length := by
  subst h
  unfold splice
  rw [List.take_left, List.drop_append, List.drop_of_length_le (by omega), show A.length + Y.length - A.length = Y.length by omega]
  simp
/-- One more is turned: what was copied of the rest, and the new octet behind it. -/
theorem rep_row {p q : Int} {xs : List Int} {st k len : Nat} (hsz : xs.length = len) (h : st + k < len) (hrep : replL p q ((xs.drop st).take (k + 1)) = (xs.drop st).take k ++ [q]) :
    splice (splice ((replL p q (xs.take st) ++ List.replicate (len - st) 0).map (Value.int .u8)) st (((xs.drop st).take k).map (Value.int .u8))) (st + k) [.int .u8 q] = (replL p q (xs.take (st + k + 1)) ++ List.replicate (len - (st + k + 1)) 0).map (Value.int .u8) := by
  have e : xs.take (st + k + 1) = xs.take st ++ (xs.drop st).take (k + 1) := by rw [show st + k + 1 = st + (k + 1) by omega, List.take_add]
  have e2 : replL p q (xs.take (st + k + 1)) = replL p q (xs.take st) ++ ((xs.drop st).take k ++ [q]) := by rw [e, ← hrep]; unfold replL; rw [List.map_append]
  rw [e2, List.map_append, splice_next _ _ _ _ (by simp [replL]; omega), splice_next _ _ _ _ (by simp [replL]; omega)]
  simp
  rw [show len - st - min k (xs.length - st) - 1 = len - (st + k + 1) by omega]
/-- None is left: the rest is copied. -/
theorem rep_end {p q : Int} {xs : List Int} {st len : Nat} (hsz : xs.length = len) (h : st ≤ len) (hc : cntO p (xs.drop st) = 0) :
    splice ((replL p q (xs.take st) ++ List.replicate (len - st) 0).map (Value.int .u8)) st ((xs.drop st).map (Value.int .u8)) = (replL p q xs).map (Value.int .u8) := by
  have e : replL p q xs = replL p q (xs.take st) ++ xs.drop st := by
    conv => rhs; rw [← cnt_zero q hc]
    unfold replL
    rw [← List.map_append, List.take_append_drop]
  have e3 : ((List.replicate (len - st) (0 : Int)).map (Value.int .u8)).drop (((xs.drop st).map (Value.int .u8)).length) = [] := by
    apply List.drop_eq_nil_of_le
    simp
    omega
  rw [e, List.map_append, splice_next _ _ _ _ (by simp [replL]; omega), e3, List.map_append]
  simp

theorem cn8 {a : Option Addr} {len cap : Nat} {xs : List Int} {w : World} (hr : Reads .u8 w a len cap xs) (c : Int) (h0 : 0 ≤ c) (h1 : c ≤ 255) {K : Nat} (hK : cntO c xs = K) :
    (callFunc 34 #[.slice a len cap, .int .u8 c]).run Try.prog w = .ok (.value (.int .i64 (K : Int))) w := by
  rw [run_callFunc_extern (fn := Try.f34) (e := Extern.BytealgCount.count) (by kernel_rfl) (by kernel_rfl) (by kernel_rfl) (by kernel_rfl) (by kernel_rfl)]
  by_cases hl : 0 < len
  · obtain ⟨b, off, rfl, _, hc⟩ := hr.cell hl
    rw [Lib.run_countSlice w b off len cap xs hr.size hc c, lib_cnt c h0 h1 xs hr.wf, hK]
    rfl
  · obtain rfl : len = 0 := by omega
    obtain rfl : xs = [] := List.eq_nil_of_length_eq_zero hr.size
    obtain rfl : K = 0 := by rw [← hK]; rfl
    have hn := Lib.run_countNil (P := Try.prog) w 0 cap c
    cases a with
    | none => rw [hn]; rfl
    | some p =>
      have he : (Extern.BytealgCount.count #[.slice (some p) 0 cap, .int .u8 c]).run Try.prog w = (Extern.BytealgCount.count #[.slice none 0 cap, .int .u8 c]).run Try.prog w := rfl
      rw [he, hn]; rfl
set_option maxRecDepth 100000 in
theorem bytes_Count1 {a a2 : Option Addr} {len cap cap2 : Nat} {xs : List Int} {c : Int} {w : World} (hr : Reads .u8 w a len cap xs) (hr2 : Reads .u8 w a2 1 cap2 [c]) {K : Nat} (hK : cntO c xs = K) :
    Calls Try.prog 24 #[.slice a len cap, .slice a2 1 cap2] w fun e w' => e = .returned (.int .i64 (K : Int)) ∧ w = w' := by
  obtain ⟨b2, off2, y, rfl, _, hc2, h0, h1, hy⟩ := hr2.get8 (i := 0) (by omega)
  obtain rfl : c = y := by simpa using hy.out.1
  rw [Nat.add_zero] at hc2
  have HC := cn8 hr c h0 h1 hK
  clear hr hr2 hy hK
  go_enter Try.func24, Try.ntmps24
  go_wp2
  go_ret
  exact ⟨rfl, rfl⟩
end Go.Proofs.Ytbhmhpcabppgmaa
