/-
  Texts of ours laid together: D03, C03, StrB, Suf, C01, R01, First.
-/
import Derived.Test.YtiacijodoojgoaaDoorRows
import Derived.Test.YtiacijodoojgoaaDoorZ2

/-! D03 -/
namespace Go.Proofs.YtiacijodoojgoaaDoor
open Go.RowKit
set_option linter.unusedVariables false

theorem wf_r {x : Int} (h : (Lit.int .i32 x).wf = true) : -2147483648 ≤ x ∧ x ≤ 2147483647 := bounds_i32 h
theorem mk_r {x : Int} (h0 : -2147483648 ≤ x) (h1 : x ≤ 2147483647) : (Lit.int .i32 x).wf = true := WalkArith.wf_i32 (by omega)
theorem Reads.getR {w : World} {a : Option Addr} {len cap : Nat} {xs : List Int} (h : Reads .i32 w a len cap xs) {i : Nat} (hi : i < len) :
    ∃ b off x, a = some ⟨b, off, none⟩ ∧ b < w.heap.size ∧ w.cell? ⟨b, off + i, none⟩ = some (.int .i32 x) ∧ -2147483648 ≤ x ∧ x ≤ 2147483647 ∧ Hid (xs[i]? = some x ∧ xs.take (i + 1) = xs.take i ++ [x]) := by
  obtain ⟨b, off, x, ha, hb, hc, hx⟩ := h.get hi
  obtain ⟨h1, h2, h3⟩ := hx.out
  exact ⟨b, off, x, ha, hb, hc, (wf_r h3).1, (wf_r h3).2, h1, h2⟩

/-- A surrogate, a scalar value. -/
def surB (c : Int) : Bool := decide (55296 ≤ c ∧ c ≤ 57343)
def scB (c : Int) : Bool := decide (0 ≤ c ∧ c ≤ 1114111 ∧ ¬ (55296 ≤ c ∧ c ≤ 57343))
theorem scB_iff (c : Int) : scB c = true ↔ 0 ≤ c ∧ c ≤ 1114111 ∧ ¬ (55296 ≤ c ∧ c ≤ 57343) := decide_eq_true_iff
theorem scB_not (c : Int) : scB c = false ↔ c < 0 ∨ 1114111 < c ∨ (55296 ≤ c ∧ c ≤ 57343) := by unfold scB; rw [decide_eq_false_iff_not]; omega
theorem surB_iff (c : Int) : surB c = true ↔ 55296 ≤ c ∧ c ≤ 57343 := decide_eq_true_iff
theorem surB_not (c : Int) : surB c = false ↔ ¬ (55296 ≤ c ∧ c ≤ 57343) := decide_eq_false_iff_not
theorem sc_of {c : Int} (h0 : 0 ≤ c) (h1 : c ≤ 1114111) : (!surB c) = scB c := by
  rw [Bool.eq_iff_iff]; unfold scB surB; simp; omega
theorem max_if (m x : Int) : (if m < x then x else m) = max m x := by split <;> omega
def planeI (c : Int) : Int := if scB c = true then c / 65536 else -1
def mendI (c : Int) : Int := if scB c = true then c else 65533
def endB (c : Int) : Bool := decide (c = 13 ∨ c = 10 ∨ c = 0)
def plainB (c : Int) : Bool := decide (32 ≤ c ∧ c ≤ 126)
/-- The place of the first number of which f holds, or -1. -/
def idxI (f : Int → Bool) (xs : List Int) : Int := match xs.findIdx? f with | some i => (i : Int) | none => -1
def mostI (xs : List Int) : Int := xs.foldl max 0
def checkI (xs : List Int) : Int := if xs.all scB = true then (if xs.any endB = true then 8 else 0) else 7

theorem none_yes {f : Int → Bool} {xs : List Int} {k : Nat} {x : Int} (h : xs.take (k + 1) = xs.take k ++ [x]) (hn : (xs.take k).any f = false) (hf : f x = false) : (xs.take (k + 1)).any f = false := by
  rw [h, List.any_append, hn]; simp [hf]
theorem any_hit {f : Int → Bool} {xs : List Int} {k : Nat} {x : Int} (h : xs[k]? = some x) (hf : f x = true) : xs.any f = true := by
  rw [List.any_eq_true]; exact ⟨x, List.mem_of_getElem? h, hf⟩
theorem idx_none {f : Int → Bool} {xs : List Int} (h : xs.any f = false) : idxI f xs = -1 := by
  unfold idxI
  have : xs.findIdx? f = none := by
    rw [List.findIdx?_eq_none_iff]
    intro x hx
    rw [List.any_eq_false] at h
    simpa using h x hx
  rw [this]
theorem idx_hit {f : Int → Bool} {xs : List Int} {k : Nat} {x : Int} (h : xs[k]? = some x) (hn : (xs.take k).any f = false) (hf : f x = true) : idxI f xs = k := by
  unfold idxI
  have hk : k < xs.length := (List.getElem?_eq_some_iff.1 h).1
  have hx : xs[k] = x := (List.getElem?_eq_some_iff.1 h).2
  have : xs.findIdx? f = some k := by
    rw [List.findIdx?_eq_some_iff_getElem]
    refine ⟨hk, by rw [hx]; exact hf, fun j hj => ?_⟩
    rw [List.any_eq_false] at hn
    have hm : xs[j] ∈ xs.take k := by
      rw [List.mem_take_iff_getElem]
      exact ⟨j, by omega, rfl⟩
    have := hn _ hm
    simpa using this
  rw [this]
theorem idx_bd (f : Int → Bool) (xs : List Int) : -1 ≤ idxI f xs ∧ idxI f xs ≤ xs.length := by
  unfold idxI
  cases h : xs.findIdx? f with
  | none => simp
  | some i =>
    rw [List.findIdx?_eq_some_iff_getElem] at h
    obtain ⟨h, _⟩ := h
    simp; omega
theorem idx_neg (f : Int → Bool) (xs : List Int) : decide (idxI f xs < 0) = xs.all (fun c => !f c) := by
  unfold idxI
  cases h : xs.findIdx? f with
  | none =>
    rw [List.findIdx?_eq_none_iff] at h
    have : xs.all (fun c => !f c) = true := by rw [List.all_eq_true]; intro x hx; simp [h x hx]
    rw [this]; simp
  | some i =>
    rw [List.findIdx?_eq_some_iff_getElem] at h
    obtain ⟨hi, h1, _⟩ := h
    have : xs.all (fun c => !f c) = false := by rw [List.all_eq_false]; exact ⟨xs[i], List.getElem_mem hi, by simp [h1]⟩
    rw [this]; simp
theorem idx_pos (f : Int → Bool) (xs : List Int) : decide (0 ≤ idxI f xs) = xs.any f := by
  have h := idx_neg f xs
  have e : xs.all (fun c => !f c) = !xs.any f := by simp [List.all_eq_not_any_not]
  rw [e] at h
  rw [show decide (0 ≤ idxI f xs) = !decide (idxI f xs < 0) by rw [Bool.eq_iff_iff]; simp, h]; simp
theorem most_snoc {xs : List Int} {k : Nat} {x : Int} (h : xs.take (k + 1) = xs.take k ++ [x]) : mostI (xs.take (k + 1)) = max (mostI (xs.take k)) x := by
  rw [h]; simp [mostI]
theorem most_bd : ∀ (xs : List Int) (m : Int), 0 ≤ m → m ≤ 2147483647 → (∀ x ∈ xs, x ≤ 2147483647) → 0 ≤ xs.foldl max m ∧ xs.foldl max m ≤ 2147483647
  | [], m, h0, h1, _ => ⟨h0, h1⟩
  | x :: xs, m, h0, h1, h => by
    have hx := h x (List.mem_cons_self)
    exact most_bd xs (max m x) (by omega) (by omega) (fun y hy => h y (List.mem_cons_of_mem _ hy))
theorem mostI_bd {w : World} {a : Option Addr} {len cap : Nat} {xs : List Int} (h : Reads .i32 w a len cap xs) (k : Nat) : 0 ≤ mostI (xs.take k) ∧ mostI (xs.take k) ≤ 2147483647 :=
  most_bd _ 0 (by omega) (by omega) (fun x hx => (wf_r (h.wf x (List.mem_of_mem_take hx))).2)
theorem mend_bd (c : Int) (h0 : -2147483648 ≤ c) (h1 : c ≤ 2147483647) : (Lit.int .i32 (mendI c)).wf = true := by
  unfold mendI; split
  · exact mk_r h0 h1
  · exact mk_r (by omega) (by omega)
theorem mend_sc (c : Int) : scB (mendI c) = true := by
  unfold mendI; split
  · assumption
  · decide
theorem mend_right (xs : List Int) : (xs.map mendI).all scB = true := by
  rw [List.all_eq_true]; intro x hx
  obtain ⟨y, _, rfl⟩ := List.mem_map.1 hx
  exact mend_sc y
theorem mend_of {y : Int} (h : scB y = true) : mendI y = y := by unfold mendI; rw [if_pos h]
theorem mend_mend (xs : List Int) : (xs.map mendI).map mendI = xs.map mendI := by
  rw [List.map_map]
  exact List.map_congr_left fun x _ => mend_of (mend_sc x)
theorem mend_self (xs : List Int) : xs.all scB = decide (xs.map mendI = xs) := by
  rw [Bool.eq_iff_iff, decide_eq_true_iff, List.all_eq_true]
  constructor
  · intro h
    have : xs.map mendI = xs.map id := List.map_congr_left fun x hx => by unfold mendI; rw [if_pos (h x hx)]; rfl
    simpa using this
  · intro h x hx
    rw [← h] at hx
    obtain ⟨y, _, rfl⟩ := List.mem_map.1 hx
    exact mend_sc y
theorem map_wfR {xs : List Int} (f : Int → Int) (hf : ∀ x, -2147483648 ≤ x → x ≤ 2147483647 → (Lit.int .i32 (f x)).wf = true) (h : ∀ x ∈ xs, (Lit.int .i32 x).wf = true) (x : Int) (hx : x ∈ xs.map f) : (Lit.int .i32 x).wf = true := by
  obtain ⟨y, hy, rfl⟩ := List.mem_map.1 hx
  exact hf y (wf_r (h y hy)).1 (wf_r (h y hy)).2

end Go.Proofs.YtiacijodoojgoaaDoor

/-! C03 -/
namespace Go.Proofs.YtiacijodoojgoaaDoor
open Go.RowKit
set_option linter.unusedVariables false

theorem CTR : SliceT Tryd.prog 30 21 .i32 4 := ⟨Tryd.underlying30, by kernel_rfl, by decide⟩

theorem scalar_Surrogate (c : Int) (w : World) :
    Calls Tryd.prog 112 #[.int .i32 c] w fun e w' => e = .returned (.bool (surB c)) ∧ w = w' := by
  go_enter Tryd.func112, Tryd.ntmps112
  go_wp2
  all_goals (go_ret; exact ⟨ret_bool (by unfold surB; simp; omega), rfl⟩)

end Go.Proofs.YtiacijodoojgoaaDoor

/-! StrB -/
namespace Go.Proofs.YtiacijodoojgoaaDoor
open Go.RowKit
set_option linter.unusedVariables false

/-- Texts of octets are the same just if the octets are. -/
theorem strB_inj {xs ys : List Int} (hx : ∀ x ∈ xs, 0 ≤ x ∧ x ≤ 255) (hy : ∀ y ∈ ys, 0 ≤ y ∧ y ≤ 255) (h : strB xs = strB ys) : xs = ys := by
  have e : (xs.map fun x => UInt8.ofNat x.toNat) = ys.map fun x => UInt8.ofNat x.toNat := by
    have h' : (xs.map fun x => UInt8.ofNat x.toNat).toArray = (ys.map fun x => UInt8.ofNat x.toNat).toArray := congrArg ByteArray.data h
    simpa using h'
  clear h
  induction xs generalizing ys with
  | nil => cases ys with
    | nil => rfl
    | cons y ys => simp at e
  | cons x xs ih => cases ys with
    | nil => simp at e
    | cons y ys =>
      simp only [List.map_cons, List.cons.injEq] at e
      have hx1 := hx x (by simp)
      have hy1 := hy y (by simp)
      have e1 : x = y := by
        have := congrArg UInt8.toNat e.1
        simp at this
        omega
      rw [e1, ih (fun z hz => hx z (by simp [hz])) (fun z hz => hy z (by simp [hz])) e.2]
theorem strB_eq {xs ys : List Int} (hx : ∀ x ∈ xs, 0 ≤ x ∧ x ≤ 255) (hy : ∀ y ∈ ys, 0 ≤ y ∧ y ≤ 255) : ((strB xs).toList == (strB ys).toList) = decide (xs = ys) := by
  by_cases h : xs = ys
  · rw [h]; simp
  · rw [decide_eq_false h, beq_eq_false_iff_ne]
    intro he
    rw [Go.ByteArray.toList_eq, Go.ByteArray.toList_eq] at he
    exact h (strB_inj hx hy (ByteArray.ext (Array.toList_inj.1 he)))

theorem bytes_Equal (a : Option Addr) (len cap : Nat) (xs : List Int) (b : Option Addr) (len' cap' : Nat) (ys : List Int) (w : World) (hr : Reads .u8 w a len cap xs) (hr' : Reads .u8 w b len' cap' ys) :
    Calls Tryd.prog 26 #[.slice a len cap, .slice b len' cap'] w fun e w' => e = .returned (.bool (decide (xs = ys))) ∧ w = w' := by
  have s1 := hr.string (P := Tryd.prog) Tryd.underlying22 Tryd.underlying5 Tryd.underlying9
  have s2 := hr'.string (P := Tryd.prog) Tryd.underlying22 Tryd.underlying5 Tryd.underlying9
  have e := hid (strB_eq (fun x hx => wf_u8 (hr.wf x hx)) (fun x hx => wf_u8 (hr'.wf x hx)))
  clear hr hr'
  go_enter Tryd.func26, Tryd.ntmps26
  go_wp2
  go_ret
  exact ⟨ret_bool e.out, rfl⟩
end Go.Proofs.YtiacijodoojgoaaDoor

/-! Suf -/
namespace Go.Proofs.YtiacijodoojgoaaDoor
open Go.RowKit
set_option linter.unusedVariables false

end Go.Proofs.YtiacijodoojgoaaDoor

/-! C01 -/
namespace Go.Proofs.YtiacijodoojgoaaDoor
open Go.RowKit
set_option linter.unusedVariables false

theorem CT8 : SliceT Tryd.prog 22 5 .u8 1 := ⟨Tryd.underlying22, by kernel_rfl, by decide⟩


end Go.Proofs.YtiacijodoojgoaaDoor

/-! R01 -/
namespace Go.Proofs.YtiacijodoojgoaaDoor
open Go.RowKit

theorem ST8 : SliceT Tryd.prog 22 5 .u8 1 := ⟨Tryd.underlying22, by kernel_rfl, by decide⟩

set_option maxHeartbeats 1000000 in
theorem like_r (a : Option Addr) (len cap : Nat) (xs : List Int) (a2 : Option Addr) (len2 cap2 : Nat) (ys : List Int) (w : World) (hr : Reads .u8 w a len cap xs) (hr2 : Reads .u8 w a2 len2 cap2 ys) :
    Calls Tryd.prog 16 #[.slice a len cap, .slice a2 len2 cap2] w fun e w' => e = .returned (.bool (decide (xs = ys))) ∧ ∃ n, w' = w.drewN n := by
  have hl := hr.len_le
  have hl2 := hr2.len_le
  have HR := hid hr
  have HR2 := hid hr2
  clear hr hr2
  by_cases he : len = len2
  · subst he
    go_enter Tryd.func16, Tryd.ntmps16
    go_wp2
    go_loopw [5] (fun i wr => ∃ k : Nat, k ≤ len ∧ i = .int .i64 k ∧ Hid (xs.take k = ys.take k) ∧ ∃ n, wr = w.drewN n) (fun i _ => len - (intOf i).toNat)
    case atStart => exact ⟨0, Nat.zero_le _, rfl, rfl, 0, rfl⟩
    case round =>
      obtain ⟨k, hk, rfl, hn, n, rfl⟩ := hrel
      by_cases hlt : k < len
      · obtain ⟨b, off, x, rfl, _, hc, h0, h1, hx⟩ := HR.out.get8 hlt
        obtain ⟨b2, off2, y, rfl, _, hc2, h02, h12, hy⟩ := HR2.out.get8 hlt
        go_wp2
        go_quiet (fail)
        go_wp2
        · go_ret
          exact ⟨ret_bool (eq_no hx.out.1 hy.out.1 ‹_›).symm, by simp only [World.drewN_drewN]; exact ⟨_, rfl⟩⟩
        · go_roundw
          case rel => exact ⟨k + 1, by omega, by go_num, eq_yes hx.out.2 hy.out.2 hn.out ‹_›, _, rfl⟩
          case measure => simp [intOf]; omega
      · go_wp2
        go_ret
        exact ⟨ret_bool (by rw [← HR.out.all (show len ≤ k by omega), ← HR2.out.all (show len ≤ k by omega)]; exact (decide_eq_true hn.out).symm), _, rfl⟩
  · have hne : ((len : Int) != len2) = true := by simp; omega
    go_enter Tryd.func16, Tryd.ntmps16
    go_wp2
    go_ret
    exact ⟨ret_bool (eq_len (by rw [HR.out.size, HR2.out.size]; exact he)).symm, 0, rfl⟩

end Go.Proofs.YtiacijodoojgoaaDoor

/-! First -/
namespace Go.Proofs.YtiacijodoojgoaaDoor
open Go.RowKit
set_option linter.unusedVariables false

theorem ret_ii {k k2 : IntKind} {a b c d : Int} (h : a = b) (h' : c = d) : Ending.returned (.tuple #[.int k a, .int k2 c]) = .returned (.tuple #[.int k b, .int k2 d]) := by rw [h, h']
theorem own_mono {k : IntKind} {e : TypeId} {base base' : Nat} {w : World} {v : Value} {xs : List Int} (h : Own k e base w v xs) (hb : base' ≤ base) : Own k e base' w v xs := by
  refine ⟨⟨h.1.1, ?_⟩, h.2⟩
  rcases h.1.2 with h' | ⟨g, cap, cur, h1, h2, h3⟩
  · exact .inl h'
  · exact .inr ⟨g, cap, cur, h1, Nat.le_trans hb h2, h3⟩
/-- A slice's length, for a measure. -/
def lenV : Value → Nat | .slice _ n _ => n | _ => 0
/-- The first of 1 .. m that a test holds of; 0: none. -/
def first1 (f : Int → Bool) (m : Nat) : Int := match (List.range m).find? (fun n : Nat => f ((n : Int) + 1)) with | some n => (n : Int) + 1 | none => 0
theorem first1_hit {f : Int → Bool} {m k : Nat} (hk : k < m) (hf : f ((k : Int) + 1) = true) (hn : ∀ j : Nat, j < k → f ((j : Int) + 1) = false) : first1 f m = (k : Int) + 1 := by
  unfold first1
  have : (List.range m).find? (fun n : Nat => f ((n : Int) + 1)) = some k := by
    rw [List.find?_range_eq_some]
    exact ⟨hf, by simpa using hk, fun j hj => by simp [hn j hj]⟩
  rw [this]
theorem first1_no {f : Int → Bool} {m : Nat} (hn : ∀ j : Nat, j < m → f ((j : Int) + 1) = false) : first1 f m = 0 := by
  unfold first1
  have : (List.range m).find? (fun n : Nat => f ((n : Int) + 1)) = none := by
    rw [List.find?_range_eq_none]
    exact fun j hj => by simp [hn j hj]
  rw [this]
theorem first1_zero {f : Int → Bool} {m : Nat} (h : first1 f m = 0) : ∀ j : Nat, j < m → f ((j : Int) + 1) = false := by
  unfold first1 at h
  cases hf : (List.range m).find? (fun n : Nat => f ((n : Int) + 1)) with
  | none =>
    rw [List.find?_range_eq_none] at hf
    intro j hj
    have := hf j hj
    simpa using this
  | some k =>
    rw [hf] at h
    exfalso
    have : (k : Int) + 1 = 0 := h
    omega
theorem first1_some {f : Int → Bool} {m : Nat} (h : first1 f m ≠ 0) : ∃ k : Nat, k < m ∧ first1 f m = (k : Int) + 1 ∧ f ((k : Int) + 1) = true ∧ ∀ j : Nat, j < k → f ((j : Int) + 1) = false := by
  unfold first1 at h ⊢
  cases hf : (List.range m).find? (fun n : Nat => f ((n : Int) + 1)) with
  | none => rw [hf] at h; exact absurd rfl h
  | some k =>
    rw [List.find?_range_eq_some] at hf
    obtain ⟨h1, h2, h3⟩ := hf
    exact ⟨k, by simpa using h2, rfl, h1, fun j hj => by have := h3 j hj; simpa using this⟩
end Go.Proofs.YtiacijodoojgoaaDoor
