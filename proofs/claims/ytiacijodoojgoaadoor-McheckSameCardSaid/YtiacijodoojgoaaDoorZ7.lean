/-
  Texts of ours laid together: C14b, C14c, C14d, Byt.
-/
import Derived.Test.YtiacijodoojgoaaDoorRows
import Derived.Lib.BytesEntry
import Derived.Test.YtiacijodoojgoaaDoorZ6

/-! C14b -/
namespace Go.Proofs.YtiacijodoojgoaaDoor
open Go.RowKit
set_option linter.unusedVariables false

theorem u8_wf {x : Int} (h : (Lit.int .u8 x).wf = true) : O8 x := ⟨(wf_u8 h).1, (wf_u8 h).2⟩
theorem lay_group (ys : List Int) : layB ys = layB (ys.take 3) ++ layB (ys.drop 3) := by
  match ys with
  | [] => rfl
  | [a] => simp [layB, fill4, bareB, v64]
  | [a, b] => simp [layB, fill4, bareB, v64]
  | a :: b :: c :: r =>
    simp only [List.take_succ_cons, List.take_zero, List.drop_succ_cons, List.drop_zero]
    unfold layB fill4 bareB
    simp only [v64, List.map_cons, List.length_cons, List.map_nil, List.length_nil]
    rw [show (4 - ((v64 r).map dg64).length.succ.succ.succ.succ % 4) % 4 = (4 - ((v64 r).map dg64).length % 4) % 4 by omega]
    simp
theorem lay_part {ys : List Int} {n : Nat} (h : n = 3 ∨ (ys.length ≤ n ∧ n ≤ 3)) : layB ys = layB (ys.take n) ++ layB (ys.drop n) := by
  rcases h with rfl | ⟨h, _⟩
  · exact lay_group ys
  · rw [List.take_of_length_le h, List.drop_of_length_le h]
    show layB ys = layB ys ++ []
    rw [List.append_nil]
theorem layB_wf {xs : List Int} (h : ∀ x ∈ xs, O8 x) : ∀ z ∈ layB xs, (Lit.int .u8 z).wf = true := by
  intro z hz
  unfold layB fill4 bareB at hz
  rcases List.mem_append.1 hz with hz | hz
  · obtain ⟨v, hv, rfl⟩ := List.mem_map.1 hz
    exact dg_wf (v64_bd xs h v hv)
  · rw [List.eq_of_mem_replicate hz]; decide
theorem lay_le (xs : List Int) : (layB xs).length ≤ 2 * xs.length + 8 := by
  unfold layB fill4 bareB
  rw [List.length_append, List.length_replicate, List.length_map, v64_len]
  omega

end Go.Proofs.YtiacijodoojgoaaDoor

/-! C14c -/
namespace Go.Proofs.YtiacijodoojgoaaDoor
open Go.RowKit
set_option linter.unusedVariables false

/-- Numbers of digits together, the first k of them; what is missing is 0. -/
def dat (xs : List Int) (k : Nat) : Int := valI (xs.getD k 61)
def acc6 (xs : List Int) : Nat → Int
  | 0 => 0
  | k + 1 => acc6 xs k * 64 + dat xs k
theorem dat_bd (xs : List Int) (k : Nat) : 0 ≤ dat xs k ∧ dat xs k ≤ 63 := val_bd _
theorem acc_bd (xs : List Int) (k : Nat) (h : k ≤ 3) : 0 ≤ acc6 xs k ∧ acc6 xs k ≤ 262143 := by
  have h0 := dat_bd xs 0
  have h1 := dat_bd xs 1
  have h2 := dat_bd xs 2
  have hk : k = 0 ∨ k = 1 ∨ k = 2 ∨ k = 3 := by omega
  rcases hk with rfl | rfl | rfl | rfl <;> simp only [acc6] <;> omega
theorem val_61 : valI 61 = 0 := by decide +kernel
theorem dat_at {xs : List Int} {k : Nat} {x : Int} (h : xs[k]? = some x) : dat xs k = valI x := by unfold dat; simp [List.getD, h]
theorem dat_out {xs : List Int} {k : Nat} (h : xs.length ≤ k) : dat xs k = 0 := by unfold dat; rw [List.getD_eq_getElem?_getD, List.getElem?_eq_none h]; exact val_61
/-- Three octets of what four digits make; and as many of them as are whole. -/
theorem rd_group {xs : List Int} (h1 : 1 ≤ xs.length) (h4 : xs.length ≤ 4) : rd64 (xs.map valI) = [acc6 xs 4 / 65536 % 256, acc6 xs 4 / 256 % 256, acc6 xs 4 % 256].take (xs.length * 6 / 8) := by
  match xs with
  | [a] => simp [rd64]
  | [a, b] =>
    have ha := val_bd a
    have hb := val_bd b
    have h2 := dat_out (xs := [a, b]) (k := 2) (by simp)
    have h3 := dat_out (xs := [a, b]) (k := 3) (by simp)
    unfold V6 at ha hb
    have e : acc6 [a, b] 4 = (valI a * 64 + valI b) * 4096 := by simp only [acc6, h2, h3]; rw [dat_at (x := a) rfl, dat_at (x := b) rfl]; omega
    rw [e]
    simp only [List.map_cons, List.map_nil, rd64, List.length_cons, List.length_nil, List.take_succ_cons, List.take_zero]
    exact cons2 (by omega) rfl
  | [a, b, c] =>
    have ha := val_bd a
    have hb := val_bd b
    have hc := val_bd c
    have h3 := dat_out (xs := [a, b, c]) (k := 3) (by simp)
    unfold V6 at ha hb hc
    have e : acc6 [a, b, c] 4 = ((valI a * 64 + valI b) * 64 + valI c) * 64 := by simp only [acc6, h3]; rw [dat_at (x := a) rfl, dat_at (x := b) rfl, dat_at (x := c) rfl]; omega
    rw [e]
    simp only [List.map_cons, List.map_nil, rd64, List.length_cons, List.length_nil, List.take_succ_cons, List.take_zero]
    exact cons2 (by omega) (cons2 (by omega) rfl)
  | [a, b, c, d] =>
    have ha := val_bd a
    have hb := val_bd b
    have hc := val_bd c
    have hd := val_bd d
    unfold V6 at ha hb hc hd
    have e : acc6 [a, b, c, d] 4 = ((valI a * 64 + valI b) * 64 + valI c) * 64 + valI d := by simp only [acc6]; rw [dat_at (x := a) rfl, dat_at (x := b) rfl, dat_at (x := c) rfl, dat_at (x := d) rfl]; omega
    rw [e]
    simp only [List.map_cons, List.map_nil, rd64, List.length_cons, List.length_nil, List.take_succ_cons, List.take_zero]
    exact cons2 (by omega) (cons2 (by omega) (cons2 (by omega) rfl))
  | [] => simp at h1
  | _ :: _ :: _ :: _ :: _ :: _ => simp at h4

theorem rd_four (ys : List Int) : rd64 ys = rd64 (ys.take 4) ++ rd64 (ys.drop 4) := by
  match ys with
  | [] => rfl
  | [a] => rfl
  | [a, b] => rfl
  | [a, b, c] => rfl
  | a :: b :: c :: d :: r => rfl
theorem rd_part {ys : List Int} {n : Nat} (h : n = 4 ∨ (ys.length ≤ n ∧ n ≤ 4)) : rd64 (ys.map valI) = rd64 ((ys.take n).map valI) ++ rd64 ((ys.drop n).map valI) := by
  rcases h with rfl | ⟨h, _⟩
  · rw [List.map_take, List.map_drop]; exact rd_four _
  · rw [List.take_of_length_le h, List.drop_of_length_le h]
    show _ = _ ++ []
    rw [List.append_nil]
end Go.Proofs.YtiacijodoojgoaaDoor

/-! C14d -/
namespace Go.Proofs.YtiacijodoojgoaaDoor
open Go.RowKit
set_option linter.unusedVariables false

end Go.Proofs.YtiacijodoojgoaaDoor

/-! Byt -/
namespace Go.Proofs.YtiacijodoojgoaaDoor
open Go.RowKit
set_option linter.unusedVariables false

/-- The place of the first c, or -1. -/
def idxO (c : Int) (xs : List Int) : Int := idxI (fun x => decide (x = c)) xs
def notO (c : Int) (x : Int) : Bool := decide (x ≠ c)

theorem idx_cons (f : Int → Bool) (x : Int) (t : List Int) : idxI f (x :: t) = if f x then 0 else if idxI f t = -1 then -1 else idxI f t + 1 := by
  unfold idxI
  rw [List.findIdx?_cons]
  by_cases hf : f x = true
  · rw [if_pos hf, if_pos hf]; rfl
  · rw [if_neg hf, if_neg hf]
    cases h : t.findIdx? f with
    | none => rfl
    | some i =>
      have : ¬ ((i : Int) = -1) := by omega
      simp [this]
theorem lib_idx (c : Int) (h0 : 0 ≤ c) (h1 : c ≤ 255) : ∀ xs : List Int, (∀ x ∈ xs, (Lit.int .u8 x).wf = true) → Lib.indexByte (Lib.bytesOf xs) c.toNat.toUInt8 = idxO c xs
  | [], _ => rfl
  | x :: t, h => by
    have hx := wf_u8 (h x (List.mem_cons_self ..))
    have ih := lib_idx c h0 h1 t (fun y hy => h y (List.mem_cons_of_mem _ hy))
    unfold idxO at ih ⊢
    rw [idx_cons, ← ih]
    have he : (x.toNat.toUInt8 == c.toNat.toUInt8) = decide (x = c) := by
      rw [u8_eq _ _ h0 h1, Bool.eq_iff_iff, beq_iff_eq, decide_eq_true_iff]
      have : (x.toNat.toUInt8.toNat : Int) = x := by simp; omega
      rw [this]
    show Lib.indexByte (x.toNat.toUInt8 :: Lib.bytesOf t) c.toNat.toUInt8 = _
    rw [Lib.indexByte, he]
    simp only [beq_iff_eq]
theorem idxO_bd (c : Int) (xs : List Int) : -1 ≤ idxO c xs ∧ idxO c xs ≤ xs.length := idx_bd _ _
/-- None: all stays; one: what is ahead of it, and that it lies inside. -/
theorem idxO_none {c : Int} {xs : List Int} (h : ¬ 0 ≤ idxO c xs) : xs.takeWhile (notO c) = xs := by
  have key : ∀ l : List Int, (∀ x ∈ l, notO c x = true) → l.takeWhile (notO c) = l := by
    intro l
    induction l with
    | nil => intro _; rfl
    | cons y l ih => intro hl; rw [List.takeWhile_cons_of_pos (hl y (List.mem_cons_self ..)), ih (fun x hx => hl x (List.mem_cons_of_mem _ hx))]
  refine key xs fun x hx => ?_
  have h2 := idx_pos (fun x => decide (x = c)) xs
  rw [decide_eq_false (by exact h)] at h2
  have := List.any_eq_false.1 h2.symm x hx
  simpa [notO] using this
theorem idxO_some {c : Int} : ∀ {xs : List Int}, 0 ≤ idxO c xs → ∃ k : Nat, idxO c xs = k ∧ k < xs.length ∧ xs.takeWhile (notO c) = xs.take k
  | [], h => by
    have : idxO c [] = -1 := rfl
    omega
  | x :: t, h => by
    unfold idxO at h ⊢
    rw [idx_cons] at h ⊢
    by_cases hx : x = c
    · exact ⟨0, by rw [if_pos (decide_eq_true hx)]; rfl, by simp, by simp [notO, hx]⟩
    · rw [if_neg (by simpa using hx)] at h ⊢
      by_cases ht : idxI (fun x => decide (x = c)) t = -1
      · rw [if_pos ht] at h; omega
      · rw [if_neg ht] at h ⊢
        obtain ⟨k, e, hk, hw⟩ := idxO_some (c := c) (xs := t) (by have := (idxO_bd c t).1; unfold idxO at this ⊢; omega)
        unfold idxO at e
        refine ⟨k + 1, by rw [e]; rfl, by simpa using hk, ?_⟩
        rw [List.takeWhile_cons_of_pos (by simpa [notO] using hx), hw, List.take_succ_cons]

theorem ib8 {a : Option Addr} {len cap : Nat} {xs : List Int} {w : World} (hr : Reads .u8 w a len cap xs) (c : Int) (h0 : 0 ≤ c) (h1 : c ≤ 255) :
    (callFunc 106 #[.slice a len cap, .int .u8 c]).run Tryd.prog w = .ok (.value (.int .i64 (idxO c xs))) w := by
  rw [run_callFunc_extern (fn := Tryd.f106) (e := Extern.BytealgIndexByte.indexByte) (by kernel_rfl) (by kernel_rfl) (by kernel_rfl) (by kernel_rfl) (by kernel_rfl)]
  by_cases hl : 0 < len
  · obtain ⟨b, off, rfl, _, hc⟩ := hr.cell hl
    rw [Lib.run_indexByteSlice w b off len cap xs hr.size hc c, lib_idx c h0 h1 xs hr.wf]
    rfl
  · obtain rfl : len = 0 := by omega
    obtain rfl : xs = [] := List.eq_nil_of_length_eq_zero hr.size
    have hn := Lib.run_indexByteNil (P := Tryd.prog) w 0 cap c
    cases a with
    | none => rw [hn]; rfl
    | some p =>
      have he : (Extern.BytealgIndexByte.indexByte #[.slice (some p) 0 cap, .int .u8 c]).run Tryd.prog w = (Extern.BytealgIndexByte.indexByte #[.slice none 0 cap, .int .u8 c]).run Tryd.prog w := rfl
      rw [he, hn]; rfl
theorem bytes_IndexByte {a : Option Addr} {len cap : Nat} {xs : List Int} {w : World} (hr : Reads .u8 w a len cap xs) (c : Int) (h0 : 0 ≤ c) (h1 : c ≤ 255) :
    Calls Tryd.prog 96 #[.slice a len cap, .int .u8 c] w fun e w' => e = .returned (.int .i64 (idxO c xs)) ∧ w = w' := by
  have hx := ib8 hr c h0 h1
  clear hr
  go_enter Tryd.func96, Tryd.ntmps96
  go_wp2
  go_ret
  exact ⟨rfl, rfl⟩
set_option maxRecDepth 100000 in
theorem bytes_Index1 {a a2 : Option Addr} {len cap cap2 : Nat} {xs : List Int} {c : Int} {w : World} (hr : Reads .u8 w a len cap xs) (hr2 : Reads .u8 w a2 1 cap2 [c]) :
    Calls Tryd.prog 89 #[.slice a len cap, .slice a2 1 cap2] w fun e w' => e = .returned (.int .i64 (idxO c xs)) ∧ w = w' := by
  obtain ⟨b2, off2, y, rfl, _, hc2, h0, h1, hy⟩ := hr2.get8 (i := 0) (by omega)
  obtain rfl : c = y := by simpa using hy.out.1
  rw [Nat.add_zero] at hc2
  have HR := hid hr
  clear hr hr2 hy
  go_enter Tryd.func89, Tryd.ntmps89
  go_wp2_with (go_at_call 96; (with_reducible refine (bytes_IndexByte HR.out _ h0 h1).mono ?_); rintro e w' ⟨rfl, rfl⟩)
  go_ret
  exact ⟨rfl, rfl⟩
end Go.Proofs.YtiacijodoojgoaaDoor
