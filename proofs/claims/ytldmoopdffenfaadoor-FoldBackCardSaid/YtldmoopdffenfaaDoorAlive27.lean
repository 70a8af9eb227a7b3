/-
  The law package's own 'alive' of layer 27 answers true.
-/
import Derived.Test.YtldmoopdffenfaaDoorC27b
import Derived.Test.YtldmoopdffenfaaDoorR01
namespace Go.Proofs.YtldmoopdffenfaaDoor
open Go.RowKit
set_option linter.unusedVariables false

theorem like27 (a : Option Addr) (len cap : Nat) (a2 : Option Addr) (len2 cap2 : Nat) (xs : List Int) (w : World) (hr : Reads .u8 w a len cap xs) (hr2 : Reads .u8 w a2 len2 cap2 xs) :
    Calls Tryd.prog 8 #[.slice a len cap, .slice a2 len2 cap2] w fun e w' => e = .returned (.bool true) ∧ Below w.heap.size w w' := by
  have := like_r a len cap xs a2 len2 cap2 xs w hr hr2
  rw [decide_eq_true rfl] at this
  refine this.mono ?_
  rintro e w' ⟨rfl, n, rfl⟩
  exact ⟨rfl, Below.drewN (Below.refl _ _) n⟩
theorem nx27_a : nxtF [97, 98, 32, 99, 100, 32, 101, 102] 5 = 5 := by decide +kernel
theorem v27_f : foldF 6 [97, 98, 32, 99, 100, 32, 101, 102] 5 = some [97, 98, 32, 99, 100, 13, 10, 32, 101, 102] := by
  rw [foldF_on (by decide) (by rw [nx27_a]; decide), nx27_a, foldF_fit (by decide)]
  rfl
theorem v27_a : foldE [97, 98, 32, 99, 100, 32, 101, 102] 5 6 = 0 ∧ foldL [97, 98, 32, 99, 100, 32, 101, 102] 5 6 = [97, 98, 32, 99, 100, 13, 10, 32, 101, 102] := by
  have e : foldE [97, 98, 32, 99, 100, 32, 101, 102] 5 6 = 0 := by
    unfold foldE
    rw [if_neg (by decide), if_neg (by decide), show (6 : Int).toNat = 6 from rfl, show (5 : Int).toNat = 5 from rfl, v27_f]; rfl
  exact ⟨e, by unfold foldL; rw [if_pos e, show (6 : Int).toNat = 6 from rfl, show (5 : Int).toNat = 5 from rfl, v27_f]; rfl⟩
theorem v27_b : foldE [97, 98, 99] 2 2 = 12 := by
  unfold foldE
  rw [if_neg (by decide), if_neg (by decide), show (2 : Int).toNat = 2 from rfl, foldF_no (by decide) (by decide +kernel)]; rfl
theorem v27_u : unfL [97, 98, 32, 99, 100, 13, 10, 32, 101, 102] = [97, 98, 32, 99, 100, 32, 101, 102] := by decide +kernel
theorem v27_n : unfN [97, 98, 32, 99, 100, 13, 10, 32, 101, 102] = 1 := by decide +kernel
theorem v27_r : rgtF [97, 98, 32, 99, 100, 13, 10, 32, 101, 102] = true := by decide +kernel
theorem v27_q : rgtF [97, 10] = false := by decide +kernel
theorem str27_a : strB [97, 98, 32, 99, 100, 13, 10, 32, 101, 102] = { data := #[97, 98, 32, 99, 100, 13, 10, 32, 101, 102] } := by rfl
theorem str27_b : strB [97, 98, 32, 99, 100, 32, 101, 102] = { data := #[97, 98, 32, 99, 100, 32, 101, 102] } := by rfl
theorem al27_f (w : World) (B : Nat) (hB : w.heap.size = B) : Calls Tryd.prog 13 #[.slice (some ⟨B, 0, none⟩) 8 8, .int .i64 5, .int .i64 6] (w.alloc (.cells #[.int .u8 97, .int .u8 98, .int .u8 32, .int .u8 99, .int .u8 100, .int .u8 32, .int .u8 101, .int .u8 102] 5 (8, 9))) fun e w' => ∃ a c, e = .returned (.tuple #[.slice a 10 c, .int .i64 0]) ∧ Reads .u8 w' a 10 c [97, 98, 32, 99, 100, 13, 10, 32, 101, 102] ∧ Below w.heap.size w w' := by
  have h2 := fold_Fold _ 8 8 [97, 98, 32, 99, 100, 32, 101, 102] 5 6 _ (Reads_litB .u8 5 (8, 9) w B hB [97, 98, 32, 99, 100, 32, 101, 102] (by decide) (by decide)) (by decide) (by decide) (by decide)
  rw [v27_a.1, v27_a.2] at h2
  refine h2.mono ?_
  rintro e w' ⟨a, l, c, rfl, hr, hb⟩
  obtain rfl : 10 = l := hr.size
  exact ⟨a, c, rfl, hr, ((Below.refl _ _).alloc (Nat.le_refl _) _).trans (hb.mono (by simp))⟩
theorem al27_l (w : World) (B : Nat) (hB : w.heap.size = B) : Calls Tryd.prog 13 #[.slice (some ⟨B, 0, none⟩) 3 3, .int .i64 2, .int .i64 2] (w.alloc (.cells #[.int .u8 97, .int .u8 98, .int .u8 99] 5 (3, 4))) fun e w' => ∃ a l c, e = .returned (.tuple #[.slice a l c, .int .i64 12]) ∧ Below w.heap.size w w' := by
  have h2 := fold_Fold _ 3 3 [97, 98, 99] 2 2 _ (Reads_litB .u8 5 (3, 4) w B hB [97, 98, 99] (by decide) (by decide)) (by decide) (by decide) (by decide)
  rw [v27_b] at h2
  refine h2.mono ?_
  rintro e w' ⟨a, l, c, rfl, hr, hb⟩
  exact ⟨a, l, c, rfl, ((Below.refl _ _).alloc (Nat.le_refl _) _).trans (hb.mono (by simp))⟩
theorem al27_q (w : World) (B : Nat) (hB : w.heap.size = B) (hT : Tabs w) (hm : Mx w) : Calls Tryd.prog 11 #[.slice (some ⟨B, 0, none⟩) 2 2] (w.alloc (.cells #[.int .u8 97, .int .u8 10] 5 (2, 3))) fun e w' => e = .returned (.bool false) ∧ Below w.heap.size w w' := by
  have hb0 : Below w.heap.size w (w.alloc (.cells #[.int .u8 97, .int .u8 10] 5 (2, 3))) := (Below.refl _ _).alloc (Nat.le_refl _) _
  have h2 := fold_Right _ 2 2 [97, 10] _ (Reads_litB .u8 5 (2, 3) w B hB [97, 10] (by decide) (by decide)) (by decide) (hT.below hb0) (hm.below hb0)
  rw [v27_q] at h2
  refine h2.mono ?_
  rintro e w' ⟨rfl, hb⟩
  exact ⟨rfl, ((Below.refl _ _).alloc (Nat.le_refl _) _).trans (hb.mono (by simp))⟩
set_option maxRecDepth 100000 in
set_option maxHeartbeats 1000000 in
theorem alive27_any (w : World) (hT : Tabs w) (hm : Mx w) : Calls Tryd.prog 6 #[] w fun e w' => e = .returned (.bool true) ∧ Below w.heap.size w w' := by
  have kc := convB (P := Tryd.prog) (t := 22) (e := 5) Tryd.underlying22 Tryd.underlying5 w w.heap.size rfl
  have HU := hid (fun W a c (h : Reads .u8 W a 10 c [97, 98, 32, 99, 100, 13, 10, 32, 101, 102]) => by have := fold_Unfold a 10 c _ W h (by decide); rwa [v27_u] at this)
  have HN := hid (fun W a c (h : Reads .u8 W a 10 c [97, 98, 32, 99, 100, 13, 10, 32, 101, 102]) => by have := fold_Folds a 10 c _ W h (by decide); rwa [v27_n] at this)
  have HR := hid (fun W a c (h : Reads .u8 W a 10 c [97, 98, 32, 99, 100, 13, 10, 32, 101, 102]) (hb : Below w.heap.size w W) => by have := fold_Right a 10 c _ W h (by decide) (hT.below hb) (hm.below hb); rwa [v27_r] at this)
  have HQ := hid (fun W (hb : Below w.heap.size w W) => al27_q W _ rfl (hT.below hb) (hm.below hb))
  clear hT hm
  go_enter Tryd.func6, Tryd.ntmps6
  go_wp2_with (first
    | (go_at_call 13; (with_reducible refine (al27_f w _ rfl).mono ?_); rintro e w1 ⟨a1, c1, rfl, r1, h1⟩; have kc1 := convB (P := Tryd.prog) (t := 22) (e := 5) Tryd.underlying22 Tryd.underlying5 w1 w1.heap.size rfl)
    | (go_at_call 13; (with_reducible refine (al27_l w1 _ rfl).mono ?_); rintro e w2 ⟨a2, l2, c2, rfl, h2⟩; have t2 := below_then h1 h2; have r12 := r1.below h2; have s1 := r12.string (P := Tryd.prog) Tryd.underlying22 Tryd.underlying5 Tryd.underlying9; rw [str27_a] at s1)
    | (go_at_call 9; (with_reducible refine (HU.out _ _ _ r12).mono ?_); rintro e w3 ⟨a3, l3, c3, rfl, r3, h3⟩; have t3 := below_then t2 h3; have r13 := r12.below h3; (obtain rfl : 8 = l3 := r3.size); have s3 := r3.string (P := Tryd.prog) Tryd.underlying22 Tryd.underlying5 Tryd.underlying9; rw [str27_b] at s3)
    | (go_at_call 10; (with_reducible refine (HN.out _ _ _ r13).mono ?_); rintro e w4 ⟨rfl, h4⟩; have t4 := below_then t3 h4; have r14 := r13.below h4)
    | (go_at_call 11; (with_reducible refine (HR.out _ _ _ r14 t4).mono ?_); rintro e w5 ⟨rfl, h5⟩; have t5 := below_then t4 h5; have kc5 := convB (P := Tryd.prog) (t := 22) (e := 5) Tryd.underlying22 Tryd.underlying5 w5 w5.heap.size rfl)
    | (go_at_call 11; (with_reducible refine (HQ.out _ t5).mono ?_); rintro e w6 ⟨rfl, h6⟩; have t6 := below_then t5 h6))
  go_ret
  exact ⟨rfl, t6⟩
end Go.Proofs.YtldmoopdffenfaaDoor
