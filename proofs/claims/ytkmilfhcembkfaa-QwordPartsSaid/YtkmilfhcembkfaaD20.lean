/-
  Layer 20, in plain words: Q.
-/
import Derived.Test.YtkmilfhcembkfaaD01
import Derived.Test.YtkmilfhcembkfaaEsq
namespace Go.Proofs.Ytkmilfhcembkfaa
open Go.RowKit
set_option linter.unusedVariables false

def oneQ (c : Int) : List Int := if c = 32 then [95] else if isB 128 c = true then [c] else escI [] 61 c
def layW (xs : List Int) : List Int := xs.flatMap oneQ
def unQ (x : Int) : Int := if x = 95 then 32 else x
def readW (xs : List Int) : List Int := rdE 61 unQ xs 0
def strW (xs : List Int) : Nat := stE 61 xs 0
def okW (c : Int) : Bool := isB 4 c && decide (c ≠ 63)
def chkW (xs : List Int) : Int := if xs.all okW = true then (if strW xs = 0 then 0 else 3) else 3
theorem kindsW : ∀ n : Fin 256, (isB 128 (n.val : Int) = true → isB 4 (n.val : Int) = true ∧ (n.val : Int) ≠ 61 ∧ (n.val : Int) ≠ 95 ∧ (n.val : Int) ≠ 63) := by decide +kernel
theorem kindW {c : Int} (h0 : 0 ≤ c) (h1 : c ≤ 255) (h : isB 128 c = true) : isB 4 c = true ∧ c ≠ 61 ∧ c ≠ 95 ∧ c ≠ 63 :=
  byte_fin (p := fun c => isB 128 c = true → isB 4 c = true ∧ c ≠ 61 ∧ c ≠ 95 ∧ c ≠ 63) kindsW c h0 h1 h
theorem digsW : ∀ k : Fin 16, okW (digI (k.val : Int)) = true := by decide +kernel
theorem digW {k : Int} (h0 : 0 ≤ k) (h1 : k ≤ 15) : okW (digI k) = true := by
  have := digsW ⟨k.toNat, by omega⟩
  rwa [show ((⟨k.toNat, by omega⟩ : Fin 16).val : Int) = k by simp; omega] at this
theorem oneQ_len (c : Int) : 1 ≤ (oneQ c).length ∧ (oneQ c).length ≤ 3 := by
  unfold oneQ; (repeat' split) <;> simp [escI]
theorem oneQ_wf {c : Int} (h0 : 0 ≤ c) (h1 : c ≤ 255) : ∀ x ∈ oneQ c, (Lit.int .u8 x).wf = true := by
  intro x hx
  unfold oneQ at hx
  split at hx
  · simp at hx; subst hx; decide
  · split at hx
    · simp at hx; subst hx; exact mk_u8 h0 h1
    · exact dig3_wf 61 c (by decide) h0 h1 x (by simpa [escI] using hx)
theorem layW_snoc {xs : List Int} {k : Nat} {x : Int} (h : xs.take (k + 1) = xs.take k ++ [x]) : layW (xs.take (k + 1)) = layW (xs.take k) ++ oneQ x := by
  unfold layW; rw [h, List.flatMap_append]; simp
theorem layW_len : ∀ xs : List Int, (layW xs).length ≤ 3 * xs.length := by
  intro xs
  induction xs with
  | nil => exact Nat.le_refl _
  | cons x xs ih =>
    have e : layW (x :: xs) = oneQ x ++ layW xs := by unfold layW; rw [List.flatMap_cons]
    have := oneQ_len x
    rw [e, List.length_append, List.length_cons]
    omega
theorem layW_app (xs ys : List Int) : layW (xs ++ ys) = layW xs ++ layW ys := by unfold layW; rw [List.flatMap_append]
/-- What is laid is read, and right. -/
theorem read_one {c : Int} (h0 : 0 ≤ c) (h1 : c ≤ 255) (r : List Int) : rdE 61 unQ (oneQ c ++ r) 0 = c :: rdE 61 unQ r 0 ∧ stE 61 (oneQ c ++ r) 0 = stE 61 r 0 ∧ (oneQ c).all okW = true := by
  unfold oneQ
  split
  · rename_i h
    subst h
    refine ⟨?_, ?_, by decide +kernel⟩
    · rw [List.singleton_append, rdE_on (escP_ne (by decide) r)]; rfl
    · rw [List.singleton_append, stE_on (escP_ne (by decide) r), if_neg (by decide), Nat.zero_add]
  · split
    · rename_i h32 hk
      have hh := kindW h0 h1 hk
      refine ⟨?_, ?_, ?_⟩
      · rw [List.singleton_append, rdE_on (escP_ne hh.2.1 r)]
        unfold unQ
        rw [if_neg hh.2.2.1]
      · rw [List.singleton_append, stE_on (escP_ne hh.2.1 r), if_neg hh.2.1, Nat.zero_add]
      · simp [okW, hh.1, hh.2.2.2]
    · have he := escP_put (s := 61) trivial h0 h1 r
      have e : escI [] 61 c ++ r = 61 :: (digI (c / 16) :: digI (c % 16) :: r) := rfl
      rw [e] at he ⊢
      refine ⟨?_, ?_, ?_⟩
      · rw [rdE_esc he]; rfl
      · rw [stE_esc he]; rfl
      · have d1 := digW (k := c / 16) (by omega) (by omega)
        have d2 := digW (k := c % 16) (by omega) (by omega)
        show [61, digI (c / 16), digI (c % 16)].all okW = true
        simp only [List.all_cons, List.all_nil, d1, d2, Bool.and_true]
        decide +kernel
theorem laid_W : ∀ xs : List Int, (∀ x ∈ xs, 0 ≤ x ∧ x ≤ 255) → readW (layW xs) = xs ∧ strW (layW xs) = 0 ∧ chkW (layW xs) = 0 := by
  have key : ∀ xs : List Int, (∀ x ∈ xs, 0 ≤ x ∧ x ≤ 255) → readW (layW xs) = xs ∧ strW (layW xs) = 0 ∧ (layW xs).all okW = true := by
    intro xs
    induction xs with
    | nil => intro _; exact ⟨rfl, rfl, rfl⟩
    | cons x xs ih =>
      intro h
      have hx := h x (by simp)
      obtain ⟨i1, i2, i3⟩ := ih (fun y hy => h y (by simp [hy]))
      have e : layW (x :: xs) = oneQ x ++ layW xs := by unfold layW; rw [List.flatMap_cons]
      obtain ⟨r1, r2, r3⟩ := read_one hx.1 hx.2 (layW xs)
      unfold readW at i1 ⊢
      unfold strW at i2 ⊢
      rw [e, r1, r2, i1, i2, List.all_append, r3, i3]
      exact ⟨rfl, rfl, rfl⟩
  intro xs h
  obtain ⟨h1, h2, h3⟩ := key xs h
  refine ⟨h1, h2, ?_⟩
  unfold chkW
  rw [if_pos h3, if_pos h2]
theorem readW_len (xs : List Int) : (readW xs).length ≤ xs.length := rdE_len _ _ _ _
theorem readW_bd {xs : List Int} (h : ∀ x ∈ xs, 0 ≤ x ∧ x ≤ 255) : ∀ y ∈ readW xs, 0 ≤ y ∧ y ≤ 255 :=
  rdE_bd 61 unQ (fun x hx => by unfold unQ; split <;> omega) xs 0 h
end Go.Proofs.Ytkmilfhcembkfaa
