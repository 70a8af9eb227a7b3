/-
  Layer 21, in plain words: escapes of attributes' values, and quoted texts.
-/
import Derived.Test.YtdipabcoeloeoaaD01
import Derived.Test.YtdipabcoeloeoaaEsq
namespace Go.Proofs.Ytdipabcoeloeoaa
open Go.RowKit
set_option linter.unusedVariables false

def oneP (c : Int) : List Int := if isB 256 c = true then [c] else escI [] 37 c
def layP (xs : List Int) : List Int := xs.flatMap oneP
def selfI (x : Int) : Int := x
def readP (xs : List Int) : List Int := rdE 37 selfI xs 0
def strP (xs : List Int) : Nat := stE 37 xs 0
def rightP (xs : List Int) : Bool := riE 37 (isB 256) xs 0
def chkP (xs : List Int) : Int := if rightP xs = true then 0 else 3
def quo1 (x : Int) : List Int := if x = 34 ∨ x = 92 then [92, x] else [x]
def quoP (xs : List Int) : List Int := 34 :: (xs.flatMap quo1 ++ [34])
/-- What is quoted, where it ends, the error. -/
def unqS : List Int → List Int → Nat → List Int × Nat × Int
  | [], _, _ => ([], 0, 4)
  | [x], out, i => if x = 34 then (out, i + 1, 0) else ([], 0, 4)
  | x :: y :: r, out, i => if x = 34 then (out, i + 1, 0) else if x = 92 then unqS r (out ++ [y]) (i + 2) else unqS (y :: r) (out ++ [x]) (i + 1)
def unqA (s : List Int) : List Int × Nat × Int := match s with | [] => ([], 0, 3) | x :: r => if x = 34 then unqS r [] 1 else ([], 0, 3)

theorem kindsP : ∀ n : Fin 256, isB 256 (n.val : Int) = true → (n.val : Int) ≠ 37 := by decide +kernel
theorem kindP {c : Int} (h0 : 0 ≤ c) (h1 : c ≤ 255) (h : isB 256 c = true) : c ≠ 37 := byte_fin (p := fun c => isB 256 c = true → c ≠ 37) kindsP c h0 h1 h
theorem oneP_len (c : Int) : 1 ≤ (oneP c).length ∧ (oneP c).length ≤ 3 := by
  unfold oneP; split <;> simp [escI]
theorem layP_snoc {xs : List Int} {k : Nat} {x : Int} (h : xs.take (k + 1) = xs.take k ++ [x]) : layP (xs.take (k + 1)) = layP (xs.take k) ++ oneP x := by
  unfold layP; rw [h, List.flatMap_append]; simp
theorem layP_len : ∀ xs : List Int, (layP xs).length ≤ 3 * xs.length := by
  intro xs
  induction xs with
  | nil => exact Nat.le_refl _
  | cons x xs ih =>
    have e : layP (x :: xs) = oneP x ++ layP xs := by unfold layP; rw [List.flatMap_cons]
    have := oneP_len x
    rw [e, List.length_append, List.length_cons]
    omega
theorem read_oneP {c : Int} (h0 : 0 ≤ c) (h1 : c ≤ 255) (r : List Int) : rdE 37 selfI (oneP c ++ r) 0 = c :: rdE 37 selfI r 0 ∧ stE 37 (oneP c ++ r) 0 = stE 37 r 0 ∧ riE 37 (isB 256) (oneP c ++ r) 0 = riE 37 (isB 256) r 0 := by
  unfold oneP
  split
  · rename_i hk
    have hh := kindP h0 h1 hk
    refine ⟨?_, ?_, ?_⟩
    · rw [List.singleton_append, rdE_on (escP_ne hh r)]; rfl
    · rw [List.singleton_append, stE_on (escP_ne hh r), if_neg hh, Nat.zero_add]
    · rw [List.singleton_append, riE_on (escP_ne hh r), hk, Bool.true_and]
  · have he := escP_put (s := 37) trivial h0 h1 r
    have e : escI [] 37 c ++ r = 37 :: (digI (c / 16) :: digI (c % 16) :: r) := rfl
    rw [e] at he ⊢
    exact ⟨by rw [rdE_esc he]; rfl, by rw [stE_esc he]; rfl, by rw [riE_esc he]; rfl⟩
theorem laid_P : ∀ xs : List Int, (∀ x ∈ xs, 0 ≤ x ∧ x ≤ 255) → readP (layP xs) = xs ∧ strP (layP xs) = 0 ∧ chkP (layP xs) = 0 := by
  have key : ∀ xs : List Int, (∀ x ∈ xs, 0 ≤ x ∧ x ≤ 255) → readP (layP xs) = xs ∧ strP (layP xs) = 0 ∧ rightP (layP xs) = true := by
    intro xs
    induction xs with
    | nil => intro _; exact ⟨rfl, rfl, rfl⟩
    | cons x xs ih =>
      intro h
      have hx := h x (by simp)
      obtain ⟨i1, i2, i3⟩ := ih (fun y hy => h y (by simp [hy]))
      have e : layP (x :: xs) = oneP x ++ layP xs := by unfold layP; rw [List.flatMap_cons]
      obtain ⟨r1, r2, r3⟩ := read_oneP hx.1 hx.2 (layP xs)
      unfold readP at i1 ⊢
      unfold strP at i2 ⊢
      unfold rightP at i3 ⊢
      rw [e, r1, r2, r3, i1, i2, i3]
      exact ⟨rfl, rfl, rfl⟩
  intro xs h
  obtain ⟨h1, h2, h3⟩ := key xs h
  exact ⟨h1, h2, by unfold chkP; rw [if_pos h3]⟩
theorem readP_len (xs : List Int) : (readP xs).length ≤ xs.length := rdE_len _ _ _ _
theorem quo1_len (x : Int) : 1 ≤ (quo1 x).length ∧ (quo1 x).length ≤ 2 := by unfold quo1; split <;> simp
theorem quo_len : ∀ xs : List Int, (xs.flatMap quo1).length ≤ 2 * xs.length := by
  intro xs
  induction xs with
  | nil => exact Nat.le_refl _
  | cons x xs ih =>
    have := quo1_len x
    rw [List.flatMap_cons, List.length_append, List.length_cons]
    omega
theorem quo_snoc {xs : List Int} {k : Nat} {x : Int} (h : xs.take (k + 1) = xs.take k ++ [x]) : (xs.take (k + 1)).flatMap quo1 = (xs.take k).flatMap quo1 ++ quo1 x := by
  rw [h, List.flatMap_append]; simp
theorem unq_hit (r out : List Int) (i : Nat) : unqS (34 :: r) out i = (out, i + 1, 0) := by
  cases r with
  | nil => rfl
  | cons y r => rw [unqS, if_pos rfl]
theorem unq_esc (y : Int) (r out : List Int) (i : Nat) : unqS (92 :: y :: r) out i = unqS r (out ++ [y]) (i + 2) := by
  rw [unqS, if_neg (by decide), if_pos rfl]
theorem unq_on {x : Int} (h1 : x ≠ 34) (h2 : x ≠ 92) (r out : List Int) (i : Nat) : unqS (x :: r) out i = unqS r (out ++ [x]) (i + 1) := by
  cases r with
  | nil => simp [unqS, h1]
  | cons y r => rw [unqS, if_neg h1, if_neg h2]
theorem unq_back : ∀ (xs behind out : List Int) (i : Nat), unqS (xs.flatMap quo1 ++ 34 :: behind) out i = (out ++ xs, i + (xs.flatMap quo1).length + 1, 0)
  | [], behind, out, i => by simp [unq_hit]
  | x :: xs, behind, out, i => by
    rw [List.flatMap_cons]
    by_cases h : x = 34 ∨ x = 92
    · have e : quo1 x = [92, x] := by unfold quo1; rw [if_pos h]
      rw [e, List.append_assoc]
      show unqS (92 :: x :: (xs.flatMap quo1 ++ 34 :: behind)) out i = _
      rw [unq_esc, unq_back xs behind _ _]
      simp only [List.append_assoc, List.singleton_append, List.length_append, List.length_cons, List.length_nil]
      congr 2
      omega
    · have e : quo1 x = [x] := by unfold quo1; rw [if_neg h]
      rw [e, List.append_assoc]
      show unqS (x :: (xs.flatMap quo1 ++ 34 :: behind)) out i = _
      rw [unq_on (fun hh => h (.inl hh)) (fun hh => h (.inr hh)), unq_back xs behind _ _]
      simp only [List.append_assoc, List.singleton_append, List.length_cons]
      congr 2
      omega
theorem unq_quo (xs behind : List Int) : unqA (quoP xs ++ behind) = (xs, (quoP xs).length, 0) := by
  have e : quoP xs ++ behind = 34 :: (xs.flatMap quo1 ++ 34 :: behind) := by unfold quoP; simp
  rw [e]
  show (if (34 : Int) = 34 then unqS (xs.flatMap quo1 ++ 34 :: behind) [] 1 else ([], 0, 3)) = _
  rw [if_pos rfl, unq_back]
  unfold quoP
  simp only [List.nil_append, List.length_cons, List.length_append, List.length_nil]
  congr 2
  omega
end Go.Proofs.Ytdipabcoeloeoaa
