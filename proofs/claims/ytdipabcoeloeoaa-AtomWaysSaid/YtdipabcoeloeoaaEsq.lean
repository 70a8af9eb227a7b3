/-
  Escapes in a row of octets, in plain words: what a row is read as, octet by octet, an escape's three as one.
-/
import Derived.Test.YtdipabcoeloeoaaD02
import Derived.Test.YtdipabcoeloeoaaD03
namespace Go.Proofs.Ytdipabcoeloeoaa
open Go.RowKit
set_option linter.unusedVariables false

/-- The octet of the escape that a row begins with. -/
def escP (sign : Int) : List Int → Option Int
  | x :: a :: b :: _ => if x = sign ∧ hexO a = true ∧ hexO b = true then some (16 * hexV a + hexV b) else none
  | _ => none
theorem take_esc {xs : List Int} {k : Nat} (s : Int) (hk : k ≤ xs.length) : takeOk xs k s = (escP s (xs.drop k)).isSome ∧ takeV xs k s = (escP s (xs.drop k)).getD 0 := by
  have ek : ((k : Nat) : Int).toNat = k := by omega
  have e1 : k + 1 - k = 1 := by omega
  by_cases h3 : k + 3 ≤ xs.length
  · have e : xs.drop k = xs[k] :: xs[k + 1] :: xs[k + 2] :: xs.drop (k + 3) := by
      rw [List.drop_eq_getElem_cons (by omega), List.drop_eq_getElem_cons (by omega), List.drop_eq_getElem_cons (by omega)]
    have g : ∀ j (hj : j < xs.length), xs.getD j 0 = xs[j] := fun j hj => by rw [List.getD_eq_getElem?_getD, List.getElem?_eq_getElem hj]; rfl
    have hok : takeOk xs k s = decide (xs[k] = s ∧ hexO xs[k + 1] = true ∧ hexO xs[k + 2] = true) := by
      unfold takeOk
      rw [ek, g k (by omega), g (k + 1) (by omega), g (k + 2) (by omega), decide_eq_true (show (0 : Int) ≤ (k : Int) by omega), decide_eq_true (show (k : Int) ≤ (xs.length : Int) - 3 by omega), Bool.eq_iff_iff]
      simp [Bool.and_eq_true, and_assoc]
    rw [e, escP, hok]
    unfold takeV
    rw [hok, ek, g (k + 1) (by omega), g (k + 2) (by omega)]
    by_cases h : xs[k] = s ∧ hexO xs[k + 1] = true ∧ hexO xs[k + 2] = true
    · rw [if_pos h, decide_eq_true h]; exact ⟨rfl, rfl⟩
    · rw [if_neg h, decide_eq_false h]; exact ⟨rfl, rfl⟩
  · have h := take_out (xs := xs) (k := (k : Int)) (s := s) (.inr (by omega))
    have hl : (xs.drop k).length < 3 := by rw [List.length_drop]; omega
    have hn : escP s (xs.drop k) = none := by
      match xs.drop k, hl with
      | [], _ => rfl
      | [_], _ => rfl
      | [_, _], _ => rfl
    rw [h.1, h.2, hn]
    exact ⟨rfl, rfl⟩
theorem hexV_le (c : Int) : 0 ≤ hexV c ∧ hexV c ≤ 15 := hexV_bd c
theorem escP_bd {s : Int} {xs : List Int} {v : Int} (h : escP s xs = some v) : 0 ≤ v ∧ v ≤ 255 ∧ ∃ x a b r, xs = x :: a :: b :: r ∧ x = s := by
  match xs, h with
  | x :: a :: b :: r, h =>
    rw [escP] at h
    split at h
    · rename_i hh
      have h1 := hexV_bd a
      have h2 := hexV_bd b
      have := Option.some.inj h
      exact ⟨by omega, by omega, x, a, b, r, rfl, hh.1⟩
    · cases h
/-- What is read (skip: how many are still to be passed over); how many signs are none of an escape; is all else such? -/
def rdE (s : Int) (f : Int → Int) : List Int → Nat → List Int
  | [], _ => []
  | _ :: r, k + 1 => rdE s f r k
  | x :: r, 0 => match escP s (x :: r) with | some v => v :: rdE s f r 2 | none => f x :: rdE s f r 0
def stE (s : Int) : List Int → Nat → Nat
  | [], _ => 0
  | _ :: r, k + 1 => stE s r k
  | x :: r, 0 => match escP s (x :: r) with | some _ => stE s r 2 | none => (if x = s then 1 else 0) + stE s r 0
def riE (s : Int) (g : Int → Bool) : List Int → Nat → Bool
  | [], _ => true
  | _ :: r, k + 1 => riE s g r k
  | x :: r, 0 => match escP s (x :: r) with | some _ => riE s g r 2 | none => g x && riE s g r 0
theorem rdE_skip (s : Int) (f : Int → Int) : ∀ (r : List Int) (k : Nat), rdE s f r k = rdE s f (r.drop k) 0
  | [], k => by simp [rdE]
  | _ :: r, 0 => rfl
  | _ :: r, k + 1 => by rw [rdE, rdE_skip s f r k, List.drop_succ_cons]
theorem stE_skip (s : Int) : ∀ (r : List Int) (k : Nat), stE s r k = stE s (r.drop k) 0
  | [], k => by simp [stE]
  | _ :: r, 0 => rfl
  | _ :: r, k + 1 => by rw [stE, stE_skip s r k, List.drop_succ_cons]
theorem riE_skip (s : Int) (g : Int → Bool) : ∀ (r : List Int) (k : Nat), riE s g r k = riE s g (r.drop k) 0
  | [], k => by simp [riE]
  | _ :: r, 0 => rfl
  | _ :: r, k + 1 => by rw [riE, riE_skip s g r k, List.drop_succ_cons]
theorem rdE_esc {s : Int} {f : Int → Int} {x v : Int} {r : List Int} (h : escP s (x :: r) = some v) : rdE s f (x :: r) 0 = v :: rdE s f (r.drop 2) 0 := by
  rw [rdE, h]; simp only; rw [rdE_skip]
theorem rdE_on {s : Int} {f : Int → Int} {x : Int} {r : List Int} (h : escP s (x :: r) = none) : rdE s f (x :: r) 0 = f x :: rdE s f r 0 := by
  rw [rdE, h]
theorem stE_esc {s x v : Int} {r : List Int} (h : escP s (x :: r) = some v) : stE s (x :: r) 0 = stE s (r.drop 2) 0 := by
  rw [stE, h]; simp only; rw [stE_skip]
theorem stE_on {s x : Int} {r : List Int} (h : escP s (x :: r) = none) : stE s (x :: r) 0 = (if x = s then 1 else 0) + stE s r 0 := by
  rw [stE, h]
theorem riE_esc {s x v : Int} {g : Int → Bool} {r : List Int} (h : escP s (x :: r) = some v) : riE s g (x :: r) 0 = riE s g (r.drop 2) 0 := by
  rw [riE, h]; simp only; rw [riE_skip]
theorem riE_on {s x : Int} {g : Int → Bool} {r : List Int} (h : escP s (x :: r) = none) : riE s g (x :: r) 0 = (g x && riE s g r 0) := by
  rw [riE, h]
theorem rdE_len (s : Int) (f : Int → Int) : ∀ (xs : List Int) (k : Nat), (rdE s f xs k).length ≤ xs.length
  | [], k => by simp [rdE]
  | _ :: r, k + 1 => by rw [rdE]; have := rdE_len s f r k; simp only [List.length_cons]; omega
  | x :: r, 0 => by
    rw [rdE]
    split
    · have := rdE_len s f r 2; simp only [List.length_cons]; omega
    · have := rdE_len s f r 0; simp only [List.length_cons]; omega
theorem stE_le (s : Int) : ∀ (xs : List Int) (k : Nat), stE s xs k ≤ xs.length
  | [], k => by simp [stE]
  | _ :: r, k + 1 => by rw [stE]; have := stE_le s r k; simp only [List.length_cons]; omega
  | x :: r, 0 => by
    rw [stE]
    split
    · have := stE_le s r 2; simp only [List.length_cons]; omega
    · have := stE_le s r 0; simp only [List.length_cons]; split <;> omega
theorem rdE_bd (s : Int) (f : Int → Int) (hf : ∀ x, 0 ≤ x ∧ x ≤ 255 → 0 ≤ f x ∧ f x ≤ 255) : ∀ (xs : List Int) (k : Nat), (∀ x ∈ xs, 0 ≤ x ∧ x ≤ 255) → ∀ y ∈ rdE s f xs k, 0 ≤ y ∧ y ≤ 255
  | [], k, _, y, hy => by simp [rdE] at hy
  | _ :: r, k + 1, h, y, hy => by
    rw [rdE] at hy
    exact rdE_bd s f hf r k (fun z hz => h z (by simp [hz])) y hy
  | x :: r, 0, h, y, hy => by
    rw [rdE] at hy
    split at hy
    · rename_i v hv
      simp only [List.mem_cons] at hy
      rcases hy with rfl | hy
      · have := escP_bd hv; exact ⟨this.1, this.2.1⟩
      · exact rdE_bd s f hf r 2 (fun z hz => h z (by simp [hz])) y hy
    · simp only [List.mem_cons] at hy
      rcases hy with rfl | hy
      · exact hf x (h x (by simp))
      · exact rdE_bd s f hf r 0 (fun z hz => h z (by simp [hz])) y hy
/-- Codes side by side: an escape's, or a plain octet's, is read as that octet. -/
theorem escP_put {s c : Int} (hs : True) (h0 : 0 ≤ c) (h1 : c ≤ 255) (r : List Int) : escP s (escI [] s c ++ r) = some c := by
  have d1 := hexV_dig (c / 16) (by omega) (by omega)
  have d2 := hexV_dig (c % 16) (by omega) (by omega)
  show escP s (s :: digI (c / 16) :: digI (c % 16) :: r) = some c
  rw [escP, if_pos ⟨rfl, d1.2, d2.2⟩, d1.1, d2.1]
  congr 1
  omega
theorem escP_ne {s x : Int} (h : x ≠ s) (r : List Int) : escP s (x :: r) = none := by
  match r with
  | [] => rfl
  | [_] => rfl
  | a :: b :: r => rw [escP, if_neg (fun hh => h hh.1)]
end Go.Proofs.Ytdipabcoeloeoaa
