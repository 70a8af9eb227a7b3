/-
  Texts of ours laid together: D14, D15.
-/
import Derived.Test.YtefhddbbiheadaaGreatZ7

/-! D14 -/
namespace Go.Proofs.YtefhddbbiheadaaGreat
open Go.RowKit
set_option linter.unusedVariables false

/-- The digit of a number from 0 to 63; a digit's number. -/
def dg64 (k : Int) : Int := if k < 26 then 65 + k else if k < 52 then 71 + k else if k < 62 then k - 4 else if k = 62 then 43 else 47
def valN (c : Int) : Option Nat := (List.range 64).find? (fun n : Nat => decide (dg64 n = c))
def valI (c : Int) : Int := match valN c with | some n => (n : Int) | none => 0
def isDig (c : Int) : Bool := (valN c).isSome
/-- The digits' numbers of octets; the code, bare and filled up. -/
def v64 : List Int → List Int
  | [] => []
  | [a] => [a / 4, a % 4 * 16]
  | [a, b] => [a / 4, a % 4 * 16 + b / 16, b % 16 * 4]
  | a :: b :: c :: r => (a / 4) :: (a % 4 * 16 + b / 16) :: (b % 16 * 4 + c / 64) :: (c % 64) :: v64 r
def bareB (xs : List Int) : List Int := (v64 xs).map dg64
def fill4 (xs : List Int) : List Int := xs ++ List.replicate ((4 - xs.length % 4) % 4) 61
def layB (xs : List Int) : List Int := fill4 (bareB xs)
/-- Digits' numbers as octets; are the bits that are left over 0? -/
def rd64 : List Int → List Int
  | p :: q :: r :: s :: t => (p * 4 + q / 16) :: (q % 16 * 16 + r / 4) :: (r % 4 * 64 + s) :: rd64 t
  | [p, q, r] => [p * 4 + q / 16, q % 16 * 16 + r / 4]
  | [p, q] => [p * 4 + q / 16]
  | _ => []
def ok64 : List Int → Bool
  | _ :: _ :: _ :: _ :: t => ok64 t
  | [_, _, r] => decide (r % 4 = 0)
  | [_, q] => decide (q % 16 = 0)
  | [p] => decide (p = 0)
  | [] => true
/-- How much of a code is left without at most two that fill up. -/
def eqEnd (xs : List Int) : Nat := if 0 < xs.length ∧ xs.getD (xs.length - 1) 0 = 61 then (if 1 < xs.length ∧ xs.getD (xs.length - 2) 0 = 61 then xs.length - 2 else xs.length - 1) else xs.length
def codD (xs : List Int) : List Int := xs.take (eqEnd xs)
def codE (xs : List Int) : Int := if (codD xs).all isDig = true then (if xs.length % 4 = 0 then (if ok64 ((codD xs).map valI) = true then 0 else 3) else 4) else 3
def codL (xs : List Int) : List Int := if codE xs = 0 then rd64 ((codD xs).map valI) else []
def lenB (n : Int) : Int := if n < 1 then 0 else (n - 1) / 3 * 4 + 4

/-! ### digits -/
def V6 (v : Int) : Prop := 0 ≤ v ∧ v ≤ 63
def O8 (x : Int) : Prop := 0 ≤ x ∧ x ≤ 255
theorem dig_val (n : Nat) (h : n < 64) : valN (dg64 n) = some n := by
  have : ∀ n : Fin 64, valN (dg64 (n.val : Int)) = some n.val := by decide +kernel
  exact this ⟨n, h⟩
theorem val_of {c : Int} {n : Nat} (h : valN c = some n) : n < 64 ∧ dg64 n = c ∧ valI c = n ∧ isDig c = true := by
  have h' := h
  unfold valN at h
  rw [List.find?_range_eq_some] at h
  obtain ⟨h1, h2, _⟩ := h
  exact ⟨by simpa using h2, of_decide_eq_true h1, by unfold valI; rw [h'], by unfold isDig; rw [h']; rfl⟩
theorem val_no {c : Int} (h : valN c = none) : valI c = 0 ∧ isDig c = false := ⟨by unfold valI; rw [h], by unfold isDig; rw [h]; rfl⟩
theorem val_hit {c : Int} {k : Nat} (hk : k < 64) (hs : dg64 k = c) : valN c = some k := by rw [← hs]; exact dig_val k hk
theorem val_none {c : Int} (hn : ∀ j : Nat, j < 64 → ¬ dg64 j = c) : valN c = none := by
  unfold valN
  rw [List.find?_range_eq_none]
  exact fun j hj => by rw [decide_eq_false (hn j hj)]; rfl
theorem val_bd (c : Int) : V6 (valI c) := by
  cases h : valN c with
  | none => rw [(val_no h).1]; exact ⟨by omega, by omega⟩
  | some n => have := val_of h; rw [this.2.2.1]; exact ⟨by omega, by omega⟩
theorem dig_of_val {c : Int} (h : isDig c = true) : dg64 (valI c) = c := by
  unfold isDig at h
  obtain ⟨n, hn⟩ := Option.isSome_iff_exists.1 h
  have := val_of hn
  rw [this.2.2.1]; exact this.2.1
theorem val_dig {v : Int} (h : V6 v) : valI (dg64 v) = v ∧ isDig (dg64 v) = true := by
  have e : ((v.toNat : Nat) : Int) = v := by have := h.1; omega
  have := val_of (dig_val v.toNat (by have := h.2; omega))
  rw [e] at this
  exact ⟨this.2.2.1, this.2.2.2⟩
theorem dig_bd {v : Int} (h : V6 v) : 43 ≤ dg64 v ∧ dg64 v ≤ 122 ∧ dg64 v ≠ 61 := by
  obtain ⟨h0, h1⟩ := h
  unfold dg64
  (repeat' split) <;> omega
theorem dg_wf {v : Int} (h : V6 v) : (Lit.int .u8 (dg64 v)).wf = true := mk_u8 (by have := dig_bd h; omega) (by have := dig_bd h; omega)
theorem isDig_61 : isDig 61 = false := by decide +kernel

/-! ### by threes and by fours -/
theorem ind3 {p : List Int → Prop} (h0 : p []) (h1 : ∀ a, p [a]) (h2 : ∀ a b, p [a, b]) (h3 : ∀ a b c r, p r → p (a :: b :: c :: r)) : ∀ xs, p xs
  | [] => h0
  | [a] => h1 a
  | [a, b] => h2 a b
  | a :: b :: c :: r => h3 a b c r (ind3 h0 h1 h2 h3 r)
theorem ind4 {p : List Int → Prop} (h0 : p []) (h1 : ∀ a, p [a]) (h2 : ∀ a b, p [a, b]) (h3 : ∀ a b c, p [a, b, c]) (h4 : ∀ a b c d r, p r → p (a :: b :: c :: d :: r)) : ∀ xs, p xs
  | [] => h0
  | [a] => h1 a
  | [a, b] => h2 a b
  | [a, b, c] => h3 a b c
  | a :: b :: c :: d :: r => h4 a b c d r (ind4 h0 h1 h2 h3 h4 r)
theorem v64_bd : ∀ xs : List Int, (∀ x ∈ xs, O8 x) → ∀ v ∈ v64 xs, V6 v := by
  refine ind3 ?_ ?_ ?_ ?_
  · intro _ v hv; cases hv
  · intro a h v hv
    have ha := h a (by simp)
    unfold O8 at ha
    simp only [v64, List.mem_cons, List.not_mem_nil, or_false] at hv
    unfold V6
    omega
  · intro a b h v hv
    have ha := h a (by simp)
    have hb := h b (by simp)
    unfold O8 at ha hb
    simp only [v64, List.mem_cons, List.not_mem_nil, or_false] at hv
    unfold V6
    omega
  · intro a b c r ih h v hv
    have ha := h a (by simp)
    have hb := h b (by simp)
    have hc := h c (by simp)
    unfold O8 at ha hb hc
    simp only [v64, List.mem_cons] at hv
    rcases hv with h1 | h1 | h1 | h1 | h1
    · unfold V6; omega
    · unfold V6; omega
    · unfold V6; omega
    · unfold V6; omega
    · exact ih (fun x hx => h x (by simp [hx])) v h1
theorem rd64_bd : ∀ vs : List Int, (∀ v ∈ vs, V6 v) → ∀ x ∈ rd64 vs, O8 x := by
  refine ind4 ?_ ?_ ?_ ?_ ?_
  · intro _ v hv; cases hv
  · intro a h v hv; cases hv
  · intro a b h v hv
    have ha := h a (by simp)
    have hb := h b (by simp)
    unfold V6 at ha hb
    simp only [rd64, List.mem_cons, List.not_mem_nil, or_false] at hv
    unfold O8
    omega
  · intro a b c h v hv
    have ha := h a (by simp)
    have hb := h b (by simp)
    have hc := h c (by simp)
    unfold V6 at ha hb hc
    simp only [rd64, List.mem_cons, List.not_mem_nil, or_false] at hv
    unfold O8
    omega
  · intro a b c d r ih h v hv
    have ha := h a (by simp)
    have hb := h b (by simp)
    have hc := h c (by simp)
    have hd := h d (by simp)
    unfold V6 at ha hb hc hd
    simp only [rd64, List.mem_cons] at hv
    rcases hv with h1 | h1 | h1 | h1
    · unfold O8; omega
    · unfold O8; omega
    · unfold O8; omega
    · exact ih (fun x hx => h x (by simp [hx])) v h1
/-- What is laid is read (P14.3). -/
theorem rd_v64 : ∀ xs : List Int, (∀ x ∈ xs, O8 x) → rd64 (v64 xs) = xs ∧ ok64 (v64 xs) = true := by
  refine ind3 ?_ ?_ ?_ ?_
  · intro _; exact ⟨rfl, rfl⟩
  · intro a h
    have ha := h a (by simp)
    unfold O8 at ha
    simp only [v64, rd64, ok64, decide_eq_true_eq]
    refine ⟨?_, by omega⟩
    congr 1
    omega
  · intro a b h
    have ha := h a (by simp)
    have hb := h b (by simp)
    unfold O8 at ha hb
    simp only [v64, rd64, ok64, decide_eq_true_eq]
    refine ⟨?_, by omega⟩
    congr 1
    · omega
    · congr 1
      omega
  · intro a b c r ih h
    have ha := h a (by simp)
    have hb := h b (by simp)
    have hc := h c (by simp)
    unfold O8 at ha hb hc
    have i := ih (fun x hx => h x (by simp [hx]))
    simp only [v64, rd64, ok64, i.1, i.2, and_true]
    congr 1
    · omega
    · congr 1
      · omega
      · congr 1
        omega
/-- What is read is laid as the same. -/
theorem v_rd64 : ∀ vs : List Int, (∀ v ∈ vs, V6 v) → ok64 vs = true → vs.length % 4 ≠ 1 → v64 (rd64 vs) = vs := by
  refine ind4 ?_ ?_ ?_ ?_ ?_
  · intro _ _ _; rfl
  · intro a h h2 h3; simp at h3
  · intro a b h h2 _
    have ha := h a (by simp)
    have hb := h b (by simp)
    unfold V6 at ha hb
    simp only [ok64, decide_eq_true_eq] at h2
    simp only [rd64, v64]
    congr 1
    · omega
    · congr 1
      omega
  · intro a b c h h2 _
    have ha := h a (by simp)
    have hb := h b (by simp)
    have hc := h c (by simp)
    unfold V6 at ha hb hc
    simp only [ok64, decide_eq_true_eq] at h2
    simp only [rd64, v64]
    congr 1
    · omega
    · congr 1
      · omega
      · congr 1
        omega
  · intro a b c d r ih h h2 h3
    have ha := h a (by simp)
    have hb := h b (by simp)
    have hc := h c (by simp)
    have hd := h d (by simp)
    unfold V6 at ha hb hc hd
    have i := ih (fun x hx => h x (by simp [hx])) h2 (by simp only [List.length_cons] at h3; omega)
    simp only [rd64, v64, i]
    congr 1
    · omega
    · congr 1
      · omega
      · congr 1
        · omega
        · congr 1
          omega
theorem v64_len : ∀ xs : List Int, (v64 xs).length = xs.length + (xs.length + 2) / 3 := by
  refine ind3 rfl (fun _ => by simp [v64]) (fun _ _ => by simp [v64]) ?_
  intro a b c r ih
  simp only [v64, List.length_cons, ih]
  omega
theorem v64_mod (xs : List Int) : (v64 xs).length % 4 ≠ 1 := by rw [v64_len]; omega
theorem rd64_len : ∀ vs : List Int, (rd64 vs).length = vs.length * 3 / 4 := by
  refine ind4 rfl (fun _ => by simp [rd64]) (fun _ _ => by simp [rd64]) (fun _ _ _ => by simp [rd64]) ?_
  intro a b c d r ih
  simp only [rd64, List.length_cons, ih]
  omega

/-! ### the same, bit by bit -/
def bit8 (x : Int) : List Int := [x / 128 % 2, x / 64 % 2, x / 32 % 2, x / 16 % 2, x / 8 % 2, x / 4 % 2, x / 2 % 2, x % 2]
def bit6 (x : Int) : List Int := [x / 32 % 2, x / 16 % 2, x / 8 % 2, x / 4 % 2, x / 2 % 2, x % 2]
def bits8 (xs : List Int) : List Int := xs.flatMap bit8
def bits6 (vs : List Int) : List Int := vs.flatMap bit6
def numL (l : List Int) : Int := l.foldl (fun n b => 2 * n + b) 0
def pad6 (l : List Int) : List Int := l ++ List.replicate ((6 - l.length % 6) % 6) 0
/-- A list in parts of n, a number of each. -/
def parts (n : Nat) (f : List Int → Int) (l : List Int) : List Int := (List.range (l.length / n)).map (fun j => f ((l.drop (j * n)).take n))
theorem parts_app {n : Nat} (hn : 0 < n) (f : List Int → Int) {a : List Int} (ha : a.length = n) (l : List Int) : parts n f (a ++ l) = f a :: parts n f l := by
  unfold parts
  have e : (a ++ l).length / n = l.length / n + 1 := by rw [List.length_append, ha, Nat.add_comm, Nat.add_div_right _ hn]
  rw [e, List.range_succ_eq_map, List.map_cons, List.map_map]
  congr 1
  · rw [Nat.zero_mul, List.drop_zero, ← ha, List.take_left]
  · refine List.map_congr_left fun j _ => ?_
    show f (((a ++ l).drop ((j + 1) * n)).take n) = f ((l.drop (j * n)).take n)
    rw [Nat.add_mul, Nat.one_mul, Nat.add_comm, ← List.drop_drop, ← ha, List.drop_left]
theorem parts6_cons (f : List Int → Int) (a b c d e g : Int) (r : List Int) : parts 6 f (a :: b :: c :: d :: e :: g :: r) = f [a, b, c, d, e, g] :: parts 6 f r := parts_app (n := 6) (by decide) f (a := [a, b, c, d, e, g]) rfl r
theorem parts8_cons (f : List Int → Int) (a b c d e g h k : Int) (r : List Int) : parts 8 f (a :: b :: c :: d :: e :: g :: h :: k :: r) = f [a, b, c, d, e, g, h, k] :: parts 8 f r := parts_app (n := 8) (by decide) f (a := [a, b, c, d, e, g, h, k]) rfl r
theorem parts_short {n : Nat} (f : List Int → Int) {l : List Int} (h : l.length < n) : parts n f l = [] := by
  unfold parts
  rw [Nat.div_eq_of_lt h]; rfl
theorem pad6_app {a l : List Int} (ha : a.length % 6 = 0) : pad6 (a ++ l) = a ++ pad6 l := by
  unfold pad6
  rw [List.append_assoc, List.length_append, show (a.length + l.length) % 6 = l.length % 6 by omega]
theorem bits8_cons (x : Int) (r : List Int) : bits8 (x :: r) = bit8 x ++ bits8 r := by unfold bits8; rw [List.flatMap_cons]
theorem bits6_cons (x : Int) (r : List Int) : bits6 (x :: r) = bit6 x ++ bits6 r := by unfold bits6; rw [List.flatMap_cons]
theorem bits8_len : ∀ xs : List Int, (bits8 xs).length = 8 * xs.length := by
  intro xs
  induction xs with
  | nil => rfl
  | cons x r ih => rw [bits8_cons, List.length_append, ih, List.length_cons]; simp [bit8]; omega
theorem bits6_len : ∀ xs : List Int, (bits6 xs).length = 6 * xs.length := by
  intro xs
  induction xs with
  | nil => rfl
  | cons x r ih => rw [bits6_cons, List.length_append, ih, List.length_cons]; simp [bit6]; omega
theorem num6 (x : Int) (h : V6 x) : numL (bit6 x) = x := by
  unfold V6 at h
  simp only [numL, bit6, List.foldl_cons, List.foldl_nil]
  omega
theorem cons2 {a b : Int} {l m : List Int} (h : a = b) (h' : l = m) : a :: l = b :: m := by rw [h, h']
theorem dig2 {a b : Int} (h : a = b) : dg64 a = dg64 b := by rw [h]
theorem bare_bits : ∀ xs : List Int, (∀ x ∈ xs, O8 x) → parts 6 (fun l => dg64 (numL l)) (pad6 (bits8 xs)) = bareB xs := by
  unfold bareB
  refine ind3 ?_ ?_ ?_ ?_
  · intro _; rfl
  · intro a h
    have ha := h a (by simp)
    unfold O8 at ha
    rw [show pad6 (bits8 [a]) = [a / 128 % 2, a / 64 % 2, a / 32 % 2, a / 16 % 2, a / 8 % 2, a / 4 % 2, a / 2 % 2, a % 2, 0, 0, 0, 0] by simp [pad6, bits8, bit8], parts6_cons, parts6_cons, parts_short _ (by decide)]
    simp only [v64, List.map_cons, List.map_nil, numL, List.foldl_cons, List.foldl_nil]
    exact cons2 (dig2 (by omega)) (cons2 (dig2 (by omega)) rfl)
  · intro a b h
    have ha := h a (by simp)
    have hb := h b (by simp)
    unfold O8 at ha hb
    rw [show pad6 (bits8 [a, b]) = [a / 128 % 2, a / 64 % 2, a / 32 % 2, a / 16 % 2, a / 8 % 2, a / 4 % 2, a / 2 % 2, a % 2, b / 128 % 2, b / 64 % 2, b / 32 % 2, b / 16 % 2, b / 8 % 2, b / 4 % 2, b / 2 % 2, b % 2, 0, 0] by simp [pad6, bits8, bit8], parts6_cons, parts6_cons, parts6_cons, parts_short _ (by decide)]
    simp only [v64, List.map_cons, List.map_nil, numL, List.foldl_cons, List.foldl_nil]
    exact cons2 (dig2 (by omega)) (cons2 (dig2 (by omega)) (cons2 (dig2 (by omega)) rfl))
  · intro a b c r ih h
    have ha := h a (by simp)
    have hb := h b (by simp)
    have hc := h c (by simp)
    unfold O8 at ha hb hc
    have i := ih (fun x hx => h x (by simp [hx]))
    rw [bits8_cons, bits8_cons, bits8_cons, ← List.append_assoc, ← List.append_assoc, pad6_app (by simp [bit8])]
    rw [show bit8 a ++ bit8 b ++ bit8 c ++ pad6 (bits8 r) = a / 128 % 2 :: a / 64 % 2 :: a / 32 % 2 :: a / 16 % 2 :: a / 8 % 2 :: a / 4 % 2 :: a / 2 % 2 :: a % 2 :: b / 128 % 2 :: b / 64 % 2 :: b / 32 % 2 :: b / 16 % 2 :: b / 8 % 2 :: b / 4 % 2 :: b / 2 % 2 :: b % 2 :: c / 128 % 2 :: c / 64 % 2 :: c / 32 % 2 :: c / 16 % 2 :: c / 8 % 2 :: c / 4 % 2 :: c / 2 % 2 :: c % 2 :: pad6 (bits8 r) from rfl, parts6_cons, parts6_cons, parts6_cons, parts6_cons, i]
    simp only [v64, List.map_cons, numL, List.foldl_cons, List.foldl_nil]
    exact cons2 (dig2 (by omega)) (cons2 (dig2 (by omega)) (cons2 (dig2 (by omega)) (cons2 (dig2 (by omega)) rfl)))
theorem rd_bits : ∀ vs : List Int, (∀ v ∈ vs, V6 v) → parts 8 numL (bits6 vs) = rd64 vs ∧ decide (numL ((bits6 vs).drop (8 * ((bits6 vs).length / 8))) = 0) = ok64 vs := by
  refine ind4 ?_ ?_ ?_ ?_ ?_
  · intro _; exact ⟨rfl, rfl⟩
  · intro p h
    have hp := h p (by simp)
    refine ⟨parts_short _ (by simp [bits6, bit6]), ?_⟩
    rw [show (bits6 [p]).drop (8 * ((bits6 [p]).length / 8)) = bit6 p by simp [bits6, bit6], num6 p hp]
    rfl
  · intro p q h
    have hp := h p (by simp)
    have hq := h q (by simp)
    unfold V6 at hp hq
    refine ⟨?_, ?_⟩
    · rw [show bits6 [p, q] = [p / 32 % 2, p / 16 % 2, p / 8 % 2, p / 4 % 2, p / 2 % 2, p % 2, q / 32 % 2, q / 16 % 2, q / 8 % 2, q / 4 % 2, q / 2 % 2, q % 2] from rfl, parts8_cons, parts_short _ (by simp)]
      simp only [rd64, numL, List.foldl_cons, List.foldl_nil]
      congr 1
      omega
    · rw [show (bits6 [p, q]).drop (8 * ((bits6 [p, q]).length / 8)) = [q / 8 % 2, q / 4 % 2, q / 2 % 2, q % 2] by simp [bits6, bit6], show ok64 [p, q] = decide (q % 16 = 0) from rfl, decide_eq_decide]
      simp only [numL, List.foldl_cons, List.foldl_nil]
      omega
  · intro p q r h
    have hp := h p (by simp)
    have hq := h q (by simp)
    have hr := h r (by simp)
    unfold V6 at hp hq hr
    refine ⟨?_, ?_⟩
    · rw [show bits6 [p, q, r] = [p / 32 % 2, p / 16 % 2, p / 8 % 2, p / 4 % 2, p / 2 % 2, p % 2, q / 32 % 2, q / 16 % 2, q / 8 % 2, q / 4 % 2, q / 2 % 2, q % 2, r / 32 % 2, r / 16 % 2, r / 8 % 2, r / 4 % 2, r / 2 % 2, r % 2] from rfl, parts8_cons, parts8_cons, parts_short _ (by simp)]
      simp only [rd64, numL, List.foldl_cons, List.foldl_nil]
      congr 1
      · omega
      · congr 1
        omega
    · rw [show (bits6 [p, q, r]).drop (8 * ((bits6 [p, q, r]).length / 8)) = [r / 2 % 2, r % 2] by simp [bits6, bit6], show ok64 [p, q, r] = decide (r % 4 = 0) from rfl, decide_eq_decide]
      simp only [numL, List.foldl_cons, List.foldl_nil]
      omega
  · intro p q r s t ih h
    have hp := h p (by simp)
    have hq := h q (by simp)
    have hr := h r (by simp)
    have hs := h s (by simp)
    unfold V6 at hp hq hr hs
    have i := ih (fun x hx => h x (by simp [hx]))
    have e : bits6 (p :: q :: r :: s :: t) = p / 32 % 2 :: p / 16 % 2 :: p / 8 % 2 :: p / 4 % 2 :: p / 2 % 2 :: p % 2 :: q / 32 % 2 :: q / 16 % 2 :: q / 8 % 2 :: q / 4 % 2 :: q / 2 % 2 :: q % 2 :: r / 32 % 2 :: r / 16 % 2 :: r / 8 % 2 :: r / 4 % 2 :: r / 2 % 2 :: r % 2 :: s / 32 % 2 :: s / 16 % 2 :: s / 8 % 2 :: s / 4 % 2 :: s / 2 % 2 :: s % 2 :: bits6 t := by
      rw [bits6_cons, bits6_cons, bits6_cons, bits6_cons]; rfl
    refine ⟨?_, ?_⟩
    · rw [e, parts8_cons, parts8_cons, parts8_cons, i.1]
      simp only [rd64, numL, List.foldl_cons, List.foldl_nil]
      congr 1
      · omega
      · congr 1
        · omega
        · congr 1
          omega
    · rw [show ok64 (p :: q :: r :: s :: t) = ok64 t from rfl, ← i.2]
      have hl : (bits6 (p :: q :: r :: s :: t)).length = 24 + (bits6 t).length := by rw [bits6_len, bits6_len]; simp only [List.length_cons]; omega
      rw [hl, show 8 * ((24 + (bits6 t).length) / 8) = 24 + 8 * ((bits6 t).length / 8) by omega, ← List.drop_drop, show (bits6 (p :: q :: r :: s :: t)).drop 24 = bits6 t by rw [e]; rfl]
end Go.Proofs.YtefhddbbiheadaaGreat

/-! D15 -/
namespace Go.Proofs.YtefhddbbiheadaaGreat
open Go.RowKit
set_option linter.unusedVariables false

def noEq (x : Int) : Bool := decide (x ≠ 61)
/-- Up to the first =; the digits there, in order; how many others. -/
def cutEq (xs : List Int) : List Int := xs.takeWhile noEq
def digL (xs : List Int) : List Int := (cutEq xs).filter isDig
def strQ (xs : List Int) : Nat := ((cutEq xs).filter (fun c => !isDig c)).length
/-- What is read; how many bits are left over; the strict code of it. -/
def looL (xs : List Int) : List Int := rd64 ((digL xs).map valI)
def drpN (xs : List Int) : Nat := 6 * (digL xs).length % 8
def clnL (xs : List Int) : List Int := layB (looL xs)

theorem cut_at {f : Int → Bool} {xs : List Int} {k : Nat} (hn : (xs.take k).all f = true) (h : xs.length ≤ k ∨ ∃ x, xs[k]? = some x ∧ f x = false) : xs.takeWhile f = xs.take k := by
  induction xs generalizing k with
  | nil => simp
  | cons y xs ih =>
    cases k with
    | zero =>
      rcases h with h | ⟨x, h1, h2⟩
      · simp at h
      · simp only [List.getElem?_cons_zero, Option.some.injEq] at h1
        subst h1
        rw [List.takeWhile_cons, h2]; rfl
    | succ k =>
      simp only [List.take_succ_cons, List.all_cons, Bool.and_eq_true] at hn
      rw [List.takeWhile_cons, hn.1, List.take_succ_cons]
      simp only [if_true]
      rw [ih hn.2 (by
        rcases h with h | ⟨x, h1, h2⟩
        · simp only [List.length_cons] at h; exact .inl (by omega)
        · exact .inr ⟨x, by simpa using h1, h2⟩)]
theorem digL_dig (xs : List Int) : (digL xs).all isDig = true := by
  rw [List.all_eq_true]
  intro x hx
  exact (List.mem_filter.1 hx).2
theorem digL_le (xs : List Int) : (digL xs).length ≤ xs.length := Nat.le_trans (List.length_filter_le _ _) (List.takeWhile_sublist _).length_le
theorem digL_v6 (xs : List Int) : ∀ v ∈ (digL xs).map valI, V6 v := by
  intro v hv
  obtain ⟨c, _, rfl⟩ := List.mem_map.1 hv
  exact val_bd c
theorem looL_le (xs : List Int) : (looL xs).length ≤ xs.length := by
  unfold looL
  rw [rd64_len, List.length_map]
  have := digL_le xs
  omega
theorem bits_drop (xs : List Int) : (bits6 ((digL xs).map valI)).length % 8 = drpN xs := by
  rw [bits6_len, List.length_map]; rfl
end Go.Proofs.YtefhddbbiheadaaGreat
