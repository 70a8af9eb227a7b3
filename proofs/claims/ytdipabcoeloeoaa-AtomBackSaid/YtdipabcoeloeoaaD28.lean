/-
  Layer 28, in plain words: gaps, tokens, values.
-/
import Derived.Test.YtdipabcoeloeoaaD21
namespace Go.Proofs.Ytdipabcoeloeoaa
open Go.RowKit
set_option linter.unusedVariables false

def gapB (c : Int) : Bool := isB 2 c || (decide (c = 13) || decide (c = 10))
def tokB (c : Int) : Bool := isB 64 c
/-- How many octets a comment has (true: one octet is gone over; how deep it is so far); how deep comments lie. -/
def cmE : List Int → Bool → Nat → Nat
  | [], _, _ => 0
  | _ :: r, true, d => 1 + cmE r false d
  | x :: r, false, d => if x = 92 then 1 + cmE r true d else if x = 40 then 1 + cmE r false (d + 1) else if x = 41 then (if d = 1 then 1 else 1 + cmE r false (d - 1)) else 1 + cmE r false d
def mxN (m x : Nat) : Nat := if m < x then x else m
def cmM : List Int → Bool → Nat → Nat → Nat
  | [], _, _, m => m
  | _ :: r, true, d, m => cmM r false d m
  | x :: r, false, d, m => if x = 92 then cmM r true d m else if x = 40 then cmM r false (d + 1) (mxN m (d + 1)) else if x = 41 then (if d = 1 then m else cmM r false (d - 1) m) else cmM r false d m
theorem cmE_le : ∀ (s : List Int) (b : Bool) (d : Nat), cmE s b d ≤ s.length
  | [], _, _ => Nat.le_refl _
  | x :: r, true, d => by have := cmE_le r false d; rw [cmE, List.length_cons]; omega
  | x :: r, false, d => by
    have h1 := cmE_le r true d
    have h2 := cmE_le r false (d + 1)
    have h3 := cmE_le r false (d - 1)
    have h4 := cmE_le r false d
    rw [cmE, List.length_cons]
    (repeat' split) <;> omega
theorem cmE_pos (x : Int) (r : List Int) (d : Nat) : 0 < cmE (x :: r) false d := by
  rw [cmE]
  (repeat' split) <;> omega
theorem cmM_le : ∀ (s : List Int) (b : Bool) (d m : Nat), cmM s b d m ≤ mxN m (d + s.length)
  | [], _, _, m => by rw [cmM]; unfold mxN; split <;> omega
  | x :: r, true, d, m => by have := cmM_le r false d m; rw [cmM, List.length_cons]; unfold mxN at *; (repeat' split at *) <;> omega
  | x :: r, false, d, m => by
    have h1 := cmM_le r true d m
    have h2 := cmM_le r false (d + 1) (mxN m (d + 1))
    have h3 := cmM_le r false (d - 1) m
    have h4 := cmM_le r false d m
    rw [cmM, List.length_cons]
    unfold mxN at *
    by_cases a : x = 92
    · rw [if_pos a]; (repeat' split at *) <;> omega
    · rw [if_neg a]
      by_cases b : x = 40
      · rw [if_pos b]; (repeat' split at *) <;> omega
      · rw [if_neg b]
        by_cases c : x = 41
        · rw [if_pos c]
          by_cases e : d = 1
          · rw [if_pos e]; split <;> omega
          · rw [if_neg e]; (repeat' split at *) <;> omega
        · rw [if_neg c]; (repeat' split at *) <;> omega
/-- How many octets a gap has. -/
def gapN : List Int → Nat
  | [] => 0
  | x :: r => if gapB x = true then 1 + gapN r else if x = 40 then cmE (x :: r) false 0 + gapN (r.drop (cmE (x :: r) false 0 - 1)) else 0
termination_by s => s.length
decreasing_by all_goals (simp [List.length_drop]; try omega)
theorem gapN_nil : gapN [] = 0 := by rw [gapN]
theorem gapN_on {x : Int} {r : List Int} (h : gapB x = true) : gapN (x :: r) = 1 + gapN r := by rw [gapN, if_pos h]
theorem gapN_com {x : Int} {r : List Int} (h : gapB x = false) (h' : x = 40) : gapN (x :: r) = cmE (x :: r) false 0 + gapN ((x :: r).drop (cmE (x :: r) false 0)) := by
  have hp := cmE_pos x r 0
  obtain ⟨m, hm⟩ : ∃ m, cmE (x :: r) false 0 = m + 1 := ⟨cmE (x :: r) false 0 - 1, by omega⟩
  rw [gapN, if_neg (by rw [h]; decide), if_pos h', hm]
  rfl
theorem gapN_no {x : Int} {r : List Int} (h : gapB x = false) (h' : x ≠ 40) : gapN (x :: r) = 0 := by rw [gapN, if_neg (by rw [h]; decide), if_neg h']
theorem gap_ind {p : List Int → Prop} (h0 : p []) (h1 : ∀ x r, gapB x = true → p r → p (x :: r)) (h2 : ∀ x r, gapB x = false → x = 40 → p ((x :: r).drop (cmE (x :: r) false 0)) → p (x :: r)) (h3 : ∀ x r, gapB x = false → x ≠ 40 → p (x :: r)) : ∀ s, p s := by
  have key : ∀ (n : Nat) (s : List Int), s.length ≤ n → p s := by
    intro n
    induction n with
    | zero => intro s h; obtain rfl : s = [] := List.eq_nil_of_length_eq_zero (by omega)
              exact h0
    | succ n ih =>
      intro s h
      match s, h with
      | [], _ => exact h0
      | x :: r, h =>
        cases hg : gapB x
        · by_cases h40 : x = 40
          · exact h2 x r hg h40 (ih _ (by have := cmE_pos x r 0; simp only [List.length_drop, List.length_cons] at h ⊢; omega))
          · exact h3 x r hg h40
        · exact h1 x r hg (ih r (by simp at h; omega))
  exact fun s => key _ s (Nat.le_refl _)
theorem gapN_le : ∀ s : List Int, gapN s ≤ s.length := by
  refine gap_ind (by rw [gapN_nil]; exact Nat.le_refl _) (fun x r h ih => ?_) (fun x r h h' ih => ?_) (fun x r h h' => ?_)
  · rw [gapN_on h, List.length_cons]; omega
  · rw [gapN_com h h']
    have := cmE_le (x :: r) false 0
    rw [List.length_drop] at ih
    omega
  · rw [gapN_no h h']; omega
/-- Behind a gap none is left. -/
theorem gapN_idem : ∀ s : List Int, gapN (s.drop (gapN s)) = 0 := by
  refine gap_ind (by rw [gapN_nil]; exact gapN_nil) (fun x r h ih => ?_) (fun x r h h' ih => ?_) (fun x r h h' => ?_)
  · rw [gapN_on h, Nat.add_comm, List.drop_succ_cons]; exact ih
  · rw [gapN_com h h', ← List.drop_drop]; exact ih
  · rw [gapN_no h h', List.drop_zero, gapN_no h h']
/-- A place, within. -/
def withN (at_ : Int) (n : Nat) : Nat := if at_ < 0 then 0 else if (n : Int) < at_ then n else at_.toNat
theorem withN_le (at_ : Int) (n : Nat) : withN at_ n ≤ n := by unfold withN; (repeat' split) <;> omega
theorem withN_of {k n : Nat} (h : k ≤ n) : withN (k : Int) n = k := by unfold withN; rw [if_neg (by omega), if_neg (by omega)]; omega
def gapP (s : List Int) (at_ : Int) : Nat := withN at_ s.length + gapN (s.drop (withN at_ s.length))
theorem gapP_le (s : List Int) (at_ : Int) : withN at_ s.length ≤ gapP s at_ ∧ gapP s at_ ≤ s.length := by
  have h1 := withN_le at_ s.length
  have h2 := gapN_le (s.drop (withN at_ s.length))
  rw [List.length_drop] at h2
  unfold gapP
  omega
theorem gapP_idem (s : List Int) (at_ : Int) : gapP s (gapP s at_ : Int) = gapP s at_ := by
  have h := (gapP_le s at_).2
  have h2 := gapN_idem (s.drop (withN at_ s.length))
  rw [List.drop_drop] at h2
  have h3 : gapN (s.drop (gapP s at_)) = 0 := h2
  have e : ∀ z : Int, gapP s z = withN z s.length + gapN (s.drop (withN z s.length)) := fun _ => rfl
  rw [e (gapP s at_ : Int), withN_of h, h3]
  rfl
def skpB (s : List Int) (at_ c : Int) : Bool := decide (s[gapP s at_]? = some c)
def skpN (s : List Int) (at_ c : Int) : Nat := if skpB s at_ c = true then gapP s at_ + 1 else withN at_ s.length
def depN : List Int → Nat
  | [] => 0
  | x :: r => if x = 40 then cmM (x :: r) false 0 0 else 0
/-- The token at a place: it, the place behind, the error. -/
def tokA (s : List Int) (at_ : Int) : List Int × Nat × Int :=
  if withN at_ s.length = s.length then ([], 0, 4)
  else if (s.drop (withN at_ s.length)).takeWhile tokB = [] then ([], 0, 3)
  else ((s.drop (withN at_ s.length)).takeWhile tokB, withN at_ s.length + ((s.drop (withN at_ s.length)).takeWhile tokB).length, 0)
def valA (s : List Int) (at_ : Int) : List Int × Nat × Int :=
  if s[withN at_ s.length]? = some 34 then (if (unqA (s.drop (withN at_ s.length))).2.2 ≠ 0 then ([], 0, (unqA (s.drop (withN at_ s.length))).2.2) else ((unqA (s.drop (withN at_ s.length))).1, withN at_ s.length + (unqA (s.drop (withN at_ s.length))).2.1, 0))
  else tokA s at_
def plnB (s : List Int) : Bool := decide (s ≠ []) && s.all tokB
def layA (s : List Int) : List Int := if plnB s = true then s else quoP s

theorem tok_fin : ∀ n : Fin 256, isB 64 (n.val : Int) = true → isB 2 (n.val : Int) = false ∧ (n.val : Int) ≠ 13 ∧ (n.val : Int) ≠ 10 ∧ (n.val : Int) ≠ 40 ∧ (n.val : Int) ≠ 34 := by decide +kernel
theorem tok_of {c : Int} (h0 : 0 ≤ c) (h1 : c ≤ 255) (h : tokB c = true) : gapB c = false ∧ c ≠ 40 ∧ c ≠ 34 := by
  have := byte_fin (p := fun c => isB 64 c = true → isB 2 c = false ∧ c ≠ 13 ∧ c ≠ 10 ∧ c ≠ 40 ∧ c ≠ 34) tok_fin c h0 h1 h
  unfold gapB
  rw [this.1, decide_eq_false this.2.1, decide_eq_false this.2.2.1]
  exact ⟨rfl, this.2.2.2.1, this.2.2.2.2⟩
theorem cnt_all {f : Int → Bool} (xs : List Int) : cntI f xs = (xs.length : Int) ↔ xs.all f = true := by
  unfold cntI
  rw [List.all_eq_true]
  refine ⟨fun h => ?_, fun h => ?_⟩
  · have h2 : (xs.filter f).length = xs.length := by omega
    have := List.length_filter_eq_length_iff.1 h2
    exact this
  · rw [List.filter_eq_self.2 h]
theorem plnB_iff (s : List Int) : plnB s = (decide (0 < s.length) && decide (cntI (isB 64) s = (s.length : Int))) := by
  unfold plnB
  rw [Bool.eq_iff_iff, Bool.and_eq_true, Bool.and_eq_true, decide_eq_true_eq, decide_eq_true_eq, decide_eq_true_eq, cnt_all, List.length_pos_iff]
  exact Iff.rfl
theorem tw_app {f : Int → Bool} : ∀ (s r : List Int), s.all f = true → (r = [] ∨ ∃ y t, r = y :: t ∧ f y = false) → (s ++ r).takeWhile f = s
  | [], r, _, hr => by
    rcases hr with rfl | ⟨y, t, rfl, hy⟩
    · rfl
    · rw [List.nil_append, List.takeWhile_cons_of_neg (by rw [hy]; decide)]
  | x :: s, r, h, hr => by
    rw [List.all_cons, Bool.and_eq_true] at h
    rw [List.cons_append, List.takeWhile_cons_of_pos h.1, tw_app s r h.2 hr]
/-- What is laid is a value that is s again (P28.3). -/
theorem layA_back {s behind : List Int} (hs : ∀ x ∈ s, 0 ≤ x ∧ x ≤ 255) (hb : behind = [] ∨ ∃ y t, behind = y :: t ∧ tokB y = false) : valA (layA s ++ behind) 0 = (s, (layA s).length, 0) := by
  have hw : withN 0 (layA s ++ behind).length = 0 := by
    have := withN_of (k := 0) (n := (layA s ++ behind).length) (Nat.zero_le _)
    exact this
  unfold valA
  rw [hw, List.drop_zero]
  cases hp : plnB s
  · have e : layA s = quoP s := by unfold layA; rw [hp]; rfl
    rw [e]
    have hq := unq_quo s behind
    rw [if_pos (by unfold quoP; rfl), hq, if_neg (fun h => h rfl), Nat.zero_add]
  · have e : layA s = s := by unfold layA; rw [if_pos hp]
    rw [e]
    unfold plnB at hp
    rw [Bool.and_eq_true, decide_eq_true_eq] at hp
    obtain ⟨hne, hall⟩ := hp
    cases s with
    | nil => exact absurd rfl hne
    | cons x s =>
      have hx := hs x (List.mem_cons_self ..)
      have ht := tok_of hx.1 hx.2 (by rw [List.all_cons, Bool.and_eq_true] at hall; exact hall.1)
      have h34 : ((x :: s) ++ behind)[0]? ≠ some 34 := by
        rw [List.cons_append, List.getElem?_cons_zero]
        intro hh
        exact ht.2.2 (Option.some.inj hh)
      have htw := tw_app (x :: s) behind hall hb
      rw [if_neg h34]
      unfold tokA
      have hw2 : withN 0 ((x :: s) ++ behind).length = 0 := by
        have := withN_of (k := 0) (n := ((x :: s) ++ behind).length) (Nat.zero_le _)
        exact this
      rw [hw2, List.drop_zero, if_neg (by simp), htw, if_neg (by simp), Nat.zero_add]
theorem tokA_of (s : List Int) (at_ : Int) : ((tokA s at_).2.2 ≠ 0 ∧ (tokA s at_).1 = [] ∧ (tokA s at_).2.1 = 0) ∨ ((tokA s at_).2.2 = 0 ∧ (tokA s at_).2.1 = withN at_ s.length + (tokA s at_).1.length ∧ plnB (tokA s at_).1 = true ∧ ∀ x ∈ (tokA s at_).1, x ∈ s) := by
  unfold tokA
  split
  · exact .inl ⟨by decide, rfl, rfl⟩
  · split
    · exact .inl ⟨by decide, rfl, rfl⟩
    · rename_i h1 h2
      refine .inr ⟨rfl, rfl, ?_, fun x hx => List.mem_of_mem_drop ((List.takeWhile_sublist _).subset hx)⟩
      unfold plnB
      rw [decide_eq_true h2, List.all_takeWhile]; rfl
theorem pln_gap {t : List Int} (h : plnB t = true) (hb : ∀ x ∈ t, 0 ≤ x ∧ x ≤ 255) : gapP t 0 = 0 := by
  unfold plnB at h
  rw [Bool.and_eq_true, decide_eq_true_eq] at h
  cases t with
  | nil => exact absurd rfl h.1
  | cons x t =>
    have hx := hb x (List.mem_cons_self ..)
    have ht := tok_of hx.1 hx.2 (by have := h.2; rw [List.all_cons, Bool.and_eq_true] at this; exact this.1)
    unfold gapP
    have hw := withN_of (k := 0) (n := (x :: t).length) (Nat.zero_le _)
    have hw' : withN 0 (x :: t).length = 0 := hw
    rw [hw', List.drop_zero, gapN_no ht.1 ht.2.1]
theorem tokA_len (s : List Int) (at_ : Int) : (tokA s at_).1.length ≤ s.length := by
  have h := (List.takeWhile_sublist (l := s.drop (withN at_ s.length)) tokB).length_le
  rw [List.length_drop] at h
  unfold tokA
  split
  · exact Nat.zero_le _
  · split
    · exact Nat.zero_le _
    · dsimp only; omega
theorem layA_len (s : List Int) : (layA s).length ≤ 2 * s.length + 2 := by
  have h := quo_len s
  unfold layA
  split
  · omega
  · unfold quoP
    simp only [List.length_cons, List.length_append, List.length_nil]
    omega
end Go.Proofs.Ytdipabcoeloeoaa
