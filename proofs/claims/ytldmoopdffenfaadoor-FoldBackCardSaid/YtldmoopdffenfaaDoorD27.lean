/-
  Layer 27, in plain words: long headers in lines.
-/
import Derived.Test.YtldmoopdffenfaaDoorD01
import Derived.Test.YtldmoopdffenfaaDoorBase2
namespace Go.Proofs.YtldmoopdffenfaaDoor
open Go.RowKit
set_option linter.unusedVariables false

/-- Does a fold stand at the beginning? -/
def fldB : List Int → Bool
  | x :: y :: z :: _ => decide (x = 13) && decide (y = 10) && (decide (z = 32) || decide (z = 9))
  | _ => false
/-- Unfolded (true: a fold's second octet is dropped ahead of that); how many folds there are. -/
def unfS : Bool → List Int → List Int
  | _, [] => []
  | true, _ :: r => unfS false r
  | false, x :: r => if fldB (x :: r) = true then unfS true r else x :: unfS false r
def unfC : Bool → List Int → Nat
  | _, [] => 0
  | true, _ :: r => unfC false r
  | false, x :: r => if fldB (x :: r) = true then 1 + unfC true r else unfC false r
def unfL (s : List Int) : List Int := unfS false s
def unfN (s : List Int) : Nat := unfC false s
def isEnd (x : Int) : Bool := decide (x = 13) || decide (x = 10)
def rgtF (s : List Int) : Bool := !(unfL s).any isEnd
/-- The last blank that the next line may begin at (0: none). -/
def nxtF (t : List Int) : Nat → Nat
  | 0 => 0
  | m + 1 => if t[m + 1]? = some 32 then m + 1 else nxtF t m
theorem nxtF_le (t : List Int) : ∀ m, nxtF t m ≤ m ∧ (nxtF t m = 0 ∨ t[nxtF t m]? = some 32)
  | 0 => ⟨Nat.le_refl _, .inl rfl⟩
  | m + 1 => by
    have h := nxtF_le t m
    rw [nxtF]
    split
    · rename_i h1
      exact ⟨Nat.le_refl _, .inr h1⟩
    · exact ⟨by omega, h.2⟩
/-- Folded, if it may be. -/
def foldF (most : Nat) (t : List Int) (room : Nat) : Option (List Int) :=
  if t.length ≤ room then some t
  else if h : nxtF t room = 0 then none
  else (foldF most (t.drop (nxtF t room)) most).map fun u => t.take (nxtF t room) ++ (13 :: 10 :: u)
termination_by t.length
decreasing_by
  rw [List.length_drop]
  have := nxtF_le t room
  omega
def okF (c : Int) : Bool := decide (32 ≤ c ∧ c ≤ 126)
def foldE (s : List Int) (first most : Int) : Int := if most < 1 ∨ 1000 < most ∨ first < 0 ∨ most < first then 1 else if s.all okF = false then 3 else if (foldF most.toNat s first.toNat).isSome = true then 0 else 12
def foldL (s : List Int) (first most : Int) : List Int := if foldE s first most = 0 then (foldF most.toNat s first.toNat).getD [] else []

theorem foldF_fit {most : Nat} {t : List Int} {room : Nat} (h : t.length ≤ room) : foldF most t room = some t := by rw [foldF, if_pos h]
theorem foldF_no {most : Nat} {t : List Int} {room : Nat} (h : ¬ t.length ≤ room) (h0 : nxtF t room = 0) : foldF most t room = none := by rw [foldF, if_neg h, dif_pos h0]
theorem foldF_on {most : Nat} {t : List Int} {room : Nat} (h : ¬ t.length ≤ room) (h0 : nxtF t room ≠ 0) : foldF most t room = (foldF most (t.drop (nxtF t room)) most).map fun u => t.take (nxtF t room) ++ (13 :: 10 :: u) := by rw [foldF, if_neg h, dif_neg h0]
theorem foldF_ind {p : List Int → Nat → Prop} (most : Nat) (h : ∀ t room, (¬ t.length ≤ room → nxtF t room ≠ 0 → p (t.drop (nxtF t room)) most) → p t room) : ∀ t room, p t room := by
  have key : ∀ (n : Nat) (t : List Int) (room : Nat), t.length ≤ n → p t room := by
    intro n
    induction n with
    | zero =>
      intro t room ht
      exact h t room fun h1 h2 => by
        have := nxtF_le t room
        obtain rfl : t = [] := List.eq_nil_of_length_eq_zero (by omega)
        simp at h1
    | succ n ih =>
      intro t room ht
      exact h t room fun h1 h2 => ih _ _ (by rw [List.length_drop]; omega)
  exact fun t room => key _ t room (Nat.le_refl _)
theorem unfS_plain : ∀ (p r : List Int), (∀ x ∈ p, x ≠ 13) → unfS false (p ++ r) = p ++ unfS false r
  | [], r, _ => rfl
  | x :: p, r, h => by
    have hx := h x (List.mem_cons_self ..)
    have hf : fldB (x :: (p ++ r)) = false := by
      unfold fldB
      split
      · rename_i x' y z l e
        simp only [List.cons.injEq] at e
        rw [← e.1, decide_eq_false hx]; rfl
      · rfl
    rw [List.cons_append, unfS, if_neg (by rw [hf]; decide), unfS_plain p r (fun y hy => h y (List.mem_cons_of_mem _ hy))]
    rfl
theorem unfS_fold (u : List Int) (h : u.head? = some 32) : unfS false (13 :: 10 :: u) = unfS false u := by
  cases u with
  | nil => cases h
  | cons z u =>
    obtain rfl : z = 32 := by simpa using h
    rw [unfS, if_pos (by simp [fldB]), unfS]
theorem okF_13 {t : List Int} (h : t.all okF = true) : ∀ x ∈ t, x ≠ 13 ∧ x ≠ 10 := by
  intro x hx
  have := List.all_eq_true.1 h x hx
  unfold okF at this
  rw [decide_eq_true_eq] at this
  omega
theorem drop_ok {t : List Int} (h : t.all okF = true) (n : Nat) : (t.drop n).all okF = true := by
  rw [List.all_eq_true] at *
  exact fun x hx => h x (List.mem_of_mem_drop hx)
theorem foldF_head {most : Nat} : ∀ (t : List Int) (room : Nat) (u : List Int), foldF most t room = some u → u.head? = t.head? := by
  intro t room u h
  by_cases h1 : t.length ≤ room
  · rw [foldF_fit h1] at h; cases h; rfl
  · by_cases h0 : nxtF t room = 0
    · rw [foldF_no h1 h0] at h; cases h
    · rw [foldF_on h1 h0, Option.map_eq_some_iff] at h
      obtain ⟨v, _, rfl⟩ := h
      cases t with
      | nil => simp at h1
      | cons x t =>
        obtain ⟨m, hm⟩ : ∃ m, nxtF (x :: t) room = m + 1 := ⟨nxtF (x :: t) room - 1, by omega⟩
        rw [hm]; rfl
/-- What is folded is unfolded to what it was. -/
theorem foldF_back {most : Nat} : ∀ (t : List Int) (room : Nat), ∀ u, t.all okF = true → foldF most t room = some u → unfL u = t := by
  refine foldF_ind (p := fun t room => ∀ u, t.all okF = true → foldF most t room = some u → unfL u = t) most fun t room ih u hok h => ?_
  by_cases h1 : t.length ≤ room
  · rw [foldF_fit h1] at h
    cases h
    have := unfS_plain t [] (fun x hx => (okF_13 hok x hx).1)
    rw [List.append_nil] at this
    unfold unfL
    rw [this]; simp [unfS]
  · by_cases h0 : nxtF t room = 0
    · rw [foldF_no h1 h0] at h; cases h
    · have hn := (nxtF_le t room).2.resolve_left h0
      rw [foldF_on h1 h0, Option.map_eq_some_iff] at h
      obtain ⟨v, hv, rfl⟩ := h
      have i := ih h1 h0 v (drop_ok hok _) hv
      have hh := foldF_head _ _ _ hv
      rw [List.head?_drop, hn] at hh
      unfold unfL at i ⊢
      rw [unfS_plain _ _ (fun x hx => (okF_13 hok x (List.mem_of_mem_take hx)).1), unfS_fold v hh, i, List.take_append_drop]
/-- The lines, each with its room, one by one (as one looks at what is folded). -/
def chkF (most : Nat) : List Int → Nat → Nat → Bool → Bool
  | [], long, room, skip => !skip && decide (long ≤ room)
  | x :: r, long, room, true => chkF most r 0 most false
  | x :: r, long, room, false => if x ≠ 13 then chkF most r (long + 1) room false else if long ≤ room ∧ long ≠ 0 ∧ r.head? = some 10 ∧ (r.drop 1).head? = some 32 then chkF most r long room true else false
theorem chkF_plain (most : Nat) : ∀ (p r : List Int) (long room : Nat), (∀ x ∈ p, x ≠ 13) → chkF most (p ++ r) long room false = chkF most r (long + p.length) room false
  | [], r, long, room, _ => rfl
  | x :: p, r, long, room, h => by
    have hx := h x (List.mem_cons_self ..)
    rw [List.cons_append, chkF, if_pos hx, chkF_plain most p r (long + 1) room (fun y hy => h y (List.mem_cons_of_mem _ hy)), List.length_cons]
    congr 1
    omega
/-- What is folded fits, and each line but the first begins with a blank. -/
theorem foldF_fits {most : Nat} : ∀ (t : List Int) (room : Nat), ∀ u, t.all okF = true → foldF most t room = some u → chkF most u 0 room false = true := by
  refine foldF_ind (p := fun t room => ∀ u, t.all okF = true → foldF most t room = some u → chkF most u 0 room false = true) most fun t room ih u hok h => ?_
  by_cases h1 : t.length ≤ room
  · rw [foldF_fit h1] at h
    cases h
    have := chkF_plain most t [] 0 room (fun x hx => (okF_13 hok x hx).1)
    rw [List.append_nil] at this
    rw [this, chkF]
    simp; omega
  · by_cases h0 : nxtF t room = 0
    · rw [foldF_no h1 h0] at h; cases h
    · have hl := nxtF_le t room
      have hn := hl.2.resolve_left h0
      have hlt := (List.getElem?_eq_some_iff.1 hn).1
      rw [foldF_on h1 h0, Option.map_eq_some_iff] at h
      obtain ⟨v, hv, rfl⟩ := h
      have i := ih h1 h0 v (drop_ok hok _) hv
      have hh := foldF_head _ _ _ hv
      rw [List.head?_drop, hn] at hh
      rw [chkF_plain most _ _ _ _ (fun x hx => (okF_13 hok x (List.mem_of_mem_take hx)).1), chkF, if_neg (by decide), if_pos ⟨by rw [List.length_take]; omega, by rw [List.length_take]; omega, rfl, hh⟩, chkF, i]
theorem foldF_len {most : Nat} : ∀ (t : List Int) (room : Nat), ∀ u, foldF most t room = some u → u.length ≤ 3 * t.length := by
  refine foldF_ind (p := fun t room => ∀ u, foldF most t room = some u → u.length ≤ 3 * t.length) most fun t room ih u h => ?_
  by_cases h1 : t.length ≤ room
  · rw [foldF_fit h1] at h; cases h; omega
  · by_cases h0 : nxtF t room = 0
    · rw [foldF_no h1 h0] at h; cases h
    · have hl := nxtF_le t room
      rw [foldF_on h1 h0, Option.map_eq_some_iff] at h
      obtain ⟨v, hv, rfl⟩ := h
      have i := ih h1 h0 v hv
      rw [List.length_drop] at i
      simp only [List.length_append, List.length_take, List.length_cons]
      omega
theorem unfS_len : ∀ (s : List Int) (b : Bool), (unfS b s).length ≤ s.length ∧ unfC b s ≤ s.length
  | [], b => by cases b <;> exact ⟨Nat.le_refl _, Nat.le_refl _⟩
  | x :: r, true => by
    have h := unfS_len r false
    rw [unfS, unfC, List.length_cons]; omega
  | x :: r, false => by
    have h := unfS_len r false
    have h2 := unfS_len r true
    rw [unfS, unfC, List.length_cons]
    split
    · omega
    · rw [List.length_cons]; omega
theorem unfS_mem : ∀ (s : List Int) (b : Bool), ∀ x ∈ unfS b s, x ∈ s
  | [], b, x, hx => by cases b <;> cases hx
  | y :: r, true, x, hx => by
    rw [unfS] at hx
    exact List.mem_cons_of_mem _ (unfS_mem r false x hx)
  | y :: r, false, x, hx => by
    rw [unfS] at hx
    split at hx
    · exact List.mem_cons_of_mem _ (unfS_mem r true x hx)
    · rcases List.mem_cons.1 hx with rfl | hx
      · exact List.mem_cons_self ..
      · exact List.mem_cons_of_mem _ (unfS_mem r false x hx)
/-- What Fold answers. -/
theorem fold_of (s : List Int) (first most : Int) : (foldE s first most ≠ 0 ∧ foldL s first most = []) ∨ (foldE s first most = 0 ∧ s.all okF = true ∧ 1 ≤ most ∧ most ≤ 1000 ∧ 0 ≤ first ∧ first ≤ most ∧ foldF most.toNat s first.toNat = some (foldL s first most)) := by
  by_cases h : foldE s first most = 0
  · refine .inr ⟨h, ?_⟩
    have h2 := h
    unfold foldE at h2
    split at h2
    · omega
    · rename_i h3
      split at h2
      · omega
      · rename_i h4
        split at h2
        · rename_i h5
          have h6 : s.all okF = true := by cases hs : s.all okF; exact absurd hs h4; rfl
          refine ⟨h6, by omega, by omega, by omega, by omega, ?_⟩
          unfold foldL
          rw [if_pos h]
          obtain ⟨u, hu⟩ := Option.isSome_iff_exists.1 h5
          rw [hu]; rfl
        · omega
  · refine .inl ⟨h, ?_⟩
    unfold foldL
    rw [if_neg h]
end Go.Proofs.YtldmoopdffenfaaDoor
