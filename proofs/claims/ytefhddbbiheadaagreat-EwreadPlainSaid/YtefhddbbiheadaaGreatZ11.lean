/-
  Texts of ours laid together: D27, D33.
-/
import Derived.Test.YtefhddbbiheadaaGreatZ10

/-! D27 -/
namespace Go.Proofs.YtefhddbbiheadaaGreat
open Go.RowKit
set_option linter.unusedVariables false

/-- Does a fold stand at the beginning? -/
def fldB : List Int → Bool
  | x :: y :: z :: _ => decide (x = 13) && decide (y = 10) && (decide (z = 32) || decide (z = 9))
  | _ => false
/-- Unfolded (true: a fold's second octet is dropped ahead of that); how many folds there are. -/
def unfS : Bool → List Int → List Int
  | _, [] => []
  | true, _ :: r => unfS false r
  | false, x :: r => if fldB (x :: r) = true then unfS true r else x :: unfS false r
def unfC : Bool → List Int → Nat
  | _, [] => 0
  | true, _ :: r => unfC false r
  | false, x :: r => if fldB (x :: r) = true then 1 + unfC true r else unfC false r
def unfL (s : List Int) : List Int := unfS false s
def unfN (s : List Int) : Nat := unfC false s
def isEnd (x : Int) : Bool := decide (x = 13) || decide (x = 10)
def rgtF (s : List Int) : Bool := !(unfL s).any isEnd
/-- The last blank that the next line may begin at (0: none). -/
def nxtF (t : List Int) : Nat → Nat
  | 0 => 0
  | m + 1 => if t[m + 1]? = some 32 then m + 1 else nxtF t m
theorem nxtF_le (t : List Int) : ∀ m, nxtF t m ≤ m ∧ (nxtF t m = 0 ∨ t[nxtF t m]? = some 32)
  | 0 => ⟨Nat.le_refl _, .inl rfl⟩
  | m + 1 => by
    have h := nxtF_le t m
    rw [nxtF]
    split
    · rename_i h1
      exact ⟨Nat.le_refl _, .inr h1⟩
    · exact ⟨by omega, h.2⟩
/-- Folded, if it may be. -/
def foldF (most : Nat) (t : List Int) (room : Nat) : Option (List Int) :=
  if t.length ≤ room then some t
  else if h : nxtF t room = 0 then none
  else (foldF most (t.drop (nxtF t room)) most).map fun u => t.take (nxtF t room) ++ (13 :: 10 :: u)
termination_by t.length
decreasing_by
  rw [List.length_drop]
  have := nxtF_le t room
  omega
def okF (c : Int) : Bool := decide (32 ≤ c ∧ c ≤ 126)
def foldE (s : List Int) (first most : Int) : Int := if most < 1 ∨ 1000 < most ∨ first < 0 ∨ most < first then 1 else if s.all okF = false then 3 else if (foldF most.toNat s first.toNat).isSome = true then 0 else 12
def foldL (s : List Int) (first most : Int) : List Int := if foldE s first most = 0 then (foldF most.toNat s first.toNat).getD [] else []

theorem foldF_fit {most : Nat} {t : List Int} {room : Nat} (h : t.length ≤ room) : foldF most t room = some t := by rw [foldF, if_pos h]
theorem foldF_no {most : Nat} {t : List Int} {room : Nat} (h : ¬ t.length ≤ room) (h0 : nxtF t room = 0) : foldF most t room = none := by rw [foldF, if_neg h, dif_pos h0]
theorem foldF_on {most : Nat} {t : List Int} {room : Nat} (h : ¬ t.length ≤ room) (h0 : nxtF t room ≠ 0) : foldF most t room = (foldF most (t.drop (nxtF t room)) most).map fun u => t.take (nxtF t room) ++ (13 :: 10 :: u) := by rw [foldF, if_neg h, dif_neg h0]
theorem foldF_ind {p : List Int → Nat → Prop} (most : Nat) (h : ∀ t room, (¬ t.length ≤ room → nxtF t room ≠ 0 → p (t.drop (nxtF t room)) most) → p t room) : ∀ t room, p t room := by
  have key : ∀ (n : Nat) (t : List Int) (room : Nat), t.length ≤ n → p t room := by
    intro n
    induction n with
    | zero =>
      intro t room ht
      exact h t room fun h1 h2 => by
        have := nxtF_le t room
        obtain rfl : t = [] := List.eq_nil_of_length_eq_zero (by omega)
        simp at h1
    | succ n ih =>
      intro t room ht
      exact h t room fun h1 h2 => ih _ _ (by rw [List.length_drop]; omega)
  exact fun t room => key _ t room (Nat.le_refl _)
theorem unfS_plain : ∀ (p r : List Int), (∀ x ∈ p, x ≠ 13) → unfS false (p ++ r) = p ++ unfS false r
  | [], r, _ => rfl
  | x :: p, r, h => by
    have hx := h x (List.mem_cons_self ..)
    have hf : fldB (x :: (p ++ r)) = false := by
      unfold fldB
      split
      · rename_i x' y z l e
        simp only [List.cons.injEq] at e
        rw [← e.1, decide_eq_false hx]; rfl
      · rfl
    rw [List.cons_append, unfS, if_neg (by rw [hf]; decide), unfS_plain p r (fun y hy => h y (List.mem_cons_of_mem _ hy))]
    rfl
theorem unfS_fold (u : List Int) (h : u.head? = some 32) : unfS false (13 :: 10 :: u) = unfS false u := by
  cases u with
  | nil => cases h
  | cons z u =>
    obtain rfl : z = 32 := by simpa using h
    rw [unfS, if_pos (by simp [fldB]), unfS]
theorem okF_13 {t : List Int} (h : t.all okF = true) : ∀ x ∈ t, x ≠ 13 ∧ x ≠ 10 := by
  intro x hx
  have := List.all_eq_true.1 h x hx
  unfold okF at this
  rw [decide_eq_true_eq] at this
  omega
theorem drop_ok {t : List Int} (h : t.all okF = true) (n : Nat) : (t.drop n).all okF = true := by
  rw [List.all_eq_true] at *
  exact fun x hx => h x (List.mem_of_mem_drop hx)
theorem foldF_head {most : Nat} : ∀ (t : List Int) (room : Nat) (u : List Int), foldF most t room = some u → u.head? = t.head? := by
  intro t room u h
  by_cases h1 : t.length ≤ room
  · rw [foldF_fit h1] at h; cases h; rfl
  · by_cases h0 : nxtF t room = 0
    · rw [foldF_no h1 h0] at h; cases h
    · rw [foldF_on h1 h0, Option.map_eq_some_iff] at h
      obtain ⟨v, _, rfl⟩ := h
      cases t with
      | nil => simp at h1
      | cons x t =>
        obtain ⟨m, hm⟩ : ∃ m, nxtF (x :: t) room = m + 1 := ⟨nxtF (x :: t) room - 1, by omega⟩
        rw [hm]; rfl
/-- What is folded is unfolded to what it was. -/
theorem foldF_back {most : Nat} : ∀ (t : List Int) (room : Nat), ∀ u, t.all okF = true → foldF most t room = some u → unfL u = t := by
  refine foldF_ind (p := fun t room => ∀ u, t.all okF = true → foldF most t room = some u → unfL u = t) most fun t room ih u hok h => ?_
  by_cases h1 : t.length ≤ room
  · rw [foldF_fit h1] at h
    cases h
    have := unfS_plain t [] (fun x hx => (okF_13 hok x hx).1)
    rw [List.append_nil] at this
    unfold unfL
    rw [this]; simp [unfS]
  · by_cases h0 : nxtF t room = 0
    · rw [foldF_no h1 h0] at h; cases h
    · have hn := (nxtF_le t room).2.resolve_left h0
      rw [foldF_on h1 h0, Option.map_eq_some_iff] at h
      obtain ⟨v, hv, rfl⟩ := h
      have i := ih h1 h0 v (drop_ok hok _) hv
      have hh := foldF_head _ _ _ hv
      rw [List.head?_drop, hn] at hh
      unfold unfL at i ⊢
      rw [unfS_plain _ _ (fun x hx => (okF_13 hok x (List.mem_of_mem_take hx)).1), unfS_fold v hh, i, List.take_append_drop]
/-- The lines, each with its room, one by one (as one looks at what is folded). -/
def chkF (most : Nat) : List Int → Nat → Nat → Bool → Bool
  | [], long, room, skip => !skip && decide (long ≤ room)
  | x :: r, long, room, true => chkF most r 0 most false
  | x :: r, long, room, false => if x ≠ 13 then chkF most r (long + 1) room false else if long ≤ room ∧ long ≠ 0 ∧ r.head? = some 10 ∧ (r.drop 1).head? = some 32 then chkF most r long room true else false
theorem chkF_plain (most : Nat) : ∀ (p r : List Int) (long room : Nat), (∀ x ∈ p, x ≠ 13) → chkF most (p ++ r) long room false = chkF most r (long + p.length) room false
  | [], r, long, room, _ => rfl
  | x :: p, r, long, room, h => by
    have hx := h x (List.mem_cons_self ..)
    rw [List.cons_append, chkF, if_pos hx, chkF_plain most p r (long + 1) room (fun y hy => h y (List.mem_cons_of_mem _ hy)), List.length_cons]
    congr 1
    omega
/-- What is folded fits, and each line but the first begins with a blank. -/
theorem foldF_fits {most : Nat} : ∀ (t : List Int) (room : Nat), ∀ u, t.all okF = true → foldF most t room = some u → chkF most u 0 room false = true := by
  refine foldF_ind (p := fun t room => ∀ u, t.all okF = true → foldF most t room = some u → chkF most u 0 room false = true) most fun t room ih u hok h => ?_
  by_cases h1 : t.length ≤ room
  · rw [foldF_fit h1] at h
    cases h
    have := chkF_plain most t [] 0 room (fun x hx => (okF_13 hok x hx).1)
    rw [List.append_nil] at this
    rw [this, chkF]
    simp; omega
  · by_cases h0 : nxtF t room = 0
    · rw [foldF_no h1 h0] at h; cases h
    · have hl := nxtF_le t room
      have hn := hl.2.resolve_left h0
      have hlt := (List.getElem?_eq_some_iff.1 hn).1
      rw [foldF_on h1 h0, Option.map_eq_some_iff] at h
      obtain ⟨v, hv, rfl⟩ := h
      have i := ih h1 h0 v (drop_ok hok _) hv
      have hh := foldF_head _ _ _ hv
      rw [List.head?_drop, hn] at hh
      rw [chkF_plain most _ _ _ _ (fun x hx => (okF_13 hok x (List.mem_of_mem_take hx)).1), chkF, if_neg (by decide), if_pos ⟨by rw [List.length_take]; omega, by rw [List.length_take]; omega, rfl, hh⟩, chkF, i]
theorem foldF_len {most : Nat} : ∀ (t : List Int) (room : Nat), ∀ u, foldF most t room = some u → u.length ≤ 3 * t.length := by
  refine foldF_ind (p := fun t room => ∀ u, foldF most t room = some u → u.length ≤ 3 * t.length) most fun t room ih u h => ?_
  by_cases h1 : t.length ≤ room
  · rw [foldF_fit h1] at h; cases h; omega
  · by_cases h0 : nxtF t room = 0
    · rw [foldF_no h1 h0] at h; cases h
    · have hl := nxtF_le t room
      rw [foldF_on h1 h0, Option.map_eq_some_iff] at h
      obtain ⟨v, hv, rfl⟩ := h
      have i := ih h1 h0 v hv
      rw [List.length_drop] at i
      simp only [List.length_append, List.length_take, List.length_cons]
      omega
theorem unfS_len : ∀ (s : List Int) (b : Bool), (unfS b s).length ≤ s.length ∧ unfC b s ≤ s.length
  | [], b => by cases b <;> exact ⟨Nat.le_refl _, Nat.le_refl _⟩
  | x :: r, true => by
    have h := unfS_len r false
    rw [unfS, unfC, List.length_cons]; omega
  | x :: r, false => by
    have h := unfS_len r false
    have h2 := unfS_len r true
    rw [unfS, unfC, List.length_cons]
    split
    · omega
    · rw [List.length_cons]; omega
theorem unfS_mem : ∀ (s : List Int) (b : Bool), ∀ x ∈ unfS b s, x ∈ s
  | [], b, x, hx => by cases b <;> cases hx
  | y :: r, true, x, hx => by
    rw [unfS] at hx
    exact List.mem_cons_of_mem _ (unfS_mem r false x hx)
  | y :: r, false, x, hx => by
    rw [unfS] at hx
    split at hx
    · exact List.mem_cons_of_mem _ (unfS_mem r true x hx)
    · rcases List.mem_cons.1 hx with rfl | hx
      · exact List.mem_cons_self ..
      · exact List.mem_cons_of_mem _ (unfS_mem r false x hx)
/-- What Fold answers. -/
theorem fold_of (s : List Int) (first most : Int) : (foldE s first most ≠ 0 ∧ foldL s first most = []) ∨ (foldE s first most = 0 ∧ s.all okF = true ∧ 1 ≤ most ∧ most ≤ 1000 ∧ 0 ≤ first ∧ first ≤ most ∧ foldF most.toNat s first.toNat = some (foldL s first most)) := by
  by_cases h : foldE s first most = 0
  · refine .inr ⟨h, ?_⟩
    have h2 := h
    unfold foldE at h2
    split at h2
    · omega
    · rename_i h3
      split at h2
      · omega
      · rename_i h4
        split at h2
        · rename_i h5
          have h6 : s.all okF = true := by cases hs : s.all okF; exact absurd hs h4; rfl
          refine ⟨h6, by omega, by omega, by omega, by omega, ?_⟩
          unfold foldL
          rw [if_pos h]
          obtain ⟨u, hu⟩ := Option.isSome_iff_exists.1 h5
          rw [hu]; rfl
        · omega
  · refine .inl ⟨h, ?_⟩
    unfold foldL
    rw [if_neg h]
end Go.Proofs.YtefhddbbiheadaaGreat

/-! D33 -/
namespace Go.Proofs.YtefhddbbiheadaaGreat
open Go.RowKit
set_option linter.unusedVariables false

/-- What one piece is read as. -/
def rdPc (p : Int × List Int) : List Int := if p.1 = 3 then ewR p.2 else txt p.2
def lnsP (s : List Int) : List (List Int) := (shwP s).map rdPc
def setP (l : List (Int × List Int)) : List Int := (l.filter fun p => decide (p.1 = 3)).map fun p => ewH p.2
def setsL (s : List Int) : List Int := setP (shwP s)
def oddP (l : List (Int × List Int)) : Nat := l.countP fun p => decide (p.1 = 3) && !ewS p.2
def oddN (s : List Int) : Nat := oddP (shwP s)
def rawL (s : List Int) : List Int := (lnsP s).flatten
def rdL (s : List Int) : List Int := rawL (unfL s)

theorem odd_le (l : List (Int × List Int)) : oddP l ≤ (setP l).length := by
  unfold oddP setP
  rw [List.length_map, ← List.countP_eq_length_filter]
  exact List.countP_mono_left (fun p _ h => by simp at h ⊢; exact h.1)
theorem ewT_bd {s : List Int} (h : ∀ x ∈ s, 0 ≤ x ∧ x ≤ 255) : ∀ x ∈ ewT s, 0 ≤ x ∧ x ≤ 255 := by
  intro x hx
  unfold ewT at hx
  split at hx
  · rcases getD_mem (l := cutA s) (i := 3) with e | e
    · rw [e] at hx; cases hx
    · rcases (cut_bd s [] _ e).2 x hx with h' | h'
      · cases h'
      · exact h x h'
  · cases hx
theorem ewR_sc {s : List Int} (h : ∀ x ∈ s, 0 ≤ x ∧ x ≤ 255) : (ewR s).all scB = true := by
  unfold ewR
  split
  · refine readR_sc _ ?_
    unfold ewB
    split
    · exact fun x hx => ⟨(looL_o8 _ x hx).1, (looL_o8 _ x hx).2⟩
    · exact readW_bd (ewT_bd h)
  · rfl
theorem rdPc_sc {p : Int × List Int} (h : ∀ x ∈ p.2, 0 ≤ x ∧ x ≤ 255) : (rdPc p).all scB = true := by
  unfold rdPc
  split
  · exact ewR_sc h
  · exact txt_sc _ h
theorem rdPc_len (p : Int × List Int) : (rdPc p).length ≤ p.2.length := by
  unfold rdPc
  split
  · exact ewR_len _
  · rw [txt_len]; exact sigs_len _

/-! ### what is shown is some of the pieces -/
theorem shwN_sub (l : List (Int × List Int)) : ∀ m : Nat, (shwN l m).Sublist (l.take m)
  | 0 => by unfold shwN; simp
  | m + 1 => by
    have ih := shwN_sub l m
    unfold shwN at ih ⊢
    rw [List.range_succ, List.filterMap_append, List.take_add_one]
    refine List.Sublist.append ih ?_
    rw [List.filterMap_cons, List.filterMap_nil]
    split
    · exact List.nil_sublist _
    · rename_i b hb
      split at hb
      · cases hb
      · rw [hb]; exact List.Sublist.refl _
theorem shwP_sub (s : List Int) : (shwP s).Sublist (pcsP s) := by
  have := shwN_sub (pcsP s) (pcsP s).length
  rwa [List.take_length] at this
theorem shwP_mem {s : List Int} {p : Int × List Int} (h : p ∈ shwP s) : p.1 = kdW p.2 ∧ p.2 ∈ pcsT s := by
  have := (shwP_sub s).subset h
  unfold pcsP at this
  obtain ⟨t, ht, rfl⟩ := List.mem_map.1 this
  exact ⟨rfl, ht⟩
theorem pcs_mem {s t : List Int} (h : t ∈ pcsT s) : ∀ x ∈ t, x ∈ s := by
  intro x hx
  have := List.mem_flatten.2 ⟨t, h, hx⟩
  rwa [(pcsT_whole s).1] at this
theorem flt_le {l m : List (List Int)} (h : l.Sublist m) : l.flatten.length ≤ m.flatten.length := by
  induction h with
  | slnil => exact Nat.le_refl _
  | cons a _ ih => rw [List.flatten_cons, List.length_append]; omega
  | cons_cons a _ ih => rw [List.flatten_cons, List.flatten_cons, List.length_append, List.length_append]; omega
theorem map_flat_le : ∀ l : List (Int × List Int), (l.map rdPc).flatten.length ≤ (l.map Prod.snd).flatten.length
  | [] => Nat.le_refl _
  | p :: l => by
    have h1 := rdPc_len p
    have h2 := map_flat_le l
    rw [List.map_cons, List.map_cons, List.flatten_cons, List.flatten_cons, List.length_append, List.length_append]
    omega
theorem pcsP_snd (s : List Int) : (pcsP s).map Prod.snd = pcsT s := by
  unfold pcsP
  rw [List.map_map]
  conv => rhs; rw [← List.map_id (pcsT s)]
  rfl
theorem rawL_len (s : List Int) : (rawL s).length ≤ s.length := by
  have h1 := map_flat_le (shwP s)
  have h2 := flt_le ((shwP_sub s).map Prod.snd)
  rw [pcsP_snd, (pcsT_whole s).1] at h2
  exact Nat.le_trans h1 h2
theorem rawL_sc {s : List Int} (h : ∀ x ∈ s, 0 ≤ x ∧ x ≤ 255) : (rawL s).all scB = true := by
  refine List.all_eq_true.2 fun x hx => ?_
  obtain ⟨l, hl, hx⟩ := List.mem_flatten.1 hx
  obtain ⟨p, hp, rfl⟩ := List.mem_map.1 hl
  exact List.all_eq_true.1 (rdPc_sc fun y hy => h y (pcs_mem (shwP_mem hp).2 y hy)) x hx
theorem rdL_len (s : List Int) : (rdL s).length ≤ s.length := Nat.le_trans (rawL_len _) (unfS_len s false).1
theorem rdL_sc {s : List Int} (h : ∀ x ∈ s, 0 ≤ x ∧ x ≤ 255) : (rdL s).all scB = true := rawL_sc fun x hx => h x (unfS_mem s false x hx)
theorem rdL_wf {s : List Int} (h : ∀ x ∈ s, 0 ≤ x ∧ x ≤ 255) : ∀ x ∈ rdL s, (Lit.int .i32 x).wf = true := fun x hx => by
  have := (scB_iff x).1 (List.all_eq_true.1 (rdL_sc h) x hx)
  exact mk_r (by omega) (by omega)

/-! ### plain octets (P33.4) -/
/-- No '=' with a '?' behind it. -/
def qOk : List Int → Bool
  | [] => true
  | x :: r => !(decide (x = 61) && decide (r.head? = some 63)) && qOk r
theorem qOk_cons (x : Int) (r : List Int) : qOk (x :: r) = (!(decide (x = 61) && decide (r.head? = some 63)) && qOk r) := rfl
theorem qOk_app : ∀ a b : List Int, qOk (a ++ b) = true → qOk a = true ∧ qOk b = true
  | [], b, h => ⟨rfl, h⟩
  | x :: a, b, h => by
    rw [List.cons_append, qOk_cons, Bool.and_eq_true] at h
    obtain ⟨h1, h2⟩ := qOk_app a b h.2
    refine ⟨?_, h2⟩
    rw [qOk_cons, h1, Bool.and_true]
    cases a with
    | nil => simp
    | cons y a => exact h.1
theorem qOk_snoc : ∀ (a : List Int) (c : Int), qOk a = true → ¬ (a.getLast? = some 61 ∧ c = 63) → qOk (a ++ [c]) = true
  | [], c, _, _ => by simp [qOk]
  | [x], c, _, h => by
    simp [qOk] at h ⊢
    by_cases hx : x = 61
    · exact .inr (h hx)
    · exact .inl hx
  | x :: y :: a, c, h, hc => by
    rw [qOk_cons, Bool.and_eq_true] at h
    have := qOk_snoc (y :: a) c h.2 (by rwa [List.getLast?_cons_cons] at hc)
    rw [List.cons_append, qOk_cons, this, Bool.and_true]
    exact h.1
theorem cut_two : ∀ (s acc p q : List Int) (l : List (List Int)), cutS s acc = p :: q :: l → ∃ p' r, s = p' ++ 63 :: r ∧ p = acc ++ p'
  | [], acc, p, q, l, h => by rw [cutS] at h; cases h
  | x :: s, acc, p, q, l, h => by
    by_cases hx : x = 63
    · subst hx
      rw [cut_q] at h
      injection h with h1 h2
      exact ⟨[], s, rfl, by rw [← h1, List.append_nil]⟩
    · rw [cut_on hx] at h
      obtain ⟨p', r, rfl, rfl⟩ := cut_two s (acc ++ [x]) p q l h
      exact ⟨x :: p', r, rfl, by rw [List.append_assoc]; rfl⟩
theorem ew_front {s : List Int} (h : ewForm (cutA s) = true) : ∃ r, s = 61 :: 63 :: r := by
  unfold ewForm at h
  split at h
  · rename_i a n k t z e
    rw [Bool.and_eq_true, decide_eq_true_eq] at h
    unfold cutA at e
    obtain ⟨p', r, rfl, hp⟩ := cut_two _ _ _ _ _ e
    rw [List.nil_append, h.1] at hp
    rw [← hp]
    exact ⟨r, rfl⟩
  · cases h
theorem ewE_zero_front {s : List Int} (h : ewE s = 0) : ∃ r, s = 61 :: 63 :: r := by
  unfold ewE at h
  split at h
  · exact ew_front (by assumption)
  · exact absurd h (by decide)
theorem kdW_plain {t : List Int} (h : qOk t = true) : kdW t ≠ 3 := by
  unfold kdW
  split
  · decide
  · split
    · rename_i he
      obtain ⟨r, rfl⟩ := ewE_zero_front he
      simp [qOk] at h
    · decide
theorem pcs_qOk : ∀ s : List Int, qOk s = true → ∀ t ∈ pcsT s, qOk t = true := by
  refine pcsT_ind (fun _ t ht => by rw [pcsT_nil] at ht; cases ht) fun s hs ih h t ht => ?_
  have h2 := qOk_app (s.take (turnN s)) (s.drop (turnN s)) (by rw [List.take_append_drop]; exact h)
  rw [pcsT_on hs] at ht
  rcases List.mem_cons.1 ht with rfl | ht
  · exact h2.1
  · exact ih h2.2 t ht
theorem octL_low : ∀ t : List Int, (∀ x ∈ t, 0 ≤ x ∧ x < 128) → octL t = t ∧ t.all scB = true
  | [], _ => ⟨rfl, rfl⟩
  | x :: t, h => by
    obtain ⟨h1, h2⟩ := octL_low t (fun y hy => h y (List.mem_cons_of_mem _ hy))
    have hx := h x (List.mem_cons_self ..)
    have hs : scB x = true := (scB_iff x).2 (by omega)
    refine ⟨?_, by rw [List.all_cons, hs, h2]; rfl⟩
    have e : octL (x :: t) = octs x ++ octL t := by simp [octL]
    rw [e, h1]
    unfold octs
    rw [if_pos hs, if_pos hx.2]
    rfl
theorem txt_low {t : List Int} (h : ∀ x ∈ t, 0 ≤ x ∧ x < 128) : txt t = t := by
  obtain ⟨h1, h2⟩ := octL_low t h
  have := txt_laid h2
  rwa [h1] at this
theorem shw_all {s : List Int} (h : ∀ t ∈ pcsT s, kdW t ≠ 3) : shwP s = pcsP s := by
  have key : ∀ (l : List (Int × List Int)), (∀ p ∈ l, p.1 ≠ 3) → ∀ i, hidP (l.map Prod.fst) i = false := by
    intro l hl i
    unfold hidP
    by_cases h1 : 0 < i ∧ i + 1 < (l.map Prod.fst).length
    · have : decide ((l.map Prod.fst).getD (i - 1) 0 = 3) = false := by
        refine decide_eq_false fun h3 => ?_
        have hi : i - 1 < (l.map Prod.fst).length := by omega
        rw [List.getD_eq_getElem?_getD, List.getElem?_eq_getElem hi, Option.getD_some] at h3
        obtain ⟨p, hp, e⟩ := List.mem_map.1 (List.getElem_mem hi)
        exact hl p hp (by rw [e]; exact h3)
      rw [this]
      simp
    · by_cases h2 : 0 < i
      · rw [decide_eq_false (fun h3 => h1 ⟨h2, h3⟩)]; simp
      · rw [decide_eq_false h2]; simp
  have hk := key (pcsP s) (fun p hp => by
    unfold pcsP at hp
    obtain ⟨t, ht, rfl⟩ := List.mem_map.1 hp
    exact h t ht)
  have all : ∀ (l : List (Int × List Int)) (m : Nat), (∀ i, hidP (l.map Prod.fst) i = false) → m ≤ l.length → shwN l m = l.take m := by
    intro l m hl
    induction m with
    | zero => intro _; unfold shwN; simp
    | succ m ih =>
      intro hm
      have ih := ih (by omega)
      unfold shwN at ih ⊢
      rw [List.range_succ, List.filterMap_append, ih, List.take_add_one, List.filterMap_cons, List.filterMap_nil, hl m, if_neg Bool.false_ne_true, List.getElem?_eq_getElem (by omega)]
      rfl
  have := all (pcsP s) _ hk (Nat.le_refl _)
  unfold shwP
  rw [this, List.take_length]
/-- Octets from 32 to 126 without '=?' are read as they are (P33.4). -/
theorem rd_plain {s : List Int} (hp : ∀ x ∈ s, 32 ≤ x ∧ x ≤ 126) (hq : qOk s = true) : rdL s = s ∧ setsL (unfL s) = [] := by
  have hu : unfL s = s := by
    have := unfS_plain s [] (fun x hx => by have := hp x hx; omega)
    rw [List.append_nil] at this
    unfold unfL
    rw [this]
    simp [unfS]
  have hk : ∀ t ∈ pcsT s, kdW t ≠ 3 := fun t ht => kdW_plain (pcs_qOk s hq t ht)
  have hs := shw_all hk
  unfold rdL rawL lnsP setsL setP
  rw [hu, hs]
  constructor
  · have e : (pcsP s).map rdPc = pcsT s := by
      unfold pcsP
      rw [List.map_map]
      conv => rhs; rw [← List.map_id (pcsT s)]
      refine List.map_congr_left fun t ht => ?_
      show rdPc (kdW t, t) = t
      unfold rdPc
      rw [if_neg (hk t ht)]
      exact txt_low fun x hx => by have := hp x (pcs_mem ht x hx); omega
    rw [e, (pcsT_whole s).1]
  · have e : (pcsP s).filter (fun p => decide (p.1 = 3)) = [] := by
      refine List.filter_eq_nil_iff.2 fun p hp' => ?_
      unfold pcsP at hp'
      obtain ⟨t, ht, rfl⟩ := List.mem_map.1 hp'
      simpa using hk t ht
    rw [e]; rfl
end Go.Proofs.YtefhddbbiheadaaGreat
