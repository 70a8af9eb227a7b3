/-
  Layer 18, in plain words: what is laid is right.
-/
import Derived.Test.YtldmoopdffenfaaDoorD18b
namespace Go.Proofs.YtldmoopdffenfaaDoor
open Go.RowKit
set_option linter.unusedVariables false

/-! ### units side by side are right -/
theorem kinds18 : ∀ n : Fin 256, (isB 4 (n.val : Int) = true → isB 2 (n.val : Int) = false ∧ 33 ≤ (n.val : Int) ∧ (n.val : Int) ≤ 126) ∧ (isB 2 (n.val : Int) = true → (n.val : Int) = 9 ∨ (n.val : Int) = 32) := by decide +kernel
theorem kind4 {c : Int} (h0 : 0 ≤ c) (h1 : c ≤ 255) (h : isB 4 c = true) : isB 2 c = false ∧ 33 ≤ c ∧ c ≤ 126 :=
  (byte_fin (p := fun c => (isB 4 c = true → isB 2 c = false ∧ 33 ≤ c ∧ c ≤ 126) ∧ (isB 2 c = true → c = 9 ∨ c = 32)) kinds18 c h0 h1).1 h
theorem kind2 {c : Int} (h0 : 0 ≤ c) (h1 : c ≤ 255) (h : isB 2 c = true) : c = 9 ∨ c = 32 :=
  (byte_fin (p := fun c => (isB 4 c = true → isB 2 c = false ∧ 33 ≤ c ∧ c ≤ 126) ∧ (isB 2 c = true → c = 9 ∨ c = 32)) kinds18 c h0 h1).2 h
theorem digs18 : ∀ k : Fin 16, isB 4 (digI (k.val : Int)) = true ∧ isB 2 (digI (k.val : Int)) = false ∧ digI (k.val : Int) ≠ 61 ∧ digI (k.val : Int) ≠ 13 ∧ digI (k.val : Int) ≠ 10 ∧ hexO (digI (k.val : Int)) = true ∧ hexV (digI (k.val : Int)) = (k.val : Int) ∧ 33 ≤ digI (k.val : Int) ∧ digI (k.val : Int) ≤ 126 := by decide +kernel
theorem dig18 {k : Int} (h0 : 0 ≤ k) (h1 : k ≤ 15) : isB 4 (digI k) = true ∧ isB 2 (digI k) = false ∧ digI k ≠ 61 ∧ digI k ≠ 13 ∧ digI k ≠ 10 ∧ hexO (digI k) = true ∧ hexV (digI k) = k ∧ 33 ≤ digI k ∧ digI k ≤ 126 := by
  have := digs18 ⟨k.toNat, by omega⟩
  rwa [show ((⟨k.toNat, by omega⟩ : Fin 16).val : Int) = k by simp; omega] at this
/-- A unit as it may stand on a line. -/
def Unt (u : List Int) : Prop := (∃ c, u = [c] ∧ (isB 4 c = true ∨ isB 2 c = true) ∧ c ≠ 61 ∧ 0 ≤ c ∧ c ≤ 255) ∨ ∃ c, 0 ≤ c ∧ c ≤ 255 ∧ u = escI [] 61 c
theorem unit_unt (c : Int) (e : Bool) (h0 : 0 ≤ c) (h1 : c ≤ 255) : Unt (unitL c e) := by
  unfold unitL
  split
  · rename_i h
    refine .inl ⟨c, rfl, ?_, ?_, h0, h1⟩
    · unfold plainU at h
      simp only [Bool.or_eq_true, Bool.and_eq_true] at h
      rcases h with ⟨h, _⟩ | ⟨h, _⟩
      · exact .inl h
      · exact .inr h
    · rintro rfl
      revert h
      cases e <;> decide +kernel
  · exact .inr ⟨c, h0, h1, rfl⟩
theorem esc_eq (c : Int) : escI [] 61 c = [61, digI (c / 16), digI (c % 16)] := rfl
/-- Its octets are no breaks; its last one is no =. -/
theorem Unt.no {u : List Int} (h : Unt u) : (∀ x ∈ u, x ≠ 13 ∧ x ≠ 10 ∧ (x = 9 ∨ 32 ≤ x ∧ x ≤ 126)) ∧ ∃ v z, u = v ++ [z] ∧ z ≠ 61 := by
  rcases h with ⟨c, rfl, hk, hne, h0, h1⟩ | ⟨c, h0, h1, rfl⟩
  · have hb : c = 9 ∨ 32 ≤ c ∧ c ≤ 126 := by
      rcases hk with hk | hk
      · have := kind4 h0 h1 hk; omega
      · have := kind2 h0 h1 hk; omega
    refine ⟨fun x hx => ?_, [], c, rfl, hne⟩
    simp only [List.mem_cons, List.not_mem_nil, or_false] at hx
    subst hx
    exact ⟨by omega, by omega, hb⟩
  · have d1 := dig18 (k := c / 16) (by omega) (by omega)
    have d2 := dig18 (k := c % 16) (by omega) (by omega)
    refine ⟨fun x hx => ?_, [61, digI (c / 16)], digI (c % 16), rfl, d2.2.2.1⟩
    rw [esc_eq] at hx
    simp only [List.mem_cons, List.not_mem_nil, or_false] at hx
    rcases hx with rfl | rfl | rfl
    · exact ⟨by decide, by decide, by omega⟩
    · exact ⟨d1.2.2.2.1, d1.2.2.2.2.1, by omega⟩
    · exact ⟨d2.2.2.2.1, d2.2.2.2.2.1, by omega⟩
theorem sgn_shift (u l : List Int) (i : Nat) : sgnOk (u ++ l) (u.length + i) = sgnOk l i := by
  have hg : ∀ j, (u ++ l).getD (u.length + j) 0 = l.getD j 0 := by
    intro j
    rw [List.getD_eq_getElem?_getD, List.getD_eq_getElem?_getD, List.getElem?_append_right (by omega), Nat.add_sub_cancel_left]
  have ht : takeOk (u ++ l) ((u.length + i : Nat) : Int) 61 = takeOk l (i : Int) 61 := by
    unfold takeOk
    have e1 : ((u.length + i : Nat) : Int).toNat = u.length + i := by omega
    have e2 : ((i : Nat) : Int).toNat = i := by omega
    rw [e1, e2, Nat.add_assoc, Nat.add_assoc, hg, hg, hg]
    have e3 : decide (0 ≤ ((u.length + i : Nat) : Int)) = decide (0 ≤ (i : Int)) := by rw [Bool.eq_iff_iff]; simp; omega
    have e4 : decide (((u.length + i : Nat) : Int) ≤ ((u ++ l).length : Int) - 3) = decide ((i : Int) ≤ (l.length : Int) - 3) := by
      rw [Bool.eq_iff_iff, decide_eq_true_eq, decide_eq_true_eq, List.length_append]; omega
    rw [e3, e4]
  have hv : takeV (u ++ l) ((u.length + i : Nat) : Int) 61 = takeV l (i : Int) 61 := by
    unfold takeV
    rw [ht]
    have e1 : ((u.length + i : Nat) : Int).toNat = u.length + i := by omega
    have e2 : ((i : Nat) : Int).toNat = i := by omega
    rw [e1, e2, Nat.add_assoc, Nat.add_assoc, hg, hg]
  unfold sgnOk escAt
  have hdr : (u ++ l).drop (u.length + i) = l.drop i := by rw [← List.drop_drop, List.drop_left]
  rw [hg, ht, hv, hdr]
  have e5 : (u.length + i + 1 < (u ++ l).length) ↔ (i + 1 < l.length) := by rw [List.length_append]; exact ⟨fun h => by omega, fun h => by omega⟩
  simp only [e5]
/-- All positions of a line are right. -/
def rgS (l : List Int) : Prop := ∀ i, i < l.length → sgnOk l i = true
theorem rgS.app {u l : List Int} (hu : Unt u) (h : rgS l) : rgS (u ++ l) := by
  intro i hi
  by_cases hiu : u.length ≤ i
  · obtain ⟨j, rfl⟩ : ∃ j, i = u.length + j := ⟨i - u.length, by omega⟩
    rw [sgn_shift]
    exact h j (by rw [List.length_append] at hi; omega)
  · rcases hu with ⟨c, rfl, hk, hne, _⟩ | ⟨c, h0, h1, rfl⟩
    · obtain rfl : i = 0 := by simp at hiu; omega
      unfold sgnOk
      have e : ([c] ++ l).getD 0 0 = c := rfl
      rw [e, if_neg (fun h => hne h.1)]
      rcases hk with hk | hk <;> simp [hk]
    · have d1 := dig18 (k := c / 16) (by omega) (by omega)
      have d2 := dig18 (k := c % 16) (by omega) (by omega)
      rw [esc_eq] at hiu hi ⊢
      have hi3 : i < 3 := by simp at hiu; omega
      match i, hi3 with
      | 0, _ =>
        have ht : takeOk ([61, digI (c / 16), digI (c % 16)] ++ l) ((0 : Nat) : Int) 61 = true := by
          unfold takeOk
          have e1 : ([61, digI (c / 16), digI (c % 16)] ++ l).getD ((0 : Nat) : Int).toNat 0 = 61 := rfl
          have e2 : ([61, digI (c / 16), digI (c % 16)] ++ l).getD (((0 : Nat) : Int).toNat + 1) 0 = digI (c / 16) := rfl
          have e3 : ([61, digI (c / 16), digI (c % 16)] ++ l).getD (((0 : Nat) : Int).toNat + 2) 0 = digI (c % 16) := rfl
          have e4 : decide (((0 : Nat) : Int) ≤ (([61, digI (c / 16), digI (c % 16)] ++ l).length : Int) - 3) = true := decide_eq_true (by simp; omega)
          rw [e1, e2, e3, e4, d1.2.2.2.2.2.1, d2.2.2.2.2.2.1]; rfl
        have hv : takeV ([61, digI (c / 16), digI (c % 16)] ++ l) ((0 : Nat) : Int) 61 = c := by
          unfold takeV
          rw [if_pos ht]
          have e2 : ([61, digI (c / 16), digI (c % 16)] ++ l).getD (((0 : Nat) : Int).toNat + 1) 0 = digI (c / 16) := rfl
          have e3 : ([61, digI (c / 16), digI (c % 16)] ++ l).getD (((0 : Nat) : Int).toNat + 2) 0 = digI (c % 16) := rfl
          rw [e2, e3, d1.2.2.2.2.2.2.1, d2.2.2.2.2.2.2.1]; omega
        unfold sgnOk escAt
        rw [ht, hv]
        have e : ([61, digI (c / 16), digI (c % 16)] ++ l).getD 0 0 = 61 := rfl
        rw [e, esc_eq]
        have e6 : decide ([61, digI (c / 16), digI (c % 16)] = (([61, digI (c / 16), digI (c % 16)] ++ l).drop 0).take 3) = true := decide_eq_true rfl
        rw [e6]
        simp
        exact .inr (by decide +kernel)
      | 1, _ =>
        unfold sgnOk
        have e : ([61, digI (c / 16), digI (c % 16)] ++ l).getD 1 0 = digI (c / 16) := rfl
        rw [e, if_neg (fun h => d1.2.2.1 h.1), d1.1]; simp
      | 2, _ =>
        unfold sgnOk
        have e : ([61, digI (c / 16), digI (c % 16)] ++ l).getD 2 0 = digI (c % 16) := rfl
        rw [e, if_neg (fun h => d2.2.2.1 h.1), d2.1]; simp
/-- A line in the making. -/
def Acc (l : List Int) : Prop := ∃ us : List (List Int), (∀ u ∈ us, Unt u) ∧ l = us.flatten
theorem Acc.nil : Acc [] := ⟨[], fun _ h => (by cases h), rfl⟩
theorem Acc.snoc {l u : List Int} (h : Acc l) (hu : Unt u) : Acc (l ++ u) := by
  obtain ⟨us, h1, rfl⟩ := h
  refine ⟨us ++ [u], fun v hv => ?_, by simp⟩
  rcases List.mem_append.1 hv with hv | hv
  · exact h1 v hv
  · simp at hv; subst hv; exact hu
theorem Acc.one {u : List Int} (hu : Unt u) : Acc u := by simpa using Acc.nil.snoc hu
theorem Acc.right {l t : List Int} (h : Acc l) (ht : rgS t) : rgS (l ++ t) := by
  obtain ⟨us, h1, rfl⟩ := h
  induction us with
  | nil => exact ht
  | cons u us ih =>
    rw [List.flatten_cons, List.append_assoc]
    exact (ih fun v hv => h1 v (List.mem_cons_of_mem _ hv)).app (h1 u (List.mem_cons_self ..))
theorem Acc.last {l : List Int} (h : Acc l) : l.getLast? ≠ some 61 := by
  obtain ⟨us, h1, rfl⟩ := h
  rcases List.eq_nil_or_concat us with rfl | ⟨vs, u, rfl⟩
  · simp
  · obtain ⟨v, z, hu, hz⟩ := (h1 u (by simp)).no.2
    rw [List.concat_eq_append, List.flatten_append, hu]
    simp only [List.flatten_cons, List.flatten_nil, List.append_nil, ← List.append_assoc, List.getLast?_concat]
    exact fun h => hz (Option.some.inj h)
theorem rgS_nil : rgS [] := fun i hi => by simp at hi
theorem rgS_eq : rgS [61] := by
  intro i hi
  obtain rfl : i = 0 := by simp at hi; omega
  decide +kernel
theorem rgt_of {l : List Int} (h : rgS l) (he : endOk l = true) : rgtB l = true := by
  unfold rgtB
  rw [he, Bool.and_true, List.all_eq_true]
  intro i hi
  exact h i (List.mem_range.1 hi)
theorem end_soft (l : List Int) : endOk (l ++ [61]) = true := by
  unfold endOk
  rw [List.getLast?_concat]
  decide +kernel
theorem lin_app : ∀ (u rest acc : List Int), (∀ x ∈ u, x ≠ 13) → linS (u ++ rest) acc = linS rest (acc ++ u)
  | [], rest, acc, _ => by simp
  | x :: u, rest, acc, h => by
    rw [List.cons_append, lin_on acc (fun hh => h x (List.mem_cons_self ..) hh.1), lin_app u rest _ (fun y hy => h y (List.mem_cons_of_mem _ hy))]
    simp
/-! ### octets whose breaks are all 13, 10 -/
inductive Brk : List Int → Prop
  | nil : Brk []
  | br {r : List Int} : Brk r → Brk (13 :: 10 :: r)
  | on {x : Int} {r : List Int} : x ≠ 13 → x ≠ 10 → Brk r → Brk (x :: r)
theorem brk_ok : ∀ (n : Nat) (xs : List Int), xs.length ≤ n → Brk (brkS xs false) := by
  intro n
  induction n with
  | zero =>
    intro xs h
    obtain rfl : xs = [] := List.eq_nil_of_length_eq_zero (by omega)
    exact .nil
  | succ n ih =>
    intro xs h
    match xs with
    | [] => exact .nil
    | x :: r =>
      simp only [List.length_cons] at h
      by_cases hx : x = 13 ∨ x = 10
      · by_cases h2 : x = 13 ∧ r.head? = some 10
        · obtain ⟨rfl, hr⟩ := h2
          match r, hr with
          | y :: r', hr =>
            simp only [List.head?_cons, Option.some.injEq] at hr
            subst hr
            rw [brk_two]
            exact .br (ih r' (by simp only [List.length_cons] at h; omega))
        · rw [brk_one hx h2]
          exact .br (ih r (by omega))
      · rw [brk_plain (fun h => hx (.inl h)) (fun h => hx (.inr h))]
        exact .on (fun h => hx (.inl h)) (fun h => hx (.inr h)) (ih r (by omega))
theorem brk_same {c : List Int} (h : Brk c) : brkL c = c := by
  unfold brkL
  induction h with
  | nil => rfl
  | br h ih => rw [brk_two, ih]
  | on h1 h2 h ih => rw [brk_plain h1 h2, ih]
theorem brk_again (xs : List Int) : brkL (brkL xs) = brkL xs ∧ layQ (brkL xs) = layQ xs := by
  have h := brk_same (brk_ok _ xs (Nat.le_refl _))
  exact ⟨h, by unfold layQ; rw [show brkL (brkL xs) = brkL xs from h]⟩
/-! ### what is laid -/
/-- Lines that all end and are right; how many of them end softly, and not. -/
structure Laid (c out acc : List Int) (rows : List (List Int)) : Prop where
  lines : linS out acc = rows ++ [[]]
  ok : ∀ l ∈ rows, l.length ≤ 76 ∧ rgtB l = true
  soft : sftQ rows true + c.count 10 = rows.length
  tens : out.count 10 = rows.length
  octs : ∀ x ∈ out, x = 13 ∨ x = 10 ∨ x = 9 ∨ 32 ≤ x ∧ x ≤ 126
  some_ : rows = [] → c = [] ∧ acc = []
  last : out ≠ [] → out.getLast? = some 10
theorem sft_cons (l : List Int) (r : List (List Int)) : sftQ (l :: r) true = (if l.getLast? = some 61 then 1 else 0) + sftQ r true := by
  rw [sftQ]
  by_cases h : l.getLast? = some 61
  · rw [if_pos ⟨h, .inl rfl⟩, if_pos h]
  · rw [if_neg (fun hh => h hh.1), if_neg h]
theorem cnt10_no {u : List Int} (h : ∀ x ∈ u, x ≠ 10) : u.count 10 = 0 := by
  rw [List.count_eq_zero]
  exact fun hh => h 10 hh rfl
theorem laid_is {c : List Int} (hc : Brk c) : (∀ x ∈ c, 0 ≤ x ∧ x ≤ 255) → ∀ acc : List Int, Acc acc → acc.length ≤ 75 → (c.head? = some 13 → endOk acc = true) → ∃ rows, Laid c (layS c false acc.length) acc rows := by
  induction hc with
  | nil =>
    intro _ acc ha hl _
    by_cases h0 : acc = []
    · subst h0
      exact ⟨[], by simp [layS, linS], fun l hl => (by cases hl), rfl, rfl, fun x hx => (by simp [layS] at hx), fun _ => ⟨rfl, rfl⟩, fun h => absurd rfl h⟩
    · have hp : 0 < acc.length := List.length_pos_iff.2 h0
      refine ⟨[acc ++ [61]], ?_, ?_, ?_, ?_, ?_, fun h => (by cases h), fun _ => ?_⟩
      · rw [layS, if_pos hp, lin_on acc (fun h => by cases h.1), lin_line]; rfl
      · intro l hm
        simp only [List.mem_cons, List.not_mem_nil, or_false] at hm
        subst hm
        exact ⟨by simp; omega, rgt_of (ha.right rgS_eq) (end_soft acc)⟩
      · rw [sft_cons, List.getLast?_concat, if_pos rfl]; rfl
      · rw [layS, if_pos hp]; rfl
      · rw [layS, if_pos hp]
        intro x hx
        simp only [List.mem_cons, List.not_mem_nil, or_false] at hx
        omega
      · rw [layS, if_pos hp]; rfl
  | @br r h ih =>
    intro hb acc ha hl he
    obtain ⟨rows, hL⟩ := ih (fun x hx => hb x (by simp [hx])) [] Acc.nil (Nat.zero_le _) (fun _ => rfl)
    have e : layS (13 :: 10 :: r) false acc.length = 13 :: 10 :: layS r false 0 := by rw [lay_cr]; rfl
    simp only [List.length_nil] at hL
    refine ⟨acc :: rows, ?_, ?_, ?_, ?_, ?_, fun h => (by cases h), fun _ => ?_⟩
    · rw [e, lin_line, hL.lines]; rfl
    · intro l hm
      simp only [List.mem_cons] at hm
      rcases hm with rfl | hm
      · exact ⟨by omega, rgt_of (by simpa using ha.right rgS_nil) (he rfl)⟩
      · exact hL.ok l hm
    · have := hL.soft
      rw [sft_cons, if_neg ha.last, List.length_cons, List.count_cons_of_ne (by decide), List.count_cons_self]
      omega
    · rw [e, List.count_cons_of_ne (by decide), List.count_cons_self, hL.tens]; rfl
    · rw [e]
      intro x hx
      simp only [List.mem_cons] at hx
      rcases hx with rfl | rfl | hx
      · exact .inl rfl
      · exact .inr (.inl rfl)
      · exact hL.octs x hx
    · rw [e]
      by_cases h0 : layS r false 0 = []
      · rw [h0]; rfl
      · have := hL.last h0
        rw [List.getLast?_cons_of_ne_nil (by simp), List.getLast?_cons_of_ne_nil h0, this]
  | @on x r h1 h2 h ih =>
    intro hb acc ha hl he
    have hx := hb x (by simp)
    have hr : ∀ y ∈ r, 0 ≤ y ∧ y ≤ 255 := fun y hy => hb y (by simp [hy])
    obtain ⟨e, hee⟩ : ∃ e, e = decide (r.head? = some 13) := ⟨_, rfl⟩
    have hu := unit_unt x e hx.1 hx.2
    have hno := hu.no.1
    have hlen := unit_len x e
    have hend : r.head? = some 13 → ∀ l, endOk (l ++ unitL x e) = true := by
      intro hh l
      have he1 : e = true := by rw [hee]; exact decide_eq_true hh
      subst he1
      unfold unitL
      split
      · rename_i hp
        have h4 : isB 4 x = true := by
          unfold plainU at hp
          simp only [Bool.or_eq_true, Bool.and_eq_true] at hp
          rcases hp with ⟨hp, _⟩ | ⟨_, hp⟩
          · exact hp
          · cases hp
        unfold endOk
        rw [List.getLast?_concat]
        simp [(kind4 hx.1 hx.2 h4).1]
      · have d2 := dig18 (k := x % 16) (by omega) (by omega)
        rw [esc_eq]
        unfold endOk
        rw [show l ++ [61, digI (x / 16), digI (x % 16)] = (l ++ [61, digI (x / 16)]) ++ [digI (x % 16)] by simp, List.getLast?_concat]
        simp [d2.2.1]
    have hcnt : (unitL x e).count 10 = 0 := cnt10_no fun y hy => (hno y hy).2.1
    have hn13 : ∀ y ∈ unitL x e, y ≠ 13 := fun y hy => (hno y hy).1
    have hxc : (x :: r).count 10 = r.count 10 := List.count_cons_of_ne (by first | exact h2 | exact fun h => h2 h.symm)
    by_cases hlong : 75 < acc.length + (unitL x e).length
    · obtain ⟨rows, hL⟩ := ih hr (unitL x e) (Acc.one hu) (by omega) (fun hh => by simpa using hend hh [])
      have eo : layS (x :: r) false acc.length = 61 :: 13 :: 10 :: (unitL x e ++ layS r false (unitL x e).length) := by rw [lay_unit h1, ← hee, if_pos hlong]
      refine ⟨(acc ++ [61]) :: rows, ?_, ?_, ?_, ?_, ?_, fun h => (by cases h), fun _ => ?_⟩
      · rw [eo, lin_on acc (fun h => by cases h.1), lin_line, lin_app _ _ _ hn13, List.nil_append, hL.lines]; rfl
      · intro l hm
        simp only [List.mem_cons] at hm
        rcases hm with rfl | hm
        · exact ⟨by simp; omega, rgt_of (ha.right rgS_eq) (end_soft acc)⟩
        · exact hL.ok l hm
      · have := hL.soft
        rw [sft_cons, List.getLast?_concat, if_pos rfl, hxc, List.length_cons]
        omega
      · rw [eo, List.count_cons_of_ne (by decide), List.count_cons_of_ne (by decide), List.count_cons_self, List.count_append, hcnt, hL.tens, List.length_cons]; omega
      · rw [eo]
        intro y hy
        simp only [List.mem_cons, List.mem_append] at hy
        rcases hy with rfl | rfl | rfl | hy | hy
        · omega
        · omega
        · omega
        · have := (hno y hy).2.2; omega
        · exact hL.octs y hy
      · rw [eo]
        have hne : layS r false (unitL x e).length ≠ [] := by
          intro h0
          have h3 := hL.tens
          rw [h0] at h3
          have := hL.some_ (List.eq_nil_of_length_eq_zero (by simpa using h3.symm))
          rw [this.2] at hlen
          simp at hlen
        rw [List.getLast?_cons_of_ne_nil (by simp), List.getLast?_cons_of_ne_nil (by simp), List.getLast?_cons_of_ne_nil (by simp [hne]), List.getLast?_append, hL.last hne]; rfl
    · obtain ⟨rows, hL⟩ := ih hr (acc ++ unitL x e) (ha.snoc hu) (by rw [List.length_append]; omega) (fun hh => hend hh acc)
      rw [List.length_append] at hL
      have eo : layS (x :: r) false acc.length = unitL x e ++ layS r false (acc.length + (unitL x e).length) := by rw [lay_unit h1, ← hee, if_neg hlong]
      have hne : layS r false (acc.length + (unitL x e).length) ≠ [] := by
        intro h0
        have h3 := hL.tens
        rw [h0] at h3
        have := hL.some_ (List.eq_nil_of_length_eq_zero (by simpa using h3.symm))
        have h4 := congrArg List.length this.2
        simp only [List.length_append, List.length_nil] at h4
        omega
      refine ⟨rows, ?_, hL.ok, ?_, ?_, ?_, fun h0 => ?_, fun _ => ?_⟩
      · rw [eo, lin_app _ _ _ hn13, hL.lines]
      · rw [hxc]; exact hL.soft
      · rw [eo, List.count_append, hcnt, hL.tens]; omega
      · rw [eo]
        intro y hy
        simp only [List.mem_append] at hy
        rcases hy with hy | hy
        · have := (hno y hy).2.2; omega
        · exact hL.octs y hy
      · exfalso
        have h4 := congrArg List.length (hL.some_ h0).2
        simp only [List.length_append, List.length_nil] at h4
        omega
      · rw [eo, List.getLast?_append, hL.last hne]; rfl
theorem chk_all {rows : List (List Int)} (h : ∀ l ∈ rows, l.length ≤ 76 ∧ rgtB l = true) : chkQ rows true = 0 := by
  induction rows with
  | nil => rfl
  | cons l r ih =>
    have hl := h l (List.mem_cons_self ..)
    rw [chkQ, if_neg (by omega), if_neg (by simp), if_pos hl.2]
    exact ih fun x hx => h x (List.mem_cons_of_mem _ hx)
theorem brkL_nil {xs : List Int} : brkL xs = [] ↔ xs = [] := by
  constructor
  · intro h
    cases xs with
    | nil => rfl
    | cons x r =>
      exfalso
      unfold brkL at h
      rw [brkS, if_neg (fun hh => by cases hh.1)] at h
      split at h <;> cases h
  · rintro rfl; rfl
/-- All of it. -/
theorem laid_all {xs : List Int} (hb : ∀ x ∈ xs, 0 ≤ x ∧ x ≤ 255) :
    checkQ (layQ xs) = 0 ∧ (∀ x ∈ layQ xs, x = 13 ∨ x = 10 ∨ x = 9 ∨ 32 ≤ x ∧ x ≤ 126) ∧ (layQ xs = [] ↔ xs = []) ∧ (layQ xs ≠ [] → (layQ xs).getLast? = some 10) ∧ softQ (layQ xs) + (brkL xs).count 10 = (layQ xs).count 10 := by
  obtain ⟨rows, hL⟩ := laid_is (brk_ok _ xs (Nat.le_refl _)) (brkS_bd xs false hb) [] Acc.nil (Nat.zero_le _) (fun _ => rfl)
  have hL' : Laid (brkL xs) (layQ xs) [] rows := hL
  have hA : linA (layQ xs) = rows ++ [[]] := hL'.lines
  have hE : linE (layQ xs) = true := by unfold linE; rw [hA, List.getLast?_concat]; rfl
  have hLL : linL (layQ xs) = rows := by unfold linL; rw [if_pos hE, hA, List.dropLast_concat]
  refine ⟨by unfold checkQ; rw [hLL, hE]; exact chk_all hL'.ok, hL'.octs, ⟨fun h => ?_, fun h => ?_⟩, hL'.last, ?_⟩
  · have h3 := hL'.tens
    rw [h] at h3
    exact brkL_nil.1 (hL'.some_ (List.eq_nil_of_length_eq_zero (by simpa using h3.symm))).1
  · subst h; rfl
  · unfold softQ
    rw [hLL, hE, hL'.tens]
    exact hL'.soft
end Go.Proofs.YtldmoopdffenfaaDoor
