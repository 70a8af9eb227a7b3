/-
  Layer 19, in plain words: what is laid is read; what has no = and no blanks is read as it is; there are no more octets than were read of.
-/
import Derived.Test.YtldmoopdffenfaaDoorD19
import Derived.Test.YtldmoopdffenfaaDoorD18c
namespace Go.Proofs.YtldmoopdffenfaaDoor
open Go.RowKit
set_option linter.unusedVariables false

theorem endOk_last {l : List Int} {x : Int} (h : endOk (l ++ [x]) = true) : isB 2 x = false := by
  unfold endOk at h
  rw [List.getLast?_concat] at h
  simpa using h
theorem trim_ok {l : List Int} (h : endOk l = true) : trimE l = l := by
  rcases List.eq_nil_or_concat l with rfl | ⟨v, x, rfl⟩
  · rfl
  · rw [List.concat_eq_append] at h ⊢
    rw [trimE_snoc, if_neg (by rw [endOk_last h]; decide)]
theorem soft_ok {l : List Int} (h : endOk l = true) (h1 : l.getLast? ≠ some 61) : softB l = false := by
  unfold softB
  rw [trim_ok h]
  cases hc : (l.getLast? == some 61)
  · rfl
  · exact absurd (by simpa using hc) h1
theorem line_ok {l : List Int} (h : endOk l = true) (h1 : l.getLast? ≠ some 61) : lineB l = l := by
  unfold lineB
  rw [soft_ok h h1, if_neg (by decide), trim_ok h]
theorem soft_eq (l : List Int) : softB (l ++ [61]) = true ∧ lineB (l ++ [61]) = l := by
  have h := trim_ok (end_soft l)
  have hs : softB (l ++ [61]) = true := by unfold softB; rw [h, List.getLast?_concat]; rfl
  refine ⟨hs, ?_⟩
  unfold lineB
  rw [if_pos hs, h, List.dropLast_concat]
/-- What a line in the making is read as, whatever stands behind. -/
def RdA (l vs : List Int) : Prop := ∀ t, rdE 61 idI (l ++ t) 0 = vs ++ rdE 61 idI t 0 ∧ stE 61 (l ++ t) 0 = stE 61 t 0
theorem RdA.nil : RdA [] [] := fun t => ⟨rfl, rfl⟩
theorem RdA.app {l vs m us : List Int} (h : RdA l vs) (h' : RdA m us) : RdA (l ++ m) (vs ++ us) := by
  intro t
  rw [List.append_assoc, (h _).1, (h _).2, (h' _).1, (h' _).2, List.append_assoc]
  exact ⟨rfl, rfl⟩
theorem RdA.plain {x : Int} (h : x ≠ 61) : RdA [x] [x] := by
  intro t
  rw [List.singleton_append, rdE_on (escP_ne h t), stE_on (escP_ne h t), if_neg h]
  exact ⟨rfl, by omega⟩
theorem RdA.unit (x : Int) (e : Bool) (h0 : 0 ≤ x) (h1 : x ≤ 255) : RdA (unitL x e) [x] := by
  unfold unitL
  split
  · rename_i h
    refine RdA.plain ?_
    rintro rfl
    revert h
    cases e <;> decide +kernel
  · intro t
    have he := escP_put (s := 61) trivial h0 h1 t
    rw [esc_eq] at he ⊢
    have he' : escP 61 (61 :: ([digI (x / 16), digI (x % 16)] ++ t)) = some x := he
    rw [List.cons_append, rdE_esc he', stE_esc he']
    exact ⟨rfl, rfl⟩
theorem RdA.all {l vs : List Int} (h : RdA l vs) : rdE 61 idI l 0 = vs ∧ stE 61 l 0 = 0 := by
  have := h []
  simpa [rdE, stE] using this
theorem line_hard {l vs : List Int} (h : RdA l vs) (he : endOk l = true) (h1 : l.getLast? ≠ some 61) : lineR l = vs ∧ lineN l = 0 := by
  unfold lineR lineN
  rw [line_ok he h1]
  exact h.all
theorem line_soft {l vs : List Int} (h : RdA l vs) : lineR (l ++ [61]) = vs ∧ lineN (l ++ [61]) = 0 := by
  unfold lineR lineN
  rw [(soft_eq l).2]
  exact h.all
theorem rdS_on {x : Int} {r line : List Int} (h1 : x ≠ 13) (h2 : x ≠ 10) : rdS (x :: r) false line = rdS r false (line ++ [x]) := by
  rw [rdS, if_neg (fun h => h.elim h1 h2)]
theorem stS_on {x : Int} {r line : List Int} (h1 : x ≠ 13) (h2 : x ≠ 10) : stS (x :: r) false line = stS r false (line ++ [x]) := by
  rw [stS, if_neg (fun h => h.elim h1 h2)]
theorem rdS_app : ∀ (u rest line : List Int), (∀ x ∈ u, x ≠ 13 ∧ x ≠ 10) → rdS (u ++ rest) false line = rdS rest false (line ++ u) ∧ stS (u ++ rest) false line = stS rest false (line ++ u)
  | [], rest, line, _ => by simp
  | x :: u, rest, line, h => by
    have hx := h x (List.mem_cons_self ..)
    have ih := rdS_app u rest (line ++ [x]) (fun y hy => h y (List.mem_cons_of_mem _ hy))
    rw [List.cons_append, rdS_on hx.1 hx.2, stS_on hx.1 hx.2, ih.1, ih.2]
    simp
theorem rdS_two (r line : List Int) : rdS (13 :: 10 :: r) false line = lineR line ++ ((if softB line = true then [] else [13, 10]) ++ rdS r false []) ∧ stS (13 :: 10 :: r) false line = lineN line + stS r false [] := by
  have h2 : two19 13 (10 :: r) = true := rfl
  constructor
  · rw [rdS, if_pos (.inl rfl), h2, rdS_skip]
    unfold brk19
    rw [h2]
    rfl
  · rw [stS, if_pos (.inl rfl), h2, stS_skip]
    rfl
theorem read_is {c : List Int} (hc : Brk c) : (∀ x ∈ c, 0 ≤ x ∧ x ≤ 255) → ∀ acc vs : List Int, Acc acc → RdA acc vs → (c.head? = some 13 → endOk acc = true) → rdS (layS c false acc.length) false acc = vs ++ c ∧ stS (layS c false acc.length) false acc = 0 := by
  induction hc with
  | nil =>
    intro _ acc vs ha hv _
    by_cases h0 : acc = []
    · subst h0
      have := line_hard hv rfl (by simp)
      simp only [layS, List.length_nil, Nat.lt_irrefl, if_false, rdS, stS]
      rw [this.1, this.2]
      simp
    · have hp : 0 < acc.length := List.length_pos_iff.2 h0
      have hs := line_soft hv
      rw [layS, if_pos hp, rdS_on (by decide) (by decide), stS_on (by decide) (by decide), (rdS_two [] _).1, (rdS_two [] _).2, hs.1, hs.2, if_pos (soft_eq acc).1]
      exact ⟨rfl, rfl⟩
  | @br r h ih =>
    intro hb acc vs ha hv he
    have e : layS (13 :: 10 :: r) false acc.length = 13 :: 10 :: layS r false 0 := by rw [lay_cr]; rfl
    have hi := ih (fun x hx => hb x (by simp [hx])) [] [] Acc.nil RdA.nil (fun _ => rfl)
    have hl := line_hard hv (he rfl) ha.last
    rw [List.length_nil] at hi
    rw [e, (rdS_two _ _).1, (rdS_two _ _).2, hl.1, hl.2, soft_ok (he rfl) ha.last, hi.1, hi.2]
    exact ⟨rfl, rfl⟩
  | @on x r h1 h2 h ih =>
    intro hb acc vs ha hv he
    have hx := hb x (by simp)
    have hr : ∀ y ∈ r, 0 ≤ y ∧ y ≤ 255 := fun y hy => hb y (by simp [hy])
    obtain ⟨e, hee⟩ : ∃ e, e = decide (r.head? = some 13) := ⟨_, rfl⟩
    have hu := unit_unt x e hx.1 hx.2
    have hno := hu.no.1
    have hun := RdA.unit x e hx.1 hx.2
    have hend : r.head? = some 13 → ∀ l, endOk (l ++ unitL x e) = true := by
      intro hh l
      have he1 : e = true := by rw [hee]; exact decide_eq_true hh
      subst he1
      unfold unitL
      split
      · rename_i hp
        have h4 : isB 4 x = true := by
          unfold plainU at hp
          simp only [Bool.or_eq_true, Bool.and_eq_true] at hp
          rcases hp with ⟨hp, _⟩ | ⟨_, hp⟩
          · exact hp
          · cases hp
        unfold endOk
        rw [List.getLast?_concat]
        simp [(kind4 hx.1 hx.2 h4).1]
      · have d2 := dig18 (k := x % 16) (by omega) (by omega)
        rw [esc_eq]
        unfold endOk
        rw [show l ++ [61, digI (x / 16), digI (x % 16)] = (l ++ [61, digI (x / 16)]) ++ [digI (x % 16)] by simp, List.getLast?_concat]
        simp [d2.2.1]
    have hn13 : ∀ y ∈ unitL x e, y ≠ 13 ∧ y ≠ 10 := fun y hy => ⟨(hno y hy).1, (hno y hy).2.1⟩
    by_cases hlong : 75 < acc.length + (unitL x e).length
    · have hi := ih hr (unitL x e) [x] (Acc.one hu) hun (fun hh => by simpa using hend hh [])
      have eo : layS (x :: r) false acc.length = 61 :: 13 :: 10 :: (unitL x e ++ layS r false (unitL x e).length) := by rw [lay_unit h1, ← hee, if_pos hlong]
      have hs := line_soft hv
      have hap := rdS_app (unitL x e) (layS r false (unitL x e).length) [] hn13
      rw [List.nil_append] at hap
      rw [eo, rdS_on (by decide) (by decide), stS_on (by decide) (by decide), (rdS_two _ _).1, (rdS_two _ _).2, hs.1, hs.2, if_pos (soft_eq acc).1, hap.1, hap.2, hi.1, hi.2]
      exact ⟨by simp, rfl⟩
    · have hi := ih hr (acc ++ unitL x e) (vs ++ [x]) (ha.snoc hu) (hv.app hun) (fun hh => hend hh acc)
      rw [List.length_append] at hi
      have eo : layS (x :: r) false acc.length = unitL x e ++ layS r false (acc.length + (unitL x e).length) := by rw [lay_unit h1, ← hee, if_neg hlong]
      have hap := rdS_app (unitL x e) (layS r false (acc.length + (unitL x e).length)) acc hn13
      rw [eo, hap.1, hap.2, hi.1, hi.2]
      exact ⟨by simp, rfl⟩
/-- What is laid is read (P19.3). -/
theorem read_layQ {xs : List Int} (hb : ∀ x ∈ xs, 0 ≤ x ∧ x ≤ 255) : readS (layQ xs) = brkL xs ∧ strS (layQ xs) = 0 ∧ layQ (readS (layQ xs)) = layQ xs := by
  have h := read_is (brk_ok _ xs (Nat.le_refl _)) (brkS_bd xs false hb) [] [] Acc.nil RdA.nil (fun _ => rfl)
  have h1 : readS (layQ xs) = brkL xs := h.1
  exact ⟨h1, h.2, by rw [h1]; exact (brk_again xs).2⟩
/-- There are no more octets than were read of (P19.4). -/
theorem rdS_short : ∀ (n : Nat) (xs line : List Int), xs.length ≤ n → (rdS xs false line).length ≤ line.length + xs.length := by
  intro n
  induction n with
  | zero =>
    intro xs line h
    obtain rfl : xs = [] := List.eq_nil_of_length_eq_zero (by omega)
    have := lineR_le line
    simpa [rdS] using this
  | succ n ih =>
    intro xs line h
    match xs with
    | [] => simpa [rdS] using lineR_le line
    | x :: r =>
      simp only [List.length_cons] at h
      have hl := lineR_le line
      by_cases hx : x = 13 ∨ x = 10
      · cases h2 : two19 x r
        · have := ih r [] (by omega)
          rw [rdS, if_pos hx, h2]
          have hb : (brk19 x r line).length ≤ 1 := by unfold brk19; rw [h2]; split <;> simp
          simp only [List.length_append, List.length_cons, List.length_nil] at this ⊢
          omega
        · have hd := of_decide_eq_true h2
          match r, hd with
          | y :: r', hd =>
            have := ih r' [] (by simp only [List.length_cons] at h; omega)
            rw [rdS, if_pos hx, h2, rdS_skip]
            have hb : (brk19 x (y :: r') line).length ≤ 2 := by unfold brk19; rw [h2]; split <;> simp
            simp only [List.length_append, List.length_cons, List.length_nil, List.drop_succ_cons, List.drop_zero] at this ⊢
            omega
      · rw [rdS, if_neg hx]
        have := ih r (line ++ [x]) (by omega)
        simp only [List.length_append, List.length_cons, List.length_nil] at this ⊢
        omega
theorem readS_short (xs : List Int) : (readS xs).length ≤ xs.length := by
  have := rdS_short _ xs [] (Nat.le_refl _)
  unfold readS
  simpa using this
/-- What has no = and no blanks is read as it is. -/
def plainQ (x : Int) : Bool := decide (x ≠ 61) && !isB 2 x
theorem rdA_plain : ∀ {l : List Int}, l.all plainQ = true → RdA l l
  | [], _ => RdA.nil
  | x :: l, h => by
    simp only [List.all_cons, Bool.and_eq_true] at h
    have hx : x ≠ 61 := by have := h.1; unfold plainQ at this; simp only [Bool.and_eq_true] at this; exact of_decide_eq_true this.1
    exact (RdA.plain hx).app (rdA_plain h.2)
theorem plain_end {l : List Int} (h : l.all plainQ = true) : endOk l = true ∧ l.getLast? ≠ some 61 := by
  rcases List.eq_nil_or_concat l with rfl | ⟨v, x, rfl⟩
  · exact ⟨rfl, by simp⟩
  · rw [List.concat_eq_append] at h ⊢
    rw [List.all_append, Bool.and_eq_true] at h
    have hx := h.2
    simp only [List.all_cons, List.all_nil, Bool.and_true] at hx
    unfold plainQ at hx
    simp only [Bool.and_eq_true] at hx
    unfold endOk
    rw [List.getLast?_concat]
    exact ⟨hx.2, fun hh => of_decide_eq_true hx.1 (Option.some.inj hh)⟩
theorem rdS_plain : ∀ (n : Nat) (xs line : List Int), xs.length ≤ n → xs.all plainQ = true → line.all plainQ = true → rdS xs false line = line ++ xs := by
  intro n
  induction n with
  | zero =>
    intro xs line h _ hl
    obtain rfl : xs = [] := List.eq_nil_of_length_eq_zero (by omega)
    have he := plain_end hl
    rw [rdS, (line_hard (rdA_plain hl) he.1 he.2).1]; simp
  | succ n ih =>
    intro xs line h hp hl
    have he := plain_end hl
    match xs with
    | [] => rw [rdS, (line_hard (rdA_plain hl) he.1 he.2).1]; simp
    | x :: r =>
      simp only [List.length_cons] at h
      simp only [List.all_cons, Bool.and_eq_true] at hp
      by_cases hx : x = 13 ∨ x = 10
      · have hb : brk19 x r line = if two19 x r = true then [x, 10] else [x] := by unfold brk19; rw [soft_ok he.1 he.2, if_neg (by decide)]
        cases h2 : two19 x r
        · rw [rdS, if_pos hx, hb, h2, ih r [] (by omega) hp.2 rfl, (line_hard (rdA_plain hl) he.1 he.2).1]; rfl
        · have hd := of_decide_eq_true h2
          match r, hd, hp with
          | y :: r', hd, hp =>
            have hy : y = 10 := by have := hd.2; simpa using this
            have hr' : r'.all plainQ = true := by have := hp.2; simp only [List.all_cons, Bool.and_eq_true] at this; exact this.2
            rw [rdS, if_pos hx, hb, h2, rdS_skip, List.drop_succ_cons, List.drop_zero, ih r' [] (by simp only [List.length_cons] at h; omega) hr' rfl, (line_hard (rdA_plain hl) he.1 he.2).1, hy]; rfl
      · rw [rdS, if_neg hx, ih r (line ++ [x]) (by omega) hp.2 (by rw [List.all_append, hl]; simp [hp.1])]
        simp
theorem readS_plain {xs : List Int} (h : xs.all plainQ = true) : readS xs = xs := by
  have := rdS_plain _ xs [] (Nat.le_refl _) h rfl
  unfold readS
  simpa using this
end Go.Proofs.YtldmoopdffenfaaDoor
