/-
  Contracts of package bound's functions: a piece more (a region that draws its order, in a loop over a function).
-/
import Derived.Test.YtpdlnbomjknhiaaRr
import Derived.Test.YtpdlnbomjknhiaaC07c
namespace Go.Proofs.Ytpdlnbomjknhiaa
open Go.RowKit Go.Shelf
set_option linter.unusedVariables false
attribute [local go_sem] Oper.semAt_some

theorem runP_bd (most : Int) (xs : List Int) (B : Nat) : ∀ ps : List Int, (∀ p ∈ ps, 0 ≤ p ∧ p ≤ (B : Int)) →
    (0 ≤ (runP most xs ps).2.1 ∧ (runP most xs ps).2.1 ≤ B) ∧ (0 ≤ (runP most xs ps).2.2 ∧ (runP most xs ps).2.2 ≤ B) ∧ (runP most xs ps).1.length ≤ ps.length := by
  have key : ∀ (ps : List Int) (q : List (List Int) × Int × Int), (∀ p ∈ ps, 0 ≤ p ∧ p ≤ (B : Int)) → (0 ≤ q.2.1 ∧ q.2.1 ≤ B) → (0 ≤ q.2.2 ∧ q.2.2 ≤ B) →
      (0 ≤ (ps.foldl (stepP most xs) q).2.1 ∧ (ps.foldl (stepP most xs) q).2.1 ≤ B) ∧ (0 ≤ (ps.foldl (stepP most xs) q).2.2 ∧ (ps.foldl (stepP most xs) q).2.2 ≤ B) ∧ (ps.foldl (stepP most xs) q).1.length ≤ q.1.length + ps.length := by
    intro ps
    induction ps with
    | nil => intro q _ h1 h2; exact ⟨h1, h2, Nat.le_refl _⟩
    | cons p ps ih =>
      intro q hp h1 h2
      have hp0 := hp p (List.mem_cons_self)
      rw [List.foldl_cons]
      by_cases hc : q.2.1 < q.2.2 ∧ most < p - q.2.1
      · have e : stepP most xs q p = (q.1 ++ [(xs.take q.2.2.toNat).drop q.2.1.toNat], q.2.2, p) := by unfold stepP; rw [if_pos hc]
        have := ih (stepP most xs q p) (fun x hx => hp x (List.mem_cons_of_mem _ hx)) (by rw [e]; exact h2) (by rw [e]; exact hp0)
        refine ⟨this.1, this.2.1, Nat.le_trans this.2.2 ?_⟩
        rw [e]; simp; omega
      · have e : stepP most xs q p = (q.1, q.2.1, p) := by unfold stepP; rw [if_neg hc]
        have := ih (stepP most xs q p) (fun x hx => hp x (List.mem_cons_of_mem _ hx)) (by rw [e]; exact h1) (by rw [e]; exact hp0)
        refine ⟨this.1, this.2.1, Nat.le_trans this.2.2 ?_⟩
        rw [e]; simp
  intro ps hp
  have := key ps ([], 0, 0) hp (by simp) (by simp)
  simpa [runP] using this
/-! ### 'pieces = append(pieces, bytes.Clone(s[from:to]))': a region that draws its order -/
def pushStates : List (Array Bool) := [
  #[false, false, false, false, false, false, false, false, false], #[false, false, false, true, false, false, false, false, false],
  #[false, false, true, false, false, false, false, false, false], #[false, false, true, true, false, false, false, false, false],
  #[false, true, false, false, false, false, false, false, false], #[false, true, false, true, false, false, false, false, false],
  #[false, true, true, false, false, false, false, false, false], #[false, true, true, true, false, false, false, false, false],
  #[true, false, false, false, false, false, false, false, false], #[true, false, false, true, false, false, false, false, false],
  #[true, false, true, false, false, false, false, false, false], #[true, false, true, true, false, false, false, false, false],
  #[true, true, false, false, false, false, false, false, false], #[true, true, false, true, false, false, false, false, false],
  #[true, true, true, false, false, false, false, false, false], #[true, true, true, true, false, false, false, false, false],
  #[false, true, true, true, true, false, false, false, false], #[true, true, true, true, true, false, false, false, false],
  #[false, true, true, true, true, true, false, false, false], #[true, true, true, true, true, true, false, false, false],
  #[false, true, true, true, true, true, true, false, false], #[true, true, true, true, true, true, true, false, false],
  #[true, true, true, true, true, true, true, true, false], #[true, true, true, true, true, true, true, true, true]]
def bitOf (L : Array Bool) (i : Nat) : Bool := L.getD i false
def rankOf (L : Array Bool) : Nat := L.toList.countP (fun b => !b)
theorem push_bits : ∀ L ∈ pushStates, ∀ i : Fin 9, ∀ j : Fin 9, bitOf (L.setIfInBounds i.val true) j.val = (decide (i = j) || bitOf L j.val) := by decide +kernel
theorem push_self {L : Array Bool} (hL : L ∈ pushStates) (i : Nat) (hi : i < 9) : bitOf (L.setIfInBounds i true) i = true := by
  have := push_bits L hL ⟨i, hi⟩ ⟨i, hi⟩; simpa using this
theorem push_other {L : Array Bool} (hL : L ∈ pushStates) (i j : Nat) (hi : i < 9) (hj : j < 9) (hij : i ≠ j) : bitOf (L.setIfInBounds i true) j = bitOf L j := by
  have := push_bits L hL ⟨i, hi⟩ ⟨j, hj⟩; simpa [hij] using this
/-- What stands ahead of each operation, and behind it. -/
def preOf (L : Array Bool) (i : Nat) : Bool :=
  let b := bitOf L
  (if i = 0 then !b 7 && !b 8 else if i = 1 ∨ i = 2 ∨ i = 3 then !b 5 && !b 6 && !b 7 && !b 8 else if i = 4 then b 1 && b 2 && b 3 && !b 5 && !b 6 && !b 7 && !b 8 else if i = 5 then b 4 && !b 6 && !b 7 && !b 8
   else if i = 6 then b 5 && !b 7 && !b 8 else if i = 7 then b 0 && b 6 && b 5 && !b 8 else b 7 && b 6 && b 5) && !b i
/-- Nothing that lay in W has turned. -/
def Still (w W W' : World) : Prop := Turns (fun _ => False) W W' ∧ KeepsOthers W W' ∧ Below w.heap.size w W'
theorem Still.boxed {w W W' : World} (h : Still w W W') {B : Nat} {t : TypeId} {v : Value} (hv : Boxed W B t v) : Boxed W' B t v := h.1.boxed hv (fun h => h)
theorem Still.below {w W A B : World} (h : Still w W A) (k : Below A.heap.size A B) : Still w W B := ⟨h.1.below k, h.2.1.trans ⟨k.size, fun i o hi _ => (k.block i (Array.getElem?_eq_some_iff.1 hi).1).trans hi⟩, h.2.2.trans (k.mono h.2.2.size)⟩
/-- The piece has come: a row more, and nothing else but the pieces' own row and box has turned. -/
def Pushed (w W : World) (n1 : Nat) (bs : Nat → Prop) (v7 : Value) (vs : List Value) (ps : List (List Int)) (ys : List Int) (W' : World) : Prop :=
  ∃ vs', W'.ownsRow n1 22 1 v7 (ps.length + 1) vs' ∧ Pcs 0 5 W' vs' (ps ++ [ys]) ∧ KeepsOthers W W' ∧ Below w.heap.size w W' ∧ Turns bs W W'
def PushC (w W : World) (n1 Bp : Nat) (v : Value) (vs : List Value) (ps : List (List Int)) (sv pv : Value) (f t : Int) (m : Nat) (ys : List Int) (L : Array Bool) (W' : World) (x0 x1 x2 x3 x4 x5 x6 x7 : Value) : Prop :=
  (bitOf L 0 = true → x0 = v) ∧ (bitOf L 1 = true → x1 = sv) ∧ (bitOf L 2 = true → x2 = .int .i64 f) ∧ (bitOf L 3 = true → x3 = .int .i64 t) ∧ (bitOf L 4 = true → x4 = pv) ∧
  (bitOf L 7 = false → Still w W W') ∧
  (bitOf L 5 = true → bitOf L 6 = false → ∃ a5 c5, x5 = .slice a5 m c5 ∧ Own .u8 5 W.heap.size W' (.slice a5 m c5) ys) ∧
  (bitOf L 6 = true → bitOf L 7 = false → ∃ a5 c5 W5, Still w W W5 ∧ x6 = .slice (some ⟨W5.heap.size, 0, none⟩) 1 1 ∧ Own .u8 5 W.heap.size W5 (.slice a5 m c5) ys ∧ W' = W5.alloc (.cells #[.slice a5 m c5] 22)) ∧
  (bitOf L 7 = true → bitOf L 8 = false → ∃ g c, x7 = .slice (some ⟨g, 0, none⟩) (ps.length + 1) c ∧ Pushed w W n1 (fun k => v.ownBlock = some k) x7 vs ps ys W') ∧
  (bitOf L 8 = true → ∃ v7, Boxed W' Bp 28 v7 ∧ Pushed w W n1 (fun k => k = Bp ∨ v.ownBlock = some k) v7 vs ps ys W')
section
variable {w W : World} {n1 Bp : Nat} {v : Value} {vs : List Value} {ps : List (List Int)} {sv pv : Value} {f t : Int} {m : Nat} {ys : List Int} {L : Array Bool} {W' : World} {x0 x1 x2 x3 x4 x5 x6 x7 : Value}
theorem pushC_start (h : Below w.heap.size w W) : PushC w W n1 Bp v vs ps sv pv f t m ys (Array.replicate 9 false) W.drew undef undef undef undef undef undef undef undef := by
  have hs : Still w W W.drew := ⟨⟨Nat.le_refl _, fun _ _ _ => rfl⟩, KeepsOthers.drew W, below_drew h⟩
  refine ⟨?_, ?_, ?_, ?_, ?_, fun _ => hs, ?_, ?_, ?_, ?_⟩ <;> (intro h; exact absurd h (by decide))
theorem pushC_0 (hL : L ∈ pushStates) (hp : preOf L 0 = true) (h : PushC w W n1 Bp v vs ps sv pv f t m ys L W' x0 x1 x2 x3 x4 x5 x6 x7) : PushC w W n1 Bp v vs ps sv pv f t m ys (L.setIfInBounds 0 true) W' v x1 x2 x3 x4 x5 x6 x7 := by
  obtain ⟨h0, h1, h2, h3, h4, h5, h6, h7, h8, h9⟩ := h
  unfold PushC
  simp (discharger := decide) only [push_self hL, push_other hL]
  exact ⟨fun _ => trivial, h1, h2, h3, h4, h5, h6, h7, h8, h9⟩
theorem pushC_1 (hL : L ∈ pushStates) (hp : preOf L 1 = true) (h : PushC w W n1 Bp v vs ps sv pv f t m ys L W' x0 x1 x2 x3 x4 x5 x6 x7) : PushC w W n1 Bp v vs ps sv pv f t m ys (L.setIfInBounds 1 true) W' x0 sv x2 x3 x4 x5 x6 x7 := by
  obtain ⟨h0, h1, h2, h3, h4, h5, h6, h7, h8, h9⟩ := h
  unfold PushC
  simp (discharger := decide) only [push_self hL, push_other hL]
  exact ⟨h0, fun _ => trivial, h2, h3, h4, h5, h6, h7, h8, h9⟩
theorem pushC_2 (hL : L ∈ pushStates) (hp : preOf L 2 = true) (h : PushC w W n1 Bp v vs ps sv pv f t m ys L W' x0 x1 x2 x3 x4 x5 x6 x7) : PushC w W n1 Bp v vs ps sv pv f t m ys (L.setIfInBounds 2 true) W' x0 x1 (.int .i64 f) x3 x4 x5 x6 x7 := by
  obtain ⟨h0, h1, h2, h3, h4, h5, h6, h7, h8, h9⟩ := h
  unfold PushC
  simp (discharger := decide) only [push_self hL, push_other hL]
  exact ⟨h0, h1, fun _ => trivial, h3, h4, h5, h6, h7, h8, h9⟩
theorem pushC_3 (hL : L ∈ pushStates) (hp : preOf L 3 = true) (h : PushC w W n1 Bp v vs ps sv pv f t m ys L W' x0 x1 x2 x3 x4 x5 x6 x7) : PushC w W n1 Bp v vs ps sv pv f t m ys (L.setIfInBounds 3 true) W' x0 x1 x2 (.int .i64 t) x4 x5 x6 x7 := by
  obtain ⟨h0, h1, h2, h3, h4, h5, h6, h7, h8, h9⟩ := h
  unfold PushC
  simp (discharger := decide) only [push_self hL, push_other hL]
  exact ⟨h0, h1, h2, fun _ => trivial, h4, h5, h6, h7, h8, h9⟩
theorem pushC_4 (hL : L ∈ pushStates) (hp : preOf L 4 = true) (h : PushC w W n1 Bp v vs ps sv pv f t m ys L W' x0 x1 x2 x3 x4 x5 x6 x7) : PushC w W n1 Bp v vs ps sv pv f t m ys (L.setIfInBounds 4 true) W' x0 x1 x2 x3 pv x5 x6 x7 := by
  obtain ⟨h0, h1, h2, h3, h4, h5, h6, h7, h8, h9⟩ := h
  unfold PushC
  simp (discharger := decide) only [push_self hL, push_other hL]
  exact ⟨h0, h1, h2, h3, fun _ => trivial, h5, h6, h7, h8, h9⟩
theorem pushC_5 (hL : L ∈ pushStates) (hp : preOf L 5 = true) (h : PushC w W n1 Bp v vs ps sv pv f t m ys L W' x0 x1 x2 x3 x4 x5 x6 x7) {a5 : Option Addr} {c5 : Nat} {W5 : World} (ho : Own .u8 5 W'.heap.size W5 (.slice a5 m c5) ys) (hb : Below W'.heap.size W' W5) :
    PushC w W n1 Bp v vs ps sv pv f t m ys (L.setIfInBounds 5 true) W5 x0 x1 x2 x3 x4 (.slice a5 m c5) x6 x7 := by
  obtain ⟨h0, h1, h2, h3, h4, h5, h6, h7, h8, h9⟩ := h
  simp [preOf] at hp
  have hS := h5 hp.1.1.2
  unfold PushC
  simp (discharger := decide) only [push_self hL, push_other hL]
  refine ⟨h0, h1, h2, h3, h4, fun _ => hS.below hb, fun _ _ => ⟨a5, c5, rfl, ho.mono hS.1.size⟩, fun h => ?_, fun h => ?_, fun h => ?_⟩
  · rw [hp.1.1.1.2] at h; cases h
  · rw [hp.1.1.2] at h; cases h
  · rw [hp.1.2] at h; cases h
theorem pushC_6 (hL : L ∈ pushStates) (hp : preOf L 6 = true) (h : PushC w W n1 Bp v vs ps sv pv f t m ys L W' x0 x1 x2 x3 x4 x5 x6 x7) :
    PushC w W n1 Bp v vs ps sv pv f t m ys (L.setIfInBounds 6 true) (W'.alloc (.cells #[x5] 22)) x0 x1 x2 x3 x4 x5 (.slice (some ⟨W'.heap.size, 0, none⟩) 1 1) x7 := by
  obtain ⟨h0, h1, h2, h3, h4, h5, h6, h7, h8, h9⟩ := h
  simp [preOf] at hp
  have hS := h5 hp.1.1.2
  obtain ⟨a5, c5, rfl, ho⟩ := h6 hp.1.1.1 hp.2
  unfold PushC
  simp (discharger := decide) only [push_self hL, push_other hL]
  refine ⟨h0, h1, h2, h3, h4, fun _ => hS.below ((Below.refl _ _).alloc (Nat.le_refl _) _), fun _ h => (by cases h), fun _ _ => ⟨a5, c5, W', hS, rfl, ho, rfl⟩, fun h => ?_, fun h => ?_⟩
  · rw [hp.1.1.2] at h; cases h
  · rw [hp.1.2] at h; cases h
theorem pushC_7 (hL : L ∈ pushStates) (hp : preOf L 7 = true) (h : PushC w W n1 Bp v vs ps sv pv f t m ys L W' x0 x1 x2 x3 x4 x5 x6 x7) (hrow : W.ownsRow n1 22 1 v ps.length vs) (hpc : Pcs 0 5 W vs ps) (hn1 : n1 ≤ W.heap.size) (hwn : w.heap.size ≤ n1) :
    ∃ (a5 : Option Addr) (c5 : Nat) (W5 : World), x0 = v ∧ x6 = .slice (some ⟨W5.heap.size, 0, none⟩) 1 1 ∧ W' = W5.alloc (.cells #[.slice a5 m c5] 22) ∧ W'.ownsRow n1 22 1 v ps.length vs ∧ n1 ≤ W'.heap.size ∧
      ∀ g c w'', w''.ownsRow n1 22 1 (.slice (some ⟨g, 0, none⟩) (ps.length + 1) c) (ps.length + 1) (vs ++ [.slice a5 m c5]) → W'.grownBy w'' v.ownBlock →
        PushC w W n1 Bp v vs ps sv pv f t m ys (L.setIfInBounds 7 true) w'' x0 x1 x2 x3 x4 x5 x6 (.slice (some ⟨g, 0, none⟩) (ps.length + 1) c) := by
  obtain ⟨h0, h1, h2, h3, h4, h5, h6, h7, h8, h9⟩ := h
  simp [preOf] at hp
  have hS := h5 hp.2
  obtain ⟨a5, c5, W5, hS5, hx6, ho, hW'⟩ := h7 hp.1.1.1.2 hp.2
  have hr' : W'.ownsRow n1 22 1 v ps.length vs := hS.1.row hrow (fun _ _ h => h)
  refine ⟨a5, c5, W5, h0 hp.1.1.1.1, hx6, hW', hr', Nat.le_trans hn1 hS.1.size, fun g c w'' hown hgrow => ?_⟩
  have hT : Turns (fun k => v.ownBlock = some k) W w'' := (Turns.mk hS.1.size (fun k hk _ => hS.1.block k hk (fun h => h))).grown hgrow (fun j hj _ => hj)
  have hT5 : Turns (fun k => v.ownBlock = some k) W5 w'' := by
    have : Turns (fun k => v.ownBlock = some k) W5 W' := by rw [hW']; exact (Turns.refl _ _).below ((Below.refl _ _).alloc (Nat.le_refl _) _)
    exact this.grown hgrow (fun j hj _ => hj)
  have hr5 : W5.ownsRow n1 22 1 v ps.length vs := hS5.1.row hrow (fun _ _ h => h)
  unfold PushC
  simp (discharger := decide) only [push_self hL, push_other hL]
  refine ⟨h0, h1, h2, h3, h4, fun h => (by cases h), fun _ h => (by rw [hp.1.1.1.2] at h; cases h), fun _ h => (by cases h), fun _ _ => ⟨g, c, rfl, vs ++ [.slice a5 m c5], hown, ?_, ?_, ?_, hT⟩, fun h => ?_⟩
  · refine (hpc.turns hT (fun _ _ => Nat.zero_le _) fun k C fz hk hc => ?_).snoc ((Piece.own ho).turns hT5 (fun _ _ => Nat.zero_le _) fun k C fz hk hc => ?_)
    · obtain ⟨cur, hcur⟩ := row_cells hrow hk
      rw [hc] at hcur; injection hcur with hcur; injection hcur with _ he; exact absurd he (by decide)
    · obtain ⟨cur, hcur⟩ := row_cells hr5 hk
      rw [hc] at hcur; injection hcur with hcur; injection hcur with _ he; exact absurd he (by decide)
  · refine hS.2.1.trans (KeepsOthers.of_grownBy hgrow fun j o ej hj => ?_)
    obtain ⟨cur, hcur⟩ := row_cells hr' ej
    rw [hj] at hcur; cases hcur; rfl
  · exact hS.2.2.grown hgrow hS.2.2.size (fun k hk => Nat.le_trans hwn (hr'.lt k hk).1)
  · rw [hp.1.2] at h; cases h
theorem pushC_8 (hL : L ∈ pushStates) (hp : preOf L 8 = true) (h : PushC w W n1 Bp v vs ps sv pv f t m ys L W' x0 x1 x2 x3 x4 x5 x6 x7) (hv3 : Boxed W Bp 28 v) (hrow : W.ownsRow n1 22 1 v ps.length vs) (hB : Bp < n1) (hwB : w.heap.size ≤ Bp) :
    ∃ g c, x7 = .slice (some ⟨g, 0, none⟩) (ps.length + 1) c ∧ Boxed W' Bp 28 v ∧ PushC w W n1 Bp v vs ps sv pv f t m ys (L.setIfInBounds 8 true) (W'.setCell ⟨Bp, 0, none⟩ x7) x0 x1 x2 x3 x4 x5 x6 x7 := by
  obtain ⟨h0, h1, h2, h3, h4, h5, h6, h7, h8, h9⟩ := h
  simp [preOf] at hp
  obtain ⟨g, c, hx7, vs', r1, r2, r3, r4, r5⟩ := h8 hp.1.1.1 hp.2
  have hv3' : Boxed W' Bp 28 v := r5.boxed hv3 (fun h => by have := (hrow.lt _ h).1; omega)
  refine ⟨g, c, hx7, hv3', ?_⟩
  unfold PushC
  simp (discharger := decide) only [push_self hL, push_other hL]
  refine ⟨h0, h1, h2, h3, h4, fun h => ?_, fun _ h => ?_, fun _ h => ?_, fun _ h => (by cases h), fun _ => ⟨x7, hv3'.set x7, vs', row_set (u' := x7) hv3' (by decide) r1, ?_, r3.trans (KeepsOthers.setCell _ _ _), r4.setCell (p := ⟨Bp, 0, none⟩) hwB _, ?_⟩⟩
  · rw [hp.1.1.1] at h; cases h
  · rw [hp.1.1.2] at h; cases h
  · rw [hp.1.1.1] at h; cases h
  · refine r2.turns (bs := fun k => k = Bp) ((Turns.refl _ _).set Bp 0 x7 rfl) (fun _ _ => Nat.zero_le _) fun k C fz hk hc => ?_
    subst hk
    rw [show W'.heap[k]? = _ from hv3'] at hc
    injection hc with hc; injection hc with _ he; exact absurd he (by decide)
  · exact (Turns.mk r5.size (fun k hk hb => r5.block k hk (fun h => hb (.inr h)))).set Bp 0 x7 (.inl rfl)
end
theorem five_boxes (w : World) (t t2 t3 t4 t5 : TypeId) (v v2 v3 v4 v5 : Value) :
    let w' := ((((w.alloc (.cells #[v] t)).alloc (.cells #[v2] t2)).alloc (.cells #[v3] t3)).alloc (.cells #[v4] t4)).alloc (.cells #[v5] t5)
    Boxed w' w.heap.size t v ∧ Boxed w' (w.heap.size + 1) t2 v2 ∧ Boxed w' (w.heap.size + 1 + 1) t3 v3 ∧ Boxed w' (w.heap.size + 1 + 1 + 1) t4 v4 ∧ Boxed w' (w.heap.size + 1 + 1 + 1 + 1) t5 v5 ∧ Below w.heap.size w w' := by
  obtain ⟨b1, b2, b3, hB⟩ := three_boxes w t t2 t3 v v2 v3
  obtain ⟨b4, b5, hB2⟩ := two_boxes (((w.alloc (.cells #[v] t)).alloc (.cells #[v2] t2)).alloc (.cells #[v3] t3)) t4 t5 v4 v5
  simp only [World.size_alloc] at b4 b5
  exact ⟨(b1.alloc _).alloc _, (b2.alloc _).alloc _, (b3.alloc _).alloc _, b4, b5, hB.trans (hB2.mono hB.size)⟩

end Go.Proofs.Ytpdlnbomjknhiaa
