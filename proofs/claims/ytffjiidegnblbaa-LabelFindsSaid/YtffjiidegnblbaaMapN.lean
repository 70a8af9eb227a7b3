/-
  A map from strings to numbers that a call makes, filled pair by pair; what is looked up in it. Speaks of no program.
-/
import Derived.Test.YtffjiidegnblbaaBase
import Derived.Test.YtffjiidegnblbaaD11
import Derived.Maps.OwnSet
namespace Go.Proofs.Ytffjiidegnblbaa
open Go.RowKit Go.Maps
set_option linter.unusedVariables false

/-- A string as a key. -/
def keyS (b : ByteArray) : Lit := .string b.data.toList
theorem keyS_inj {a b : ByteArray} (h : keyS a = keyS b) : a = b := by
  unfold keyS at h
  exact ByteArray.ext (Array.toList_inj.1 (Lit.string.inj h))
/-- The map that some pairs make; what is found in it (0: nothing). -/
def putsM (l : List (ByteArray × Int)) (D : DataW Unit) : DataW Unit := l.foldl (fun d p => d.put (keyS p.1) (.lit (.int .i64 p.2))) D
def mapN (l : List (ByteArray × Int)) : DataW Unit := putsM l (.map [])
def inN (l : List (ByteArray × Int)) (b : ByteArray) : Bool := l.any (fun p => decide (p.1 = b))
def atN (l : List (ByteArray × Int)) (b : ByteArray) : Int := l.foldl (fun c p => if p.1 = b then p.2 else c) 0

theorem mapN_step {l : List (ByteArray × Int)} {n : Nat} {s : ByteArray} {q : Int} (h : l[n]? = some (s, q)) : mapN (l.take (n + 1)) = (mapN (l.take n)).put (keyS s) (.lit (.int .i64 q)) := by
  have hn : n < l.length := (List.getElem?_eq_some_iff.1 h).1
  rw [List.take_succ_eq_append_getElem hn]
  rw [List.getElem?_eq_getElem hn] at h
  unfold mapN putsM
  rw [List.foldl_append, Option.some.inj h]
  rfl
theorem putsM_at (b : ByteArray) : ∀ (l : List (ByteArray × Int)) (D : DataW Unit) (c : Int), IsMap D → D.atKey (keyS b) (.lit (.int .i64 0)) = .lit (.int .i64 c) →
    (putsM l D).atKey (keyS b) (.lit (.int .i64 0)) = .lit (.int .i64 (l.foldl (fun c p => if p.1 = b then p.2 else c) c))
  | [], D, c, _, h => h
  | p :: l, D, c, hD, h => by
    refine putsM_at b l _ _ (hD.put _ _) ?_
    show (D.put (keyS p.1) (.lit (.int .i64 p.2))).atKey (keyS b) (.lit (.int .i64 0)) = .lit (.int .i64 (if p.1 = b then p.2 else c))
    by_cases hp : p.1 = b
    · rw [if_pos hp, hp]
      exact atKey_put_same hD (by unfold keyS; exact trivial) _ _
    · rw [if_neg hp]
      exact (atKey_put_other (fun e => hp (keyS_inj e).symm) _ _).trans h
theorem putsM_has (b : ByteArray) : ∀ (l : List (ByteArray × Int)) (D : DataW Unit) (f : Bool), IsMap D → Maps.has D (keyS b) = f →
    Maps.has (putsM l D) (keyS b) = (f || l.any (fun p => decide (p.1 = b)))
  | [], D, f, _, h => by rw [List.any_nil, Bool.or_false]; exact h
  | p :: l, D, f, hD, h => by
    rw [List.any_cons, ← Bool.or_assoc]
    refine putsM_has b l _ _ (hD.put _ _) ?_
    show Maps.has (D.put (keyS p.1) (.lit (.int .i64 p.2))) (keyS b) = (f || decide (p.1 = b))
    by_cases hp : p.1 = b
    · rw [decide_eq_true hp, Bool.or_true, hp]
      exact has_put_same hD (by unfold keyS; exact trivial) _
    · rw [decide_eq_false hp, Bool.or_false]
      exact (has_put_other (fun e => hp (keyS_inj e).symm) _).trans h
theorem mapN_at (l : List (ByteArray × Int)) (b : ByteArray) : (mapN l).atKey (keyS b) (.lit (.int .i64 0)) = .lit (.int .i64 (atN l b)) := putsM_at b l _ 0 isMap_empty rfl
theorem mapN_has (l : List (ByteArray × Int)) (b : ByteArray) : Maps.has (mapN l) (keyS b) = inN l b := by
  have := putsM_has b l (.map []) false isMap_empty rfl
  rwa [Bool.false_or] at this
theorem atN_none {l : List (ByteArray × Int)} {b : ByteArray} (h : inN l b = false) : atN l b = 0 := by
  unfold inN at h
  unfold atN
  have key : ∀ (l : List (ByteArray × Int)) (c : Int), l.any (fun p => decide (p.1 = b)) = false → l.foldl (fun c p => if p.1 = b then p.2 else c) c = c := by
    intro l
    induction l with
    | nil => intro c _; rfl
    | cons p l ih =>
      intro c hl
      rw [List.any_cons, Bool.or_eq_false_iff] at hl
      rw [List.foldl_cons, if_neg (of_decide_eq_false hl.1)]
      exact ih c hl.2
  exact key l 0 h

/-- The call's own map stands beside what is made later. -/
theorem ownsMap_below {P : Program} {k : TypeId} {R : Value → Option (DataW Unit × List MemPlace)} {b n : Nat} {D : DataW Unit} {w w' : World} (h : w.ownsMap P k R b n D) (hb : Below w.heap.size w w') : w'.ownsMap P k R b n D :=
  h.kept (row := none) ⟨hb.os, hb.tape, hb.output, hb.size, fun j hj _ => hb.block j hj⟩ (by simp)
theorem below_map {B b : Nat} {w0 w w' : World} (hb : Below B w0 w) (hg : w.grownBy w' (some b)) (hB : B ≤ b) (hs : B ≤ w.heap.size) : Below B w0 w' :=
  hb.grown hg hs (fun j hj => by cases hj; exact hB)
theorem Txts.grown {w w' : World} {a : Option Addr} {ss : List ByteArray} {b : Nat} (h : Txts w a ss) (hg : w.grownBy w' (some b)) (hn : ∀ p, a = some p → b < p.block) : Txts w' a ss := by
  intro i s hs
  obtain ⟨c, off, ha, hl, hc⟩ := h i s hs
  have := hn _ ha
  exact ⟨c, off, ha, Nat.lt_of_lt_of_le hl hg.size, hg.cell hc (by simp at this ⊢; omega)⟩

/-! ### the names of charsets, of transfer encodings -/
def csAll : List (ByteArray × Int) := (nm11 1).map (·, 1) ++ (nm11 2).map (·, 2) ++ (nm11 3).map (·, 3) ++ (nm11 4).map (·, 4) ++ (nm11 5).map (·, 5)
def cdAll : List (ByteArray × Int) := [(cd11 1, 1), (cd11 2, 2), (cd11 3, 3)]
def offN : Nat → Nat | 0 => 0 | 1 => 4 | 2 => 8 | 3 => 11 | 4 => 13 | _ => 15
theorem csAll_all : ∀ k : Fin 5, ∀ j : Fin 4, (nm11 (k.val + 1))[j.val]? = none ∨ csAll[offN k.val + j.val]? = (nm11 (k.val + 1))[j.val]?.map (fun s => (s, (k.val : Int) + 1)) := by decide +kernel
theorem csAll_at {k j : Nat} {s : ByteArray} (hk : k < 5) (hs : (nm11 ((k : Int) + 1))[j]? = some s) : csAll[offN k + j]? = some (s, (k : Int) + 1) := by
  have hj : j < 4 := Nat.lt_of_lt_of_le (List.getElem?_eq_some_iff.1 hs).1 (nm_len _)
  rcases csAll_all ⟨k, hk⟩ ⟨j, hj⟩ with h | h
  · have h' : (nm11 ((k : Int) + 1))[j]? = none := h
    rw [h'] at hs
    cases hs
  · have h' : csAll[offN k + j]? = (nm11 ((k : Int) + 1))[j]?.map (fun s => (s, (k : Int) + 1)) := h
    rw [h', hs]
    rfl
theorem off_next : ∀ k : Fin 5, offN k.val + (nm11 (k.val + 1)).length = offN (k.val + 1) := by decide +kernel
theorem off_le (k : Nat) : offN k ≤ 15 := by
  unfold offN
  split <;> omega
theorem nm_in (n : Int) : decide (1 ≤ n ∧ n ≤ 5) = !(nm11 n).isEmpty := by
  by_cases h1 : n = 1
  · subst h1; rfl
  by_cases h2 : n = 2
  · subst h2; rfl
  by_cases h3 : n = 3
  · subst h3; rfl
  by_cases h4 : n = 4
  · subst h4; rfl
  by_cases h5 : n = 5
  · subst h5; rfl
  rw [nm11, if_neg h1, if_neg h2, if_neg h3, if_neg h4, if_neg h5, decide_eq_false (by omega)]
  rfl
theorem cdAll_at : ∀ k : Fin 3, cdAll[k.val]? = some (cd11 (k.val + 1), (k.val : Int) + 1) := by decide +kernel
theorem nm_size {n : Int} {j : Nat} {s : ByteArray} (hs : (nm11 n)[j]? = some s) : s.size ≤ maxLen := by
  have hm := List.mem_of_getElem? hs
  have key : ∀ p ∈ nm11 1 ++ nm11 2 ++ nm11 3 ++ nm11 4 ++ nm11 5, p.size ≤ 14 := by decide +kernel
  have : s ∈ nm11 1 ++ nm11 2 ++ nm11 3 ++ nm11 4 ++ nm11 5 := by
    simp only [List.mem_append]
    by_cases h1 : n = 1
    · subst h1; exact .inl (.inl (.inl (.inl hm)))
    by_cases h2 : n = 2
    · subst h2; exact .inl (.inl (.inl (.inr hm)))
    by_cases h3 : n = 3
    · subst h3; exact .inl (.inl (.inr hm))
    by_cases h4 : n = 4
    · subst h4; exact .inl (.inr hm)
    by_cases h5 : n = 5
    · subst h5; exact .inr hm
    rw [nm11, if_neg h1, if_neg h2, if_neg h3, if_neg h4, if_neg h5] at hm
    cases hm
  exact Nat.le_trans (key s this) (by decide)
theorem cd_size (n : Int) : (cd11 n).size ≤ maxLen := by
  unfold cd11
  (repeat' split) <;> decide
theorem cs_found (b : ByteArray) : atN csAll b = csN b ∧ inN csAll b = !decide (csN b = 0) := by
  by_cases h : inN csAll b = true
  · have hall : ∀ p ∈ csAll, atN csAll p.1 = csN p.1 ∧ inN csAll p.1 = !decide (csN p.1 = 0) := by decide +kernel
    unfold inN at h
    rw [List.any_eq_true] at h
    obtain ⟨p, hp, hpb⟩ := h
    have := hall p hp
    rwa [of_decide_eq_true hpb] at this
  · have h' : inN csAll b = false := by simpa using h
    have hz : csN b = 0 := by
      refine (cs_no fun j hj => ?_).1
      unfold hasN
      rw [List.any_eq_false]
      intro s hs
      obtain ⟨i, hi⟩ := List.mem_iff_getElem?.1 hs
      have hm := List.mem_of_getElem? (csAll_at hj hi)
      unfold inN at h'
      exact List.any_eq_false.1 h' _ hm
    rw [atN_none h', hz, h']
    exact ⟨rfl, rfl⟩
theorem cd_found (b : ByteArray) : atN cdAll b = cdN b ∧ inN cdAll b = !decide (cdN b = 0) := by
  by_cases h : inN cdAll b = true
  · have hall : ∀ p ∈ cdAll, atN cdAll p.1 = cdN p.1 ∧ inN cdAll p.1 = !decide (cdN p.1 = 0) := by decide +kernel
    unfold inN at h
    rw [List.any_eq_true] at h
    obtain ⟨p, hp, hpb⟩ := h
    have := hall p hp
    rwa [of_decide_eq_true hpb] at this
  · have h' : inN cdAll b = false := by simpa using h
    have hz : cdN b = 0 := by
      refine (cd_no fun j hj hb => ?_).1
      have hm := List.mem_of_getElem? (cdAll_at ⟨j, hj⟩)
      unfold inN at h'
      have := List.any_eq_false.1 h' _ hm
      exact this (decide_eq_true hb.symm)
    rw [atN_none h', hz, h']
    exact ⟨rfl, rfl⟩
end Go.Proofs.Ytffjiidegnblbaa
