/-
  Texts of ours laid together: C29a, MapN, C11, C03, C08.
-/
import Derived.Test.YtdglnpkkfkagaaaGreatRows
import Derived.Maps.OwnSet
import Derived.Test.YtdglnpkkfkagaaaGreatZ16

/-! C29a -/
namespace Go.Proofs.YtdglnpkkfkagaaaGreat
open Go.RowKit
set_option linter.unusedVariables false

theorem ewform_isCode (n : Int) (w : World) :
    Calls Tryz.prog 82 #[.int .i64 n] w fun e w' => e = .returned (.bool (decide (1 ≤ n ∧ n ≤ 2))) ∧ w = w' := by
  by_cases h0 : 1 ≤ n
  · by_cases h1 : n ≤ 2
    · rw [decide_eq_true ⟨h0, h1⟩]
      go_enter Tryz.func82, Tryz.ntmps82
      go_wp2_with fail
      go_ret
      exact ⟨ret_bool (by simp [*]), rfl⟩
    · rw [decide_eq_false (show ¬ (1 ≤ n ∧ n ≤ 2) from fun h => h1 h.2)]
      go_enter Tryz.func82, Tryz.ntmps82
      go_wp2_with fail
      go_ret
      exact ⟨ret_bool (by simp [*]), rfl⟩
  · rw [decide_eq_false (show ¬ (1 ≤ n ∧ n ≤ 2) from fun h => h0 h.1)]
    go_enter Tryz.func82, Tryz.ntmps82
    go_wp2_with fail
    go_ret
    exact ⟨ret_bool (by simp [*]), rfl⟩
end Go.Proofs.YtdglnpkkfkagaaaGreat

/-! MapN -/
namespace Go.Proofs.YtdglnpkkfkagaaaGreat
open Go.RowKit Go.Maps
set_option linter.unusedVariables false

/-- A string as a key. -/
def keyS (b : ByteArray) : Lit := .string b.data.toList
theorem keyS_inj {a b : ByteArray} (h : keyS a = keyS b) : a = b := by
  unfold keyS at h
  exact ByteArray.ext (Array.toList_inj.1 (Lit.string.inj h))
/-- The map that some pairs make; what is found in it (0: nothing). -/
def putsM (l : List (ByteArray × Int)) (D : DataW Unit) : DataW Unit := l.foldl (fun d p => d.put (keyS p.1) (.lit (.int .i64 p.2))) D
def mapN (l : List (ByteArray × Int)) : DataW Unit := putsM l (.map [])
def inN (l : List (ByteArray × Int)) (b : ByteArray) : Bool := l.any (fun p => decide (p.1 = b))
def atN (l : List (ByteArray × Int)) (b : ByteArray) : Int := l.foldl (fun c p => if p.1 = b then p.2 else c) 0

theorem mapN_step {l : List (ByteArray × Int)} {n : Nat} {s : ByteArray} {q : Int} (h : l[n]? = some (s, q)) : mapN (l.take (n + 1)) = (mapN (l.take n)).put (keyS s) (.lit (.int .i64 q)) := by
  have hn : n < l.length := (List.getElem?_eq_some_iff.1 h).1
  rw [List.take_succ_eq_append_getElem hn]
  rw [List.getElem?_eq_getElem hn] at h
  unfold mapN putsM
  rw [List.foldl_append, Option.some.inj h]
  rfl
theorem putsM_at (b : ByteArray) : ∀ (l : List (ByteArray × Int)) (D : DataW Unit) (c : Int), IsMap D → D.atKey (keyS b) (.lit (.int .i64 0)) = .lit (.int .i64 c) →
    (putsM l D).atKey (keyS b) (.lit (.int .i64 0)) = .lit (.int .i64 (l.foldl (fun c p => if p.1 = b then p.2 else c) c))
  | [], D, c, _, h => h
  | p :: l, D, c, hD, h => by
    refine putsM_at b l _ _ (hD.put _ _) ?_
    show (D.put (keyS p.1) (.lit (.int .i64 p.2))).atKey (keyS b) (.lit (.int .i64 0)) = .lit (.int .i64 (if p.1 = b then p.2 else c))
    by_cases hp : p.1 = b
    · rw [if_pos hp, hp]
      exact atKey_put_same hD (by unfold keyS; exact trivial) _ _
    · rw [if_neg hp]
      exact (atKey_put_other (fun e => hp (keyS_inj e).symm) _ _).trans h
theorem putsM_has (b : ByteArray) : ∀ (l : List (ByteArray × Int)) (D : DataW Unit) (f : Bool), IsMap D → Maps.has D (keyS b) = f →
    Maps.has (putsM l D) (keyS b) = (f || l.any (fun p => decide (p.1 = b)))
  | [], D, f, _, h => by rw [List.any_nil, Bool.or_false]; exact h
  | p :: l, D, f, hD, h => by
    rw [List.any_cons, ← Bool.or_assoc]
    refine putsM_has b l _ _ (hD.put _ _) ?_
    show Maps.has (D.put (keyS p.1) (.lit (.int .i64 p.2))) (keyS b) = (f || decide (p.1 = b))
    by_cases hp : p.1 = b
    · rw [decide_eq_true hp, Bool.or_true, hp]
      exact has_put_same hD (by unfold keyS; exact trivial) _
    · rw [decide_eq_false hp, Bool.or_false]
      exact (has_put_other (fun e => hp (keyS_inj e).symm) _).trans h
theorem mapN_at (l : List (ByteArray × Int)) (b : ByteArray) : (mapN l).atKey (keyS b) (.lit (.int .i64 0)) = .lit (.int .i64 (atN l b)) := putsM_at b l _ 0 isMap_empty rfl
theorem mapN_has (l : List (ByteArray × Int)) (b : ByteArray) : Maps.has (mapN l) (keyS b) = inN l b := by
  have := putsM_has b l (.map []) false isMap_empty rfl
  rwa [Bool.false_or] at this
theorem atN_none {l : List (ByteArray × Int)} {b : ByteArray} (h : inN l b = false) : atN l b = 0 := by
  unfold inN at h
  unfold atN
  have key : ∀ (l : List (ByteArray × Int)) (c : Int), l.any (fun p => decide (p.1 = b)) = false → l.foldl (fun c p => if p.1 = b then p.2 else c) c = c := by
    intro l
    induction l with
    | nil => intro c _; rfl
    | cons p l ih =>
      intro c hl
      rw [List.any_cons, Bool.or_eq_false_iff] at hl
      rw [List.foldl_cons, if_neg (of_decide_eq_false hl.1)]
      exact ih c hl.2
  exact key l 0 h

/-- The call's own map stands beside what is made later. -/
theorem ownsMap_below {P : Program} {k : TypeId} {R : Value → Option (DataW Unit × List MemPlace)} {b n : Nat} {D : DataW Unit} {w w' : World} (h : w.ownsMap P k R b n D) (hb : Below w.heap.size w w') : w'.ownsMap P k R b n D :=
  h.kept (row := none) ⟨hb.os, hb.tape, hb.output, hb.size, fun j hj _ => hb.block j hj⟩ (by simp)
theorem below_map {B b : Nat} {w0 w w' : World} (hb : Below B w0 w) (hg : w.grownBy w' (some b)) (hB : B ≤ b) (hs : B ≤ w.heap.size) : Below B w0 w' :=
  hb.grown hg hs (fun j hj => by cases hj; exact hB)
theorem Txts.grown {w w' : World} {a : Option Addr} {ss : List ByteArray} {b : Nat} (h : Txts w a ss) (hg : w.grownBy w' (some b)) (hn : ∀ p, a = some p → b < p.block) : Txts w' a ss := by
  intro i s hs
  obtain ⟨c, off, ha, hl, hc⟩ := h i s hs
  have := hn _ ha
  exact ⟨c, off, ha, Nat.lt_of_lt_of_le hl hg.size, hg.cell hc (by simp at this ⊢; omega)⟩

/-! ### the names of charsets, of transfer encodings -/
def csAll : List (ByteArray × Int) := (nm11 1).map (·, 1) ++ (nm11 2).map (·, 2) ++ (nm11 3).map (·, 3) ++ (nm11 4).map (·, 4) ++ (nm11 5).map (·, 5)
def cdAll : List (ByteArray × Int) := [(cd11 1, 1), (cd11 2, 2), (cd11 3, 3)]
def offN : Nat → Nat | 0 => 0 | 1 => 4 | 2 => 8 | 3 => 11 | 4 => 13 | _ => 15
theorem csAll_all : ∀ k : Fin 5, ∀ j : Fin 4, (nm11 (k.val + 1))[j.val]? = none ∨ csAll[offN k.val + j.val]? = (nm11 (k.val + 1))[j.val]?.map (fun s => (s, (k.val : Int) + 1)) := by decide +kernel
theorem csAll_at {k j : Nat} {s : ByteArray} (hk : k < 5) (hs : (nm11 ((k : Int) + 1))[j]? = some s) : csAll[offN k + j]? = some (s, (k : Int) + 1) := by
  have hj : j < 4 := Nat.lt_of_lt_of_le (List.getElem?_eq_some_iff.1 hs).1 (nm_len _)
  rcases csAll_all ⟨k, hk⟩ ⟨j, hj⟩ with h | h
  · have h' : (nm11 ((k : Int) + 1))[j]? = none := h
    rw [h'] at hs
    cases hs
  · have h' : csAll[offN k + j]? = (nm11 ((k : Int) + 1))[j]?.map (fun s => (s, (k : Int) + 1)) := h
    rw [h', hs]
    rfl
theorem off_next : ∀ k : Fin 5, offN k.val + (nm11 (k.val + 1)).length = offN (k.val + 1) := by decide +kernel
theorem off_le (k : Nat) : offN k ≤ 15 := by
  unfold offN
  split <;> omega
theorem nm_in (n : Int) : decide (1 ≤ n ∧ n ≤ 5) = !(nm11 n).isEmpty := by
  by_cases h1 : n = 1
  · subst h1; rfl
  by_cases h2 : n = 2
  · subst h2; rfl
  by_cases h3 : n = 3
  · subst h3; rfl
  by_cases h4 : n = 4
  · subst h4; rfl
  by_cases h5 : n = 5
  · subst h5; rfl
  rw [nm11, if_neg h1, if_neg h2, if_neg h3, if_neg h4, if_neg h5, decide_eq_false (by omega)]
  rfl
theorem cdAll_at : ∀ k : Fin 3, cdAll[k.val]? = some (cd11 (k.val + 1), (k.val : Int) + 1) := by decide +kernel
theorem nmk_size {n : Int} {j : Nat} {s : ByteArray} (hs : (nm11 n)[j]? = some s) : s.size ≤ maxLen := by
  have hm := List.mem_of_getElem? hs
  have key : ∀ p ∈ nm11 1 ++ nm11 2 ++ nm11 3 ++ nm11 4 ++ nm11 5, p.size ≤ 14 := by decide +kernel
  have : s ∈ nm11 1 ++ nm11 2 ++ nm11 3 ++ nm11 4 ++ nm11 5 := by
    simp only [List.mem_append]
    by_cases h1 : n = 1
    · subst h1; exact .inl (.inl (.inl (.inl hm)))
    by_cases h2 : n = 2
    · subst h2; exact .inl (.inl (.inl (.inr hm)))
    by_cases h3 : n = 3
    · subst h3; exact .inl (.inl (.inr hm))
    by_cases h4 : n = 4
    · subst h4; exact .inl (.inr hm)
    by_cases h5 : n = 5
    · subst h5; exact .inr hm
    rw [nm11, if_neg h1, if_neg h2, if_neg h3, if_neg h4, if_neg h5] at hm
    cases hm
  exact Nat.le_trans (key s this) (by decide)
theorem cd_size (n : Int) : (cd11 n).size ≤ maxLen := by
  unfold cd11
  (repeat' split) <;> decide
theorem cs_found (b : ByteArray) : atN csAll b = csN b ∧ inN csAll b = !decide (csN b = 0) := by
  by_cases h : inN csAll b = true
  · have hall : ∀ p ∈ csAll, atN csAll p.1 = csN p.1 ∧ inN csAll p.1 = !decide (csN p.1 = 0) := by decide +kernel
    unfold inN at h
    rw [List.any_eq_true] at h
    obtain ⟨p, hp, hpb⟩ := h
    have := hall p hp
    rwa [of_decide_eq_true hpb] at this
  · have h' : inN csAll b = false := by simpa using h
    have hz : csN b = 0 := by
      refine (cs_no fun j hj => ?_).1
      unfold hasN
      rw [List.any_eq_false]
      intro s hs
      obtain ⟨i, hi⟩ := List.mem_iff_getElem?.1 hs
      have hm := List.mem_of_getElem? (csAll_at hj hi)
      unfold inN at h'
      exact List.any_eq_false.1 h' _ hm
    rw [atN_none h', hz, h']
    exact ⟨rfl, rfl⟩
theorem cd_found (b : ByteArray) : atN cdAll b = cdN b ∧ inN cdAll b = !decide (cdN b = 0) := by
  by_cases h : inN cdAll b = true
  · have hall : ∀ p ∈ cdAll, atN cdAll p.1 = cdN p.1 ∧ inN cdAll p.1 = !decide (cdN p.1 = 0) := by decide +kernel
    unfold inN at h
    rw [List.any_eq_true] at h
    obtain ⟨p, hp, hpb⟩ := h
    have := hall p hp
    rwa [of_decide_eq_true hpb] at this
  · have h' : inN cdAll b = false := by simpa using h
    have hz : cdN b = 0 := by
      refine (cd_no fun j hj hb => ?_).1
      have hm := List.mem_of_getElem? (cdAll_at ⟨j, hj⟩)
      unfold inN at h'
      have := List.any_eq_false.1 h' _ hm
      exact this (decide_eq_true hb.symm)
    rw [atN_none h', hz, h']
    exact ⟨rfl, rfl⟩
end Go.Proofs.YtdglnpkkfkagaaaGreat

/-! C11 -/
namespace Go.Proofs.YtdglnpkkfkagaaaGreat
open Go.RowKit Go.Maps Go.WideMaps
set_option linter.unusedVariables false

set_option maxHeartbeats 1000000 in
theorem label_NamesF (n : Int) (w : World) :
    Calls Tryz.prog 119 #[.int .i64 n] w fun e w' => ∃ a, e = .returned (.slice a (nm11 n).length (nm11 n).length) ∧ Txts w' a (nm11 n) ∧ Below w.heap.size w w' ∧ ∀ p, a = some p → w.heap.size ≤ p.block := by
  by_cases h1 : n = 1
  · subst h1
    go_enter Tryz.func119, Tryz.ntmps119
    go_wp2
    go_ret
    exact ⟨_, rfl, Txts.lit w 9 (nm11 1), (Below.refl _ _).alloc (Nat.le_refl _) _, fun p hp => by cases hp; exact Nat.le_refl _⟩
  by_cases h2 : n = 2
  · subst h2
    go_enter Tryz.func119, Tryz.ntmps119
    go_wp2
    go_ret
    exact ⟨_, rfl, Txts.lit w 9 (nm11 2), (Below.refl _ _).alloc (Nat.le_refl _) _, fun p hp => by cases hp; exact Nat.le_refl _⟩
  by_cases h3 : n = 3
  · subst h3
    go_enter Tryz.func119, Tryz.ntmps119
    go_wp2
    go_ret
    exact ⟨_, rfl, Txts.lit w 9 (nm11 3), (Below.refl _ _).alloc (Nat.le_refl _) _, fun p hp => by cases hp; exact Nat.le_refl _⟩
  by_cases h4 : n = 4
  · subst h4
    go_enter Tryz.func119, Tryz.ntmps119
    go_wp2
    go_ret
    exact ⟨_, rfl, Txts.lit w 9 (nm11 4), (Below.refl _ _).alloc (Nat.le_refl _) _, fun p hp => by cases hp; exact Nat.le_refl _⟩
  by_cases h5 : n = 5
  · subst h5
    go_enter Tryz.func119, Tryz.ntmps119
    go_wp2
    go_ret
    exact ⟨_, rfl, Txts.lit w 9 (nm11 5), (Below.refl _ _).alloc (Nat.le_refl _) _, fun p hp => by cases hp; exact Nat.le_refl _⟩
  have e : Hid (nm11 n = []) := by unfold Hid nm11; rw [if_neg h1, if_neg h2, if_neg h3, if_neg h4, if_neg h5]
  have b1 : (n == 1) = false := by simpa using h1
  have b2 : (n == 2) = false := by simpa using h2
  have b3 : (n == 3) = false := by simpa using h3
  have b4 : (n == 4) = false := by simpa using h4
  have b5 : (n == 5) = false := by simpa using h5
  clear h1 h2 h3 h4 h5
  go_enter Tryz.func119, Tryz.ntmps119
  go_wp2
  go_ret
  exact ⟨none, by rw [e.out]; rfl, by rw [e.out]; exact Txts.none _ _, Below.refl _ _, fun p hp => by cases hp⟩
theorem label_Names (n : Int) (w : World) :
    Calls Tryz.prog 119 #[.int .i64 n] w fun e w' => ∃ a, e = .returned (.slice a (nm11 n).length (nm11 n).length) ∧ Txts w' a (nm11 n) ∧ Below w.heap.size w w' :=
  (label_NamesF n w).mono fun _ _ ⟨a, h1, h2, h3, _⟩ => ⟨a, h1, h2, h3⟩
theorem label_IsCharset (n : Int) (w : World) :
    Calls Tryz.prog 73 #[.int .i64 n] w fun e w' => e = .returned (.bool (decide (1 ≤ n ∧ n ≤ 5))) ∧ Below w.heap.size w w' := by
  by_cases h0 : 1 ≤ n
  · by_cases h1 : n ≤ 5
    · go_enter Tryz.func73, Tryz.ntmps73
      go_wp2
      go_ret
      exact ⟨ret_bool (by simp [h0, h1]), Below.refl _ _⟩
    · go_enter Tryz.func73, Tryz.ntmps73
      go_wp2
      go_ret
      exact ⟨ret_bool (by have : ¬ n ≤ 5 := by omega
                          simp [this]), Below.refl _ _⟩
  · go_enter Tryz.func73, Tryz.ntmps73
    go_wp2
    go_ret
    exact ⟨ret_bool (by have : ¬ 1 ≤ n := by omega
                        simp [this]), Below.refl _ _⟩
theorem label_Name (n : Int) (w : World) :
    Calls Tryz.prog 99 #[.int .i64 n] w fun e w' => e = .returned (.string ((nm11 n).headD ⟨#[]⟩)) ∧ Below w.heap.size w w' := by
  cases hl : nm11 n with
  | nil =>
    have hd : decide (1 ≤ n ∧ n ≤ 5) = false := by
      have := nm_in n
      rw [hl] at this
      simpa using this
    go_enter Tryz.func99, Tryz.ntmps99
    go_wp2_with (go_at_call 73; (with_reducible refine (label_IsCharset _ _).mono ?_); rintro e w1 ⟨rfl, hb1⟩; rw [hd])
    go_ret
    exact ⟨rfl, hb1⟩
  | cons s l =>
    have hd : decide (1 ≤ n ∧ n ≤ 5) = true := by
      have := nm_in n
      rw [hl] at this
      simpa using this
    have hF := fun w => label_NamesF n w
    rw [hl] at hF
    have HF := hid hF
    clear hF hl
    go_enter Tryz.func99, Tryz.ntmps99
    go_wp2_with (first
      | (go_at_call 73; (with_reducible refine (label_IsCharset _ _).mono ?_); rintro e w1 ⟨rfl, hb1⟩; rw [hd])
      | (go_at_call 119; (with_reducible refine (HF.out _).mono ?_); rintro e w3 ⟨a3, rfl, hT, hb3, _⟩; obtain ⟨b, off, rfl, _, hc⟩ := hT 0 s rfl; rw [Nat.add_zero] at hc; have hb3' := below_then hb1 hb3))
    go_ret
    exact ⟨rfl, hb3'⟩
end Go.Proofs.YtdglnpkkfkagaaaGreat

/-! C03 -/
namespace Go.Proofs.YtdglnpkkfkagaaaGreat
open Go.RowKit
set_option linter.unusedVariables false

theorem CTR : SliceT Tryz.prog 23 21 .i32 4 := ⟨Tryz.underlying23, by kernel_rfl, by decide⟩

theorem scalar_Surrogate (c : Int) (w : World) :
    Calls Tryz.prog 136 #[.int .i32 c] w fun e w' => e = .returned (.bool (surB c)) ∧ w = w' := by
  go_enter Tryz.func136, Tryz.ntmps136
  go_wp2
  all_goals (go_ret; exact ⟨ret_bool (by unfold surB; simp; omega), rfl⟩)
theorem scalar_Is (c : Int) (w : World) :
    Calls Tryz.prog 123 #[.int .i32 c] w fun e w' => e = .returned (.bool (scB c)) ∧ w = w' := by
  go_enter Tryz.func123, Tryz.ntmps123
  go_wp2_with (go_at_call 136; (with_reducible refine (scalar_Surrogate _ _).mono ?_); rintro e w' ⟨rfl, rfl⟩)
  all_goals (go_ret; exact ⟨ret_bool (by first | exact sc_of ‹_› ‹_› | (unfold scB; simp; omega)), rfl⟩)
theorem scalar_First1 (c : Int) (w : World) :
    Calls Tryz.prog 148 #[.int .i32 c] w fun e w' => e = .returned (.bool (!scB c)) ∧ w = w' := by
  go_enter Tryz.func148, Tryz.ntmps148
  go_wp2_with (go_at_call 123; (with_reducible refine (scalar_Is _ _).mono ?_); rintro e w' ⟨rfl, rfl⟩)
  go_ret
  exact ⟨rfl, rfl⟩
set_option maxHeartbeats 1000000 in
theorem idx_First1 (a : Option Addr) (len cap : Nat) (xs : List Int) (w : World) (hr : Reads .i32 w a len cap xs) :
    Calls Tryz.prog 147 #[.slice a len cap, .func (.func 148) #[] #[]] w fun e w' => e = .returned (.int .i64 (idxI (fun c => !scB c) xs)) ∧ w = w' := by
  have hl := hr.len_le
  have HR := hid hr
  clear hr
  go_enter Tryz.func147, Tryz.ntmps147
  go_wp2
  go_loop [8] (fun i => ∃ k : Nat, k ≤ len ∧ i = .int .i64 k ∧ Hid ((xs.take k).any (fun c => !scB c) = false)) (fun i => len - (intOf i).toNat)
  case atStart => exact ⟨0, Nat.zero_le _, rfl, rfl⟩
  case round =>
    obtain ⟨k, hk, rfl, hn⟩ := hrel
    by_cases hlt : k < len
    · obtain ⟨b, off, x, rfl, _, hc, h0, h1, hx⟩ := HR.out.getR hlt
      cases hs : scB x
      · have H := hid hs
        go_wp2_with (go_at_call 148; (with_reducible refine (scalar_First1 _ _).mono ?_); rintro e w' ⟨rfl, rfl⟩)
        go_ret
        exact ⟨ret_int (idx_hit hx.out.1 hn.out (by simp [H.out])).symm, rfl⟩
      · have H := hid hs
        go_wp2_with (go_at_call 148; (with_reducible refine (scalar_First1 _ _).mono ?_); rintro e w' ⟨rfl, rfl⟩)
        go_round
        case rel => exact ⟨k + 1, by omega, by go_num, none_yes hx.out.2 hn.out (by simp [H.out])⟩
        case measure => simp [intOf]; omega
    · go_wp2
      go_ret
      exact ⟨ret_int (by rw [← HR.out.all (show len ≤ k by omega)]; exact (idx_none hn.out).symm), rfl⟩
theorem scalar_First (a : Option Addr) (len cap : Nat) (xs : List Int) (w : World) (hr : Reads .i32 w a len cap xs) :
    Calls Tryz.prog 141 #[.slice a len cap] w fun e w' => e = .returned (.int .i64 (idxI (fun c => !scB c) xs)) ∧ w = w' := by
  go_enter Tryz.func141, Tryz.ntmps141
  go_wp2_with (go_at_call 147; (with_reducible refine (idx_First1 _ _ _ _ _ hr).mono ?_); rintro e w' ⟨rfl, rfl⟩)
  go_ret
  exact ⟨rfl, rfl⟩
theorem scalar_Right (a : Option Addr) (len cap : Nat) (xs : List Int) (w : World) (hr : Reads .i32 w a len cap xs) :
    Calls Tryz.prog 127 #[.slice a len cap] w fun e w' => e = .returned (.bool (xs.all scB)) ∧ w = w' := by
  have hb := hid (idx_neg (fun c => !scB c) xs)
  simp only [Bool.not_not] at hb
  go_enter Tryz.func127, Tryz.ntmps127
  go_wp2_with (go_at_call 141; (with_reducible refine (scalar_First _ _ _ _ _ hr).mono ?_); rintro e w' ⟨rfl, rfl⟩)
  go_ret
  exact ⟨ret_bool hb.out, rfl⟩

end Go.Proofs.YtdglnpkkfkagaaaGreat

/-! C08 -/
namespace Go.Proofs.YtdglnpkkfkagaaaGreat
open Go.RowKit
set_option linter.unusedVariables false

theorem latin_Has (c : Int) (w : World) :
    Calls Tryz.prog 120 #[.int .i32 c] w fun e w' => e = .returned (.bool (hasI sg08 c)) ∧ w = w' := by
  have H := hid (has08 c)
  go_enter Tryz.func120, Tryz.ntmps120
  go_wp2
  all_goals (go_ret; exact ⟨ret_bool (by rw [H.out]; simp; omega), rfl⟩)
theorem latin_Put (c : Int) (w : World) :
    Calls Tryz.prog 124 #[.int .i32 c] w fun e w' => e = .returned (.tuple #[.int .u8 (putI sg08 c), .bool (hasI sg08 c)]) ∧ w = w' := by
  cases hs : hasI sg08 c
  · have H := hid hs
    have hE := hid (putI_no hs)
    go_enter Tryz.func124, Tryz.ntmps124
    go_wp2_with (go_at_call 120; (with_reducible refine (latin_Has _ _).mono ?_); rintro e w' ⟨rfl, rfl⟩)
    go_ret2
    exact ⟨ret_ib hE.out.symm rfl, rfl⟩
  · have h1 := of_decide_eq_true ((has08 c).symm.trans hs)
    have hE := hid (put08 c h1.1 h1.2).1
    obtain ⟨h0, h1⟩ := h1
    have hmod : c % 256 = c := by omega
    have H := hid hs
    go_enter Tryz.func124, Tryz.ntmps124
    go_wp2_with (go_at_call 120; (with_reducible refine (latin_Has _ _).mono ?_); rintro e w' ⟨rfl, rfl⟩)
    go_ret2
    exact ⟨ret_ib hE.out.symm rfl, rfl⟩
set_option maxHeartbeats 1000000 in
theorem latin_Lay (a : Option Addr) (len cap : Nat) (xs : List Int) (w : World) (hr : Reads .i32 w a len cap xs) (hN : len < 100000000000) :
    Calls Tryz.prog 105 #[.slice a len cap] w fun e w' => ∃ a' len' cap', e = .returned (.tuple #[.slice a' len' cap', .int .i64 (csE sg08 xs)]) ∧ Reads .u8 w' a' len' cap' (csL sg08 xs) ∧ Below w.heap.size w w' := by
  have HR := hid hr
  have hsz := hr.size
  clear hr
  go_enter Tryz.func105, Tryz.ntmps105
  go_wp2_with (at_make; refine wpList_zeros CT8 rfl _ _ rfl (w0 := w) rfl rfl (Below.refl _ _) (by omega) (by decide) ?_; intro g w1 hown hbel)
  obtain ⟨w1, rfl⟩ : ∃ x : World, x = w1 := ⟨_, rfl⟩
  go_loopw [13] (fun i wr => ∃ k : Nat, k ≤ len ∧ i = .int .i64 k ∧ Hid ((xs.take k).all (hasI sg08) = true) ∧ Own .u8 5 w.heap.size wr (.slice (some ⟨g, 0, none⟩) len len) (fill (putI sg08) xs k) ∧ Below w.heap.size w wr) (fun i _ => len - (intOf i).toNat)
  case atStart => exact ⟨0, Nat.zero_le _, rfl, rfl, by rw [fill_zero, hsz]; exact hown, hbel⟩
  case round =>
    obtain ⟨k, hk, rfl, hn, hown', hbel'⟩ := hrel
    by_cases hlt : k < len
    · obtain ⟨b, off, x, rfl, _, hc, h0, h1, hx⟩ := (HR.out.below hbel').getR hlt
      obtain ⟨hcell, hfz⟩ := hown'.at (j := k) (by rw [fill_len] <;> omega)
      obtain ⟨ho2, hb2⟩ := hown'.store hbel' k (put_wf sg08 x)
      rw [fill_set (putI sg08) (by omega) hx.out.2] at ho2
      have HO := hid ho2
      have HB := hid hb2
      have HB0 := hid hbel'
      clear ho2 hb2 hown' hbel'
      cases hs : hasI sg08 x
      · have H := hid hs
        have hF := hid (all_no hx.out.1 hs)
        go_wp2_with (go_at_call 124; (with_reducible refine (latin_Put _ _).mono ?_); rintro e w' ⟨rfl, rfl⟩)
        go_ret2
        exact ⟨none, 0, 0, ret_si (by unfold csE; simp [hF.out]), by unfold csL; simp only [hF.out]; exact Reads.nil _ _ _ _ (Nat.zero_le _), HB0.out⟩
      · have H := hid hs
        go_wp2_with (go_at_call 124; (with_reducible refine (latin_Put _ _).mono ?_); rintro e w' ⟨rfl, rfl⟩)
        go_roundw
        case rel => exact ⟨k + 1, by omega, by go_num, all_yes hx.out.2 hn.out H.out, HO.out, HB.out⟩
        case measure => simp [intOf]; omega
    · have hn' := hn.out
      rw [HR.out.all (show len ≤ k by omega)] at hn'
      have hF := hid hn'
      clear hn'
      go_wp2
      go_ret2
      obtain ⟨a', cap', hv, hrd⟩ := hown'.reads
      rw [fill_all (putI sg08) xs k (by omega)] at hv hrd
      simp only [Value.slice.injEq] at hv
      obtain ⟨rfl, hl2, rfl⟩ := hv
      exact ⟨_, _, _, ret_si (by unfold csE; simp [hF.out]), by unfold csL; simp only [hF.out]; rw [← hl2] at hrd; exact hrd, hbel'⟩

end Go.Proofs.YtdglnpkkfkagaaaGreat
