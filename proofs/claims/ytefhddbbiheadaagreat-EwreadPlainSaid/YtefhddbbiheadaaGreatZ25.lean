/-
  Texts of ours laid together: MapN, C11.
-/
import Derived.Maps.OwnSet
import Derived.Test.YtefhddbbiheadaaGreatRows
import Derived.Test.YtefhddbbiheadaaGreatZ24

/-! MapN -/
namespace Go.Proofs.YtefhddbbiheadaaGreat
open Go.RowKit Go.Maps
set_option linter.unusedVariables false

/-- A string as a key. -/
def keyS (b : ByteArray) : Lit := .string b.data.toList
theorem keyS_inj {a b : ByteArray} (h : keyS a = keyS b) : a = b := by
  unfold keyS at h
  exact ByteArray.ext (Array.toList_inj.1 (Lit.string.inj h))
/-- The map that some pairs make; what is found in it (0: nothing). -/
def putsM (l : List (ByteArray × Int)) (D : DataW Unit) : DataW Unit := l.foldl (fun d p => d.put (keyS p.1) (.lit (.int .i64 p.2))) D
def mapN (l : List (ByteArray × Int)) : DataW Unit := putsM l (.map [])
def inN (l : List (ByteArray × Int)) (b : ByteArray) : Bool := l.any (fun p => decide (p.1 = b))
def atN (l : List (ByteArray × Int)) (b : ByteArray) : Int := l.foldl (fun c p => if p.1 = b then p.2 else c) 0

theorem mapN_step {l : List (ByteArray × Int)} {n : Nat} {s : ByteArray} {q : Int} (h : l[n]? = some (s, q)) : mapN (l.take (n + 1)) = (mapN (l.take n)).put (keyS s) (.lit (.int .i64 q)) := by
  have hn : n < l.length := (List.getElem?_eq_some_iff.1 h).1
  rw [List.take_succ_eq_append_getElem hn]
  rw [List.getElem?_eq_getElem hn] at h
  unfold mapN putsM
  rw [List.foldl_append, Option.some.inj h]
  rfl
theorem putsM_at (b : ByteArray) : ∀ (l : List (ByteArray × Int)) (D : DataW Unit) (c : Int), IsMap D → D.atKey (keyS b) (.lit (.int .i64 0)) = .lit (.int .i64 c) →
    (putsM l D).atKey (keyS b) (.lit (.int .i64 0)) = .lit (.int .i64 (l.foldl (fun c p => if p.1 = b then p.2 else c) c))
  | [], D, c, _, h => h
  | p :: l, D, c, hD, h => by
    refine putsM_at b l _ _ (hD.put _ _) ?_
    show (D.put (keyS p.1) (.lit (.int .i64 p.2))).atKey (keyS b) (.lit (.int .i64 0)) = .lit (.int .i64 (if p.1 = b then p.2 else c))
    by_cases hp : p.1 = b
    · rw [if_pos hp, hp]
      exact atKey_put_same hD (by unfold keyS; exact trivial) _ _
    · rw [if_neg hp]
      exact (atKey_put_other (fun e => hp (keyS_inj e).symm) _ _).trans h
theorem putsM_has (b : ByteArray) : ∀ (l : List (ByteArray × Int)) (D : DataW Unit) (f : Bool), IsMap D → Maps.has D (keyS b) = f →
    Maps.has (putsM l D) (keyS b) = (f || l.any (fun p => decide (p.1 = b)))
  | [], D, f, _, h => by rw [List.any_nil, Bool.or_false]; exact h
  | p :: l, D, f, hD, h => by
    rw [List.any_cons, ← Bool.or_assoc]
    refine putsM_has b l _ _ (hD.put _ _) ?_
    show Maps.has (D.put (keyS p.1) (.lit (.int .i64 p.2))) (keyS b) = (f || decide (p.1 = b))
    by_cases hp : p.1 = b
    · rw [decide_eq_true hp, Bool.or_true, hp]
      exact has_put_same hD (by unfold keyS; exact trivial) _
    · rw [decide_eq_false hp, Bool.or_false]
      exact (has_put_other (fun e => hp (keyS_inj e).symm) _).trans h
theorem mapN_at (l : List (ByteArray × Int)) (b : ByteArray) : (mapN l).atKey (keyS b) (.lit (.int .i64 0)) = .lit (.int .i64 (atN l b)) := putsM_at b l _ 0 isMap_empty rfl
theorem mapN_has (l : List (ByteArray × Int)) (b : ByteArray) : Maps.has (mapN l) (keyS b) = inN l b := by
  have := putsM_has b l (.map []) false isMap_empty rfl
  rwa [Bool.false_or] at this
theorem atN_none {l : List (ByteArray × Int)} {b : ByteArray} (h : inN l b = false) : atN l b = 0 := by
  unfold inN at h
  unfold atN
  have key : ∀ (l : List (ByteArray × Int)) (c : Int), l.any (fun p => decide (p.1 = b)) = false → l.foldl (fun c p => if p.1 = b then p.2 else c) c = c := by
    intro l
    induction l with
    | nil => intro c _; rfl
    | cons p l ih =>
      intro c hl
      rw [List.any_cons, Bool.or_eq_false_iff] at hl
      rw [List.foldl_cons, if_neg (of_decide_eq_false hl.1)]
      exact ih c hl.2
  exact key l 0 h

/-- The call's own map stands beside what is made later. -/
theorem ownsMap_below {P : Program} {k : TypeId} {R : Value → Option (DataW Unit × List MemPlace)} {b n : Nat} {D : DataW Unit} {w w' : World} (h : w.ownsMap P k R b n D) (hb : Below w.heap.size w w') : w'.ownsMap P k R b n D :=
  h.kept (row := none) ⟨hb.os, hb.tape, hb.output, hb.size, fun j hj _ => hb.block j hj⟩ (by simp)
theorem below_map {B b : Nat} {w0 w w' : World} (hb : Below B w0 w) (hg : w.grownBy w' (some b)) (hB : B ≤ b) (hs : B ≤ w.heap.size) : Below B w0 w' :=
  hb.grown hg hs (fun j hj => by cases hj; exact hB)
theorem Txts.grown {w w' : World} {a : Option Addr} {ss : List ByteArray} {b : Nat} (h : Txts w a ss) (hg : w.grownBy w' (some b)) (hn : ∀ p, a = some p → b < p.block) : Txts w' a ss := by
  intro i s hs
  obtain ⟨c, off, ha, hl, hc⟩ := h i s hs
  have := hn _ ha
  exact ⟨c, off, ha, Nat.lt_of_lt_of_le hl hg.size, hg.cell hc (by simp at this ⊢; omega)⟩

/-! ### the names of charsets, of transfer encodings -/
def csAll : List (ByteArray × Int) := (nm11 1).map (·, 1) ++ (nm11 2).map (·, 2) ++ (nm11 3).map (·, 3) ++ (nm11 4).map (·, 4) ++ (nm11 5).map (·, 5)
def cdAll : List (ByteArray × Int) := [(cd11 1, 1), (cd11 2, 2), (cd11 3, 3)]
def offN : Nat → Nat | 0 => 0 | 1 => 4 | 2 => 8 | 3 => 11 | 4 => 13 | _ => 15
theorem csAll_all : ∀ k : Fin 5, ∀ j : Fin 4, (nm11 (k.val + 1))[j.val]? = none ∨ csAll[offN k.val + j.val]? = (nm11 (k.val + 1))[j.val]?.map (fun s => (s, (k.val : Int) + 1)) := by decide +kernel
theorem csAll_at {k j : Nat} {s : ByteArray} (hk : k < 5) (hs : (nm11 ((k : Int) + 1))[j]? = some s) : csAll[offN k + j]? = some (s, (k : Int) + 1) := by
  have hj : j < 4 := Nat.lt_of_lt_of_le (List.getElem?_eq_some_iff.1 hs).1 (nm_len _)
  rcases csAll_all ⟨k, hk⟩ ⟨j, hj⟩ with h | h
  · have h' : (nm11 ((k : Int) + 1))[j]? = none := h
    rw [h'] at hs
    cases hs
  · have h' : csAll[offN k + j]? = (nm11 ((k : Int) + 1))[j]?.map (fun s => (s, (k : Int) + 1)) := h
    rw [h', hs]
    rfl
theorem off_next : ∀ k : Fin 5, offN k.val + (nm11 (k.val + 1)).length = offN (k.val + 1) := by decide +kernel
theorem off_le (k : Nat) : offN k ≤ 15 := by
  unfold offN
  split <;> omega
theorem nm_in (n : Int) : decide (1 ≤ n ∧ n ≤ 5) = !(nm11 n).isEmpty := by
  by_cases h1 : n = 1
  · subst h1; rfl
  by_cases h2 : n = 2
  · subst h2; rfl
  by_cases h3 : n = 3
  · subst h3; rfl
  by_cases h4 : n = 4
  · subst h4; rfl
  by_cases h5 : n = 5
  · subst h5; rfl
  rw [nm11, if_neg h1, if_neg h2, if_neg h3, if_neg h4, if_neg h5, decide_eq_false (by omega)]
  rfl
theorem cdAll_at : ∀ k : Fin 3, cdAll[k.val]? = some (cd11 (k.val + 1), (k.val : Int) + 1) := by decide +kernel
theorem nmk_size {n : Int} {j : Nat} {s : ByteArray} (hs : (nm11 n)[j]? = some s) : s.size ≤ maxLen := by
  have hm := List.mem_of_getElem? hs
  have key : ∀ p ∈ nm11 1 ++ nm11 2 ++ nm11 3 ++ nm11 4 ++ nm11 5, p.size ≤ 14 := by decide +kernel
  have : s ∈ nm11 1 ++ nm11 2 ++ nm11 3 ++ nm11 4 ++ nm11 5 := by
    simp only [List.mem_append]
    by_cases h1 : n = 1
    · subst h1; exact .inl (.inl (.inl (.inl hm)))
    by_cases h2 : n = 2
    · subst h2; exact .inl (.inl (.inl (.inr hm)))
    by_cases h3 : n = 3
    · subst h3; exact .inl (.inl (.inr hm))
    by_cases h4 : n = 4
    · subst h4; exact .inl (.inr hm)
    by_cases h5 : n = 5
    · subst h5; exact .inr hm
    rw [nm11, if_neg h1, if_neg h2, if_neg h3, if_neg h4, if_neg h5] at hm
    cases hm
  exact Nat.le_trans (key s this) (by decide)
theorem cd_size (n : Int) : (cd11 n).size ≤ maxLen := by
  unfold cd11
  (repeat' split) <;> decide
theorem cs_found (b : ByteArray) : atN csAll b = csN b ∧ inN csAll b = !decide (csN b = 0) := by
  by_cases h : inN csAll b = true
  · have hall : ∀ p ∈ csAll, atN csAll p.1 = csN p.1 ∧ inN csAll p.1 = !decide (csN p.1 = 0) := by decide +kernel
    unfold inN at h
    rw [List.any_eq_true] at h
    obtain ⟨p, hp, hpb⟩ := h
    have := hall p hp
    rwa [of_decide_eq_true hpb] at this
  · have h' : inN csAll b = false := by simpa using h
    have hz : csN b = 0 := by
      refine (cs_no fun j hj => ?_).1
      unfold hasN
      rw [List.any_eq_false]
      intro s hs
      obtain ⟨i, hi⟩ := List.mem_iff_getElem?.1 hs
      have hm := List.mem_of_getElem? (csAll_at hj hi)
      unfold inN at h'
      exact List.any_eq_false.1 h' _ hm
    rw [atN_none h', hz, h']
    exact ⟨rfl, rfl⟩
theorem cd_found (b : ByteArray) : atN cdAll b = cdN b ∧ inN cdAll b = !decide (cdN b = 0) := by
  by_cases h : inN cdAll b = true
  · have hall : ∀ p ∈ cdAll, atN cdAll p.1 = cdN p.1 ∧ inN cdAll p.1 = !decide (cdN p.1 = 0) := by decide +kernel
    unfold inN at h
    rw [List.any_eq_true] at h
    obtain ⟨p, hp, hpb⟩ := h
    have := hall p hp
    rwa [of_decide_eq_true hpb] at this
  · have h' : inN cdAll b = false := by simpa using h
    have hz : cdN b = 0 := by
      refine (cd_no fun j hj hb => ?_).1
      have hm := List.mem_of_getElem? (cdAll_at ⟨j, hj⟩)
      unfold inN at h'
      have := List.any_eq_false.1 h' _ hm
      exact this (decide_eq_true hb.symm)
    rw [atN_none h', hz, h']
    exact ⟨rfl, rfl⟩
end Go.Proofs.YtefhddbbiheadaaGreat

/-! C11 -/
namespace Go.Proofs.YtefhddbbiheadaaGreat
open Go.RowKit Go.Maps Go.WideMaps
set_option linter.unusedVariables false

set_option maxHeartbeats 1000000 in
theorem label_NamesF (n : Int) (w : World) :
    Calls Tryz.prog 110 #[.int .i64 n] w fun e w' => ∃ a, e = .returned (.slice a (nm11 n).length (nm11 n).length) ∧ Txts w' a (nm11 n) ∧ Below w.heap.size w w' ∧ ∀ p, a = some p → w.heap.size ≤ p.block := by
  by_cases h1 : n = 1
  · subst h1
    go_enter Tryz.func110, Tryz.ntmps110
    go_wp2
    go_ret
    exact ⟨_, rfl, Txts.lit w 9 (nm11 1), (Below.refl _ _).alloc (Nat.le_refl _) _, fun p hp => by cases hp; exact Nat.le_refl _⟩
  by_cases h2 : n = 2
  · subst h2
    go_enter Tryz.func110, Tryz.ntmps110
    go_wp2
    go_ret
    exact ⟨_, rfl, Txts.lit w 9 (nm11 2), (Below.refl _ _).alloc (Nat.le_refl _) _, fun p hp => by cases hp; exact Nat.le_refl _⟩
  by_cases h3 : n = 3
  · subst h3
    go_enter Tryz.func110, Tryz.ntmps110
    go_wp2
    go_ret
    exact ⟨_, rfl, Txts.lit w 9 (nm11 3), (Below.refl _ _).alloc (Nat.le_refl _) _, fun p hp => by cases hp; exact Nat.le_refl _⟩
  by_cases h4 : n = 4
  · subst h4
    go_enter Tryz.func110, Tryz.ntmps110
    go_wp2
    go_ret
    exact ⟨_, rfl, Txts.lit w 9 (nm11 4), (Below.refl _ _).alloc (Nat.le_refl _) _, fun p hp => by cases hp; exact Nat.le_refl _⟩
  by_cases h5 : n = 5
  · subst h5
    go_enter Tryz.func110, Tryz.ntmps110
    go_wp2
    go_ret
    exact ⟨_, rfl, Txts.lit w 9 (nm11 5), (Below.refl _ _).alloc (Nat.le_refl _) _, fun p hp => by cases hp; exact Nat.le_refl _⟩
  have e : Hid (nm11 n = []) := by unfold Hid nm11; rw [if_neg h1, if_neg h2, if_neg h3, if_neg h4, if_neg h5]
  have b1 : (n == 1) = false := by simpa using h1
  have b2 : (n == 2) = false := by simpa using h2
  have b3 : (n == 3) = false := by simpa using h3
  have b4 : (n == 4) = false := by simpa using h4
  have b5 : (n == 5) = false := by simpa using h5
  clear h1 h2 h3 h4 h5
  go_enter Tryz.func110, Tryz.ntmps110
  go_wp2
  go_ret
  exact ⟨none, by rw [e.out]; rfl, by rw [e.out]; exact Txts.none _ _, Below.refl _ _, fun p hp => by cases hp⟩
theorem label_Names (n : Int) (w : World) :
    Calls Tryz.prog 110 #[.int .i64 n] w fun e w' => ∃ a, e = .returned (.slice a (nm11 n).length (nm11 n).length) ∧ Txts w' a (nm11 n) ∧ Below w.heap.size w w' :=
  (label_NamesF n w).mono fun _ _ ⟨a, h1, h2, h3, _⟩ => ⟨a, h1, h2, h3⟩
theorem label_IsCharset (n : Int) (w : World) :
    Calls Tryz.prog 109 #[.int .i64 n] w fun e w' => e = .returned (.bool (decide (1 ≤ n ∧ n ≤ 5))) ∧ Below w.heap.size w w' := by
  by_cases h0 : 1 ≤ n
  · by_cases h1 : n ≤ 5
    · go_enter Tryz.func109, Tryz.ntmps109
      go_wp2
      go_ret
      exact ⟨ret_bool (by simp [h0, h1]), Below.refl _ _⟩
    · go_enter Tryz.func109, Tryz.ntmps109
      go_wp2
      go_ret
      exact ⟨ret_bool (by have : ¬ n ≤ 5 := by omega
                          simp [this]), Below.refl _ _⟩
  · go_enter Tryz.func109, Tryz.ntmps109
    go_wp2
    go_ret
    exact ⟨ret_bool (by have : ¬ 1 ≤ n := by omega
                        simp [this]), Below.refl _ _⟩
theorem bare_cut (xs : List Int) : trimL (isB 2) (xs.takeWhile (notO 42)) = bareL xs := rfl
set_option maxHeartbeats 1000000 in
theorem label_Bare (a : Option Addr) (len cap : Nat) (xs : List Int) (w : World) (hr : Reads .u8 w a len cap xs) (hN : len < 1000000000) :
    Calls Tryz.prog 84 #[.slice a len cap] w fun e w' => ∃ a' len' cap', e = .returned (.slice a' len' cap') ∧ Reads .u8 w' a' len' cap' (bareL xs) ∧ Below w.heap.size w w' := by
  have hlit : Reads .u8 (w.alloc (.cells #[.int .u8 42] 5)) (some ⟨w.heap.size, 0, none⟩) 1 1 [42] := Reads.lit .u8 5 w [42] (by decide) (by decide)
  have hba : Below w.heap.size w (w.alloc (.cells #[.int .u8 42] 5)) := (Below.refl _ _).alloc (Nat.le_refl _) _
  have HR := hid (hr.below hba)
  have hsz := hr.size
  have HL := hid hlit
  clear hr hlit
  go_enter Tryz.func84, Tryz.ntmps84
  go_wp2_with (first
    | (go_at_call 106; (with_reducible refine (bytes_Cut1 HR.out HL.out).mono ?_); rintro e w1 ⟨l1, v1, rfl, hr1, n1, rfl⟩; have hb1 := Below.drewN hba n1; have hl1 : l1 < 1000000000 := (by have := hr1.size; have := (List.takeWhile_sublist (notO 42) (l := xs)).length_le; omega); have hr1' := hr1.below (Below.drewN (Below.refl _ _) n1))
    | (go_at_call 112; (with_reducible refine (trim_c _ _ _ _ _ hr1' (by omega)).mono ?_); rintro e w2 ⟨a2, l2, c2, rfl, hr2, hb2⟩; have hb2' := below_then hb1 hb2))
  go_ret
  exact ⟨_, _, _, rfl, hr2, hb2'⟩
theorem law9 : Keyed Tryz.prog 9 := string_keyed Tryz.underlying9
theorem zero3 (w : World) : (zeroValue 3).run Tryz.prog w = .ok (.int .i64 0) w := by kernel_rfl
set_option maxRecDepth 100000 in
set_option maxHeartbeats 2000000 in
theorem label_charsets (w : World) :
    Calls Tryz.prog 82 #[] w fun e w' => e = .returned (.map (some w.heap.size)) ∧ w'.ownsMap Tryz.prog 9 (plainElem (H := Unit) Tryz.prog 3) w.heap.size 15 (mapN csAll) ∧ Below w.heap.size w w' := by
  have hmm := @run_makeMap Tryz.prog
  go_enter Tryz.func82, Tryz.ntmps82
  go_wp2
  go_loopw [2] (fun i wr => ∃ k : Nat, k ≤ 5 ∧ i = .int .i64 ((k : Int) + 1) ∧ wr.ownsMap Tryz.prog 9 (plainElem (H := Unit) Tryz.prog 3) w.heap.size (offN k) (mapN (csAll.take (offN k))) ∧ Below w.heap.size w wr) (fun i _ => 6 - (intOf i).toNat)
  case atStart => exact ⟨0, Nat.zero_le _, rfl, World.ownsMap_made _ _ _ _, (Below.refl _ _).alloc (Nat.le_refl _) _⟩
  case round =>
    obtain ⟨k, hk, rfl, hown, hbel⟩ := hrel
    have HO := hid hown
    have HB := hid hbel
    clear hown hbel
    by_cases hlt : k < 5
    · have hd : decide (1 ≤ (k : Int) + 1 ∧ (k : Int) + 1 ≤ 5) = true := by simp; omega
      have hoff : offN k + (nm11 ((k : Int) + 1)).length = offN (k + 1) := off_next ⟨k, hlt⟩
      have hlen := nm_len ((k : Int) + 1)
      have HF := hid hoff
      clear hoff
      go_wp2_with (first
        | (go_at_call 109; (with_reducible refine (label_IsCharset _ _).mono ?_); rintro e w1 ⟨rfl, hb1⟩; rw [hd]; have HO1 := hid (ownsMap_below HO.out hb1); have HB1 := hid (below_then' HB.out hb1 (Nat.le_refl _)))
        | (go_at_call 110; (with_reducible refine (label_NamesF _ _).mono ?_); rintro e w2 ⟨a2, rfl, hT, hb2, hfr⟩; have HO2 := hid (ownsMap_below HO1.out hb2); have HB2 := hid (below_then' HB1.out hb2 (Nat.le_refl _)); have hfr2 : ∀ p, a2 = some p → w.heap.size < p.block := (fun p hp => Nat.lt_of_lt_of_le HO1.out.lt (hfr p hp))))
      go_loopw [13] (fun i wr => ∃ j : Nat, j ≤ (nm11 ((k : Int) + 1)).length ∧ i = .int .i64 j ∧ wr.ownsMap Tryz.prog 9 (plainElem (H := Unit) Tryz.prog 3) w.heap.size (offN k + j) (mapN (csAll.take (offN k + j))) ∧ Below w.heap.size w wr ∧ Txts wr a2 (nm11 ((k : Int) + 1))) (fun i _ => (nm11 ((k : Int) + 1)).length - (intOf i).toNat)
      case atStart => exact ⟨0, Nat.zero_le _, rfl, HO2.out, HB2.out, hT⟩
      case round =>
        obtain ⟨j, hj, rfl, hown, hbel, hTx⟩ := hrel
        have HO := hid hown
        have HB := hid hbel
        clear hown hbel
        by_cases hjl : j < (nm11 ((k : Int) + 1)).length
        · obtain ⟨s, hs⟩ : ∃ s, (nm11 ((k : Int) + 1))[j]? = some s := ⟨_, List.getElem?_eq_getElem hjl⟩
          obtain ⟨b, off, rfl, _, hc⟩ := hTx j s hs
          have HS := hid (mapN_step (csAll_at hlt hs))
          have hkey := keyOf_string_mk (P := Tryz.prog) Tryz.underlying9 (nmk_size hs)
          clear hs
          go_wp2_with (first
            | (at_mapUpdate; refine wpList_mapUpdate_own _ rfl _ _ _ 94 rfl 9 3 law9 Tryz.underlying94 _ w.heap.size (offN k + j) _ rfl HO.out (by have := HF.out; have : offN (k + 1) ≤ 15 := off_le _; unfold maxLen; omega) _ _ _ rfl rfl hkey _ [] (plainElem_int Tryz.underlying3 (WalkArith.wf_i64 (by omega))) ?_; intro w3 hown3 hgrow3)
            | go_in)
          have R1 := HS.out.symm ▸ hown3
          have R2 := below_map HB.out hgrow3 (Nat.le_refl _) HB.out.size
          have R3 := hTx.grown hgrow3 hfr2
          clear hown3 hgrow3 HS HO HB hc
          go_wp2
          go_roundw
          case rel => exact ⟨j + 1, by omega, by go_num, R1, R2, R3⟩
          case measure => simp [intOf]; omega
        · have hje : j = (nm11 ((k : Int) + 1)).length := by omega
          subst hje
          have R1 := HO.out
          rw [HF.out] at R1
          have R1' := hid R1
          clear R1
          go_wp2
          go_roundw
          case rel => exact ⟨k + 1, by omega, by go_num, R1'.out, HB.out⟩
          case measure => simp [intOf]; omega
    · obtain rfl : k = 5 := by omega
      go_wp2_with (go_at_call 109; (with_reducible refine (label_IsCharset _ _).mono ?_); rintro e w1 ⟨rfl, hb1⟩; have HO1 := hid (ownsMap_below HO.out hb1); have HB1 := hid (below_then' HB.out hb1 (Nat.le_refl _)))
      go_ret
      exact ⟨rfl, HO1.out, HB1.out⟩
set_option maxRecDepth 100000 in
set_option maxHeartbeats 2000000 in
theorem label_Charset (a : Option Addr) (len cap : Nat) (xs : List Int) (w : World) (hr : Reads .u8 w a len cap xs) (hN : len < 1000000000) :
    Calls Tryz.prog 49 #[.slice a len cap] w fun e w' => e = .returned (.tuple #[.int .i64 (csN (keyB xs)), .int .i64 (csNE (keyB xs))]) ∧ Below w.heap.size w w' := by
  have HR := hid hr
  clear hr
  obtain ⟨B, hB⟩ : ∃ B, B = keyB xs := ⟨_, rfl⟩
  rw [← hB]
  have HB := hid hB
  clear hB
  have hat0 := mapN_at csAll B
  have hhas0 := mapN_has csAll B
  rw [(cs_found B).1] at hat0
  rw [(cs_found B).2] at hhas0
  have HA := hid hat0
  have HH := hid hhas0
  clear hat0 hhas0
  have main : ∀ f : Bool, Maps.has (mapN csAll) (keyS B) = f → (f = true → csNE B = 0) → (f = false → csN B = 0 ∧ csNE B = 10) →
      Calls Tryz.prog 49 #[.slice a len cap] w fun e w' => e = .returned (.tuple #[.int .i64 (csN B), .int .i64 (csNE B)]) ∧ Below w.heap.size w w' := by
    intro f hf hyes hno
    have HF := hid hf
    clear hf
    go_enter Tryz.func49, Tryz.ntmps49
    go_wp2_with (first
      | (go_at_call 82; (with_reducible refine (label_charsets _).mono ?_); rintro e w0 ⟨rfl, hown0, hb0⟩; have HO0 := hid hown0; have HR0 := hid (HR.out.below hb0))
      | (go_at_call 84; (with_reducible refine (label_Bare _ _ _ _ _ HR0.out (by omega)).mono ?_); rintro e w1 ⟨a1, l1, c1, rfl, hr1, hb1⟩; have hl1 : l1 < 1000000000 := (by have := hr1.size; have := bare_le xs; have := HR.out.size; omega); have HO1 := hid (ownsMap_below HO0.out hb1); have hb1' := below_then hb0 hb1)
      | (go_at_call 83; (with_reducible refine (fold_c _ _ _ _ _ hr1 (by omega)).mono ?_); rintro e w2 ⟨a2, c2, rfl, hr2, hb2⟩; have HO2 := hid (ownsMap_below HO1.out hb2); have hb2' := below_then hb1' hb2; have hls := hr2.size; have hK := hr2.string (P := Tryz.prog) Tryz.underlying22 Tryz.underlying5 Tryz.underlying9; rw [show strB ((bareL xs).map lowI) = B from HB.out.symm] at hK; have hkey := keyOf_string_mk (P := Tryz.prog) Tryz.underlying9 (s := B) (by rw [HB.out]; unfold keyB; rw [strB_size]; simp only [List.length_map]; have := bare_le xs; have := HR.out.size; unfold maxLen; omega))
      | (at_lookup; refine wpList_lookup_own_ok_int _ rfl _ _ 94 rfl 9 3 .i64 law9 Tryz.underlying94 Tryz.underlying3 (zero3 _) w.heap.size _ _ rfl HO2.out _ _ rfl hkey ?_; intro c hat hwc; rw [show Maps.has (mapN csAll) (Lit.string B.data.toList) = f from HF.out]; obtain rfl : csN B = c := (by have h := HA.out.symm.trans hat; exact Lit.int.inj (DataW.lit.inj h) |>.2)))
    · go_ret2
      have hz := hno (by simpa using ‹(!f) = true›)
      exact ⟨ret_ii hz.1.symm hz.2.symm, hb2'⟩
    · go_ret2
      have hz := hyes (by simpa using ‹(!f) = false›)
      exact ⟨ret_ii rfl hz.symm, hb2'⟩
  by_cases hz : csN B = 0
  · exact main false (by rw [HH.out, hz]; rfl) (fun h => by cases h) (fun _ => ⟨hz, by unfold csNE; rw [if_pos hz]⟩)
  · exact main true (by rw [HH.out]; simp [hz]) (fun _ => by unfold csNE; rw [if_neg hz]) (fun h => by cases h)
end Go.Proofs.YtefhddbbiheadaaGreat
