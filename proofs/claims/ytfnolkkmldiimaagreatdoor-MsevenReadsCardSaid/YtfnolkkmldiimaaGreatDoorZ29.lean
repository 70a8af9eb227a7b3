/-
  Texts of ours laid together: C24c.
-/
import Derived.Test.YtfnolkkmldiimaaGreatDoorZ28

/-! C24c -/
namespace Go.Proofs.YtfnolkkmldiimaaGreatDoor
open Go.RowKit Go.Shelf
set_option linter.unusedVariables false
attribute [local go_sem] Oper.semAt_some

theorem own_litM (k : IntKind) (e : TypeId) (w : World) (xs : List Int) (hm : xs.length ≤ maxLen) (hwf : ∀ x ∈ xs, (Lit.int k x).wf = true) :
    Own k e w.heap.size (w.alloc (.cells (xs.map (Value.int k)).toArray e)) (.slice (some ⟨w.heap.size, 0, none⟩) xs.length xs.length) xs := by
  refine ⟨⟨by simp, .inr ⟨w.heap.size, xs.length, (xs.map (Value.int k)).toArray, rfl, Nat.le_refl _, heap_alloc_new w _, Nat.le_refl _, hm, by simp, ?_⟩⟩, hwf⟩
  rw [List.toList_toArray, Nat.mul_one]
  exact List.take_of_length_le (by simp)
theorem ocU_len2 : ∀ u : List Int, (ocU u).length = 2 * u.length := by
  intro u
  induction u with
  | nil => rfl
  | cons x u ih => simp [ocU] at *; omega
theorem own_readsE {k : IntKind} {e : TypeId} {base : Nat} {w : World} {v : Value} {xs : List Int} (h : Own k e base w v xs) : ∃ a n c, v = .slice a n c ∧ Reads k w a n c xs := by
  obtain ⟨a, c, rfl, r⟩ := h.reads
  exact ⟨_, _, _, rfl, r⟩
theorem row_next {r r' row : Option Nat} {n m : Nat} (h : r' = r ∨ r' = some m) (hr : r = row ∨ ∃ j, r = some j ∧ n ≤ j) (hm : n ≤ m) : r' = row ∨ ∃ j, r' = some j ∧ n ≤ j := by
  rcases h with rfl | h
  · exact hr
  · exact .inr ⟨m, h, hm⟩
set_option maxHeartbeats 1000000 in
theorem mseven_CodeO (a : Option Addr) (len cap : Nat) (xs : List Int) (w : World) (hr : Reads .i32 w a len cap xs) (hN : len < 1000000) :
    Calls Tryz.prog 11 #[.slice a len cap] w fun e w' => ∃ v, e = .returned v ∧ Own .u8 5 w.heap.size w' v (mbCod xs) ∧ Below w.heap.size w w' := by
  have hsz := hr.size
  unfold mbCod
  cases hs : xs.all scB
  · rw [if_neg Bool.false_ne_true]
    have H1 := hid (units_LayNo a len cap xs w hr hs)
    clear hr hs
    go_enter Tryz.func11, Tryz.ntmps11
    go_wp2_with (first
      | (go_at_call 25; (with_reducible refine H1.out.mono ?_); rintro e w' ⟨rfl, rfl⟩)
      | (go_at_call 27; (with_reducible refine (units_Octets none 0 0 [] w (Reads.nil _ _ _ _ (Nat.zero_le _)) (by omega)).mono ?_); rintro e w2 ⟨a2, c2, rfl, r2, hb2⟩)
      | (go_at_call 26; (with_reducible refine (bmod_LayO _ _ _ _ _ r2 (by decide)).mono ?_); rintro e w3 ⟨v3, rfl, ho3, hb3⟩))
    go_ret
    exact ⟨_, rfl, own_mono ho3 hb2.size, below_then hb2 hb3⟩
  · rw [if_pos rfl]
    have H1 := hid (units_Lay a len cap xs w hr (by omega) hs)
    have hl := unL_len xs
    have hl2 : (ocU (unL xs)).length ≤ 4000000 := by rw [ocU_len2]; omega
    clear hr hs
    go_enter Tryz.func11, Tryz.ntmps11
    go_wp2_with (first
      | (go_at_call 25; (with_reducible refine H1.out.mono ?_); rintro e w1 ⟨a1, c1, rfl, r1, hb1⟩)
      | (go_at_call 27; (with_reducible refine (units_Octets _ _ _ _ _ r1 (by omega)).mono ?_); rintro e w2 ⟨a2, c2, rfl, r2, hb2⟩; have hb12 := below_then hb1 hb2)
      | (go_at_call 26; (with_reducible refine (bmod_LayO _ _ _ _ _ r2 (by omega)).mono ?_); rintro e w3 ⟨v3, rfl, ho3, hb3⟩))
    go_ret
    exact ⟨_, rfl, own_mono ho3 hb12.size, below_then hb12 hb3⟩
theorem mseven_Code (a : Option Addr) (len cap : Nat) (xs : List Int) (w : World) (hr : Reads .i32 w a len cap xs) (hN : len < 100000) :
    Calls Tryz.prog 11 #[.slice a len cap] w fun e w' => ∃ a' l' c', e = .returned (.slice a' l' c') ∧ Reads .u8 w' a' l' c' (mbCod xs) ∧ Below w.heap.size w w' := by
  refine (mseven_CodeO a len cap xs w hr (by omega)).mono ?_
  rintro e w' ⟨v, rfl, ho, hb⟩
  obtain ⟨a', c', rfl, r⟩ := ho.reads
  exact ⟨_, _, _, rfl, r, hb⟩
set_option maxHeartbeats 1000000 in
theorem mseven_Run (a : Option Addr) (len cap : Nat) (xs : List Int) (w : World) (hr : Reads .u8 w a len cap xs) (hN : len < 100000) :
    Calls Tryz.prog 16 #[.slice a len cap] w fun e w' => ∃ a' l' c', e = .returned (.tuple #[.slice a' l' c', .bool (mbK xs)]) ∧ Reads .i32 w' a' l' c' (mbT xs) ∧ Below w.heap.size w w' := by
  have HC := hid (has_notM a len cap xs w hr)
  have hall : xs.any notM = !xs.all isM := by
    have e : notM = fun x => !isM x := rfl
    rw [e]
    simp [List.all_eq_not_any_not]
  unfold mbK mbT
  cases hs : xs.all isM
  · rw [hall, hs] at HC
    rw [if_neg Bool.false_ne_true]
    clear hr hall hs
    go_enter Tryz.func16, Tryz.ntmps16
    go_wp2_with (go_at_call 33; (with_reducible refine HC.out.mono ?_); rintro e w' ⟨rfl, rfl⟩)
    go_ret2
    exact ⟨none, 0, 0, rfl, Reads.nil _ _ _ _ (Nat.zero_le _), Below.refl _ _⟩
  · rw [hall, hs] at HC
    rw [if_pos rfl, Bool.true_and]
    have HU := hid (bmod_Usual a len cap xs w hr (by omega))
    have hsz := hr.size
    have hxl := mbX_len xs
    unfold mbX at hxl ⊢
    have HR := hid (fun a2 l2 c2 W (h : Reads .u8 W a2 l2 c2 (turnL 44 47 xs)) => sread_Run a2 l2 c2 (turnL 44 47 xs) W h (by have := h.size; omega))
    clear hr hall hs
    generalize runOk (turnL 44 47 xs) = K at *
    go_enter Tryz.func16, Tryz.ntmps16
    go_wp2_with (first
      | (go_at_call 33; (with_reducible refine HC.out.mono ?_); rintro e w' ⟨rfl, rfl⟩)
      | (go_at_call 36; (with_reducible refine HU.out.mono ?_); rintro e w1 ⟨a1, l1, c1, rfl, r1, hb1⟩)
      | (go_at_call 35; (with_reducible refine (HR.out _ _ _ _ r1).mono ?_); rintro e w2 ⟨v2, rfl, ho2, hb2⟩; (obtain ⟨a2, c2, rfl, r2⟩ := ho2.reads)))
    go_ret2
    exact ⟨_, _, _, rfl, r2, below_then hb1 hb2⟩
set_option maxHeartbeats 1000000 in
theorem mseven_signs (a : Option Addr) (len cap : Nat) (d : List Int) (w : World) (hr : Reads .u8 w a len cap d) (hN : len < 90000) (hd : d.all isM = true) (hp : 0 < len) :
    Calls Tryz.prog 42 #[.slice a len cap] w fun e w' => ∃ a' l' c', e = .returned (.slice a' l' c') ∧ Reads .i32 w' a' l' c' (mbA d) ∧ Below w.heap.size w w' := by
  have hsz := hr.size
  have hne : d ≠ [] := fun h => by rw [h, List.length_nil] at hsz; omega
  have hA := mbA_rd7 hd hne
  rw [hA]
  have hal := (Below.refl w.heap.size w).alloc (Nat.le_refl _) (.cells #[.int .u8 43] 5)
  have hO0 : Hid (Own .u8 5 w.heap.size (w.alloc (.cells #[.int .u8 43] 5)) (.slice (some ⟨w.heap.size, 0, none⟩) 1 1) [43]) := own_litM .u8 5 w [43] (by decide) (by decide)
  have HU := hid (bmod_Usual a len cap d (w.alloc (.cells #[.int .u8 43] 5)) (hr.below hal) (by omega))
  have hxl := hid (show (turnL 44 47 d).length < 90000 by have := mbX_len d; unfold mbX at this; omega)
  have HAL := hid hal
  unfold mbX
  have HR := hid (fun a2 l2 c2 W (h : Reads .u8 W a2 l2 c2 ([43] ++ turnL 44 47 d)) => sread_Read a2 l2 c2 (43 :: turnL 44 47 d) W h (by have := h.size; have := hxl.out; simp only [List.length_append, List.length_cons, List.length_nil] at *; omega))
  generalize rd7 (43 :: turnL 44 47 d) = T at *
  clear hr hne hA hd hal hsz
  go_enter Tryz.func42, Tryz.ntmps42
  go_wp2_with (first
    | (go_at_call 36; (with_reducible refine HU.out.mono ?_); rintro e w1 ⟨a1, l1, c1, rfl, r1, hb1⟩; have hO1 := hO0.out.below hb1; have hb01 := below_then HAL.out hb1; have hl1 : l1 ≤ 90000 := (by have := r1.size; have := hxl.out; omega))
    | (at_builtin; go_must (refine wpList_more (v := .slice (some ⟨w.heap.size, 0, none⟩) 1 1) (xs := [43]) (ao := a1) (m := l1) (c := c1) CT8 rfl _ _ rfl (w0 := w) rfl rfl hO1 hb01 r1 (by simp; omega) ?_); intro v3 w3 ho3 hb3; (obtain ⟨a3, n3, c3, rfl, r3⟩ := own_readsE ho3))
    | (go_at_call 70; (with_reducible refine (HR.out _ _ _ _ r3).mono ?_); rintro e w4 ⟨a4, c4, rfl, r4, hb4⟩))
  go_ret
  exact ⟨_, _, _, rfl, r4, below_then hb3 hb4⟩
set_option maxRecDepth 100000 in
set_option maxHeartbeats 2000000 in
theorem mseven_putPlain {w0 w : World} (a : Option Addr) (len cap : Nat) (xs : List Int) (hr : Reads .i32 w0 a len cap xs) (hb : Below w0.heap.size w0 w) (ha : ∀ x ∈ xs, mbPrt x = true) (v : Value) (ys : List Int) (ho : Own .u8 5 w0.heap.size w v ys) (hN : ys.length < 100000000000) (hL : len < 1000000) :
    Calls Tryz.prog 22 #[v, .slice a len cap] w fun e w' => ∃ a' n' c', e = .returned (.slice a' n' c') ∧ Own .u8 5 w0.heap.size w' (.slice a' n' c') (ys ++ plP xs) ∧ w.grownBy w' v.ownBlock := by
  have HR := hid hr
  have hl := hr.len_le
  have hsz := hr.size
  obtain ⟨n, nl, cp, rfl⟩ := ho.shape
  obtain ⟨row, hrow⟩ : ∃ row, row = (Value.slice n nl cp).ownBlock := ⟨_, rfl⟩
  rw [← hrow]
  have HO := hid ho
  have HA := hid ha
  have HRW := hid hrow
  have HB := hid hb
  clear hr ho ha hrow hb
  go_enter Tryz.func22, Tryz.ntmps22
  go_wp2_with fail
  go_loopw [0, 9] (fun o i wr => ∃ (k : Nat) (a' : Option Addr) (n' c' : Nat), k ≤ len ∧ i = .int .i64 k ∧ o = .slice a' n' c' ∧ Own .u8 5 w0.heap.size wr (.slice a' n' c') (ys ++ plP (xs.take k)) ∧ w.grownBy wr row ∧ Below w0.heap.size w0 wr ∧ Hid ((Value.slice a' n' c').ownBlock = row ∨ ∃ j, (Value.slice a' n' c').ownBlock = some j ∧ w.heap.size ≤ j)) (fun _ i _ => len - (intOf i).toNat)
  case atStart => exact ⟨0, n, nl, cp, Nat.zero_le _, rfl, rfl, by simpa [plP] using HO.out, ⟨rfl, rfl, rfl, Nat.le_refl _, fun _ _ _ => rfl⟩, HB.out, .inl HRW.out.symm⟩
  case round =>
    obtain ⟨k, a', n', c', hk, rfl, rfl, hown, hgr, hbel, hrel⟩ := hrel
    by_cases hlt : k < len
    · obtain ⟨b, off, x, rfl, _, hc, h0, h1, hx⟩ := (HR.out.below hbel).getR hlt
      have hpx := (mbPrt_iff x).1 (HA.out x (List.mem_of_getElem? hx.out.1))
      have hsn := hid (show plP (xs.take (k + 1)) = plP (xs.take k) ++ (if x = 38 then [38, 45] else [x]) by rw [hx.out.2, plP_snoc])
      obtain ⟨p0, p1⟩ := hpx
      have hw8 : Hid ((Lit.int .u8 x).wf = true) := mk_u8 (by omega) (by omega)
      have hpl := plP_len (xs.take k)
      rw [List.length_take] at hpl
      have hws := hbel.size
      have hgs := hgr.size
      have HL := hid (show (ys ++ plP (xs.take k)).length < 200000000000 by rw [List.length_append]; omega)
      clear hpl hx
      by_cases h38 : x = 38
      · subst h38
        rw [if_pos rfl] at hsn
        go_wp2_with (first
          | (at_builtin; have hX := ho4; clear hX; go_must (refine wpList_moreO (B0 := w0.heap.size) (W := w4.alloc (.cells #[.int .u8 45] 5)) (v := .slice a4 n4 c4) (ao := some ⟨w4.heap.size, 0, none⟩) (m := 1) (c := 1) (ys := [45]) CT8 rfl _ _ rfl rfl rfl (ho4.below ((Below.refl _ _).alloc (Nat.le_refl _) _)) (by rw [World.size_alloc]; have := hb4.size; omega) (Reads.lit .u8 5 w4 [45] (by decide) (by decide)) (by have := HL.out; simp at this ⊢; omega) ?_); intro a5 n5 c5 w5 ho5 hg5 hk5)
          | (at_builtin; go_must (refine wpList_moreO (B0 := w0.heap.size) (W := wr.alloc (.cells #[.int .u8 38] 5)) (v := .slice a' n' c') (ao := some ⟨wr.heap.size, 0, none⟩) (m := 1) (c := 1) (ys := [38]) CT8 rfl _ _ rfl rfl rfl (hown.below ((Below.refl _ _).alloc (Nat.le_refl _) _)) (by rw [World.size_alloc]; omega) (Reads.lit .u8 5 wr [38] (by decide) (by decide)) (by have := HL.out; simp at this ⊢; omega) ?_); intro a4 n4 c4 w4 ho4 hg4 hk4; have hb4 := (hbel.alloc hbel.size (.cells #[.int .u8 38] 5)).grown hg4 (by rw [World.size_alloc]; omega) (fun j hj => (hown.1.lt j hj).1); have hr4 := hid (row_next hk4 hrel.out (by rw [World.size_alloc]; omega)); have hgw4 := grown_then hgr (grownBy_t (grown_of ((Below.refl _ _).alloc (Nat.le_refl _) (.cells #[.int .u8 38] 5)) _) hg4) hrel.out))
        have hs4 := hgw4.size
        have hb5 := (hb4.alloc hb4.size (.cells #[.int .u8 45] 5)).grown hg5 (by rw [World.size_alloc]; have := hb4.size; omega) (fun j hj => (ho4.1.lt j hj).1)
        have hr5 := hid (row_next hk5 hr4.out (by rw [World.size_alloc]; omega))
        have hgw5 := grown_then hgw4 (grownBy_t (grown_of ((Below.refl _ _).alloc (Nat.le_refl _) (.cells #[.int .u8 45] 5)) _) hg5) hr4.out
        have ho6 : Own .u8 5 w0.heap.size w5 (.slice a5 n5 c5) (ys ++ plP (xs.take (k + 1))) := by rw [hsn.out]; simpa using ho5
        clear hg5 hk5 ho5 hg4 hk4 ho4
        go_roundw
        case rel => exact ⟨k + 1, a5, n5, c5, by omega, by go_num, rfl, ho6, hgw5, hb5, hr5⟩
        case measure => simp [intOf]; omega
      · rw [if_neg h38] at hsn
        have hn : (x == 38) = false := by simpa using h38
        clear h38
        go_wp2_with (at_builtin; go_must (refine wpList_moreO (B0 := w0.heap.size) (W := wr.alloc (.cells #[.int .u8 x] 5)) (v := .slice a' n' c') (ao := some ⟨wr.heap.size, 0, none⟩) (m := 1) (c := 1) (ys := [x]) CT8 rfl _ _ rfl rfl rfl (hown.below ((Below.refl _ _).alloc (Nat.le_refl _) _)) (by rw [World.size_alloc]; omega) (Reads.lit .u8 5 wr [x] (by simp [maxLen]) (by intro y hy; simp at hy; subst hy; exact hw8.out)) (by have := HL.out; simp at this ⊢; omega) ?_); intro a4 n4 c4 w4 ho4 hg4 hk4)
        have hb4 := (hbel.alloc hbel.size (.cells #[.int .u8 x] 5)).grown hg4 (by rw [World.size_alloc]; omega) (fun j hj => (hown.1.lt j hj).1)
        have hr4 := hid (row_next hk4 hrel.out (by rw [World.size_alloc]; omega))
        have hgw4 := grown_then hgr (grownBy_t (grown_of ((Below.refl _ _).alloc (Nat.le_refl _) (.cells #[.int .u8 x] 5)) _) hg4) hrel.out
        have ho6 : Own .u8 5 w0.heap.size w4 (.slice a4 n4 c4) (ys ++ plP (xs.take (k + 1))) := by rw [hsn.out]; simpa using ho4
        clear hg4 hk4 ho4
        go_roundw
        case rel => exact ⟨k + 1, a4, n4, c4, by omega, by go_num, rfl, ho6, hgw4, hb4, hr4⟩
        case measure => simp [intOf]; omega
    · have hown' := hown
      rw [List.take_of_length_le (by omega)] at hown'
      clear hown
      go_wp2_with fail
      go_ret
      exact ⟨_, _, _, rfl, hown', hgr⟩
set_option maxRecDepth 100000 in
set_option maxHeartbeats 2000000 in
theorem mseven_putRun {w0 w : World} (a : Option Addr) (len cap : Nat) (xs : List Int) (hr : Reads .i32 w0 a len cap xs) (hb : Below w0.heap.size w0 w) (v : Value) (ys : List Int) (ho : Own .u8 5 w0.heap.size w v ys) (hN : ys.length < 100000000000) (hL : len < 1000000) :
    Calls Tryz.prog 23 #[v, .slice a len cap] w fun e w' => ∃ a' n' c', e = .returned (.slice a' n' c') ∧ Own .u8 5 w0.heap.size w' (.slice a' n' c') (ys ++ mbClose xs) ∧ w.grownBy w' v.ownBlock := by
  have HR := hid hr
  have hl := hr.len_le
  have hsz := hr.size
  obtain ⟨n, nl, cp, rfl⟩ := ho.shape
  obtain ⟨row, hrow⟩ : ∃ row, row = (Value.slice n nl cp).ownBlock := ⟨_, rfl⟩
  rw [← hrow]
  have HO := hid ho
  have HRW := hid hrow
  have HB := hid hb
  have hrel : Hid ((Value.slice n nl cp).ownBlock = row ∨ ∃ j, (Value.slice n nl cp).ownBlock = some j ∧ w.heap.size ≤ j) := .inl hrow.symm
  have hws := hb.size
  have hgr : w.grownBy w row := ⟨rfl, rfl, rfl, Nat.le_refl _, fun _ _ _ => rfl⟩
  unfold mbClose
  by_cases hp : 0 < len
  · have hne : xs ≠ [] := fun h => by rw [h, List.length_nil] at hsz; omega
    rw [if_neg hne]
    have HC := hid (fun W (hW : Below w0.heap.size w0 W) => mseven_CodeO a len cap xs W (HR.out.below hW) hL)
    have hcl := hid (mbCod_le xs)
    have hnl : ¬ len = 0 := by omega
    clear hr ho hrow hb hne hp
    go_enter Tryz.func23, Tryz.ntmps23
    go_wp2_with (first
      | (at_builtin; have hX := ho6; clear hX; go_must (refine wpList_moreO (B0 := w0.heap.size) (W := w6.alloc (.cells #[.int .u8 45] 5)) (v := .slice a6 n6 c6) (ao := some ⟨w6.heap.size, 0, none⟩) (m := 1) (c := 1) (ys := [45]) CT8 rfl _ _ rfl rfl rfl (ho6.below ((Below.refl _ _).alloc (Nat.le_refl _) _)) (by rw [World.size_alloc]; have := hb6.size; omega) (Reads.lit .u8 5 w6 [45] (by decide) (by decide)) (by have := hcl.out; simp at this ⊢; omega) ?_); intro a7 n7 c7 w7 ho7 hg7 hk7)
      | (at_builtin; have hX := ho5; clear hX; go_must (refine wpList_moreO (B0 := w0.heap.size) (v := .slice a4 n4 c4) (ao := a5) (m := (mbCod xs).length) (c := c5) CT8 rfl _ _ rfl rfl rfl ho45 (Nat.le_trans hb4.size hb5.size) hr5 (by have := hcl.out; simp; omega) ?_); intro a6 n6 c6 w6 ho6 hg6 hk6; have hb45 := below_then hb4 hb5; have hb6 := hb45.grown hg6 hb45.size (fun j hj => (ho4.1.lt j hj).1); have hgw5 := grownBy_t hgw4 (grown_of hb5 row); have hr6 := hid (row_next hk6 hr4.out (hgw5.size)); have hgw6 := grown_then hgw5 hg6 hr4.out)
      | (go_at_call 11; (with_reducible refine (HC.out _ hb4).mono ?_); rintro e w5 ⟨v5, rfl, ho5, hb5⟩; (obtain ⟨a5, c5, rfl, hr5⟩ := ho5.reads); have ho45 := ho4.below hb5)
      | (at_builtin; go_must (refine wpList_moreO (B0 := w0.heap.size) (W := w.alloc (.cells #[.int .u8 38] 5)) (v := .slice n nl cp) (ao := some ⟨w.heap.size, 0, none⟩) (m := 1) (c := 1) (ys := [38]) CT8 rfl _ _ rfl rfl rfl (HO.out.below ((Below.refl _ _).alloc (Nat.le_refl _) _)) (by rw [World.size_alloc]; omega) (Reads.lit .u8 5 w [38] (by decide) (by decide)) (by omega) ?_); intro a4 n4 c4 w4 ho4 hg4 hk4; have hb4 := (HB.out.alloc HB.out.size (.cells #[.int .u8 38] 5)).grown hg4 (by rw [World.size_alloc]; omega) (fun j hj => (HO.out.1.lt j hj).1); have hr4 := hid (row_next hk4 hrel.out (by rw [World.size_alloc]; omega)); have hgw4 := grown_then hgr (grownBy_t (grown_of ((Below.refl _ _).alloc (Nat.le_refl _) (.cells #[.int .u8 38] 5)) _) hg4) hrel.out))
    have hgw7 := grown_then hgw6 (grownBy_t (grown_of ((Below.refl _ _).alloc (Nat.le_refl _) (.cells #[.int .u8 45] 5)) _) hg7) hr6.out
    go_ret
    exact ⟨_, _, _, rfl, by simpa using ho7, hgw7⟩
  · obtain rfl : len = 0 := by omega
    rw [if_pos (List.eq_nil_of_length_eq_zero hsz), List.append_nil]
    clear hr ho hrow hb hsz
    go_enter Tryz.func23, Tryz.ntmps23
    go_wp2_with fail
    go_ret
    exact ⟨_, _, _, rfl, HO.out, hgr⟩
end Go.Proofs.YtfnolkkmldiimaaGreatDoor
