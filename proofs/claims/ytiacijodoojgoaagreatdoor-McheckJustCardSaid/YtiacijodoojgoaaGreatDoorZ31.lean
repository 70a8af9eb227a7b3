/-
  Texts of ours laid together: R24, Keep.
-/
import Derived.ArgAppend
import Derived.Test.YtiacijodoojgoaaGreatDoorZ30

/-! R24 -/
namespace Go.Proofs.YtiacijodoojgoaaGreatDoor
open Go.RowKit
set_option linter.unusedVariables false

theorem own_lit24 (k : IntKind) (e : TypeId) (w : World) (xs : List Int) (hm : xs.length ≤ maxLen) (hwf : ∀ x ∈ xs, (Lit.int k x).wf = true) :
    Own k e w.heap.size (w.alloc (.cells (xs.map (Value.int k)).toArray e)) (.slice (some ⟨w.heap.size, 0, none⟩) xs.length xs.length) xs := by
  refine ⟨⟨by simp, .inr ⟨w.heap.size, xs.length, (xs.map (Value.int k)).toArray, rfl, Nat.le_refl _, heap_alloc_new w _, Nat.le_refl _, hm, by simp, ?_⟩⟩, hwf⟩
  rw [List.toList_toArray, Nat.mul_one]
  exact List.take_of_length_le (by simp)
theorem rd7_digs {X : List Int} (h : X.all isDig = true) (hne : X ≠ []) : rd7 (43 :: X) = runT X ++ lftT X := by
  have e := take_digs (rest := []) h rfl
  rw [List.append_nil] at e
  have hh : hdB isDig X = true := by
    cases X with
    | nil => exact absurd rfl hne
    | cons x d => rw [List.all_cons, Bool.and_eq_true] at h; exact h.1
  have hd : digN X = X.length := by unfold digN; rw [e]
  have e1 : u7 (43 :: X) = (runT X ++ lftT X, runOk X, true) := by rw [u7, if_neg (by decide), if_neg (by decide), if_pos hh, e]
  have e2 : nx7 (43 :: X) = 1 + X.length := by
    rw [nx7, if_neg (by decide), if_pos hh, hd, List.drop_of_length_le (Nat.le_refl _)]; rfl
  rw [rd7_cons, e1, e2, List.drop_of_length_le (by rw [List.length_cons]; omega), rd7_nil.1, List.append_nil]
theorem mbA_nil : mbA [] = [] ∧ mbT [] = [] ∧ mbK [] = true := by decide +kernel

theorem ref24_Direct (c : Int) (w : World) :
    Calls Tryz.prog 13 #[.int .i32 c] w fun e w' => e = .returned (.bool (mbDir c)) ∧ w = w' := by
  by_cases h1 : 32 ≤ c
  · by_cases h2 : c ≤ 126
    · by_cases h3 : c = 38
      · subst h3
        go_enter Tryz.func13, Tryz.ntmps13
        go_wp2_with fail
        go_ret
        exact ⟨rfl, rfl⟩
      · have hd := mbDir_of ((mbPrt_iff c).2 ⟨h1, h2⟩) h3
        have e3 : (c != 38) = true := by simpa using h3
        rw [hd]
        clear hd h3
        go_enter Tryz.func13, Tryz.ntmps13
        go_wp2_with fail
        go_ret
        exact ⟨rfl, rfl⟩
    · have hd : mbDir c = false := by unfold mbDir mbPrt; rw [decide_eq_false (fun h => h2 h.2)]; rfl
      rw [hd]
      clear hd
      go_enter Tryz.func13, Tryz.ntmps13
      go_wp2_with fail
      go_ret
      exact ⟨rfl, rfl⟩
  · have hd : mbDir c = false := by unfold mbDir mbPrt; rw [decide_eq_false (fun h => h1 h.1)]; rfl
    rw [hd]
    clear hd
    go_enter Tryz.func13, Tryz.ntmps13
    go_wp2_with fail
    go_ret
    exact ⟨rfl, rfl⟩
set_option maxHeartbeats 2000000 in
theorem ref24_Code (a : Option Addr) (len cap : Nat) (xs : List Int) (w : World) (hr : Reads .i32 w a len cap xs) (hN : len < 1000000) :
    Calls Tryz.prog 17 #[.slice a len cap] w fun e w' => ∃ v, e = .returned v ∧ Own .u8 5 w.heap.size w' v (mbCod xs) ∧ Below w.heap.size w w' := by
  unfold mbCod
  by_cases hs : xs.all scB = true
  · rw [if_pos hs]
    have hL := ref06_Lay a len cap xs w hr (by omega) hs
    have hu : (unL xs).length ≤ 2 * len := by have := unL_len xs; have := hr.size; omega
    have ho : (ocU (unL xs)).length ≤ 4 * len := by have := ocU_len (unL xs); omega
    generalize unL xs = U at hL hu ho ⊢
    obtain ⟨n, hn⟩ : ∃ n, n = U.length := ⟨_, rfl⟩
    obtain ⟨m, hm⟩ : ∃ m, m = (ocU U).length := ⟨_, rfl⟩
    rw [← hn] at hL hu
    rw [← hm] at ho
    have HL := hid hL
    have HM := hid hm
    clear hr hL hn hm hs
    go_enter Tryz.func17, Tryz.ntmps17
    go_wp2_with (first
      | (go_at_call 25; (with_reducible refine HL.out.mono ?_); rintro e w1 ⟨a1, c1, rfl, r1, h1⟩)
      | (go_at_call 27; (with_reducible refine (ref06_Octets _ _ _ _ _ r1 (by omega)).mono ?_); rintro e w2 ⟨a2, c2, rfl, r2, h2⟩; rw [← HM.out] at r2; rw [← HM.out]; have t2 := below_then h1 h2)
      | (go_at_call 26; (with_reducible refine (ref17_Lay _ _ _ _ _ r2 (by omega)).mono ?_); rintro e w3 ⟨v3, rfl, o3, h3⟩; have t3 := below_then t2 h3))
    go_ret
    exact ⟨_, rfl, own_mono o3 t2.size, t3⟩
  · rw [if_neg hs]
    have HL := hid (ref06_LayNo a len cap xs w hr (by simpa using hs))
    clear hr hs
    go_enter Tryz.func17, Tryz.ntmps17
    go_wp2_with (go_at_call 25; (with_reducible refine HL.out.mono ?_); rintro e w1 ⟨rfl, rfl⟩)
    go_ret
    exact ⟨_, rfl, Own.nil _ _ _ _, Below.refl _ _⟩
set_option maxHeartbeats 1000000 in
theorem ref24_digit (a : Option Addr) (len cap : Nat) (xs : List Int) (w : World) (hr : Reads .u8 w a len cap xs) (n : Nat) (i : Int) (hi : i = n) :
    Calls Tryz.prog 14 #[.slice a len cap, .int .i64 i] w fun e w' => e = .returned (.bool (hdB isM (xs.drop n))) ∧ w = w' := by
  subst hi
  have HR := hid hr
  have hsz := hr.size
  have hl := hr.len_le
  clear hr
  by_cases hlt : n < len
  · obtain ⟨b, off, x, rfl, _, hc, h0, h1, hx⟩ := HR.out.get8 hlt
    have e : xs.drop n = x :: xs.drop (n + 1) := drop_at hx.out.1
    have HV := hid (ref17_Value x w h0 h1)
    rw [e, show hdB isM (x :: xs.drop (n + 1)) = isM x from rfl]
    clear e
    go_enter Tryz.func14, Tryz.ntmps14
    go_wp2_with (go_at_call 20; (with_reducible refine HV.out.mono ?_); rintro e w4 ⟨rfl, rfl⟩)
    go_ret
    exact ⟨rfl, rfl⟩
  · rw [List.drop_of_length_le (by omega), show hdB isM [] = false from rfl]
    go_enter Tryz.func14, Tryz.ntmps14
    go_wp2_with fail
    go_ret
    exact ⟨rfl, rfl⟩
set_option maxRecDepth 100000 in
set_option maxHeartbeats 4000000 in
theorem ref24_Run (a : Option Addr) (len cap : Nat) (xs : List Int) (w : World) (hr : Reads .u8 w a len cap xs) (hN : len < 900000) :
    Calls Tryz.prog 15 #[.slice a len cap] w fun e w' => ∃ a1 m1 c1 a2 m2 c2, e = .returned (.tuple #[.slice a1 m1 c1, .bool (mbK xs), .slice a2 m2 c2]) ∧ Reads .i32 w' a1 m1 c1 (mbT xs) ∧ Reads .i32 w' a2 m2 c2 (mbA xs) ∧ Below w.heap.size w w' := by
  have HR := hid hr
  have hl := hr.len_le
  have hsz := hr.size
  have HUs := hid (ref17_Usual a len cap xs w hr (by omega))
  have hXl := mbX_len xs
  rw [hsz] at hXl
  rw [show turnL 44 47 xs = mbX xs from rfl] at HUs
  clear hr
  have hno : Hid (xs.all isM = false → mbT xs = [] ∧ mbA xs = [] ∧ mbK xs = false) := fun h => by
    unfold mbT mbA mbK
    rw [h]
    exact ⟨rfl, rfl, rfl⟩
  have hye : Hid (xs.all isM = true → mbT xs = runT (mbX xs) ∧ mbA xs = runT (mbX xs) ++ lftT (mbX xs) ∧ mbK xs = runOk (mbX xs) ∧ (mbX xs).all isDig = true) := fun h => by
    unfold mbT mbA mbK
    rw [h, if_pos rfl, if_pos rfl]
    exact ⟨rfl, rfl, rfl, turnL_dig h⟩
  go_enter Tryz.func15, Tryz.ntmps15
  go_wp2_with fail
  go_loop [5] (fun i => ∃ k : Nat, k ≤ len ∧ i = .int .i64 k ∧ Hid ((xs.take k).all isM = true)) (fun i => len - (intOf i).toNat)
  case atStart => exact ⟨0, Nat.zero_le _, rfl, rfl⟩
  case round =>
    obtain ⟨k, hk, rfl, hn⟩ := hrel
    by_cases hlt : k < len
    · obtain ⟨b, off, x, rfl, _, hc, h0, h1, hx⟩ := HR.out.get8 hlt
      have HV := hid (ref17_Value x w h0 h1)
      cases hs : isM x
      · rw [hs] at HV
        obtain ⟨e1, e2, e3⟩ := hno.out (all_no hx.out.1 hs)
        have E1 := hid e1
        have E2 := hid e2
        have E3 := hid e3
        clear e1 e2 e3 hs HUs
        go_wp2_with (go_at_call 20; (with_reducible refine HV.out.mono ?_); rintro e w4 ⟨rfl, rfl⟩)
        go_ret3
        exact ⟨none, 0, 0, none, 0, 0, by rw [E3.out]; rfl, by rw [E1.out]; exact Reads.nil _ _ _ _ (Nat.zero_le _), by rw [E2.out]; exact Reads.nil _ _ _ _ (Nat.zero_le _), Below.refl _ _⟩
      · rw [hs] at HV
        have HS := hid (all_yes hx.out.2 hn.out hs)
        clear hs HUs
        go_wp2_with (go_at_call 20; (with_reducible refine HV.out.mono ?_); rintro e w4 ⟨rfl, rfl⟩)
        go_round
        case rel => exact ⟨k + 1, by omega, by go_num, HS⟩
        case measure => simp [intOf]; omega
    · have hall : xs.all isM = true := by rw [← HR.out.all (show len ≤ k by omega)]; exact hn.out
      obtain ⟨e1, e2, e3, hdg⟩ := hye.out hall
      have hnil : Hid (len = 0 → mbA xs = []) := fun h => by
        obtain rfl : xs = [] := List.eq_nil_of_length_eq_zero (by omega)
        exact mbA_nil.1
      have hX0 : Hid (len ≠ 0 → mbA xs = rd7 (43 :: mbX xs)) := fun h => by
        rw [e2, rd7_digs hdg (fun h' => by rw [h', List.length_nil] at hXl; omega)]
      have E1 := hid e1
      have E3 := hid e3
      clear hno hye hn hall e1 e2 e3 hdg hk
      generalize mbX xs = X at *
      have HXL := hid hXl
      have hw43 : Hid (∀ y ∈ [(43 : Int)], (Lit.int .u8 y).wf = true) := by unfold Hid; decide
      clear hXl
      by_cases h0 : len = 0
      · have HA := hid (hnil.out h0)
        subst h0
        clear hnil hX0
        have hL3 : Hid (([43] ++ X).length = 1) := by unfold Hid; rw [List.length_append, HXL.out]; rfl
        go_wp2_with (first
          | (go_at_call 21; (with_reducible refine HUs.out.mono ?_); rintro e w1 ⟨v1, rfl, o1, h1⟩; obtain ⟨a1, c1, rfl, r1⟩ := o1.reads; rw [HXL.out] at r1; rw [HXL.out])
          | (go_at_call 22; (with_reducible refine (ref23_Run _ _ _ _ _ r1 (by omega)).mono ?_); rintro e w2 ⟨a2, m2, c2, rfl, r2, h2⟩; have t2 := below_then h1 h2; have r12 := r1.below h2)
          | (at_builtin; go_must (refine wpList_more ST8 rfl _ _ rfl (w0 := w2) (v := .slice (some ⟨w2.heap.size, 0, none⟩) 1 1) (xs := [43]) rfl rfl (own_lit24 .u8 5 w2 [43] (by decide) hw43.out) ((Below.refl _ _).alloc (Nat.le_refl _) _) (r12.below ((Below.refl _ _).alloc (Nat.le_refl _) _)) (by simp) ?_); intro v3 w3 o3 h3; obtain ⟨a3, c3, hv3, r3⟩ := o3.reads; rw [hL3.out] at hv3 r3; subst hv3; have t3 := below_then t2 h3; have r23 := r2.below h3)
          | (go_at_call 23; (with_reducible refine (ref23_Read _ _ _ _ _ r3 (by omega)).mono ?_); rintro e w4 ⟨v4, rfl, o4, h4⟩; have t4 := below_then t3 h4; have r24 := r23.below h4; obtain ⟨a4, c4, rfl, r4⟩ := o4.reads))
        go_ret3
        exact ⟨_, _, _, _, _, _, by rw [E3.out]; rfl, by rw [E1.out]; exact r24, by rw [HA.out]; exact Reads.nil _ _ _ _ (Nat.zero_le _), t4⟩
      · have HA := hid (hX0.out h0)
        clear hnil hX0
        have hL3 : Hid (([43] ++ X).length = len + 1) := by unfold Hid; rw [List.length_append, HXL.out]; show 1 + len = len + 1; omega
        go_wp2_with (first
          | (go_at_call 21; (with_reducible refine HUs.out.mono ?_); rintro e w1 ⟨v1, rfl, o1, h1⟩; obtain ⟨a1, c1, rfl, r1⟩ := o1.reads; rw [HXL.out] at r1; rw [HXL.out])
          | (go_at_call 22; (with_reducible refine (ref23_Run _ _ _ _ _ r1 (by omega)).mono ?_); rintro e w2 ⟨a2, m2, c2, rfl, r2, h2⟩; have t2 := below_then h1 h2; have r12 := r1.below h2)
          | (at_builtin; go_must (refine wpList_more ST8 rfl _ _ rfl (w0 := w2) (v := .slice (some ⟨w2.heap.size, 0, none⟩) 1 1) (xs := [43]) rfl rfl (own_lit24 .u8 5 w2 [43] (by decide) hw43.out) ((Below.refl _ _).alloc (Nat.le_refl _) _) (r12.below ((Below.refl _ _).alloc (Nat.le_refl _) _)) (by simp; omega) ?_); intro v3 w3 o3 h3; obtain ⟨a3, c3, hv3, r3⟩ := o3.reads; rw [hL3.out] at hv3 r3; subst hv3; have t3 := below_then t2 h3; have r23 := r2.below h3)
          | (go_at_call 23; (with_reducible refine (ref23_Read _ _ _ _ _ r3 (by omega)).mono ?_); rintro e w4 ⟨v4, rfl, o4, h4⟩; have t4 := below_then t3 h4; have r24 := r23.below h4; obtain ⟨a4, c4, rfl, r4⟩ := o4.reads))
        go_ret3
        exact ⟨_, _, _, _, _, _, by rw [E3.out]; rfl, by rw [E1.out]; exact r24, by rw [HA.out]; exact r4, t4⟩
end Go.Proofs.YtiacijodoojgoaaGreatDoor

/-! Keep -/
namespace Go.Proofs.YtiacijodoojgoaaGreatDoor
open Go.RowKit
set_option linter.unusedVariables false

theorem own_mono' {k : IntKind} {e : TypeId} {base base' : Nat} {w : World} {v : Value} {xs : List Int} (h : Own k e base w v xs) (hb : base' ≤ base) : Own k e base' w v xs := by
  refine ⟨⟨h.1.1, ?_⟩, h.2⟩
  rcases h.1.2 with h' | ⟨g, cap, cur, h1, h2, h3⟩
  · exact .inl h'
  · exact .inr ⟨g, cap, cur, h1, Nat.le_trans hb h2, h3⟩
theorem Own.fresh {k : IntKind} {e : TypeId} {base : Nat} {w : World} {a : Option Addr} {n c : Nat} {xs : List Int} (h : Own k e base w (.slice a n c) xs) : ∀ b off, a = some ⟨b, off, none⟩ → base ≤ b := by
  intro b off ha
  rcases h.1.2 with ⟨hv, _⟩ | ⟨g, cap, cur, hv, hg, _⟩
  · cases hv; cases ha
  · cases hv; cases ha; exact hg
theorem Own.blockLt {k : IntKind} {e : TypeId} {base : Nat} {w : World} {v : Value} {xs : List Int} (h : Own k e base w v xs) : ∀ j, v.ownBlock = some j → j < w.heap.size := fun j hj => (h.1.lt j hj).2
theorem Reads.sameBlock {k : IntKind} {w w' : World} {a : Option Addr} {len cap : Nat} {xs : List Int} (h : Reads k w a len cap xs) (hs : w.heap.size ≤ w'.heap.size) (hb : ∀ b off, a = some ⟨b, off, none⟩ → w'.heap[b]? = w.heap[b]?) : Reads k w' a len cap xs := by
  refine ⟨h.size, h.room, h.top, h.wf, fun hl => ?_⟩
  obtain ⟨b, off, ha, hlt, hc⟩ := h.cell hl
  refine ⟨b, off, ha, Nat.lt_of_lt_of_le hlt hs, fun i hi => ?_⟩
  rw [World.cell?_of_block (w := w) (hb b off ha)]
  exact hc i hi
section
variable {P : Program} {ops : Array Oper} {rest : List Oper} {o : Oper} {a : Act} {Q : Exit → Act → World → Prop} {t e : TypeId} {k : IntKind} {by_ : Nat}
theorem wpList_pushsK (ST : SliceT P t e k by_) (ys : List Int) (hgd : o.guard = none) (s x : Operand) (ho : o.op = .call { callee := .builtin .append, args := #[s, x], argTypes := #[t, t] })
    {w0 wr : World} {e' : TypeId} {v : Value} {xs : List Int} (hs : a.eval s = v) (hx : ∃ c, a.eval x = .slice (some ⟨wr.heap.size, 0, none⟩) ys.length c)
    (hown : Own k e w0.heap.size wr v xs) (hbel : Below w0.heap.size w0 wr) (hlen : xs.length + ys.length < 1000000000000) (hwf : ∀ y ∈ ys, (Lit.int k y).wf = true)
    (h : ∀ v' w', Own k e w0.heap.size w' v' (xs ++ ys) → Below w0.heap.size w0 w' →
      (∀ (k2 : IntKind) (ao : Option Addr) (n c : Nat) (zs : List Int), Reads k2 wr ao n c zs → (∀ b off, ao = some ⟨b, off, none⟩ → v.ownBlock ≠ some b) → Reads k2 w' ao n c zs) → wpList P ops Q rest (a.put o.dst v') w') :
    wpList P ops Q (o :: rest) a (wr.alloc (.cells (ys.map (Value.int k)).toArray e')) := by
  obtain ⟨i, hi, hz0, hz1, hz2⟩ := info_parts ST.info
  obtain ⟨c, hx⟩ := hx
  have hsm := ST.small
  have hmul : (xs.length + ys.length) * by_ ≤ (xs.length + ys.length) * 8 := Nat.mul_le_mul_left _ hsm
  refine wpList_append_own _ hgd s x t ho w0.heap.size e i (.int k 0) 1 by_ ST.under hi hz0 hz1 hz2 rfl (by decide) v xs.length (xs.map (Value.int k)) hs (hown.1.alloc _) ⟨wr.heap.size, 0, none⟩ ys.length c (ys.map (Value.int k)) hx (by simp) ?_ (ints_oneCell _ _) (by unfold maxLen; omega) (by omega)
    (Nat.le_trans hbel.size (by simp)) ?_
  · intro j u hj
    rw [Addr.add_lit, World.cell?_alloc_at _ _ _ _ rfl]
    simpa using hj
  · intro v' w' hown' hgrow _
    refine h v' w' ⟨by simpa using hown', ?_⟩ ((hbel.alloc hbel.size _).grown hgrow (Nat.le_trans hbel.size (by simp)) (fun j hj => (hown.1.lt j hj).1)) ?_
    · intro z hz
      rcases List.mem_append.1 hz with hz | hz
      · exact hown.2 z hz
      · exact hwf z hz
    · intro k2 ao n c2 zs hr hne
      have h1 : Reads k2 (wr.alloc (.cells (ys.map (Value.int k)).toArray e')) ao n c2 zs := hr.below ((Below.refl _ _).alloc (Nat.le_refl _) _)
      by_cases hn : 0 < n
      · obtain ⟨b, off, ha, hlt, _⟩ := h1.cell hn
        refine h1.sameBlock hgrow.size fun b' off' ha' => ?_
        rw [ha] at ha'
        cases ha'
        exact hgrow.block b hlt (fun hh => hne b off ha hh.symm)
      · exact ⟨h1.size, h1.room, h1.top, h1.wf, fun hl => absurd hl hn⟩
/-- Append to a full slice that is not the call's own: a new row. -/
theorem wpList_grows (ST : SliceT P t e k by_) (hgd : o.guard = none) (s x : Operand) (ho : o.op = .call { callee := .builtin .append, args := #[s, x], argTypes := #[t, t] })
    {w0 wr : World} {b1 : Addr} {n cap m c : Nat} {a2 : Option Addr} {xs ys : List Int} (hs : a.eval s = .slice (some b1) n cap) (hx : a.eval x = .slice a2 m c)
    (hr1 : Reads k wr (some b1) n cap xs) (hr2 : Reads k wr a2 m c ys) (hbel : Below w0.heap.size w0 wr) (hm : 0 < m) (hfull : cap < n + m) (hlen : n + m < 1000000000000)
    (h : ∀ v' w', Own k e w0.heap.size w' v' (xs ++ ys) → Below w0.heap.size w0 w' → wpList P ops Q rest (a.put o.dst v') w') :
    wpList P ops Q (o :: rest) a wr := by
  obtain ⟨i, hi, hz0, hz1, hz2⟩ := info_parts ST.info
  have hsm := ST.small
  have hmul : (n + m) * by_ ≤ (n + m) * 8 := Nat.mul_le_mul_left _ hsm
  have s1 := hr1.size
  have s2 := hr2.size
  obtain ⟨b, off, rfl, hb, hc⟩ := hr2.cell hm
  refine wpList_append_grows wr hgd s x t ho e i (.int k 0) 1 by_ ST.under hi hz0 hz1 hz2 rfl (by decide) (some b1) n cap (xs.map (Value.int k)) hs (fun hh => by cases hh) (by simp [s1]) ?_ ⟨b, off, none⟩ m c (ys.map (Value.int k)) hx (by simp [s2]) ?_ (ints_oneCell _ _) hfull (by unfold maxLen; omega) (by omega) ?_
  · intro b' hb' j u hj
    have hjl : j < xs.length := by have := (List.getElem?_eq_some_iff.1 hj).1; simpa using this
    obtain ⟨b0, off0, ha, _, hc0⟩ := hr1.cell (by omega)
    cases hb'
    cases ha
    rw [Addr.add_lit, hc0 j (by omega), ← hj, List.getElem?_map, List.getD_eq_getElem?_getD, List.getElem?_eq_getElem hjl]
    rfl
  · intro j u hj
    have hjl : j < ys.length := by have := (List.getElem?_eq_some_iff.1 hj).1; simpa using this
    rw [Addr.add_lit, hc j (by omega), ← hj, List.getElem?_map, List.getD_eq_getElem?_getD, List.getElem?_eq_getElem hjl]
    rfl
  · intro v' w' hown hgrow
    refine h v' w' (own_mono' ⟨by simpa [s1, s2] using hown, ?_⟩ hbel.size) (hbel.grown hgrow hbel.size (fun j hj => by cases hj))
    intro z hz
    rcases List.mem_append.1 hz with hz | hz
    · exact hr1.wf z hz
    · exact hr2.wf z hz
end
end Go.Proofs.YtiacijodoojgoaaGreatDoor
