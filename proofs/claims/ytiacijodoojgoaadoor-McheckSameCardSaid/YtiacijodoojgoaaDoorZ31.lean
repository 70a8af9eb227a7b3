/-
  Texts of ours laid together: R24.
-/
import Derived.Test.YtiacijodoojgoaaDoorZ30

/-! R24 -/
namespace Go.Proofs.YtiacijodoojgoaaDoor
open Go.RowKit
set_option linter.unusedVariables false

theorem own_lit24 (k : IntKind) (e : TypeId) (w : World) (xs : List Int) (hm : xs.length ≤ maxLen) (hwf : ∀ x ∈ xs, (Lit.int k x).wf = true) :
    Own k e w.heap.size (w.alloc (.cells (xs.map (Value.int k)).toArray e)) (.slice (some ⟨w.heap.size, 0, none⟩) xs.length xs.length) xs := by
  refine ⟨⟨by simp, .inr ⟨w.heap.size, xs.length, (xs.map (Value.int k)).toArray, rfl, Nat.le_refl _, heap_alloc_new w _, Nat.le_refl _, hm, by simp, ?_⟩⟩, hwf⟩
  rw [List.toList_toArray, Nat.mul_one]
  exact List.take_of_length_le (by simp)
theorem rd7_digs {X : List Int} (h : X.all isDig = true) (hne : X ≠ []) : rd7 (43 :: X) = runT X ++ lftT X := by
  have e := take_digs (rest := []) h rfl
  rw [List.append_nil] at e
  have hh : hdB isDig X = true := by
    cases X with
    | nil => exact absurd rfl hne
    | cons x d => rw [List.all_cons, Bool.and_eq_true] at h; exact h.1
  have hd : digN X = X.length := by unfold digN; rw [e]
  have e1 : u7 (43 :: X) = (runT X ++ lftT X, runOk X, true) := by rw [u7, if_neg (by decide), if_neg (by decide), if_pos hh, e]
  have e2 : nx7 (43 :: X) = 1 + X.length := by
    rw [nx7, if_neg (by decide), if_pos hh, hd, List.drop_of_length_le (Nat.le_refl _)]; rfl
  rw [rd7_cons, e1, e2, List.drop_of_length_le (by rw [List.length_cons]; omega), rd7_nil.1, List.append_nil]
theorem mbA_nil : mbA [] = [] ∧ mbT [] = [] ∧ mbK [] = true := by decide +kernel

theorem ref24_Direct (c : Int) (w : World) :
    Calls Tryd.prog 21 #[.int .i32 c] w fun e w' => e = .returned (.bool (mbDir c)) ∧ w = w' := by
  by_cases h1 : 32 ≤ c
  · by_cases h2 : c ≤ 126
    · by_cases h3 : c = 38
      · subst h3
        go_enter Tryd.func21, Tryd.ntmps21
        go_wp2_with fail
        go_ret
        exact ⟨rfl, rfl⟩
      · have hd := mbDir_of ((mbPrt_iff c).2 ⟨h1, h2⟩) h3
        have e3 : (c != 38) = true := by simpa using h3
        rw [hd]
        clear hd h3
        go_enter Tryd.func21, Tryd.ntmps21
        go_wp2_with fail
        go_ret
        exact ⟨rfl, rfl⟩
    · have hd : mbDir c = false := by unfold mbDir mbPrt; rw [decide_eq_false (fun h => h2 h.2)]; rfl
      rw [hd]
      clear hd
      go_enter Tryd.func21, Tryd.ntmps21
      go_wp2_with fail
      go_ret
      exact ⟨rfl, rfl⟩
  · have hd : mbDir c = false := by unfold mbDir mbPrt; rw [decide_eq_false (fun h => h1 h.1)]; rfl
    rw [hd]
    clear hd
    go_enter Tryd.func21, Tryd.ntmps21
    go_wp2_with fail
    go_ret
    exact ⟨rfl, rfl⟩
set_option maxHeartbeats 2000000 in
theorem ref24_Code (a : Option Addr) (len cap : Nat) (xs : List Int) (w : World) (hr : Reads .i32 w a len cap xs) (hN : len < 1000000) :
    Calls Tryd.prog 25 #[.slice a len cap] w fun e w' => ∃ v, e = .returned v ∧ Own .u8 5 w.heap.size w' v (mbCod xs) ∧ Below w.heap.size w w' := by
  unfold mbCod
  by_cases hs : xs.all scB = true
  · rw [if_pos hs]
    have hL := ref06_Lay a len cap xs w hr (by omega) hs
    have hu : (unL xs).length ≤ 2 * len := by have := unL_len xs; have := hr.size; omega
    have ho : (ocU (unL xs)).length ≤ 4 * len := by have := ocU_len (unL xs); omega
    generalize unL xs = U at hL hu ho ⊢
    obtain ⟨n, hn⟩ : ∃ n, n = U.length := ⟨_, rfl⟩
    obtain ⟨m, hm⟩ : ∃ m, m = (ocU U).length := ⟨_, rfl⟩
    rw [← hn] at hL hu
    rw [← hm] at ho
    have HL := hid hL
    have HM := hid hm
    clear hr hL hn hm hs
    go_enter Tryd.func25, Tryd.ntmps25
    go_wp2_with (first
      | (go_at_call 35; (with_reducible refine HL.out.mono ?_); rintro e w1 ⟨a1, c1, rfl, r1, h1⟩)
      | (go_at_call 37; (with_reducible refine (ref06_Octets _ _ _ _ _ r1 (by omega)).mono ?_); rintro e w2 ⟨a2, c2, rfl, r2, h2⟩; rw [← HM.out] at r2; rw [← HM.out]; have t2 := below_then h1 h2)
      | (go_at_call 36; (with_reducible refine (ref17_Lay _ _ _ _ _ r2 (by omega)).mono ?_); rintro e w3 ⟨v3, rfl, o3, h3⟩; have t3 := below_then t2 h3))
    go_ret
    exact ⟨_, rfl, own_mono o3 t2.size, t3⟩
  · rw [if_neg hs]
    have HL := hid (ref06_LayNo a len cap xs w hr (by simpa using hs))
    clear hr hs
    go_enter Tryd.func25, Tryd.ntmps25
    go_wp2_with (go_at_call 35; (with_reducible refine HL.out.mono ?_); rintro e w1 ⟨rfl, rfl⟩)
    go_ret
    exact ⟨_, rfl, Own.nil _ _ _ _, Below.refl _ _⟩
set_option maxHeartbeats 1000000 in
theorem ref24_digit (a : Option Addr) (len cap : Nat) (xs : List Int) (w : World) (hr : Reads .u8 w a len cap xs) (n : Nat) (i : Int) (hi : i = n) :
    Calls Tryd.prog 22 #[.slice a len cap, .int .i64 i] w fun e w' => e = .returned (.bool (hdB isM (xs.drop n))) ∧ w = w' := by
  subst hi
  have HR := hid hr
  have hsz := hr.size
  have hl := hr.len_le
  clear hr
  by_cases hlt : n < len
  · obtain ⟨b, off, x, rfl, _, hc, h0, h1, hx⟩ := HR.out.get8 hlt
    have e : xs.drop n = x :: xs.drop (n + 1) := drop_at hx.out.1
    have HV := hid (ref17_Value x w h0 h1)
    rw [e, show hdB isM (x :: xs.drop (n + 1)) = isM x from rfl]
    clear e
    go_enter Tryd.func22, Tryd.ntmps22
    go_wp2_with (go_at_call 28; (with_reducible refine HV.out.mono ?_); rintro e w4 ⟨rfl, rfl⟩)
    go_ret
    exact ⟨rfl, rfl⟩
  · rw [List.drop_of_length_le (by omega), show hdB isM [] = false from rfl]
    go_enter Tryd.func22, Tryd.ntmps22
    go_wp2_with fail
    go_ret
    exact ⟨rfl, rfl⟩
set_option maxRecDepth 100000 in
set_option maxHeartbeats 4000000 in
theorem ref24_Run (a : Option Addr) (len cap : Nat) (xs : List Int) (w : World) (hr : Reads .u8 w a len cap xs) (hN : len < 900000) :
    Calls Tryd.prog 23 #[.slice a len cap] w fun e w' => ∃ a1 m1 c1 a2 m2 c2, e = .returned (.tuple #[.slice a1 m1 c1, .bool (mbK xs), .slice a2 m2 c2]) ∧ Reads .i32 w' a1 m1 c1 (mbT xs) ∧ Reads .i32 w' a2 m2 c2 (mbA xs) ∧ Below w.heap.size w w' := by
  have HR := hid hr
  have hl := hr.len_le
  have hsz := hr.size
  have HUs := hid (ref17_Usual a len cap xs w hr (by omega))
  have hXl := mbX_len xs
  rw [hsz] at hXl
  rw [show turnL 44 47 xs = mbX xs from rfl] at HUs
  clear hr
  have hno : Hid (xs.all isM = false → mbT xs = [] ∧ mbA xs = [] ∧ mbK xs = false) := fun h => by
    unfold mbT mbA mbK
    rw [h]
    exact ⟨rfl, rfl, rfl⟩
  have hye : Hid (xs.all isM = true → mbT xs = runT (mbX xs) ∧ mbA xs = runT (mbX xs) ++ lftT (mbX xs) ∧ mbK xs = runOk (mbX xs) ∧ (mbX xs).all isDig = true) := fun h => by
    unfold mbT mbA mbK
    rw [h, if_pos rfl, if_pos rfl]
    exact ⟨rfl, rfl, rfl, turnL_dig h⟩
  go_enter Tryd.func23, Tryd.ntmps23
  go_wp2_with fail
  go_loop [5] (fun i => ∃ k : Nat, k ≤ len ∧ i = .int .i64 k ∧ Hid ((xs.take k).all isM = true)) (fun i => len - (intOf i).toNat)
  case atStart => exact ⟨0, Nat.zero_le _, rfl, rfl⟩
  case round =>
    obtain ⟨k, hk, rfl, hn⟩ := hrel
    by_cases hlt : k < len
    · obtain ⟨b, off, x, rfl, _, hc, h0, h1, hx⟩ := HR.out.get8 hlt
      have HV := hid (ref17_Value x w h0 h1)
      cases hs : isM x
      · rw [hs] at HV
        obtain ⟨e1, e2, e3⟩ := hno.out (all_no hx.out.1 hs)
        have E1 := hid e1
        have E2 := hid e2
        have E3 := hid e3
        clear e1 e2 e3 hs HUs
        go_wp2_with (go_at_call 28; (with_reducible refine HV.out.mono ?_); rintro e w4 ⟨rfl, rfl⟩)
        go_ret3
        exact ⟨none, 0, 0, none, 0, 0, by rw [E3.out]; rfl, by rw [E1.out]; exact Reads.nil _ _ _ _ (Nat.zero_le _), by rw [E2.out]; exact Reads.nil _ _ _ _ (Nat.zero_le _), Below.refl _ _⟩
      · rw [hs] at HV
        have HS := hid (all_yes hx.out.2 hn.out hs)
        clear hs HUs
        go_wp2_with (go_at_call 28; (with_reducible refine HV.out.mono ?_); rintro e w4 ⟨rfl, rfl⟩)
        go_round
        case rel => exact ⟨k + 1, by omega, by go_num, HS⟩
        case measure => simp [intOf]; omega
    · have hall : xs.all isM = true := by rw [← HR.out.all (show len ≤ k by omega)]; exact hn.out
      obtain ⟨e1, e2, e3, hdg⟩ := hye.out hall
      have hnil : Hid (len = 0 → mbA xs = []) := fun h => by
        obtain rfl : xs = [] := List.eq_nil_of_length_eq_zero (by omega)
        exact mbA_nil.1
      have hX0 : Hid (len ≠ 0 → mbA xs = rd7 (43 :: mbX xs)) := fun h => by
        rw [e2, rd7_digs hdg (fun h' => by rw [h', List.length_nil] at hXl; omega)]
      have E1 := hid e1
      have E3 := hid e3
      clear hno hye hn hall e1 e2 e3 hdg hk
      generalize mbX xs = X at *
      have HXL := hid hXl
      have hw43 : Hid (∀ y ∈ [(43 : Int)], (Lit.int .u8 y).wf = true) := by unfold Hid; decide
      clear hXl
      by_cases h0 : len = 0
      · have HA := hid (hnil.out h0)
        subst h0
        clear hnil hX0
        have hL3 : Hid (([43] ++ X).length = 1) := by unfold Hid; rw [List.length_append, HXL.out]; rfl
        go_wp2_with (first
          | (go_at_call 31; (with_reducible refine HUs.out.mono ?_); rintro e w1 ⟨v1, rfl, o1, h1⟩; obtain ⟨a1, c1, rfl, r1⟩ := o1.reads; rw [HXL.out] at r1; rw [HXL.out])
          | (go_at_call 32; (with_reducible refine (ref23_Run _ _ _ _ _ r1 (by omega)).mono ?_); rintro e w2 ⟨a2, m2, c2, rfl, r2, h2⟩; have t2 := below_then h1 h2; have r12 := r1.below h2)
          | (at_builtin; go_must (refine wpList_more ST8 rfl _ _ rfl (w0 := w2) (v := .slice (some ⟨w2.heap.size, 0, none⟩) 1 1) (xs := [43]) rfl rfl (own_lit24 .u8 5 w2 [43] (by decide) hw43.out) ((Below.refl _ _).alloc (Nat.le_refl _) _) (r12.below ((Below.refl _ _).alloc (Nat.le_refl _) _)) (by simp) ?_); intro v3 w3 o3 h3; obtain ⟨a3, c3, hv3, r3⟩ := o3.reads; rw [hL3.out] at hv3 r3; subst hv3; have t3 := below_then t2 h3; have r23 := r2.below h3)
          | (go_at_call 33; (with_reducible refine (ref23_Read _ _ _ _ _ r3 (by omega)).mono ?_); rintro e w4 ⟨v4, rfl, o4, h4⟩; have t4 := below_then t3 h4; have r24 := r23.below h4; obtain ⟨a4, c4, rfl, r4⟩ := o4.reads))
        go_ret3
        exact ⟨_, _, _, _, _, _, by rw [E3.out]; rfl, by rw [E1.out]; exact r24, by rw [HA.out]; exact Reads.nil _ _ _ _ (Nat.zero_le _), t4⟩
      · have HA := hid (hX0.out h0)
        clear hnil hX0
        have hL3 : Hid (([43] ++ X).length = len + 1) := by unfold Hid; rw [List.length_append, HXL.out]; show 1 + len = len + 1; omega
        go_wp2_with (first
          | (go_at_call 31; (with_reducible refine HUs.out.mono ?_); rintro e w1 ⟨v1, rfl, o1, h1⟩; obtain ⟨a1, c1, rfl, r1⟩ := o1.reads; rw [HXL.out] at r1; rw [HXL.out])
          | (go_at_call 32; (with_reducible refine (ref23_Run _ _ _ _ _ r1 (by omega)).mono ?_); rintro e w2 ⟨a2, m2, c2, rfl, r2, h2⟩; have t2 := below_then h1 h2; have r12 := r1.below h2)
          | (at_builtin; go_must (refine wpList_more ST8 rfl _ _ rfl (w0 := w2) (v := .slice (some ⟨w2.heap.size, 0, none⟩) 1 1) (xs := [43]) rfl rfl (own_lit24 .u8 5 w2 [43] (by decide) hw43.out) ((Below.refl _ _).alloc (Nat.le_refl _) _) (r12.below ((Below.refl _ _).alloc (Nat.le_refl _) _)) (by simp; omega) ?_); intro v3 w3 o3 h3; obtain ⟨a3, c3, hv3, r3⟩ := o3.reads; rw [hL3.out] at hv3 r3; subst hv3; have t3 := below_then t2 h3; have r23 := r2.below h3)
          | (go_at_call 33; (with_reducible refine (ref23_Read _ _ _ _ _ r3 (by omega)).mono ?_); rintro e w4 ⟨v4, rfl, o4, h4⟩; have t4 := below_then t3 h4; have r24 := r23.below h4; obtain ⟨a4, c4, rfl, r4⟩ := o4.reads))
        go_ret3
        exact ⟨_, _, _, _, _, _, by rw [E3.out]; rfl, by rw [E1.out]; exact r24, by rw [HA.out]; exact r4, t4⟩
end Go.Proofs.YtiacijodoojgoaaDoor
