/-
  Contracts of package fold's functions.
-/
import Derived.Test.YtldmoopdffenfaaDoorRows
import Derived.Test.YtldmoopdffenfaaDoorC01k
import Derived.Test.YtldmoopdffenfaaDoorR27
import Derived.Test.YtldmoopdffenfaaDoorPre
import Derived.Test.YtldmoopdffenfaaDoorApt
import Derived.Deep.LoopGhost
namespace Go.Proofs.YtldmoopdffenfaaDoor
open Go.RowKit
set_option linter.unusedVariables false

theorem fold_blank {z : Int} (h0 : 0 ≤ z) (h1 : z ≤ 255) : isB 2 z = (decide (z = 32) || decide (z = 9)) := by
  have h : ∀ n : Fin 256, isB 2 ((n.val : Nat) : Int) = (decide (((n.val : Nat) : Int) = 32) || decide (((n.val : Nat) : Int) = 9)) := by decide +kernel
  have h2 := h ⟨z.toNat, by omega⟩
  simp only [Int.toNat_of_nonneg h0] at h2
  exact h2
theorem fold_print {z : Int} (h0 : 0 ≤ z) (h1 : z ≤ 255) : okF z = (decide (z = 32) || isB 4 z) := by
  have h : ∀ n : Fin 256, okF ((n.val : Nat) : Int) = (decide (((n.val : Nat) : Int) = 32) || isB 4 ((n.val : Nat) : Int)) := by decide +kernel
  have h2 := h ⟨z.toNat, by omega⟩
  simp only [Int.toNat_of_nonneg h0] at h2
  exact h2
theorem fldB_no {xs : List Int} (h : decide (xs.take 2 = [13, 10]) = false) : fldB xs = false := by
  match xs, h with
  | [], _ => rfl
  | [_], _ => rfl
  | [_, _], _ => rfl
  | x :: y :: z :: r, h =>
    rw [decide_eq_false_iff_not] at h
    simp only [List.take_succ_cons, List.take_zero, List.cons.injEq, and_true] at h
    show (decide (x = 13) && decide (y = 10) && (decide (z = 32) || decide (z = 9))) = false
    by_cases hx : x = 13
    · have hy : y ≠ 10 := fun hy => h ⟨hx, hy⟩
      rw [decide_eq_false hy, Bool.and_false, Bool.false_and]
    · rw [decide_eq_false hx, Bool.false_and, Bool.false_and]
theorem fldB_blank {x y z : Int} {xs : List Int} {k : Nat} (h : fldB (x :: xs.drop (k + 1)) = true) (hy : xs[k + 1]? = some y) (hz : xs[k + 2]? = some z) : fldB (z :: xs.drop (k + 3)) = false := by
  rw [drop_at27 hy, drop_at27 hz] at h
  have h' : (decide (x = 13) && decide (y = 10) && (decide (z = 32) || decide (z = 9))) = true := h
  simp only [Bool.and_eq_true, Bool.or_eq_true, decide_eq_true_eq] at h'
  have hz' : z ≠ 13 := by omega
  unfold fldB
  split
  · rename_i e
    simp only [List.cons.injEq] at e
    rw [← e.1, decide_eq_false hz']; rfl
  · rfl
theorem fldB_at {xs r : List Int} {z : Int} (h : decide (xs.take 2 = [13, 10]) = true) (hz : xs.drop 2 = z :: r) : fldB xs = (decide (z = 32) || decide (z = 9)) := by
  have e : xs = [13, 10] ++ z :: r := by rw [← of_decide_eq_true h, ← hz, List.take_append_drop]
  rw [e]; rfl
theorem lit27 (w : World) : Reads .u8 (w.alloc (.cells #[.int .u8 13, .int .u8 10] 5 (2, 3))) (some ⟨w.heap.size, 0, none⟩) 2 2 [13, 10] :=
  Reads_litB .u8 5 (2, 3) w w.heap.size rfl [13, 10] (by decide) (by decide)
theorem at27 {w : World} {a : Option Addr} {len cap : Nat} {z : Int} {r : List Int} (h : Reads .u8 w a len cap (z :: r)) : ∃ b off, a = some ⟨b, off, none⟩ ∧ w.cell? ⟨b, off, none⟩ = some (.int .u8 z) ∧ (0 : Int) < (len : Int) := by
  have hl := h.size
  rw [List.length_cons] at hl
  obtain ⟨b, off, y, ha, _, hc, _, _, hy⟩ := h.get8 (i := 0) (by omega)
  have e := hy.out.1
  rw [List.getElem?_cons_zero] at e
  obtain rfl := Option.some.inj e
  exact ⟨b, off, ha, hc, by omega⟩
set_option maxHeartbeats 1000000 in
theorem fold_isFold (a : Option Addr) (len cap : Nat) (xs : List Int) (w : World) (hr : Reads .u8 w a len cap xs) :
    Calls Tryd.prog 17 #[.slice a len cap] w fun e w' => e = .returned (.bool (fldB xs)) ∧ Below w.heap.size w w' := by
  have hb : Below w.heap.size w (w.alloc (.cells #[.int .u8 13, .int .u8 10] 5 (2, 3))) := (Below.refl _ _).alloc (Nat.le_refl _) _
  have kc := convB (P := Tryd.prog) (t := 22) (e := 5) Tryd.underlying22 Tryd.underlying5 w w.heap.size rfl
  have hC := bytes_CutPrefixN a len cap xs _ 2 _ [13, 10] _ _ (hr.below hb) (Below.refl _ _) (lit27 w)
  have hsz := hr.size
  cases hd : decide (xs.take 2 = [13, 10])
  · rw [fldB_no hd]
    rw [hd] at hC
    have HC := hid hC
    clear hC hd hr hsz
    go_enter Tryd.func17, Tryd.ntmps17
    go_wp2_with (go_at_call 22; (with_reducible refine HC.out.mono ?_); rintro e w' ⟨a', l', c', rfl, _, rfl⟩)
    go_ret
    exact ⟨rfl, hb⟩
  · rw [hd, if_pos rfl] at hC
    by_cases h2 : 2 < len
    · obtain ⟨_, _, z, -, -, -, h0, h1, hz⟩ := hr.get8 h2
      have hzd := drop_at27 hz.out.1
      have hF := fldB_at hd hzd
      rw [← fold_blank h0 h1] at hF
      rw [hF]
      rw [hzd] at hC
      have HC := hid hC
      clear hC hd hr hsz hz hF hzd
      go_enter Tryd.func17, Tryd.ntmps17
      go_wp2_with (first
        | (go_at_call 22; (with_reducible refine HC.out.mono ?_); rintro e w' ⟨a', l', c', rfl, hrd, rfl⟩; obtain ⟨b, off, rfl, hcy, hlp⟩ := at27 hrd)
        | (go_at_call 23; (with_reducible refine (is_c _ _ _ h0 h1).mono ?_); rintro e w' ⟨rfl, rfl⟩))
      go_ret
      exact ⟨rfl, hb⟩
    · rw [fldB_short (by omega)]
      rw [List.drop_of_length_le (by omega)] at hC
      have HC := hid hC
      clear hC hd hr hsz
      go_enter Tryd.func17, Tryd.ntmps17
      go_wp2_with (go_at_call 22; (with_reducible refine HC.out.mono ?_); rintro e w' ⟨a', l', c', rfl, hrd, rfl⟩; obtain rfl : 0 = l' := hrd.size)
      go_ret
      exact ⟨rfl, hb⟩
/-- The same of what follows a place. -/
theorem fold_isFoldAt (b off len cap : Nat) (xs : List Int) (k : Nat) (w : World) (hr : Reads .u8 w (some ⟨b, off, none⟩) len cap xs) (hk : k < len) :
    Calls Tryd.prog 17 #[.slice (some ⟨b, off + k, none⟩) (len - k) (cap - k)] w fun e w' => e = .returned (.bool (fldB (xs.drop k))) ∧ Below w.heap.size w w' := by
  have hp := hr.piece (l := k) (r := len) (by omega) (Nat.le_refl _)
  have hrm := hr.room
  rw [List.take_of_length_le (by have := hr.size; omega), if_neg (by omega), Option.map_some, Addr.add_lit] at hp
  exact fold_isFold _ _ _ _ _ hp
set_option maxHeartbeats 2000000 in
theorem fold_UnfoldO (a : Option Addr) (len cap : Nat) (xs : List Int) (w : World) (hr : Reads .u8 w a len cap xs) (hN : len < 1000000) :
    Calls Tryd.prog 9 #[.slice a len cap] w fun e w' => ∃ v, e = .returned v ∧ Own .u8 5 w.heap.size w' v (unfL xs) ∧ Below w.heap.size w w' := by
  have HR := hid hr
  have hsz := hr.size
  have hle := hr.room
  clear hr
  go_enter Tryd.func9, Tryd.ntmps9
  go_wp2_with (at_make; go_must (refine wpList_make0 (n := len) CT8 rfl _ _ rfl rfl rfl (Below.refl _ _) (by omega) ?_); intro v1 w1 ho1 hb1)
  go_loopw [3, 4] (fun v i wr => ∃ (k : Nat) (O : List Int), k ≤ len ∧ i = .int .i64 k ∧ O.length ≤ k ∧ Hid (O ++ unfS false (xs.drop k) = unfL xs) ∧ Own .u8 5 w.heap.size wr v O ∧ Below w.heap.size w wr) (fun _ i _ => len - (intOf i).toNat)
  case atStart => exact ⟨0, [], Nat.zero_le _, rfl, Nat.le_refl _, rfl, ho1, hb1⟩
  case round =>
    clear ho1 hb1
    obtain ⟨k, O, hk, rfl, hO, hT, hown, hbel⟩ := hrel
    by_cases hlt : k < len
    · obtain ⟨b, off, x, rfl, hbw, hc, h0, h1, hx⟩ := (HR.out.below hbel).get8 hlt
      have hF := fold_isFoldAt b off len cap xs k wr (HR.out.below hbel) hlt
      have hT' := hT.out
      have hd := drop_at27 hx.out.1
      rw [hd, unfS] at hT'
      rw [hd] at hF
      have q1 : (k : Int) ≤ (len : Int) := by omega
      have q2 : (len : Int) ≤ (cap : Int) := by omega
      have q3 : ((len : Int) - (k : Int)).toNat = len - k := by omega
      have q4 : ((cap : Int) - (k : Int)).toNat = cap - k := by omega
      cases hf : fldB (x :: xs.drop (k + 1))
      · rw [hf, if_neg (by decide)] at hT'
        rw [hf] at hF
        have HF := hid hF
        have HT := hid (show O ++ [x] ++ unfS false (xs.drop (k + 1)) = unfL xs by rw [← hT', List.append_assoc]; rfl)
        have HX := hid (mk_u8 h0 h1)
        clear hT hT' hF hf hd hx
        go_wp2_with (first
          | (go_at_call 17; (with_reducible refine HF.out.mono ?_); rintro e w2 ⟨rfl, hb2⟩; have hc2 := (hb2.cell (p := ⟨b, off + k, none⟩) hbw).trans hc; have ho2 := hown.below hb2; have hbel2 := below_then hbel hb2)
          | (at_builtin; go_must (refine wpList_push CT8 rfl _ _ rfl rfl ⟨_, rfl⟩ ho2 hbel2 (by omega) HX.out ?_); intro v3 w3 ho3 hb3))
        go_roundw
        case rel => exact ⟨k + 1, _, by omega, by go_num, by simp; omega, HT, ho3, hb3⟩
        case measure => simp [intOf]; omega
      · have h3 := fldB_len hf
        rw [← hd, List.length_drop] at h3
        obtain ⟨b', off', y, hA, _, _, _, _, hy⟩ := HR.out.get8 (i := k + 1) (by omega)
        obtain ⟨b', off', z, hA, hbz, hcz, hz0, hz1, hz⟩ := (HR.out.below hbel).get8 (i := k + 2) (by omega)
        cases hA
        rw [hf, if_pos rfl, drop_at27 hy.out.1, unfS, drop_at27 hz.out.1, unfS, if_neg (show ¬ fldB (z :: xs.drop (k + 2 + 1)) = true by rw [fldB_blank hf hy.out.1 hz.out.1]; decide)] at hT'
        rw [hf] at hF
        have HF := hid hF
        have HT := hid (show O ++ [z] ++ unfS false (xs.drop (k + 3)) = unfL xs by rw [← hT', List.append_assoc]; rfl)
        have HX := hid (mk_u8 hz0 hz1)
        have q5 : ((k : Int) + 2).toNat = k + 2 := by omega
        have q6 : (k : Int) + 2 < (len : Int) := by omega
        have q7 : (0 : Int) ≤ (k : Int) + 2 := by omega
        clear hT hT' hF hf hd hx hy hz hc h0 h1 hA
        go_wp2_with (first
          | (go_at_call 17; (with_reducible refine HF.out.mono ?_); rintro e w2 ⟨rfl, hb2⟩; have hc2 := (hb2.cell (p := ⟨b, off + (k + 2), none⟩) hbz).trans hcz; have ho2 := hown.below hb2; have hbel2 := below_then hbel hb2)
          | (at_builtin; go_must (refine wpList_push CT8 rfl _ _ rfl rfl ⟨_, rfl⟩ ho2 hbel2 (by omega) HX.out ?_); intro v3 w3 ho3 hb3))
        go_roundw
        case rel => exact ⟨k + 3, _, by omega, by go_num, by simp; omega, HT, ho3, hb3⟩
        case measure => simp [intOf]; omega
    · obtain rfl : k = len := by omega
      have hT' := hT.out
      rw [List.drop_of_length_le (by omega), unfS, List.append_nil] at hT'
      subst hT'
      clear hT
      go_wp2_with fail
      go_ret
      exact ⟨_, rfl, hown, hbel⟩
theorem fold_Unfold (a : Option Addr) (len cap : Nat) (xs : List Int) (w : World) (hr : Reads .u8 w a len cap xs) (hN : len < 1000000) :
    Calls Tryd.prog 9 #[.slice a len cap] w fun e w' => ∃ a' l' c', e = .returned (.slice a' l' c') ∧ Reads .u8 w' a' l' c' (unfL xs) ∧ Below w.heap.size w w' :=
  (fold_UnfoldO a len cap xs w hr hN).mono fun e w' ⟨v, h1, h2, h3⟩ => by
    obtain ⟨a', c', rfl, hr'⟩ := h2.reads
    exact ⟨a', _, c', h1, hr', h3⟩
/-- How many folds there are, place by place. -/
def cntF : List Int → Nat
  | [] => 0
  | x :: r => (if fldB (x :: r) = true then 1 else 0) + cntF r
theorem fldB_snd {x : Int} {r : List Int} (h : fldB (x :: r) = true) : ∃ y q, r = y :: q ∧ fldB (y :: q) = false := by
  match r, h with
  | [], h => cases h
  | [_], h => cases h
  | y :: z :: q, h =>
    refine ⟨y, z :: q, rfl, ?_⟩
    have h' : (decide (x = 13) && decide (y = 10) && (decide (z = 32) || decide (z = 9))) = true := h
    simp only [Bool.and_eq_true, decide_eq_true_eq] at h'
    obtain rfl := h'.1.2
    cases q with
    | nil => rfl
    | cons u q => rfl
theorem cnt_unf : ∀ (n : Nat) (xs : List Int), xs.length ≤ n → cntF xs = unfC false xs := by
  intro n
  induction n with
  | zero => intro xs h; obtain rfl := List.eq_nil_of_length_eq_zero (Nat.le_zero.1 h); rfl
  | succ n ih =>
    intro xs h
    match xs, h with
    | [], _ => rfl
    | x :: r, h =>
      simp only [List.length_cons] at h
      rw [cntF, unfC]
      cases hf : fldB (x :: r)
      · rw [if_neg (by decide), if_neg (by decide), Nat.zero_add, ih r (by omega)]
      · rw [if_pos rfl, if_pos rfl]
        obtain ⟨y, q, rfl, hq⟩ := fldB_snd hf
        simp only [List.length_cons] at h
        rw [cntF, hq, if_neg (by decide), Nat.zero_add, unfC, ih q (by omega)]
theorem cntF_le : ∀ xs : List Int, cntF xs ≤ xs.length
  | [] => Nat.le_refl _
  | x :: r => by have := cntF_le r; rw [cntF, List.length_cons]; split <;> omega
set_option maxHeartbeats 1000000 in
theorem fold_Folds (a : Option Addr) (len cap : Nat) (xs : List Int) (w : World) (hr : Reads .u8 w a len cap xs) (hN : len < 1000000) :
    Calls Tryd.prog 10 #[.slice a len cap] w fun e w' => e = .returned (.int .i64 (unfN xs)) ∧ Below w.heap.size w w' := by
  have HR := hid hr
  have hsz := hr.size
  have hle := hr.room
  have hU : cntF xs = unfN xs := cnt_unf _ xs (Nat.le_refl _)
  rw [← hU]
  clear hr hU
  go_enter Tryd.func10, Tryd.ntmps10
  go_wp2_with fail
  go_loopw [3, 7] (fun m i wr => ∃ k j : Nat, k ≤ len ∧ i = .int .i64 k ∧ m = .int .i64 j ∧ j ≤ k ∧ Hid (j + cntF (xs.drop k) = cntF xs) ∧ Below w.heap.size w wr) (fun _ i _ => len - (intOf i).toNat)
  case atStart => exact ⟨0, 0, Nat.zero_le _, rfl, rfl, Nat.le_refl _, by unfold Hid; rw [Nat.zero_add]; rfl, Below.refl _ _⟩
  case round =>
    obtain ⟨k, j, hk, rfl, rfl, hj, hT, hbel⟩ := hrel
    by_cases hlt : k < len
    · obtain ⟨b, off, x, rfl, hbw, hc, h0, h1, hx⟩ := (HR.out.below hbel).get8 hlt
      have hF := fold_isFoldAt b off len cap xs k wr (HR.out.below hbel) hlt
      have hT' := hT.out
      have hd := drop_at27 hx.out.1
      rw [hd, cntF, ← hd] at hT'
      have q1 : (k : Int) ≤ (len : Int) := by omega
      have q2 : (len : Int) ≤ (cap : Int) := by omega
      have q3 : ((len : Int) - (k : Int)).toNat = len - k := by omega
      have q4 : ((cap : Int) - (k : Int)).toNat = cap - k := by omega
      cases hf : fldB (xs.drop k)
      · rw [hf, if_neg (by decide), Nat.zero_add] at hT'
        rw [hf] at hF
        have HF := hid hF
        have HT := hid hT'
        clear hT hT' hF hf hd hx hc h0 h1
        go_wp2_with (go_at_call 17; (with_reducible refine HF.out.mono ?_); rintro e w2 ⟨rfl, hb2⟩; have hbel2 := below_then hbel hb2)
        go_roundw
        case rel => exact ⟨k + 1, j, by omega, by go_num, rfl, by omega, HT, hbel2⟩
        case measure => simp [intOf]; omega
      · rw [hf, if_pos rfl, ← Nat.add_assoc] at hT'
        rw [hf] at hF
        have HF := hid hF
        have HT := hid hT'
        clear hT hT' hF hf hd hx hc h0 h1
        go_wp2_with (go_at_call 17; (with_reducible refine HF.out.mono ?_); rintro e w2 ⟨rfl, hb2⟩; have hbel2 := below_then hbel hb2)
        go_roundw
        case rel => exact ⟨k + 1, j + 1, by omega, by go_num, by go_num, by omega, HT, hbel2⟩
        case measure => simp [intOf]; omega
    · have hT' := hT.out
      rw [List.drop_of_length_le (by omega), cntF, Nat.add_zero] at hT'
      subst hT'
      clear hT
      go_wp2_with fail
      go_ret
      exact ⟨rfl, hbel⟩
theorem idx_any (f : Int → Bool) (xs : List Int) : decide (0 ≤ idxI f xs) = xs.any f := by
  cases h : xs.any f
  · rw [idx_none h]; rfl
  · rw [decide_eq_true_iff]
    unfold idxI
    cases h3 : xs.findIdx? f with
    | some i => show (0 : Int) ≤ (i : Int); omega
    | none =>
      rw [List.findIdx?_eq_none_iff] at h3
      obtain ⟨x, hx, hf⟩ := List.any_eq_true.1 h
      rw [h3 x hx] at hf
      cases hf
def strF (c : Int) : Bool := !okF c
theorem fold_isStrange (c : Int) (w : World) (h0 : 0 ≤ c) (h1 : c ≤ 255) :
    Calls Tryd.prog 20 #[.int .u8 c] w fun e w' => e = .returned (.bool (strF c)) ∧ w = w' := by
  have hp := fold_print h0 h1
  by_cases h32 : c = 32
  · subst h32
    clear hp
    go_enter Tryd.func20, Tryd.ntmps20
    go_wp2_with fail
    go_ret
    exact ⟨rfl, rfl⟩
  · rw [decide_eq_false h32, Bool.false_or] at hp
    have e3 : (c != 32) = true := by simpa using h32
    unfold strF
    rw [hp]
    clear hp h32
    go_enter Tryd.func20, Tryd.ntmps20
    go_wp2_with (go_at_call 23; (with_reducible refine (is_c _ _ _ h0 h1).mono ?_); rintro e w' ⟨rfl, rfl⟩)
    go_ret
    exact ⟨rfl, rfl⟩
set_option maxHeartbeats 1000000 in
theorem idx_strF (a : Option Addr) (len cap : Nat) (xs : List Int) (w : World) (hr : Reads .u8 w a len cap xs) :
    Calls Tryd.prog 25 #[.slice a len cap, .func (.func 20) #[] #[]] w fun e w' => e = .returned (.int .i64 (idxI strF xs)) ∧ w = w' := by
  have hl := hr.len_le
  have HR := hid hr
  clear hr
  go_enter Tryd.func25, Tryd.ntmps25
  go_wp2
  go_loop [8] (fun i => ∃ k : Nat, k ≤ len ∧ i = .int .i64 k ∧ Hid ((xs.take k).any strF = false)) (fun i => len - (intOf i).toNat)
  case atStart => exact ⟨0, Nat.zero_le _, rfl, rfl⟩
  case round =>
    obtain ⟨k, hk, rfl, hn⟩ := hrel
    by_cases hlt : k < len
    · obtain ⟨b, off, x, rfl, _, hc, h0, h1, hx⟩ := HR.out.get8 hlt
      cases hs : strF x
      · have H := hid hs
        go_wp2_with (go_at_call 20; (with_reducible refine (fold_isStrange _ _ h0 h1).mono ?_); rintro e w' ⟨rfl, rfl⟩; rw [hs])
        go_round
        case rel => exact ⟨k + 1, by omega, by go_num, none_yes hx.out.2 hn.out H.out⟩
        case measure => simp [intOf]; omega
      · have H := hid hs
        go_wp2_with (go_at_call 20; (with_reducible refine (fold_isStrange _ _ h0 h1).mono ?_); rintro e w' ⟨rfl, rfl⟩; rw [hs])
        go_ret
        exact ⟨ret_int (idx_hit hx.out.1 hn.out H.out).symm, rfl⟩
    · go_wp2
      go_ret
      exact ⟨ret_int (by rw [← HR.out.all (show len ≤ k by omega)]; exact (idx_none hn.out).symm), rfl⟩
theorem has_strF (a : Option Addr) (len cap : Nat) (xs : List Int) (w : World) (hr : Reads .u8 w a len cap xs) :
    Calls Tryd.prog 19 #[.slice a len cap, .func (.func 20) #[] #[]] w fun e w' => e = .returned (.bool (!xs.all okF)) ∧ w = w' := by
  have HI := hid (idx_strF a len cap xs w hr)
  have e : (!xs.all okF) = decide (0 ≤ idxI strF xs) := by
    rw [idx_any, List.all_eq_not_any_not, Bool.not_not]; rfl
  rw [e]
  generalize idxI strF xs = I at *
  clear hr e
  go_enter Tryd.func19, Tryd.ntmps19
  go_wp2_with (go_at_call 25; (with_reducible refine HI.out.mono ?_); rintro e w' ⟨rfl, rfl⟩)
  go_ret
  exact ⟨rfl, rfl⟩
set_option maxRecDepth 100000 in
set_option maxHeartbeats 4000000 in
theorem fold_laid (a : Option Addr) (len cap : Nat) (xs : List Int) (F M : Nat) (w : World) (hr : Reads .u8 w a len cap xs) (hN : len < 10000000) (hF : F ≤ 1000) (hM : M ≤ 1000) :
    Calls Tryd.prog 21 #[.slice a len cap, .int .i64 F, .int .i64 M] w fun e w' => ∃ v, e = .returned (.tuple #[v, .int .i64 (if (foldF M xs F).isSome = true then 0 else 12)]) ∧ Own .u8 5 w.heap.size w' v ((foldF M xs F).getD []) ∧ Below w.heap.size w w' := by
  have HR := hid hr
  clear hr
  obtain ⟨G, hG⟩ : ∃ G, G = foldF M xs F := ⟨_, rfl⟩
  rw [← hG]
  have HG := hid hG
  clear hG
  go_enter Tryd.func21, Tryd.ntmps21
  go_wp2
  go_step3
  go_wp2_with (at_make; go_must (refine wpList_make0 (n := len) CT8 rfl _ _ rfl rfl rfl (Below.refl _ _) (by omega) ?_); intro v1 w1 ho1 hb1)
  go_step3
  go_wp2
  go_loopg [8, 9, 10] len (fun g v s ro wr => ∃ a' m c' ys O r, s = .slice a' m c' ∧ ro = .int .i64 ((r : Nat) : Int) ∧ m ≤ g ∧ r ≤ 1000 ∧ Reads .u8 w a' m c' ys ∧ Own .u8 5 w.heap.size wr v O ∧ Below w.heap.size w wr ∧ O.length + 3 * m ≤ 3 * len ∧ Hid ((foldF M ys r).map (fun u => O ++ u) = G))
  case atStart => exact ⟨a, len, cap, xs, [], F, rfl, rfl, Nat.le_refl _, hF, HR.out, ho1, hb1, by simp, by unfold Hid; rw [HG.out]; simp⟩
  case round =>
    clear ho1 hb1
    obtain ⟨a', m, c', ys, O, r, rfl, rfl, hml, hr1, hry, hown, hbel, hOm, hE⟩ := hrel
    have hys := hry.size
    have hrm := hry.room
    have hE' := hE.out
    by_cases hfit : m ≤ r
    · rw [foldF_fit (by omega)] at hE'
      have q1 : ¬ (r : Int) < (m : Int) := by omega
      have HP := hid (hry.below hbel)
      have hG : some (O ++ ys) = G := hE'
      subst hG
      clear hE hE' hry hys
      go_wp2_with (at_builtin; go_must (refine wpList_more CT8 rfl _ _ rfl rfl rfl hown hbel HP.out (by omega) ?_); intro v3 w3 ho3 hb3)
      try rw [Exit.noGoto_ret]
      go_ret2
      exact ⟨_, rfl, ho3, hb3⟩
    · cases gk with
      | zero => exfalso; omega
      | succ g =>
        have q1 : (r : Int) < (m : Int) := by omega
        have hnf : ¬ ys.length ≤ r := by omega
        have HE := hid hE'
        clear hE hE'
        go_wp2_with fail
        go_loopg [8, 9, 10, 11] r (fun g2 v s ro i wx => v = u8 ∧ s = .slice a' m c' ∧ ro = .int .i64 ((r : Nat) : Int) ∧ i = .int .i64 ((g2 : Nat) : Int) ∧ g2 ≤ r ∧ Hid (nxtF ys r = nxtF ys g2) ∧ wx = wr)
        case atStart => exact ⟨rfl, rfl, rfl, rfl, Nat.le_refl _, rfl, rfl⟩
        case round =>
          obtain ⟨rfl, rfl, rfl, rfl, hgr, hn, rfl⟩ := hrel
          cases gk with
          | zero =>
            have hn' := hn.out
            rw [nxtF] at hn'
            have hE2 := HE.out
            rw [foldF_no hnf hn'] at hE2
            have hG : none = G := hE2
            subst hG
            clear hn hn' hE2 HE
            go_wp2_with fail
            try rw [Exit.noGoto_ret]
            go_ret2
            exact ⟨_, rfl, Own.nil _ _ _ _, hbel⟩
          | succ q =>
            obtain ⟨b, off, y, rfl, hbw, hcw, hy0, hy1, hy⟩ := hry.get8 (i := q + 1) (by omega)
            have hcr := (hbel.cell (p := ⟨b, off + (q + 1), none⟩) hbw).trans hcw
            have hn' := hn.out
            rw [nxtF, hy.out.1] at hn'
            have hpr := hid ((hry.pre (n := q + 1) (by omega)).below hbel)
            have hps := hry.piece (l := q + 1) (r := m) (by omega) (Nat.le_refl _)
            rw [List.take_of_length_le (by omega), if_neg (by omega), Option.map_some, Addr.add_lit] at hps
            by_cases h32 : y = 32
            · subst h32
              rw [if_pos rfl] at hn'
              have hE2 := HE.out
              rw [foldF_on hnf (by omega), hn', Option.map_map] at hE2
              have hE3 : (foldF M (ys.drop (q + 1)) M).map (fun u => (O ++ ys.take (q + 1) ++ [13, 10]) ++ u) = G := by
                rw [← hE2]
                congr 1
                funext u
                simp
              have HE3 := hid hE3
              have hl3 : (O ++ ys.take (q + 1)).length + 2 < 1000000000000 := by rw [List.length_append, List.length_take]; omega
              have hl4 : (O ++ ys.take (q + 1) ++ [13, 10]).length + 3 * (m - (q + 1)) ≤ 3 * len := by simp only [List.length_append, List.length_take, List.length_cons, List.length_nil]; omega
              have HPS := hid hps
              clear hn hn' hE2 hE3 HE hps hcw hy hnf
              generalize hqi : q + 1 = i at *
              have q2 : (i : Int) ≤ (c' : Int) := by omega
              have q3 : (i : Int) ≤ (m : Int) := by omega
              have q4 : (m : Int) ≤ (c' : Int) := by omega
              have q5 : ((m : Int) - (i : Int)).toNat = m - i := by omega
              have q6 : ((c' : Int) - (i : Int)).toNat = c' - i := by omega
              have q7 : (0 : Int) < (i : Int) := by omega
              have q8 : (i : Int) < (m : Int) := by omega
              have HL3 := hid hl3
              have HL4 := hid hl4
              clear hl3 hl4
              go_wp2_with (first
                | (at_builtin; have hX := ho3; clear hX; go_must (refine wpList_moreA (st := 9) CT8 rfl _ _ Tryd.underlying9 rfl [13, 10] rfl rfl rfl ho3 hb3.size hb3 HL3.out (by decide) ?_); intro v4 w4 ho4 hb4 hk4)
                | (at_builtin; go_must (refine wpList_more CT8 rfl _ _ rfl rfl rfl hown hbel hpr.out (by have := HL3.out; simp only [List.length_append] at this; omega) ?_); intro v3 w3 ho3 hb3))
              go_roundg g
              case measure => omega
              case rel => exact ⟨_, m - i, c' - i, _, _, M, rfl, rfl, by omega, hM, HPS.out, ho4, hb4, HL4.out, HE3.out⟩
            · have e32 : (y == 32) = false := by simpa using h32
              rw [if_neg (by simpa using h32)] at hn'
              have HN := hid (show nxtF ys r = nxtF ys q from hn')
              have q7 : (0 : Int) < ((q + 1 : Nat) : Int) := by omega
              have q8 : ((q + 1 : Nat) : Int) < (m : Int) := by omega
              clear hn hn' hcw hy h32 hps
              go_wp2_with fail
              go_roundg q
              case measure => omega
              case rel => exact ⟨rfl, rfl, rfl, by go_num, by omega, HN, rfl⟩
set_option maxHeartbeats 2000000 in
theorem fold_FoldO (a : Option Addr) (len cap : Nat) (xs : List Int) (first most : Int) (w : World) (hr : Reads .u8 w a len cap xs) (hN : len < 10000000) :
    Calls Tryd.prog 13 #[.slice a len cap, .int .i64 first, .int .i64 most] w fun e w' => ∃ v, e = .returned (.tuple #[v, .int .i64 (foldE xs first most)]) ∧ Own .u8 5 w.heap.size w' v (foldL xs first most) ∧ Below w.heap.size w w' := by
  have bad : (most < 1 ∨ 1000 < most ∨ first < 0 ∨ most < first) → foldE xs first most = 1 ∧ foldL xs first most = [] := fun h => by
    have e : foldE xs first most = 1 := by unfold foldE; rw [if_pos h]
    exact ⟨e, by unfold foldL; rw [if_neg (by rw [e]; decide)]⟩
  by_cases b1 : most < 1
  · obtain ⟨e1, e2⟩ := bad (.inl b1)
    rw [e1, e2]
    clear e1 e2 bad hr
    go_enter Tryd.func13, Tryd.ntmps13
    go_wp2_with fail
    go_ret2
    exact ⟨_, rfl, Own.nil _ _ _ _, Below.refl _ _⟩
  by_cases b2 : 1000 < most
  · obtain ⟨e1, e2⟩ := bad (.inr (.inl b2))
    rw [e1, e2]
    clear e1 e2 bad hr
    go_enter Tryd.func13, Tryd.ntmps13
    go_wp2_with fail
    go_ret2
    exact ⟨_, rfl, Own.nil _ _ _ _, Below.refl _ _⟩
  by_cases b3 : first < 0
  · obtain ⟨e1, e2⟩ := bad (.inr (.inr (.inl b3)))
    rw [e1, e2]
    clear e1 e2 bad hr
    go_enter Tryd.func13, Tryd.ntmps13
    go_wp2_with fail
    go_ret2
    exact ⟨_, rfl, Own.nil _ _ _ _, Below.refl _ _⟩
  by_cases b4 : most < first
  · obtain ⟨e1, e2⟩ := bad (.inr (.inr (.inr b4)))
    rw [e1, e2]
    clear e1 e2 bad hr
    go_enter Tryd.func13, Tryd.ntmps13
    go_wp2_with fail
    go_ret2
    exact ⟨_, rfl, Own.nil _ _ _ _, Below.refl _ _⟩
  clear bad
  obtain ⟨M, rfl⟩ := Int.eq_ofNat_of_zero_le (show 0 ≤ most by omega)
  obtain ⟨F, rfl⟩ := Int.eq_ofNat_of_zero_le (show 0 ≤ first by omega)
  have hE : foldE xs (F : Int) (M : Int) = if xs.all okF = false then 3 else if (foldF M xs F).isSome = true then 0 else 12 := by
    unfold foldE; rw [if_neg (by omega), Int.toNat_natCast, Int.toNat_natCast]
  have hL : foldL xs (F : Int) (M : Int) = if xs.all okF = false then [] else (foldF M xs F).getD [] := by
    unfold foldL
    rw [hE, Int.toNat_natCast, Int.toNat_natCast]
    cases xs.all okF
    · rfl
    · cases foldF M xs F <;> rfl
  rw [hE, hL]
  have HS := hid (has_strF a len cap xs w hr)
  have HD := hid (fold_laid a len cap xs F M w hr hN (by omega) (by omega))
  clear hr hE hL
  cases hall : xs.all okF
  · rw [hall] at HS
    rw [if_pos rfl, if_pos rfl]
    clear HD hall
    go_enter Tryd.func13, Tryd.ntmps13
    go_wp2_with (go_at_call 19; (with_reducible refine HS.out.mono ?_); rintro e w' ⟨rfl, rfl⟩)
    go_ret2
    exact ⟨_, rfl, Own.nil _ _ _ _, Below.refl _ _⟩
  · rw [hall] at HS
    rw [if_neg (show ¬ (true = false) by decide), if_neg (show ¬ (true = false) by decide)]
    clear hall
    generalize (foldF M xs F).getD [] = L at *
    generalize (if (foldF M xs F).isSome = true then (0 : Int) else 12) = E at *
    go_enter Tryd.func13, Tryd.ntmps13
    go_wp2_with (first
      | (go_at_call 19; (with_reducible refine HS.out.mono ?_); rintro e w' ⟨rfl, rfl⟩)
      | (go_at_call 21; (with_reducible refine HD.out.mono ?_); rintro e w1 ⟨v1, rfl, o1, h1⟩))
    go_ret2
    exact ⟨_, rfl, o1, h1⟩
theorem fold_Fold (a : Option Addr) (len cap : Nat) (xs : List Int) (first most : Int) (w : World) (hr : Reads .u8 w a len cap xs) (hN : len < 1000000) (hf : (Lit.int .i64 first).wf = true) (hm : (Lit.int .i64 most).wf = true) :
    Calls Tryd.prog 13 #[.slice a len cap, .int .i64 first, .int .i64 most] w fun e w' => ∃ a' l' c', e = .returned (.tuple #[.slice a' l' c', .int .i64 (foldE xs first most)]) ∧ Reads .u8 w' a' l' c' (foldL xs first most) ∧ Below w.heap.size w w' :=
  (fold_FoldO a len cap xs first most w hr (by omega)).mono fun e w' ⟨v, h1, h2, h3⟩ => by
    obtain ⟨a', c', rfl, hr'⟩ := h2.reads
    exact ⟨a', _, c', h1, hr', h3⟩
set_option maxHeartbeats 1000000 in
theorem fold_Again (a : Option Addr) (len cap : Nat) (xs : List Int) (first most : Int) (w : World) (hr : Reads .u8 w a len cap xs) (hN : len < 1000000) (hf : (Lit.int .i64 first).wf = true) (hm : (Lit.int .i64 most).wf = true) :
    Calls Tryd.prog 15 #[.slice a len cap, .int .i64 first, .int .i64 most] w fun e w' => ∃ a' l' c', e = .returned (.tuple #[.slice a' l' c', .int .i64 (foldE (unfL xs) first most)]) ∧ Reads .u8 w' a' l' c' (foldL (unfL xs) first most) ∧ Below w.heap.size w w' := by
  have HU := hid (fold_Unfold a len cap xs w hr hN)
  have hul := (unfS_len xs false).1
  have HF := hid (fun a' l' c' W (h : Reads .u8 W a' l' c' (unfL xs)) => fold_Fold a' l' c' (unfL xs) first most W h (by have h1 := h.size; have h2 := hr.size; unfold unfL at h1; omega) hf hm)
  clear hr hul
  generalize unfL xs = U at *
  generalize foldE U first most = E at *
  generalize foldL U first most = L at *
  go_enter Tryd.func15, Tryd.ntmps15
  go_wp2_with (first
    | (go_at_call 9; (with_reducible refine HU.out.mono ?_); rintro e w1 ⟨a1, l1, c1, rfl, r1, h1⟩)
    | (go_at_call 13; (with_reducible refine (HF.out _ _ _ _ r1).mono ?_); rintro e w2 ⟨a2, l2, c2, rfl, r2, h2⟩; have t2 := below_then h1 h2))
  go_ret2
  exact ⟨_, _, _, rfl, r2, t2⟩
end Go.Proofs.YtldmoopdffenfaaDoor
