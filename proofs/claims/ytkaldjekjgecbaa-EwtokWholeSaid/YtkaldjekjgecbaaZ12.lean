/-
  Texts of ours laid together: D29b, C01k, Lit0, Cln, StrB.
-/
import Derived.Test.YtkaldjekjgecbaaRows
import Derived.Deep.CutBlock
import Derived.Test.YtkaldjekjgecbaaZ11

/-! D29b -/
namespace Go.Proofs.Ytkaldjekjgecbaa
open Go.RowKit
set_option linter.unusedVariables false

/-- What stands ahead of a question mark, and behind it. -/
def qA (s : List Int) : List Int := s.takeWhile (notO 63)
def qB (s : List Int) : List Int := (s.dropWhile (notO 63)).drop 1
/-- Is the frame there? What does it hold? -/
def ewFr (s : List Int) : Bool := decide (s.take 2 = [61, 63]) && decide (2 ≤ (s.drop 2).length ∧ (s.drop 2).drop ((s.drop 2).length - 2) = [63, 61])
def ewIn (s : List Int) : List Int := (s.drop 2).take ((s.drop 2).length - 2)
def ew1 (s : List Int) : List Int := if ewFr s = true then qA (ewIn s) else []
def ew2 (s : List Int) : List Int := if ewFr s = true then qA (qB (ewIn s)) else []
def ew3 (s : List Int) : List Int := if ewFr s = true then qB (qB (ewIn s)) else []
/-- The code of a letter. -/
def cdL (l : List Int) : Int := if l = [66] ∨ l = [98] then 1 else if l = [81] ∨ l = [113] then 2 else 0
def nmOk (l : List Int) : Bool := decide (l ≠ []) && l.all (isB 64)
def txOk (l : List Int) : Bool := (decide (l ≠ []) && l.all (isB 4)) && !decide (63 ∈ l)
def ewOk (s : List Int) : Bool := (nmOk (ew1 s) && decide (cdL (ew2 s) ≠ 0)) && txOk (ew3 s)

theorem qB_some : ∀ {s : List Int}, qB s ≠ [] → s = qA s ++ 63 :: qB s
  | [], h => absurd rfl h
  | x :: s, h => by
    by_cases hx : x = 63
    · subst hx
      rfl
    · have e : notO 63 x = true := by unfold notO; exact decide_eq_true hx
      have eB : qB (x :: s) = qB s := by unfold qB; rw [List.dropWhile_cons_of_pos e]
      have eA : qA (x :: s) = x :: qA s := by unfold qA; rw [List.takeWhile_cons_of_pos e]
      rw [eB] at h ⊢
      rw [eA, List.cons_append, ← qB_some h]
theorem qA_no : ∀ (s : List Int), ∀ x ∈ qA s, x ≠ 63
  | [], x, h => by cases h
  | y :: s, x, h => by
    by_cases hy : y = 63
    · subst hy
      cases h
    · have e : notO 63 y = true := by unfold notO; exact decide_eq_true hy
      have eA : qA (y :: s) = y :: qA s := by unfold qA; rw [List.takeWhile_cons_of_pos e]
      rw [eA] at h
      rcases List.mem_cons.1 h with rfl | h
      · exact hy
      · exact qA_no s x h
theorem q_at : ∀ (p r : List Int), (∀ x ∈ p, x ≠ 63) → qA (p ++ 63 :: r) = p ∧ qB (p ++ 63 :: r) = r
  | [], r, _ => ⟨rfl, rfl⟩
  | x :: p, r, h => by
    have e : notO 63 x = true := by unfold notO; exact decide_eq_true (h x (List.mem_cons_self ..))
    obtain ⟨h1, h2⟩ := q_at p r (fun y hy => h y (List.mem_cons_of_mem _ hy))
    refine ⟨?_, ?_⟩
    · unfold qA at h1 ⊢; rw [List.cons_append, List.takeWhile_cons_of_pos e, h1]
    · unfold qB at h2 ⊢; rw [List.cons_append, List.dropWhile_cons_of_pos e, h2]
theorem qA_le (s : List Int) : (qA s).length ≤ s.length := by
  unfold qA
  exact (List.takeWhile_prefix _).sublist.length_le
theorem qB_le (s : List Int) : (qB s).length ≤ s.length := by
  unfold qB
  have : (s.dropWhile (notO 63)).length ≤ s.length := (List.dropWhile_sublist _).length_le
  rw [List.length_drop]
  omega
/-- The parts, joined again. -/
def joinQ : List (List Int) → List Int
  | [] => []
  | [p] => p
  | p :: q :: r => p ++ 63 :: joinQ (q :: r)
theorem cut_ne : ∀ (s acc : List Int), ∃ p r, cutS s acc = p :: r
  | [], acc => ⟨acc, [], by rw [cutS]⟩
  | x :: s, acc => by
    rw [cutS]
    split
    · exact ⟨_, _, rfl⟩
    · exact cut_ne s _
theorem cut_join : ∀ (s acc : List Int), joinQ (cutS s acc) = acc ++ s
  | [], acc => by rw [cutS, joinQ, List.append_nil]
  | x :: s, acc => by
    rw [cutS]
    split
    · rename_i hx
      subst hx
      obtain ⟨p, r, h⟩ := cut_ne s []
      have := cut_join s []
      rw [h] at this ⊢
      rw [joinQ, this, List.nil_append]
    · rw [cut_join s _, List.append_assoc]; rfl
theorem cut_none : ∀ (s acc : List Int), (∀ x ∈ acc, x ≠ 63) → ∀ p ∈ cutS s acc, ∀ x ∈ p, x ≠ 63
  | [], acc, h, p, hp => by
    rw [cutS] at hp
    obtain rfl := List.mem_singleton.1 hp
    exact h
  | y :: s, acc, h, p, hp => by
    rw [cutS] at hp
    split at hp
    · rcases List.mem_cons.1 hp with rfl | hp
      · exact h
      · exact cut_none s [] (fun x hx => by cases hx) p hp
    · rename_i hy
      refine cut_none s _ (fun x hx => ?_) p hp
      rcases List.mem_append.1 hx with hx | hx
      · exact h x hx
      · rcases List.mem_singleton.1 hx with rfl
        exact hy
theorem cdL_one {l : List Int} (h : cdL l ≠ 0) : ∃ c, l = [c] ∧ ewCd c = cdL l ∧ c ≠ 63 := by
  unfold cdL at h ⊢
  by_cases h1 : l = [66] ∨ l = [98]
  · rw [if_pos h1]
    rcases h1 with rfl | rfl
    · exact ⟨66, rfl, by decide +kernel, by decide⟩
    · exact ⟨98, rfl, by decide +kernel, by decide⟩
  · rw [if_neg h1] at h ⊢
    by_cases h2 : l = [81] ∨ l = [113]
    · rw [if_pos h2]
      rcases h2 with rfl | rfl
      · exact ⟨81, rfl, by decide +kernel, by decide⟩
      · exact ⟨113, rfl, by decide +kernel, by decide⟩
    · rw [if_neg h2] at h
      exact absurd rfl h
theorem cdL_of (c : Int) : cdL [c] = ewCd c := by
  unfold cdL ewCd lowI
  simp only [List.cons.injEq, and_true]
  repeat' split
  all_goals omega
theorem fr_some {s : List Int} (h : ewFr s = true) : s = 61 :: 63 :: (ewIn s ++ [63, 61]) := by
  unfold ewFr at h
  rw [Bool.and_eq_true, decide_eq_true_iff, decide_eq_true_iff] at h
  have h1 : s = s.take 2 ++ s.drop 2 := (List.take_append_drop 2 s).symm
  have h2 : s.drop 2 = ewIn s ++ [63, 61] := by
    rw [← h.2.2]
    exact (List.take_append_drop _ _).symm
  rw [h.1, h2] at h1
  exact h1
theorem fr_of (m : List Int) : ewFr (61 :: 63 :: (m ++ [63, 61])) = true ∧ ewIn (61 :: 63 :: (m ++ [63, 61])) = m := by
  have e : (61 :: 63 :: (m ++ [63, 61])).drop 2 = m ++ [63, 61] := rfl
  have el : (m ++ [63, 61]).length - 2 = m.length := by simp
  unfold ewFr ewIn
  rw [e, el]
  refine ⟨?_, by simp⟩
  rw [Bool.and_eq_true, decide_eq_true_iff, decide_eq_true_iff]
  exact ⟨rfl, by simp, by simp⟩
/-- What the program sees is what the document sees. -/
theorem ewOk_cut {s : List Int} (h : ewOk s = true) : ∃ c, ew2 s = [c] ∧ ewCd c = cdL (ew2 s) ∧ cutA s = [[61], ew1 s, [c], ew3 s, [61]] := by
  unfold ewOk nmOk txOk at h
  simp only [Bool.and_eq_true, decide_eq_true_iff, Bool.not_eq_true', decide_eq_false_iff_not] at h
  obtain ⟨⟨⟨h1, _⟩, h2⟩, ⟨h3, _⟩, h4⟩ := h
  obtain ⟨c, hc, hcd, hc63⟩ := cdL_one h2
  refine ⟨c, hc, hcd, ?_⟩
  have hF : ewFr s = true := by
    by_cases hf : ewFr s = true
    · exact hf
    · unfold ew1 at h1; rw [if_neg hf] at h1; exact absurd rfl h1
  have hs := fr_some hF
  unfold ew1 ew2 ew3 at *
  rw [if_pos hF] at h1 h2 h3 h4 hc hcd ⊢
  rw [if_pos hF]
  have e2 := qB_some h3
  have hne : qB (ewIn s) ≠ [] := by intro h; rw [h] at h3; exact h3 rfl
  have e1 := qB_some hne
  have hall : s = [61] ++ 63 :: (qA (ewIn s) ++ 63 :: ([c] ++ 63 :: (qB (qB (ewIn s)) ++ 63 :: [61]))) := by
    rw [hc] at e2
    calc s = 61 :: 63 :: (ewIn s ++ [63, 61]) := hs
      _ = 61 :: 63 :: ((qA (ewIn s) ++ 63 :: qB (ewIn s)) ++ [63, 61]) := by rw [← e1]
      _ = 61 :: 63 :: ((qA (ewIn s) ++ 63 :: ([c] ++ 63 :: qB (qB (ewIn s)))) ++ [63, 61]) := by rw [← e2]
      _ = _ := by simp
  have hN := qA_no (ewIn s)
  have key : ∀ N T : List Int, (∀ x ∈ N, x ≠ 63) → ¬ 63 ∈ T → cutS ([61] ++ 63 :: (N ++ 63 :: ([c] ++ 63 :: (T ++ 63 :: [61])))) [] = [[61], N, [c], T, [61]] := by
    intro N T hN hT
    rw [cut_part _ _ _ (by decide), cut_part _ _ _ hN, cut_part _ _ _ (by simpa using hc63), cut_part _ _ _ (fun x hx => by rintro rfl; exact hT hx), cut_last _ _ (by decide)]
    simp
  have h5 := key _ _ hN h4
  rw [← hall] at h5
  exact h5
theorem form_ok {s : List Int} (h : ewForm (cutA s) = true) : ewOk s = true := by
  have hj := cut_join s []
  have hn := cut_none s [] (fun x hx => by cases hx)
  change joinQ (cutA s) = [] ++ s at hj
  change ∀ p ∈ cutA s, ∀ x ∈ p, x ≠ 63 at hn
  generalize cutA s = L at *
  unfold ewForm at h
  split at h
  · rename_i a n k t z
    simp only [Bool.and_eq_true, decide_eq_true_iff] at h
    obtain ⟨rfl, rfl, ⟨hk, hkc⟩, ⟨hn0, hn1⟩, ht0, ht1⟩ := h
    obtain ⟨c, rfl⟩ : ∃ c, k = [c] := by
      match k, hk with
      | [c], _ => exact ⟨c, rfl⟩
    have hs : s = 61 :: 63 :: ((n ++ 63 :: ([c] ++ 63 :: t)) ++ [63, 61]) := by
      rw [List.nil_append] at hj
      rw [← hj]
      simp [joinQ]
    have hN := hn n (by simp)
    have hT := hn t (by simp)
    have hC := hn [c] (by simp)
    obtain ⟨f1, f2⟩ := fr_of (n ++ 63 :: ([c] ++ 63 :: t))
    rw [← hs] at f1 f2
    obtain ⟨a1, b1⟩ := q_at n ([c] ++ 63 :: t) hN
    obtain ⟨a2, b2⟩ := q_at [c] t hC
    have e1 : ew1 s = n := by unfold ew1; rw [if_pos f1, f2, a1]
    have e2 : ew2 s = [c] := by unfold ew2; rw [if_pos f1, f2, b1, a2]
    have e3 : ew3 s = t := by unfold ew3; rw [if_pos f1, f2, b1, b2]
    unfold ewOk nmOk txOk
    rw [e1, e2, e3, cdL_of]
    simp only [Bool.and_eq_true, decide_eq_true_iff, Bool.not_eq_true', decide_eq_false_iff_not]
    exact ⟨⟨⟨hn0, hn1⟩, hkc⟩, ⟨ht0, ht1⟩, fun h => hT 63 h rfl⟩
  · cases h
theorem ok_form {s : List Int} (h : ewOk s = true) : ewForm (cutA s) = true := by
  obtain ⟨c, h2, hcd, hc⟩ := ewOk_cut h
  rw [hc]
  unfold ewOk nmOk txOk at h
  rw [h2, cdL_of] at h
  unfold ewForm
  simp only [Bool.and_eq_true, decide_eq_true_iff, Bool.not_eq_true', decide_eq_false_iff_not] at h ⊢
  exact ⟨trivial, trivial, ⟨rfl, h.1.2⟩, h.1.1, h.2.1⟩
/-- What Parse answers, in the program's words. -/
theorem par_no {s : List Int} (h : ewOk s = false) : ewE s = 3 ∧ ewN s = [] ∧ ewK s = 0 ∧ ewT s = [] := by
  have hF : ewForm (cutA s) = false := by
    cases hf : ewForm (cutA s)
    · rfl
    · rw [form_ok hf] at h; cases h
  have hE : ewE s = 3 := by unfold ewE; rw [hF]; rfl
  exact ⟨hE, ewE_no (by rw [hE]; decide)⟩
theorem par_long {s : List Int} (h : ewOk s = true) (hl : 75 < s.length) : ewE s = 12 ∧ ewN s = [] ∧ ewK s = 0 ∧ ewT s = [] := by
  have hE : ewE s = 12 := by unfold ewE; rw [if_pos (ok_form h), if_pos hl]
  exact ⟨hE, ewE_no (by rw [hE]; decide)⟩
theorem par_yes {s : List Int} (h : ewOk s = true) (hl : ¬ 75 < s.length) : ewE s = 0 ∧ ewN s = ew1 s ∧ ewK s = cdL (ew2 s) ∧ ewT s = ew3 s := by
  have hE : ewE s = 0 := by unfold ewE; rw [if_pos (ok_form h), if_neg hl]
  obtain ⟨c, h2, hcd, hc⟩ := ewOk_cut h
  refine ⟨hE, ?_, ?_, ?_⟩
  · unfold ewN; rw [if_pos hE, hc]; rfl
  · unfold ewK; rw [if_pos hE, hc, ← hcd]; rfl
  · unfold ewT; rw [if_pos hE, hc]; rfl
end Go.Proofs.Ytkaldjekjgecbaa

/-! C01k -/
namespace Go.Proofs.Ytkaldjekjgecbaa
open Go.RowKit
set_option linter.unusedVariables false

theorem alnum_c (c : Int) (w : World) (h0 : 0 ≤ c) (h1 : c ≤ 255) :
    Calls Try.prog 59 #[.int .u8 c] w fun e w' => e = .returned (.int .i64 (alnumI c)) ∧ w = w' := by
  have hb := low_bd c h0 h1
  go_enter Try.func59, Try.ntmps59
  go_wp2_with (go_at_call 62; refine (lower_c _ _ h0 h1).mono ?_; rintro e w' ⟨rfl, rfl⟩)
  all_goals (go_ret; exact ⟨ret_int (by unfold alnumI; (repeat' split) <;> first | rfl | omega), rfl⟩)
theorem ibs (s : ByteArray) (c : Int) (w : World) : (callFunc 66 #[.string s, .int .u8 c]).run Try.prog w = .ok (.value (.int .i64 (firstIdx s c.toNat.toUInt8))) w := by
  rw [run_callFunc_extern (fn := Try.f66) (e := Extern.BytealgIndexByte.indexByte) (by kernel_rfl) (by kernel_rfl) (by kernel_rfl) (by kernel_rfl) (by kernel_rfl), run_indexByte_string]
  rfl
theorem among_c (s : ByteArray) (c : Int) (w : World) :
    Calls Try.prog 63 #[.string s, .int .u8 c] w fun e w' => e = .returned (.bool (hasB s c)) ∧ w = w' := by
  have hx := ibs s c w
  go_enter Try.func63, Try.ntmps63
  go_wp2
  go_ret
  exact ⟨ret_bool (firstIdx_nonneg _ _), rfl⟩
theorem syn_c (c : Int) (w : World) :
    Calls Try.prog 60 #[.int .u8 c] w fun e w' => e = .returned (.int .i64 (synI c)) ∧ w = w' := by
  go_enter Try.func60, Try.ntmps60
  go_wp2_with (go_at_call 63; refine (among_c _ _ _).mono ?_; rintro e w' ⟨rfl, rfl⟩)
  all_goals (go_ret; exact ⟨ret_int (by unfold synI; simp [*]), rfl⟩)
theorem cod_c (c : Int) (w : World) (h0 : 0 ≤ c) (h1 : c ≤ 255) :
    Calls Try.prog 61 #[.int .u8 c] w fun e w' => e = .returned (.int .i64 (codI c)) ∧ w = w' := by
  go_enter Try.func61, Try.ntmps61
  go_wp2_with (first | (go_at_call 63; refine (among_c _ _ _).mono ?_; rintro e w' ⟨rfl, rfl⟩) | (go_at_call 59; refine (alnum_c _ _ h0 h1).mono ?_; rintro e w' ⟨rfl, rfl⟩))
  all_goals (go_ret; exact ⟨ret_int (by unfold codI; simp only [*, if_true, if_false, Bool.false_eq_true]; try rfl), rfl⟩)
theorem kinds_c (c : Int) (w : World) (h0 : 0 ≤ c) (h1 : c ≤ 255) :
    Calls Try.prog 56 #[.int .u8 c] w fun e w' => e = .returned (.int .i64 (kindI c)) ∧ w = w' := by
  go_enter Try.func56, Try.ntmps56
  go_wp2_with (first | (go_at_call 59; refine (alnum_c _ _ h0 h1).mono ?_; rintro e w' ⟨rfl, rfl⟩) | (go_at_call 60; refine (syn_c _ _).mono ?_; rintro e w' ⟨rfl, rfl⟩) | (go_at_call 61; refine (cod_c _ _ h0 h1).mono ?_; rintro e w' ⟨rfl, rfl⟩))
  all_goals (go_ret; exact ⟨ret_int (by simp only [beq_iff_eq, beq_eq_false_iff_ne] at *; unfold kindI; (repeat' split) <;> first | rfl | omega), rfl⟩)
theorem is_c (c kinds : Int) (w : World) (h0 : 0 ≤ c) (h1 : c ≤ 255) :
    Calls Try.prog 49 #[.int .u8 c, .int .i64 kinds] w fun e w' => e = .returned (.bool (isB kinds c)) ∧ w = w' := by
  go_enter Try.func49, Try.ntmps49
  go_wp2_with (go_at_call 56; refine (kinds_c _ _ h0 h1).mono ?_; rintro e w' ⟨rfl, rfl⟩)
  go_ret
  exact ⟨rfl, rfl⟩
set_option maxHeartbeats 1000000 in
theorem all_c (a : Option Addr) (len cap : Nat) (xs : List Int) (kinds : Int) (w : World) (hr : Reads .u8 w a len cap xs) :
    Calls Try.prog 43 #[.slice a len cap, .int .i64 kinds] w fun e w' => e = .returned (.bool (xs.all (isB kinds))) ∧ w = w' := by
  have hl := hr.len_le
  have HR := hid hr
  clear hr
  go_enter Try.func43, Try.ntmps43
  go_wp2
  go_loop [9] (fun i => ∃ k : Nat, k ≤ len ∧ i = .int .i64 k ∧ Hid ((xs.take k).all (isB kinds) = true)) (fun i => len - (intOf i).toNat)
  case atStart => exact ⟨0, Nat.zero_le _, rfl, rfl⟩
  case round =>
    obtain ⟨k, hk, rfl, hn⟩ := hrel
    by_cases hlt : k < len
    · obtain ⟨b, off, x, rfl, _, hc, h0, h1, hx⟩ := HR.out.get8 hlt
      go_wp2_with (go_at_call 49; refine (is_c _ _ _ h0 h1).mono ?_; rintro e w' ⟨rfl, rfl⟩)
      · go_ret
        exact ⟨ret_bool (all_no hx.out.1 (by simpa using ‹(!isB kinds x) = true›)).symm, rfl⟩
      · go_round
        case rel => exact ⟨k + 1, by omega, by go_num, all_yes hx.out.2 hn.out (by simpa using ‹(!isB kinds x) = false›)⟩
        case measure => simp [intOf]; omega
    · go_wp2
      go_ret
      exact ⟨ret_bool (by rw [← HR.out.all (show len ≤ k by omega)]; exact hn.out.symm), rfl⟩
end Go.Proofs.Ytkaldjekjgecbaa

/-! Lit0 -/
namespace Go.Proofs.Ytkaldjekjgecbaa
open Go.RowKit

/-- A literal of the call's own may be written on. -/
theorem Own.lit (k : IntKind) (e : TypeId) (w : World) (xs : List Int) (hm : xs.length ≤ maxLen) (hwf : ∀ x ∈ xs, (Lit.int k x).wf = true) :
    Own k e w.heap.size (w.alloc (.cells (xs.map (Value.int k)).toArray e)) (.slice (some ⟨w.heap.size, 0, none⟩) xs.length xs.length) xs := by
  refine ⟨⟨by simp, .inr ⟨w.heap.size, xs.length, (xs.map (Value.int k)).toArray, rfl, Nat.le_refl _, heap_alloc_new w _, Nat.le_refl _, hm, by simp, ?_⟩⟩, hwf⟩
  rw [List.toList_toArray, Nat.mul_one]
  exact List.take_of_length_le (by simp)
end Go.Proofs.Ytkaldjekjgecbaa

/-! Cln -/
namespace Go.Proofs.Ytkaldjekjgecbaa
open Go.RowKit
set_option linter.unusedVariables false

set_option maxHeartbeats 1000000 in
theorem bytes_Clone (a : Option Addr) (len cap : Nat) (xs : List Int) (w : World) (hr : Reads .u8 w a len cap xs) (hN : len < 100000000000) :
    Calls Try.prog 21 #[.slice a len cap] w fun e w' => ∃ a' c', e = .returned (.slice a' len c') ∧ Own .u8 5 w.heap.size w' (.slice a' len c') xs ∧ Below w.heap.size w w' := by
  have q22 : ∀ (w : World) (a : Option Addr) (n c n' c' : Nat), (binOp .eql 22 (.slice a n c) (.slice none n' c')).run Try.prog w = .ok (.bool a.isNone) w := fun w a n c n' c' => Lib.run_eql_slice_nil w _ _ a n c n' c' Try.underlying22
  cases a with
  | none =>
    have h0 : len = 0 := by
      rcases Nat.eq_zero_or_pos len with h0 | h0
      · exact h0
      · obtain ⟨_, _, ha, _⟩ := hr.cell h0; cases ha
    subst h0
    obtain rfl : xs = [] := List.eq_nil_of_length_eq_zero hr.size
    clear hr
    go_enter Try.func21, Try.ntmps21
    go_wp2
    go_ret
    exact ⟨_, _, rfl, Own.nil _ _ _ _, Below.refl _ _⟩
  | some p =>
    have h1 : Own .u8 5 w.heap.size (w.alloc (.cells #[] 5)) (.slice (some ⟨w.heap.size, 0, none⟩) 0 0) [] := by
      have := Own.lit .u8 5 w [] (by simp [maxLen]) (by decide)
      simpa using this
    have hb : Below w.heap.size w (w.alloc (.cells #[] 5)) := (Below.refl _ _).alloc (Nat.le_refl _) _
    have HR := hid (hr.below hb)
    have hsz := hr.size
    clear hr
    go_enter Try.func21, Try.ntmps21
    go_wp2_with (at_builtin; go_must (refine wpList_more CT8 rfl _ _ rfl rfl rfl h1 hb HR.out (by simp; omega) ?_); intro v3 w3 ho3 hb3)
    rw [List.nil_append] at ho3
    obtain ⟨a', c', rfl, _⟩ := ho3.reads
    rw [hsz] at ho3
    go_ret
    exact ⟨a', c', by rw [← hsz]; rfl, ho3, hb3⟩
end Go.Proofs.Ytkaldjekjgecbaa

/-! StrB -/
namespace Go.Proofs.Ytkaldjekjgecbaa
open Go.RowKit
set_option linter.unusedVariables false

theorem strB_size (xs : List Int) : (strB xs).size = xs.length := by
  show ((xs.map fun x => UInt8.ofNat x.toNat).toArray).size = _
  simp
/-- Texts of octets are the same just if the octets are. -/
theorem strB_inj {xs ys : List Int} (hx : ∀ x ∈ xs, 0 ≤ x ∧ x ≤ 255) (hy : ∀ y ∈ ys, 0 ≤ y ∧ y ≤ 255) (h : strB xs = strB ys) : xs = ys := by
  have e : (xs.map fun x => UInt8.ofNat x.toNat) = ys.map fun x => UInt8.ofNat x.toNat := by
    have h' : (xs.map fun x => UInt8.ofNat x.toNat).toArray = (ys.map fun x => UInt8.ofNat x.toNat).toArray := congrArg ByteArray.data h
    simpa using h'
  clear h
  induction xs generalizing ys with
  | nil => cases ys with
    | nil => rfl
    | cons y ys => simp at e
  | cons x xs ih => cases ys with
    | nil => simp at e
    | cons y ys =>
      simp only [List.map_cons, List.cons.injEq] at e
      have hx1 := hx x (by simp)
      have hy1 := hy y (by simp)
      have e1 : x = y := by
        have := congrArg UInt8.toNat e.1
        simp at this
        omega
      rw [e1, ih (fun z hz => hx z (by simp [hz])) (fun z hz => hy z (by simp [hz])) e.2]
theorem strB_eq {xs ys : List Int} (hx : ∀ x ∈ xs, 0 ≤ x ∧ x ≤ 255) (hy : ∀ y ∈ ys, 0 ≤ y ∧ y ≤ 255) : ((strB xs).toList == (strB ys).toList) = decide (xs = ys) := by
  by_cases h : xs = ys
  · rw [h]; simp
  · rw [decide_eq_false h, beq_eq_false_iff_ne]
    intro he
    rw [Go.ByteArray.toList_eq, Go.ByteArray.toList_eq] at he
    exact h (strB_inj hx hy (ByteArray.ext (Array.toList_inj.1 he)))

theorem bytes_Equal (a : Option Addr) (len cap : Nat) (xs : List Int) (b : Option Addr) (len' cap' : Nat) (ys : List Int) (w : World) (hr : Reads .u8 w a len cap xs) (hr' : Reads .u8 w b len' cap' ys) :
    Calls Try.prog 51 #[.slice a len cap, .slice b len' cap'] w fun e w' => e = .returned (.bool (decide (xs = ys))) ∧ w = w' := by
  have s1 := hr.string (P := Try.prog) Try.underlying22 Try.underlying5 Try.underlying9
  have s2 := hr'.string (P := Try.prog) Try.underlying22 Try.underlying5 Try.underlying9
  have e := hid (strB_eq (fun x hx => wf_u8 (hr.wf x hx)) (fun x hx => wf_u8 (hr'.wf x hx)))
  clear hr hr'
  go_enter Try.func51, Try.ntmps51
  go_wp2
  go_ret
  exact ⟨ret_bool e.out, rfl⟩
end Go.Proofs.Ytkaldjekjgecbaa
