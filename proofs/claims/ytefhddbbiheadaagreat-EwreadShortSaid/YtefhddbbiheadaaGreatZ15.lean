/-
  Texts of ours laid together: CatR, D29b.
-/
import Derived.Lib.AppendZerosOnto
import Derived.Test.YtefhddbbiheadaaGreatRows
import Derived.Test.YtefhddbbiheadaaGreatZ14

/-! CatR -/
namespace Go.Proofs.YtefhddbbiheadaaGreat
open Go.RowKit
set_option linter.unusedVariables false

set_option maxHeartbeats 1000000 in
theorem slices_GrowNilR (n : Nat) (w : World) (hN : n < 1000000000000) :
    Calls Tryz.prog 32 #[.slice none 0 0, .int .i64 n] w fun e w' => ∃ v, e = .returned v ∧ Own .i32 21 w.heap.size w' v [] ∧ Below w.heap.size w w' := by
  by_cases h0 : n = 0
  · subst h0
    go_enter Tryz.func32, Tryz.ntmps32
    go_wp2
    go_ret
    exact ⟨_, rfl, Own.nil _ _ _ _, Below.refl _ _⟩
  · have hpos : 0 < n := by omega
    obtain ⟨i, hi, hz0, hz1, hz2⟩ := info_parts CTR.info
    have hrz : ∀ ty, (Builtin.append_ #[25, 3] ty #[.slice none 0 0, .int .i64 n]).run Tryz.prog w =
        .ok (.slice (some ⟨w.heap.size, 0, none⟩) n (grownCap w n 0 21)) (w.drew.alloc (.cells (Builtin.zeroCells (Value.int .i32 0).cells n ++ Builtin.zeroCells (Value.int .i32 0).cells (grownCap w n 0 21 - n)) 21)) := fun ty =>
      Lib.run_append_nil_zeros w 25 3 ty 21 i (.int .i32 0) .i64 .i64 Tryz.underlying25 Tryz.underlying3 hi hz0 n hpos (by omega) (by omega) (by rw [hz2]; omega)
    have hGn : n ≤ grownCap w n 0 21 := grownCap_ge w _ _ _
    have hGm : grownCap w n 0 21 ≤ maxLen := grownCap_le_maxLen w n 0 21 (by unfold maxLen; omega)
    obtain ⟨G, hG⟩ : ∃ G, G = grownCap w n 0 21 := ⟨_, rfl⟩
    rw [← hG] at hrz hGn hGm
    have hcs : (Builtin.zeroCells (Value.int .i32 0).cells n ++ Builtin.zeroCells (Value.int .i32 0).cells (G - n)).size = G := by
      simp [Builtin.zeroCells, Value.cells]
      omega
    generalize (Builtin.zeroCells (Value.int .i32 0).cells n ++ Builtin.zeroCells (Value.int .i32 0).cells (G - n)) = C at *
    have HO : Hid (Own .i32 21 w.heap.size (w.drew.alloc (.cells C 21)) (.slice (some ⟨w.heap.size, 0, none⟩) 0 G) []) := by
      refine ⟨⟨by simp, .inr ⟨w.heap.size, G, C, rfl, Nat.le_refl _, heap_alloc_new w.drew _, Nat.zero_le _, hGm, by rw [hcs, Nat.mul_one], by simp⟩⟩, fun x hx => by cases hx⟩
    have HB : Hid (Below w.heap.size w (w.drew.alloc (.cells C 21))) := (below_drew (Below.refl _ _)).alloc (Nat.le_refl _) _
    unfold maxLen at hGm
    clear hG hcs hz0 hz1 hz2 hi
    go_enter Tryz.func32, Tryz.ntmps32
    go_wp2_with (at_builtin; refine Lib.wpList_append_run _ rfl _ _ _ _ rfl _ _ rfl rfl _ _ (hrz _) ?_)
    go_ret
    exact ⟨_, rfl, HO.out, HB.out⟩
theorem flR_snoc {l : List (List Int)} {k : Nat} {x : List Int} (h : l.take (k + 1) = l.take k ++ [x]) : (l.take (k + 1)).flatten = (l.take k).flatten ++ x := by rw [h]; simp
theorem flR_take (l : List (List Int)) (k : Nat) : (l.take k).flatten.length ≤ l.flatten.length := by
  have h : l.flatten = (l.take k).flatten ++ (l.drop k).flatten := by rw [← List.flatten_append, List.take_append_drop]
  rw [h, List.length_append]
  omega
set_option maxHeartbeats 2000000 in
theorem slices_ConcatR (a : Option Addr) (len cap : Nat) (xss : List (List Int)) (w : World) (hr : RwsG (shRow .i32) w a len cap xss) (hN : xss.flatten.length < 100000000) (hM : len < 100000000) :
    Calls Tryz.prog 19 #[.slice a len cap] w fun e w' => ∃ v, e = .returned v ∧ Own .i32 21 w.heap.size w' v xss.flatten ∧ Below w.heap.size w w' := by
  have HR := hid hr
  have hsz := hr.size
  have HJ := hid (fun k => flR_take xss k)
  clear hr
  go_enter Tryz.func19, Tryz.ntmps19
  go_wp2_with fail
  go_loop [3, 11] (fun n i => ∃ k m : Nat, k ≤ len ∧ i = .int .i64 k ∧ n = .int .i64 m ∧ m < 100000000 ∧ Hid (m = (xss.take k).flatten.length)) (fun _ i => len - (intOf i).toNat)
  case atStart => exact ⟨0, 0, Nat.zero_le _, rfl, rfl, by omega, by rw [Hid]; simp⟩
  case round =>
    obtain ⟨k, m, hk, rfl, rfl, hmb, hm⟩ := hrel
    by_cases hlt : k < len
    · obtain ⟨b, off, x, ai, li, ci, rfl, hbw, hc, hx, hg, ht⟩ := HR.out.get1 hlt
      have hs := congrArg List.length (flR_snoc ht)
      rw [List.length_append, ← hm.out, hx.size] at hs
      have hjk := HJ.out (k + 1)
      rw [hs] at hjk
      have hml : m + li < 100000000 := by omega
      have HS := hid hs.symm
      clear hs hg ht hjk hx hm
      go_wp2_with fail
      go_round
      case rel => exact ⟨k + 1, m + li, by omega, by go_num, by go_num, hml, HS⟩
      case measure => simp [intOf]; omega
    · go_wp2_with (go_at_call 32; (with_reducible refine (slices_GrowNilR m w (by omega)).mono ?_); rintro e w1 ⟨v1, rfl, ho1, hb1⟩)
      go_loopw [6, 27] (fun v i wr => ∃ k : Nat, k ≤ len ∧ i = .int .i64 k ∧ Own .i32 21 w.heap.size wr v (xss.take k).flatten ∧ Below w.heap.size w wr) (fun _ i _ => len - (intOf i).toNat)
      case atStart => exact ⟨0, Nat.zero_le _, rfl, ho1, hb1⟩
      case round =>
        clear hk hm hmb
        obtain ⟨k, hk, rfl, hown, hbel⟩ := hrel
        by_cases hlt : k < len
        · obtain ⟨b, off, x, ai, li, ci, rfl, hbw, hc, hx, hg, ht⟩ := (HR.out.below hbel).get1 hlt
          have hs := flR_snoc ht
          have hjk := HJ.out (k + 1)
          rw [hs, List.length_append, hx.size] at hjk
          have HX := hid hx
          have HS := hid hs
          have HL := hid (show (xss.take k).flatten.length + li < 1000000000000 by omega)
          clear hx hs hg ht hjk
          go_wp2_with (at_builtin; go_must (refine wpList_more CTR rfl _ _ rfl rfl rfl hown hbel HX.out HL.out ?_); intro v3 w3 ho3 hb3)
          rw [← HS.out] at ho3
          go_roundw
          case rel => exact ⟨k + 1, by omega, by go_num, ho3, hb3⟩
          case measure => simp [intOf]; omega
        · obtain rfl : k = len := by omega
          rw [List.take_of_length_le (by omega)] at hown
          go_wp2_with fail
          go_ret
          exact ⟨_, rfl, hown, hbel⟩
end Go.Proofs.YtefhddbbiheadaaGreat

/-! D29b -/
namespace Go.Proofs.YtefhddbbiheadaaGreat
open Go.RowKit
set_option linter.unusedVariables false

/-- What stands ahead of a question mark, and behind it. -/
def qA (s : List Int) : List Int := s.takeWhile (notO 63)
def qB (s : List Int) : List Int := (s.dropWhile (notO 63)).drop 1
/-- Is the frame there? What does it hold? -/
def ewFr (s : List Int) : Bool := decide (s.take 2 = [61, 63]) && decide (2 ≤ (s.drop 2).length ∧ (s.drop 2).drop ((s.drop 2).length - 2) = [63, 61])
def ewIn (s : List Int) : List Int := (s.drop 2).take ((s.drop 2).length - 2)
def ew1 (s : List Int) : List Int := if ewFr s = true then qA (ewIn s) else []
def ew2 (s : List Int) : List Int := if ewFr s = true then qA (qB (ewIn s)) else []
def ew3 (s : List Int) : List Int := if ewFr s = true then qB (qB (ewIn s)) else []
/-- The code of a letter. -/
def cdL (l : List Int) : Int := if l = [66] ∨ l = [98] then 1 else if l = [81] ∨ l = [113] then 2 else 0
def nmOk (l : List Int) : Bool := decide (l ≠ []) && l.all (isB 64)
def txOk (l : List Int) : Bool := (decide (l ≠ []) && l.all (isB 4)) && !decide (63 ∈ l)
def ewOk (s : List Int) : Bool := (nmOk (ew1 s) && decide (cdL (ew2 s) ≠ 0)) && txOk (ew3 s)

theorem qB_some : ∀ {s : List Int}, qB s ≠ [] → s = qA s ++ 63 :: qB s
  | [], h => absurd rfl h
  | x :: s, h => by
    by_cases hx : x = 63
    · subst hx
      rfl
    · have e : notO 63 x = true := by unfold notO; exact decide_eq_true hx
      have eB : qB (x :: s) = qB s := by unfold qB; rw [List.dropWhile_cons_of_pos e]
      have eA : qA (x :: s) = x :: qA s := by unfold qA; rw [List.takeWhile_cons_of_pos e]
      rw [eB] at h ⊢
      rw [eA, List.cons_append, ← qB_some h]
theorem qA_no : ∀ (s : List Int), ∀ x ∈ qA s, x ≠ 63
  | [], x, h => by cases h
  | y :: s, x, h => by
    by_cases hy : y = 63
    · subst hy
      cases h
    · have e : notO 63 y = true := by unfold notO; exact decide_eq_true hy
      have eA : qA (y :: s) = y :: qA s := by unfold qA; rw [List.takeWhile_cons_of_pos e]
      rw [eA] at h
      rcases List.mem_cons.1 h with rfl | h
      · exact hy
      · exact qA_no s x h
theorem q_at : ∀ (p r : List Int), (∀ x ∈ p, x ≠ 63) → qA (p ++ 63 :: r) = p ∧ qB (p ++ 63 :: r) = r
  | [], r, _ => ⟨rfl, rfl⟩
  | x :: p, r, h => by
    have e : notO 63 x = true := by unfold notO; exact decide_eq_true (h x (List.mem_cons_self ..))
    obtain ⟨h1, h2⟩ := q_at p r (fun y hy => h y (List.mem_cons_of_mem _ hy))
    refine ⟨?_, ?_⟩
    · unfold qA at h1 ⊢; rw [List.cons_append, List.takeWhile_cons_of_pos e, h1]
    · unfold qB at h2 ⊢; rw [List.cons_append, List.dropWhile_cons_of_pos e, h2]
theorem qA_le (s : List Int) : (qA s).length ≤ s.length := by
  unfold qA
  exact (List.takeWhile_prefix _).sublist.length_le
theorem qB_le (s : List Int) : (qB s).length ≤ s.length := by
  unfold qB
  have : (s.dropWhile (notO 63)).length ≤ s.length := (List.dropWhile_sublist _).length_le
  rw [List.length_drop]
  omega
/-- The parts, joined again. -/
def joinQ : List (List Int) → List Int
  | [] => []
  | [p] => p
  | p :: q :: r => p ++ 63 :: joinQ (q :: r)
theorem cut_ne : ∀ (s acc : List Int), ∃ p r, cutS s acc = p :: r
  | [], acc => ⟨acc, [], by rw [cutS]⟩
  | x :: s, acc => by
    rw [cutS]
    split
    · exact ⟨_, _, rfl⟩
    · exact cut_ne s _
theorem cut_join : ∀ (s acc : List Int), joinQ (cutS s acc) = acc ++ s
  | [], acc => by rw [cutS, joinQ, List.append_nil]
  | x :: s, acc => by
    rw [cutS]
    split
    · rename_i hx
      subst hx
      obtain ⟨p, r, h⟩ := cut_ne s []
      have := cut_join s []
      rw [h] at this ⊢
      rw [joinQ, this, List.nil_append]
    · rw [cut_join s _, List.append_assoc]; rfl
theorem cut_none : ∀ (s acc : List Int), (∀ x ∈ acc, x ≠ 63) → ∀ p ∈ cutS s acc, ∀ x ∈ p, x ≠ 63
  | [], acc, h, p, hp => by
    rw [cutS] at hp
    obtain rfl := List.mem_singleton.1 hp
    exact h
  | y :: s, acc, h, p, hp => by
    rw [cutS] at hp
    split at hp
    · rcases List.mem_cons.1 hp with rfl | hp
      · exact h
      · exact cut_none s [] (fun x hx => by cases hx) p hp
    · rename_i hy
      refine cut_none s _ (fun x hx => ?_) p hp
      rcases List.mem_append.1 hx with hx | hx
      · exact h x hx
      · rcases List.mem_singleton.1 hx with rfl
        exact hy
theorem cdL_one {l : List Int} (h : cdL l ≠ 0) : ∃ c, l = [c] ∧ ewCd c = cdL l ∧ c ≠ 63 := by
  unfold cdL at h ⊢
  by_cases h1 : l = [66] ∨ l = [98]
  · rw [if_pos h1]
    rcases h1 with rfl | rfl
    · exact ⟨66, rfl, by decide +kernel, by decide⟩
    · exact ⟨98, rfl, by decide +kernel, by decide⟩
  · rw [if_neg h1] at h ⊢
    by_cases h2 : l = [81] ∨ l = [113]
    · rw [if_pos h2]
      rcases h2 with rfl | rfl
      · exact ⟨81, rfl, by decide +kernel, by decide⟩
      · exact ⟨113, rfl, by decide +kernel, by decide⟩
    · rw [if_neg h2] at h
      exact absurd rfl h
theorem cdL_of (c : Int) : cdL [c] = ewCd c := by
  unfold cdL ewCd lowI
  simp only [List.cons.injEq, and_true]
  repeat' split
  all_goals omega
theorem fr_some {s : List Int} (h : ewFr s = true) : s = 61 :: 63 :: (ewIn s ++ [63, 61]) := by
  unfold ewFr at h
  rw [Bool.and_eq_true, decide_eq_true_iff, decide_eq_true_iff] at h
  have h1 : s = s.take 2 ++ s.drop 2 := (List.take_append_drop 2 s).symm
  have h2 : s.drop 2 = ewIn s ++ [63, 61] := by
    rw [← h.2.2]
    exact (List.take_append_drop _ _).symm
  rw [h.1, h2] at h1
  exact h1
theorem fr_of (m : List Int) : ewFr (61 :: 63 :: (m ++ [63, 61])) = true ∧ ewIn (61 :: 63 :: (m ++ [63, 61])) = m := by
  have e : (61 :: 63 :: (m ++ [63, 61])).drop 2 = m ++ [63, 61] := rfl
  have el : (m ++ [63, 61]).length - 2 = m.length := by simp
  unfold ewFr ewIn
  rw [e, el]
  refine ⟨?_, by simp⟩
  rw [Bool.and_eq_true, decide_eq_true_iff, decide_eq_true_iff]
  exact ⟨rfl, by simp, by simp⟩
/-- What the program sees is what the document sees. -/
theorem ewOk_cut {s : List Int} (h : ewOk s = true) : ∃ c, ew2 s = [c] ∧ ewCd c = cdL (ew2 s) ∧ cutA s = [[61], ew1 s, [c], ew3 s, [61]] := by
  unfold ewOk nmOk txOk at h
  simp only [Bool.and_eq_true, decide_eq_true_iff, Bool.not_eq_true', decide_eq_false_iff_not] at h
  obtain ⟨⟨⟨h1, _⟩, h2⟩, ⟨h3, _⟩, h4⟩ := h
  obtain ⟨c, hc, hcd, hc63⟩ := cdL_one h2
  refine ⟨c, hc, hcd, ?_⟩
  have hF : ewFr s = true := by
    by_cases hf : ewFr s = true
    · exact hf
    · unfold ew1 at h1; rw [if_neg hf] at h1; exact absurd rfl h1
  have hs := fr_some hF
  unfold ew1 ew2 ew3 at *
  rw [if_pos hF] at h1 h2 h3 h4 hc hcd ⊢
  rw [if_pos hF]
  have e2 := qB_some h3
  have hne : qB (ewIn s) ≠ [] := by intro h; rw [h] at h3; exact h3 rfl
  have e1 := qB_some hne
  have hall : s = [61] ++ 63 :: (qA (ewIn s) ++ 63 :: ([c] ++ 63 :: (qB (qB (ewIn s)) ++ 63 :: [61]))) := by
    rw [hc] at e2
    calc s = 61 :: 63 :: (ewIn s ++ [63, 61]) := hs
      _ = 61 :: 63 :: ((qA (ewIn s) ++ 63 :: qB (ewIn s)) ++ [63, 61]) := by rw [← e1]
      _ = 61 :: 63 :: ((qA (ewIn s) ++ 63 :: ([c] ++ 63 :: qB (qB (ewIn s)))) ++ [63, 61]) := by rw [← e2]
      _ = _ := by simp
  have hN := qA_no (ewIn s)
  have key : ∀ N T : List Int, (∀ x ∈ N, x ≠ 63) → ¬ 63 ∈ T → cutS ([61] ++ 63 :: (N ++ 63 :: ([c] ++ 63 :: (T ++ 63 :: [61])))) [] = [[61], N, [c], T, [61]] := by
    intro N T hN hT
    rw [cut_part _ _ _ (by decide), cut_part _ _ _ hN, cut_part _ _ _ (by simpa using hc63), cut_part _ _ _ (fun x hx => by rintro rfl; exact hT hx), cut_last _ _ (by decide)]
    simp
  have h5 := key _ _ hN h4
  rw [← hall] at h5
  exact h5
theorem form_ok {s : List Int} (h : ewForm (cutA s) = true) : ewOk s = true := by
  have hj := cut_join s []
  have hn := cut_none s [] (fun x hx => by cases hx)
  change joinQ (cutA s) = [] ++ s at hj
  change ∀ p ∈ cutA s, ∀ x ∈ p, x ≠ 63 at hn
  generalize cutA s = L at *
  unfold ewForm at h
  split at h
  · rename_i a n k t z
    simp only [Bool.and_eq_true, decide_eq_true_iff] at h
    obtain ⟨rfl, rfl, ⟨hk, hkc⟩, ⟨hn0, hn1⟩, ht0, ht1⟩ := h
    obtain ⟨c, rfl⟩ : ∃ c, k = [c] := by
      match k, hk with
      | [c], _ => exact ⟨c, rfl⟩
    have hs : s = 61 :: 63 :: ((n ++ 63 :: ([c] ++ 63 :: t)) ++ [63, 61]) := by
      rw [List.nil_append] at hj
      rw [← hj]
      simp [joinQ]
    have hN := hn n (by simp)
    have hT := hn t (by simp)
    have hC := hn [c] (by simp)
    obtain ⟨f1, f2⟩ := fr_of (n ++ 63 :: ([c] ++ 63 :: t))
    rw [← hs] at f1 f2
    obtain ⟨a1, b1⟩ := q_at n ([c] ++ 63 :: t) hN
    obtain ⟨a2, b2⟩ := q_at [c] t hC
    have e1 : ew1 s = n := by unfold ew1; rw [if_pos f1, f2, a1]
    have e2 : ew2 s = [c] := by unfold ew2; rw [if_pos f1, f2, b1, a2]
    have e3 : ew3 s = t := by unfold ew3; rw [if_pos f1, f2, b1, b2]
    unfold ewOk nmOk txOk
    rw [e1, e2, e3, cdL_of]
    simp only [Bool.and_eq_true, decide_eq_true_iff, Bool.not_eq_true', decide_eq_false_iff_not]
    exact ⟨⟨⟨hn0, hn1⟩, hkc⟩, ⟨ht0, ht1⟩, fun h => hT 63 h rfl⟩
  · cases h
theorem ok_form {s : List Int} (h : ewOk s = true) : ewForm (cutA s) = true := by
  obtain ⟨c, h2, hcd, hc⟩ := ewOk_cut h
  rw [hc]
  unfold ewOk nmOk txOk at h
  rw [h2, cdL_of] at h
  unfold ewForm
  simp only [Bool.and_eq_true, decide_eq_true_iff, Bool.not_eq_true', decide_eq_false_iff_not] at h ⊢
  exact ⟨trivial, trivial, ⟨rfl, h.1.2⟩, h.1.1, h.2.1⟩
/-- What Parse answers, in the program's words. -/
theorem par_no {s : List Int} (h : ewOk s = false) : ewE s = 3 ∧ ewN s = [] ∧ ewK s = 0 ∧ ewT s = [] := by
  have hF : ewForm (cutA s) = false := by
    cases hf : ewForm (cutA s)
    · rfl
    · rw [form_ok hf] at h; cases h
  have hE : ewE s = 3 := by unfold ewE; rw [hF]; rfl
  exact ⟨hE, ewE_no (by rw [hE]; decide)⟩
theorem par_long {s : List Int} (h : ewOk s = true) (hl : 75 < s.length) : ewE s = 12 ∧ ewN s = [] ∧ ewK s = 0 ∧ ewT s = [] := by
  have hE : ewE s = 12 := by unfold ewE; rw [if_pos (ok_form h), if_pos hl]
  exact ⟨hE, ewE_no (by rw [hE]; decide)⟩
theorem par_yes {s : List Int} (h : ewOk s = true) (hl : ¬ 75 < s.length) : ewE s = 0 ∧ ewN s = ew1 s ∧ ewK s = cdL (ew2 s) ∧ ewT s = ew3 s := by
  have hE : ewE s = 0 := by unfold ewE; rw [if_pos (ok_form h), if_neg hl]
  obtain ⟨c, h2, hcd, hc⟩ := ewOk_cut h
  refine ⟨hE, ?_, ?_, ?_⟩
  · unfold ewN; rw [if_pos hE, hc]; rfl
  · unfold ewK; rw [if_pos hE, hc, ← hcd]; rfl
  · unfold ewT; rw [if_pos hE, hc]; rfl
end Go.Proofs.YtefhddbbiheadaaGreat
