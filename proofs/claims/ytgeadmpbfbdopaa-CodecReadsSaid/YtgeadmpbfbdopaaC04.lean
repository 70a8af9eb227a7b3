/-
  Contracts of package utfone's functions: octets put.
-/
import Derived.Test.YtgeadmpbfbdopaaC01
import Derived.Test.YtgeadmpbfbdopaaC03
import Derived.Test.YtgeadmpbfbdopaaD04
import Derived.Handy
namespace Go.Proofs.Ytgeadmpbfbdopaa
open Go.RowKit
set_option linter.unusedVariables false

theorem ret_ii3 {k k2 k3 : IntKind} {a b c d e f : Int} (h : a = b) (h' : c = d) (h2 : e = f) : Ending.returned (.tuple #[.int k a, .int k2 c, .int k3 e]) = .returned (.tuple #[.int k b, .int k2 d, .int k3 f]) := by rw [h, h', h2]

theorem utfone_Len (c : Int) (w : World) :
    Calls Try.prog 27 #[.int .i32 c] w fun e w' => e = .returned (.int .i64 (lenI c)) ∧ w = w' := by
  cases hs : scB c
  all_goals
    go_enter Try.func27, Try.ntmps27
    go_wp2_with (go_at_call 54; (with_reducible refine (scalar_Is _ _).mono ?_); rintro e w' ⟨rfl, rfl⟩)
    all_goals (go_ret; exact ⟨ret_int (by unfold lenI; (first | rw [if_pos hs] | rw [if_neg (by rw [hs]; decide)]); (repeat' split) <;> omega), rfl⟩)
theorem utfone_mark (n : Nat) (w : World) :
    Calls Try.prog 85 #[.int .i64 n] w fun e w' => e = .returned (.int .i32 (markI n)) ∧ w = w' := by
  go_enter Try.func85, Try.ntmps85
  go_wp2
  all_goals (go_ret; exact ⟨ret_int (by unfold markI; simp_all; try omega), rfl⟩)
theorem utfone_Starts (a : Int) (w : World) (h0 : 0 ≤ a) (h1 : a ≤ 255) :
    Calls Try.prog 86 #[.int .u8 a] w fun e w' => e = .returned (.int .i64 (startN a)) ∧ w = w' := by
  go_enter Try.func86, Try.ntmps86
  go_wp2
  all_goals (go_ret; exact ⟨ret_int (by unfold startN; (repeat' split) <;> omega), rfl⟩)
theorem utfone_Follows (a : Int) (w : World) (h0 : 0 ≤ a) (h1 : a ≤ 255) :
    Calls Try.prog 87 #[.int .u8 a] w fun e w' => e = .returned (.bool (folB a)) ∧ w = w' := by
  go_enter Try.func87, Try.ntmps87
  go_wp2
  all_goals (go_ret; exact ⟨ret_bool (by unfold folB; rw [Bool.eq_iff_iff]; simp; omega), rfl⟩)
theorem utfone_some (t : Int) (l m : Nat) (w : World) (hl : l ≤ 2) (h0 : 0 ≤ t) (h1 : t * shf l ≤ 2147483647) :
    Calls Try.prog 88 #[.int .i32 t, .int .i64 l, .int .i64 m] w fun e w' => e = .returned (.bool (decide (lenI (t * shf l) = m))) ∧ w = w' := by
  rcases (show l = 0 ∨ l = 1 ∨ l = 2 by omega) with rfl | rfl | rfl
  all_goals
    simp [shf] at h1
    simp [shf]
    go_enter Try.func88, Try.ntmps88
    go_wp2_with (go_at_call 27; (with_reducible refine (utfone_Len _ _).mono ?_); rintro e w' ⟨rfl, rfl⟩)
    go_ret
    exact ⟨ret_bool (by rw [Bool.eq_iff_iff]; simp; omega), rfl⟩
set_option maxHeartbeats 2000000 in
theorem utfone_lay (w0 w : World) (v : Value) (xs : List Int) (c : Int) (hown : Own .u8 5 w0.heap.size w v xs) (hb : Below w0.heap.size w0 w) (hl : xs.length < 100000000000) (hs : scB c = true) :
    Calls Try.prog 80 #[v, .int .i32 c, .int .i64 (lenI c)] w fun e w' => ∃ v', e = .returned v' ∧ Own .u8 5 w0.heap.size w' v' (xs ++ octs c) ∧ Below w0.heap.size w0 w' := by
  obtain ⟨g0, g1, g2⟩ := (scB_iff c).1 hs
  have G2 := hid g2
  clear g2
  rcases (show c < 128 ∨ (128 ≤ c ∧ c < 2048) ∨ (2048 ≤ c ∧ c < 65536) ∨ 65536 ≤ c by omega) with c1 | ⟨c1, c2⟩ | ⟨c1, c2⟩ | c1
  · have ho : octs c = [c] := by unfold octs; rw [if_pos hs, if_pos (by omega)]
    have hn : lenI c = 1 := by rw [← octs_len, ho]; rfl
    rw [ho, hn]
    show Calls Try.prog 80 #[v, .int .i32 c, .int .i64 1] w _
    have hm : ∀ w, Calls Try.prog 85 #[.int .i64 1] w fun e w' => e = .returned (.int .i32 0) ∧ w = w' := fun w => utfone_mark 1 w
    have o0 : bits .or .i32 0 c = c := by have := or_i32 7 0 c (by omega) (by decide) (by omega) (by omega) (by omega); omega
    have u1 : IntKind.i64.wrap 0 = 0 := IntWalk.i64_in _ (by omega)
    have u3 : IntKind.u8.wrap (c) = c := IntWalk.u8_in _ (by omega)
    have f1 : ∀ y ∈ [c], (Lit.int .u8 y).wf = true := by intro y hy; simp at hy; subst hy; exact mk_u8 (by omega) (by omega)
    clear ho hn hs
    go_enter Try.func80, Try.ntmps80
    go_wp2_with fail
    go_region_law (first
      | (go_simp; go_at_call 85; (with_reducible refine (hm _).mono ?_); rintro e w' ⟨rfl, rfl⟩)
      | (refine step_pushs (w0 := w0) (wr := w.drew) CT8 [c] rfl (.tmp 7) (.tmp 17) rfl rfl ⟨_, rfl⟩ (Nat.zero_lt_succ _) hown.drew' (below_drew hb) (by simp; omega) f1 ?_; intro v1 w1 ho1 hb1))
    all_goals
      clear u1 u3 hown
      go_wp2_with fail
      go_ret
      exact ⟨_, rfl, by simpa using ho1, hb1⟩
  · have ho : octs c = [192 + c / 64, 128 + c % 64] := by unfold octs; rw [if_pos hs, if_neg (by omega), if_pos (by omega)]
    have hn : lenI c = 2 := by rw [← octs_len, ho]; rfl
    rw [ho, hn]
    show Calls Try.prog 80 #[v, .int .i32 c, .int .i64 2] w _
    have hm : ∀ w, Calls Try.prog 85 #[.int .i64 2] w fun e w' => e = .returned (.int .i32 192) ∧ w = w' := fun w => utfone_mark 2 w
    have o0 : bits .or .i32 192 (c / 64) = 192 + c / 64 := or_i32 5 _ _ (by omega) (by decide) (by omega) (by omega) (by omega)
    have u1 : IntKind.i64.wrap 1 = 1 := IntWalk.i64_in _ (by omega)
    have u2 : IntKind.i64.wrap 6 = 6 := IntWalk.i64_in _ (by omega)
    have u3 : IntKind.u8.wrap (192 + c / 64) = 192 + c / 64 := IntWalk.u8_in _ (by omega)
    have f1 : ∀ y ∈ [192 + c / 64], (Lit.int .u8 y).wf = true := by intro y hy; simp at hy; subst hy; exact mk_u8 (by omega) (by omega)
    have a0 : bits .and .i32 (c) 63 = c % 64 := and_i32 6 _ _ (by decide) (by omega) (by omega) (by omega)
    have b0 : bits .or .i32 128 (c % 64) = 128 + c % 64 := or_i32 6 _ _ (by omega) (by decide) (by omega) (by omega) (by omega)
    have g3 : (Lit.int .u8 (128 + c % 64)).wf = true := mk_u8 (by omega) (by omega)
    clear ho hn hs
    go_enter Try.func80, Try.ntmps80
    go_wp2_with fail
    go_region_law (first
      | (go_simp; go_at_call 85; (with_reducible refine (hm _).mono ?_); rintro e w' ⟨rfl, rfl⟩)
      | (refine step_pushs (w0 := w0) (wr := w.drew) CT8 [192 + c / 64] rfl (.tmp 7) (.tmp 17) rfl rfl ⟨_, rfl⟩ (Nat.zero_lt_succ _) hown.drew' (below_drew hb) (by simp; omega) f1 ?_; intro v1 w1 ho1 hb1))
    all_goals
      clear u1 u3 u2 hown
      go_wp2_with (first
        | (at_builtin; (refine wpList_push CT8 rfl _ _ rfl rfl ⟨_, rfl⟩ ho1 hb1 (by simp; omega) g3 ?_); intro v2 w2 ho2 hb2))
      go_ret
      exact ⟨_, rfl, by simpa using ho2, hb2⟩
  · have ho : octs c = [224 + c / 4096, 128 + c / 64 % 64, 128 + c % 64] := by unfold octs; rw [if_pos hs, if_neg (by omega), if_neg (by omega), if_pos (by omega)]
    have hn : lenI c = 3 := by rw [← octs_len, ho]; rfl
    rw [ho, hn]
    show Calls Try.prog 80 #[v, .int .i32 c, .int .i64 3] w _
    have hm : ∀ w, Calls Try.prog 85 #[.int .i64 3] w fun e w' => e = .returned (.int .i32 224) ∧ w = w' := fun w => utfone_mark 3 w
    have o0 : bits .or .i32 224 (c / 4096) = 224 + c / 4096 := or_i32 4 _ _ (by omega) (by decide) (by omega) (by omega) (by omega)
    have u1 : IntKind.i64.wrap 2 = 2 := IntWalk.i64_in _ (by omega)
    have u2 : IntKind.i64.wrap 12 = 12 := IntWalk.i64_in _ (by omega)
    have u3 : IntKind.u8.wrap (224 + c / 4096) = 224 + c / 4096 := IntWalk.u8_in _ (by omega)
    have f1 : ∀ y ∈ [224 + c / 4096], (Lit.int .u8 y).wf = true := by intro y hy; simp at hy; subst hy; exact mk_u8 (by omega) (by omega)
    have a0 : bits .and .i32 (c / 64) 63 = c / 64 % 64 := and_i32 6 _ _ (by decide) (by omega) (by omega) (by omega)
    have b0 : bits .or .i32 128 (c / 64 % 64) = 128 + c / 64 % 64 := or_i32 6 _ _ (by omega) (by decide) (by omega) (by omega) (by omega)
    have g3 : (Lit.int .u8 (128 + c / 64 % 64)).wf = true := mk_u8 (by omega) (by omega)
    have a1 : bits .and .i32 (c) 63 = c % 64 := and_i32 6 _ _ (by decide) (by omega) (by omega) (by omega)
    have b1 : bits .or .i32 128 (c % 64) = 128 + c % 64 := or_i32 6 _ _ (by omega) (by decide) (by omega) (by omega) (by omega)
    have g4 : (Lit.int .u8 (128 + c % 64)).wf = true := mk_u8 (by omega) (by omega)
    clear ho hn hs
    go_enter Try.func80, Try.ntmps80
    go_wp2_with fail
    go_region_law (first
      | (go_simp; go_at_call 85; (with_reducible refine (hm _).mono ?_); rintro e w' ⟨rfl, rfl⟩)
      | (refine step_pushs (w0 := w0) (wr := w.drew) CT8 [224 + c / 4096] rfl (.tmp 7) (.tmp 17) rfl rfl ⟨_, rfl⟩ (Nat.zero_lt_succ _) hown.drew' (below_drew hb) (by simp; omega) f1 ?_; intro v1 w1 ho1 hb1))
    all_goals
      clear u1 u3 u2 hown
      go_wp2_with (first
        | (at_builtin; (refine wpList_push CT8 rfl _ _ rfl rfl ⟨_, rfl⟩ ho2 hb2 (by simp; omega) g4 ?_); intro v3 w3 ho3 hb3)
        | (at_builtin; (refine wpList_push CT8 rfl _ _ rfl rfl ⟨_, rfl⟩ ho1 hb1 (by simp; omega) g3 ?_); intro v2 w2 ho2 hb2))
      go_ret
      exact ⟨_, rfl, by simpa using ho3, hb3⟩
  · have ho : octs c = [240 + c / 262144, 128 + c / 4096 % 64, 128 + c / 64 % 64, 128 + c % 64] := by unfold octs; rw [if_pos hs, if_neg (by omega), if_neg (by omega), if_neg (by omega)]
    have hn : lenI c = 4 := by rw [← octs_len, ho]; rfl
    rw [ho, hn]
    show Calls Try.prog 80 #[v, .int .i32 c, .int .i64 4] w _
    have hm : ∀ w, Calls Try.prog 85 #[.int .i64 4] w fun e w' => e = .returned (.int .i32 240) ∧ w = w' := fun w => utfone_mark 4 w
    have o0 : bits .or .i32 240 (c / 262144) = 240 + c / 262144 := or_i32 3 _ _ (by omega) (by decide) (by omega) (by omega) (by omega)
    have u1 : IntKind.i64.wrap 3 = 3 := IntWalk.i64_in _ (by omega)
    have u2 : IntKind.i64.wrap 18 = 18 := IntWalk.i64_in _ (by omega)
    have u3 : IntKind.u8.wrap (240 + c / 262144) = 240 + c / 262144 := IntWalk.u8_in _ (by omega)
    have f1 : ∀ y ∈ [240 + c / 262144], (Lit.int .u8 y).wf = true := by intro y hy; simp at hy; subst hy; exact mk_u8 (by omega) (by omega)
    have a0 : bits .and .i32 (c / 4096) 63 = c / 4096 % 64 := and_i32 6 _ _ (by decide) (by omega) (by omega) (by omega)
    have b0 : bits .or .i32 128 (c / 4096 % 64) = 128 + c / 4096 % 64 := or_i32 6 _ _ (by omega) (by decide) (by omega) (by omega) (by omega)
    have g3 : (Lit.int .u8 (128 + c / 4096 % 64)).wf = true := mk_u8 (by omega) (by omega)
    have a1 : bits .and .i32 (c / 64) 63 = c / 64 % 64 := and_i32 6 _ _ (by decide) (by omega) (by omega) (by omega)
    have b1 : bits .or .i32 128 (c / 64 % 64) = 128 + c / 64 % 64 := or_i32 6 _ _ (by omega) (by decide) (by omega) (by omega) (by omega)
    have g4 : (Lit.int .u8 (128 + c / 64 % 64)).wf = true := mk_u8 (by omega) (by omega)
    have a2 : bits .and .i32 (c) 63 = c % 64 := and_i32 6 _ _ (by decide) (by omega) (by omega) (by omega)
    have b2 : bits .or .i32 128 (c % 64) = 128 + c % 64 := or_i32 6 _ _ (by omega) (by decide) (by omega) (by omega) (by omega)
    have g5 : (Lit.int .u8 (128 + c % 64)).wf = true := mk_u8 (by omega) (by omega)
    clear ho hn hs
    go_enter Try.func80, Try.ntmps80
    go_wp2_with fail
    go_region_law (first
      | (go_simp; go_at_call 85; (with_reducible refine (hm _).mono ?_); rintro e w' ⟨rfl, rfl⟩)
      | (refine step_pushs (w0 := w0) (wr := w.drew) CT8 [240 + c / 262144] rfl (.tmp 7) (.tmp 17) rfl rfl ⟨_, rfl⟩ (Nat.zero_lt_succ _) hown.drew' (below_drew hb) (by simp; omega) f1 ?_; intro v1 w1 ho1 hb1))
    all_goals
      clear u1 u3 u2 hown
      go_wp2_with (first
        | (at_builtin; (refine wpList_push CT8 rfl _ _ rfl rfl ⟨_, rfl⟩ ho3 hb3 (by simp; omega) g5 ?_); intro v4 w4 ho4 hb4)
        | (at_builtin; (refine wpList_push CT8 rfl _ _ rfl rfl ⟨_, rfl⟩ ho2 hb2 (by simp; omega) g4 ?_); intro v3 w3 ho3 hb3)
        | (at_builtin; (refine wpList_push CT8 rfl _ _ rfl rfl ⟨_, rfl⟩ ho1 hb1 (by simp; omega) g3 ?_); intro v2 w2 ho2 hb2))
      go_ret
      exact ⟨_, rfl, by simpa using ho4, hb4⟩
set_option maxHeartbeats 1000000 in
theorem utfone_Put (a : Option Addr) (len cap : Nat) (xs : List Int) (c : Int) (w : World) (hr : Reads .u8 w a len cap xs) (hN : len < 1000000000) (hs : scB c = true) :
    Calls Try.prog 67 #[.slice a len cap, .int .i32 c] w fun e w' => ∃ a' cap', e = .returned (.tuple #[.slice a' (len + lenI c) cap', .int .i64 0]) ∧ Reads .u8 w' a' (len + lenI c) cap' (xs ++ octs c) ∧ Below w.heap.size w w' := by
  have HR := hid hr
  have hsz := hr.size
  have hl4 := lenI_le c
  have hz : ((lenI c : Int) == 0) = false := by have := (len_pos c).2 hs; simp; omega
  have HS := hid hs
  clear hr hs
  go_enter Try.func67, Try.ntmps67
  go_wp2_with (first
    | (go_at_call 27; (with_reducible refine (utfone_Len _ _).mono ?_); rintro e w' ⟨rfl, rfl⟩)
    | (at_make; (refine wpList_make0 (n := len + lenI c) CT8 rfl _ _ rfl rfl (by go_num) (Below.refl _ _) (by omega) ?_); intro v1 w1 ho1 hb1)
    | (go_at_call 80; go_must (refine (utfone_lay w _ _ _ c ho2 hb2 (by simp; omega) HS.out).mono ?_); rintro e w4 ⟨v4, rfl, ho4, hb4⟩)
    | (at_builtin; go_must (refine wpList_more CT8 rfl _ _ rfl rfl rfl ho1 hb1 (HR.out.below hb1) (by simp; omega) ?_); intro v2 w2 ho2 hb2))
  obtain ⟨a', cap', rfl, hrd⟩ := ho4.reads
  simp only [List.nil_append, List.length_append, hsz, octs_len] at hrd ⊢
  go_ret2
  exact ⟨a', cap', rfl, hrd, hb4⟩
theorem utfone_PutNo (a : Option Addr) (len cap : Nat) (c : Int) (w : World) (hs : scB c = false) :
    Calls Try.prog 67 #[.slice a len cap, .int .i32 c] w fun e w' => e = .returned (.tuple #[.slice none 0 0, .int .i64 7]) ∧ w = w' := by
  have hz : ((lenI c : Int) == 0) = true := by have : ¬ 0 < lenI c := fun h => by rw [len_pos, hs] at h; exact absurd h (by decide)
                                               simp; omega
  go_enter Try.func67, Try.ntmps67
  go_wp2_with (go_at_call 27; (with_reducible refine (utfone_Len _ _).mono ?_); rintro e w' ⟨rfl, rfl⟩)
  go_ret2
  exact ⟨rfl, rfl⟩

end Go.Proofs.Ytgeadmpbfbdopaa
