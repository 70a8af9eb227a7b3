/-
  Texts of ours laid together: C04, C04b, C05, C05b, C05c, C05d.
-/
import Derived.Handy
import Derived.RangeFuncNested
import Derived.RangeFuncBox
import Derived.RangeFuncCalls
import Derived.RangeFuncLeaves
import Derived.Shelf.Abstract
import Derived.Shelf.RegionOpen
import Derived.OwnWalkIn
import Derived.TacticsInMore
import Derived.LoopNIn
import Derived.LoopIn
import Derived.Maps.AppendAt
import Derived.Test.YtdglnpkkfkagaaaGreatZ20

/-! C04 -/
namespace Go.Proofs.YtdglnpkkfkagaaaGreat
open Go.RowKit
set_option linter.unusedVariables false

theorem ret_ii3 {k k2 k3 : IntKind} {a b c d e f : Int} (h : a = b) (h' : c = d) (h2 : e = f) : Ending.returned (.tuple #[.int k a, .int k2 c, .int k3 e]) = .returned (.tuple #[.int k b, .int k2 d, .int k3 f]) := by rw [h, h', h2]

theorem utfone_Len (c : Int) (w : World) :
    Calls Tryz.prog 142 #[.int .i32 c] w fun e w' => e = .returned (.int .i64 (lenI c)) ∧ w = w' := by
  cases hs : scB c
  all_goals
    go_enter Tryz.func142, Tryz.ntmps142
    go_wp2_with (go_at_call 123; (with_reducible refine (scalar_Is _ _).mono ?_); rintro e w' ⟨rfl, rfl⟩)
    all_goals (go_ret; exact ⟨ret_int (by unfold lenI; (first | rw [if_pos hs] | rw [if_neg (by rw [hs]; decide)]); (repeat' split) <;> omega), rfl⟩)
theorem utfone_mark (n : Nat) (w : World) :
    Calls Tryz.prog 149 #[.int .i64 n] w fun e w' => e = .returned (.int .i32 (markI n)) ∧ w = w' := by
  go_enter Tryz.func149, Tryz.ntmps149
  go_wp2
  all_goals (go_ret; exact ⟨ret_int (by unfold markI; simp_all; try omega), rfl⟩)
set_option maxHeartbeats 2000000 in
theorem utfone_lay (w0 w : World) (v : Value) (xs : List Int) (c : Int) (hown : Own .u8 5 w0.heap.size w v xs) (hb : Below w0.heap.size w0 w) (hl : xs.length < 100000000000) (hs : scB c = true) :
    Calls Tryz.prog 143 #[v, .int .i32 c, .int .i64 (lenI c)] w fun e w' => ∃ v', e = .returned v' ∧ Own .u8 5 w0.heap.size w' v' (xs ++ octs c) ∧ Below w0.heap.size w0 w' := by
  obtain ⟨g0, g1, g2⟩ := (scB_iff c).1 hs
  have G2 := hid g2
  clear g2
  rcases (show c < 128 ∨ (128 ≤ c ∧ c < 2048) ∨ (2048 ≤ c ∧ c < 65536) ∨ 65536 ≤ c by omega) with c1 | ⟨c1, c2⟩ | ⟨c1, c2⟩ | c1
  · have ho : octs c = [c] := by unfold octs; rw [if_pos hs, if_pos (by omega)]
    have hn : lenI c = 1 := by rw [← octs_len, ho]; rfl
    rw [ho, hn]
    show Calls Tryz.prog 143 #[v, .int .i32 c, .int .i64 1] w _
    have hm : ∀ w, Calls Tryz.prog 149 #[.int .i64 1] w fun e w' => e = .returned (.int .i32 0) ∧ w = w' := fun w => utfone_mark 1 w
    have o0 : bits .or .i32 0 c = c := by have := or_i32 7 0 c (by omega) (by decide) (by omega) (by omega) (by omega); omega
    have u1 : IntKind.i64.wrap 0 = 0 := IntWalk.i64_in _ (by omega)
    have u3 : IntKind.u8.wrap (c) = c := IntWalk.u8_in _ (by omega)
    have f1 : ∀ y ∈ [c], (Lit.int .u8 y).wf = true := by intro y hy; simp at hy; subst hy; exact mk_u8 (by omega) (by omega)
    clear ho hn hs
    go_enter Tryz.func143, Tryz.ntmps143
    go_wp2_with fail
    go_region_law (first
      | (go_simp; go_at_call 149; (with_reducible refine (hm _).mono ?_); rintro e w' ⟨rfl, rfl⟩)
      | (refine step_pushs (w0 := w0) (wr := w.drew) CT8 [c] rfl (.tmp 7) (.tmp 17) rfl rfl ⟨_, rfl⟩ (Nat.zero_lt_succ _) hown.drew' (below_drew hb) (by simp; omega) f1 ?_; intro v1 w1 ho1 hb1))
    all_goals
      clear u1 u3 hown
      go_wp2_with fail
      go_ret
      exact ⟨_, rfl, by simpa using ho1, hb1⟩
  · have ho : octs c = [192 + c / 64, 128 + c % 64] := by unfold octs; rw [if_pos hs, if_neg (by omega), if_pos (by omega)]
    have hn : lenI c = 2 := by rw [← octs_len, ho]; rfl
    rw [ho, hn]
    show Calls Tryz.prog 143 #[v, .int .i32 c, .int .i64 2] w _
    have hm : ∀ w, Calls Tryz.prog 149 #[.int .i64 2] w fun e w' => e = .returned (.int .i32 192) ∧ w = w' := fun w => utfone_mark 2 w
    have o0 : bits .or .i32 192 (c / 64) = 192 + c / 64 := or_i32 5 _ _ (by omega) (by decide) (by omega) (by omega) (by omega)
    have u1 : IntKind.i64.wrap 1 = 1 := IntWalk.i64_in _ (by omega)
    have u2 : IntKind.i64.wrap 6 = 6 := IntWalk.i64_in _ (by omega)
    have u3 : IntKind.u8.wrap (192 + c / 64) = 192 + c / 64 := IntWalk.u8_in _ (by omega)
    have f1 : ∀ y ∈ [192 + c / 64], (Lit.int .u8 y).wf = true := by intro y hy; simp at hy; subst hy; exact mk_u8 (by omega) (by omega)
    have a0 : bits .and .i32 (c) 63 = c % 64 := and_i32 6 _ _ (by decide) (by omega) (by omega) (by omega)
    have b0 : bits .or .i32 128 (c % 64) = 128 + c % 64 := or_i32 6 _ _ (by omega) (by decide) (by omega) (by omega) (by omega)
    have g3 : (Lit.int .u8 (128 + c % 64)).wf = true := mk_u8 (by omega) (by omega)
    clear ho hn hs
    go_enter Tryz.func143, Tryz.ntmps143
    go_wp2_with fail
    go_region_law (first
      | (go_simp; go_at_call 149; (with_reducible refine (hm _).mono ?_); rintro e w' ⟨rfl, rfl⟩)
      | (refine step_pushs (w0 := w0) (wr := w.drew) CT8 [192 + c / 64] rfl (.tmp 7) (.tmp 17) rfl rfl ⟨_, rfl⟩ (Nat.zero_lt_succ _) hown.drew' (below_drew hb) (by simp; omega) f1 ?_; intro v1 w1 ho1 hb1))
    all_goals
      clear u1 u3 u2 hown
      go_wp2_with (first
        | (at_builtin; (refine wpList_push CT8 rfl _ _ rfl rfl ⟨_, rfl⟩ ho1 hb1 (by simp; omega) g3 ?_); intro v2 w2 ho2 hb2))
      go_ret
      exact ⟨_, rfl, by simpa using ho2, hb2⟩
  · have ho : octs c = [224 + c / 4096, 128 + c / 64 % 64, 128 + c % 64] := by unfold octs; rw [if_pos hs, if_neg (by omega), if_neg (by omega), if_pos (by omega)]
    have hn : lenI c = 3 := by rw [← octs_len, ho]; rfl
    rw [ho, hn]
    show Calls Tryz.prog 143 #[v, .int .i32 c, .int .i64 3] w _
    have hm : ∀ w, Calls Tryz.prog 149 #[.int .i64 3] w fun e w' => e = .returned (.int .i32 224) ∧ w = w' := fun w => utfone_mark 3 w
    have o0 : bits .or .i32 224 (c / 4096) = 224 + c / 4096 := or_i32 4 _ _ (by omega) (by decide) (by omega) (by omega) (by omega)
    have u1 : IntKind.i64.wrap 2 = 2 := IntWalk.i64_in _ (by omega)
    have u2 : IntKind.i64.wrap 12 = 12 := IntWalk.i64_in _ (by omega)
    have u3 : IntKind.u8.wrap (224 + c / 4096) = 224 + c / 4096 := IntWalk.u8_in _ (by omega)
    have f1 : ∀ y ∈ [224 + c / 4096], (Lit.int .u8 y).wf = true := by intro y hy; simp at hy; subst hy; exact mk_u8 (by omega) (by omega)
    have a0 : bits .and .i32 (c / 64) 63 = c / 64 % 64 := and_i32 6 _ _ (by decide) (by omega) (by omega) (by omega)
    have b0 : bits .or .i32 128 (c / 64 % 64) = 128 + c / 64 % 64 := or_i32 6 _ _ (by omega) (by decide) (by omega) (by omega) (by omega)
    have g3 : (Lit.int .u8 (128 + c / 64 % 64)).wf = true := mk_u8 (by omega) (by omega)
    have a1 : bits .and .i32 (c) 63 = c % 64 := and_i32 6 _ _ (by decide) (by omega) (by omega) (by omega)
    have b1 : bits .or .i32 128 (c % 64) = 128 + c % 64 := or_i32 6 _ _ (by omega) (by decide) (by omega) (by omega) (by omega)
    have g4 : (Lit.int .u8 (128 + c % 64)).wf = true := mk_u8 (by omega) (by omega)
    clear ho hn hs
    go_enter Tryz.func143, Tryz.ntmps143
    go_wp2_with fail
    go_region_law (first
      | (go_simp; go_at_call 149; (with_reducible refine (hm _).mono ?_); rintro e w' ⟨rfl, rfl⟩)
      | (refine step_pushs (w0 := w0) (wr := w.drew) CT8 [224 + c / 4096] rfl (.tmp 7) (.tmp 17) rfl rfl ⟨_, rfl⟩ (Nat.zero_lt_succ _) hown.drew' (below_drew hb) (by simp; omega) f1 ?_; intro v1 w1 ho1 hb1))
    all_goals
      clear u1 u3 u2 hown
      go_wp2_with (first
        | (at_builtin; (refine wpList_push CT8 rfl _ _ rfl rfl ⟨_, rfl⟩ ho2 hb2 (by simp; omega) g4 ?_); intro v3 w3 ho3 hb3)
        | (at_builtin; (refine wpList_push CT8 rfl _ _ rfl rfl ⟨_, rfl⟩ ho1 hb1 (by simp; omega) g3 ?_); intro v2 w2 ho2 hb2))
      go_ret
      exact ⟨_, rfl, by simpa using ho3, hb3⟩
  · have ho : octs c = [240 + c / 262144, 128 + c / 4096 % 64, 128 + c / 64 % 64, 128 + c % 64] := by unfold octs; rw [if_pos hs, if_neg (by omega), if_neg (by omega), if_neg (by omega)]
    have hn : lenI c = 4 := by rw [← octs_len, ho]; rfl
    rw [ho, hn]
    show Calls Tryz.prog 143 #[v, .int .i32 c, .int .i64 4] w _
    have hm : ∀ w, Calls Tryz.prog 149 #[.int .i64 4] w fun e w' => e = .returned (.int .i32 240) ∧ w = w' := fun w => utfone_mark 4 w
    have o0 : bits .or .i32 240 (c / 262144) = 240 + c / 262144 := or_i32 3 _ _ (by omega) (by decide) (by omega) (by omega) (by omega)
    have u1 : IntKind.i64.wrap 3 = 3 := IntWalk.i64_in _ (by omega)
    have u2 : IntKind.i64.wrap 18 = 18 := IntWalk.i64_in _ (by omega)
    have u3 : IntKind.u8.wrap (240 + c / 262144) = 240 + c / 262144 := IntWalk.u8_in _ (by omega)
    have f1 : ∀ y ∈ [240 + c / 262144], (Lit.int .u8 y).wf = true := by intro y hy; simp at hy; subst hy; exact mk_u8 (by omega) (by omega)
    have a0 : bits .and .i32 (c / 4096) 63 = c / 4096 % 64 := and_i32 6 _ _ (by decide) (by omega) (by omega) (by omega)
    have b0 : bits .or .i32 128 (c / 4096 % 64) = 128 + c / 4096 % 64 := or_i32 6 _ _ (by omega) (by decide) (by omega) (by omega) (by omega)
    have g3 : (Lit.int .u8 (128 + c / 4096 % 64)).wf = true := mk_u8 (by omega) (by omega)
    have a1 : bits .and .i32 (c / 64) 63 = c / 64 % 64 := and_i32 6 _ _ (by decide) (by omega) (by omega) (by omega)
    have b1 : bits .or .i32 128 (c / 64 % 64) = 128 + c / 64 % 64 := or_i32 6 _ _ (by omega) (by decide) (by omega) (by omega) (by omega)
    have g4 : (Lit.int .u8 (128 + c / 64 % 64)).wf = true := mk_u8 (by omega) (by omega)
    have a2 : bits .and .i32 (c) 63 = c % 64 := and_i32 6 _ _ (by decide) (by omega) (by omega) (by omega)
    have b2 : bits .or .i32 128 (c % 64) = 128 + c % 64 := or_i32 6 _ _ (by omega) (by decide) (by omega) (by omega) (by omega)
    have g5 : (Lit.int .u8 (128 + c % 64)).wf = true := mk_u8 (by omega) (by omega)
    clear ho hn hs
    go_enter Tryz.func143, Tryz.ntmps143
    go_wp2_with fail
    go_region_law (first
      | (go_simp; go_at_call 149; (with_reducible refine (hm _).mono ?_); rintro e w' ⟨rfl, rfl⟩)
      | (refine step_pushs (w0 := w0) (wr := w.drew) CT8 [240 + c / 262144] rfl (.tmp 7) (.tmp 17) rfl rfl ⟨_, rfl⟩ (Nat.zero_lt_succ _) hown.drew' (below_drew hb) (by simp; omega) f1 ?_; intro v1 w1 ho1 hb1))
    all_goals
      clear u1 u3 u2 hown
      go_wp2_with (first
        | (at_builtin; (refine wpList_push CT8 rfl _ _ rfl rfl ⟨_, rfl⟩ ho3 hb3 (by simp; omega) g5 ?_); intro v4 w4 ho4 hb4)
        | (at_builtin; (refine wpList_push CT8 rfl _ _ rfl rfl ⟨_, rfl⟩ ho2 hb2 (by simp; omega) g4 ?_); intro v3 w3 ho3 hb3)
        | (at_builtin; (refine wpList_push CT8 rfl _ _ rfl rfl ⟨_, rfl⟩ ho1 hb1 (by simp; omega) g3 ?_); intro v2 w2 ho2 hb2))
      go_ret
      exact ⟨_, rfl, by simpa using ho4, hb4⟩
set_option maxHeartbeats 1000000 in
theorem utfone_Put (a : Option Addr) (len cap : Nat) (xs : List Int) (c : Int) (w : World) (hr : Reads .u8 w a len cap xs) (hN : len < 1000000000) (hs : scB c = true) :
    Calls Tryz.prog 129 #[.slice a len cap, .int .i32 c] w fun e w' => ∃ a' cap', e = .returned (.tuple #[.slice a' (len + lenI c) cap', .int .i64 0]) ∧ Reads .u8 w' a' (len + lenI c) cap' (xs ++ octs c) ∧ Below w.heap.size w w' := by
  have HR := hid hr
  have hsz := hr.size
  have hl4 := lenI_le c
  have hz : ((lenI c : Int) == 0) = false := by have := (len_pos c).2 hs; simp; omega
  have HS := hid hs
  clear hr hs
  go_enter Tryz.func129, Tryz.ntmps129
  go_wp2_with (first
    | (go_at_call 142; (with_reducible refine (utfone_Len _ _).mono ?_); rintro e w' ⟨rfl, rfl⟩)
    | (at_make; (refine wpList_make0 (n := len + lenI c) CT8 rfl _ _ rfl rfl (by go_num) (Below.refl _ _) (by omega) ?_); intro v1 w1 ho1 hb1)
    | (go_at_call 143; go_must (refine (utfone_lay w _ _ _ c ho2 hb2 (by simp; omega) HS.out).mono ?_); rintro e w4 ⟨v4, rfl, ho4, hb4⟩)
    | (at_builtin; go_must (refine wpList_more CT8 rfl _ _ rfl rfl rfl ho1 hb1 (HR.out.below hb1) (by simp; omega) ?_); intro v2 w2 ho2 hb2))
  obtain ⟨a', cap', rfl, hrd⟩ := ho4.reads
  simp only [List.nil_append, List.length_append, hsz, octs_len] at hrd ⊢
  go_ret2
  exact ⟨a', cap', rfl, hrd, hb4⟩
theorem utfone_PutNo (a : Option Addr) (len cap : Nat) (c : Int) (w : World) (hs : scB c = false) :
    Calls Tryz.prog 129 #[.slice a len cap, .int .i32 c] w fun e w' => e = .returned (.tuple #[.slice none 0 0, .int .i64 7]) ∧ w = w' := by
  have hz : ((lenI c : Int) == 0) = true := by have : ¬ 0 < lenI c := fun h => by rw [len_pos, hs] at h; exact absurd h (by decide)
                                               simp; omega
  go_enter Tryz.func129, Tryz.ntmps129
  go_wp2_with (go_at_call 142; (with_reducible refine (utfone_Len _ _).mono ?_); rintro e w' ⟨rfl, rfl⟩)
  go_ret2
  exact ⟨rfl, rfl⟩

end Go.Proofs.YtdglnpkkfkagaaaGreat

/-! C04b -/
namespace Go.Proofs.YtdglnpkkfkagaaaGreat
open Go.RowKit
set_option linter.unusedVariables false

def bgW : List Int → Nat
  | [] => 0
  | a :: _ => startN a
def bgT : List Int → Int
  | [] => 0
  | a :: r => if startN a = 0 then 0 else topU a r (farN (a :: r))
theorem clr1 : ∀ n : Fin 128, bits .andNot .i32 (n.val : Int) 0 = n.val - 0 := by decide +kernel
theorem clr2 : ∀ n : Fin 32, bits .andNot .i32 ((192 + n.val : Nat) : Int) 192 = ((192 + n.val : Nat) : Int) - 192 := by decide +kernel
theorem clr3 : ∀ n : Fin 16, bits .andNot .i32 ((224 + n.val : Nat) : Int) 224 = ((224 + n.val : Nat) : Int) - 224 := by decide +kernel
theorem clr4 : ∀ n : Fin 8, bits .andNot .i32 ((240 + n.val : Nat) : Int) 240 = ((240 + n.val : Nat) : Int) - 240 := by decide +kernel
theorem clr (a : Int) (h0 : 0 ≤ a) (h : startN a ≠ 0) : bits .andNot .i32 a (markI (startN a)) = a - markI (startN a) := by
  have h4 := startN_le a
  obtain ⟨n, rfl⟩ := Int.eq_ofNat_of_zero_le h0
  rcases (show startN n = 1 ∨ startN n = 2 ∨ startN n = 3 ∨ startN n = 4 by omega) with e | e | e | e <;> rw [e]
  · rw [start_1] at e; exact clr1 ⟨n, by omega⟩
  · rw [start_2] at e; have := clr2 ⟨n - 192, by omega⟩; simp only at this; rwa [show 192 + (n - 192) = n by omega] at this
  · rw [start_3] at e; have := clr3 ⟨n - 224, by omega⟩; simp only at this; rwa [show 224 + (n - 224) = n by omega] at this
  · rw [start_4] at e; have := clr4 ⟨n - 240, by omega⟩; simp only at this; rwa [show 240 + (n - 240) = n by omega] at this


end Go.Proofs.YtdglnpkkfkagaaaGreat

/-! C05 -/
namespace Go.Proofs.YtdglnpkkfkagaaaGreat
open Go.RowKit Go.Shelf
set_option linter.unusedVariables false
attribute [local go_sem] Oper.semAt_some


/-- A sign, as yield is handed it. -/
def encS (p : Int × Int) : Array Value := #[.int .i32 p.1, .int .i64 p.2]


end Go.Proofs.YtdglnpkkfkagaaaGreat

/-! C05b -/
namespace Go.Proofs.YtdglnpkkfkagaaaGreat
open Go.RowKit Go.Shelf
set_option linter.unusedVariables false
attribute [local go_sem] Oper.semAt_some



end Go.Proofs.YtdglnpkkfkagaaaGreat

/-! C05c -/
namespace Go.Proofs.YtdglnpkkfkagaaaGreat
open Go.RowKit Go.Shelf
set_option linter.unusedVariables false
attribute [local go_sem] Oper.semAt_some

def encR (pre : List (Int × Int)) : List Value := pre.map (fun p => .int .i32 p.1)
theorem encR_snoc (pre : List (Int × Int)) (x : Int × Int) : encR (pre ++ [x]) = encR pre ++ [.int .i32 x.1] := by simp [encR]
theorem encR_txt (xs : List Int) : encR (sigs xs) = (txt xs).map (Value.int .i32) := by simp [encR, txt, Function.comp_def]
theorem reads_row {e : TypeId} {base : Nat} {w : World} {v : Value} {xs : List Int} (h : w.ownsRow base e 1 v (sigs xs).length (encR (sigs xs))) (hwf : ∀ x ∈ txt xs, (Lit.int .i32 x).wf = true) :
    ∃ a cap, v = .slice a (sigs xs).length cap ∧ Reads .i32 w a (sigs xs).length cap (txt xs) := by
  have hO : Own .i32 e base w v (txt xs) := ⟨by rw [txt_len, ← encR_txt]; exact h, hwf⟩
  obtain ⟨a, cap, hv, hr⟩ := hO.reads
  rw [txt_len] at hv hr
  exact ⟨a, cap, hv, hr⟩
theorem own_row {n₀ D : Nat} {w : World} (hn : n₀ ≤ w.heap.size) (hD : n₀ ≤ D) (B : Nat) (t e : TypeId) :
    OwnFrom D (fun (pre : List (Int × Int)) W => (∃ v, Boxed W B t v ∧ W.ownsRow n₀ e 1 v pre.length (encR pre) ∧ True) ∧ Below n₀ w W) :=
  OwnFrom.and (Go.Own.from (holdsRow_own n₀ B t e 1 (fun pre => pre.length) encR (fun _ _ => True)) _) (ownFrom_below hn hD)


end Go.Proofs.YtdglnpkkfkagaaaGreat

/-! C05d -/
namespace Go.Proofs.YtdglnpkkfkagaaaGreat
open Go.RowKit
set_option linter.unusedVariables false

theorem put_nil5 (c : Int) (w : World) (hs : scB c = true) :
    Calls Tryz.prog 129 #[.slice none 0 0, .int .i32 c] w fun e w' => ∃ a' cap', e = .returned (.tuple #[.slice a' (lenI c) cap', .int .i64 0]) ∧ Reads .u8 w' a' (lenI c) cap' (octs c) ∧ Below w.heap.size w w' := by
  have := utfone_Put none 0 0 [] c w (Reads.nil _ _ _ _ (Nat.zero_le _)) (by decide) hs
  simpa only [Nat.zero_add, List.nil_append] using this
set_option maxHeartbeats 1000000 in
theorem utfall_Len (a : Option Addr) (len cap : Nat) (xs : List Int) (w : World) (hr : Reads .i32 w a len cap xs) (hN : len < 100000000000) :
    Calls Tryz.prog 128 #[.slice a len cap] w fun e w' => e = .returned (.int .i64 (lenL xs)) ∧ w = w' := by
  have hl := hr.len_le
  have HR := hid hr
  have hsz := hr.size
  clear hr
  go_enter Tryz.func128, Tryz.ntmps128
  go_wp2
  go_loop [3, 8] (fun n i => ∃ k : Nat, k ≤ len ∧ i = .int .i64 k ∧ n = .int .i64 (lenL (xs.take k))) (fun _ i => len - (intOf i).toNat)
  case atStart => exact ⟨0, Nat.zero_le _, rfl, rfl⟩
  case round =>
    obtain ⟨k, hk, rfl, rfl⟩ := hrel
    by_cases hlt : k < len
    · obtain ⟨b, off, x, rfl, _, hc, h0, h1, hx⟩ := HR.out.getR hlt
      have hb1 := lenL_take xs k
      have hb2 := lenI_le x
      rw [hsz] at hb1
      go_wp2_with (go_at_call 142; (with_reducible refine (utfone_Len _ _).mono ?_); rintro e w' ⟨rfl, rfl⟩)
      go_round
      case rel => exact ⟨k + 1, by omega, by go_num, by rw [lenL_snoc hx.out.2]; push_cast; rfl⟩
      case measure => simp [intOf]; omega
    · go_wp2
      go_ret
      exact ⟨ret_int (by rw [HR.out.all (by omega)]), rfl⟩
set_option maxHeartbeats 1000000 in
theorem utfall_LayNo (a : Option Addr) (len cap : Nat) (xs : List Int) (w : World) (hr : Reads .i32 w a len cap xs) (hs : xs.all scB = false) :
    Calls Tryz.prog 108 #[.slice a len cap] w fun e w' => e = .returned (.tuple #[.slice none 0 0, .int .i64 7]) ∧ w = w' := by
  have HR := hid hr
  clear hr
  go_enter Tryz.func108, Tryz.ntmps108
  go_wp2_with (go_at_call 127; (with_reducible refine (scalar_Right _ _ _ _ _ HR.out).mono ?_); rintro e w' ⟨rfl, rfl⟩)
  go_ret2
  exact ⟨rfl, rfl⟩
set_option maxHeartbeats 1000000 in
theorem utfall_Lay (a : Option Addr) (len cap : Nat) (xs : List Int) (w : World) (hr : Reads .i32 w a len cap xs) (hN : len < 100000000) (hs : xs.all scB = true) :
    Calls Tryz.prog 108 #[.slice a len cap] w fun e w' => ∃ a' cap', e = .returned (.tuple #[.slice a' (lenL xs) cap', .int .i64 0]) ∧ Reads .u8 w' a' (lenL xs) cap' (octL xs) ∧ Below w.heap.size w w' := by
  have HR := hid hr
  have hsz := hr.size
  have hll := lenL_le xs
  rw [hsz] at hll
  have HS := hid (List.all_eq_true.1 hs)
  clear hr
  go_enter Tryz.func108, Tryz.ntmps108
  go_wp2_with (first
    | (go_at_call 127; (with_reducible refine (scalar_Right _ _ _ _ _ HR.out).mono ?_); rintro e w' ⟨rfl, rfl⟩)
    | (go_at_call 128; (with_reducible refine (utfall_Len _ _ _ _ _ HR.out (by omega)).mono ?_); rintro e w' ⟨rfl, rfl⟩)
    | (at_make; (refine wpList_make0 (n := lenL xs) CT8 rfl _ _ rfl rfl rfl (Below.refl _ _) (by omega) ?_); intro v1 w1 ho1 hb1))
  go_loopw [4, 17] (fun v i wr => ∃ k : Nat, k ≤ len ∧ i = .int .i64 k ∧ Own .u8 5 w.heap.size wr v (octL (xs.take k)) ∧ Below w.heap.size w wr) (fun _ i _ => len - (intOf i).toNat)
  case atStart => exact ⟨0, Nat.zero_le _, rfl, ho1, hb1⟩
  case round =>
    obtain ⟨k, hk, rfl, hown', hbel'⟩ := hrel
    by_cases hlt : k < len
    · obtain ⟨b, off, x, rfl, _, hc, h0, h1, hx⟩ := (HR.out.below hbel').getR hlt
      have hsx := hid (HS.out x (List.mem_of_getElem? hx.out.1))
      have hb1 : (octL (xs.take k)).length ≤ 4 * xs.length := lenL_take xs k
      have hb2 := lenI_le x
      rw [hsz] at hb1
      go_wp2_with (first
        | (go_at_call 129; (with_reducible refine (put_nil5 _ _ hsx.out).mono ?_); rintro e w2 ⟨a2, c2, rfl, hr2, hb2⟩; have ho2 := hown'.below hb2; have hbl2 := below_then hbel' hb2)
        | (at_builtin; go_must (refine wpList_more CT8 rfl _ _ rfl rfl rfl ho2 hbl2 hr2 (by omega) ?_); intro v3 w3 ho3 hb3))
      rw [← octL_snoc hx.out.2] at ho3
      clear hown' hbel'
      go_roundw
      case rel => exact ⟨k + 1, by omega, by go_num, ho3, hb3⟩
      case measure => simp [intOf]; omega
    · go_wp2_with fail
      obtain ⟨a', cap', rfl, hrd⟩ := hown'.reads
      rw [HR.out.all (show len ≤ k by omega)] at hrd
      go_ret2
      exact ⟨a', cap', by rw [HR.out.all (show len ≤ k by omega)]; rfl, hrd, hbel'⟩

end Go.Proofs.YtdglnpkkfkagaaaGreat
