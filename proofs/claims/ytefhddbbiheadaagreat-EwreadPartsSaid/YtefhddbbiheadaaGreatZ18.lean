/-
  Texts of ours laid together: R01k.
-/
import Derived.Test.YtefhddbbiheadaaGreatRows
import Derived.Deep.CutBlock
import Derived.Test.YtefhddbbiheadaaGreatZ17

/-! R01k -/
namespace Go.Proofs.YtefhddbbiheadaaGreat
open Go.RowKit
set_option linter.unusedVariables false

theorem has_r (s : ByteArray) (c : Int) (w : World) (h0 : 0 ≤ c) (h1 : c ≤ 255) (hs : s.size ≤ 1000000) :
    Calls Tryz.prog 125 #[.string s, .int .u8 c] w fun e w' => e = .returned (.bool (hasB s c)) ∧ w = w' := by
  go_enter Tryz.func125, Tryz.ntmps125
  go_wp2
  go_loop [5] (fun i => ∃ k : Nat, k ≤ s.size ∧ i = .int .i64 k ∧ Hid ((s.data.toList.take k).any (fun b => (b.toNat : Int) == c) = false)) (fun i => s.size - (intOf i).toNat)
  case atStart => exact ⟨0, Nat.zero_le _, rfl, by simp [Hid]⟩
  case round =>
    obtain ⟨k, hk, rfl, hn⟩ := hrel
    by_cases hlt : k < s.size
    · go_wp2
      · go_ret
        exact ⟨ret_bool (by rw [hasB_eq s c h0 h1]; exact (any_stop s k hlt _ ‹_›).symm), rfl⟩
      · go_round
        case rel => exact ⟨k + 1, by omega, by go_num, any_on s k hlt _ ‹_› hn.out⟩
        case measure => simp [intOf]; omega
    · go_wp2
      go_ret
      exact ⟨ret_bool (by rw [hasB_eq s c h0 h1]; exact (any_end s k (by omega) _ hn.out).symm), rfl⟩
def letB (c : Int) : Bool := (decide (65 ≤ c) && decide (c ≤ 90)) || (decide (97 ≤ c) && decide (c ≤ 122))
def digB (c : Int) : Bool := decide (48 ≤ c) && decide (c ≤ 57)
def priB (c : Int) : Bool := decide (33 ≤ c) && decide (c ≤ 126)
def ctlB (c : Int) : Bool := decide (c < 32) || (c == 127)
def blaB (c : Int) : Bool := (c == 32) || (c == 9)
def add1 (b : Bool) (k : Int) (n : Int) : Int := if b = true then n + k else n
theorem add1_bd (b : Bool) (k n : Int) (h : 0 ≤ k) : n ≤ add1 b k n ∧ add1 b k n ≤ n + k := by unfold add1; split <;> omega
def sumR (c : Int) : Int := add1 (letB c || digB c || hasB baS c) 512 (add1 (priB c && !hasB spS c && !hasB noS c) 256 (add1 (letB c || digB c || hasB woS c) 128
  (add1 (priB c && !hasB spS c) 64 (add1 (hasB spS c) 32 (add1 (letB c) 16 (add1 (digB c) 8 (add1 (priB c) 4 (add1 (blaB c) 2 (add1 (ctlB c) 1 0)))))))))
/-- What the named variables hold, while the sum is made. -/
def KR (c : Int) (s0 s4 s5 s6 s7 : Value) : Prop := s0 = .int .u8 c ∧ s4 = .bool (letB c) ∧ s5 = .bool (digB c) ∧ s6 = .bool (priB c) ∧ s7 = .bool (hasB spS c)
theorem KR.mk {c x : Int} {b4 b5 b6 b7 : Bool} (h0 : x = c) (h4 : b4 = letB c) (h5 : b5 = digB c) (h6 : b6 = priB c) (h7 : b7 = hasB spS c) : KR c (.int .u8 x) (.bool b4) (.bool b5) (.bool b6) (.bool b7) := by
  subst h0 h4 h5 h6 h7; exact ⟨rfl, rfl, rfl, rfl, rfl⟩
set_option maxHeartbeats 4000000 in
set_option maxRecDepth 100000 in
theorem sum_r (c : Int) (w : World) (h0 : 0 ≤ c) (h1 : c ≤ 255) :
    Calls Tryz.prog 95 #[.int .u8 c] w fun e w' => e = .returned (.int .i64 (sumR c)) ∧ w = w' := by
  go_enter Tryz.func95, Tryz.ntmps95
  go_upto_region 2 with (go_at_call 125; refine (has_r _ _ _ h0 h1 (by decide)).mono ?_; rintro e w' ⟨rfl, rfl⟩)
  go_cut [4] (fun s wx => s = .bool (letB c) ∧ w = wx)
  case first =>
    go_wp2_with (go_at_call 125; refine (has_r _ _ _ h0 h1 (by decide)).mono ?_; rintro e w' ⟨rfl, rfl⟩)
    all_goals (go_meet; refine ⟨congrArg Value.bool ?_, rfl⟩; first | rfl | (simp [*]; done) | (rw [Bool.eq_iff_iff]; simp [*, letB]; done) | (rw [Bool.eq_iff_iff]; simp [*, letB]; omega))
  case rest =>
  obtain ⟨rfl, rfl⟩ := hcut
  go_upto_region 3 with (go_at_call 125; refine (has_r _ _ _ h0 h1 (by decide)).mono ?_; rintro e w' ⟨rfl, rfl⟩)
  go_cut [5] (fun s wx => s = .bool (digB c) ∧ w = wx)
  case first =>
    go_wp2_with (go_at_call 125; refine (has_r _ _ _ h0 h1 (by decide)).mono ?_; rintro e w' ⟨rfl, rfl⟩)
    all_goals (go_meet; refine ⟨congrArg Value.bool ?_, rfl⟩; first | rfl | (simp [*]; done) | (rw [Bool.eq_iff_iff]; simp [*, digB]; done) | (rw [Bool.eq_iff_iff]; simp [*, digB]; omega))
  case rest =>
  obtain ⟨rfl, rfl⟩ := hcut
  go_upto_region 4 with (go_at_call 125; refine (has_r _ _ _ h0 h1 (by decide)).mono ?_; rintro e w' ⟨rfl, rfl⟩)
  go_cut [6] (fun s wx => s = .bool (priB c) ∧ w = wx)
  case first =>
    go_wp2_with (go_at_call 125; refine (has_r _ _ _ h0 h1 (by decide)).mono ?_; rintro e w' ⟨rfl, rfl⟩)
    all_goals (go_meet; refine ⟨congrArg Value.bool ?_, rfl⟩; first | rfl | (simp [*]; done) | (rw [Bool.eq_iff_iff]; simp [*, priB]; done) | (rw [Bool.eq_iff_iff]; simp [*, priB]; omega))
  case rest =>
  obtain ⟨rfl, rfl⟩ := hcut
  obtain ⟨n0, e0⟩ : ∃ n : Int, n = 0 := ⟨_, rfl⟩
  have E0 := hid e0
  have lo0 : 0 ≤ n0 ∧ n0 ≤ 0 := by omega
  go_upto_region 6 with (go_at_call 125; refine (has_r _ _ _ h0 h1 (by decide)).mono ?_; rintro e w' ⟨rfl, rfl⟩)
  rw [← e0]
  clear e0
  go_upto_region 6 with (go_at_call 125; refine (has_r _ _ _ h0 h1 (by decide)).mono ?_; rintro e w' ⟨rfl, rfl⟩)
  go_cut [0, 3, 4, 5, 6, 7, 41] (fun s0 s3 s4 s5 s6 s7 s wx => KR c s0 s4 s5 s6 s7 ∧ s3 = .int .i64 n0 ∧ s = .bool (ctlB c) ∧ w = wx)
  case first =>
    go_wp2_with (go_at_call 125; refine (has_r _ _ _ h0 h1 (by decide)).mono ?_; rintro e w' ⟨rfl, rfl⟩)
    all_goals (go_meet; refine ⟨KR.mk (by first | rfl | omega | (simp only [beq_iff_eq] at *; omega)) (by first | rfl | simp [*]) (by first | rfl | simp [*]) (by first | rfl | simp [*]) (by first | rfl | simp [*]), rfl, congrArg Value.bool ?_, rfl⟩; first | rfl | (simp [*]; done) | (rw [Bool.eq_iff_iff]; simp [*, ctlB]; done) | (rw [Bool.eq_iff_iff]; simp [*, ctlB]; omega))
  case rest =>
  obtain ⟨⟨rfl, rfl, rfl, rfl, rfl⟩, rfl, rfl, rfl⟩ := hcut
  go_upto_if 41 with (go_at_call 125; refine (has_r _ _ _ h0 h1 (by decide)).mono ?_; rintro e w' ⟨rfl, rfl⟩)
  go_cut [0, 3, 4, 5, 6, 7] (fun s0 s3 s4 s5 s6 s7 wx => KR c s0 s4 s5 s6 s7 ∧ (∃ m : Int, s3 = .int .i64 m ∧ Hid (m = add1 (ctlB c) 1 n0) ∧ n0 ≤ m ∧ m ≤ n0 + 1) ∧ w = wx)
  case first =>
    go_wp2_with (go_at_call 125; refine (has_r _ _ _ h0 h1 (by decide)).mono ?_; rintro e w' ⟨rfl, rfl⟩)
    all_goals (go_meet; exact ⟨KR.mk (by first | rfl | omega | (simp only [beq_iff_eq] at *; omega)) (by first | rfl | simp [*]) (by first | rfl | simp [*]) (by first | rfl | simp [*]) (by first | rfl | simp [*]), ⟨_, rfl, by unfold Hid add1; simp [*], by omega, by omega⟩, rfl⟩)
  case rest =>
  obtain ⟨⟨rfl, rfl, rfl, rfl, rfl⟩, ⟨n1, rfl, E1, lo1, hi1⟩, rfl⟩ := hcut
  go_upto_region 8 with (go_at_call 125; refine (has_r _ _ _ h0 h1 (by decide)).mono ?_; rintro e w' ⟨rfl, rfl⟩)
  go_cut [0, 3, 4, 5, 6, 7, 49] (fun s0 s3 s4 s5 s6 s7 s wx => KR c s0 s4 s5 s6 s7 ∧ s3 = .int .i64 n1 ∧ s = .bool (blaB c) ∧ w = wx)
  case first =>
    go_wp2_with (go_at_call 125; refine (has_r _ _ _ h0 h1 (by decide)).mono ?_; rintro e w' ⟨rfl, rfl⟩)
    all_goals (go_meet; refine ⟨KR.mk (by first | rfl | omega | (simp only [beq_iff_eq] at *; omega)) (by first | rfl | simp [*]) (by first | rfl | simp [*]) (by first | rfl | simp [*]) (by first | rfl | simp [*]), rfl, congrArg Value.bool ?_, rfl⟩; first | rfl | (simp [*]; done) | (rw [Bool.eq_iff_iff]; simp [*, blaB]; done) | (rw [Bool.eq_iff_iff]; simp [*, blaB]; omega))
  case rest =>
  obtain ⟨⟨rfl, rfl, rfl, rfl, rfl⟩, rfl, rfl, rfl⟩ := hcut
  go_upto_if 49 with (go_at_call 125; refine (has_r _ _ _ h0 h1 (by decide)).mono ?_; rintro e w' ⟨rfl, rfl⟩)
  go_cut [0, 3, 4, 5, 6, 7] (fun s0 s3 s4 s5 s6 s7 wx => KR c s0 s4 s5 s6 s7 ∧ (∃ m : Int, s3 = .int .i64 m ∧ Hid (m = add1 (blaB c) 2 n1) ∧ n1 ≤ m ∧ m ≤ n1 + 2) ∧ w = wx)
  case first =>
    go_wp2_with (go_at_call 125; refine (has_r _ _ _ h0 h1 (by decide)).mono ?_; rintro e w' ⟨rfl, rfl⟩)
    all_goals (go_meet; exact ⟨KR.mk (by first | rfl | omega | (simp only [beq_iff_eq] at *; omega)) (by first | rfl | simp [*]) (by first | rfl | simp [*]) (by first | rfl | simp [*]) (by first | rfl | simp [*]), ⟨_, rfl, by unfold Hid add1; simp [*], by omega, by omega⟩, rfl⟩)
  case rest =>
  obtain ⟨⟨rfl, rfl, rfl, rfl, rfl⟩, ⟨n2, rfl, E2, lo2, hi2⟩, rfl⟩ := hcut
  go_upto_if 52 with (go_at_call 125; refine (has_r _ _ _ h0 h1 (by decide)).mono ?_; rintro e w' ⟨rfl, rfl⟩)
  go_cut [0, 3, 4, 5, 6, 7] (fun s0 s3 s4 s5 s6 s7 wx => KR c s0 s4 s5 s6 s7 ∧ (∃ m : Int, s3 = .int .i64 m ∧ Hid (m = add1 (priB c) 4 n2) ∧ n2 ≤ m ∧ m ≤ n2 + 4) ∧ w = wx)
  case first =>
    go_wp2_with (go_at_call 125; refine (has_r _ _ _ h0 h1 (by decide)).mono ?_; rintro e w' ⟨rfl, rfl⟩)
    all_goals (go_meet; exact ⟨KR.mk (by first | rfl | omega | (simp only [beq_iff_eq] at *; omega)) (by first | rfl | simp [*]) (by first | rfl | simp [*]) (by first | rfl | simp [*]) (by first | rfl | simp [*]), ⟨_, rfl, by unfold Hid add1; simp [*], by omega, by omega⟩, rfl⟩)
  case rest =>
  obtain ⟨⟨rfl, rfl, rfl, rfl, rfl⟩, ⟨n3, rfl, E3, lo3, hi3⟩, rfl⟩ := hcut
  go_upto_if 55 with (go_at_call 125; refine (has_r _ _ _ h0 h1 (by decide)).mono ?_; rintro e w' ⟨rfl, rfl⟩)
  go_cut [0, 3, 4, 5, 6, 7] (fun s0 s3 s4 s5 s6 s7 wx => KR c s0 s4 s5 s6 s7 ∧ (∃ m : Int, s3 = .int .i64 m ∧ Hid (m = add1 (digB c) 8 n3) ∧ n3 ≤ m ∧ m ≤ n3 + 8) ∧ w = wx)
  case first =>
    go_wp2_with (go_at_call 125; refine (has_r _ _ _ h0 h1 (by decide)).mono ?_; rintro e w' ⟨rfl, rfl⟩)
    all_goals (go_meet; exact ⟨KR.mk (by first | rfl | omega | (simp only [beq_iff_eq] at *; omega)) (by first | rfl | simp [*]) (by first | rfl | simp [*]) (by first | rfl | simp [*]) (by first | rfl | simp [*]), ⟨_, rfl, by unfold Hid add1; simp [*], by omega, by omega⟩, rfl⟩)
  case rest =>
  obtain ⟨⟨rfl, rfl, rfl, rfl, rfl⟩, ⟨n4, rfl, E4, lo4, hi4⟩, rfl⟩ := hcut
  go_upto_if 58 with (go_at_call 125; refine (has_r _ _ _ h0 h1 (by decide)).mono ?_; rintro e w' ⟨rfl, rfl⟩)
  go_cut [0, 3, 4, 5, 6, 7] (fun s0 s3 s4 s5 s6 s7 wx => KR c s0 s4 s5 s6 s7 ∧ (∃ m : Int, s3 = .int .i64 m ∧ Hid (m = add1 (letB c) 16 n4) ∧ n4 ≤ m ∧ m ≤ n4 + 16) ∧ w = wx)
  case first =>
    go_wp2_with (go_at_call 125; refine (has_r _ _ _ h0 h1 (by decide)).mono ?_; rintro e w' ⟨rfl, rfl⟩)
    all_goals (go_meet; exact ⟨KR.mk (by first | rfl | omega | (simp only [beq_iff_eq] at *; omega)) (by first | rfl | simp [*]) (by first | rfl | simp [*]) (by first | rfl | simp [*]) (by first | rfl | simp [*]), ⟨_, rfl, by unfold Hid add1; simp [*], by omega, by omega⟩, rfl⟩)
  case rest =>
  obtain ⟨⟨rfl, rfl, rfl, rfl, rfl⟩, ⟨n5, rfl, E5, lo5, hi5⟩, rfl⟩ := hcut
  go_upto_if 61 with (go_at_call 125; refine (has_r _ _ _ h0 h1 (by decide)).mono ?_; rintro e w' ⟨rfl, rfl⟩)
  go_cut [0, 3, 4, 5, 6, 7] (fun s0 s3 s4 s5 s6 s7 wx => KR c s0 s4 s5 s6 s7 ∧ (∃ m : Int, s3 = .int .i64 m ∧ Hid (m = add1 (hasB { data := #[40, 41, 60, 62, 64, 44, 59, 58, 92, 34, 47, 91, 93, 63, 61] } c) 32 n5) ∧ n5 ≤ m ∧ m ≤ n5 + 32) ∧ w = wx)
  case first =>
    go_wp2_with (go_at_call 125; refine (has_r _ _ _ h0 h1 (by decide)).mono ?_; rintro e w' ⟨rfl, rfl⟩)
    all_goals (go_meet; exact ⟨KR.mk (by first | rfl | omega | (simp only [beq_iff_eq] at *; omega)) (by first | rfl | simp [*]) (by first | rfl | simp [*]) (by first | rfl | simp [*]) (by first | rfl | simp [*]), ⟨_, rfl, by unfold Hid add1; simp [*], by omega, by omega⟩, rfl⟩)
  case rest =>
  obtain ⟨⟨rfl, rfl, rfl, rfl, rfl⟩, ⟨n6, rfl, E6, lo6, hi6⟩, rfl⟩ := hcut
  go_upto_region 18 with (go_at_call 125; refine (has_r _ _ _ h0 h1 (by decide)).mono ?_; rintro e w' ⟨rfl, rfl⟩)
  go_cut [0, 3, 4, 5, 6, 7, 68] (fun s0 s3 s4 s5 s6 s7 s wx => KR c s0 s4 s5 s6 s7 ∧ s3 = .int .i64 n6 ∧ (∃ t : Bool, s = .bool t ∧ Hid (t = (priB c && !hasB { data := #[40, 41, 60, 62, 64, 44, 59, 58, 92, 34, 47, 91, 93, 63, 61] } c))) ∧ w = wx)
  case first =>
    go_wp2_with (go_at_call 125; refine (has_r _ _ _ h0 h1 (by decide)).mono ?_; rintro e w' ⟨rfl, rfl⟩)
    all_goals (go_meet; refine ⟨KR.mk (by first | rfl | omega | (simp only [beq_iff_eq] at *; omega)) (by first | rfl | simp [*]) (by first | rfl | simp [*]) (by first | rfl | simp [*]) (by first | rfl | simp [*]), rfl, ⟨_, rfl, ?_⟩, rfl⟩; unfold Hid; first | rfl | (simp [*]; done))
  case rest =>
  obtain ⟨⟨rfl, rfl, rfl, rfl, rfl⟩, rfl, ⟨t18, rfl, T18⟩, rfl⟩ := hcut
  go_upto_if 68 with (go_at_call 125; refine (has_r _ _ _ h0 h1 (by decide)).mono ?_; rintro e w' ⟨rfl, rfl⟩)
  go_cut [0, 3, 4, 5, 6, 7] (fun s0 s3 s4 s5 s6 s7 wx => KR c s0 s4 s5 s6 s7 ∧ (∃ m : Int, s3 = .int .i64 m ∧ Hid (m = add1 (t18) 64 n6) ∧ n6 ≤ m ∧ m ≤ n6 + 64) ∧ w = wx)
  case first =>
    go_wp2_with (go_at_call 125; refine (has_r _ _ _ h0 h1 (by decide)).mono ?_; rintro e w' ⟨rfl, rfl⟩)
    all_goals (go_meet; exact ⟨KR.mk (by first | rfl | omega | (simp only [beq_iff_eq] at *; omega)) (by first | rfl | simp [*]) (by first | rfl | simp [*]) (by first | rfl | simp [*]) (by first | rfl | simp [*]), ⟨_, rfl, by unfold Hid add1; simp [*], by omega, by omega⟩, rfl⟩)
  case rest =>
  obtain ⟨⟨rfl, rfl, rfl, rfl, rfl⟩, ⟨n7, rfl, E7, lo7, hi7⟩, rfl⟩ := hcut
  go_upto_region 20 with (go_at_call 125; refine (has_r _ _ _ h0 h1 (by decide)).mono ?_; rintro e w' ⟨rfl, rfl⟩)
  go_cut [0, 3, 4, 5, 6, 7, 78] (fun s0 s3 s4 s5 s6 s7 s wx => KR c s0 s4 s5 s6 s7 ∧ s3 = .int .i64 n7 ∧ (∃ t : Bool, s = .bool t ∧ Hid (t = (letB c || digB c || hasB { data := #[33, 42, 43, 45, 47] } c))) ∧ w = wx)
  case first =>
    go_wp2_with (go_at_call 125; refine (has_r _ _ _ h0 h1 (by decide)).mono ?_; rintro e w' ⟨rfl, rfl⟩)
    all_goals (go_meet; refine ⟨KR.mk (by first | rfl | omega | (simp only [beq_iff_eq] at *; omega)) (by first | rfl | simp [*]) (by first | rfl | simp [*]) (by first | rfl | simp [*]) (by first | rfl | simp [*]), rfl, ⟨_, rfl, ?_⟩, rfl⟩; unfold Hid; first | rfl | (simp [*]; done))
  case rest =>
  obtain ⟨⟨rfl, rfl, rfl, rfl, rfl⟩, rfl, ⟨t20, rfl, T20⟩, rfl⟩ := hcut
  go_upto_if 78 with (go_at_call 125; refine (has_r _ _ _ h0 h1 (by decide)).mono ?_; rintro e w' ⟨rfl, rfl⟩)
  go_cut [0, 3, 4, 5, 6, 7] (fun s0 s3 s4 s5 s6 s7 wx => KR c s0 s4 s5 s6 s7 ∧ (∃ m : Int, s3 = .int .i64 m ∧ Hid (m = add1 (t20) 128 n7) ∧ n7 ≤ m ∧ m ≤ n7 + 128) ∧ w = wx)
  case first =>
    go_wp2_with (go_at_call 125; refine (has_r _ _ _ h0 h1 (by decide)).mono ?_; rintro e w' ⟨rfl, rfl⟩)
    all_goals (go_meet; exact ⟨KR.mk (by first | rfl | omega | (simp only [beq_iff_eq] at *; omega)) (by first | rfl | simp [*]) (by first | rfl | simp [*]) (by first | rfl | simp [*]) (by first | rfl | simp [*]), ⟨_, rfl, by unfold Hid add1; simp [*], by omega, by omega⟩, rfl⟩)
  case rest =>
  obtain ⟨⟨rfl, rfl, rfl, rfl, rfl⟩, ⟨n8, rfl, E8, lo8, hi8⟩, rfl⟩ := hcut
  go_upto_region 22 with (go_at_call 125; refine (has_r _ _ _ h0 h1 (by decide)).mono ?_; rintro e w' ⟨rfl, rfl⟩)
  go_cut [0, 3, 4, 5, 6, 7, 90] (fun s0 s3 s4 s5 s6 s7 s wx => KR c s0 s4 s5 s6 s7 ∧ s3 = .int .i64 n8 ∧ (∃ t : Bool, s = .bool t ∧ Hid (t = (priB c && !hasB { data := #[40, 41, 60, 62, 64, 44, 59, 58, 92, 34, 47, 91, 93, 63, 61] } c && !hasB { data := #[42, 39, 37] } c))) ∧ w = wx)
  case first =>
    go_wp2_with (go_at_call 125; refine (has_r _ _ _ h0 h1 (by decide)).mono ?_; rintro e w' ⟨rfl, rfl⟩)
    all_goals (go_meet; refine ⟨KR.mk (by first | rfl | omega | (simp only [beq_iff_eq] at *; omega)) (by first | rfl | simp [*]) (by first | rfl | simp [*]) (by first | rfl | simp [*]) (by first | rfl | simp [*]), rfl, ⟨_, rfl, ?_⟩, rfl⟩; unfold Hid; first | rfl | (simp [*]; done))
  case rest =>
  obtain ⟨⟨rfl, rfl, rfl, rfl, rfl⟩, rfl, ⟨t22, rfl, T22⟩, rfl⟩ := hcut
  go_upto_if 90 with (go_at_call 125; refine (has_r _ _ _ h0 h1 (by decide)).mono ?_; rintro e w' ⟨rfl, rfl⟩)
  go_cut [0, 3, 4, 5, 6, 7] (fun s0 s3 s4 s5 s6 s7 wx => KR c s0 s4 s5 s6 s7 ∧ (∃ m : Int, s3 = .int .i64 m ∧ Hid (m = add1 (t22) 256 n8) ∧ n8 ≤ m ∧ m ≤ n8 + 256) ∧ w = wx)
  case first =>
    go_wp2_with (go_at_call 125; refine (has_r _ _ _ h0 h1 (by decide)).mono ?_; rintro e w' ⟨rfl, rfl⟩)
    all_goals (go_meet; exact ⟨KR.mk (by first | rfl | omega | (simp only [beq_iff_eq] at *; omega)) (by first | rfl | simp [*]) (by first | rfl | simp [*]) (by first | rfl | simp [*]) (by first | rfl | simp [*]), ⟨_, rfl, by unfold Hid add1; simp [*], by omega, by omega⟩, rfl⟩)
  case rest =>
  obtain ⟨⟨rfl, rfl, rfl, rfl, rfl⟩, ⟨n9, rfl, E9, lo9, hi9⟩, rfl⟩ := hcut
  go_upto_region 24 with (go_at_call 125; refine (has_r _ _ _ h0 h1 (by decide)).mono ?_; rintro e w' ⟨rfl, rfl⟩)
  go_cut [0, 3, 4, 5, 6, 7, 100] (fun s0 s3 s4 s5 s6 s7 s wx => KR c s0 s4 s5 s6 s7 ∧ s3 = .int .i64 n9 ∧ (∃ t : Bool, s = .bool t ∧ Hid (t = (letB c || digB c || hasB { data := #[43, 47] } c))) ∧ w = wx)
  case first =>
    go_wp2_with (go_at_call 125; refine (has_r _ _ _ h0 h1 (by decide)).mono ?_; rintro e w' ⟨rfl, rfl⟩)
    all_goals (go_meet; refine ⟨KR.mk (by first | rfl | omega | (simp only [beq_iff_eq] at *; omega)) (by first | rfl | simp [*]) (by first | rfl | simp [*]) (by first | rfl | simp [*]) (by first | rfl | simp [*]), rfl, ⟨_, rfl, ?_⟩, rfl⟩; unfold Hid; first | rfl | (simp [*]; done))
  case rest =>
  obtain ⟨⟨rfl, rfl, rfl, rfl, rfl⟩, rfl, ⟨t24, rfl, T24⟩, rfl⟩ := hcut
  go_upto_if 100 with (go_at_call 125; refine (has_r _ _ _ h0 h1 (by decide)).mono ?_; rintro e w' ⟨rfl, rfl⟩)
  go_cut [0, 3, 4, 5, 6, 7] (fun s0 s3 s4 s5 s6 s7 wx => KR c s0 s4 s5 s6 s7 ∧ (∃ m : Int, s3 = .int .i64 m ∧ Hid (m = add1 (t24) 512 n9) ∧ n9 ≤ m ∧ m ≤ n9 + 512) ∧ w = wx)
  case first =>
    go_wp2_with (go_at_call 125; refine (has_r _ _ _ h0 h1 (by decide)).mono ?_; rintro e w' ⟨rfl, rfl⟩)
    all_goals (go_meet; exact ⟨KR.mk (by first | rfl | omega | (simp only [beq_iff_eq] at *; omega)) (by first | rfl | simp [*]) (by first | rfl | simp [*]) (by first | rfl | simp [*]) (by first | rfl | simp [*]), ⟨_, rfl, by unfold Hid add1; simp [*], by omega, by omega⟩, rfl⟩)
  case rest =>
  obtain ⟨⟨rfl, rfl, rfl, rfl, rfl⟩, ⟨n10, rfl, E10, lo10, hi10⟩, rfl⟩ := hcut
  go_wp2_with (go_at_call 125; refine (has_r _ _ _ h0 h1 (by decide)).mono ?_; rintro e w' ⟨rfl, rfl⟩)
  go_ret
  exact ⟨ret_int (by rw [E10.out, E9.out, E8.out, E7.out, T18.out, T20.out, T22.out, T24.out, E6.out, E5.out, E4.out, E3.out, E2.out, E1.out, E0.out]; rfl), rfl⟩
theorem sum_eq_fin : ∀ n : Fin 256, sumR (n.val : Int) = kindI (n.val : Int) := by decide +kernel
theorem sum_eq (c : Int) (h0 : 0 ≤ c) (h1 : c ≤ 255) : sumR c = kindI c := by
  have := sum_eq_fin ⟨c.toNat, by omega⟩
  rwa [show ((⟨c.toNat, by omega⟩ : Fin 256).val : Int) = c by simp; omega] at this
theorem kinds_r (c : Int) (w : World) (h0 : 0 ≤ c) (h1 : c ≤ 255) :
    Calls Tryz.prog 95 #[.int .u8 c] w fun e w' => e = .returned (.int .i64 (kindI c)) ∧ w = w' := by
  refine (sum_r c w h0 h1).mono ?_
  rintro e w' ⟨rfl, rfl⟩
  exact ⟨by rw [sum_eq c h0 h1], rfl⟩
theorem is_r (c kinds : Int) (w : World) (h0 : 0 ≤ c) (h1 : c ≤ 255) :
    Calls Tryz.prog 69 #[.int .u8 c, .int .i64 kinds] w fun e w' => e = .returned (.bool (isB kinds c)) ∧ w = w' := by
  go_enter Tryz.func69, Tryz.ntmps69
  go_wp2_with (go_at_call 95; refine (kinds_r _ _ h0 h1).mono ?_; rintro e w' ⟨rfl, rfl⟩)
  go_ret
  exact ⟨rfl, rfl⟩
set_option maxHeartbeats 1000000 in
theorem count_r (a : Option Addr) (len cap : Nat) (xs : List Int) (kinds : Int) (w : World) (hr : Reads .u8 w a len cap xs) :
    Calls Tryz.prog 59 #[.slice a len cap, .int .i64 kinds] w fun e w' => e = .returned (.int .i64 (cntI (isB kinds) xs)) ∧ w = w' := by
  have hl := hr.len_le
  have HR := hid hr
  clear hr
  go_enter Tryz.func59, Tryz.ntmps59
  go_wp2
  go_loop [5, 6] (fun n i => ∃ k : Nat, k ≤ len ∧ i = .int .i64 k ∧ n = .int .i64 (cntI (isB kinds) (xs.take k))) (fun _ i => len - (intOf i).toNat)
  case atStart => exact ⟨0, Nat.zero_le _, rfl, rfl⟩
  case round =>
    obtain ⟨k, hk, rfl, rfl⟩ := hrel
    have hb := cnt_bd (isB kinds) xs k
    by_cases hlt : k < len
    · obtain ⟨b, off, x, rfl, _, hc, h0, h1, hx⟩ := HR.out.get8 hlt
      go_wp2_with (go_at_call 69; refine (is_r _ _ _ h0 h1).mono ?_; rintro e w' ⟨rfl, rfl⟩)
      all_goals
        go_round
        case rel => exact ⟨k + 1, by omega, by go_num, by first | rw [cnt_yes hx.out.2 ‹_›] | rw [cnt_no hx.out.2 ‹_›]⟩
        case measure => simp [intOf]; omega
    · go_wp2
      go_ret
      exact ⟨ret_int (by rw [HR.out.all (by omega)]), rfl⟩
set_option maxHeartbeats 1000000 in
theorem trim_r (a : Option Addr) (len cap : Nat) (xs : List Int) (w : World) (hr : Reads .u8 w a len cap xs) :
    Calls Tryz.prog 94 #[.slice a len cap] w fun e w' => ∃ a' len' cap', e = .returned (.slice a' len' cap') ∧ Reads .u8 w' a' len' cap' (trimL (isB 2) xs) ∧ w = w' := by
  have HR := hid hr
  have hs := hr.size
  have hll := hr.len_le
  clear hr
  go_enter Tryz.func94, Tryz.ntmps94
  go_upto_block 0 with fail
  go_cut [3] (fun s wx => s = .int .i64 (frontN (isB 2) xs) ∧ w = wx)
  case first =>
    go_wp2_with fail
    go_loop [3] (fun i => ∃ k : Nat, k ≤ len ∧ i = .int .i64 k ∧ Hid (k + ((xs.drop k).takeWhile (isB 2)).length = frontN (isB 2) xs)) (fun i => len - (intOf i).toNat)
    case atStart => exact ⟨0, Nat.zero_le _, rfl, by simp [Hid, frontN]⟩
    case round =>
      obtain ⟨k, hk, rfl, hn⟩ := hrel
      by_cases hlt : k < len
      · obtain ⟨b, off, x, rfl, _, hc, h0, h1, hx⟩ := HR.out.get8 hlt
        by_cases hb : isB 2 x = true
        · go_wp2_with (go_at_call 69; refine (is_r _ _ _ h0 h1).mono ?_; rintro e w' ⟨rfl, rfl⟩)
          go_round
          case rel => exact ⟨k + 1, by omega, by go_num, by have := hn.out; rw [front_step hx.out.1 hb] at this; unfold Hid; omega⟩
          case measure => simp [intOf]; omega
        · have hb' : isB 2 x = false := by simpa using hb
          clear hb
          go_wp2_with (go_at_call 69; refine (is_r _ _ _ h0 h1).mono ?_; rintro e w' ⟨rfl, rfl⟩)
          go_meet
          exact ⟨by have := hn.out; rw [front_stop hx.out.1 hb'] at this; rw [← this]; rfl, rfl⟩
      · have hlt' : len ≤ k := by omega
        go_wp2
        go_meet
        exact ⟨by have := hn.out; rw [front_end (by omega)] at this; rw [← this]; rfl, rfl⟩
  case rest =>
  obtain ⟨rfl, rfl⟩ := hcut
  obtain ⟨fr, hfr⟩ : ∃ n, n = frontN (isB 2) xs := ⟨_, rfl⟩
  have hle : fr ≤ len := by rw [hfr, ← hs]; exact List.Sublist.length_le (List.takeWhile_sublist _)
  rw [← hfr]
  have HF := hid hfr
  clear hfr
  go_upto_block 2 with fail
  go_cut [4] (fun s wx => (∃ m : Nat, s = .int .i64 m ∧ fr ≤ m ∧ m ≤ len ∧ Hid (m = backN (isB 2) xs fr len)) ∧ w = wx)
  case first =>
    go_wp2_with fail
    go_loop [4] (fun i => ∃ m : Nat, fr ≤ m ∧ m ≤ len ∧ i = .int .i64 m ∧ Hid (backN (isB 2) xs fr len = backN (isB 2) xs fr m)) (fun i => (intOf i).toNat)
    case atStart => exact ⟨len, hle, Nat.le_refl _, rfl, rfl⟩
    case round =>
      obtain ⟨m, hm1, hm2, rfl, hn⟩ := hrel
      by_cases hlt : fr < m
      · obtain ⟨m, rfl⟩ : ∃ j, m = j + 1 := ⟨m - 1, by omega⟩
        obtain ⟨b, off, x, rfl, _, hc, h0, h1, hx⟩ := HR.out.get8 (i := m) (by omega)
        by_cases hb : isB 2 x = true
        · go_wp2_with (go_at_call 69; refine (is_r _ _ _ h0 h1).mono ?_; rintro e w' ⟨rfl, rfl⟩)
          go_round
          case rel => exact ⟨m, by omega, by omega, by go_num, by rw [Hid, hn.out, back_step hlt hx.out.1 hb]; rfl⟩
          case measure => simp [intOf]
        · have hb' : isB 2 x = false := by simpa using hb
          clear hb
          go_wp2_with (go_at_call 69; refine (is_r _ _ _ h0 h1).mono ?_; rintro e w' ⟨rfl, rfl⟩)
          go_meet
          exact ⟨⟨m + 1, by go_num, by omega, by omega, by rw [Hid, hn.out, back_stop hlt hx.out.1 hb']⟩, rfl⟩
      · have hlt' : m ≤ fr := by omega
        go_wp2
        go_meet
        exact ⟨⟨m, rfl, hm1, hm2, by rw [Hid, hn.out, back_end hlt']⟩, rfl⟩
  case rest =>
  obtain ⟨⟨m, rfl, hm1, hm2, hm⟩, rfl⟩ := hcut
  have hroom := HR.out.room
  have hp := HR.out.piece hm1 hm2
  have e1 : (xs.take m).drop fr = trimL (isB 2) xs := by rw [trimL, ← HF.out, hs, ← hm.out]
  rw [e1] at hp
  have HP := hid hp
  clear hp e1
  go_wp2
  · go_ret
    exact ⟨_, _, _, rfl, by have := HP.out; rw [if_pos ‹_›, show cap - fr = 0 by omega] at this; exact this, rfl⟩
  · go_ret
    exact ⟨_, _, _, rfl, by have := HP.out; rw [if_neg ‹_›] at this; exact this, rfl⟩
end Go.Proofs.YtefhddbbiheadaaGreat
