/-
  Contracts of package atom's functions.
-/
import Derived.Test.YtdipabcoeloeoaaRows
import Derived.Test.YtdipabcoeloeoaaC01k
import Derived.Test.YtdipabcoeloeoaaC21
import Derived.Test.YtdipabcoeloeoaaCln
import Derived.Test.YtdipabcoeloeoaaR28
namespace Go.Proofs.Ytdipabcoeloeoaa
open Go.RowKit
set_option linter.unusedVariables false

theorem atom_place (a : Option Addr) (len cap : Nat) (at_ : Int) (w : World) :
    Calls Try.prog 24 #[.slice a len cap, .int .i64 at_] w fun e w' => e = .returned (.int .i64 (withN at_ len)) ∧ w = w' := by
  by_cases h1 : at_ < 0
  · have e : withN at_ len = 0 := by unfold withN; rw [if_pos h1]
    rw [e]
    have q1 : ¬ (len : Int) < 0 := by omega
    clear e
    go_enter Try.func24, Try.ntmps24
    go_wp2_with fail
    go_ret
    exact ⟨rfl, rfl⟩
  · by_cases h2 : (len : Int) < at_
    · have e : withN at_ len = len := by unfold withN; rw [if_neg h1, if_pos h2]
      rw [e]
      clear e
      go_enter Try.func24, Try.ntmps24
      go_wp2_with fail
      go_ret
      exact ⟨rfl, rfl⟩
    · have e : (withN at_ len : Int) = at_ := by unfold withN; rw [if_neg h1, if_neg h2]; omega
      rw [e]
      clear e
      go_enter Try.func24, Try.ntmps24
      go_wp2_with fail
      go_ret
      exact ⟨rfl, rfl⟩
/-- A place within is the place itself. -/
theorem with_with (at_ : Int) (n : Nat) : withN (withN at_ n : Int) n = withN at_ n := withN_of (withN_le at_ n)
theorem gapP_with (xs : List Int) (at_ : Int) : gapP xs (withN at_ xs.length : Int) = gapP xs at_ := by
  unfold gapP; rw [with_with]
theorem tokA_with (xs : List Int) (at_ : Int) : tokA xs (withN at_ xs.length : Int) = tokA xs at_ := by
  unfold tokA; rw [with_with]
theorem atom_isSpace (c : Int) (w : World) (h0 : 0 ≤ c) (h1 : c ≤ 255) :
    Calls Try.prog 26 #[.int .u8 c] w fun e w' => e = .returned (.bool (gapB c)) ∧ w = w' := by
  have HI := hid (is_c c 2 w h0 h1)
  by_cases h13 : c = 13
  · have e : gapB c = true := by unfold gapB; rw [decide_eq_true h13, Bool.true_or, Bool.or_true]
    rw [e]
    subst h13
    clear e
    go_enter Try.func26, Try.ntmps26
    go_wp2_with (go_at_call 29; (with_reducible refine HI.out.mono ?_); rintro e w' ⟨rfl, rfl⟩)
    go_ret
    exact ⟨rfl, rfl⟩
  · have e13 : (c == 13) = false := by simpa using h13
    by_cases h10 : c = 10
    · have e : gapB c = true := by unfold gapB; rw [decide_eq_true h10, Bool.or_true, Bool.or_true]
      rw [e]
      subst h10
      clear e
      go_enter Try.func26, Try.ntmps26
      go_wp2_with (go_at_call 29; (with_reducible refine HI.out.mono ?_); rintro e w' ⟨rfl, rfl⟩)
      go_ret
      exact ⟨rfl, rfl⟩
    · have e : gapB c = isB 2 c := by unfold gapB; rw [decide_eq_false h13, decide_eq_false h10, Bool.or_false, Bool.or_false]
      rw [e]
      have e10 : (c == 10) = false := by simpa using h10
      clear e
      go_enter Try.func26, Try.ntmps26
      go_wp2_with (go_at_call 29; (with_reducible refine HI.out.mono ?_); rintro e w' ⟨rfl, rfl⟩)
      go_ret
      exact ⟨rfl, rfl⟩
set_option maxHeartbeats 4000000 in
theorem atom_comment (a : Option Addr) (len cap : Nat) (xs : List Int) (p : Nat) (w : World) (hr : Reads .u8 w a len cap xs) (hN : len < 10000000) (hp : xs[p]? = some 40) :
    Calls Try.prog 27 #[.slice a len cap, .int .i64 p] w fun e w' => e = .returned (.tuple #[.int .i64 ((p + cmE (xs.drop p) false 0 : Nat) : Int), .int .i64 (cmM (xs.drop p) false 0 0)]) ∧ w = w' := by
  have HR := hid hr
  have hsz := hr.size
  have hpl : p < len := by have := (List.getElem?_eq_some_iff.1 hp).1; omega
  have HP := hid hp
  clear hr hp
  obtain ⟨E, hE⟩ : ∃ E, E = p + cmE (xs.drop p) false 0 := ⟨_, rfl⟩
  obtain ⟨D, hD⟩ : ∃ D, D = cmM (xs.drop p) false 0 0 := ⟨_, rfl⟩
  rw [← hE, ← hD]
  have HE := hid hE
  have HD := hid hD
  clear hE hD
  go_enter Try.func27, Try.ntmps27
  go_wp2_with fail
  go_loop [1, 5, 6] (fun i ms dp => ∃ (k d m : Nat), i = .int .i64 k ∧ dp = .int .i64 d ∧ ms = .int .i64 m ∧ k ≤ len + 1 ∧ d ≤ len ∧ m ≤ len ∧ d ≤ k ∧ m ≤ k ∧ Hid ((k = p ∧ d = 0) ∨ 0 < d) ∧ Hid (k ≤ len → E = k + cmE (xs.drop k) false d) ∧ Hid (len < k → E = len) ∧ Hid (D = cmM (xs.drop k) false d m)) (fun i _ _ => len + 1 - (intOf i).toNat)
  case atStart => exact ⟨p, 0, 0, rfl, rfl, rfl, by omega, Nat.zero_le _, Nat.zero_le _, Nat.zero_le _, Nat.zero_le _, .inl ⟨rfl, rfl⟩, fun _ => HE.out, fun h => by omega, HD.out⟩
  case round =>
    obtain ⟨k, d, m, rfl, rfl, rfl, hk, hd, hm, hdk, hmk, h0, hE1, hE2, hD1⟩ := hrel
    by_cases hlt : k < len
    · obtain ⟨b, off, x, rfl, _, hc, _, _, hx⟩ := HR.out.get8 hlt
      have hdr : xs.drop k = x :: xs.drop (k + 1) := by
        have h := hx.out.1
        have hkl : k < xs.length := (List.getElem?_eq_some_iff.1 h).1
        rw [List.drop_eq_getElem_cons hkl, (List.getElem?_eq_some_iff.1 h).2]
      have hE' := hE1.out (by omega)
      have hD' := hD1.out
      rw [hdr, cmE] at hE'
      rw [hdr, cmM] at hD'
      by_cases h92 : x = 92
      · subst h92
        rw [if_pos rfl] at hE' hD'
        have hd0 : 0 < d := by
          rcases h0.out with ⟨rfl, _⟩ | h
          · have := HP.out; rw [hx.out.1] at this; cases this
          · exact h
        by_cases hk1 : k + 1 < len
        · have hdr2 : xs.drop (k + 1) = xs.getD (k + 1) 0 :: xs.drop (k + 2) := by
            have hkl : k + 1 < xs.length := by omega
            rw [List.drop_eq_getElem_cons hkl, List.getD_eq_getElem?_getD, List.getElem?_eq_getElem hkl]; rfl
          rw [hdr2, cmE] at hE'
          rw [hdr2, cmM] at hD'
          have H1 : Hid (k + 2 ≤ len → E = (k + 2) + cmE (xs.drop (k + 2)) false d) := fun _ => by omega
          have H2 : Hid (len < k + 2 → E = len) := fun h => by omega
          have H3 := hid hD'
          clear hE1 hE2 hD1 hE' hD' hdr hdr2 h0
          go_wp2_with fail
          go_round
          case rel => exact ⟨k + 2, d, m, by go_num, rfl, rfl, by omega, hd, hm, by omega, by omega, .inr hd0, H1, H2, H3⟩
          case measure => simp [intOf]; omega
        · rw [List.drop_of_length_le (by omega), cmE] at hE'
          rw [List.drop_of_length_le (by omega), cmM] at hD'
          have H1 : Hid (k + 2 ≤ len → E = (k + 2) + cmE (xs.drop (k + 2)) false d) := fun _ => by omega
          have H2 : Hid (len < k + 2 → E = len) := fun h => by omega
          have H3 : Hid (D = cmM (xs.drop (k + 2)) false d m) := by unfold Hid; rw [List.drop_of_length_le (by omega), cmM]; exact hD'
          clear hE1 hE2 hD1 hE' hD' hdr h0
          go_wp2_with fail
          go_round
          case rel => exact ⟨k + 2, d, m, by go_num, rfl, rfl, by omega, hd, hm, by omega, by omega, .inr hd0, H1, H2, H3⟩
          case measure => simp [intOf]; omega
      · rw [if_neg h92] at hE' hD'
        have e92 : (x == 92) = false := by simpa using h92
        by_cases h40 : x = 40
        · subst h40
          rw [if_pos rfl] at hE' hD'
          have H1 : Hid (k + 1 ≤ len → E = (k + 1) + cmE (xs.drop (k + 1)) false (d + 1)) := fun _ => by omega
          have H2 : Hid (len < k + 1 → E = len) := fun h => by omega
          unfold mxN at hD'
          by_cases hmx : m < d + 1
          · rw [if_pos hmx] at hD'
            have H3 := hid hD'
            have q1 : (m : Int) < (d : Int) + 1 := by omega
            clear hE1 hE2 hD1 hE' hD' hdr h0 h92
            go_wp2_with fail
            go_round
            case rel => exact ⟨k + 1, d + 1, d + 1, by go_num, by go_num, by go_num, by omega, by omega, by omega, by omega, by omega, .inr (Nat.succ_pos _), H1, H2, H3⟩
            case measure => simp [intOf]; omega
          · rw [if_neg hmx] at hD'
            have H3 := hid hD'
            have q1 : ¬ (m : Int) < (d : Int) + 1 := by omega
            clear hE1 hE2 hD1 hE' hD' hdr h0 h92
            go_wp2_with fail
            go_round
            case rel => exact ⟨k + 1, d + 1, m, by go_num, by go_num, rfl, by omega, by omega, by omega, by omega, by omega, .inr (Nat.succ_pos _), H1, H2, H3⟩
            case measure => simp [intOf]; omega
        · rw [if_neg h40] at hE' hD'
          have e40 : (x == 40) = false := by simpa using h40
          have hd0 : 0 < d := by
            rcases h0.out with ⟨rfl, _⟩ | h
            · have := HP.out; rw [hx.out.1] at this; exact absurd (Option.some.inj this) h40
            · exact h
          by_cases h41 : x = 41
          · subst h41
            rw [if_pos rfl] at hE' hD'
            by_cases hd1 : d = 1
            · subst hd1
              rw [if_pos rfl] at hE' hD'
              have G1 : Hid (((k : Int) + 1) = (E : Int)) := by unfold Hid; omega
              have G2 := hid hD'
              clear hE1 hE2 hD1 hE' hD' hdr h0 h92 h40
              go_wp2_with fail
              go_ret2
              exact ⟨two_eq G1.out (by rw [G2.out]), rfl⟩
            · rw [if_neg hd1] at hE' hD'
              have H1 : Hid (k + 1 ≤ len → E = (k + 1) + cmE (xs.drop (k + 1)) false (d - 1)) := fun _ => by omega
              have H2 : Hid (len < k + 1 → E = len) := fun h => by omega
              have H3 := hid hD'
              have q1 : ((d : Int) - 1 == 0) = false := by simp; omega
              have q2 : IntKind.i64.wrap ((d : Int) - 1) = ((d - 1 : Nat) : Int) := by rw [show (d : Int) - 1 = ((d - 1 : Nat) : Int) by omega]; exact IntWalk.i64_in _ (by omega)
              have q3 : (((d - 1 : Nat) : Int) == 0) = false := by simp; omega
              clear hE1 hE2 hD1 hE' hD' hdr h0 h92 h40
              go_wp2_with fail
              go_round
              case rel => exact ⟨k + 1, d - 1, m, by go_num, by first | rfl | go_num | (congr 1; omega), rfl, by omega, by omega, hm, by omega, by omega, .inr (by omega), H1, H2, H3⟩
              case measure => simp [intOf]; omega
          · rw [if_neg h41] at hE' hD'
            have e41 : (x == 41) = false := by simpa using h41
            have H1 : Hid (k + 1 ≤ len → E = (k + 1) + cmE (xs.drop (k + 1)) false d) := fun _ => by omega
            have H2 : Hid (len < k + 1 → E = len) := fun h => by omega
            have H3 := hid hD'
            clear hE1 hE2 hD1 hE' hD' hdr h0 h92 h40 h41
            go_wp2_with fail
            go_round
            case rel => exact ⟨k + 1, d, m, by go_num, rfl, rfl, by omega, hd, hm, by omega, by omega, .inr hd0, H1, H2, H3⟩
            case measure => simp [intOf]; omega
    · have hEl : E = len := by
        by_cases h : k ≤ len
        · rw [hE1.out h, List.drop_of_length_le (by omega), cmE]; omega
        · exact hE2.out (by omega)
      have hDl : D = m := by rw [hD1.out, List.drop_of_length_le (by omega), cmM]
      have G1 := hid hEl
      have G2 := hid hDl
      clear hE1 hE2 hD1 hEl hDl h0
      go_wp2_with fail
      go_ret2
      exact ⟨two_eq (by rw [G1.out]) (by rw [G2.out]), rfl⟩
set_option maxHeartbeats 4000000 in
theorem atom_Gap0 (a : Option Addr) (len cap : Nat) (xs : List Int) (at_ : Int) (w : World) (hr : Reads .u8 w a len cap xs) (hN : len < 10000000) :
    Calls Try.prog 10 #[.slice a len cap, .int .i64 at_] w fun e w' => e = .returned (.int .i64 (gapP xs at_)) ∧ w = w' := by
  have HR := hid hr
  have hsz := hr.size
  have hw := withN_le at_ len
  have HW := hid (atom_place a len cap at_ w)
  clear hr
  obtain ⟨G, hG⟩ : ∃ G, G = gapP xs at_ := ⟨_, rfl⟩
  rw [← hG]
  unfold gapP at hG
  rw [hsz] at hG
  generalize withN at_ len = p at *
  have HG := hid hG
  clear hG
  go_enter Try.func10, Try.ntmps10
  go_wp2_with (go_at_call 24; (with_reducible refine HW.out.mono ?_); rintro e w' ⟨rfl, rfl⟩)
  go_loop [1] (fun i => ∃ k : Nat, k ≤ len ∧ i = .int .i64 k ∧ Hid (G = k + gapN (xs.drop k))) (fun i => len - (intOf i).toNat)
  case atStart => exact ⟨p, hw, rfl, HG.out⟩
  case round =>
    obtain ⟨k, hk, rfl, hg⟩ := hrel
    by_cases hlt : k < len
    · obtain ⟨b, off, x, rfl, _, hc, h0, h1, hx⟩ := HR.out.get8 hlt
      have hg' := hg.out
      have hdr := drop28 hx.out.1
      rw [hdr] at hg'
      have HI := hid (atom_isSpace x w h0 h1)
      cases hgb : gapB x
      · rw [hgb] at HI
        by_cases h40 : x = 40
        · subst h40
          rw [gapN_com hgb rfl, ← hdr] at hg'
          have hcl := cmE_le (xs.drop k) false 0
          have hcp := cmE_pos 40 (xs.drop (k + 1)) 0
          rw [← hdr] at hcp
          rw [List.length_drop] at hcl
          have HC := hid (atom_comment _ _ _ xs k w HR.out hN hx.out.1)
          rw [List.drop_drop] at hg'
          generalize cmM (xs.drop k) false 0 0 = MM at *
          generalize cmE (xs.drop k) false 0 = n at *
          have HG2 := hid (show G = (k + n) + gapN (xs.drop (k + n)) by omega)
          clear hg hg' hgb hdr hx
          go_wp2_with (first
            | (go_at_call 26; (with_reducible refine HI.out.mono ?_); rintro e w' ⟨rfl, rfl⟩)
            | (go_at_call 27; (with_reducible refine HC.out.mono ?_); rintro e w' ⟨rfl, rfl⟩))
          go_round
          case rel => exact ⟨k + n, by omega, rfl, HG2⟩
          case measure => simp [intOf]; omega
        · rw [gapN_no hgb h40] at hg'
          have HG2 := hid (show (k : Int) = (G : Int) by omega)
          have e40 : (x == 40) = false := by simpa using h40
          clear hg hg' hgb hdr hx h40
          go_wp2_with (go_at_call 26; (with_reducible refine HI.out.mono ?_); rintro e w' ⟨rfl, rfl⟩)
          go_ret
          exact ⟨ret_int HG2.out, rfl⟩
      · rw [hgb] at HI
        rw [gapN_on hgb] at hg'
        have HG2 := hid (show G = (k + 1) + gapN (xs.drop (k + 1)) by omega)
        clear hg hg' hdr hx hgb
        go_wp2_with (go_at_call 26; (with_reducible refine HI.out.mono ?_); rintro e w' ⟨rfl, rfl⟩)
        go_round
        case rel => exact ⟨k + 1, by omega, by go_num, HG2⟩
        case measure => simp [intOf]; omega
    · have hg' := hg.out
      rw [List.drop_of_length_le (by omega), gapN_nil] at hg'
      have HG2 := hid (show (k : Int) = (G : Int) by omega)
      clear hg hg'
      go_wp2_with fail
      go_ret
      exact ⟨ret_int HG2.out, rfl⟩
theorem atom_Gap (a : Option Addr) (len cap : Nat) (xs : List Int) (at_ : Int) (w : World) (hr : Reads .u8 w a len cap xs) (hN : len < 1000000) (ha : (Lit.int .i64 at_).wf = true) :
    Calls Try.prog 10 #[.slice a len cap, .int .i64 at_] w fun e w' => e = .returned (.int .i64 (gapP xs at_)) ∧ Below w.heap.size w w' :=
  (atom_Gap0 a len cap xs at_ w hr (by omega)).mono fun e w' ⟨h, hw⟩ => ⟨h, hw ▸ Below.refl _ _⟩
set_option maxHeartbeats 1000000 in
theorem atom_Skip (a : Option Addr) (len cap : Nat) (xs : List Int) (at_ c : Int) (w : World) (hr : Reads .u8 w a len cap xs) (hN : len < 1000000) (ha : (Lit.int .i64 at_).wf = true) (hc : (Lit.int .u8 c).wf = true) :
    Calls Try.prog 8 #[.slice a len cap, .int .i64 at_, .int .u8 c] w fun e w' => e = .returned (.tuple #[.int .i64 (skpN xs at_ c), .bool (skpB xs at_ c)]) ∧ Below w.heap.size w w' := by
  have HR := hid hr
  have hsz := hr.size
  have HG := hid (atom_Gap0 a len cap xs (withN at_ len) w hr (by omega))
  have hgw := gapP_with xs at_
  rw [hsz] at hgw
  rw [hgw] at HG
  have hgl := (gapP_le xs at_).2
  rw [hsz] at hgl
  have HW := hid (atom_place a len cap at_ w)
  clear hr hgw
  unfold skpN skpB
  rw [hsz]
  generalize gapP xs at_ = G at *
  generalize withN at_ len = p at *
  by_cases hlt : G < len
  · obtain ⟨b, off, x, rfl, _, hcx, h0, h1, hx⟩ := HR.out.get8 hlt
    rw [hx.out.1]
    have q0 : ((G : Int) == (len : Int)) = false := by simp; omega
    have q1 : (G : Int) < (len : Int) := by omega
    by_cases hxc : x = c
    · subst hxc
      rw [decide_eq_true rfl, if_pos rfl]
      clear hx
      go_enter Try.func8, Try.ntmps8
      go_wp2_with (first
        | (go_at_call 10; (with_reducible refine HG.out.mono ?_); rintro e w' ⟨rfl, rfl⟩)
        | (go_at_call 24; (with_reducible refine HW.out.mono ?_); rintro e w' ⟨rfl, rfl⟩))
      go_ret2
      exact ⟨rfl, Below.refl _ _⟩
    · have e1 : (x == c) = false := by simpa using hxc
      have e2 : (x != c) = true := by simpa using hxc
      rw [decide_eq_false (show ¬ some x = some c by simpa using hxc), if_neg (by decide)]
      clear hx hxc
      go_enter Try.func8, Try.ntmps8
      go_wp2_with (first
        | (go_at_call 10; (with_reducible refine HG.out.mono ?_); rintro e w' ⟨rfl, rfl⟩)
        | (go_at_call 24; (with_reducible refine HW.out.mono ?_); rintro e w' ⟨rfl, rfl⟩))
      go_ret2
      exact ⟨rfl, Below.refl _ _⟩
  · rw [List.getElem?_eq_none (by omega), decide_eq_false (by simp), if_neg (by decide)]
    obtain rfl : G = len := by omega
    go_enter Try.func8, Try.ntmps8
    go_wp2_with (first
      | (go_at_call 10; (with_reducible refine HG.out.mono ?_); rintro e w' ⟨rfl, rfl⟩)
      | (go_at_call 24; (with_reducible refine HW.out.mono ?_); rintro e w' ⟨rfl, rfl⟩))
    go_ret2
    exact ⟨rfl, Below.refl _ _⟩
set_option maxHeartbeats 1000000 in
theorem atom_Depth (a : Option Addr) (len cap : Nat) (xs : List Int) (w : World) (hr : Reads .u8 w a len cap xs) (hN : len < 1000000) :
    Calls Try.prog 12 #[.slice a len cap] w fun e w' => e = .returned (.int .i64 (depN xs)) ∧ Below w.heap.size w w' := by
  have HR := hid hr
  have hsz := hr.size
  by_cases h0 : len = 0
  · obtain rfl : xs = [] := List.eq_nil_of_length_eq_zero (by omega)
    subst h0
    rw [show depN [] = 0 from rfl]
    clear hr
    go_enter Try.func12, Try.ntmps12
    go_wp2_with fail
    go_ret
    exact ⟨rfl, Below.refl _ _⟩
  · obtain ⟨b, off, x, rfl, _, hc, _, _, hx⟩ := hr.get8 (i := 0) (by omega)
    rw [Nat.add_zero] at hc
    have hx0 := hx.out.1
    obtain ⟨r, rfl⟩ : ∃ r, xs = x :: r := by
      cases xs with
      | nil => cases hx0
      | cons y r => exact ⟨r, by simp at hx0; rw [hx0]⟩
    have q0 : ((len : Int) == 0) = false := by simp; omega
    have q1 : (0 : Int) < (len : Int) := by omega
    rw [depN]
    by_cases h40 : x = 40
    · subst h40
      rw [if_pos rfl]
      have HC := hid (atom_comment _ _ _ (40 :: r) 0 w hr (by omega) rfl)
      rw [List.drop_zero, show ((0 : Nat) : Int) = 0 from rfl] at HC
      generalize cmM (40 :: r) false 0 0 = D at *
      generalize 0 + cmE (40 :: r) false 0 = E at *
      clear hr hx hx0
      go_enter Try.func12, Try.ntmps12
      go_wp2_with (go_at_call 27; (with_reducible refine HC.out.mono ?_); rintro e w' ⟨rfl, rfl⟩)
      go_ret
      exact ⟨rfl, Below.refl _ _⟩
    · rw [if_neg h40]
      have e1 : (x != 40) = true := by simpa using h40
      clear hr hx hx0 h40
      go_enter Try.func12, Try.ntmps12
      go_wp2_with fail
      go_ret
      exact ⟨rfl, Below.refl _ _⟩
theorem atom_Plain0 (a : Option Addr) (len cap : Nat) (xs : List Int) (w : World) (hr : Reads .u8 w a len cap xs) :
    Calls Try.prog 21 #[.slice a len cap] w fun e w' => e = .returned (.bool (plnB xs)) ∧ w = w' := by
  have hsz := hr.size
  have HA := hid (all_c a len cap xs 64 w hr)
  have e : plnB xs = (decide (0 < len) && xs.all (isB 64)) := by
    unfold plnB
    rw [← hsz]
    congr 1
    rw [decide_eq_decide, List.length_pos_iff]
  rw [e]
  clear e hr
  by_cases h0 : 0 < len
  · have q0 : (0 : Int) < (len : Int) := by omega
    rw [decide_eq_true h0, Bool.true_and]
    go_enter Try.func21, Try.ntmps21
    go_wp2_with (go_at_call 35; (with_reducible refine HA.out.mono ?_); rintro e w' ⟨rfl, rfl⟩)
    go_ret
    exact ⟨rfl, rfl⟩
  · obtain rfl : len = 0 := by omega
    rw [decide_eq_false h0, Bool.false_and]
    go_enter Try.func21, Try.ntmps21
    go_wp2_with (go_at_call 35; (with_reducible refine HA.out.mono ?_); rintro e w' ⟨rfl, rfl⟩)
    go_ret
    exact ⟨rfl, rfl⟩
theorem atom_Plain (a : Option Addr) (len cap : Nat) (xs : List Int) (w : World) (hr : Reads .u8 w a len cap xs) (hN : len < 1000000) :
    Calls Try.prog 21 #[.slice a len cap] w fun e w' => e = .returned (.bool (plnB xs)) ∧ Below w.heap.size w w' :=
  (atom_Plain0 a len cap xs w hr).mono fun e w' ⟨h, hw⟩ => ⟨h, hw ▸ Below.refl _ _⟩
set_option maxHeartbeats 1000000 in
theorem atom_Lay (a : Option Addr) (len cap : Nat) (xs : List Int) (w : World) (hr : Reads .u8 w a len cap xs) (hN : len < 1000000) :
    Calls Try.prog 19 #[.slice a len cap] w fun e w' => ∃ a' l' c', e = .returned (.slice a' l' c') ∧ Reads .u8 w' a' l' c' (layA xs) ∧ Below w.heap.size w w' := by
  have HP := hid (atom_Plain0 a len cap xs w hr)
  have HC := hid (bytes_Clone a len cap xs w hr (by omega))
  have HQ := hid (pct_Quote a len cap xs w hr (by omega))
  unfold layA
  cases hp : plnB xs
  all_goals
    rw [hp] at HP
    first | rw [if_pos rfl] | rw [if_neg (by decide)]
    clear hr hp
    go_enter Try.func19, Try.ntmps19
    go_wp2_with (first
      | (go_at_call 21; (with_reducible refine HP.out.mono ?_); rintro e w' ⟨rfl, rfl⟩)
      | (go_at_call 30; (with_reducible refine HC.out.mono ?_); rintro e w2 ⟨a2, c2, rfl, o2, h2⟩; obtain ⟨a3, l3, c3, ha3, r2⟩ := o2.back; obtain ⟨rfl, rfl, rfl⟩ : a2 = a3 ∧ len = l3 ∧ c2 = c3 := (by cases ha3; exact ⟨rfl, rfl, rfl⟩))
      | (go_at_call 33; (with_reducible refine HQ.out.mono ?_); rintro e w2 ⟨a2, l2, c2, rfl, r2, h2⟩))
    go_ret
    exact ⟨_, _, _, rfl, r2, h2⟩
set_option maxHeartbeats 2000000 in
theorem atom_Token0 (a : Option Addr) (len cap : Nat) (xs : List Int) (at_ : Int) (w : World) (hr : Reads .u8 w a len cap xs) (hN : len < 10000000) :
    Calls Try.prog 14 #[.slice a len cap, .int .i64 at_] w fun e w' => ∃ a' l' c', e = .returned (.tuple #[.slice a' l' c', .int .i64 (tokA xs at_).2.1, .int .i64 (tokA xs at_).2.2]) ∧ Reads .u8 w' a' l' c' (tokA xs at_).1 ∧ Below w.heap.size w w' := by
  have HR := hid hr
  have hsz := hr.size
  have hrm := hr.room
  have hw := withN_le at_ len
  have HW := hid (atom_place a len cap at_ w)
  unfold tokA
  rw [hsz]
  generalize withN at_ len = p at *
  by_cases hp : p = len
  · rw [if_pos hp]
    subst hp
    clear hr
    go_enter Try.func14, Try.ntmps14
    go_wp2_with (go_at_call 24; (with_reducible refine HW.out.mono ?_); rintro e w' ⟨rfl, rfl⟩)
    go_ret3
    exact ⟨none, 0, 0, rfl, Reads.nil _ _ _ _ (Nat.zero_le _), Below.refl _ _⟩
  · rw [if_neg hp]
    obtain ⟨b, off, ha, hbw, hcells⟩ := hr.cell (by omega)
    clear hcells
    subst ha
    obtain ⟨T, hT⟩ : ∃ T, T = (xs.drop p).takeWhile tokB := ⟨_, rfl⟩
    have hTl : T.length ≤ len - p := by
      have := (List.takeWhile_sublist (l := xs.drop p) tokB).length_le
      rw [hT]; rw [List.length_drop] at this; omega
    have hTt : (xs.drop p).take T.length = T := by rw [hT]; exact (List.prefix_iff_eq_take.1 (List.takeWhile_prefix tokB)).symm
    have hat : Hid (∀ j, j < T.length → ∃ x, xs[p + j]? = some x ∧ tokB x = true) := fun j hj => by
      have h1 : T[j]? = xs[p + j]? := by rw [← hTt, List.getElem?_take_of_lt hj, List.getElem?_drop]
      rw [List.getElem?_eq_getElem hj] at h1
      refine ⟨T[j], h1.symm, ?_⟩
      have := List.all_takeWhile (l := xs.drop p) (p := tokB)
      rw [← hT, List.all_eq_true] at this
      exact this _ (List.getElem_mem hj)
    have hend : Hid (∀ x, xs[p + T.length]? = some x → tokB x = false) := fun x hx => by
      have hdw := dropWhile_head28 tokB (xs.drop p)
      have : (xs.drop p).dropWhile tokB = xs.drop (p + T.length) := by
        rw [← List.drop_drop, hT]; exact drop_tw28 tokB (xs.drop p)
      rw [this] at hdw
      rcases hdw with h | ⟨y, s, h, hy⟩
      · have hl := (List.getElem?_eq_some_iff.1 hx).1
        rw [List.drop_eq_nil_iff] at h
        omega
      · have hd := drop28 hx
        rw [h] at hd
        cases hd
        exact hy
    rw [← hT]
    obtain ⟨Z, hZ⟩ : ∃ Z : List Int × Nat × Int, Z = (if T = [] then ([], 0, 3) else (T, p + T.length, 0)) := ⟨_, rfl⟩
    rw [← hZ]
    have HZ := hid hZ
    clear hZ
    have HT := hid hTt
    have hq0 : ((p : Int) == (len : Int)) = false := by simp; omega
    have hpl : p < len := by omega
    have hpc : ¬ cap = p := by omega
    have hpiece := hr.piece (l := p) (r := p + T.length) (by omega) (by omega)
    rw [if_neg hpc, Option.map_some, Addr.add_lit, List.drop_take, show p + T.length - p = T.length by omega, hTt] at hpiece
    have HPI := hid (bytes_Clone _ _ _ _ w hpiece (by omega))
    clear hT hTt hr hp hpiece
    go_enter Try.func14, Try.ntmps14
    go_wp2_with (go_at_call 24; (with_reducible refine HW.out.mono ?_); rintro e w' ⟨rfl, rfl⟩)
    go_loop [8] (fun i => ∃ j : Nat, j ≤ T.length ∧ i = .int .i64 ((p + j : Nat) : Int)) (fun i => len - (intOf i).toNat)
    case atStart => exact ⟨0, Nat.zero_le _, rfl⟩
    case round =>
      obtain ⟨j, hj, rfl⟩ := hrel
      by_cases hjT : j < T.length
      · obtain ⟨x', hx', ht'⟩ := hat.out j hjT
        obtain ⟨b', off', x, hA, _, hc, h0, h1, hx⟩ := HR.out.get8 (i := p + j) (by omega)
        cases hA
        obtain rfl : x = x' := by rw [hx.out.1] at hx'; exact Option.some.inj hx'
        have HI := hid (is_c x 64 w h0 h1)
        rw [show isB 64 x = true from ht'] at HI
        have q1 : ((p + j : Nat) : Int) < (len : Int) := by omega
        have q2 : (0 : Int) ≤ ((p + j : Nat) : Int) := by omega
        clear hx' ht' hx
        generalize hm : p + j = m at *
        go_wp2_with (go_at_call 29; (with_reducible refine HI.out.mono ?_); rintro e w' ⟨rfl, rfl⟩)
        go_round
        case rel => exact ⟨j + 1, by omega, by rw [show p + (j + 1) = m + 1 by omega]; go_num⟩
        case measure => simp [intOf]; omega
      · obtain rfl : j = T.length := by omega
        have hD : (p + T.length = len) ∨ (p + T.length < len ∧ ∃ x, w.cell? ⟨b, off + (p + T.length), none⟩ = some (.int .u8 x) ∧ 0 ≤ x ∧ x ≤ 255 ∧ isB 64 x = false) := by
          by_cases h : p + T.length < len
          · obtain ⟨b', off', x, hA, _, hc, h0, h1, hx⟩ := HR.out.get8 h
            cases hA
            exact .inr ⟨h, x, hc, h0, h1, hend.out x hx.out.1⟩
          · exact .inl (by omega)
        clear hat hend HT
        by_cases hT0 : T = []
        · subst hT0
          have HZ2 := hid (show Z = ([], 0, 3) by rw [HZ.out, if_pos rfl])
          clear HZ
          simp only [List.length_nil, Nat.add_zero] at *
          rcases hD with hD | ⟨hD, x, hc, h0, h1, hi⟩
          · omega
          · have HI := hid (is_c x 64 w h0 h1)
            rw [hi] at HI
            clear hi
            go_wp2_with (go_at_call 29; (with_reducible refine HI.out.mono ?_); rintro e w' ⟨rfl, rfl⟩)
            go_ret3
            exact ⟨none, 0, 0, by rw [HZ2.out]; rfl, by rw [HZ2.out]; exact Reads.nil _ _ _ _ (Nat.zero_le _), Below.refl _ _⟩
        · have HZ2 := hid (show Z = (T, p + T.length, 0) by rw [HZ.out, if_neg hT0])
          clear HZ
          have hTp : 0 < T.length := List.length_pos_iff.2 hT0
          generalize T.length = n at *
          have q0 : (((p + n : Nat) : Int) == (p : Int)) = false := by simp; omega
          have q3 : ((p + n : Nat) : Int) ≤ (cap : Int) := by omega
          have q4 : (p : Int) ≤ ((p + n : Nat) : Int) := by omega
          have q5 : ((p + n : Nat) : Int).toNat - p = n := by omega
          have q6 : (0 : Int) ≤ ((p + n : Nat) : Int) := by omega
          have q7 : p + n - p = n := by omega
          rcases hD with hD | ⟨hD, x, hc, h0, h1, hi⟩
          case' inl =>
            have q1 : ¬ ((p + n : Nat) : Int) < (len : Int) := by omega
            clear hD
          case' inr =>
            have HI := hid (is_c x 64 w h0 h1)
            rw [hi] at HI
            have q1 : ((p + n : Nat) : Int) < (len : Int) := by omega
            clear hi hD
          all_goals
            generalize hm : p + n = m at *
            go_wp2_with (first
              | (go_at_call 29; (with_reducible refine HI.out.mono ?_); rintro e w' ⟨rfl, rfl⟩)
              | (go_at_call 30; (with_reducible refine HPI.out.mono ?_); rintro e w2 ⟨a2, c2, rfl, o2, h2⟩; obtain ⟨a3, l3, c3, ha3, r2⟩ := o2.back))
            go_ret3
            exact ⟨_, _, _, by rw [HZ2.out]; rfl, by rw [HZ2.out]; exact r2, h2⟩
theorem atom_Token (a : Option Addr) (len cap : Nat) (xs : List Int) (at_ : Int) (w : World) (hr : Reads .u8 w a len cap xs) (hN : len < 1000000) (ha : (Lit.int .i64 at_).wf = true) :
    Calls Try.prog 14 #[.slice a len cap, .int .i64 at_] w fun e w' => ∃ a' l' c', e = .returned (.tuple #[.slice a' l' c', .int .i64 (tokA xs at_).2.1, .int .i64 (tokA xs at_).2.2]) ∧ Reads .u8 w' a' l' c' (tokA xs at_).1 ∧ Below w.heap.size w w' :=
  atom_Token0 a len cap xs at_ w hr (by omega)
set_option maxHeartbeats 2000000 in
theorem atom_Value (a : Option Addr) (len cap : Nat) (xs : List Int) (at_ : Int) (w : World) (hr : Reads .u8 w a len cap xs) (hN : len < 1000000) (hat : (Lit.int .i64 at_).wf = true) :
    Calls Try.prog 17 #[.slice a len cap, .int .i64 at_] w fun e w' => ∃ a' l' c', e = .returned (.tuple #[.slice a' l' c', .int .i64 (valA xs at_).2.1, .int .i64 (valA xs at_).2.2]) ∧ Reads .u8 w' a' l' c' (valA xs at_).1 ∧ Below w.heap.size w w' := by
  have HR := hid hr
  have hsz := hr.size
  have hrm := hr.room
  have hw := withN_le at_ len
  have HW := hid (atom_place a len cap at_ w)
  have HTk := hid (atom_Token0 a len cap xs (withN at_ len) w hr (by omega))
  have htw := tokA_with xs at_
  rw [hsz] at htw
  rw [htw] at HTk
  unfold valA
  rw [hsz]
  clear htw
  generalize withN at_ len = p at *
  by_cases hp : p = len
  · subst hp
    rw [if_neg (by rw [List.getElem?_eq_none (by omega)]; simp)]
    generalize tokA xs at_ = T at *
    clear hr
    go_enter Try.func17, Try.ntmps17
    go_wp2_with (first
      | (go_at_call 24; (with_reducible refine HW.out.mono ?_); rintro e w' ⟨rfl, rfl⟩)
      | (go_at_call 14; (with_reducible refine HTk.out.mono ?_); rintro e w' ⟨a1, l1, c1, rfl, r1, h1⟩))
    go_ret3
    exact ⟨_, _, _, rfl, r1, h1⟩
  · obtain ⟨b, off, x, rfl, _, hc, h0, h1, hx⟩ := hr.get8 (i := p) (by omega)
    have q0 : ((p : Int) == (len : Int)) = false := by simp; omega
    have q1 : (p : Int) < (len : Int) := by omega
    rw [hx.out.1]
    by_cases h34 : x = 34
    · subst h34
      rw [if_pos rfl]
      have hpc : ¬ cap = p := by omega
      have hpiece := hr.piece (l := p) (r := len) hw (Nat.le_refl _)
      rw [if_neg hpc, Option.map_some, Addr.add_lit, List.take_of_length_le (by omega)] at hpiece
      have hul := unqA_at (xs.drop p)
      rw [List.length_drop, hsz] at hul
      have HU := hid (pct_Unquote _ _ _ _ w hpiece (by omega))
      generalize unqA (xs.drop p) = u at *
      have q2 : (p : Int) ≤ (len : Int) := by omega
      clear hx hr hpiece HTk
      by_cases hu : u.2.2 = 0
      · rw [if_neg (by rw [hu]; simp)]
        have e0 : (u.2.2 != 0) = false := by simpa using hu
        rw [hu] at HU
        have HUE := hid hu
        clear hu
        go_enter Try.func17, Try.ntmps17
        go_wp2_with (first
          | (go_at_call 24; (with_reducible refine HW.out.mono ?_); rintro e w' ⟨rfl, rfl⟩)
          | (go_at_call 31; (with_reducible refine HU.out.mono ?_); rintro e w2 ⟨a2, l2, c2, rfl, r2, h2⟩))
        go_ret3
        exact ⟨_, _, _, by simp, r2, h2⟩
      · rw [if_pos hu]
        have e0 : (u.2.2 != 0) = true := by simpa using hu
        clear hu
        go_enter Try.func17, Try.ntmps17
        go_wp2_with (first
          | (go_at_call 24; (with_reducible refine HW.out.mono ?_); rintro e w' ⟨rfl, rfl⟩)
          | (go_at_call 31; (with_reducible refine HU.out.mono ?_); rintro e w2 ⟨a2, l2, c2, rfl, r2, h2⟩))
        go_ret3
        exact ⟨none, 0, 0, rfl, Reads.nil _ _ _ _ (Nat.zero_le _), h2⟩
    · rw [if_neg (by simpa using h34)]
      have e34 : (x != 34) = true := by simpa using h34
      generalize tokA xs at_ = T at *
      clear hr hx h34
      go_enter Try.func17, Try.ntmps17
      go_wp2_with (first
        | (go_at_call 24; (with_reducible refine HW.out.mono ?_); rintro e w' ⟨rfl, rfl⟩)
        | (go_at_call 14; (with_reducible refine HTk.out.mono ?_); rintro e w' ⟨a1, l1, c1, rfl, r1, h1⟩))
      go_ret3
      exact ⟨_, _, _, rfl, r1, h1⟩
end Go.Proofs.Ytdipabcoeloeoaa
