/-
  Contracts of package lines' functions.
-/
import Derived.Test.YtbhmhpcabppgmaaC26b
import Derived.Test.YtbhmhpcabppgmaaRep
import Derived.Test.YtbhmhpcabppgmaaApt
import Derived.Test.YtbhmhpcabppgmaaCat
namespace Go.Proofs.Ytbhmhpcabppgmaa
open Go.RowKit
set_option linter.unusedVariables false

theorem lines_Ends (a : Option Addr) (len cap : Nat) (xs : List Int) (w : World) (hr : Reads .u8 w a len cap xs) (hN : len < 1000000) :
    Calls Try.prog 10 #[.slice a len cap] w fun e w' => e = .returned (.bool (linE xs)) ∧ Below w.heap.size w w' := by
  have hsz := hr.size
  have hE := linE_two xs
  rw [hsz] at hE
  rw [hE]
  clear hE
  by_cases h0 : len = 0
  · subst h0
    clear hr
    go_enter Try.func10, Try.ntmps10
    go_wp2_with fail
    go_ret
    exact ⟨ret_bool (by simp), Below.refl _ _⟩
  · have hb : Below w.heap.size w (w.alloc (.cells #[.int .u8 13, .int .u8 10] 5 (2, 3))) := (Below.refl _ _).alloc (Nat.le_refl _) _
    have hH := bytes_HasSuffixN a len cap xs _ 2 _ [13, 10] _ (hr.below hb) (litCr w w.heap.size rfl) (by decide)
    have hd : decide (2 ≤ len ∧ xs.drop (len - 2) = [13, 10]) = decide (len = 0 ∨ (2 ≤ len ∧ xs.drop (len - 2) = [13, 10])) := by
      rw [Bool.eq_iff_iff, decide_eq_true_iff, decide_eq_true_iff]
      exact ⟨fun h => .inr h, fun h => by rcases h with h | h; exact absurd h h0; exact h⟩
    rw [hd] at hH
    obtain ⟨B, hB⟩ : ∃ B, B = decide (len = 0 ∨ (2 ≤ len ∧ xs.drop (len - 2) = [13, 10])) := ⟨_, rfl⟩
    rw [← hB] at hH ⊢
    have HH := hid hH
    have q0 : ((len : Int) == 0) = false := by simp; omega
    have kc := convB (P := Try.prog) (t := 22) (e := 5) Try.underlying22 Try.underlying5 w w.heap.size rfl
    clear hH hd hB hr
    go_enter Try.func10, Try.ntmps10
    go_wp2_with (go_at_call 28; (with_reducible refine HH.out.mono ?_); rintro e w' ⟨rfl, rfl⟩)
    go_ret
    exact ⟨rfl, hb⟩
set_option maxHeartbeats 2000000 in
theorem lines_JoinO (a : Option Addr) (len cap : Nat) (xss : List (List Int)) (w : World) (hr : Rws w a len cap xss) (hN : (linJ xss).length < 1000000) (hM : len < 1000000) :
    Calls Try.prog 15 #[.slice a len cap] w fun e w' => ∃ v, e = .returned v ∧ Own .u8 5 w.heap.size w' v (linJ xss) ∧ Below w.heap.size w w' := by
  have HR := hid hr
  have hsz := hr.size
  have HJ := hid (fun k => linJ_take xss k)
  clear hr
  go_enter Try.func15, Try.ntmps15
  go_wp2_with fail
  go_loop [3, 14] (fun n i => ∃ k m : Nat, k ≤ len ∧ i = .int .i64 k ∧ n = .int .i64 m ∧ Hid (m ≤ 2000000 + (linJ (xss.take k)).length)) (fun _ i => len - (intOf i).toNat)
  case atStart => exact ⟨0, len * 2, Nat.zero_le _, rfl, by go_num, by rw [Hid]; omega⟩
  case round =>
    obtain ⟨k, m, hk, rfl, rfl, hm⟩ := hrel
    have hmb : m ≤ 3000000 := by have := hm.out; have := HJ.out k; omega
    by_cases hlt : k < len
    · obtain ⟨b, off, x, ai, li, ci, rfl, hbw, hc, hx, hg, ht⟩ := HR.out.get hlt
      have hs := linJ_snoc ht
      have hs2 := congrArg List.length hs
      rw [List.length_append, List.length_append, hx.size] at hs2
      have hjk := HJ.out (k + 1)
      rw [hs2] at hjk
      have hml : li < 1000000 := by omega
      have HS : Hid (m + li ≤ 2000000 + (linJ (xss.take (k + 1))).length) := by have := hm.out; rw [Hid, hs2]; omega
      clear hs hs2 hg ht hjk hx hm
      go_wp2_with fail
      go_round
      case rel => exact ⟨k + 1, m + li, by omega, by go_num, by go_num, HS⟩
      case measure => simp [intOf]; omega
    · go_wp2_with (at_make; go_must (refine wpList_make0 (n := m) CT8 rfl _ _ rfl rfl rfl (Below.refl _ _) (by omega) ?_); intro v1 w1 ho1 hb1)
      go_loopw [6, 27] (fun v i wr => ∃ k : Nat, k ≤ len ∧ i = .int .i64 k ∧ Own .u8 5 w.heap.size wr v (linJ (xss.take k)) ∧ Below w.heap.size w wr) (fun _ i _ => len - (intOf i).toNat)
      case atStart => exact ⟨0, Nat.zero_le _, rfl, ho1, hb1⟩
      case round =>
        clear hk hm hmb
        obtain ⟨k, hk, rfl, hown, hbel⟩ := hrel
        by_cases hlt : k < len
        · obtain ⟨b, off, x, ai, li, ci, rfl, hbw, hc, hx, hg, ht⟩ := (HR.out.below hbel).get hlt
          have hs := linJ_snoc ht
          have hjk := HJ.out (k + 1)
          have hs2 := congrArg List.length hs
          rw [List.length_append, List.length_append, hx.size] at hs2
          rw [hs2] at hjk
          have HX := hid hx
          have HS := hid hs
          have HL := hid (show (linJ (xss.take k)).length + li < 1000000000000 by omega)
          have HL2 := hid (show (linJ (xss.take k) ++ x).length + 2 < 1000000000000 by rw [List.length_append, hx.size]; omega)
          clear hx hs hs2 hg ht hjk
          go_wp2_with (first
            | (at_builtin; have hX := ho3; clear hX; go_must (refine wpList_moreA (st := 9) CT8 rfl _ _ Try.underlying9 rfl [13, 10] rfl rfl rfl ho3 hb3.size hb3 HL2.out (by decide) ?_); intro v4 w4 ho4 hb4 hk4)
            | (at_builtin; go_must (refine wpList_more CT8 rfl _ _ rfl rfl rfl hown hbel HX.out HL.out ?_); intro v3 w3 ho3 hb3))
          rw [← HS.out] at ho4
          go_roundw
          case rel => exact ⟨k + 1, by omega, by go_num, ho4, hb4⟩
          case measure => simp [intOf]; omega
        · obtain rfl : k = len := by omega
          rw [List.take_of_length_le (by omega)] at hown
          go_wp2_with fail
          go_ret
          exact ⟨_, rfl, hown, hbel⟩
theorem lines_Join (a : Option Addr) (len cap : Nat) (xss : List (List Int)) (w : World) (hr : Rws w a len cap xss) (hN : (linJ xss).length < 1000000) (hM : len < 1000000) :
    Calls Try.prog 15 #[.slice a len cap] w fun e w' => ∃ a' l' c', e = .returned (.slice a' l' c') ∧ Reads .u8 w' a' l' c' (linJ xss) ∧ Below w.heap.size w w' :=
  (lines_JoinO a len cap xss w hr hN hM).mono fun e w' ⟨v, h1, h2, h3⟩ => by
    obtain ⟨a', len', cap', rfl, hr'⟩ := h2.back
    exact ⟨a', len', cap', h1, hr', h3⟩
/-- How many are c: c's literal in the newest block. -/
theorem cntOne (c : Int) (h0 : 0 ≤ c) (h1 : c ≤ 255) (a : Option Addr) (len cap : Nat) (xs : List Int) (wr : World) (B : Nat) (hB : wr.heap.size = B) (hr : Reads .u8 wr a len cap xs) {K : Nat} (hK : cntO c xs = K) :
    Calls Try.prog 24 #[.slice a len cap, .slice (some ⟨B, 0, none⟩) 1 1] (wr.alloc (.cells #[.int .u8 c] 5 (1, 2))) fun e w' => e = .returned (.int .i64 (K : Int)) ∧ Below wr.heap.size wr w' := by
  have hb : Below wr.heap.size wr (wr.alloc (.cells #[.int .u8 c] 5 (1, 2))) := (Below.refl _ _).alloc (Nat.le_refl _) _
  have hl : Reads .u8 (wr.alloc (.cells #[.int .u8 c] 5 (1, 2))) (some ⟨B, 0, none⟩) 1 1 [c] := Reads_litB .u8 5 (1, 2) wr B hB [c] (by simp [maxLen]) (by intro x hx; simp only [List.mem_singleton] at hx; subst hx; exact mk_u8 h0 h1)
  refine (bytes_Count1 (hr.below hb) hl hK).mono ?_
  rintro e w' ⟨rfl, rfl⟩
  exact ⟨rfl, hb⟩
set_option maxHeartbeats 2000000 in
theorem lines_Bare (a : Option Addr) (len cap : Nat) (xs : List Int) (w : World) (hr : Reads .u8 w a len cap xs) (hN : len < 1000000) (hm : Mx w) :
    Calls Try.prog 12 #[.slice a len cap] w fun e w' => e = .returned (.int .i64 (barC 0 xs)) ∧ Below w.heap.size w w' := by
  have hsz := hr.size
  have hb := bar_cr xs 0 (fun e => absurd e (by decide))
  have hcl := crN_le xs
  have h13 : xs.count 13 ≤ xs.length := List.count_le_length
  have h10 : xs.count 10 ≤ xs.length := List.count_le_length
  have HR := hid hr
  have HC := hid (cntCr a len cap xs w _ rfl hr (by omega) hm)
  have H13 : Hid (cntO 13 xs = xs.count 13) := rfl
  have H10 : Hid (cntO 10 xs = xs.count 10) := rfl
  obtain ⟨A, hA⟩ : ∃ A, xs.count 13 = A := ⟨_, rfl⟩
  obtain ⟨D, hD⟩ : ∃ D, xs.count 10 = D := ⟨_, rfl⟩
  obtain ⟨M, hM⟩ : ∃ M, crN xs = M := ⟨_, rfl⟩
  obtain ⟨B, hB⟩ : ∃ B, barC 0 xs = B := ⟨_, rfl⟩
  rw [hA] at H13 hb h13
  rw [hD] at H10 hb h10
  rw [hM] at HC hb hcl
  rw [hB] at hb ⊢
  rw [hsz] at hcl h13 h10
  have HB := hid hb
  have kc := convB (P := Try.prog) (t := 22) (e := 5) Try.underlying22 Try.underlying5 w w.heap.size rfl
  clear hr hm hA hD hM hB hb
  go_enter Try.func12, Try.ntmps12
  go_wp2_with (first
    | (go_at_call 24; (with_reducible refine HC.out.mono ?_); rintro e w1 ⟨rfl, hb1⟩; clear kc; have kc := convB (P := Try.prog) (t := 22) (e := 5) Try.underlying22 Try.underlying5 w1 w1.heap.size rfl)
    | (go_at_call 24; (with_reducible refine (cntOne 13 (by decide) (by decide) _ _ _ _ w1 _ rfl (HR.out.below hb1) H13.out).mono ?_); rintro e w2 ⟨rfl, hb2⟩; have t2 := below_then hb1 hb2; have kc2 := convB (P := Try.prog) (t := 22) (e := 5) Try.underlying22 Try.underlying5 w2 w2.heap.size rfl)
    | (go_at_call 24; (with_reducible refine (cntOne 10 (by decide) (by decide) _ _ _ _ w2 _ rfl (HR.out.below t2) H10.out).mono ?_); rintro e w3 ⟨rfl, hb3⟩; have t3 := below_then t2 hb3))
  go_ret
  exact ⟨ret_int (by have := HB.out; omega), t3⟩
theorem lines_isAbove (c : Int) (w : World) :
    Calls Try.prog 31 #[.int .u8 c] w fun e w' => e = .returned (.bool (isHi c)) ∧ w = w' := by
  unfold isHi
  go_enter Try.func31, Try.ntmps31
  go_wp2
  go_ret
  exact ⟨rfl, rfl⟩
set_option maxHeartbeats 1000000 in
theorem idx_above (a : Option Addr) (len cap : Nat) (xs : List Int) (w : World) (hr : Reads .u8 w a len cap xs) :
    Calls Try.prog 40 #[.slice a len cap, .func (.func 31) #[] #[]] w fun e w' => e = .returned (.int .i64 (idxI isHi xs)) ∧ w = w' := by
  have hl := hr.len_le
  have HR := hid hr
  clear hr
  go_enter Try.func40, Try.ntmps40
  go_wp2
  go_loop [8] (fun i => ∃ k : Nat, k ≤ len ∧ i = .int .i64 k ∧ Hid ((xs.take k).any isHi = false)) (fun i => len - (intOf i).toNat)
  case atStart => exact ⟨0, Nat.zero_le _, rfl, rfl⟩
  case round =>
    obtain ⟨k, hk, rfl, hn⟩ := hrel
    by_cases hlt : k < len
    · obtain ⟨b, off, x, rfl, _, hc, h0, h1, hx⟩ := HR.out.get8 hlt
      cases hs : isHi x
      · have H := hid hs
        go_wp2_with (go_at_call 31; (with_reducible refine (lines_isAbove _ _).mono ?_); rintro e w' ⟨rfl, rfl⟩; rw [hs])
        go_round
        case rel => exact ⟨k + 1, by omega, by go_num, none_yes hx.out.2 hn.out H.out⟩
        case measure => simp [intOf]; omega
      · have H := hid hs
        go_wp2_with (go_at_call 31; (with_reducible refine (lines_isAbove _ _).mono ?_); rintro e w' ⟨rfl, rfl⟩; rw [hs])
        go_ret
        exact ⟨ret_int (idx_hit hx.out.1 hn.out H.out).symm, rfl⟩
    · go_wp2
      go_ret
      exact ⟨ret_int (by rw [← HR.out.all (show len ≤ k by omega)]; exact (idx_none hn.out).symm), rfl⟩
theorem has_above (a : Option Addr) (len cap : Nat) (xs : List Int) (w : World) (hr : Reads .u8 w a len cap xs) :
    Calls Try.prog 30 #[.slice a len cap, .func (.func 31) #[] #[]] w fun e w' => e = .returned (.bool (xs.any isHi)) ∧ w = w' := by
  have hip := idx_pos isHi xs
  have HI := hid (idx_above a len cap xs w hr)
  generalize idxI isHi xs = I at *
  have HP := hid hip
  clear hip hr
  go_enter Try.func30, Try.ntmps30
  go_wp2_with (go_at_call 40; (with_reducible refine HI.out.mono ?_); rintro e w' ⟨rfl, rfl⟩)
  go_ret
  exact ⟨ret_bool HP.out, rfl⟩
theorem is0_idx (xs : List Int) : (decide (0 ≤ idxO 0 xs)) = xs.any is0 := idx_pos (fun x : Int => decide (x = 0)) xs
set_option maxHeartbeats 2000000 in
theorem lines_Seven (a : Option Addr) (len cap : Nat) (xs : List Int) (most : Int) (w : World) (hr : Reads .u8 w a len cap xs) (hN : len < 1000000) (hmo : (Lit.int .i64 most).wf = true) (hm : Mx w) :
    Calls Try.prog 21 #[.slice a len cap, .int .i64 most] w fun e w' => e = .returned (.int .i64 (sevE xs most)) ∧ Below w.heap.size w w' := by
  have hsz := hr.size
  have HR := hid hr
  have HB := hid (lines_Bare a len cap xs w hr hN hm)
  have HM := hid hm
  have hbl := barC_le xs 0
  have hz := is0_idx xs
  have hlb := (lng_bd (m := len) (linL xs) (fun x hx => by have := (linL_len xs).2 x hx; omega))
  have hla := fun h => lng_any (linL xs) most h
  have hne := fun h : 0 < xs.length => linL_ne h
  have hnil := fun h : xs.length = 0 => (show linL xs = [] by rw [List.eq_nil_of_length_eq_zero h]; exact linL_nil)
  have HLG := hid (fun W (hb : Below w.heap.size w W) => lines_Longest a len cap xs W (HR.out.below hb) hN (HM.out.below hb))
  have HAB := hid (fun W (hb : Below w.heap.size w W) => has_above a len cap xs W (HR.out.below hb))
  have HIX := hid (fun W (hb : Below w.heap.size w W) => bytes_IndexByte (HR.out.below hb) 0 (by decide) (by decide))
  unfold sevE
  obtain ⟨B, hB⟩ : ∃ B, B = barC 0 xs := ⟨_, rfl⟩
  obtain ⟨Z, hZ⟩ : ∃ Z, Z = xs.any is0 := ⟨_, rfl⟩
  obtain ⟨I, hI⟩ : ∃ I, I = idxO 0 xs := ⟨_, rfl⟩
  obtain ⟨H, hH⟩ : ∃ H, H = xs.any isHi := ⟨_, rfl⟩
  obtain ⟨G, hG⟩ : ∃ G, G = lngF (linL xs) := ⟨_, rfl⟩
  obtain ⟨T, hT⟩ : ∃ T, T = (linL xs).any fun x => decide (most < (x.length : Int)) := ⟨_, rfl⟩
  rw [← hB] at hbl HB ⊢
  rw [← hZ] at hz ⊢
  rw [← hI] at hz HIX
  rw [← hH] at HAB ⊢
  rw [← hG] at hlb hla HLG
  rw [← hT] at hla ⊢
  have hLT : (decide (0 < len) && decide (most < G)) = T := by
    by_cases h0 : 0 < len
    · rw [decide_eq_true h0, Bool.true_and]; exact hla (.inl (hne (by omega)))
    · rw [decide_eq_false h0, Bool.false_and, hT, hnil (by omega)]; rfl
  clear hr hB hZ hI hH hG hT hla hne hnil hm
  obtain ⟨E, hE⟩ : ∃ E : Int, E = (if Z = true then 8 else if 0 < B then 8 else if H = true then 9 else if T = true then 12 else 0) := ⟨_, rfl⟩
  rw [← hE]
  by_cases hB0 : 0 < B
  · have hE8 : E = 8 := by rw [hE, if_pos hB0]; cases Z <;> rfl
    subst hE8
    clear hE
    go_enter Try.func21, Try.ntmps21
    go_wp2_with (first
      | (go_at_call 12; (with_reducible refine HB.out.mono ?_); rintro e w1 ⟨rfl, hb1⟩))
    go_ret
    exact ⟨rfl, hb1⟩
  · obtain rfl : B = 0 := by omega
    cases Z
    · have hI0 : (I ≥ 0) = False := by simpa using hz
      cases H
      · by_cases h0 : 0 < len
        · by_cases hg : most < G
          · have hE8 : E = 12 := by rw [hE, ← hLT, decide_eq_true h0, decide_eq_true hg]; rfl
            subst hE8
            clear hE hz hLT
            go_enter Try.func21, Try.ntmps21
            go_wp2_with (first
              | (go_at_call 12; (with_reducible refine HB.out.mono ?_); rintro e w1 ⟨rfl, hb1⟩)
              | (go_at_call 29; (with_reducible refine (HIX.out _ hb1).mono ?_); rintro e w2 ⟨rfl, rfl⟩)
              | (go_at_call 30; (with_reducible refine (HAB.out _ hb1).mono ?_); rintro e w2 ⟨rfl, rfl⟩)
              | (go_at_call 17; (with_reducible refine (HLG.out _ hb1).mono ?_); rintro e w2 ⟨rfl, hb2⟩; have t2 := below_then hb1 hb2))
            go_ret
            exact ⟨rfl, t2⟩
          · have hE8 : E = 0 := by rw [hE, ← hLT, decide_eq_true h0, decide_eq_false hg]; rfl
            subst hE8
            clear hE hz hLT
            go_enter Try.func21, Try.ntmps21
            go_wp2_with (first
              | (go_at_call 12; (with_reducible refine HB.out.mono ?_); rintro e w1 ⟨rfl, hb1⟩)
              | (go_at_call 29; (with_reducible refine (HIX.out _ hb1).mono ?_); rintro e w2 ⟨rfl, rfl⟩)
              | (go_at_call 30; (with_reducible refine (HAB.out _ hb1).mono ?_); rintro e w2 ⟨rfl, rfl⟩)
              | (go_at_call 17; (with_reducible refine (HLG.out _ hb1).mono ?_); rintro e w2 ⟨rfl, hb2⟩; have t2 := below_then hb1 hb2))
            go_ret
            exact ⟨rfl, t2⟩
        · obtain rfl : len = 0 := by omega
          have hE8 : E = 0 := by rw [hE, ← hLT]; rfl
          subst hE8
          clear hE hz hLT
          go_enter Try.func21, Try.ntmps21
          go_wp2_with (first
            | (go_at_call 12; (with_reducible refine HB.out.mono ?_); rintro e w1 ⟨rfl, hb1⟩)
            | (go_at_call 29; (with_reducible refine (HIX.out _ hb1).mono ?_); rintro e w2 ⟨rfl, rfl⟩)
            | (go_at_call 30; (with_reducible refine (HAB.out _ hb1).mono ?_); rintro e w2 ⟨rfl, rfl⟩))
          go_ret
          exact ⟨rfl, hb1⟩
      · have hE8 : E = 9 := by rw [hE]; rfl
        subst hE8
        clear hE hz hLT
        go_enter Try.func21, Try.ntmps21
        go_wp2_with (first
          | (go_at_call 12; (with_reducible refine HB.out.mono ?_); rintro e w1 ⟨rfl, hb1⟩)
          | (go_at_call 29; (with_reducible refine (HIX.out _ hb1).mono ?_); rintro e w2 ⟨rfl, rfl⟩)
          | (go_at_call 30; (with_reducible refine (HAB.out _ hb1).mono ?_); rintro e w2 ⟨rfl, rfl⟩))
        go_ret
        exact ⟨rfl, hb1⟩
    · have hI0 : (I ≥ 0) = True := by simpa using hz
      have hE8 : E = 8 := by rw [hE, if_pos rfl]
      subst hE8
      clear hE hz hLT
      go_enter Try.func21, Try.ntmps21
      go_wp2_with (first
        | (go_at_call 12; (with_reducible refine HB.out.mono ?_); rintro e w1 ⟨rfl, hb1⟩)
        | (go_at_call 29; (with_reducible refine (HIX.out _ hb1).mono ?_); rintro e w2 ⟨rfl, rfl⟩))
      go_ret
      exact ⟨rfl, hb1⟩
set_option maxHeartbeats 2000000 in
theorem lines_Whole (a : Option Addr) (len cap : Nat) (xs : List Int) (w : World) (hr : Reads .u8 w a len cap xs) (hN : len < 1000000) :
    Calls Try.prog 23 #[.slice a len cap] w fun e w' => ∃ a' l' c', e = .returned (.slice a' l' c') ∧ Reads .u8 w' a' l' c' (whlL xs) ∧ Below w.heap.size w w' := by
  have hsz := hr.size
  have HR := hid hr
  have HE := hid (lines_Ends a len cap xs w hr hN)
  unfold whlL
  cases hE : linE xs
  · rw [hE] at HE
    rw [if_neg (by decide)]
    clear hr hE
    have HCC := hid (fun W (hb : Below w.heap.size w W) => slices_Concat (some ⟨W.heap.size + 1, 0, none⟩) 2 2 [xs, [13, 10]] ((W.alloc (.cells #[.int .u8 13, .int .u8 10] 5 (2, 3))).alloc (.cells #[.slice a len cap, .slice (some ⟨W.heap.size, 0, none⟩) 2 2] 22)) (by
      have b2 := (Below.refl W.heap.size W).alloc (Nat.le_refl _) (.cells #[.int .u8 13, .int .u8 10] 5 (2, 3))
      have b3 := (Below.refl (W.alloc (.cells #[.int .u8 13, .int .u8 10] 5 (2, 3))).heap.size (W.alloc (.cells #[.int .u8 13, .int .u8 10] 5 (2, 3)))).alloc (Nat.le_refl _) (.cells #[.slice a len cap, .slice (some ⟨W.heap.size, 0, none⟩) 2 2] 22)
      have r1 := ((HR.out.below hb).below b2).below b3
      have r2 := (litCr W W.heap.size rfl).below b3
      refine ⟨rfl, by decide, by decide, fun _ => ⟨W.heap.size + 1, 0, rfl, by simp, fun i x hx => ?_⟩⟩
      have hc := fun j (v : Value) (h : (#[Value.slice a len cap, Value.slice (some ⟨W.heap.size, 0, none⟩) 2 2] : Array Value)[j]? = some v) => (show ((W.alloc (.cells #[.int .u8 13, .int .u8 10] 5 (2, 3))).alloc (.cells #[.slice a len cap, .slice (some ⟨W.heap.size, 0, none⟩) 2 2] 22)).cell? ⟨W.heap.size + 1, 0 + j, none⟩ = some v by
        rw [Nat.zero_add, World.cell?_alloc_at _ _ _ _ (by simp)]
        exact h)
      match i, hx with
      | 0, hx => cases hx; exact ⟨_, _, _, hc 0 _ rfl, r1⟩
      | 1, hx => cases hx; exact ⟨_, _, _, hc 1 _ rfl, r2⟩
      | i + 2, hx => simp at hx) (by simp; omega) (by decide))
    go_enter Try.func23, Try.ntmps23
    go_wp2_with (first
      | (go_at_call 10; (with_reducible refine HE.out.mono ?_); rintro e w1 ⟨rfl, hb1⟩; have kc := convB (P := Try.prog) (t := 22) (e := 5) Try.underlying22 Try.underlying5 w1 w1.heap.size rfl)
      | (go_at_call 32; (with_reducible refine (HCC.out _ hb1).mono ?_); rintro e w2 ⟨v2, rfl, ho2, hb2⟩; have t2 := below_then hb1 ((((Below.refl w1.heap.size w1).alloc (Nat.le_refl _) (.cells #[.int .u8 13, .int .u8 10] 5 (2, 3))).alloc (by simp) (.cells #[.slice a len cap, .slice (some ⟨w1.heap.size, 0, none⟩) 2 2] 22)).trans (hb2.mono (by simp; omega)))))
    obtain ⟨a', c', rfl, hrd⟩ := ho2.reads
    go_ret
    exact ⟨_, _, _, rfl, by simpa using hrd, t2⟩
  · rw [hE] at HE
    rw [if_pos rfl]
    clear hr hE
    have HCL := hid (fun W (hb : Below w.heap.size w W) => bytes_Clone a len cap xs W (HR.out.below hb) (by omega))
    go_enter Try.func23, Try.ntmps23
    go_wp2_with (first
      | (go_at_call 10; (with_reducible refine HE.out.mono ?_); rintro e w1 ⟨rfl, hb1⟩)
      | (go_at_call 26; (with_reducible refine (HCL.out _ hb1).mono ?_); rintro e w2 ⟨a2, c2, rfl, ho2, hb2⟩; have t2 := below_then hb1 hb2))
    obtain ⟨a', c', hv, hrd⟩ := ho2.reads
    cases hv
    go_ret
    exact ⟨_, _, _, rfl, by rw [hsz] at hrd; exact hrd, t2⟩
end Go.Proofs.Ytbhmhpcabppgmaa
