/-
  Contracts of the document's own functions of layer 18: line by line (those that the translation has).
-/
import Derived.Test.YthgbafjglcmgoaaR18c
namespace Go.Proofs.Ythgbafjglcmgoaa
open Go.RowKit
set_option linter.unusedVariables false

theorem drop_row {xss : List (List Int)} {k : Nat} {l : List Int} (h : xss[k]? = some l) : xss.drop k = l :: xss.drop (k + 1) := by
  have hk : k < xss.length := (List.getElem?_eq_some_iff.1 h).1
  have e : xss[k] = l := (List.getElem?_eq_some_iff.1 h).2
  rw [List.drop_eq_getElem_cons hk, e]
theorem drop_nil_iff {xss : List (List Int)} {k n : Nat} (hn : xss.length = n) (hk : k < n) : xss.drop (k + 1) = [] ↔ k + 1 = n := by
  rw [List.drop_eq_nil_iff]; omega
theorem linS_len : ∀ (n : Nat) (s acc : List Int), s.length ≤ n → (linS s acc).length ≤ s.length + 1 ∧ ∀ l ∈ linS s acc, l.length ≤ acc.length + s.length := by
  intro n
  induction n with
  | zero =>
    intro s acc h
    obtain rfl : s = [] := List.eq_nil_of_length_eq_zero (by omega)
    exact ⟨by simp [linS], by intro l hl; simp [linS] at hl; subst hl; omega⟩
  | succ n ih =>
    intro s acc h
    match s with
    | [] => exact ⟨by simp [linS], by intro l hl; simp [linS] at hl; subst hl; omega⟩
    | [x] => exact ⟨by simp [linS], by intro l hl; simp [linS] at hl; subst hl; simp⟩
    | x :: y :: r =>
      simp only [List.length_cons] at h
      rw [linS]
      split
      · obtain ⟨h1, h2⟩ := ih r [] (by omega)
        refine ⟨by simp only [List.length_cons]; omega, fun l hl => ?_⟩
        simp only [List.mem_cons] at hl
        rcases hl with rfl | hl
        · omega
        · have := h2 l hl
          simp only [List.length_cons, List.length_nil] at this ⊢
          omega
      · obtain ⟨h1, h2⟩ := ih (y :: r) (acc ++ [x]) (by simp only [List.length_cons]; omega)
        refine ⟨by simp only [List.length_cons] at h1 ⊢; omega, fun l hl => ?_⟩
        have := h2 l hl
        simp only [List.length_append, List.length_cons, List.length_nil] at this ⊢
        omega
theorem linL_len (s : List Int) : (linL s).length ≤ s.length + 1 ∧ ∀ l ∈ linL s, l.length ≤ s.length := by
  have h := linS_len _ s [] (Nat.le_refl _)
  have hA : linA s = linS s [] := rfl
  unfold linL
  split
  · refine ⟨by rw [List.length_dropLast, hA]; omega, fun l hl => ?_⟩
    have := h.2 l ((List.dropLast_sublist _).subset hl)
    simpa using this
  · refine ⟨h.1, fun l hl => ?_⟩
    have := h.2 l hl
    simpa using this
set_option maxHeartbeats 4000000 in
theorem ref18_Check (a : Option Addr) (len cap : Nat) (xs : List Int) (w : World) (hr : Reads .u8 w a len cap xs) (hN : len < 1000000) :
    Calls Try.prog 17 #[.slice a len cap] w fun e w' => e = .returned (.int .i64 (checkQ xs)) ∧ Below w.heap.size w w' := by
  have HR := hid hr
  obtain ⟨E, hE⟩ : ∃ E, E = linE xs := ⟨_, rfl⟩
  obtain ⟨rows, hrows⟩ : ∃ rows, rows = linL xs := ⟨_, rfl⟩
  have hl1 := (linL_len xs).1
  have hl2 := (linL_len xs).2
  rw [hr.size, ← hrows] at hl1
  rw [hr.size, ← hrows] at hl2
  have hQ : Hid (checkQ xs = chkQ rows E) := by unfold Hid checkQ; rw [hE, hrows]
  have HE := hid hE
  have HRO := hid hrows
  have HL2 := hid hl2
  clear hr hE hrows hl2
  go_enter Try.func17, Try.ntmps17
  go_wp2_with (go_at_call 30; (with_reducible refine (ref18_Lines _ _ _ _ _ HR.out (by omega)).mono ?_); rintro e w1 ⟨a1, n, c1, rfl, hrw, hb1⟩; rw [← HRO.out] at hrw; rw [← HE.out])
  have hn := hrw.size
  rw [hn] at hl1
  have HW := hid hrw
  have HNN := hid hn
  clear hrw hn
  go_loopw [5] (fun i wr => ∃ k : Nat, k ≤ n ∧ i = .int .i64 k ∧ Hid (chkQ (rows.drop k) E = chkQ rows E) ∧ Below w1.heap.size w1 wr) (fun i _ => n + 1 - (intOf i).toNat)
  case atStart => exact ⟨0, Nat.zero_le _, rfl, rfl, Below.refl _ _⟩
  case round =>
    obtain ⟨k, hk, rfl, hn, hbel⟩ := hrel
    have hbw := hb1.trans (hbel.mono hb1.size)
    by_cases hlt : k < n
    · obtain ⟨b, off, l, ai, li, ci, rfl, hbl, hcell, hrl, hget, _⟩ := (HW.out.below hbel).get hlt
      have hls := hrl.size
      have hd := hn.out
      rw [drop_row hget, chkQ, hls] at hd
      have hli : li ≤ len := by rw [← hls]; exact HL2.out l (List.mem_of_getElem? hget)
      have hiff := drop_nil_iff HNN.out hlt
      have HL := hid hrl
      clear hrl hls hget hn
      by_cases hk76 : 76 < li
      · rw [if_pos hk76] at hd
        have HD := hid hd
        clear hd hiff
        go_wp2
        go_ret
        exact ⟨ret_int (by rw [hQ.out, ← HD.out]), hbw⟩
      · rw [if_neg hk76] at hd
        by_cases hend : k + 1 = n ∧ E = false
        · obtain ⟨hkn, rfl⟩ := hend
          rw [if_pos ⟨hiff.2 hkn, rfl⟩] at hd
          have HD := hid hd
          have hb0 : ((k : Int) == (n : Int) - 1) = true := by simp; omega
          clear hd hiff
          go_wp2
          go_ret
          exact ⟨ret_int (by rw [hQ.out, ← HD.out]), hbw⟩
        · rw [if_neg (fun h => hend ⟨hiff.1 h.1, h.2⟩)] at hd
          have hsub : ((k : Int) == (n : Int) - 1) = false ∨ (((k : Int) == (n : Int) - 1) = true ∧ E = true) := by
            by_cases hkn : k + 1 = n
            · refine .inr ⟨by simp; omega, ?_⟩
              cases hEE : E
              · exact absurd ⟨hkn, hEE⟩ hend
              · rfl
            · exact .inl (by simp; omega)
          cases hq : rgtB l
          · rw [hq, if_neg (by decide)] at hd
            have HD := hid hd
            clear hd hiff hend
            rcases hsub with hk1 | ⟨hk1, rfl⟩
            all_goals
              go_wp2_with (go_at_call 31; (with_reducible refine (ref18_right _ _ _ _ _ HL.out (by omega)).mono ?_); rintro e w2 ⟨rfl, hb2⟩; rw [hq])
              go_ret
              exact ⟨ret_int (by rw [hQ.out, ← HD.out]), below_then' hbw hb2 (Nat.le_refl _)⟩
          · rw [hq, if_pos rfl] at hd
            have HD := hid hd
            clear hd hiff hend
            rcases hsub with hk1 | ⟨hk1, rfl⟩
            all_goals
              go_wp2_with (go_at_call 31; (with_reducible refine (ref18_right _ _ _ _ _ HL.out (by omega)).mono ?_); rintro e w2 ⟨rfl, hb2⟩; rw [hq])
              go_roundw
              case rel => exact ⟨k + 1, by omega, by go_num, HD.out, below_then' hbel hb2 (Nat.le_refl _)⟩
              case measure => simp [intOf]; omega
    · have hd := hn.out
      rw [List.drop_of_length_le (by rw [HNN.out]; omega), chkQ] at hd
      have HD := hid hd
      clear hd hn
      go_wp2
      go_ret
      exact ⟨ret_int (by rw [hQ.out, ← HD.out]), hbw⟩
set_option maxHeartbeats 4000000 in
theorem ref18_Soft (a : Option Addr) (len cap : Nat) (xs : List Int) (w : World) (hr : Reads .u8 w a len cap xs) (hN : len < 1000000) :
    Calls Try.prog 19 #[.slice a len cap] w fun e w' => e = .returned (.int .i64 (softQ xs)) ∧ Below w.heap.size w w' := by
  have HR := hid hr
  obtain ⟨E, hE⟩ : ∃ E, E = linE xs := ⟨_, rfl⟩
  obtain ⟨rows, hrows⟩ : ∃ rows, rows = linL xs := ⟨_, rfl⟩
  have hl1 := (linL_len xs).1
  have hl2 := (linL_len xs).2
  rw [hr.size, ← hrows] at hl1
  rw [hr.size, ← hrows] at hl2
  have hQ : Hid (softQ xs = sftQ rows E) := by unfold Hid softQ; rw [hE, hrows]
  have HE := hid hE
  have HRO := hid hrows
  have HL2 := hid hl2
  clear hr hE hrows hl2
  go_enter Try.func19, Try.ntmps19
  go_wp2_with (go_at_call 30; (with_reducible refine (ref18_Lines _ _ _ _ _ HR.out (by omega)).mono ?_); rintro e w1 ⟨a1, n, c1, rfl, hrw, hb1⟩; rw [← HRO.out] at hrw; rw [← HE.out])
  have hn := hrw.size
  rw [hn] at hl1
  have HW := hid hrw
  have HNN := hid hn
  clear hrw hn
  go_loopw [5, 6] (fun m i wr => ∃ k j : Nat, k ≤ n ∧ i = .int .i64 k ∧ m = .int .i64 j ∧ j ≤ k ∧ Hid (j + sftQ (rows.drop k) E = sftQ rows E) ∧ Below w1.heap.size w1 wr) (fun _ i _ => n + 1 - (intOf i).toNat)
  case atStart => exact ⟨0, 0, Nat.zero_le _, rfl, rfl, Nat.le_refl _, Nat.zero_add _, Below.refl _ _⟩
  case round =>
    obtain ⟨k, j, hk, rfl, rfl, hj, hn, hbel⟩ := hrel
    have hbw := hb1.trans (hbel.mono hb1.size)
    by_cases hlt : k < n
    · obtain ⟨b, off, l, ai, li, ci, rfl, hbl, hcell, hrl, hget, _⟩ := (HW.out.below hbel).get hlt
      have hls := hrl.size
      have hd := hn.out
      rw [drop_row hget, sftQ] at hd
      have hiff := drop_nil_iff HNN.out hlt
      have q1 : (0 : Int) ≤ (k : Int) := by omega
      have q2 : (k : Int) < (n : Int) := by omega
      have q3 : (k : Int).toNat = k := by omega
      by_cases hli0 : li = 0
      · subst hli0
        obtain rfl : l = [] := List.eq_nil_of_length_eq_zero hls
        have HD : Hid (j + sftQ (rows.drop (k + 1)) E = sftQ rows E) := by
          unfold Hid
          rw [if_neg (by simp)] at hd
          omega
        clear hd hn hiff hrl
        go_wp2_with fail
        go_quiet (fail)
        go_wp2_with fail
        go_roundw
        case rel => exact ⟨k + 1, j, by omega, by go_num, rfl, by omega, HD, by first | exact below_drew hbel | exact Below.drewN hbel _⟩
        case measure => simp [intOf]; omega
      · obtain ⟨p, rfl⟩ : ∃ p, li = p + 1 := ⟨li - 1, by omega⟩
        obtain ⟨b2, off2, z, rfl, _, hcz, hz0, hz1, hz⟩ := hrl.get8 (i := p) (by omega)
        have hlast : l.getLast? = some z := by rw [List.getLast?_eq_getElem?, hls]; exact hz.out.1
        rw [hlast] at hd
        have r1 : (0 : Int) ≤ (p : Int) := by omega
        have r2 : (p : Int) < (p : Int) + 1 := by omega
        have r3 : (p : Int).toNat = p := by omega
        have r4 : (0 : Int) < (p : Int) + 1 := by omega
        have hpl : p + 1 ≤ len := by rw [← hls]; exact HL2.out l (List.mem_of_getElem? hget)
        have r5 : IntKind.i64.wrap (p : Int) = (p : Int) := IntWalk.i64_in _ (by omega)
        have r6 : IntKind.i64.wrap ((n : Int) - 1) = (n : Int) - 1 := IntWalk.i64_in _ (by omega)
        by_cases hyes : z = 61 ∧ (E = true ∨ k + 1 < n)
        · obtain ⟨rfl, hor⟩ := hyes
          rw [if_pos ⟨rfl, by
            rcases hor with h | h
            · exact .inl h
            · exact .inr (fun hh => by have := hiff.1 hh; omega)⟩] at hd
          have HD : Hid ((j + 1) + sftQ (rows.drop (k + 1)) E = sftQ rows E) := by unfold Hid; omega
          have hsub : E = true ∨ (E = false ∧ decide ((k : Int) < (n : Int) - 1) = true) := by
            cases hEE : E
            · refine .inr ⟨rfl, decide_eq_true ?_⟩
              rcases hor with h | h
              · rw [hEE] at h; cases h
              · omega
            · exact .inl rfl
          clear hd hn hiff hrl hlast hor
          rcases hsub with rfl | ⟨rfl, hkn⟩
          all_goals
            go_wp2_with fail
            go_quiet (fail)
            go_wp2_with fail
            go_roundw
            case rel => exact ⟨k + 1, j + 1, by omega, by go_num, by go_num, by omega, HD, by first | exact below_drew hbel | exact Below.drewN hbel _⟩
            case measure => simp [intOf]; omega
        · rw [if_neg (by
            rintro ⟨h1, h2⟩
            refine hyes ⟨Option.some.inj h1, ?_⟩
            rcases h2 with h2 | h2
            · exact .inl h2
            · exact .inr (by have : ¬ k + 1 = n := fun hh => h2 (hiff.2 hh); omega))] at hd
          have HD : Hid (j + sftQ (rows.drop (k + 1)) E = sftQ rows E) := by unfold Hid; omega
          have hsub : (z == 61) = false ∨ (z = 61 ∧ E = false ∧ decide ((k : Int) < (n : Int) - 1) = false) := by
            by_cases h61 : z = 61
            · refine .inr ⟨h61, ?_, decide_eq_false ?_⟩
              · cases hEE : E
                · rfl
                · exact absurd ⟨h61, .inl hEE⟩ hyes
              · intro hh
                exact hyes ⟨h61, .inr (by omega)⟩
            · exact .inl (by simpa using h61)
          clear hd hn hiff hrl hlast hyes
          rcases hsub with hz61 | ⟨rfl, rfl, hkn⟩
          all_goals
            go_wp2_with fail
            go_quiet (fail)
            go_wp2_with fail
            go_roundw
            case rel => exact ⟨k + 1, j, by omega, by go_num, rfl, by omega, HD, by first | exact below_drew hbel | exact Below.drewN hbel _⟩
            case measure => simp [intOf]; omega
    · have hd := hn.out
      rw [List.drop_of_length_le (by rw [HNN.out]; omega), sftQ, Nat.add_zero] at hd
      have HD := hid hd
      clear hd hn
      go_wp2
      go_ret
      exact ⟨ret_int (by rw [hQ.out, ← HD.out]), hbw⟩
end Go.Proofs.Ythgbafjglcmgoaa
