/-
  Contracts of the document's own functions of layer 18: line by line (those that the translation has).
-/
import Derived.Test.YtpdoehdmeojmkaaDoorR18c
namespace Go.Proofs.YtpdoehdmeojmkaaDoor
open Go.RowKit
set_option linter.unusedVariables false

theorem drop_row {xss : List (List Int)} {k : Nat} {l : List Int} (h : xss[k]? = some l) : xss.drop k = l :: xss.drop (k + 1) := by
  have hk : k < xss.length := (List.getElem?_eq_some_iff.1 h).1
  have e : xss[k] = l := (List.getElem?_eq_some_iff.1 h).2
  rw [List.drop_eq_getElem_cons hk, e]
theorem drop_nil_iff {xss : List (List Int)} {k n : Nat} (hn : xss.length = n) (hk : k < n) : xss.drop (k + 1) = [] ↔ k + 1 = n := by
  rw [List.drop_eq_nil_iff]; omega
theorem linS_len : ∀ (n : Nat) (s acc : List Int), s.length ≤ n → (linS s acc).length ≤ s.length + 1 ∧ ∀ l ∈ linS s acc, l.length ≤ acc.length + s.length := by
  intro n
  induction n with
  | zero =>
    intro s acc h
    obtain rfl : s = [] := List.eq_nil_of_length_eq_zero (by omega)
    exact ⟨by simp [linS], by intro l hl; simp [linS] at hl; subst hl; omega⟩
  | succ n ih =>
    intro s acc h
    match s with
    | [] => exact ⟨by simp [linS], by intro l hl; simp [linS] at hl; subst hl; omega⟩
    | [x] => exact ⟨by simp [linS], by intro l hl; simp [linS] at hl; subst hl; simp⟩
    | x :: y :: r =>
      simp only [List.length_cons] at h
      rw [linS]
      split
      · obtain ⟨h1, h2⟩ := ih r [] (by omega)
        refine ⟨by simp only [List.length_cons]; omega, fun l hl => ?_⟩
        simp only [List.mem_cons] at hl
        rcases hl with rfl | hl
        · omega
        · have := h2 l hl
          simp only [List.length_cons, List.length_nil] at this ⊢
          omega
      · obtain ⟨h1, h2⟩ := ih (y :: r) (acc ++ [x]) (by simp only [List.length_cons]; omega)
        refine ⟨by simp only [List.length_cons] at h1 ⊢; omega, fun l hl => ?_⟩
        have := h2 l hl
        simp only [List.length_append, List.length_cons, List.length_nil] at this ⊢
        omega
theorem linL_len (s : List Int) : (linL s).length ≤ s.length + 1 ∧ ∀ l ∈ linL s, l.length ≤ s.length := by
  have h := linS_len _ s [] (Nat.le_refl _)
  have hA : linA s = linS s [] := rfl
  unfold linL
  split
  · refine ⟨by rw [List.length_dropLast, hA]; omega, fun l hl => ?_⟩
    have := h.2 l ((List.dropLast_sublist _).subset hl)
    simpa using this
  · refine ⟨h.1, fun l hl => ?_⟩
    have := h.2 l hl
    simpa using this
set_option maxHeartbeats 4000000 in
theorem ref18_Check (a : Option Addr) (len cap : Nat) (xs : List Int) (w : World) (hr : Reads .u8 w a len cap xs) (hN : len < 1000000) :
    Calls Tryd.prog 20 #[.slice a len cap] w fun e w' => e = .returned (.int .i64 (checkQ xs)) ∧ Below w.heap.size w w' := by
  have HR := hid hr
  obtain ⟨E, hE⟩ : ∃ E, E = linE xs := ⟨_, rfl⟩
  obtain ⟨rows, hrows⟩ : ∃ rows, rows = linL xs := ⟨_, rfl⟩
  have hl1 := (linL_len xs).1
  have hl2 := (linL_len xs).2
  rw [hr.size, ← hrows] at hl1
  rw [hr.size, ← hrows] at hl2
  have hQ : Hid (checkQ xs = chkQ rows E) := by unfold Hid checkQ; rw [hE, hrows]
  have HE := hid hE
  have HRO := hid hrows
  have HL2 := hid hl2
  clear hr hE hrows hl2
  go_enter Tryd.func20, Tryd.ntmps20
  go_wp2_with (go_at_call 32; (with_reducible refine (ref18_Lines _ _ _ _ _ HR.out (by omega)).mono ?_); rintro e w1 ⟨a1, n, c1, rfl, hrw, hb1⟩; rw [← HRO.out] at hrw; rw [← HE.out])
  have hn := hrw.size
  rw [hn] at hl1
  have HW := hid hrw
  have HNN := hid hn
  clear hrw hn
  go_loopw [5] (fun i wr => ∃ k : Nat, k ≤ n ∧ i = .int .i64 k ∧ Hid (chkQ (rows.drop k) E = chkQ rows E) ∧ Below w1.heap.size w1 wr) (fun i _ => n + 1 - (intOf i).toNat)
  case atStart => exact ⟨0, Nat.zero_le _, rfl, rfl, Below.refl _ _⟩
  case round =>
    obtain ⟨k, hk, rfl, hn, hbel⟩ := hrel
    have hbw := hb1.trans (hbel.mono hb1.size)
    by_cases hlt : k < n
    · obtain ⟨b, off, l, ai, li, ci, rfl, hbl, hcell, hrl, hget, _⟩ := (HW.out.below hbel).get hlt
      have hls := hrl.size
      have hd := hn.out
      rw [drop_row hget, chkQ, hls] at hd
      have hli : li ≤ len := by rw [← hls]; exact HL2.out l (List.mem_of_getElem? hget)
      have hiff := drop_nil_iff HNN.out hlt
      have HL := hid hrl
      clear hrl hls hget hn
      by_cases hk76 : 76 < li
      · rw [if_pos hk76] at hd
        have HD := hid hd
        clear hd hiff
        go_wp2
        go_ret
        exact ⟨ret_int (by rw [hQ.out, ← HD.out]), hbw⟩
      · rw [if_neg hk76] at hd
        by_cases hend : k + 1 = n ∧ E = false
        · obtain ⟨hkn, rfl⟩ := hend
          rw [if_pos ⟨hiff.2 hkn, rfl⟩] at hd
          have HD := hid hd
          have hb0 : ((k : Int) == (n : Int) - 1) = true := by simp; omega
          clear hd hiff
          go_wp2
          go_ret
          exact ⟨ret_int (by rw [hQ.out, ← HD.out]), hbw⟩
        · rw [if_neg (fun h => hend ⟨hiff.1 h.1, h.2⟩)] at hd
          have hsub : ((k : Int) == (n : Int) - 1) = false ∨ (((k : Int) == (n : Int) - 1) = true ∧ E = true) := by
            by_cases hkn : k + 1 = n
            · refine .inr ⟨by simp; omega, ?_⟩
              cases hEE : E
              · exact absurd ⟨hkn, hEE⟩ hend
              · rfl
            · exact .inl (by simp; omega)
          cases hq : rgtB l
          · rw [hq, if_neg (by decide)] at hd
            have HD := hid hd
            clear hd hiff hend
            rcases hsub with hk1 | ⟨hk1, rfl⟩
            all_goals
              go_wp2_with (go_at_call 33; (with_reducible refine (ref18_right _ _ _ _ _ HL.out (by omega)).mono ?_); rintro e w2 ⟨rfl, hb2⟩; rw [hq])
              go_ret
              exact ⟨ret_int (by rw [hQ.out, ← HD.out]), below_then' hbw hb2 (Nat.le_refl _)⟩
          · rw [hq, if_pos rfl] at hd
            have HD := hid hd
            clear hd hiff hend
            rcases hsub with hk1 | ⟨hk1, rfl⟩
            all_goals
              go_wp2_with (go_at_call 33; (with_reducible refine (ref18_right _ _ _ _ _ HL.out (by omega)).mono ?_); rintro e w2 ⟨rfl, hb2⟩; rw [hq])
              go_roundw
              case rel => exact ⟨k + 1, by omega, by go_num, HD.out, below_then' hbel hb2 (Nat.le_refl _)⟩
              case measure => simp [intOf]; omega
    · have hd := hn.out
      rw [List.drop_of_length_le (by rw [HNN.out]; omega), chkQ] at hd
      have HD := hid hd
      clear hd hn
      go_wp2
      go_ret
      exact ⟨ret_int (by rw [hQ.out, ← HD.out]), hbw⟩
end Go.Proofs.YtpdoehdmeojmkaaDoor
