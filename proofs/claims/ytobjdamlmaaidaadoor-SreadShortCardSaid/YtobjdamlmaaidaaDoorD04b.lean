/-
  Layer 4, in plain words: what is put is taken, what is taken is put.
-/
import Derived.Test.YtobjdamlmaaidaaDoorD04
namespace Go.Proofs.YtobjdamlmaaidaaDoor
open Go.RowKit
set_option linter.unusedVariables false

theorem len_start {c : Int} (hs : scB c = true) : ∃ a r, octs c = a :: r ∧ startN a = lenI c ∧ 0 ≤ a ∧ a ≤ 255 := by
  have h := (scB_iff c).1 hs
  rcases (show c < 128 ∨ (128 ≤ c ∧ c < 2048) ∨ (2048 ≤ c ∧ c < 65536) ∨ 65536 ≤ c by omega) with c1 | ⟨c1, c2⟩ | ⟨c1, c2⟩ | c1
  · rw [lenI_1.2 ⟨by omega, c1⟩]
    refine ⟨c, [], by unfold octs; rw [if_pos hs, if_pos c1], start_1.2 c1, by omega, by omega⟩
  · rw [lenI_2.2 ⟨by omega, c2⟩]
    refine ⟨_, _, by unfold octs; rw [if_pos hs, if_neg (by omega), if_pos c2], start_2.2 ⟨by omega, by omega⟩, by omega, by omega⟩
  · rw [lenI_3.2 ⟨by omega, c2, h.2.2⟩]
    refine ⟨_, _, by unfold octs; rw [if_pos hs, if_neg (by omega), if_neg (by omega), if_pos c2], start_3.2 ⟨by omega, by omega⟩, by omega, by omega⟩
  · rw [lenI_4.2 ⟨by omega, h.2.1⟩]
    refine ⟨_, _, by unfold octs; rw [if_pos hs, if_neg (by omega), if_neg (by omega), if_neg (by omega)], start_4.2 ⟨by omega, by omega⟩, by omega, by omega⟩

/-- A sign's octets, whatever stands behind. -/
theorem far_octs (c : Int) (t : List Int) (hs : scB c = true) : farN (octs c ++ t) = lenI c ∧ topU ((octs c ++ t).headD 0) (octs c ++ t).tail (lenI c) = c := by
  have h := (scB_iff c).1 hs
  rcases (show c < 128 ∨ (128 ≤ c ∧ c < 2048) ∨ (2048 ≤ c ∧ c < 65536) ∨ 65536 ≤ c by omega) with c1 | ⟨c1, c2⟩ | ⟨c1, c2⟩ | c1
  · have ho : octs c = [c] := by unfold octs; rw [if_pos hs, if_pos c1]
    have hst := start_1.2 c1
    rw [ho, lenI_1.2 ⟨by omega, c1⟩]
    constructor
    · show farN (c :: t) = 1
      rw [far_cons (by omega), run_full (by omega)]
    · show topU c t 1 = c
      rw [top_one, hst]; simp [markI]
  · have ho : octs c = [192 + c / 64, 128 + c % 64] := by unfold octs; rw [if_pos hs, if_neg (by omega), if_pos c2]
    have hst : startN (192 + c / 64) = 2 := start_2.2 ⟨by omega, by omega⟩
    have o1 : okU (192 + c / 64) 1 (128 + c % 64) = true := by rw [ok_one]; unfold loU hiU; (repeat' split) <;> omega
    rw [ho, lenI_2.2 ⟨by omega, c2⟩]
    constructor
    · show farN ((192 + c / 64) :: (128 + c % 64) :: t) = 2
      rw [far_cons (by omega), run_step (Nat.le_refl _) rfl (by omega) o1, run_full (by omega)]
    · show topU (192 + c / 64) ((128 + c % 64) :: t) 2 = c
      simp only [topU, hst, markI, accU, List.take, List.foldl]; simp; omega
  · have ho : octs c = [224 + c / 4096, 128 + c / 64 % 64, 128 + c % 64] := by unfold octs; rw [if_pos hs, if_neg (by omega), if_neg (by omega), if_pos c2]
    have hst : startN (224 + c / 4096) = 3 := start_3.2 ⟨by omega, by omega⟩
    have o1 : okU (224 + c / 4096) 1 (128 + c / 64 % 64) = true := by rw [ok_one]; unfold loU hiU; (repeat' split) <;> omega
    have o2 : okU (224 + c / 4096) 2 (128 + c % 64) = true := by rw [ok_two (by omega)]; omega
    rw [ho, lenI_3.2 ⟨by omega, c2, h.2.2⟩]
    constructor
    · show farN ((224 + c / 4096) :: (128 + c / 64 % 64) :: (128 + c % 64) :: t) = 3
      rw [far_cons (by omega), run_step (Nat.le_refl _) rfl (by omega) o1, run_step (by omega) rfl (by omega) o2, run_full (by omega)]
    · show topU (224 + c / 4096) ((128 + c / 64 % 64) :: (128 + c % 64) :: t) 3 = c
      simp only [topU, hst, markI, accU, List.take, List.foldl]; simp; omega
  · have ho : octs c = [240 + c / 262144, 128 + c / 4096 % 64, 128 + c / 64 % 64, 128 + c % 64] := by unfold octs; rw [if_pos hs, if_neg (by omega), if_neg (by omega), if_neg (by omega)]
    have hst : startN (240 + c / 262144) = 4 := start_4.2 ⟨by omega, by omega⟩
    have o1 : okU (240 + c / 262144) 1 (128 + c / 4096 % 64) = true := by rw [ok_one]; unfold loU hiU; (repeat' split) <;> omega
    have o2 : okU (240 + c / 262144) 2 (128 + c / 64 % 64) = true := by rw [ok_two (by omega)]; omega
    have o3 : okU (240 + c / 262144) 3 (128 + c % 64) = true := by rw [ok_two (by omega)]; omega
    rw [ho, lenI_4.2 ⟨by omega, h.2.1⟩]
    constructor
    · show farN ((240 + c / 262144) :: (128 + c / 4096 % 64) :: (128 + c / 64 % 64) :: (128 + c % 64) :: t) = 4
      rw [far_cons (by omega), run_step (Nat.le_refl _) rfl (by omega) o1, run_step (by omega) rfl (by omega) o2, run_step (by omega) rfl (by omega) o3, run_full (by omega)]
    · show topU (240 + c / 262144) ((128 + c / 4096 % 64) :: (128 + c / 64 % 64) :: (128 + c % 64) :: t) 4 = c
      simp only [topU, hst, markI, accU, List.take, List.foldl]; simp; omega

theorem take_octs (c : Int) (t : List Int) (hs : scB c = true) : takC (octs c ++ t) = c ∧ takN (octs c ++ t) = lenI c ∧ takE (octs c ++ t) = 0 := by
  have hf := far_octs c t hs
  obtain ⟨a, r, ho, hst, _, _⟩ := len_start hs
  rw [ho, List.cons_append] at hf ⊢
  have hp := (len_pos c).2 hs
  have T := take_whole (a := a) (r := r ++ t) (by rw [hf.1, hst]) (by rw [hf.1]; exact hp)
  rw [hf.1] at T
  exact ⟨T.1.trans hf.2, T.2.1, T.2.2⟩

/-- What is taken is a sign, and its octets. -/
theorem octs_take (xs : List Int) (hb : ∀ x ∈ xs, 0 ≤ x ∧ x ≤ 255) (h : takE xs = 0) : scB (takC xs) = true ∧ octs (takC xs) = xs.take (takN xs) ∧ takN xs = lenI (takC xs) ∧ takN xs ≤ xs.length := by
  have hw : whole xs = true := by
    unfold takE at h
    split at h
    · assumption
    · split at h <;> omega
  cases xs with
  | nil => exact absurd h (by decide)
  | cons a r =>
    rw [take_of, decide_eq_true_iff] at hw
    have T := take_whole hw.1 hw.2
    have hl := far_le (a :: r)
    have ha := hb a (List.mem_cons_self)
    have h4 := startN_le a
    rw [T.1, T.2.1]
    have key : octs (topU a r (farN (a :: r))) = (a :: r).take (farN (a :: r)) ∧ lenI (topU a r (farN (a :: r))) = farN (a :: r) := by
      have get : ∀ k, k < r.length → ∃ y, r[k]? = some y := fun k hk => ⟨r[k], List.getElem?_eq_getElem hk⟩
      have sc : ∀ t : Int, 0 < lenI t → scB t = true := fun t ht => (len_pos t).1 ht
      rcases (show startN a = 1 ∨ startN a = 2 ∨ startN a = 3 ∨ startN a = 4 by omega) with hn | hn | hn | hn
      all_goals
        have hF := hw.1.symm.trans hn
        rw [hF] at hl
        have g1 : topGood a 1 (topU a r 1) := .inl ⟨rfl, top_one a r⟩
        have okF := fun k (hk : 1 ≤ k) (hk2 : k < farN (a :: r)) y hy => far_ok (a := a) (y := y) (r := r) hk hk2 hy
        rw [hF] at okF ⊢
      · have hst := start_1.1 hn
        rw [top_one, hn, show markI 1 = 0 by rfl, Int.sub_zero]
        have hlen : lenI a = 1 := lenI_1.2 ⟨ha.1, hst⟩
        refine ⟨?_, hlen⟩
        unfold octs
        rw [if_pos (sc a (by omega)), if_pos hst]; rfl
      · match r, hl, okF with
        | b :: r, hl, okF =>
          have o1 := okF 1 (by omega) (by omega) b rfl
          have hst := start_2.1 hn
          have hg := good_next (Nat.le_refl 1) (by omega) (.inl ⟨rfl, rfl⟩) (ok_fol o1) o1
          rcases hg with ⟨h', _⟩ | ⟨_, hg⟩
          · omega
          have hbb := (fol_iff b).1 (ok_fol o1)
          have ht : topU a (b :: r) 2 = 64 * (a - markI (startN a)) + (b - 128) := by simp [topU, accU]
          rw [ht]
          rw [hn, show shf (2 - (1 + 1)) = 1 by rfl, Int.mul_one] at hg
          rw [show markI 2 = 192 by rfl] at hg
          rw [hn, show markI 2 = 192 by rfl]
          refine ⟨?_, hg⟩
          have hc := lenI_2.1 hg
          unfold octs
          rw [if_pos (sc _ (by omega)), if_neg (by omega), if_pos hc.2, show (64 * (a - 192) + (b - 128)) / 64 = a - 192 by omega, show (64 * (a - 192) + (b - 128)) % 64 = b - 128 by omega,
            show 192 + (a - 192) = a by omega, show 128 + (b - 128) = b by omega]
          rfl
      · match r, hl, okF with
        | b :: c :: r, hl, okF =>
          have o1 := okF 1 (by omega) (by omega) b rfl
          have o2 := okF 2 (by omega) (by omega) c rfl
          have hst := start_3.1 hn
          have hg := good_next (by omega) (by omega) (good_next (Nat.le_refl 1) (by omega) (.inl ⟨rfl, rfl⟩) (ok_fol o1) o1) (ok_fol o2) o2
          rcases hg with ⟨h', _⟩ | ⟨_, hg⟩
          · omega
          have hbb := (fol_iff b).1 (ok_fol o1)
          have hcc := (fol_iff c).1 (ok_fol o2)
          have ht : topU a (b :: c :: r) 3 = 64 * (64 * (a - markI (startN a)) + (b - 128)) + (c - 128) := by simp [topU, accU]
          rw [ht]
          rw [hn, show shf (3 - (1 + 1 + 1)) = 1 by rfl, Int.mul_one] at hg
          rw [show markI 3 = 224 by rfl] at hg
          rw [hn, show markI 3 = 224 by rfl]
          refine ⟨?_, hg⟩
          have hc := lenI_3.1 hg
          unfold octs
          rw [if_pos (sc _ (by omega)), if_neg (by omega), if_neg (by omega), if_pos hc.2.1]
          generalize hv : 64 * (64 * (a - 224) + (b - 128)) + (c - 128) = v at *
          rw [show 224 + v / 4096 = a by omega, show 128 + v / 64 % 64 = b by omega, show 128 + v % 64 = c by omega]
          rfl
      · match r, hl, okF with
        | b :: c :: d :: r, hl, okF =>
          have o1 := okF 1 (by omega) (by omega) b rfl
          have o2 := okF 2 (by omega) (by omega) c rfl
          have o3 := okF 3 (by omega) (by omega) d rfl
          have hst := start_4.1 hn
          have hg := good_next (by omega) (by omega) (good_next (by omega) (by omega) (good_next (Nat.le_refl 1) (by omega) (.inl ⟨rfl, rfl⟩) (ok_fol o1) o1) (ok_fol o2) o2) (ok_fol o3) o3
          rcases hg with ⟨h', _⟩ | ⟨_, hg⟩
          · omega
          have hbb := (fol_iff b).1 (ok_fol o1)
          have hcc := (fol_iff c).1 (ok_fol o2)
          have hdd := (fol_iff d).1 (ok_fol o3)
          have ht : topU a (b :: c :: d :: r) 4 = 64 * (64 * (64 * (a - markI (startN a)) + (b - 128)) + (c - 128)) + (d - 128) := by simp [topU, accU]
          rw [ht]
          rw [hn, show shf (4 - (1 + 1 + 1 + 1)) = 1 by rfl, Int.mul_one] at hg
          rw [show markI 4 = 240 by rfl] at hg
          rw [hn, show markI 4 = 240 by rfl]
          refine ⟨?_, hg⟩
          have hc := lenI_4.1 hg
          unfold octs
          rw [if_pos (sc _ (by omega)), if_neg (by omega), if_neg (by omega), if_neg (by omega)]
          generalize hv : 64 * (64 * (64 * (a - 240) + (b - 128)) + (c - 128)) + (d - 128) = v at *
          rw [show 240 + v / 262144 = a by omega, show 128 + v / 4096 % 64 = b by omega, show 128 + v / 64 % 64 = c by omega, show 128 + v % 64 = d by omega]
          rfl
    exact ⟨(len_pos _).1 (by rw [key.2]; exact hw.2), key.1, key.2.symm, hl⟩

/-- No two signs have the same octets, none begins another one's. -/
theorem octs_one (a b : Int) (ha : scB a = true) (hb : scB b = true) (hl : lenI a ≤ lenI b) (h : octs a = (octs b).take (lenI a)) : a = b := by
  have h1 := (take_octs b [] hb).1
  have h2 := (take_octs a ((octs b).drop (lenI a)) ha).1
  rw [h, List.take_append_drop] at h2
  rw [List.append_nil] at h1
  exact h2.symm.trans h1
theorem tak_bd (xs : List Int) (h : takE xs ≠ 0) : takN xs ≤ xs.length ∧ (0 < takN xs ↔ 0 < xs.length) := by
  have h1 := far_le xs
  unfold takN
  cases xs with
  | nil => simp
  | cons a r => rw [if_neg (by simp)]; simp at h1 ⊢; omega

end Go.Proofs.YtobjdamlmaaidaaDoor
