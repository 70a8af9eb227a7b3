/-
  Texts of ours laid together: D04b, D05.
-/
import Derived.Test.YtefhddbbiheadaaGreatZ5

/-! D04b -/
namespace Go.Proofs.YtefhddbbiheadaaGreat
open Go.RowKit
set_option linter.unusedVariables false

theorem len_start {c : Int} (hs : scB c = true) : ∃ a r, octs c = a :: r ∧ startN a = lenI c ∧ 0 ≤ a ∧ a ≤ 255 := by
  have h := (scB_iff c).1 hs
  rcases (show c < 128 ∨ (128 ≤ c ∧ c < 2048) ∨ (2048 ≤ c ∧ c < 65536) ∨ 65536 ≤ c by omega) with c1 | ⟨c1, c2⟩ | ⟨c1, c2⟩ | c1
  · rw [lenI_1.2 ⟨by omega, c1⟩]
    refine ⟨c, [], by unfold octs; rw [if_pos hs, if_pos c1], start_1.2 c1, by omega, by omega⟩
  · rw [lenI_2.2 ⟨by omega, c2⟩]
    refine ⟨_, _, by unfold octs; rw [if_pos hs, if_neg (by omega), if_pos c2], start_2.2 ⟨by omega, by omega⟩, by omega, by omega⟩
  · rw [lenI_3.2 ⟨by omega, c2, h.2.2⟩]
    refine ⟨_, _, by unfold octs; rw [if_pos hs, if_neg (by omega), if_neg (by omega), if_pos c2], start_3.2 ⟨by omega, by omega⟩, by omega, by omega⟩
  · rw [lenI_4.2 ⟨by omega, h.2.1⟩]
    refine ⟨_, _, by unfold octs; rw [if_pos hs, if_neg (by omega), if_neg (by omega), if_neg (by omega)], start_4.2 ⟨by omega, by omega⟩, by omega, by omega⟩

/-- A sign's octets, whatever stands behind. -/
theorem far_octs (c : Int) (t : List Int) (hs : scB c = true) : farN (octs c ++ t) = lenI c ∧ topU ((octs c ++ t).headD 0) (octs c ++ t).tail (lenI c) = c := by
  have h := (scB_iff c).1 hs
  rcases (show c < 128 ∨ (128 ≤ c ∧ c < 2048) ∨ (2048 ≤ c ∧ c < 65536) ∨ 65536 ≤ c by omega) with c1 | ⟨c1, c2⟩ | ⟨c1, c2⟩ | c1
  · have ho : octs c = [c] := by unfold octs; rw [if_pos hs, if_pos c1]
    have hst := start_1.2 c1
    rw [ho, lenI_1.2 ⟨by omega, c1⟩]
    constructor
    · show farN (c :: t) = 1
      rw [far_cons (by omega), run_full (by omega)]
    · show topU c t 1 = c
      rw [top_one, hst]; simp [markI]
  · have ho : octs c = [192 + c / 64, 128 + c % 64] := by unfold octs; rw [if_pos hs, if_neg (by omega), if_pos c2]
    have hst : startN (192 + c / 64) = 2 := start_2.2 ⟨by omega, by omega⟩
    have o1 : okU (192 + c / 64) 1 (128 + c % 64) = true := by rw [ok_one]; unfold loU hiU; (repeat' split) <;> omega
    rw [ho, lenI_2.2 ⟨by omega, c2⟩]
    constructor
    · show farN ((192 + c / 64) :: (128 + c % 64) :: t) = 2
      rw [far_cons (by omega), run_step (Nat.le_refl _) rfl (by omega) o1, run_full (by omega)]
    · show topU (192 + c / 64) ((128 + c % 64) :: t) 2 = c
      simp only [topU, hst, markI, accU, List.take, List.foldl]; simp; omega
  · have ho : octs c = [224 + c / 4096, 128 + c / 64 % 64, 128 + c % 64] := by unfold octs; rw [if_pos hs, if_neg (by omega), if_neg (by omega), if_pos c2]
    have hst : startN (224 + c / 4096) = 3 := start_3.2 ⟨by omega, by omega⟩
    have o1 : okU (224 + c / 4096) 1 (128 + c / 64 % 64) = true := by rw [ok_one]; unfold loU hiU; (repeat' split) <;> omega
    have o2 : okU (224 + c / 4096) 2 (128 + c % 64) = true := by rw [ok_two (by omega)]; omega
    rw [ho, lenI_3.2 ⟨by omega, c2, h.2.2⟩]
    constructor
    · show farN ((224 + c / 4096) :: (128 + c / 64 % 64) :: (128 + c % 64) :: t) = 3
      rw [far_cons (by omega), run_step (Nat.le_refl _) rfl (by omega) o1, run_step (by omega) rfl (by omega) o2, run_full (by omega)]
    · show topU (224 + c / 4096) ((128 + c / 64 % 64) :: (128 + c % 64) :: t) 3 = c
      simp only [topU, hst, markI, accU, List.take, List.foldl]; simp; omega
  · have ho : octs c = [240 + c / 262144, 128 + c / 4096 % 64, 128 + c / 64 % 64, 128 + c % 64] := by unfold octs; rw [if_pos hs, if_neg (by omega), if_neg (by omega), if_neg (by omega)]
    have hst : startN (240 + c / 262144) = 4 := start_4.2 ⟨by omega, by omega⟩
    have o1 : okU (240 + c / 262144) 1 (128 + c / 4096 % 64) = true := by rw [ok_one]; unfold loU hiU; (repeat' split) <;> omega
    have o2 : okU (240 + c / 262144) 2 (128 + c / 64 % 64) = true := by rw [ok_two (by omega)]; omega
    have o3 : okU (240 + c / 262144) 3 (128 + c % 64) = true := by rw [ok_two (by omega)]; omega
    rw [ho, lenI_4.2 ⟨by omega, h.2.1⟩]
    constructor
    · show farN ((240 + c / 262144) :: (128 + c / 4096 % 64) :: (128 + c / 64 % 64) :: (128 + c % 64) :: t) = 4
      rw [far_cons (by omega), run_step (Nat.le_refl _) rfl (by omega) o1, run_step (by omega) rfl (by omega) o2, run_step (by omega) rfl (by omega) o3, run_full (by omega)]
    · show topU (240 + c / 262144) ((128 + c / 4096 % 64) :: (128 + c / 64 % 64) :: (128 + c % 64) :: t) 4 = c
      simp only [topU, hst, markI, accU, List.take, List.foldl]; simp; omega

theorem take_octs (c : Int) (t : List Int) (hs : scB c = true) : takC (octs c ++ t) = c ∧ takN (octs c ++ t) = lenI c ∧ takE (octs c ++ t) = 0 := by
  have hf := far_octs c t hs
  obtain ⟨a, r, ho, hst, _, _⟩ := len_start hs
  rw [ho, List.cons_append] at hf ⊢
  have hp := (len_pos c).2 hs
  have T := take_whole (a := a) (r := r ++ t) (by rw [hf.1, hst]) (by rw [hf.1]; exact hp)
  rw [hf.1] at T
  exact ⟨T.1.trans hf.2, T.2.1, T.2.2⟩

/-- What is taken is a sign, and its octets. -/
theorem octs_take (xs : List Int) (hb : ∀ x ∈ xs, 0 ≤ x ∧ x ≤ 255) (h : takE xs = 0) : scB (takC xs) = true ∧ octs (takC xs) = xs.take (takN xs) ∧ takN xs = lenI (takC xs) ∧ takN xs ≤ xs.length := by
  have hw : whole xs = true := by
    unfold takE at h
    split at h
    · assumption
    · split at h <;> omega
  cases xs with
  | nil => exact absurd h (by decide)
  | cons a r =>
    rw [take_of, decide_eq_true_iff] at hw
    have T := take_whole hw.1 hw.2
    have hl := far_le (a :: r)
    have ha := hb a (List.mem_cons_self)
    have h4 := startN_le a
    rw [T.1, T.2.1]
    have key : octs (topU a r (farN (a :: r))) = (a :: r).take (farN (a :: r)) ∧ lenI (topU a r (farN (a :: r))) = farN (a :: r) := by
      have get : ∀ k, k < r.length → ∃ y, r[k]? = some y := fun k hk => ⟨r[k], List.getElem?_eq_getElem hk⟩
      have sc : ∀ t : Int, 0 < lenI t → scB t = true := fun t ht => (len_pos t).1 ht
      rcases (show startN a = 1 ∨ startN a = 2 ∨ startN a = 3 ∨ startN a = 4 by omega) with hn | hn | hn | hn
      all_goals
        have hF := hw.1.symm.trans hn
        rw [hF] at hl
        have g1 : topGood a 1 (topU a r 1) := .inl ⟨rfl, top_one a r⟩
        have okF := fun k (hk : 1 ≤ k) (hk2 : k < farN (a :: r)) y hy => far_ok (a := a) (y := y) (r := r) hk hk2 hy
        rw [hF] at okF ⊢
      · have hst := start_1.1 hn
        rw [top_one, hn, show markI 1 = 0 by rfl, Int.sub_zero]
        have hlen : lenI a = 1 := lenI_1.2 ⟨ha.1, hst⟩
        refine ⟨?_, hlen⟩
        unfold octs
        rw [if_pos (sc a (by omega)), if_pos hst]; rfl
      · match r, hl, okF with
        | b :: r, hl, okF =>
          have o1 := okF 1 (by omega) (by omega) b rfl
          have hst := start_2.1 hn
          have hg := good_next (Nat.le_refl 1) (by omega) (.inl ⟨rfl, rfl⟩) (ok_fol o1) o1
          rcases hg with ⟨h', _⟩ | ⟨_, hg⟩
          · omega
          have hbb := (fol_iff b).1 (ok_fol o1)
          have ht : topU a (b :: r) 2 = 64 * (a - markI (startN a)) + (b - 128) := by simp [topU, accU]
          rw [ht]
          rw [hn, show shf (2 - (1 + 1)) = 1 by rfl, Int.mul_one] at hg
          rw [show markI 2 = 192 by rfl] at hg
          rw [hn, show markI 2 = 192 by rfl]
          refine ⟨?_, hg⟩
          have hc := lenI_2.1 hg
          unfold octs
          rw [if_pos (sc _ (by omega)), if_neg (by omega), if_pos hc.2, show (64 * (a - 192) + (b - 128)) / 64 = a - 192 by omega, show (64 * (a - 192) + (b - 128)) % 64 = b - 128 by omega,
            show 192 + (a - 192) = a by omega, show 128 + (b - 128) = b by omega]
          rfl
      · match r, hl, okF with
        | b :: c :: r, hl, okF =>
          have o1 := okF 1 (by omega) (by omega) b rfl
          have o2 := okF 2 (by omega) (by omega) c rfl
          have hst := start_3.1 hn
          have hg := good_next (by omega) (by omega) (good_next (Nat.le_refl 1) (by omega) (.inl ⟨rfl, rfl⟩) (ok_fol o1) o1) (ok_fol o2) o2
          rcases hg with ⟨h', _⟩ | ⟨_, hg⟩
          · omega
          have hbb := (fol_iff b).1 (ok_fol o1)
          have hcc := (fol_iff c).1 (ok_fol o2)
          have ht : topU a (b :: c :: r) 3 = 64 * (64 * (a - markI (startN a)) + (b - 128)) + (c - 128) := by simp [topU, accU]
          rw [ht]
          rw [hn, show shf (3 - (1 + 1 + 1)) = 1 by rfl, Int.mul_one] at hg
          rw [show markI 3 = 224 by rfl] at hg
          rw [hn, show markI 3 = 224 by rfl]
          refine ⟨?_, hg⟩
          have hc := lenI_3.1 hg
          unfold octs
          rw [if_pos (sc _ (by omega)), if_neg (by omega), if_neg (by omega), if_pos hc.2.1]
          generalize hv : 64 * (64 * (a - 224) + (b - 128)) + (c - 128) = v at *
          rw [show 224 + v / 4096 = a by omega, show 128 + v / 64 % 64 = b by omega, show 128 + v % 64 = c by omega]
          rfl
      · match r, hl, okF with
        | b :: c :: d :: r, hl, okF =>
          have o1 := okF 1 (by omega) (by omega) b rfl
          have o2 := okF 2 (by omega) (by omega) c rfl
          have o3 := okF 3 (by omega) (by omega) d rfl
          have hst := start_4.1 hn
          have hg := good_next (by omega) (by omega) (good_next (by omega) (by omega) (good_next (Nat.le_refl 1) (by omega) (.inl ⟨rfl, rfl⟩) (ok_fol o1) o1) (ok_fol o2) o2) (ok_fol o3) o3
          rcases hg with ⟨h', _⟩ | ⟨_, hg⟩
          · omega
          have hbb := (fol_iff b).1 (ok_fol o1)
          have hcc := (fol_iff c).1 (ok_fol o2)
          have hdd := (fol_iff d).1 (ok_fol o3)
          have ht : topU a (b :: c :: d :: r) 4 = 64 * (64 * (64 * (a - markI (startN a)) + (b - 128)) + (c - 128)) + (d - 128) := by simp [topU, accU]
          rw [ht]
          rw [hn, show shf (4 - (1 + 1 + 1 + 1)) = 1 by rfl, Int.mul_one] at hg
          rw [show markI 4 = 240 by rfl] at hg
          rw [hn, show markI 4 = 240 by rfl]
          refine ⟨?_, hg⟩
          have hc := lenI_4.1 hg
          unfold octs
          rw [if_pos (sc _ (by omega)), if_neg (by omega), if_neg (by omega), if_neg (by omega)]
          generalize hv : 64 * (64 * (64 * (a - 240) + (b - 128)) + (c - 128)) + (d - 128) = v at *
          rw [show 240 + v / 262144 = a by omega, show 128 + v / 4096 % 64 = b by omega, show 128 + v / 64 % 64 = c by omega, show 128 + v % 64 = d by omega]
          rfl
    exact ⟨(len_pos _).1 (by rw [key.2]; exact hw.2), key.1, key.2.symm, hl⟩

/-- No two signs have the same octets, none begins another one's. -/
theorem octs_one (a b : Int) (ha : scB a = true) (hb : scB b = true) (hl : lenI a ≤ lenI b) (h : octs a = (octs b).take (lenI a)) : a = b := by
  have h1 := (take_octs b [] hb).1
  have h2 := (take_octs a ((octs b).drop (lenI a)) ha).1
  rw [h, List.take_append_drop] at h2
  rw [List.append_nil] at h1
  exact h2.symm.trans h1
theorem tak_bd (xs : List Int) (h : takE xs ≠ 0) : takN xs ≤ xs.length ∧ (0 < takN xs ↔ 0 < xs.length) := by
  have h1 := far_le xs
  unfold takN
  cases xs with
  | nil => simp
  | cons a r => rw [if_neg (by simp)]; simp at h1 ⊢; omega

end Go.Proofs.YtefhddbbiheadaaGreat

/-! D05 -/
namespace Go.Proofs.YtefhddbbiheadaaGreat
open Go.RowKit
set_option linter.unusedVariables false

/-- A text's octets; how many. -/
def octL (t : List Int) : List Int := t.flatMap octs
def lenL (t : List Int) : Nat := (octL t).length
/-- What is read next, and what is told of it. -/
def sign1 (xs : List Int) : Int × Int := (if takE xs = 0 then takC xs else 65533, takE xs)
def sigF : Nat → List Int → List (Int × Int)
  | 0, _ => []
  | n + 1, xs => if xs = [] then [] else sign1 xs :: sigF n (xs.drop (takN xs))
/-- What octets are read as, each sign with what is told of it. -/
def sigs (xs : List Int) : List (Int × Int) := sigF xs.length xs
def txt (xs : List Int) : List Int := (sigs xs).map Prod.fst
/-- The first error; how many there are. -/
def errP : List (Int × Int) → Int
  | [] => 0
  | p :: r => if p.2 = 0 then errP r else p.2
def brkP (ps : List (Int × Int)) : Nat := ps.countP (fun p => decide (p.2 ≠ 0))

theorem octL_nil : octL [] = [] := rfl
theorem octL_app (a b : List Int) : octL (a ++ b) = octL a ++ octL b := by simp [octL]
theorem octL_snoc {xs : List Int} {k : Nat} {x : Int} (h : xs.take (k + 1) = xs.take k ++ [x]) : octL (xs.take (k + 1)) = octL (xs.take k) ++ octs x := by rw [h, octL_app]; simp [octL]
theorem lenL_snoc {xs : List Int} {k : Nat} {x : Int} (h : xs.take (k + 1) = xs.take k ++ [x]) : lenL (xs.take (k + 1)) = lenL (xs.take k) + lenI x := by unfold lenL; rw [octL_snoc h, List.length_append, octs_len]
theorem octL_wf (t : List Int) : ∀ x ∈ octL t, (Lit.int .u8 x).wf = true := by
  intro x hx
  obtain ⟨c, _, hc⟩ := List.mem_flatMap.1 hx
  exact octs_wf c x hc
theorem octL_bd (t : List Int) : ∀ x ∈ octL t, 0 ≤ x ∧ x ≤ 255 := fun x hx => wf_u8 (octL_wf t x hx)
theorem lenL_le : ∀ t : List Int, lenL t ≤ 4 * t.length
  | [] => Nat.le_refl _
  | c :: t => by
    have h := lenL_le t
    have h4 := lenI_le c
    unfold lenL at h ⊢
    rw [show octL (c :: t) = octs c ++ octL t from rfl, List.length_append, octs_len]; simp; omega
theorem lenL_take (t : List Int) (k : Nat) : lenL (t.take k) ≤ 4 * t.length := by
  have h := lenL_le (t.take k); simp at h; omega

theorem takN_pos {xs : List Int} (h : xs ≠ []) : 0 < takN xs := by unfold takN; rw [if_neg h]; omega
theorem takN_le (xs : List Int) : takN xs ≤ xs.length := by
  have h := far_le xs
  unfold takN
  split
  · omega
  · rename_i h0
    have : 0 < xs.length := by cases xs with | nil => exact absurd rfl h0 | cons => simp
    omega
theorem sigF_eq : ∀ (n m : Nat) (xs : List Int), xs.length ≤ n → xs.length ≤ m → sigF n xs = sigF m xs
  | 0, 0, _, _, _ => rfl
  | 0, m + 1, xs, h, _ => by
    obtain rfl : xs = [] := List.eq_nil_of_length_eq_zero (by omega)
    rfl
  | n + 1, 0, xs, _, h => by
    obtain rfl : xs = [] := List.eq_nil_of_length_eq_zero (by omega)
    rfl
  | n + 1, m + 1, xs, h, h' => by
    unfold sigF
    split
    · rfl
    · rename_i h0
      have := takN_pos h0
      rw [sigF_eq n m (xs.drop (takN xs)) (by simp; omega) (by simp; omega)]
theorem sigs_nil : sigs [] = [] := rfl
theorem sigs_cons {xs : List Int} (h : xs ≠ []) : sigs xs = sign1 xs :: sigs (xs.drop (takN xs)) := by
  have hp := takN_pos h
  obtain ⟨n, hn⟩ : ∃ n, xs.length = n + 1 := ⟨xs.length - 1, by have : 0 < xs.length := List.length_pos_iff.2 h
                                                                omega⟩
  show sigF xs.length xs = _
  rw [hn]
  show (if xs = [] then [] else sign1 xs :: sigF n (xs.drop (takN xs))) = _
  rw [if_neg h]
  congr 1
  exact sigF_eq _ _ _ (by simp; omega) (Nat.le_refl _)
/-- By signs, from the front. -/
theorem sigs_ind {p : List Int → Prop} (h0 : p []) (h1 : ∀ xs, xs ≠ [] → p (xs.drop (takN xs)) → p xs) : ∀ xs, p xs := by
  have key : ∀ (n : Nat) (xs : List Int), xs.length ≤ n → p xs := by
    intro n
    induction n with
    | zero => intro xs h; obtain rfl : xs = [] := List.eq_nil_of_length_eq_zero (by omega)
              exact h0
    | succ n ih =>
      intro xs h
      by_cases he : xs = []
      · subst he; exact h0
      · exact h1 xs he (ih _ (by have := takN_pos he; simp; omega))
  exact fun xs => key _ xs (Nat.le_refl _)

theorem errP_app (a b : List (Int × Int)) (h : ∀ p ∈ a, p.2 = 0) : errP (a ++ b) = errP b := by
  induction a with
  | nil => rfl
  | cons p a ih =>
    rw [List.cons_append, errP, if_pos (h p (List.mem_cons_self)), ih (fun q hq => h q (List.mem_cons_of_mem _ hq))]
theorem errP_zero {ps : List (Int × Int)} : errP ps = 0 ↔ ∀ p ∈ ps, p.2 = 0 := by
  induction ps with
  | nil => simp [errP]
  | cons p ps ih =>
    rw [errP]
    split
    · rename_i h; rw [ih]; simp [h]
    · rename_i h; simp [h]
theorem errP_snoc (ps : List (Int × Int)) (p : Int × Int) : errP (ps ++ [p]) = if errP ps = 0 then p.2 else errP ps := by
  split
  · rename_i h; rw [errP_app _ _ (errP_zero.1 h)]; simp [errP]; intro h; exact h.symm
  · rename_i h
    induction ps with
    | nil => exact absurd rfl h
    | cons q ps ih =>
      rw [List.cons_append, errP, errP]
      rw [errP] at h
      split
      · rename_i hq; rw [if_pos hq] at h; exact ih h
      · rfl
theorem errP_pre {a b : List (Int × Int)} (h : a <+: b) (h0 : errP a ≠ 0) : errP b = errP a := by
  obtain ⟨r, rfl⟩ := h
  induction a with
  | nil => exact absurd rfl h0
  | cons q a ih =>
    rw [List.cons_append, errP, errP]
    rw [errP] at h0
    split
    · rename_i hq; rw [if_pos hq] at h0; exact ih h0
    · rfl
/-- What is read strictly. -/
def strL (xs : List Int) : List Int := if errP (sigs xs) = 0 then txt xs else []
theorem txt_len (xs : List Int) : (txt xs).length = (sigs xs).length := by simp [txt]
theorem brkP_snoc (ps : List (Int × Int)) (p : Int × Int) : brkP (ps ++ [p]) = brkP ps + if p.2 = 0 then 0 else 1 := by
  unfold brkP; rw [List.countP_append]; simp [List.countP_cons]
theorem brkP_le (ps : List (Int × Int)) : brkP ps ≤ ps.length := List.countP_le_length
theorem brkP_zero (ps : List (Int × Int)) : brkP ps = 0 ↔ errP ps = 0 := by
  rw [errP_zero]; unfold brkP; rw [List.countP_eq_zero]; simp

theorem takE_of (xs : List Int) : takE xs = 0 ∨ takE xs = 3 ∨ takE xs = 4 := by
  unfold takE; (repeat' split) <;> simp
theorem takC_sc {xs : List Int} (hb : ∀ x ∈ xs, 0 ≤ x ∧ x ≤ 255) (h : takE xs = 0) : scB (takC xs) = true := (octs_take xs hb h).1
theorem sign_sc {xs : List Int} (hb : ∀ x ∈ xs, 0 ≤ x ∧ x ≤ 255) : scB (sign1 xs).1 = true := by
  unfold sign1; simp only; split
  · rename_i h; exact takC_sc hb h
  · decide
theorem bd_drop {xs : List Int} (n : Nat) (hb : ∀ x ∈ xs, 0 ≤ x ∧ x ≤ 255) : ∀ x ∈ xs.drop n, 0 ≤ x ∧ x ≤ 255 := fun x hx => hb x (List.mem_of_mem_drop hx)
/-- What is read is right. -/
theorem txt_sc : ∀ xs : List Int, (∀ x ∈ xs, 0 ≤ x ∧ x ≤ 255) → (txt xs).all scB = true := by
  refine sigs_ind (fun _ => rfl) fun xs h ih hb => ?_
  unfold txt
  rw [sigs_cons h, List.map_cons, List.all_cons, sign_sc hb, Bool.true_and]
  exact ih (bd_drop _ hb)
theorem sigs_len : ∀ xs : List Int, (sigs xs).length ≤ xs.length := by
  refine sigs_ind (Nat.le_refl _) fun xs h ih => ?_
  have hp := takN_pos h
  have hl : 0 < xs.length := List.length_pos_iff.2 h
  rw [sigs_cons h]; simp at ih ⊢; omega
theorem sigs_pos (xs : List Int) : (0 < (sigs xs).length) ↔ 0 < xs.length := by
  by_cases h : xs = []
  · subst h; simp [sigs_nil]
  · have hl : 0 < xs.length := List.length_pos_iff.2 h
    rw [sigs_cons h]; simp [hl]
/-- What is laid is read. -/
theorem sigs_octL : ∀ (t rest : List Int), t.all scB = true → sigs (octL t ++ rest) = t.map (fun c => (c, 0)) ++ sigs rest
  | [], rest, _ => rfl
  | c :: t, rest, h => by
    rw [List.all_cons, Bool.and_eq_true] at h
    have T := take_octs c (octL t ++ rest) h.1
    have hl := octs_len c
    have hp := (len_pos c).2 h.1
    have e : octL (c :: t) ++ rest = octs c ++ (octL t ++ rest) := by rw [show octL (c :: t) = octs c ++ octL t from rfl, List.append_assoc]
    rw [e, sigs_cons (by intro h0; have := congrArg List.length h0; simp [hl] at this; omega), T.2.1]
    rw [show (octs c ++ (octL t ++ rest)).drop (lenI c) = octL t ++ rest by rw [← hl]; simp, sigs_octL t rest h.2]
    simp [sign1, T.1, T.2.2]
theorem sigs_laid {t : List Int} (h : t.all scB = true) : sigs (octL t) = t.map (fun c => (c, 0)) := by
  have := sigs_octL t [] h
  simpa [sigs_nil] using this
theorem txt_laid {t : List Int} (h : t.all scB = true) : txt (octL t) = t := by unfold txt; rw [sigs_laid h]; simp [Function.comp_def]
theorem err_laid {t : List Int} (h : t.all scB = true) : errP (sigs (octL t)) = 0 := by
  rw [sigs_laid h, errP_zero]; intro p hp; obtain ⟨c, _, rfl⟩ := List.mem_map.1 hp; rfl
/-- Octets that are right are laid as they were. -/
theorem octL_txt : ∀ xs : List Int, (∀ x ∈ xs, 0 ≤ x ∧ x ≤ 255) → errP (sigs xs) = 0 → octL (txt xs) = xs := by
  refine sigs_ind (fun _ _ => rfl) fun xs h ih hb he => ?_
  rw [sigs_cons h, errP] at he
  split at he
  · rename_i h0
    have h0' : takE xs = 0 := h0
    have O := octs_take xs hb h0'
    have := ih (bd_drop _ hb) he
    unfold txt at this ⊢
    rw [sigs_cons h, List.map_cons, show octL ((sign1 xs).1 :: (sigs (xs.drop (takN xs))).map Prod.fst) = octs (sign1 xs).1 ++ octL ((sigs (xs.drop (takN xs))).map Prod.fst) from rfl, this]
    rw [show (sign1 xs).1 = takC xs by unfold sign1; simp only; rw [if_pos h0'], O.2.1, List.take_append_drop]
  · rename_i h0; exact absurd he h0
theorem txt_wf {xs : List Int} (hb : ∀ x ∈ xs, 0 ≤ x ∧ x ≤ 255) : ∀ x ∈ txt xs, (Lit.int .i32 x).wf = true := by
  intro x hx
  have h := List.all_eq_true.1 (txt_sc xs hb) x hx
  have := (scB_iff x).1 h
  exact mk_r (by omega) (by omega)

end Go.Proofs.YtefhddbbiheadaaGreat
