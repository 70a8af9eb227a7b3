/-
  Layer 11, in plain words: a name is led to, in whichever case, with blanks and a language.
-/
import Derived.Test.YtffjiidegnblbaaD11
namespace Go.Proofs.Ytffjiidegnblbaa
open Go.RowKit
set_option linter.unusedVariables false

/-- No blank, no star. -/
def Inner (zs : List Int) : Prop := ∀ z ∈ zs, isB 2 z = false ∧ z ≠ 42
theorem star_cut {zs behind : List Int} (h : ∀ z ∈ zs, z ≠ 42) : (zs ++ 42 :: behind).takeWhile noStar = zs := by
  induction zs with
  | nil => rfl
  | cons z zs ih =>
    have hz : noStar z = true := decide_eq_true (h z (by simp))
    rw [List.cons_append, List.takeWhile_cons, if_pos hz, ih (fun y hy => h y (by simp [hy]))]
theorem trim_mid {zs : List Int} (hz : ∀ z ∈ zs, isB 2 z = false) (hne : zs ≠ []) : trimL (isB 2) (32 :: 9 :: (zs ++ [32])) = zs := by
  have b32 : isB 2 32 = true := by decide +kernel
  have b9 : isB 2 9 = true := by decide +kernel
  obtain ⟨z, l, rfl⟩ := List.exists_cons_of_ne_nil hne
  have hf : frontN (isB 2) (32 :: 9 :: (z :: l ++ [32])) = 2 := by
    unfold frontN
    rw [List.takeWhile_cons, if_pos b32, List.takeWhile_cons, if_pos b9, List.cons_append, List.takeWhile_cons, if_neg (by rw [hz z (by simp)]; decide)]
    rfl
  have hlen : (32 :: 9 :: (z :: l ++ [32])).length = l.length + 4 := by simp
  have hb : backN (isB 2) (32 :: 9 :: (z :: l ++ [32])) 2 (l.length + 4) = l.length + 3 := by
    rw [back_step (x := 32) (by omega) (by simp) b32, show l.length + 4 - 1 = l.length + 3 by omega]
    have hx : ∃ x, (32 :: 9 :: (z :: l ++ [32]))[l.length + 3 - 1]? = some x ∧ x ∈ z :: l := by
      refine ⟨(z :: l)[l.length]'(by simp), ?_, List.getElem_mem _⟩
      rw [show l.length + 3 - 1 = l.length + 2 by omega, show (32 :: 9 :: (z :: l ++ [32]))[l.length + 2]? = (z :: l ++ [32])[l.length]? by simp, List.getElem?_append_left (by simp)]
      simp
    obtain ⟨x, hx1, hx2⟩ := hx
    exact back_stop (by omega) hx1 (hz x hx2)
  unfold trimL
  rw [hf, hlen, hb]
  simp
theorem key_all {zs behind : List Int} (hz : Inner zs) (hne : zs ≠ []) : keyB (32 :: 9 :: (zs ++ 32 :: 42 :: behind)) = strB (zs.map lowI) := by
  unfold keyB bareL
  have h1 : (32 :: 9 :: (zs ++ 32 :: 42 :: behind)).takeWhile noStar = 32 :: 9 :: (zs ++ [32]) := by
    have := star_cut (zs := 32 :: 9 :: (zs ++ [32])) (behind := behind) (by
      intro z hz'
      simp only [List.mem_cons, List.mem_append, List.not_mem_nil, or_false] at hz'
      rcases hz' with rfl | rfl | h | rfl
      · decide
      · decide
      · exact (hz z h).2
      · decide)
    simpa using this
  rw [h1, trim_mid (fun z h => (hz z h).1) hne]

/-- A name's octets; in whichever case. -/
def octB (s : ByteArray) : List Int := s.data.toList.map (fun b => (b.toNat : Int))
theorem octB_str (s : ByteArray) : strB (octB s) = s := by
  unfold strB octB
  rw [List.map_map]
  refine ByteArray.ext ?_
  rw [← Array.toList_inj]
  show (s.data.toList.map _) = s.data.toList
  conv => rhs; rw [← List.map_id s.data.toList]
  exact List.map_congr_left fun b _ => by simp
def low1 (y : Int) : Bool := !isB 2 y && decide (y ≠ 42) && decide (y < 65 ∨ 90 < y) && decide (0 ≤ y) && decide (y ≤ 255)
/-- z is y, or y as a great letter. -/
def Case1 (y z : Int) : Prop := z = y ∨ (97 ≤ y ∧ y ≤ 122 ∧ z = y - 32)
theorem case_low {y z : Int} (hy : low1 y = true) (h : Case1 y z) : lowI z = y ∧ isB 2 z = false ∧ z ≠ 42 := by
  simp only [low1, Bool.and_eq_true, Bool.not_eq_true', decide_eq_true_eq] at hy
  obtain ⟨⟨⟨⟨h1, h2⟩, h3⟩, h4⟩, h5⟩ := hy
  rcases h with rfl | ⟨ha, hb, rfl⟩
  · exact ⟨by unfold lowI; rw [if_neg (by omega)], h1, h2⟩
  · have hd : ∀ n : Fin 256, 65 ≤ (n.val : Int) → (n.val : Int) ≤ 90 → isB 2 (n.val : Int) = false := by decide +kernel
    have hd' := hd ⟨(y - 32).toNat, by omega⟩
    rw [show (((y - 32).toNat : Nat) : Int) = y - 32 by omega] at hd'
    exact ⟨by unfold lowI; rw [if_pos (by omega)]; omega, hd' (by omega) (by omega), by omega⟩
/-- A whole row in whichever case. -/
def CaseL (ys zs : List Int) : Prop := zs.length = ys.length ∧ ∀ (i : Nat) (y z : Int), ys[i]? = some y → zs[i]? = some z → Case1 y z
theorem caseL_low {ys zs : List Int} (hy : ys.all low1 = true) (h : CaseL ys zs) : zs.map lowI = ys ∧ Inner zs := by
  have key : ∀ (i : Nat) (y z : Int), ys[i]? = some y → zs[i]? = some z → lowI z = y ∧ isB 2 z = false ∧ z ≠ 42 := fun i y z hy' hz' =>
    case_low (List.all_eq_true.1 hy _ (List.mem_of_getElem? hy')) (h.2 i y z hy' hz')
  have hl := h.1
  refine ⟨List.ext_getElem (by simp [hl]) fun i h1 h2 => ?_, fun z hz => ?_⟩
  · rw [List.getElem_map]
    simp only [List.length_map] at h1
    exact (key i _ _ (List.getElem?_eq_getElem h2) (List.getElem?_eq_getElem h1)).1
  · obtain ⟨i, hi, rfl⟩ := List.getElem_of_mem hz
    exact (key i _ _ (List.getElem?_eq_getElem (show i < ys.length by omega)) (List.getElem?_eq_getElem hi)).2
theorem caseL_self (ys : List Int) : CaseL ys ys := ⟨rfl, fun i y z hy hz => .inl (by rw [hy] at hz; exact (Option.some.inj hz).symm)⟩
theorem caseL_set {ys zs : List Int} {k : Nat} {y : Int} (h : CaseL ys zs) (hy : ys[k]? = some y) (h0 : 97 ≤ y) (h1 : y ≤ 122) : CaseL ys (zs.set k (y - 32)) := by
  refine ⟨by simp [h.1], fun i a b ha hb => ?_⟩
  by_cases hik : k = i
  · subst hik
    rw [hy] at ha
    cases ha
    have hk : k < zs.length := by rw [h.1]; exact (List.getElem?_eq_some_iff.1 hy).1
    rw [List.getElem?_set_self hk] at hb
    exact .inr ⟨h0, h1, (Option.some.inj hb).symm⟩
  · rw [List.getElem?_set_ne hik] at hb
    exact h.2 i a b ha hb
theorem names_lowN (k i : Nat) (hk : k < 5) (hi : i < 4) (s : ByteArray) (hs : (nm11 ((k : Int) + 1))[i]? = some s) : (octB s).all low1 = true ∧ octB s ≠ [] ∧ csN s = (k : Int) + 1 ∧ csNE s = 0 ∧ (octB s).length ≤ 20 := by
  have : ∀ k : Fin 5, ∀ i : Fin 4, ((nm11 ((k.val : Int) + 1))[i.val]?.map fun s => (octB s).all low1 && !(octB s).isEmpty && decide (csN s = (k.val : Int) + 1) && decide (csNE s = 0) && decide ((octB s).length ≤ 20)).getD true = true := by decide +kernel
  have h := this ⟨k, hk⟩ ⟨i, hi⟩
  simp only [hs, Option.map_some, Option.getD_some, Bool.and_eq_true, decide_eq_true_eq, Bool.not_eq_true', List.isEmpty_eq_false_iff] at h
  exact ⟨h.1.1.1.1, h.1.1.1.2, h.1.1.2, h.1.2, h.2⟩
theorem names_low {n : Int} {s : ByteArray} (h : s ∈ nm11 n) : (octB s).all low1 = true ∧ octB s ≠ [] ∧ csN s = n ∧ csNE s = 0 ∧ (octB s).length ≤ 20 := by
  obtain ⟨i, hi, rfl⟩ := List.getElem_of_mem h
  have hl := nm_len n
  have hn : 1 ≤ n ∧ n ≤ 5 := by
    refine Classical.byContradiction fun hc => ?_
    have : nm11 n = [] := by unfold nm11; rw [if_neg (by omega), if_neg (by omega), if_neg (by omega), if_neg (by omega), if_neg (by omega)]
    rw [this] at hi
    simp at hi
  have e : (((n - 1).toNat : Nat) : Int) + 1 = n := by omega
  have := names_lowN (n - 1).toNat i (by omega) (by omega) (nm11 n)[i] (by rw [e]; exact List.getElem?_eq_getElem hi)
  rwa [e] at this
end Go.Proofs.Ytffjiidegnblbaa
