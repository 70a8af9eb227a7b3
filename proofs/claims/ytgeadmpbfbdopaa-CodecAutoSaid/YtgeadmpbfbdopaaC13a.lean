/-
  Contracts of package codec's functions: words, and what they stand on.
-/
import Derived.Test.YtgeadmpbfbdopaaRows
import Derived.Test.YtgeadmpbfbdopaaC12
import Derived.Test.YtgeadmpbfbdopaaC05d
import Derived.Test.YtgeadmpbfbdopaaC09b
import Derived.Test.YtgeadmpbfbdopaaC10b
import Derived.Test.YtgeadmpbfbdopaaD13
namespace Go.Proofs.Ytgeadmpbfbdopaa
open Go.RowKit
set_option linter.unusedVariables false

theorem octs_map {n : Int} {f : Int → Int} {xs : List Int} (h : xs.all (hasR n) = true) (hf : ∀ c, hasR n c = true → octR n c = [f c]) : octsR n xs = xs.map f := by
  unfold octsR
  induction xs with
  | nil => rfl
  | cons x xs ih =>
    simp only [List.all_cons, Bool.and_eq_true] at h
    rw [List.flatMap_cons, hf x h.1, ih h.2]; rfl
theorem cs_1 {xs : List Int} (h : xs.all (hasR 1) = true) : csE sg08 xs = 0 ∧ csL sg08 xs = octsR 1 xs := by
  have ha : xs.all (hasI sg08) = true := by
    rw [List.all_eq_true] at h ⊢
    intro c hc
    have := h c hc
    unfold hasR at this
    rw [if_pos rfl] at this
    have := of_decide_eq_true this
    exact (put08 c this.1 (by omega)).2
  unfold csE csL
  rw [if_pos ha, if_pos ha]
  refine ⟨rfl, (octs_map h fun c hc => ?_).symm⟩
  have hh := hc
  unfold hasR at hh
  rw [if_pos rfl] at hh
  have := of_decide_eq_true hh
  unfold octR
  rw [if_pos hc, if_pos rfl, (put08 c this.1 (by omega)).1]
theorem cs_2 {xs : List Int} (h : xs.all (hasR 2) = true) : csE sg08 xs = 0 ∧ csL sg08 xs = octsR 2 xs := by
  have e : hasR 2 = hasI sg08 := rfl
  unfold csE csL
  rw [← e, if_pos h, if_pos h]
  exact ⟨rfl, (octs_map h fun c hc => by unfold octR; rw [if_pos hc, if_neg (by omega), if_pos rfl]).symm⟩
theorem cs_3 {xs : List Int} (h : xs.all (hasR 3) = true) : csE sg09 xs = 0 ∧ csL sg09 xs = octsR 3 xs := by
  have e : hasR 3 = hasI sg09 := rfl
  unfold csE csL
  rw [← e, if_pos h, if_pos h]
  exact ⟨rfl, (octs_map h fun c hc => by unfold octR; rw [if_pos hc, if_neg (by omega), if_neg (by omega), if_pos rfl]).symm⟩
theorem cs_4 {xs : List Int} (h : xs.all (hasR 4) = true) : csE sg10 xs = 0 ∧ csL sg10 xs = octsR 4 xs := by
  have e : hasR 4 = hasI sg10 := rfl
  unfold csE csL
  rw [← e, if_pos h, if_pos h]
  exact ⟨rfl, (octs_map h fun c hc => by unfold octR; rw [if_pos hc, if_neg (by omega), if_neg (by omega), if_neg (by omega), if_pos rfl]).symm⟩
/-- What is read of ASCII, octet by octet, in place. -/
def mixR (xs : List Int) (k : Nat) : List Int := (xs.take k).map (rdR 1) ++ (xs.drop k).map sg08
theorem mix_zero (xs : List Int) : mixR xs 0 = xs.map sg08 := by simp [mixR]
theorem mix_len (xs : List Int) (k : Nat) : (mixR xs k).length = xs.length := by simp [mixR]; omega
theorem mix_all {xs : List Int} {k : Nat} (h : xs.length ≤ k) : mixR xs k = xs.map (rdR 1) := by simp [mixR, List.take_of_length_le h, List.drop_of_length_le h]
theorem mix_parts {xs : List Int} {k : Nat} (hk : k < xs.length) : mixR xs k = (xs.take k).map (rdR 1) ++ sg08 xs[k] :: (xs.drop (k + 1)).map sg08 := by
  unfold mixR; rw [List.drop_eq_getElem_cons hk]; rfl
theorem mix_get {xs : List Int} {k : Nat} (hk : k < xs.length) : (mixR xs k)[k]'(by rw [mix_len]; exact hk) = xs[k] := by
  simp only [mix_parts hk]
  rw [List.getElem_append_right (by simp; omega)]
  simp [show min k xs.length = k by omega]; rfl
theorem mix_next {xs : List Int} {k : Nat} (hk : k < xs.length) : mixR xs (k + 1) = (xs.take k).map (rdR 1) ++ rdR 1 xs[k] :: (xs.drop (k + 1)).map sg08 := by
  unfold mixR
  rw [List.take_succ_eq_append_getElem hk, List.map_append, List.append_assoc]; rfl
theorem mix_set {xs : List Int} {k : Nat} (hk : k < xs.length) (h : 127 < xs[k]) : (mixR xs k).set k 65533 = mixR xs (k + 1) := by
  rw [mix_next hk, mix_parts hk]
  rw [List.set_append_right _ _ (by simp; omega)]
  have e : rdR 1 xs[k] = 65533 := by unfold rdR; rw [if_pos ⟨rfl, h⟩]
  rw [e]
  simp [show min k xs.length = k by omega]
theorem mix_same {xs : List Int} {k : Nat} (hk : k < xs.length) (h : ¬ 127 < xs[k]) : mixR xs k = mixR xs (k + 1) := by
  rw [mix_next hk, mix_parts hk]
  have e : rdR 1 xs[k] = sg08 xs[k] := by unfold rdR sg08; rw [if_neg (fun x => h x.2), if_neg (by omega), if_neg (by omega)]
  rw [e]
/-- Texts of octets are the same just if the octets are. -/
theorem strB_inj {xs ys : List Int} (hx : ∀ x ∈ xs, 0 ≤ x ∧ x ≤ 255) (hy : ∀ y ∈ ys, 0 ≤ y ∧ y ≤ 255) (h : strB xs = strB ys) : xs = ys := by
  have e : (xs.map fun x => UInt8.ofNat x.toNat) = ys.map fun x => UInt8.ofNat x.toNat := by
    have h' : (xs.map fun x => UInt8.ofNat x.toNat).toArray = (ys.map fun x => UInt8.ofNat x.toNat).toArray := congrArg ByteArray.data h
    simpa using h'
  clear h
  induction xs generalizing ys with
  | nil => cases ys with
    | nil => rfl
    | cons y ys => simp at e
  | cons x xs ih => cases ys with
    | nil => simp at e
    | cons y ys =>
      simp only [List.map_cons, List.cons.injEq] at e
      have hx1 := hx x (by simp)
      have hy1 := hy y (by simp)
      have e1 : x = y := by
        have := congrArg UInt8.toNat e.1
        simp at this
        omega
      rw [e1, ih (fun z hz => hx z (by simp [hz])) (fun z hz => hy z (by simp [hz])) e.2]
theorem strB_eq {xs ys : List Int} (hx : ∀ x ∈ xs, 0 ≤ x ∧ x ≤ 255) (hy : ∀ y ∈ ys, 0 ≤ y ∧ y ≤ 255) : ((strB xs).toList == (strB ys).toList) = decide (xs = ys) := by
  by_cases h : xs = ys
  · rw [h]; simp
  · rw [decide_eq_false h, beq_eq_false_iff_ne]
    intro he
    rw [Go.ByteArray.toList_eq, Go.ByteArray.toList_eq] at he
    exact h (strB_inj hx hy (ByteArray.ext (Array.toList_inj.1 he)))

theorem bytes_Equal (a : Option Addr) (len cap : Nat) (xs : List Int) (b : Option Addr) (len' cap' : Nat) (ys : List Int) (w : World) (hr : Reads .u8 w a len cap xs) (hr' : Reads .u8 w b len' cap' ys) :
    Calls Try.prog 36 #[.slice a len cap, .slice b len' cap'] w fun e w' => e = .returned (.bool (decide (xs = ys))) ∧ w = w' := by
  have s1 := hr.string (P := Try.prog) Try.underlying24 Try.underlying5 Try.underlying9
  have s2 := hr'.string (P := Try.prog) Try.underlying24 Try.underlying5 Try.underlying9
  have e := hid (strB_eq (fun x hx => wf_u8 (hr.wf x hx)) (fun x hx => wf_u8 (hr'.wf x hx)))
  clear hr hr'
  go_enter Try.func36, Try.ntmps36
  go_wp2
  go_ret
  exact ⟨ret_bool e.out, rfl⟩
set_option maxHeartbeats 1000000 in
/-- latin's Read, as a row of the call's own. -/
theorem latin_ReadO (a : Option Addr) (len cap : Nat) (xs : List Int) (w : World) (hr : Reads .u8 w a len cap xs) (hN : len < 100000000000) :
    Calls Try.prog 35 #[.slice a len cap] w fun e w' => ∃ g, e = .returned (.slice (some ⟨g, 0, none⟩) len len) ∧ Own .i32 21 w.heap.size w' (.slice (some ⟨g, 0, none⟩) len len) (xs.map sg08) ∧ Below w.heap.size w w' := by
  have HR := hid hr
  have hsz := hr.size
  clear hr
  go_enter Try.func35, Try.ntmps35
  go_wp2_with (at_make; refine wpList_zeros CTR rfl _ _ rfl (w0 := w) rfl rfl (Below.refl _ _) (by omega) (by decide) ?_; intro g w1 hown hbel)
  obtain ⟨w1, rfl⟩ : ∃ x : World, x = w1 := ⟨_, rfl⟩
  go_loopw [10] (fun i wr => ∃ k : Nat, k ≤ len ∧ i = .int .i64 k ∧ Own .i32 21 w.heap.size wr (.slice (some ⟨g, 0, none⟩) len len) (fill sg08 xs k) ∧ Below w.heap.size w wr) (fun i _ => len - (intOf i).toNat)
  case atStart => exact ⟨0, Nat.zero_le _, rfl, by rw [fill_zero, hsz]; exact hown, hbel⟩
  case round =>
    obtain ⟨k, hk, rfl, hown', hbel'⟩ := hrel
    by_cases hlt : k < len
    · obtain ⟨b, off, x, rfl, _, hc, h0, h1, hx⟩ := (HR.out.below hbel').get8 hlt
      obtain ⟨hcell, hfz⟩ := hown'.at (j := k) (by rw [fill_len] <;> omega)
      obtain ⟨ho2, hb2⟩ := hown'.store hbel' k (sg08_wf x h0 h1)
      rw [fill_set sg08 (by omega) hx.out.2] at ho2
      have HO := hid ho2
      have HB := hid hb2
      clear ho2 hb2 hown' hbel'
      go_wp2_with (go_at_call 59; (with_reducible refine (latin_Sign _ _ h0 h1).mono ?_); rintro e w' ⟨rfl, rfl⟩)
      go_roundw
      case rel => exact ⟨k + 1, by omega, by go_num, HO.out, HB.out⟩
      case measure => simp [intOf]; omega
    · go_wp2
      go_ret
      rw [fill_all sg08 xs k (by omega)] at hown'
      exact ⟨g, rfl, hown', hbel'⟩
end Go.Proofs.Ytgeadmpbfbdopaa
