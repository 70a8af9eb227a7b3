/-
  Contracts of the document's own functions of layer 5 (those that the translation has).
-/
import Derived.Test.YtgeadmpbfbdopaaR04b
import Derived.Test.YtgeadmpbfbdopaaD05
namespace Go.Proofs.Ytgeadmpbfbdopaa
open Go.RowKit
set_option linter.unusedVariables false

theorem idx_not_neg {xs : List Int} (h : xs.all scB = true) : idxI (fun c => !scB c) xs < 0 := by
  have := idx_neg (fun c => !scB c) xs
  simp only [Bool.not_not] at this
  rw [h] at this; simpa using this
theorem idx_not_pos {xs : List Int} (h : xs.all scB = false) : 0 ≤ idxI (fun c => !scB c) xs := by
  have := idx_neg (fun c => !scB c) xs
  simp only [Bool.not_not] at this
  rw [h] at this; simpa using this

set_option maxHeartbeats 2000000 in
theorem ref05_Read (a : Option Addr) (len cap : Nat) (xs : List Int) (w : World) (hr : Reads .u8 w a len cap xs) (hN : len < 100000000) :
    Calls Try.prog 28 #[.slice a len cap] w fun e w' => ∃ a' cap', e = .returned (.tuple #[.slice a' (sigs xs).length cap', .int .i64 (brkP (sigs xs)), .int .i64 (errP (sigs xs))]) ∧ Reads .i32 w' a' (sigs xs).length cap' (txt xs) ∧ Below w.heap.size w w' := by
  have hl := hr.len_le
  have hsz := hr.size
  have HB := hid (fun x hx => wf_u8 (hr.wf x hx))
  have HR := hid hr
  clear hr
  go_enter Try.func28, Try.ntmps28
  go_wp2
  go_loopw [5, 6, 7, 8] (fun v br er i wr => ∃ (k : Nat) (pre : List (Int × Int)), k ≤ len ∧ pre.length ≤ k ∧ i = .int .i64 k ∧ br = .int .i64 (brkP pre) ∧ er = .int .i64 (errP pre) ∧ Hid (pre ++ sigs (xs.drop k) = sigs xs) ∧ Own .i32 21 w.heap.size wr v (pre.map Prod.fst) ∧ Below w.heap.size w wr) (fun _ _ _ i _ => len - (intOf i).toNat)
  case atStart => exact ⟨0, [], Nat.zero_le _, Nat.le_refl _, rfl, rfl, rfl, rfl, Own.nil _ _ _ _, Below.refl _ _⟩
  case round =>
    obtain ⟨k, pre, hk, hpk, rfl, rfl, rfl, hps, hown, hbel⟩ := hrel
    by_cases hlt : k < len
    · have hrd := (HR.out.below hbel).piece (Nat.le_of_lt hlt) (Nat.le_refl len)
      have hroom := HR.out.room
      rw [List.take_of_length_le (by omega), if_neg (by omega)] at hrd
      have hne : xs.drop k ≠ [] := by intro h; have := congrArg List.length h; simp at this; omega
      have hT := ref04_Take _ _ _ _ _ hrd
      have hsg := sigs_cons hne
      have hp0 := takN_pos hne
      have hp1 := takN_le (xs.drop k)
      simp only [List.length_drop] at hp1
      have hnext : Hid (pre ++ [sign1 (xs.drop k)] ++ sigs (xs.drop (k + takN (xs.drop k))) = sigs xs) := by
        rw [Hid, ← hps.out, hsg, List.drop_drop, List.append_assoc]; rfl
      have hsn := brkP_snoc pre (sign1 (xs.drop k))
      have hen := errP_snoc pre (sign1 (xs.drop k))
      have hb1 := brkP_le pre
      have hwf1 : (Lit.int .i32 (sign1 (xs.drop k)).1).wf = true := by
        have := (scB_iff _).1 (sign_sc (bd_drop k HB.out)); exact mk_r (by omega) (by omega)
      have he2 : (sign1 (xs.drop k)).2 = takE (xs.drop k) := rfl
      rw [he2] at hsn hen
      have happ : Hid (pre.map Prod.fst ++ [(sign1 (xs.drop k)).1] = (pre ++ [sign1 (xs.drop k)]).map Prod.fst) := by rw [Hid]; simp
      clear hsg hne hps hrd he2
      cases he : takE (xs.drop k) == 0
      · have he' : takE (xs.drop k) ≠ 0 := by simpa using he
        have hs1 : (sign1 (xs.drop k)).1 = 65533 := by simp only [sign1]; rw [if_neg he']
        rw [hs1] at hwf1 happ
        rw [if_neg he'] at hsn
        have HSN := hid hsn
        cases h0 : errP pre == 0
        · have hen' : Hid (errP (pre ++ [sign1 (xs.drop k)]) = errP pre) := by rw [Hid, hen, if_neg (by simpa using h0)]
          clear hsn hen he' hs1
          go_wp2_with (first
            | (go_at_call 55; (with_reducible refine hT.mono ?_); rintro e w2 ⟨rfl, hbl2⟩; have ho2 := hown.below hbl2; have hbel2 := below_then hbel hbl2)
            | (at_builtin; go_must (refine wpList_push STR rfl _ _ rfl rfl ⟨_, rfl⟩ ho2 hbel2 (by simp; omega) hwf1 ?_); intro v3 w3 ho3 hb3))
          rw [happ.out] at ho3
          go_roundw
          case rel => exact ⟨k + takN (xs.drop k), _, by omega, by simp; omega, by go_num, by rw [HSN.out]; push_cast; rfl, by rw [hen'.out], hnext.out, ho3, hb3⟩
          case measure => simp [intOf]; omega
        · have hen' : Hid (errP (pre ++ [sign1 (xs.drop k)]) = takE (xs.drop k)) := by rw [Hid, hen, if_pos (by simpa using h0)]
          clear hsn hen he' hs1
          go_wp2_with (first
            | (go_at_call 55; (with_reducible refine hT.mono ?_); rintro e w2 ⟨rfl, hbl2⟩; have ho2 := hown.below hbl2; have hbel2 := below_then hbel hbl2)
            | (at_builtin; go_must (refine wpList_push STR rfl _ _ rfl rfl ⟨_, rfl⟩ ho2 hbel2 (by simp; omega) hwf1 ?_); intro v3 w3 ho3 hb3))
          rw [happ.out] at ho3
          go_roundw
          case rel => exact ⟨k + takN (xs.drop k), _, by omega, by simp; omega, by go_num, by rw [HSN.out]; push_cast; rfl, by rw [hen'.out], hnext.out, ho3, hb3⟩
          case measure => simp [intOf]; omega
      · have he' : takE (xs.drop k) = 0 := by simpa using he
        have hs1 : (sign1 (xs.drop k)).1 = takC (xs.drop k) := by simp only [sign1]; rw [if_pos he']
        rw [hs1] at hwf1 happ
        rw [if_pos he'] at hsn
        have hen' : Hid (errP (pre ++ [sign1 (xs.drop k)]) = errP pre) := by rw [Hid, hen, he']; split <;> simp_all
        have HSN := hid hsn
        clear hsn hen he' hs1
        go_wp2_with (first
          | (go_at_call 55; (with_reducible refine hT.mono ?_); rintro e w2 ⟨rfl, hbl2⟩; have ho2 := hown.below hbl2; have hbel2 := below_then hbel hbl2)
          | (at_builtin; go_must (refine wpList_push STR rfl _ _ rfl rfl ⟨_, rfl⟩ ho2 hbel2 (by simp; omega) hwf1 ?_); intro v3 w3 ho3 hb3))
        rw [happ.out] at ho3
        go_roundw
        case rel => exact ⟨k + takN (xs.drop k), _, by omega, by simp; omega, by go_num, by rw [HSN.out]; simp, by rw [hen'.out], hnext.out, ho3, hb3⟩
        case measure => simp [intOf]; omega
    · go_wp2_with fail
      obtain rfl : k = len := by omega
      have hend : pre = sigs xs := by
        have := hps.out
        rw [List.drop_of_length_le (by omega), sigs_nil, List.append_nil] at this
        exact this
      subst hend
      obtain ⟨a', cap', rfl, hrd⟩ := hown.reads
      simp only [List.length_map] at hrd ⊢
      go_ret3
      exact ⟨a', cap', rfl, hrd, hbel⟩

end Go.Proofs.Ytgeadmpbfbdopaa
