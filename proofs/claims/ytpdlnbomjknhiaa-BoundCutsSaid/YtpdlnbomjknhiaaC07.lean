/-
  Contracts of package bound's functions: the places; is a number one; the n-th.
-/
import Derived.Test.YtpdlnbomjknhiaaC04b
import Derived.Test.YtpdlnbomjknhiaaR07
namespace Go.Proofs.Ytpdlnbomjknhiaa
open Go.RowKit
set_option linter.unusedVariables false

set_option maxHeartbeats 2000000 in
theorem bound_Places (a : Option Addr) (len cap : Nat) (xs : List Int) (w : World) (hr : Reads .u8 w a len cap xs) (hN : len < 100000000) :
    Calls Try.prog 8 #[.slice a len cap] w fun e w' => ∃ g cap', e = .returned (.slice (some ⟨g, 0, none⟩) ((segs xs).length + 1) cap') ∧ Own .i64 3 w.heap.size w' (.slice (some ⟨g, 0, none⟩) ((segs xs).length + 1) cap') (plc xs) ∧ Below w.heap.size w w' := by
  have hl := hr.len_le
  have hsz := hr.size
  have HR := hid hr
  clear hr
  go_enter Try.func8, Try.ntmps8
  go_wp2
  go_loopw [3, 4] (fun v i wr => ∃ (k : Nat) (pre : List (List Int)), k ≤ len ∧ i = .int .i64 k ∧ pre.length ≤ k ∧ Hid (pre.flatten.length = k) ∧ Hid (pre ++ segs (xs.drop k) = segs xs) ∧ Own .i64 3 w.heap.size wr v (0 :: endsF 0 pre) ∧ Below w.heap.size w wr) (fun _ i _ => len - (intOf i).toNat)
  case atStart => exact ⟨0, [], Nat.zero_le _, rfl, Nat.le_refl _, rfl, rfl, Own.lit .i64 3 w [0] (by simp [maxLen]) (by decide), (Below.refl _ _).alloc (Nat.le_refl _) _⟩
  case round =>
    obtain ⟨k, pre, hk, rfl, hpl, hfl, hps, hown, hbel⟩ := hrel
    by_cases hlt : k < len
    · have hrd := (HR.out.below hbel).piece (Nat.le_of_lt hlt) (Nat.le_refl len)
      have hroom := HR.out.room
      rw [List.take_of_length_le (by omega), if_neg (by omega)] at hrd
      have hne : xs.drop k ≠ [] := by intro h; have := congrArg List.length h; simp at this; omega
      have hT := utfone_Take _ _ _ _ _ hrd
      have hsg := segs_cons hne
      have hp0 := takN_pos hne
      have hp1 := takN_le (xs.drop k)
      simp only [List.length_drop] at hp1
      have hnext : Hid ((pre ++ [(xs.drop k).take (takN (xs.drop k))]) ++ segs (xs.drop (k + takN (xs.drop k))) = segs xs) := by
        rw [Hid, ← hps.out, hsg, List.drop_drop, List.append_assoc]; rfl
      have hsl : ((xs.drop k).take (takN (xs.drop k))).length = takN (xs.drop k) := by simp; omega
      have hf2 : Hid ((pre ++ [(xs.drop k).take (takN (xs.drop k))]).flatten.length = k + takN (xs.drop k)) := by
        rw [Hid, List.flatten_append, List.length_append, hfl.out]; simp; omega
      have hen : Hid (0 :: endsF 0 pre ++ [(k : Int) + (takN (xs.drop k) : Int)] = 0 :: endsF 0 (pre ++ [(xs.drop k).take (takN (xs.drop k))])) := by
        rw [Hid, ends_snoc, hfl.out, hsl, Nat.zero_add]; push_cast; rfl
      have hel : (0 :: endsF 0 pre).length < 1000000000000 := by rw [List.length_cons, ends_len]; omega
      have hwf : (Lit.int .i64 ((k + takN (xs.drop k) : Nat) : Int)).wf = true := WalkArith.wf_i64 (by omega)
      clear hsg hne hps hrd hsl
      go_wp2_with (first
        | (go_at_call 23; (with_reducible refine hT.mono ?_); rintro e w2 ⟨rfl, n2, rfl⟩; have ho2 := hown.below (Below.drewN (Below.refl _ _) n2); have hbel2 := Below.drewN hbel n2)
        | (at_builtin; go_must (refine wpList_push STI rfl _ _ rfl rfl ⟨_, rfl⟩ ho2 hbel2 hel hwf ?_); intro v3 w3 ho3 hb3))
      rw [hen.out] at ho3
      clear hwf hel
      go_roundw
      case rel => exact ⟨k + takN (xs.drop k), _, by omega, by push_cast; rfl, by simp; omega, hf2.out, hnext.out, ho3, hb3⟩
      case measure => simp [intOf]; omega
    · go_wp2_with fail
      obtain rfl : k = len := by omega
      have hend : pre = segs xs := by
        have := hps.out
        rw [List.drop_of_length_le (by omega), segs_nil, List.append_nil] at this
        exact this
      subst hend
      obtain ⟨g', cap', rfl, _, _⟩ := hown.1.form (by simp)
      have hn : (0 :: endsF 0 (segs xs)).length = (segs xs).length + 1 := by rw [List.length_cons, ends_len]
      go_ret
      exact ⟨g', cap', by first | rfl | (rw [hn]; rfl), by first | exact hown | (rw [← hn]; exact hown), hbel⟩
set_option maxHeartbeats 1000000 in
theorem bound_Nth (a : Option Addr) (len cap : Nat) (xs : List Int) (n : Int) (w : World) (hr : Reads .u8 w a len cap xs) (hN : len < 100000000) (hw : (Lit.int .i64 n).wf = true) :
    Calls Try.prog 15 #[.slice a len cap, .int .i64 n] w fun e w' => e = .returned (.int .i64 (nthP (plc xs) n)) ∧ Below w.heap.size w w' := by
  obtain ⟨M, hM⟩ : ∃ M, (segs xs).length = M := ⟨_, rfl⟩
  have hMl : M ≤ len := by have := segs_le xs; have := hr.size; omega
  have hP : Calls Try.prog 8 #[.slice a len cap] w fun e w' => ∃ a' cap', e = .returned (.slice a' (M + 1) cap') ∧ Reads .i64 w' a' (M + 1) cap' (plc xs) ∧ Below w.heap.size w w' := by
    refine (bound_Places _ _ _ _ _ hr hN).mono ?_
    rintro e w' ⟨g, c', rfl, ho, hb⟩
    obtain ⟨a', cap', hv, hrd⟩ := ho.reads
    rw [plc_len] at hv hrd
    rw [hM] at hv hrd ⊢
    exact ⟨a', cap', by rw [← hv], hrd, hb⟩
  have HM : Hid ((plc xs).length = M + 1) := by rw [Hid, plc_len, hM]
  have hw' := wf_i64 hw
  clear hr hM hw
  rcases Int.lt_or_le n 0 with h0 | h0
  · go_enter Try.func15, Try.ntmps15
    go_wp2_with (go_at_call 8; (with_reducible refine hP.mono ?_); rintro e w1 ⟨a1, c1, rfl, hr1, hb1⟩; obtain ⟨b, off, x, rfl, _, hc, hx⟩ := hr1.getI (i := 0) (by omega); simp only [Nat.add_zero] at hc)
    go_ret
    exact ⟨ret_int (nth_at (by rw [HM.out]; omega) hx.out.1).symm, hb1⟩
  · obtain ⟨n, rfl⟩ := Int.eq_ofNat_of_zero_le h0
    by_cases h1 : n ≤ M
    · go_enter Try.func15, Try.ntmps15
      go_wp2_with (go_at_call 8; (with_reducible refine hP.mono ?_); rintro e w1 ⟨a1, c1, rfl, hr1, hb1⟩; obtain ⟨b, off, x, rfl, _, hc, hx⟩ := hr1.getI (i := n) (by omega))
      go_ret
      exact ⟨ret_int (nth_at (by rw [HM.out]; omega) hx.out.1).symm, hb1⟩
    · have h1' : M < n := by omega
      clear h1
      go_enter Try.func15, Try.ntmps15
      go_wp2_with (go_at_call 8; (with_reducible refine hP.mono ?_); rintro e w1 ⟨a1, c1, rfl, hr1, hb1⟩; obtain ⟨b, off, x, rfl, _, hc, hx⟩ := hr1.getI (i := M) (by omega))
      go_ret
      exact ⟨ret_int (nth_at (by rw [HM.out]; omega) hx.out.1).symm, hb1⟩
theorem cmp_isNaN (x : Int) (w : World) : Calls Try.prog 41 #[.int .i64 x] w fun e w' => e = .returned (.bool false) ∧ w = w' := by
  go_enter Try.func41, Try.ntmps41
  go_wp2
  go_ret
  exact ⟨by simp, rfl⟩
theorem sl_isNaN (x : Int) (w : World) : Calls Try.prog 33 #[.int .i64 x] w fun e w' => e = .returned (.bool false) ∧ w = w' := by
  go_enter Try.func33, Try.ntmps33
  go_wp2
  go_ret
  exact ⟨by simp, rfl⟩
theorem cmp_Less (x y : Int) (w : World) : Calls Try.prog 32 #[.int .i64 x, .int .i64 y] w fun e w' => e = .returned (.bool (decide (x < y))) ∧ w = w' := by
  go_enter Try.func32, Try.ntmps32
  go_wp2_with (go_at_call 41; (with_reducible refine (cmp_isNaN _ _).mono ?_); rintro e w' ⟨rfl, rfl⟩)
  go_ret
  exact ⟨by simp, rfl⟩
/-- A list that rises. -/
def Rise (zs : List Int) : Prop := ∀ (i j : Nat) (x y : Int), i < j → zs[i]? = some x → zs[j]? = some y → x < y
set_option maxHeartbeats 2000000 in
theorem sl_BinarySearch (a : Option Addr) (len cap : Nat) (zs : List Int) (t : Int) (w : World) (hr : Reads .i64 w a len cap zs) (hN : len < 1000000000000) (hs : Rise zs) :
    Calls Try.prog 25 #[.slice a len cap, .int .i64 t] w fun e w' => (∃ i : Int, e = .returned (.tuple #[.int .i64 i, .bool (decide (t ∈ zs))])) ∧ w = w' := by
  have hl := hr.len_le
  have hsz := hr.size
  have HS := hid hs
  have HR := hid hr
  clear hr hs
  go_enter Try.func25, Try.ntmps25
  go_wp2
  go_loop [7, 8] (fun l r => ∃ i j : Nat, i ≤ j ∧ j ≤ len ∧ l = .int .i64 i ∧ r = .int .i64 j ∧ Hid (∀ (k : Nat) x, zs[k]? = some x → (k < i → x < t) ∧ (j ≤ k → t ≤ x))) (fun l r => ((intOf r) - (intOf l)).toNat)
  case atStart => exact ⟨0, len, Nat.zero_le _, Nat.le_refl _, rfl, rfl, fun k x hx => ⟨fun h => absurd h (by omega), fun h => by rw [List.getElem?_eq_none (by omega)] at hx; cases hx⟩⟩
  case round =>
    obtain ⟨i, j, hij, hj, rfl, rfl, hb⟩ := hrel
    by_cases hlt : i < j
    · obtain ⟨h, hh⟩ : ∃ h, (i + j) / 2 = h := ⟨_, rfl⟩
      have hhi : i ≤ h ∧ h < j := by omega
      obtain ⟨b, off, x, rfl, _, hc, hx⟩ := HR.out.getI (i := h) (by omega)
      have hdiv : ((i : Int) + j) / 2 = (h : Int) := by omega
      have HH := hid hh
      clear hh
      by_cases hxt : x < t
      · have HX := hid hxt
        go_wp2_with (go_at_call 32; (with_reducible refine (cmp_Less _ _ _).mono ?_); rintro e w' ⟨rfl, rfl⟩)
        go_round
        case rel =>
          refine ⟨h + 1, j, by omega, hj, by go_num, rfl, fun k y hy => ⟨fun hk => ?_, (hb.out k y hy).2⟩⟩
          rcases Nat.lt_or_ge k h with hkh | hkh
          · have := HS.out k h y x hkh hy hx.out.1
            have := HX.out
            omega
          · obtain rfl : k = h := by omega
            have := hx.out.1
            rw [hy] at this
            cases this
            exact HX.out
        case measure => simp [intOf]; omega
      · have HX := hid hxt
        go_wp2_with (go_at_call 32; (with_reducible refine (cmp_Less _ _ _).mono ?_); rintro e w' ⟨rfl, rfl⟩)
        go_round
        case rel =>
          refine ⟨i, h, by omega, by omega, rfl, by go_num, fun k y hy => ⟨(hb.out k y hy).1, fun hk => ?_⟩⟩
          rcases Nat.lt_or_ge h k with hkh | hkh
          · have := HS.out h k x y hkh hx.out.1 hy
            have := HX.out
            omega
          · obtain rfl : k = h := by omega
            have := hx.out.1
            rw [hy] at this
            cases this
            have := HX.out
            omega
        case measure => simp [intOf]; omega
    · obtain rfl : i = j := by omega
      by_cases hi : i < len
      · obtain ⟨b, off, x, rfl, _, hc, hx⟩ := HR.out.getI (i := i) hi
        by_cases hxt : x = t
        · have hm : decide (t ∈ zs) = true := decide_eq_true (by rw [← hxt]; exact List.mem_of_getElem? hx.out.1)
          have HM := hid hm
          have hxt' : (x == t) = true := by simp [hxt]
          clear hxt hm
          go_wp2_with (go_at_call 33; (with_reducible refine (sl_isNaN _ _).mono ?_); rintro e w' ⟨rfl, rfl⟩)
          go_ret2
          exact ⟨⟨_, by rw [HM.out]; rfl⟩, rfl⟩
        · have hm : decide (t ∈ zs) = false := by
            rw [decide_eq_false_iff_not]
            intro hmem
            obtain ⟨k, hk⟩ := List.getElem?_of_mem hmem
            have h1 := (hb.out i x hx.out.1).2 (Nat.le_refl _)
            rcases Nat.lt_trichotomy k i with h | h | h
            · have := (hb.out k t hk).1 h; omega
            · subst h; rw [hx.out.1] at hk; cases hk; exact hxt rfl
            · have := HS.out i k x t h hx.out.1 hk; omega
          have HM := hid hm
          have hxt' : (x == t) = false := by simp [hxt]
          clear hxt hm
          go_wp2_with (go_at_call 33; (with_reducible refine (sl_isNaN _ _).mono ?_); rintro e w' ⟨rfl, rfl⟩)
          go_ret2
          exact ⟨⟨_, by rw [HM.out]; rfl⟩, rfl⟩
      · have hm : decide (t ∈ zs) = false := by
          rw [decide_eq_false_iff_not]
          intro hmem
          obtain ⟨k, hk⟩ := List.getElem?_of_mem hmem
          have hl := (List.getElem?_eq_some_iff.1 hk).1
          have := (hb.out k t hk).1 (by omega); omega
        have HM := hid hm
        clear hm
        go_wp2_with (go_at_call 33; (with_reducible refine (sl_isNaN _ _).mono ?_); rintro e w' ⟨rfl, rfl⟩)
        go_ret2
        exact ⟨⟨_, by rw [HM.out]; rfl⟩, rfl⟩
theorem plc_rise (xs : List Int) : Rise (plc xs) := fun i j x y h hx hy => plc_up xs h hx hy
theorem bound_At (a : Option Addr) (len cap : Nat) (xs : List Int) (n : Int) (w : World) (hr : Reads .u8 w a len cap xs) (hN : len < 100000000) (hw : (Lit.int .i64 n).wf = true) :
    Calls Try.prog 10 #[.slice a len cap, .int .i64 n] w fun e w' => e = .returned (.bool (decide (n ∈ plc xs))) ∧ Below w.heap.size w w' := by
  have hP : Calls Try.prog 8 #[.slice a len cap] w fun e w' => ∃ a' m cap', e = .returned (.slice a' m cap') ∧ Reads .i64 w' a' m cap' (plc xs) ∧ m < 1000000000000 ∧ Below w.heap.size w w' := by
    refine (bound_Places _ _ _ _ _ hr hN).mono ?_
    rintro e w' ⟨g, c', rfl, ho, hb⟩
    obtain ⟨a', cap', hv, hrd⟩ := ho.reads
    have hm := plc_many hr hrd
    rw [plc_len] at hv hrd hm
    exact ⟨a', _, cap', by rw [← hv], hrd, by omega, hb⟩
  clear hr hw
  go_enter Try.func10, Try.ntmps10
  go_wp2_with (first
    | (go_at_call 8; (with_reducible refine hP.mono ?_); rintro e w1 ⟨a1, m, c1, rfl, hr1, hm1, hb1⟩)
    | (go_at_call 25; (with_reducible refine (sl_BinarySearch _ _ _ _ _ _ hr1 hm1 (plc_rise _)).mono ?_); rintro e w' ⟨⟨i, rfl⟩, rfl⟩))
  go_ret
  exact ⟨rfl, hb1⟩

end Go.Proofs.Ytpdlnbomjknhiaa
