/-
  Contracts of the document's own functions of layer 7 (those that the translation has): places.
-/
import Derived.Test.YtpdlnbomjknhiaaR04b
import Derived.Test.YtpdlnbomjknhiaaD07
namespace Go.Proofs.Ytpdlnbomjknhiaa
open Go.RowKit
set_option linter.unusedVariables false

theorem STI : SliceT Try.prog 24 3 .i64 8 := ⟨Try.underlying24, by kernel_rfl, by decide⟩

theorem Own.lit (k : IntKind) (e : TypeId) (w : World) (xs : List Int) (hm : xs.length ≤ maxLen) (hwf : ∀ x ∈ xs, (Lit.int k x).wf = true) :
    Own k e w.heap.size (w.alloc (.cells (xs.map (Value.int k)).toArray e)) (.slice (some ⟨w.heap.size, 0, none⟩) xs.length xs.length) xs := by
  refine ⟨?_, hwf⟩
  have := World.ownsRow_lit (size := 1) (e := e) (base := w.heap.size) w (xs.map (Value.int k)).toArray xs.length (Nat.le_refl _) hm (by simp)
  simpa using this
theorem Reads.getI {w : World} {a : Option Addr} {len cap : Nat} {xs : List Int} (h : Reads .i64 w a len cap xs) {i : Nat} (hi : i < len) :
    ∃ b off x, a = some ⟨b, off, none⟩ ∧ b < w.heap.size ∧ w.cell? ⟨b, off + i, none⟩ = some (.int .i64 x) ∧ Hid (xs[i]? = some x ∧ xs.take (i + 1) = xs.take i ++ [x] ∧ (Lit.int .i64 x).wf = true) := by
  obtain ⟨b, off, x, ha, hb, hc, hx⟩ := h.get hi
  exact ⟨b, off, x, ha, hb, hc, hx⟩
/-- How many places there are. -/
theorem plc_many {w : World} {a : Option Addr} {len cap : Nat} {xs : List Int} {k : IntKind} (hr : Reads k w a len cap xs) {m c : Nat} {a' : Option Addr} {w' : World} (h : Reads .i64 w' a' m c (plc xs)) : 0 < m ∧ m ≤ len + 1 := by
  have h1 := h.size
  have h2 := hr.size
  have h3 := segs_le xs
  rw [plc_len] at h1
  omega

theorem nth_at {zs : List Int} {n x : Int} {q : Nat} (h : (min (max n 0) ((zs.length : Int) - 1)).toNat = q) (hx : zs[q]? = some x) : nthP zs n = x := by
  unfold nthP; rw [h, List.getD_eq_getElem?_getD, hx]; rfl
set_option maxHeartbeats 2000000 in
theorem ref07_Places (a : Option Addr) (len cap : Nat) (xs : List Int) (w : World) (hr : Reads .u8 w a len cap xs) (hN : len < 100000000) :
    Calls Try.prog 9 #[.slice a len cap] w fun e w' => ∃ a' m cap', e = .returned (.slice a' m cap') ∧ Reads .i64 w' a' m cap' (plc xs) ∧ Below w.heap.size w w' := by
  have hl := hr.len_le
  have hsz := hr.size
  have HR := hid hr
  clear hr
  go_enter Try.func9, Try.ntmps9
  go_wp2
  go_loopw [3, 4] (fun v i wr => ∃ (k : Nat) (pre : List (List Int)), k ≤ len ∧ i = .int .i64 k ∧ pre.length ≤ k ∧ Hid (pre.flatten.length = k) ∧ Hid (pre ++ segs (xs.drop k) = segs xs) ∧ Own .i64 3 w.heap.size wr v (0 :: endsF 0 pre) ∧ Below w.heap.size w wr) (fun _ i _ => len - (intOf i).toNat)
  case atStart => exact ⟨0, [], Nat.zero_le _, rfl, Nat.le_refl _, rfl, rfl, Own.lit .i64 3 w [0] (by simp [maxLen]) (by decide), (Below.refl _ _).alloc (Nat.le_refl _) _⟩
  case round =>
    obtain ⟨k, pre, hk, rfl, hpl, hfl, hps, hown, hbel⟩ := hrel
    by_cases hlt : k < len
    · have hrd := (HR.out.below hbel).piece (Nat.le_of_lt hlt) (Nat.le_refl len)
      have hroom := HR.out.room
      rw [List.take_of_length_le (by omega), if_neg (by omega)] at hrd
      have hne : xs.drop k ≠ [] := by intro h; have := congrArg List.length h; simp at this; omega
      have hT := ref04_Take _ _ _ _ _ hrd
      have hsg := segs_cons hne
      have hp0 := takN_pos hne
      have hp1 := takN_le (xs.drop k)
      simp only [List.length_drop] at hp1
      have hnext : Hid ((pre ++ [(xs.drop k).take (takN (xs.drop k))]) ++ segs (xs.drop (k + takN (xs.drop k))) = segs xs) := by
        rw [Hid, ← hps.out, hsg, List.drop_drop, List.append_assoc]; rfl
      have hsl : ((xs.drop k).take (takN (xs.drop k))).length = takN (xs.drop k) := by simp; omega
      have hf2 : Hid ((pre ++ [(xs.drop k).take (takN (xs.drop k))]).flatten.length = k + takN (xs.drop k)) := by
        rw [Hid, List.flatten_append, List.length_append, hfl.out]; simp; omega
      have hen : Hid (0 :: endsF 0 pre ++ [(k : Int) + (takN (xs.drop k) : Int)] = 0 :: endsF 0 (pre ++ [(xs.drop k).take (takN (xs.drop k))])) := by
        rw [Hid, ends_snoc, hfl.out, hsl, Nat.zero_add]; push_cast; rfl
      have hel : (0 :: endsF 0 pre).length < 1000000000000 := by rw [List.length_cons, ends_len]; omega
      have hwf : (Lit.int .i64 ((k + takN (xs.drop k) : Nat) : Int)).wf = true := WalkArith.wf_i64 (by omega)
      clear hsg hne hps hrd hsl
      go_wp2_with (first
        | (go_at_call 24; (with_reducible refine hT.mono ?_); rintro e w2 ⟨rfl, hbl2⟩; have ho2 := hown.below hbl2; have hbel2 := below_then hbel hbl2)
        | (at_builtin; go_must (refine wpList_push STI rfl _ _ rfl rfl ⟨_, rfl⟩ ho2 hbel2 hel hwf ?_); intro v3 w3 ho3 hb3))
      rw [hen.out] at ho3
      clear hwf hel
      go_roundw
      case rel => exact ⟨k + takN (xs.drop k), _, by omega, by push_cast; rfl, by simp; omega, hf2.out, hnext.out, ho3, hb3⟩
      case measure => simp [intOf]; omega
    · go_wp2_with fail
      obtain rfl : k = len := by omega
      have hend : pre = segs xs := by
        have := hps.out
        rw [List.drop_of_length_le (by omega), segs_nil, List.append_nil] at this
        exact this
      subst hend
      obtain ⟨a', cap', rfl, hrd⟩ := hown.reads
      go_ret
      exact ⟨a', _, cap', rfl, hrd, hbel⟩
set_option maxHeartbeats 1000000 in
theorem ref07_Next (a : Option Addr) (len cap : Nat) (xs : List Int) (n : Int) (w : World) (hr : Reads .u8 w a len cap xs) (hN : len < 100000000) (hw : (Lit.int .i64 n).wf = true) :
    Calls Try.prog 12 #[.slice a len cap, .int .i64 n] w fun e w' => e = .returned (.int .i64 (nxtP (plc xs) n len)) ∧ Below w.heap.size w w' := by
  have hP := ref07_Places _ _ _ _ _ hr hN
  have hM := hid (fun m c a' w' => plc_many (m := m) (c := c) (a' := a') (w' := w') hr)
  clear hr hw
  go_enter Try.func12, Try.ntmps12
  go_wp2_with (go_at_call 9; (with_reducible refine hP.mono ?_); rintro e w1 ⟨a1, m, c1, rfl, hr1, hb1⟩)
  obtain ⟨hm0, hm1⟩ := hM.out _ _ _ _ hr1
  have HR := hid hr1
  clear hr1 hM
  go_loop [6] (fun i => ∃ k : Nat, k ≤ m ∧ i = .int .i64 k ∧ Hid (((plc xs).take k).find? (fun x => decide (n < x)) = none)) (fun i => m - (intOf i).toNat)
  case atStart => exact ⟨0, Nat.zero_le _, rfl, rfl⟩
  case round =>
    obtain ⟨k, hk, rfl, hn⟩ := hrel
    by_cases hlt : k < m
    · obtain ⟨b, off, x, rfl, _, hc, hx⟩ := HR.out.getI hlt
      by_cases hs : n < x
      · go_wp2_with fail
        go_ret
        exact ⟨ret_int (by unfold nxtP; rw [find_stop hx.out.1 hn.out (decide_eq_true hs)]; rfl), hb1⟩
      · have HS := hid hs
        go_wp2_with fail
        go_round
        case rel => exact ⟨k + 1, by omega, by go_num, find_on hx.out.2.1 hn.out (decide_eq_false HS.out)⟩
        case measure => simp [intOf]; omega
    · go_wp2_with fail
      go_ret
      exact ⟨ret_int (by have := hn.out; rw [HR.out.all (by omega)] at this; unfold nxtP; rw [this]; rfl), hb1⟩
set_option maxHeartbeats 1000000 in
theorem ref07_Back (a : Option Addr) (len cap : Nat) (xs : List Int) (n : Int) (w : World) (hr : Reads .u8 w a len cap xs) (hN : len < 100000000) (hw : (Lit.int .i64 n).wf = true) :
    Calls Try.prog 14 #[.slice a len cap, .int .i64 n] w fun e w' => e = .returned (.int .i64 (bckP (plc xs) n)) ∧ Below w.heap.size w w' := by
  have hP := ref07_Places _ _ _ _ _ hr hN
  have hM := hid (fun m c a' w' => plc_many (m := m) (c := c) (a' := a') (w' := w') hr)
  clear hr hw
  go_enter Try.func14, Try.ntmps14
  go_wp2_with (go_at_call 9; (with_reducible refine hP.mono ?_); rintro e w1 ⟨a1, m, c1, rfl, hr1, hb1⟩)
  obtain ⟨hm0, hm1⟩ := hM.out _ _ _ _ hr1
  have HR := hid hr1
  clear hr1 hM
  go_loop [6, 7] (fun o i => ∃ k : Nat, k ≤ m ∧ i = .int .i64 k ∧ o = .int .i64 ((lastF (fun x => decide (x < n)) ((plc xs).take k)).getD 0)) (fun _ i => m - (intOf i).toNat)
  case atStart => exact ⟨0, Nat.zero_le _, rfl, rfl⟩
  case round =>
    obtain ⟨k, hk, rfl, rfl⟩ := hrel
    by_cases hlt : k < m
    · obtain ⟨b, off, x, rfl, _, hc, hx⟩ := HR.out.getI hlt
      by_cases hs : x < n
      · have HS := hid hs
        go_wp2_with fail
        go_round
        case rel => exact ⟨k + 1, by omega, by go_num, by rw [last_yes hx.out.2.1 (decide_eq_true HS.out)]; rfl⟩
        case measure => simp [intOf]; omega
      · have HS := hid hs
        go_wp2_with fail
        go_round
        case rel => exact ⟨k + 1, by omega, by go_num, by rw [last_no hx.out.2.1 (decide_eq_false HS.out)]⟩
        case measure => simp [intOf]; omega
    · go_wp2_with fail
      go_ret
      exact ⟨ret_int (by rw [HR.out.all (by omega)]; rfl), hb1⟩
set_option maxHeartbeats 1000000 in
theorem ref07_Cut (a : Option Addr) (len cap : Nat) (xs : List Int) (n : Int) (w : World) (hr : Reads .u8 w a len cap xs) (hN : len < 100000000) (hw : (Lit.int .i64 n).wf = true) :
    Calls Try.prog 21 #[.slice a len cap, .int .i64 n] w fun e w' => (∃ m : Nat, e = .returned (.slice a m cap) ∧ Reads .u8 w' a m cap (cutL xs n)) ∧ Below w.heap.size w w' := by
  have hP := ref07_Places _ _ _ _ _ hr hN
  have hM := hid (fun m c a' w' => plc_many (m := m) (c := c) (a' := a') (w' := w') hr)
  have hsz := hr.size
  have hroom := hr.room
  have hE := endP_bd xs n
  have HA := hid hr
  clear hr hw
  go_enter Try.func21, Try.ntmps21
  go_wp2_with (go_at_call 9; (with_reducible refine hP.mono ?_); rintro e w1 ⟨a1, m, c1, rfl, hr1, hb1⟩)
  obtain ⟨hm0, hm1⟩ := hM.out _ _ _ _ hr1
  have HR := hid hr1
  clear hr1 hM
  go_loop [6, 7] (fun o i => ∃ k : Nat, k ≤ m ∧ i = .int .i64 k ∧ o = .int .i64 ((lastF (fun x => decide (x ≤ n)) ((plc xs).take k)).getD 0)) (fun _ i => m - (intOf i).toNat)
  case atStart => exact ⟨0, Nat.zero_le _, rfl, rfl⟩
  case round =>
    obtain ⟨k, hk, rfl, rfl⟩ := hrel
    by_cases hlt : k < m
    · obtain ⟨b, off, x, rfl, _, hc, hx⟩ := HR.out.getI hlt
      by_cases hs : x ≤ n
      · have HS := hid hs
        go_wp2_with fail
        go_round
        case rel => exact ⟨k + 1, by omega, by go_num, by rw [last_yes hx.out.2.1 (decide_eq_true HS.out)]; rfl⟩
        case measure => simp [intOf]; omega
      · have HS := hid hs
        go_wp2_with fail
        go_round
        case rel => exact ⟨k + 1, by omega, by go_num, by rw [last_no hx.out.2.1 (decide_eq_false HS.out)]⟩
        case measure => simp [intOf]; omega
    · have hall : (plc xs).take k = plc xs := HR.out.all (by omega)
      rw [hall]
      obtain ⟨q, hq⟩ := Int.eq_ofNat_of_zero_le hE.1
      have hq' : (lastF (fun x => decide (x ≤ n)) (plc xs)).getD 0 = (q : Int) := hq
      rw [hq']
      have hcut : Hid (cutL xs n = xs.take q) := by unfold cutL; rw [Hid, hq]; rfl
      have hql : q ≤ len := by rw [hq] at hE; omega
      have hqc : (q : Int) ≤ cap := by omega
      clear hall hq hq' hE
      go_wp2_with fail
      go_ret
      exact ⟨⟨q, rfl, by rw [hcut.out]; exact (HA.out.below hb1).pre hql⟩, hb1⟩
set_option maxHeartbeats 1000000 in
theorem ref07_Nth (a : Option Addr) (len cap : Nat) (xs : List Int) (n : Int) (w : World) (hr : Reads .u8 w a len cap xs) (hN : len < 100000000) (hw : (Lit.int .i64 n).wf = true) :
    Calls Try.prog 16 #[.slice a len cap, .int .i64 n] w fun e w' => e = .returned (.int .i64 (nthP (plc xs) n)) ∧ Below w.heap.size w w' := by
  obtain ⟨M, hM⟩ : ∃ M, (plc xs).length = M + 1 := ⟨_, plc_len xs⟩
  have hMl : M ≤ len := by have := segs_le xs; rw [plc_len] at hM; have := hr.size; omega
  have hP : Calls Try.prog 9 #[.slice a len cap] w fun e w' => ∃ a' cap', e = .returned (.slice a' (M + 1) cap') ∧ Reads .i64 w' a' (M + 1) cap' (plc xs) ∧ Below w.heap.size w w' := by
    refine (ref07_Places _ _ _ _ _ hr hN).mono ?_
    rintro e w' ⟨a', m, c', rfl, hr', hb⟩
    obtain rfl : M + 1 = m := by rw [← hM]; exact hr'.size
    exact ⟨a', c', rfl, hr', hb⟩
  have HM := hid hM
  have hw' := wf_i64 hw
  clear hr hM hw
  rcases Int.lt_or_le n 0 with h0 | h0
  · go_enter Try.func16, Try.ntmps16
    go_wp2_with (go_at_call 9; (with_reducible refine hP.mono ?_); rintro e w1 ⟨a1, c1, rfl, hr1, hb1⟩; obtain ⟨b, off, x, rfl, _, hc, hx⟩ := hr1.getI (i := 0) (by omega); simp only [Nat.add_zero] at hc)
    go_ret
    exact ⟨ret_int (nth_at (by rw [HM.out]; omega) hx.out.1).symm, hb1⟩
  · obtain ⟨n, rfl⟩ := Int.eq_ofNat_of_zero_le h0
    by_cases h1 : n ≤ M
    · go_enter Try.func16, Try.ntmps16
      go_wp2_with (go_at_call 9; (with_reducible refine hP.mono ?_); rintro e w1 ⟨a1, c1, rfl, hr1, hb1⟩; obtain ⟨b, off, x, rfl, _, hc, hx⟩ := hr1.getI (i := n) (by omega))
      go_ret
      exact ⟨ret_int (nth_at (by rw [HM.out]; omega) hx.out.1).symm, hb1⟩
    · have h1' : M < n := by omega
      clear h1
      go_enter Try.func16, Try.ntmps16
      go_wp2_with (go_at_call 9; (with_reducible refine hP.mono ?_); rintro e w1 ⟨a1, c1, rfl, hr1, hb1⟩; obtain ⟨b, off, x, rfl, _, hc, hx⟩ := hr1.getI (i := M) (by omega))
      go_ret
      exact ⟨ret_int (nth_at (by rw [HM.out]; omega) hx.out.1).symm, hb1⟩

end Go.Proofs.Ytpdlnbomjknhiaa
