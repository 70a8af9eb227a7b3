/-
  Texts of ours laid together: R14, R14b, C14.
-/
import Derived.Test.YtpmkgpnielolbaaRows
import Derived.Deep.CutBlock
import Derived.Lib.Bytealg
import Derived.Laws.CopyOwn
import Derived.IntWalk
import Derived.Test.YtpmkgpnielolbaaZ21

/-! R14 -/
namespace Go.Proofs.Ytpmkgpnielolbaa
open Go.RowKit
set_option linter.unusedVariables false

set_option maxHeartbeats 1000000 in
theorem ref14_Digit (n : Int) (w : World) :
    Calls Try.prog 49 #[.int .i64 n] w fun e w' => e = .returned (.int .u8 (dg64 (n % 64))) ∧ w = w' := by
  by_cases h0 : 0 ≤ n
  · go_enter Try.func49, Try.ntmps49
    go_wp2
    all_goals
      go_ret
      exact ⟨ret_int (by (try simp only [beq_iff_eq, beq_eq_false_iff_ne] at *); unfold dg64; (repeat' split) <;> omega), rfl⟩
  · obtain ⟨m, hm, rfl⟩ : ∃ m : Int, 0 ≤ m ∧ n = -m := ⟨-n, by omega, by omega⟩
    have ht : Int.tmod (-m) 64 = -(m % 64) := by rw [Int.neg_tmod, Int.tmod_eq_emod_of_nonneg hm]
    have hn : (-m) % 64 = (-(m % 64) + 64) % 64 := by omega
    have h1 : 0 ≤ -(m % 64) + 64 := by omega
    rw [hn]
    go_enter Try.func49, Try.ntmps49
    go_wp2
    all_goals
      go_ret
      exact ⟨ret_int (by (try simp only [beq_iff_eq, beq_eq_false_iff_ne] at *); unfold dg64; (repeat' split) <;> omega), rfl⟩
theorem num_snoc {l : List Int} {k : Nat} {b : Int} (h : l.take (k + 1) = l.take k ++ [b]) : numL (l.take (k + 1)) = 2 * numL (l.take k) + b := by
  unfold numL; rw [h, List.foldl_append]; rfl
theorem num_lt : ∀ (l : List Int) (n : Int), (∀ b ∈ l, b = 0 ∨ b = 1) → 0 ≤ n → 0 ≤ l.foldl (fun n b => 2 * n + b) n ∧ l.foldl (fun n b => 2 * n + b) n < (n + 1) * 2 ^ l.length := by
  intro l
  induction l with
  | nil => intro n _ h; simp; omega
  | cons b l ih =>
    intro n hb h
    have h1 := hb b (by simp)
    have h2 := ih (2 * n + b) (fun x hx => hb x (by simp [hx])) (by omega)
    rw [List.foldl_cons, List.length_cons]
    refine ⟨h2.1, Int.lt_of_lt_of_le h2.2 ?_⟩
    have e : (n + 1) * 2 ^ (l.length + 1) = (2 * n + 2) * 2 ^ l.length := by rw [Int.pow_succ, Int.mul_comm (2 ^ l.length) 2, ← Int.mul_assoc]; congr 1; omega
    rw [e]
    exact Int.mul_le_mul_of_nonneg_right (by omega) (Int.pow_nonneg (by omega))
theorem num_bd {l : List Int} (hb : ∀ b ∈ l, b = 0 ∨ b = 1) (h : l.length ≤ 8) : 0 ≤ numL l ∧ numL l ≤ 255 := by
  have h1 := num_lt l 0 hb (Int.le_refl _)
  have h2 : (2 : Int) ^ l.length ≤ 2 ^ 8 := by
    have := Nat.pow_le_pow_right (n := 2) (by omega) h
    exact_mod_cast this
  unfold numL
  have e : (2 : Int) ^ 8 = 256 := by decide
  omega
set_option maxHeartbeats 1000000 in
theorem ref14_number (a : Option Addr) (len cap : Nat) (xs : List Int) (w : World) (hr : Reads .i64 w a len cap xs) (hb : ∀ b ∈ xs, b = 0 ∨ b = 1) (hN : len ≤ 8) :
    Calls Try.prog 50 #[.slice a len cap] w fun e w' => e = .returned (.int .i64 (numL xs)) ∧ w = w' := by
  have HR := hid hr
  have hsz := hr.size
  have HB := hid hb
  clear hr hb
  go_enter Try.func50, Try.ntmps50
  go_wp2
  go_loop [3, 4] (fun s i => ∃ k : Nat, ∃ m : Int, k ≤ len ∧ i = .int .i64 k ∧ s = .int .i64 m ∧ 0 ≤ m ∧ m ≤ 255 ∧ Hid (m = numL (xs.take k))) (fun _ i => len - (intOf i).toNat)
  case atStart => exact ⟨0, 0, Nat.zero_le _, rfl, rfl, by omega, by omega, rfl⟩
  case round =>
    obtain ⟨k, m, hk, rfl, rfl, h0, h1, hn⟩ := hrel
    by_cases hlt : k < len
    · obtain ⟨b, off, x, rfl, _, hc, hx⟩ := HR.out.get hlt
      have h01 := HB.out x (List.mem_of_getElem? hx.out.1)
      have hq := num_bd (l := xs.take (k + 1)) (fun b hb => HB.out b (List.mem_of_mem_take hb)) (by rw [List.length_take]; omega)
      rw [num_snoc hx.out.2.1, ← hn.out] at hq
      have hS : Hid (2 * m + x = numL (xs.take (k + 1))) := by unfold Hid; rw [num_snoc hx.out.2.1, ← hn.out]
      go_wp2
      go_round
      case rel => exact ⟨k + 1, 2 * m + x, by omega, by go_num, by go_num, hq.1, hq.2, hS⟩
      case measure => simp [intOf]; omega
    · go_wp2
      go_ret
      exact ⟨ret_int (by rw [hn.out, HR.out.all (show len ≤ k by omega)]), rfl⟩
theorem STN : SliceT Try.prog 67 3 .i64 8 := ⟨Try.underlying67, by kernel_rfl, by decide⟩
theorem bit_wf {y : Int} (h0 : 0 ≤ y) (h1 : y ≤ 1) : (Lit.int .i64 y).wf = true := WalkArith.wf_i64 (by omega)
theorem bits8_snoc {xs : List Int} {k : Nat} {x : Int} (h : xs.take (k + 1) = xs.take k ++ [x]) : bits8 (xs.take (k + 1)) = bits8 (xs.take k) ++ bit8 x := by
  unfold bits8; rw [h, List.flatMap_append]; simp
theorem bits8_take (xs : List Int) (k : Nat) : (bits8 (xs.take k)).length ≤ 8 * xs.length := by
  rw [bits8_len, List.length_take]; omega
set_option maxHeartbeats 4000000 in
theorem ref14_Bits (a : Option Addr) (len cap : Nat) (xs : List Int) (w : World) (hr : Reads .u8 w a len cap xs) (hN : len < 100000000) :
    Calls Try.prog 48 #[.slice a len cap] w fun e w' => ∃ v, e = .returned v ∧ Own .i64 3 w.heap.size w' v (bits8 xs) ∧ Below w.heap.size w w' := by
  have HR := hid hr
  have hsz := hr.size
  clear hr
  go_enter Try.func48, Try.ntmps48
  go_wp2
  go_loopw [3, 4] (fun v i wr => ∃ k : Nat, k ≤ len ∧ i = .int .i64 k ∧ Own .i64 3 w.heap.size wr v (bits8 (xs.take k)) ∧ Below w.heap.size w wr) (fun _ i _ => len - (intOf i).toNat)
  case atStart => exact ⟨0, Nat.zero_le _, rfl, Own.nil _ _ _ _, Below.refl _ _⟩
  case round =>
    obtain ⟨k, hk, rfl, hown', hbel'⟩ := hrel
    by_cases hlt : k < len
    · obtain ⟨b, off, x, rfl, _, hc, h0, h1, hx⟩ := (HR.out.below hbel').get8 hlt
      clear hc
      have hbl := bits8_take xs k
      rw [hsz] at hbl
      go_wp2
      go_loopw [3, 5] (fun v i wr => ∃ j : Nat, j ≤ 8 ∧ i = .int .i64 (7 - (j : Int)) ∧ Own .i64 3 w.heap.size wr v (bits8 (xs.take k) ++ (bit8 x).take j) ∧ Below w.heap.size w wr) (fun _ i _ => (intOf i + 1).toNat)
      case atStart => exact ⟨0, Nat.zero_le _, rfl, by simpa using hown', hbel'⟩
      case round =>
        obtain ⟨j, hj, rfl, hown2, hbel2⟩ := hrel
        by_cases hjl : j < 8
        · obtain ⟨b2, off2, y, hA, _, hc, _, _, hy⟩ := (HR.out.below hbel2).get8 hlt
          cases hA
          obtain rfl : x = y := by have h1 := hx.out.1; rw [hy.out.1] at h1; exact (Option.some.inj h1).symm
          have hq : j = 0 ∨ j = 1 ∨ j = 2 ∨ j = 3 ∨ j = 4 ∨ j = 5 ∨ j = 6 ∨ j = 7 := by omega
          rcases hq with rfl | rfl | rfl | rfl | rfl | rfl | rfl | rfl
          all_goals
            go_wp2_with (at_builtin; go_must (refine wpList_push STN rfl _ _ rfl rfl ⟨_, rfl⟩ hown2 hbel2 (by simp [bit8]; omega) (bit_wf (by omega) (by omega)) ?_); intro v' w' ho2 hb3)
            rw [List.append_assoc] at ho2
            clear hown2 hbel2 hown' hbel'
            go_wp2
            go_roundw
            case rel =>
              first
              | exact ⟨1, by omega, by go_num, ho2, hb3⟩
              | exact ⟨2, by omega, by go_num, ho2, hb3⟩
              | exact ⟨3, by omega, by go_num, ho2, hb3⟩
              | exact ⟨4, by omega, by go_num, ho2, hb3⟩
              | exact ⟨5, by omega, by go_num, ho2, hb3⟩
              | exact ⟨6, by omega, by go_num, ho2, hb3⟩
              | exact ⟨7, by omega, by go_num, ho2, hb3⟩
              | exact ⟨8, by omega, by go_num, ho2, hb3⟩
            case measure => simp [intOf]
        · obtain rfl : j = 8 := by omega
          have e1 : Hid (bits8 (xs.take k) ++ (bit8 x).take 8 = bits8 (xs.take (k + 1))) := by unfold Hid; rw [bits8_snoc hx.out.2]; rfl
          rw [e1.out] at hown2
          clear hown' hbel'
          go_wp2
          go_roundw
          case rel => exact ⟨k + 1, by omega, by go_num, hown2, hbel2⟩
          case measure => simp [intOf]; omega
    · rw [HR.out.all (show len ≤ k by omega)] at hown'
      go_wp2
      go_ret
      exact ⟨_, rfl, hown', hbel'⟩
theorem parts_snoc (n : Nat) (f : List Int → Int) (L : List Int) (j : Nat) : (List.range (j + 1)).map (fun t => f ((L.drop (t * n)).take n)) = (List.range j).map (fun t => f ((L.drop (t * n)).take n)) ++ [f ((L.drop (j * n)).take n)] := by
  rw [List.range_succ, List.map_append]; rfl
theorem bits8_01 (xs : List Int) : ∀ b ∈ bits8 xs, b = 0 ∨ b = 1 := by
  intro b hb
  unfold bits8 bit8 at hb
  rw [List.mem_flatMap] at hb
  obtain ⟨x, _, hb⟩ := hb
  simp only [List.mem_cons, List.not_mem_nil, or_false] at hb
  omega
theorem pad6_01 (xs : List Int) : ∀ b ∈ pad6 (bits8 xs), b = 0 ∨ b = 1 := by
  intro b hb
  unfold pad6 at hb
  rw [List.mem_append] at hb
  rcases hb with hb | hb
  · exact bits8_01 xs b hb
  · exact .inl (List.eq_of_mem_replicate hb)
theorem num6_bd {l : List Int} (hb : ∀ b ∈ l, b = 0 ∨ b = 1) (h : l.length ≤ 6) : 0 ≤ numL l ∧ numL l ≤ 63 := by
  have h1 := num_lt l 0 hb (Int.le_refl _)
  have h2 : (2 : Int) ^ l.length ≤ 2 ^ 6 := by
    have := Nat.pow_le_pow_right (n := 2) (by omega) h
    exact_mod_cast this
  unfold numL
  have e : (2 : Int) ^ 6 = 64 := by decide
  omega
theorem pad6_len (l : List Int) : (pad6 l).length % 6 = 0 ∧ (pad6 l).length ≤ l.length + 5 := by
  unfold pad6
  rw [List.length_append, List.length_replicate]
  omega
set_option maxHeartbeats 4000000 in
theorem ref14_Bare (a : Option Addr) (len cap : Nat) (xs : List Int) (w : World) (hr : Reads .u8 w a len cap xs) (hN : len < 100000000) :
    Calls Try.prog 34 #[.slice a len cap] w fun e w' => ∃ v, e = .returned v ∧ Own .u8 5 w.heap.size w' v (bareB xs) ∧ Below w.heap.size w w' := by
  have HR := hid hr
  have hsz := hr.size
  have HB := hid (bare_bits xs fun x hx => wf_u8 (hr.wf x hx))
  clear hr
  have hbl := bits8_len xs
  rw [hsz] at hbl
  obtain ⟨m, hm⟩ : ∃ m, m = (6 - (8 * len) % 6) % 6 := ⟨_, rfl⟩
  have hm6 : (8 * len + m) % 6 = 0 := by omega
  have HP : Hid (pad6 (bits8 xs) = bits8 xs ++ List.replicate m 0) := by unfold Hid pad6; rw [hbl, hm]
  go_enter Try.func34, Try.ntmps34
  go_wp2_with (go_at_call 48; (with_reducible refine (ref14_Bits _ _ _ _ _ HR.out hN).mono ?_); rintro e w1 ⟨v1, rfl, ho1, hb1⟩)
  go_loopw [3] (fun v wr => ∃ j : Nat, j ≤ m ∧ Own .i64 3 w.heap.size wr v (bits8 xs ++ List.replicate j 0) ∧ Below w.heap.size w wr) (fun v _ => 8 * len + m - lenV v)
  case atStart => exact ⟨0, Nat.zero_le _, by simpa using ho1, hb1⟩
  case round =>
    obtain ⟨j, hj, hown, hbel⟩ := hrel
    have hlen : (bits8 xs ++ List.replicate j (0 : Int)).length = 8 * len + j := by rw [List.length_append, List.length_replicate, hbl]
    obtain ⟨a3, c3, hv3, hrd3⟩ := hown.reads
    rw [hlen] at hv3 hrd3
    subst hv3
    have HB' := HB.out
    clear HB
    by_cases hjm : j < m
    · have hne : ¬ ((8 * len + j : Nat) : Int) % 6 = 0 := by omega
      have e1 : Hid (bits8 xs ++ List.replicate j 0 ++ [0] = bits8 xs ++ List.replicate (j + 1) 0) := by unfold Hid; rw [List.append_assoc, ← List.replicate_succ']
      clear hrd3
      go_wp2_with (at_builtin; go_must (refine wpList_push STN rfl _ _ rfl rfl ⟨_, rfl⟩ hown hbel (by rw [hlen]; omega) (bit_wf (by omega) (by omega)) ?_); intro v' w' ho2 hb3)
      rw [e1.out] at ho2
      obtain ⟨a4, c4, hv4, hrd4⟩ := ho2.reads
      have hl4 : (bits8 xs ++ List.replicate (j + 1) (0 : Int)).length = 8 * len + (j + 1) := by rw [List.length_append, List.length_replicate, hbl]
      rw [hl4] at hv4
      clear hown hbel hrd4
      go_wp2
      go_roundw
      case rel => exact ⟨j + 1, by omega, ho2, hb3⟩
      case measure => rw [hv4]; simp only [lenV]; omega
    · obtain rfl : j = m := by omega
      rw [← HP.out] at hrd3
      have h0 : ((8 * len + j : Nat) : Int) % 6 = 0 := by omega
      obtain ⟨M, hM⟩ : ∃ M, 8 * len + j = 6 * M := ⟨(8 * len + j) / 6, by omega⟩
      rw [hM] at hrd3 h0 ⊢
      have HL := hid hrd3
      have hLs := hrd3.size
      have hroom := hrd3.room
      have hE : Hid (parts 6 (fun l => dg64 (numL l)) (pad6 (bits8 xs)) = (List.range M).map (fun t => dg64 (numL (((pad6 (bits8 xs)).drop (t * 6)).take 6)))) := by
        unfold Hid parts
        rw [hLs, Nat.mul_div_cancel_left _ (by omega)]
      rw [hE.out] at HB'
      have HB := hid HB'
      have H01 := hid (pad6_01 xs)
      obtain ⟨L, hL⟩ : ∃ L, L = pad6 (bits8 xs) := ⟨_, rfl⟩
      rw [← hL] at HL HB H01 hLs
      clear hE HB' hrd3 hown hL HP
      go_wp2
      go_loopw [4, 5] (fun v i w2 => ∃ t : Nat, t ≤ M ∧ i = .int .i64 ((6 * t : Nat) : Int) ∧ Own .u8 5 wr.heap.size w2 v ((List.range t).map (fun t => dg64 (numL ((L.drop (t * 6)).take 6)))) ∧ Below wr.heap.size wr w2) (fun _ i _ => 6 * M - (intOf i).toNat)
      case atStart => exact ⟨0, Nat.zero_le _, rfl, Own.nil _ _ _ _, Below.refl _ _⟩
      case round =>
        obtain ⟨t, ht, rfl, hown2, hbel2⟩ := hrel
        by_cases htM : t < M
        · have hpc := (HL.out.below hbel2).piece (l := 6 * t) (r := 6 * t + 6) (by omega) (by omega)
          have hne : ¬ c3 = 6 * t := by omega
          rw [if_neg hne, List.drop_take, show 6 * t + 6 - 6 * t = 6 by omega] at hpc
          have hq01 : ∀ b ∈ (L.drop (6 * t)).take 6, b = 0 ∨ b = 1 := fun b hb => H01.out b (List.mem_of_mem_drop (List.mem_of_mem_take hb))
          have hbd := num6_bd hq01 (by rw [List.length_take]; omega)
          have HPC := hid hpc
          have HQ := hid hq01
          clear hpc hq01
          have e1 := parts_snoc 6 (fun l => dg64 (numL l)) L t
          rw [Nat.mul_comm t 6] at e1
          have E1 := hid e1
          clear e1
          have hmod : numL ((L.drop (6 * t)).take 6) % 64 = numL ((L.drop (6 * t)).take 6) := by omega
          go_wp2_with (first
            | (go_at_call 50; (with_reducible refine (ref14_number _ _ _ _ _ HPC.out HQ.out (by omega)).mono ?_); rintro e w4 ⟨rfl, rfl⟩)
            | (go_at_call 49; (with_reducible refine (ref14_Digit _ _).mono ?_); rintro e w4 ⟨rfl, rfl⟩; try rw [hmod])
            | (at_builtin; go_must (refine wpList_push ST8 rfl _ _ rfl rfl ⟨_, rfl⟩ hown2 hbel2 (by simp; omega) (dg_wf hbd) ?_); intro v' w' ho2 hb3))
          rw [← E1.out] at ho2
          clear hown2 hbel2
          go_wp2
          go_roundw
          case rel => exact ⟨t + 1, by omega, by go_num, ho2, hb3⟩
          case measure => simp [intOf]; omega
        · obtain rfl : t = M := by omega
          rw [HB.out] at hown2
          go_wp2
          go_ret
          exact ⟨_, rfl, own_mono hown2 hbel.size, below_then hbel hbel2⟩
set_option maxHeartbeats 2000000 in
theorem ref14_Lay (a : Option Addr) (len cap : Nat) (xs : List Int) (w : World) (hr : Reads .u8 w a len cap xs) (hN : len < 100000000) :
    Calls Try.prog 24 #[.slice a len cap] w fun e w' => ∃ v, e = .returned v ∧ Own .u8 5 w.heap.size w' v (layB xs) ∧ Below w.heap.size w w' := by
  have HR := hid hr
  have hsz := hr.size
  clear hr
  have hbl : (bareB xs).length = len + (len + 2) / 3 := by unfold bareB; rw [List.length_map, v64_len, hsz]
  obtain ⟨n, hn⟩ : ∃ n, n = len + (len + 2) / 3 := ⟨_, rfl⟩
  rw [← hn] at hbl
  obtain ⟨m, hm⟩ : ∃ m, m = (4 - n % 4) % 4 := ⟨_, rfl⟩
  have HP : Hid (layB xs = bareB xs ++ List.replicate m 61) := by unfold Hid layB fill4; rw [hbl, hm]
  go_enter Try.func24, Try.ntmps24
  go_wp2_with (go_at_call 34; (with_reducible refine (ref14_Bare _ _ _ _ _ HR.out hN).mono ?_); rintro e w1 ⟨v1, rfl, ho1, hb1⟩)
  go_loopw [3] (fun v wr => ∃ j : Nat, j ≤ m ∧ Own .u8 5 w.heap.size wr v (bareB xs ++ List.replicate j 61) ∧ Below w.heap.size w wr) (fun v _ => n + m - lenV v)
  case atStart => exact ⟨0, Nat.zero_le _, by simpa using ho1, hb1⟩
  case round =>
    obtain ⟨j, hj, hown, hbel⟩ := hrel
    have hlen : (bareB xs ++ List.replicate j (61 : Int)).length = n + j := by rw [List.length_append, List.length_replicate, hbl]
    obtain ⟨a3, c3, hv3, hrd3⟩ := hown.reads
    rw [hlen] at hv3
    subst hv3
    clear hrd3
    by_cases hjm : j < m
    · have hne : ¬ ((n + j : Nat) : Int) % 4 = 0 := by omega
      have e1 : Hid (bareB xs ++ List.replicate j 61 ++ [61] = bareB xs ++ List.replicate (j + 1) 61) := by unfold Hid; rw [List.append_assoc, ← List.replicate_succ']
      go_wp2_with (at_builtin; go_must (refine wpList_push ST8 rfl _ _ rfl rfl ⟨_, rfl⟩ hown hbel (by rw [hlen]; omega) (by decide) ?_); intro v' w' ho2 hb3)
      rw [e1.out] at ho2
      obtain ⟨a4, c4, hv4, hrd4⟩ := ho2.reads
      have hl4 : (bareB xs ++ List.replicate (j + 1) (61 : Int)).length = n + (j + 1) := by rw [List.length_append, List.length_replicate, hbl]
      rw [hl4] at hv4
      clear hown hbel hrd4
      go_wp2
      go_roundw
      case rel => exact ⟨j + 1, by omega, ho2, hb3⟩
      case measure => rw [hv4]; simp only [lenV]; omega
    · obtain rfl : j = m := by omega
      have h0 : ((n + j : Nat) : Int) % 4 = 0 := by omega
      rw [← HP.out] at hown
      go_wp2
      go_ret
      exact ⟨_, rfl, hown, hbel⟩
end Go.Proofs.Ytpmkgpnielolbaa

/-! R14b -/
namespace Go.Proofs.Ytpmkgpnielolbaa
open Go.RowKit
set_option linter.unusedVariables false

theorem eqEnd_le (xs : List Int) : eqEnd xs ≤ xs.length := by unfold eqEnd; (repeat' split) <;> omega
end Go.Proofs.Ytpmkgpnielolbaa

/-! C14 -/
namespace Go.Proofs.Ytpmkgpnielolbaa
open Go.RowKit
set_option linter.unusedVariables false
set_option maxRecDepth 100000

abbrev digS64 : ByteArray := { data := #[65, 66, 67, 68, 69, 70, 71, 72, 73, 74, 75, 76, 77, 78, 79, 80, 81, 82, 83, 84, 85, 86, 87, 88, 89, 90, 97, 98, 99, 100, 101, 102, 103, 104, 105, 106, 107, 108, 109, 110, 111, 112, 113, 114, 115, 116, 117, 118, 119, 120, 121, 122, 48, 49, 50, 51, 52, 53, 54, 55, 56, 57, 43, 47] }
theorem digS64_fin : ∀ k : Fin 64, ((digS64.data[k.val]'(by have := k.isLt; simp)).toNat : Int) = dg64 (k.val : Int) := by decide +kernel
theorem digS64_get (k : Nat) (h : k < digS64.size) : ((digS64[k]'h).toNat : Int) = dg64 k := digS64_fin ⟨k, h⟩
theorem and63 (n : Int) : bits .and .i64 n 63 = n % 64 := by
  show IntKind.i64.wrap ((BitVec.ofInt 64 n &&& BitVec.ofInt 64 63).toNat : Int) = _
  rw [BitVec.toNat_and, BitVec.toNat_ofInt, BitVec.toNat_ofInt]
  rw [show ((63 : Int) % (2 ^ 64 : Nat)).toNat = 2 ^ 6 - 1 by decide, Nat.and_two_pow_sub_one_eq_mod]
  rw [IntWalk.i64_in _ (by omega)]
  omega
/-- The place of a digit in the alphabet, or -1. -/
def at64 (c : Int) : Int := if isDig c then valI c else -1
theorem idx64_fin : ∀ c : Fin 256, Lib.indexByte digS64.data.toList (c.val.toUInt8) = at64 (c.val : Int) := by decide +kernel
theorem idx64 (c : Int) (h0 : 0 ≤ c) (h1 : c ≤ 255) : Lib.indexByte digS64.data.toList c.toNat.toUInt8 = at64 c := by
  have := idx64_fin ⟨c.toNat, by omega⟩
  simp only at this
  rwa [show ((c.toNat : Nat) : Int) = c by omega] at this

theorem ibS (s : ByteArray) (c : Int) (w : World) : (callFunc 120 #[.string s, .int .u8 c]).run Try.prog w = .ok (.value (.int .i64 (Lib.indexByte s.data.toList c.toNat.toUInt8))) w := by
  rw [run_callFunc_extern (fn := Try.f120) (e := Extern.BytealgIndexByte.indexByte) (by kernel_rfl) (by kernel_rfl) (by kernel_rfl) (by kernel_rfl) (by kernel_rfl)]
  rw [Lib.run_indexByteString]; rfl
set_option maxHeartbeats 1000000 in
theorem bcode_Len (n : Int) (w : World) (hn : n ≤ 1099511627776) :
    Calls Try.prog 39 #[.int .i64 n] w fun e w' => e = .returned (.int .i64 (lenB n)) ∧ w = w' := by
  unfold lenB
  by_cases h : n < 1
  · go_enter Try.func39, Try.ntmps39
    go_wp2
    go_ret
    exact ⟨ret_int (by first | rfl | rw [if_pos h]), rfl⟩
  · have h1 : 1 ≤ n := by omega
    rw [if_neg h]
    clear h
    go_enter Try.func39, Try.ntmps39
    go_wp2
    all_goals
      go_ret
      exact ⟨ret_int (by omega), rfl⟩
end Go.Proofs.Ytpmkgpnielolbaa
