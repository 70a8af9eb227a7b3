/-
  Texts of ours laid together: R14.
-/
import Derived.Test.YtefhddbbiheadaaGreatRows
import Derived.Test.YtefhddbbiheadaaGreatZ32

/-! R14 -/
namespace Go.Proofs.YtefhddbbiheadaaGreat
open Go.RowKit
set_option linter.unusedVariables false

set_option maxHeartbeats 1000000 in
theorem ref14_Digit (n : Int) (w : World) :
    Calls Tryz.prog 123 #[.int .i64 n] w fun e w' => e = .returned (.int .u8 (dg64 (n % 64))) ∧ w = w' := by
  by_cases h0 : 0 ≤ n
  · go_enter Tryz.func123, Tryz.ntmps123
    go_wp2
    all_goals
      go_ret
      exact ⟨ret_int (by (try simp only [beq_iff_eq, beq_eq_false_iff_ne] at *); unfold dg64; (repeat' split) <;> omega), rfl⟩
  · obtain ⟨m, hm, rfl⟩ : ∃ m : Int, 0 ≤ m ∧ n = -m := ⟨-n, by omega, by omega⟩
    have ht : Int.tmod (-m) 64 = -(m % 64) := by rw [Int.neg_tmod, Int.tmod_eq_emod_of_nonneg hm]
    have hn : (-m) % 64 = (-(m % 64) + 64) % 64 := by omega
    have h1 : 0 ≤ -(m % 64) + 64 := by omega
    rw [hn]
    go_enter Tryz.func123, Tryz.ntmps123
    go_wp2
    all_goals
      go_ret
      exact ⟨ret_int (by (try simp only [beq_iff_eq, beq_eq_false_iff_ne] at *); unfold dg64; (repeat' split) <;> omega), rfl⟩
theorem num_snoc {l : List Int} {k : Nat} {b : Int} (h : l.take (k + 1) = l.take k ++ [b]) : numL (l.take (k + 1)) = 2 * numL (l.take k) + b := by
  unfold numL; rw [h, List.foldl_append]; rfl
theorem num_lt : ∀ (l : List Int) (n : Int), (∀ b ∈ l, b = 0 ∨ b = 1) → 0 ≤ n → 0 ≤ l.foldl (fun n b => 2 * n + b) n ∧ l.foldl (fun n b => 2 * n + b) n < (n + 1) * 2 ^ l.length := by
  intro l
  induction l with
  | nil => intro n _ h; simp; omega
  | cons b l ih =>
    intro n hb h
    have h1 := hb b (by simp)
    have h2 := ih (2 * n + b) (fun x hx => hb x (by simp [hx])) (by omega)
    rw [List.foldl_cons, List.length_cons]
    refine ⟨h2.1, Int.lt_of_lt_of_le h2.2 ?_⟩
    have e : (n + 1) * 2 ^ (l.length + 1) = (2 * n + 2) * 2 ^ l.length := by rw [Int.pow_succ, Int.mul_comm (2 ^ l.length) 2, ← Int.mul_assoc]; congr 1; omega
    rw [e]
    exact Int.mul_le_mul_of_nonneg_right (by omega) (Int.pow_nonneg (by omega))
theorem num_bd {l : List Int} (hb : ∀ b ∈ l, b = 0 ∨ b = 1) (h : l.length ≤ 8) : 0 ≤ numL l ∧ numL l ≤ 255 := by
  have h1 := num_lt l 0 hb (Int.le_refl _)
  have h2 : (2 : Int) ^ l.length ≤ 2 ^ 8 := by
    have := Nat.pow_le_pow_right (n := 2) (by omega) h
    exact_mod_cast this
  unfold numL
  have e : (2 : Int) ^ 8 = 256 := by decide
  omega
set_option maxHeartbeats 1000000 in
theorem ref14_number (a : Option Addr) (len cap : Nat) (xs : List Int) (w : World) (hr : Reads .i64 w a len cap xs) (hb : ∀ b ∈ xs, b = 0 ∨ b = 1) (hN : len ≤ 8) :
    Calls Tryz.prog 92 #[.slice a len cap] w fun e w' => e = .returned (.int .i64 (numL xs)) ∧ w = w' := by
  have HR := hid hr
  have hsz := hr.size
  have HB := hid hb
  clear hr hb
  go_enter Tryz.func92, Tryz.ntmps92
  go_wp2
  go_loop [3, 4] (fun s i => ∃ k : Nat, ∃ m : Int, k ≤ len ∧ i = .int .i64 k ∧ s = .int .i64 m ∧ 0 ≤ m ∧ m ≤ 255 ∧ Hid (m = numL (xs.take k))) (fun _ i => len - (intOf i).toNat)
  case atStart => exact ⟨0, 0, Nat.zero_le _, rfl, rfl, by omega, by omega, rfl⟩
  case round =>
    obtain ⟨k, m, hk, rfl, rfl, h0, h1, hn⟩ := hrel
    by_cases hlt : k < len
    · obtain ⟨b, off, x, rfl, _, hc, hx⟩ := HR.out.get hlt
      have h01 := HB.out x (List.mem_of_getElem? hx.out.1)
      have hq := num_bd (l := xs.take (k + 1)) (fun b hb => HB.out b (List.mem_of_mem_take hb)) (by rw [List.length_take]; omega)
      rw [num_snoc hx.out.2.1, ← hn.out] at hq
      have hS : Hid (2 * m + x = numL (xs.take (k + 1))) := by unfold Hid; rw [num_snoc hx.out.2.1, ← hn.out]
      go_wp2
      go_round
      case rel => exact ⟨k + 1, 2 * m + x, by omega, by go_num, by go_num, hq.1, hq.2, hS⟩
      case measure => simp [intOf]; omega
    · go_wp2
      go_ret
      exact ⟨ret_int (by rw [hn.out, HR.out.all (show len ≤ k by omega)]), rfl⟩
set_option maxHeartbeats 1000000 in
theorem ref14_Value (c : Int) (w : World) (h0 : 0 ≤ c) (h1 : c ≤ 255) :
    Calls Tryz.prog 91 #[.int .u8 c] w fun e w' => e = .returned (.tuple #[.int .i64 (valI c), .bool (isDig c)]) ∧ w = w' := by
  go_enter Tryz.func91, Tryz.ntmps91
  go_wp2
  go_loop [4] (fun i => ∃ k : Nat, k ≤ 64 ∧ i = .int .i64 k ∧ Hid (∀ j : Nat, j < k → ¬ dg64 j = c)) (fun i => 64 - (intOf i).toNat)
  case atStart => exact ⟨0, Nat.zero_le _, rfl, fun j hj => by omega⟩
  case round =>
    obtain ⟨k, hk, rfl, hn⟩ := hrel
    by_cases hlt : k < 64
    · have hmod : (k : Int) % 64 = k := by omega
      by_cases hs : dg64 k = c
      · have H := hid (val_of (val_hit hlt hs))
        have hb : (dg64 k == c) = true := by simpa using hs
        clear hs
        go_wp2_with (go_at_call 123; (with_reducible refine (ref14_Digit _ _).mono ?_); rintro e w' ⟨rfl, rfl⟩; try rw [hmod])
        go_ret2
        exact ⟨ret_ib H.out.2.2.1.symm H.out.2.2.2.symm, rfl⟩
      · have H := hid hs
        have hb : (dg64 k == c) = false := by simpa using hs
        clear hs
        go_wp2_with (go_at_call 123; (with_reducible refine (ref14_Digit _ _).mono ?_); rintro e w' ⟨rfl, rfl⟩; try rw [hmod])
        go_round
        case rel =>
          refine ⟨k + 1, by omega, by go_num, fun i hi => ?_⟩
          by_cases hik : i < k
          · exact hn.out i hik
          · obtain rfl : i = k := by omega
            exact H.out
        case measure => simp [intOf]; omega
    · have H := hid (val_no (val_none (c := c) fun j hj => hn.out j (by omega)))
      go_wp2
      go_ret2
      exact ⟨ret_ib H.out.1.symm H.out.2.symm, rfl⟩
theorem STN : SliceT Tryz.prog 31 3 .i64 8 := ⟨Tryz.underlying31, by kernel_rfl, by decide⟩
theorem bit_wf {y : Int} (h0 : 0 ≤ y) (h1 : y ≤ 1) : (Lit.int .i64 y).wf = true := WalkArith.wf_i64 (by omega)
theorem bits8_snoc {xs : List Int} {k : Nat} {x : Int} (h : xs.take (k + 1) = xs.take k ++ [x]) : bits8 (xs.take (k + 1)) = bits8 (xs.take k) ++ bit8 x := by
  unfold bits8; rw [h, List.flatMap_append]; simp
theorem bits8_take (xs : List Int) (k : Nat) : (bits8 (xs.take k)).length ≤ 8 * xs.length := by
  rw [bits8_len, List.length_take]; omega
theorem parts_snoc (n : Nat) (f : List Int → Int) (L : List Int) (j : Nat) : (List.range (j + 1)).map (fun t => f ((L.drop (t * n)).take n)) = (List.range j).map (fun t => f ((L.drop (t * n)).take n)) ++ [f ((L.drop (j * n)).take n)] := by
  rw [List.range_succ, List.map_append]; rfl
theorem bits8_01 (xs : List Int) : ∀ b ∈ bits8 xs, b = 0 ∨ b = 1 := by
  intro b hb
  unfold bits8 bit8 at hb
  rw [List.mem_flatMap] at hb
  obtain ⟨x, _, hb⟩ := hb
  simp only [List.mem_cons, List.not_mem_nil, or_false] at hb
  omega
theorem pad6_01 (xs : List Int) : ∀ b ∈ pad6 (bits8 xs), b = 0 ∨ b = 1 := by
  intro b hb
  unfold pad6 at hb
  rw [List.mem_append] at hb
  rcases hb with hb | hb
  · exact bits8_01 xs b hb
  · exact .inl (List.eq_of_mem_replicate hb)
theorem num6_bd {l : List Int} (hb : ∀ b ∈ l, b = 0 ∨ b = 1) (h : l.length ≤ 6) : 0 ≤ numL l ∧ numL l ≤ 63 := by
  have h1 := num_lt l 0 hb (Int.le_refl _)
  have h2 : (2 : Int) ^ l.length ≤ 2 ^ 6 := by
    have := Nat.pow_le_pow_right (n := 2) (by omega) h
    exact_mod_cast this
  unfold numL
  have e : (2 : Int) ^ 6 = 64 := by decide
  omega
theorem pad6_len (l : List Int) : (pad6 l).length % 6 = 0 ∧ (pad6 l).length ≤ l.length + 5 := by
  unfold pad6
  rw [List.length_append, List.length_replicate]
  omega
def valsL (xs : List Int) : List Int := if xs.all isDig = true then bits6 (xs.map valI) else []
theorem bits6_snoc {xs : List Int} {k : Nat} {x : Int} (h : xs.take (k + 1) = xs.take k ++ [x]) : bits6 ((xs.take (k + 1)).map valI) = bits6 ((xs.take k).map valI) ++ bit6 (valI x) := by
  unfold bits6; rw [h, List.map_append, List.flatMap_append]; simp
theorem bit6_take (y : Int) (j : Nat) : ((bit6 y).take j).length ≤ 6 := by rw [List.length_take]; exact Nat.min_le_right _ _
theorem bits6_take (xs : List Int) (k : Nat) : (bits6 ((xs.take k).map valI)).length ≤ 6 * xs.length := by
  rw [bits6_len, List.length_map, List.length_take]; omega
set_option maxHeartbeats 4000000 in
theorem ref14_Values (a : Option Addr) (len cap : Nat) (xs : List Int) (w : World) (hr : Reads .u8 w a len cap xs) (hN : len < 100000000) :
    Calls Tryz.prog 61 #[.slice a len cap] w fun e w' => ∃ v, e = .returned (.tuple #[v, .bool (xs.all isDig)]) ∧ Own .i64 3 w.heap.size w' v (valsL xs) ∧ Below w.heap.size w w' := by
  have HR := hid hr
  have hsz := hr.size
  clear hr
  go_enter Tryz.func61, Tryz.ntmps61
  go_wp2
  go_loopw [4, 5] (fun v i wr => ∃ k : Nat, k ≤ len ∧ i = .int .i64 k ∧ Hid ((xs.take k).all isDig = true) ∧ Own .i64 3 w.heap.size wr v (bits6 ((xs.take k).map valI)) ∧ Below w.heap.size w wr) (fun _ i _ => len - (intOf i).toNat)
  case atStart => exact ⟨0, Nat.zero_le _, rfl, rfl, Own.nil _ _ _ _, Below.refl _ _⟩
  case round =>
    obtain ⟨k, hk, rfl, hn, hown', hbel'⟩ := hrel
    by_cases hlt : k < len
    · obtain ⟨b, off, x, rfl, _, hc, h0, h1, hx⟩ := (HR.out.below hbel').get8 hlt
      cases hd : isDig x
      · have H := hid (all_no hx.out.1 hd)
        go_wp2_with (go_at_call 91; (with_reducible refine (ref14_Value _ _ h0 h1).mono ?_); rintro e w4 ⟨rfl, rfl⟩)
        go_ret2
        exact ⟨_, by rw [H.out]; rfl, by unfold valsL; rw [H.out]; exact Own.nil _ _ _ _, hbel'⟩
      · have hbl := bits6_take xs k
        rw [hsz] at hbl
        have HD := hid hd
        have hv := val_bd x
        unfold V6 at hv
        obtain ⟨y, hy⟩ : ∃ y, y = valI x := ⟨_, rfl⟩
        have hcv := ref14_Value x wr h0 h1
        rw [← hy, hd] at hcv
        have HV := hid hcv
        rw [← hy] at hv
        have HY := hid hy
        clear hcv hy hd
        go_wp2_with (go_at_call 91; (with_reducible refine HV.out.mono ?_); rintro e w4 ⟨rfl, rfl⟩)
        go_loopw [4, 8] (fun v i w2 => ∃ j : Nat, j ≤ 6 ∧ i = .int .i64 (5 - (j : Int)) ∧ Own .i64 3 w.heap.size w2 v (bits6 ((xs.take k).map valI) ++ (bit6 y).take j) ∧ Below w.heap.size w w2) (fun _ i _ => (intOf i + 1).toNat)
        case atStart => exact ⟨0, Nat.zero_le _, rfl, by simpa using hown', hbel'⟩
        case round =>
          obtain ⟨j, hj, rfl, hown2, hbel2⟩ := hrel
          clear hown' hbel'
          by_cases hjl : j < 6
          · have hq : j = 0 ∨ j = 1 ∨ j = 2 ∨ j = 3 ∨ j = 4 ∨ j = 5 := by omega
            rcases hq with rfl | rfl | rfl | rfl | rfl | rfl
            all_goals
              go_wp2_with (at_builtin; go_must (refine wpList_push STN rfl _ _ rfl rfl ⟨_, rfl⟩ hown2 hbel2 (by rw [List.length_append]; exact Nat.lt_of_le_of_lt (Nat.add_le_add hbl (bit6_take y _)) (by omega)) (bit_wf (by omega) (by omega)) ?_); intro v' w' ho2 hb3)
              rw [List.append_assoc] at ho2
              clear hown2 hbel2
              go_wp2
              go_roundw
              case rel =>
                first
                | exact ⟨1, by omega, by go_num, ho2, hb3⟩
                | exact ⟨2, by omega, by go_num, ho2, hb3⟩
                | exact ⟨3, by omega, by go_num, ho2, hb3⟩
                | exact ⟨4, by omega, by go_num, ho2, hb3⟩
                | exact ⟨5, by omega, by go_num, ho2, hb3⟩
                | exact ⟨6, by omega, by go_num, ho2, hb3⟩
              case measure => simp [intOf]
          · obtain rfl : j = 6 := by omega
            have e1 : Hid (bits6 ((xs.take k).map valI) ++ (bit6 y).take 6 = bits6 ((xs.take (k + 1)).map valI)) := by unfold Hid; rw [bits6_snoc hx.out.2, ← HY.out]; rfl
            rw [e1.out] at hown2
            go_wp2
            go_roundw
            case rel => exact ⟨k + 1, by omega, by go_num, all_yes hx.out.2 hn.out HD.out, hown2, hbel2⟩
            case measure => simp [intOf]; omega
    · have hn' := hn.out
      rw [HR.out.all (show len ≤ k by omega)] at hn' hown'
      have H := hid hn'
      clear hn'
      go_wp2
      go_ret2
      exact ⟨_, by rw [H.out]; rfl, by unfold valsL; rw [if_pos H.out]; exact hown', hbel'⟩
theorem parts8_bd {l : List Int} (hb : ∀ b ∈ l, b = 0 ∨ b = 1) (h : l.length ≤ 8) : (Lit.int .u8 (numL l)).wf = true := mk_u8 (num_bd hb h).1 (num_bd hb h).2
set_option maxHeartbeats 4000000 in
theorem ref14_Octets (a : Option Addr) (len cap : Nat) (L : List Int) (w : World) (hr : Reads .i64 w a len cap L) (hb : ∀ b ∈ L, b = 0 ∨ b = 1) (hN : len < 1000000000) :
    Calls Tryz.prog 62 #[.slice a len cap] w fun e w' => ∃ v, e = .returned (.tuple #[v, .bool (decide (numL (L.drop (8 * (len / 8))) = 0))]) ∧ Own .u8 5 w.heap.size w' v (parts 8 numL L) ∧ Below w.heap.size w w' := by
  have HL := hid hr
  have hLs := hr.size
  have hroom := hr.room
  have H01 := hid hb
  clear hr hb
  obtain ⟨M, hM⟩ : ∃ M, M = len / 8 := ⟨_, rfl⟩
  rw [← hM]
  have hM1 : 8 * M ≤ len := by omega
  have hM2 : len < 8 * M + 8 := by omega
  have hE : Hid (parts 8 numL L = (List.range M).map (fun t => numL ((L.drop (t * 8)).take 8))) := by
    unfold Hid parts
    rw [hLs, hM]
  clear hM
  go_enter Tryz.func62, Tryz.ntmps62
  go_wp2
  go_loopw [4, 5] (fun v i w2 => ∃ t : Nat, t ≤ M ∧ i = .int .i64 ((8 * t : Nat) : Int) ∧ Own .u8 5 w.heap.size w2 v ((List.range t).map (fun t => numL ((L.drop (t * 8)).take 8))) ∧ Below w.heap.size w w2) (fun _ i _ => 8 * M - (intOf i).toNat)
  case atStart => exact ⟨0, Nat.zero_le _, rfl, Own.nil _ _ _ _, Below.refl _ _⟩
  case round =>
    obtain ⟨t, ht, rfl, hown2, hbel2⟩ := hrel
    by_cases htM : t < M
    · have hpc := (HL.out.below hbel2).piece (l := 8 * t) (r := 8 * t + 8) (by omega) (by omega)
      have hne : ¬ cap = 8 * t := by omega
      have hle : 8 * t + 8 ≤ len := by omega
      rw [if_neg hne, List.drop_take, show 8 * t + 8 - 8 * t = 8 by omega] at hpc
      have hq01 : ∀ b ∈ (L.drop (8 * t)).take 8, b = 0 ∨ b = 1 := fun b hb => H01.out b (List.mem_of_mem_drop (List.mem_of_mem_take hb))
      have hbd := num_bd hq01 (by rw [List.length_take]; omega)
      have hwf := hid (parts8_bd hq01 (by rw [List.length_take]; omega))
      have HPC := hid hpc
      have HQ := hid hq01
      clear hpc hq01
      have e1 := parts_snoc 8 numL L t
      rw [Nat.mul_comm t 8] at e1
      have E1 := hid e1
      clear e1
      have hmod : numL ((L.drop (8 * t)).take 8) % 256 = numL ((L.drop (8 * t)).take 8) := by omega
      go_wp2_with (first
        | (go_at_call 92; (with_reducible refine (ref14_number _ _ _ _ _ HPC.out HQ.out (by omega)).mono ?_); rintro e w4 ⟨rfl, rfl⟩)
        | (at_builtin; go_must (refine wpList_push ST8 rfl _ _ rfl rfl ⟨_, rfl⟩ hown2 hbel2 (by simp; omega) hwf.out ?_); intro v' w' ho2 hb3))
      rw [← E1.out] at ho2
      clear hown2 hbel2
      go_wp2
      go_roundw
      case rel => exact ⟨t + 1, by omega, by go_num, ho2, hb3⟩
      case measure => simp [intOf]; omega
    · obtain rfl : t = M := by omega
      rw [← hE.out] at hown2
      have hlt : ¬ 8 * t + 8 ≤ len := by omega
      have hpc := (HL.out.below hbel2).piece (l := 8 * t) (r := len) (by omega) (by omega)
      rw [List.take_of_length_le (by omega)] at hpc
      have hq01 : ∀ b ∈ L.drop (8 * t), b = 0 ∨ b = 1 := fun b hb => H01.out b (List.mem_of_mem_drop hb)
      have HPC := hid hpc
      have HQ := hid hq01
      clear hpc hq01
      by_cases hce : cap = 8 * t
      · have HPC' := HPC.out
        rw [if_pos hce, hce, Nat.sub_self, show len - 8 * t = 0 by omega] at HPC'
        subst hce
        have HPC := hid HPC'
        clear HPC'
        go_wp2_with (go_at_call 92; (with_reducible refine (ref14_number _ _ _ _ _ HPC.out HQ.out (by omega)).mono ?_); rintro e w4 ⟨rfl, rfl⟩)
        all_goals
          go_ret2
          exact ⟨_, by rfl, hown2, hbel2⟩
      · have HPC' := HPC.out
        rw [if_neg hce] at HPC'
        have HPC := hid HPC'
        clear HPC'
        go_wp2_with (go_at_call 92; (with_reducible refine (ref14_number _ _ _ _ _ HPC.out HQ.out (by omega)).mono ?_); rintro e w4 ⟨rfl, rfl⟩)
        all_goals
          go_ret2
          exact ⟨_, by rfl, hown2, hbel2⟩
end Go.Proofs.YtefhddbbiheadaaGreat
