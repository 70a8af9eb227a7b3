/-
  Texts of ours laid together: C23c.
-/
import Derived.Test.YtiacijodoojgoaaDoorZ22

/-! C23c -/
namespace Go.Proofs.YtiacijodoojgoaaDoor
open Go.RowKit
set_option linter.unusedVariables false

/-- Where the loop over the digits stands. -/
def UnI (d : List Int) (k : Nat) (U : List Int) (X : Int) (m : Nat) : Prop := U = parts 16 numL (vlD (d.take k)) ∧ X = numL (restD (vlD (d.take k))) ∧ m = (vlD (d.take k)).length % 16
theorem UnI.start (d : List Int) : Hid (UnI d 0 [] 0 0) := by
  have e : vlD (d.take 0) = [] := rfl
  unfold Hid UnI
  rw [e]
  exact ⟨by rw [parts_short numL (l := []) (by decide)], rfl, rfl⟩
set_option maxRecDepth 100000 in
set_option maxHeartbeats 4000000 in
theorem sread_unitsOf (a : Option Addr) (len cap : Nat) (d : List Int) (w : World) (hr : Reads .u8 w a len cap d) (hd : d.all isDig = true) (hN : len < 10000000000) :
    Calls Tryd.prog 84 #[.slice a len cap] w fun e w' => ∃ v, e = .returned (.tuple #[v, .bool (!lftB (vlD d))]) ∧ Own .u16 72 w.heap.size w' v (uniD d) ∧ Below w.heap.size w w' := by
  have HR := hid hr
  have HD := hid hd
  have hl := hr.len_le
  have hsz := hr.size
  obtain ⟨L, hL⟩ : ∃ L, L = lftB (vlD d) := ⟨_, rfl⟩
  rw [← hL]
  have HL := hid hL
  clear hr hd hL
  go_enter Tryd.func84, Tryd.ntmps84
  go_wp2_with fail
  go_loopw [4, 5, 6, 13] (fun u b m i wr => ∃ (k : Nat) (U : List Int) (X : Int) (M : Nat), k ≤ len ∧ i = .int .i64 k ∧ b = .int .u32 X ∧ m = .int .i64 M ∧ Hid (UnI d k U X M) ∧ U.length ≤ k ∧ Own .u16 72 w.heap.size wr u U ∧ Below w.heap.size w wr) (fun _ _ _ i _ => len - (intOf i).toNat)
  case atStart => exact ⟨0, [], 0, 0, Nat.zero_le _, rfl, rfl, rfl, UnI.start d, Nat.zero_le _, Own.nil _ _ _ _, Below.refl _ _⟩
  case round =>
    obtain ⟨k, U, X, M, hk, rfl, rfl, rfl, hI, hUk, hown, hbel⟩ := hrel
    have hI' := hI.out
    unfold UnI at hI'
    obtain ⟨hU, hX, hM⟩ := hI'
    have hXb := num_lt2 (fun b hb => vlD_01 (d.take k) b (List.mem_of_mem_drop (show b ∈ (vlD (d.take k)).drop _ from hb)) : ∀ b ∈ restD (vlD (d.take k)), b = 0 ∨ b = 1)
    rw [rest_len, ← hX, ← hM] at hXb
    have hM16 : M < 16 := by omega
    by_cases hlt : k < len
    · obtain ⟨b, off, x, rfl, _, hc, h0, h1, hx⟩ := (HR.out.below hbel).get8 hlt
      have hs := vlD_snoc HD.out hx.out.2
      have hv := val_bd x
      have hV := bcode_Value x wr h0 h1
      have hln := vlD_take HD.out (k := k) (by omega)
      have hln2 := vlD_take HD.out (k := k + 1) (by omega)
      have hd1 : isDig x = true := List.all_eq_true.1 HD.out x (List.mem_of_getElem? hx.out.1)
      rw [hd1] at hV
      obtain ⟨v, hve⟩ : ∃ v, v = valI x := ⟨_, rfl⟩
      rw [← hve] at hs hv hV
      have HV := hid hV
      have hv2 := hv
      unfold V6 at hv2
      obtain ⟨v0, v1⟩ := hv2
      clear hV hve hx hd1 hI
      by_cases hm : M < 10
      · have hst := step_less v hv (l := vlD (d.take k)) (by omega)
        rw [← hs, ← hU, ← hX] at hst
        have hb2 : X ≤ 255 := by
          have : (2 : Int) ^ M ≤ 2 ^ 8 := pow2_le (by omega)
          have : (2 : Int) ^ 8 = 256 := by decide
          omega
        obtain ⟨x0, _⟩ := hXb
        have HI := hid (show UnI d (k + 1) U (X * 64 + v) (M + 6) from ⟨hst.1.symm, hst.2.symm, by omega⟩)
        have hor := or_u32 6 (X * 64) v (by omega) (by omega) (by omega) (by omega) (by omega)
        clear hst hs hU hX hM hln hln2 hv
        go_wp2_with (go_at_call 91; (with_reducible refine HV.out.mono ?_); rintro e w' ⟨rfl, rfl⟩)
        go_roundw
        case rel => exact ⟨k + 1, U, _, M + 6, by omega, by go_num, rfl, by go_num, HI, by omega, hown, hbel⟩
        case measure => simp [intOf]; omega
      · obtain ⟨j, hj⟩ : ∃ j, M = j + 10 := ⟨M - 10, by omega⟩
        have hst := step_unit v hv j (l := vlD (d.take k)) (by omega)
        rw [← hs, ← hU, ← hX] at hst
        have HI := hid (show UnI d (k + 1) (U ++ [(X * 64 + v) / 2 ^ j]) ((X * 64 + v) % 2 ^ j) j from ⟨hst.1.symm, hst.2.symm, by omega⟩)
        obtain ⟨x0, x1⟩ := hXb
        have hj3 : (j = 0 ∧ X ≤ 1023) ∨ (j = 2 ∧ X ≤ 4095) ∨ (j = 4 ∧ X ≤ 16383) := by
          rcases (show j = 0 ∨ j = 2 ∨ j = 4 by omega) with h | h | h
          · subst h; subst hj; have : (2 : Int) ^ (0 + 10) = 1024 := by decide
            omega
          · subst h; subst hj; have : (2 : Int) ^ (2 + 10) = 4096 := by decide
            omega
          · subst h; subst hj; have : (2 : Int) ^ (4 + 10) = 16384 := by decide
            omega
        clear hst hs hU hX hM hln hln2 hv hm x1
        have hor := fun (hx : X ≤ 16383) => or_u32 6 (X * 64) v (by omega) (by omega) (by omega) (by omega) (by omega)
        rcases hj3 with ⟨rfl, x1⟩ | ⟨rfl, x1⟩ | ⟨rfl, x1⟩
        all_goals
          subst hj
          replace hor := hor (by omega)
        case' inl =>
          have hand : bits .and .u32 (X * 64 + v) 0 = 0 := by rw [and_u32 0 _ 0 (by decide) (by decide) (by omega) (by omega)]; omega
          rw [show (2 : Int) ^ 0 = 1 by decide, Int.ediv_one, Int.emod_one] at HI
          have hY : 0 ≤ X * 64 + v ∧ X * 64 + v ≤ 65535 := by omega
        case' inr.inl =>
          have hand : bits .and .u32 (X * 64 + v) 3 = (X * 64 + v) % 4 := and_u32 2 _ 3 (by decide) (by decide) (by omega) (by omega)
          rw [show (2 : Int) ^ 2 = 4 by decide] at HI
          have hY : 0 ≤ (X * 64 + v) / 4 ∧ (X * 64 + v) / 4 ≤ 65535 := by omega
        case' inr.inr =>
          have hand : bits .and .u32 (X * 64 + v) 15 = (X * 64 + v) % 16 := and_u32 4 _ 15 (by decide) (by decide) (by omega) (by omega)
          rw [show (2 : Int) ^ 4 = 16 by decide] at HI
          have hY : 0 ≤ (X * 64 + v) / 16 ∧ (X * 64 + v) / 16 ≤ 65535 := by omega
        all_goals
          have HY := hid (mk_u16 hY.1 hY.2)
          go_wp2_with (first
            | (go_at_call 91; (with_reducible refine HV.out.mono ?_); rintro e w' ⟨rfl, rfl⟩)
            | (at_builtin; go_must (refine wpList_push CT16 rfl _ _ rfl rfl ⟨_, rfl⟩ hown hbel (by omega) HY.out ?_); intro v3 w3 ho3 hb3))
          go_roundw
          case rel => exact ⟨k + 1, _, _, _, by omega, by go_num, rfl, rfl, HI, by simp; omega, ho3, hb3⟩
          case measure => simp [intOf]; omega
    · obtain rfl : k = len := by omega
      rw [List.take_of_length_le (by omega)] at hU hX hM
      have hLF : L = (decide (6 ≤ M) || decide (X ≠ 0)) := by rw [HL.out]; unfold lftB; rw [← hM, ← hX]
      have hown' : Own .u16 72 w.heap.size wr u4 (uniD d) := by unfold uniD; rw [← hU]; exact hown
      clear hU hX hM hown hXb hI
      by_cases h6 : M < 6
      · rw [decide_eq_false (show ¬ 6 ≤ M by omega), Bool.false_or] at hLF
        by_cases h0 : X = 0
        · subst h0
          have HLF := hid hLF
          clear hLF
          go_wp2_with fail
          go_ret2
          exact ⟨_, by rw [HLF.out]; rfl, hown', hbel⟩
        · have hx : (X == 0) = false := by simpa using h0
          rw [decide_eq_true h0] at hLF
          have HLF := hid hLF
          clear hLF h0
          go_wp2_with fail
          go_ret2
          exact ⟨_, by rw [HLF.out]; rfl, hown', hbel⟩
      · rw [decide_eq_true (show 6 ≤ M by omega), Bool.true_or] at hLF
        have HLF := hid hLF
        clear hLF
        go_wp2_with fail
        go_ret2
        exact ⟨_, by rw [HLF.out]; rfl, hown', hbel⟩
theorem digN_iff : ∀ d : List Int, digN d = d.length ↔ d.all isDig = true
  | [] => ⟨fun _ => rfl, fun _ => rfl⟩
  | x :: d => by
    have ih := digN_iff d
    have h1 := digN_le d
    unfold digN at *
    cases hx : isDig x
    · rw [List.takeWhile_cons_of_neg (by simp [hx])]
      simp [hx]
    · rw [List.takeWhile_cons_of_pos hx, List.length_cons, List.length_cons, List.all_cons, hx, Bool.true_and, ← ih]
      omega
theorem digN_lt {d : List Int} (h : d.all isDig = false) : digN d < d.length := by
  have h1 := digN_le d
  have h2 : digN d ≠ d.length := fun he => by rw [digN_iff, h] at he; cases he
  omega
theorem digN_all {d : List Int} (h : d.all isDig = true) : digN d = d.length := (digN_iff d).2 h
theorem run_noD {d : List Int} (h : d.all isDig = false) : runT d = [] ∧ lftT d = [] ∧ runOk d = false := by
  have e : vlD d = [] := by unfold vlD; rw [if_neg (by rw [h]; decide)]
  refine ⟨?_, ?_, ?_⟩
  · unfold runT uniD
    rw [e, parts_short numL (l := []) (by decide)]
    rfl
  · unfold lftT
    rw [e]
    rfl
  · unfold runOk
    rw [h]; rfl
set_option maxRecDepth 100000 in
set_option maxHeartbeats 1000000 in
theorem sread_Run (a : Option Addr) (len cap : Nat) (d : List Int) (w : World) (hr : Reads .u8 w a len cap d) (hN : len < 10000000000) :
    Calls Tryd.prog 80 #[.slice a len cap] w fun e w' => ∃ v, e = .returned (.tuple #[v, .bool (runOk d)]) ∧ Own .i32 21 w.heap.size w' v (runT d) ∧ Below w.heap.size w w' := by
  have hl := hr.len_le
  have hsz := hr.size
  have HLd := hid (sread_leading a len cap d w hr)
  cases hd : d.all isDig
  · obtain ⟨e1, _, e3⟩ := run_noD hd
    have hlt := digN_lt hd
    rw [e1, e3]
    obtain ⟨m, hm⟩ : ∃ m, m = digN d := ⟨_, rfl⟩
    rw [← hm] at HLd hlt
    have hq : (m : Int) < (len : Int) := by omega
    clear hd e1 e3 hm hr
    go_enter Tryd.func80, Tryd.ntmps80
    go_wp2_with (go_at_call 92; (with_reducible refine HLd.out.mono ?_); rintro e w' ⟨rfl, rfl⟩)
    go_ret2
    exact ⟨_, rfl, Own.nil _ _ _ _, Below.refl _ _⟩
  · rw [digN_all hd, hsz] at HLd
    have HU := hid (sread_unitsOf a len cap d w hr hd hN)
    have hlen := uniD_len d
    have hR0 : runOk d = (decide (errP (usigs (uniD d)) = 0) && !lftB (vlD d)) := by unfold runOk; rw [hd, Bool.true_and]
    rw [hR0]
    unfold runT
    clear hd hR0 hr
    generalize uniD d = U at *
    cases hL : lftB (vlD d)
    all_goals
      rw [hL] at HU
      clear hL
      go_enter Tryd.func80, Tryd.ntmps80
      go_wp2_with (first
        | (go_at_call 92; (with_reducible refine HLd.out.mono ?_); rintro e w' ⟨rfl, rfl⟩)
        | (go_at_call 84; (with_reducible refine HU.out.mono ?_); rintro e w1 ⟨v1, rfl, ho1, hb1⟩; obtain ⟨a1, c1, rfl, hr1⟩ := ho1.reads)
        | (go_at_call 85; (with_reducible refine (units_ReadO _ _ _ _ _ hr1 (by omega)).mono ?_); rintro e w2 ⟨v2, rfl, ho2, hb2⟩; have ho2' := own_mono ho2 hb1.size; have hb2' := below_then hb1 hb2; have hr2 := hr1.below hb2)
        | (go_at_call 86; (with_reducible refine (units_Right _ _ _ _ _ hr2).mono ?_); rintro e w3 ⟨rfl, hb3⟩; have ho3 := ho2'.below hb3; have hb3' := below_then hb2' hb3))
      go_ret2
      first
      | exact ⟨v2, by simp, ho3, hb3'⟩
      | exact ⟨v2, by simp, ho2', hb2'⟩
theorem piece_isRun (a : Option Addr) (m c : Nat) (s : Int) (r : Bool) (w : World) :
    Calls Tryd.prog 83 #[.agg #[.slice a m c, .int .i32 s, .bool r]] w fun e w' => e = .returned (.bool (decide (0 < m))) ∧ Below w.heap.size w w' := by
  go_enter Tryd.func83, Tryd.ntmps83
  go_wp2_with fail
  go_ret
  exact ⟨rfl, (Below.refl _ _).alloc (Nat.le_refl _) _⟩
set_option maxRecDepth 100000 in
set_option maxHeartbeats 4000000 in
theorem piece_put {w : World} {B0 : Nat} (hB0 : B0 ≤ w.heap.size) (a : Option Addr) (m c : Nat) (d : List Int) (s : Int) (r : Bool) (v : Value) (xs : List Int) (h0 : 0 ≤ s) (h1 : s ≤ 65533) (hdg : d.all isDig = true) (hp : Reads .u8 w a m c d) (ho : Own .i32 21 B0 w v xs) (hN : xs.length < 100000000000) (hL : m < 10000000000) :
    Calls Tryd.prog 75 #[.agg #[.slice a m c, .int .i32 s, .bool r], v] w fun e w' => ∃ a' n' c', e = .returned (.tuple #[.slice a' n' c', .bool (pcv d s r).2.1]) ∧ Own .i32 21 B0 w' (.slice a' n' c') (xs ++ (pcv d s r).1) ∧ w.grownBy w' v.ownBlock := by
  unfold pcv
  have hsz := hp.size
  obtain ⟨n, nl, cap, rfl⟩ := ho.shape
  obtain ⟨row, hrow⟩ : ∃ row, row = (Value.slice n nl cap).ownBlock := ⟨_, rfl⟩
  have hrowlt : ∀ j, row = some j → j < w.heap.size := fun j hj => (ho.1.lt j (hrow ▸ hj)).2
  rw [← hrow]
  have HI := hid (piece_isRun a m c s r (w.alloc (.cells #[.slice a m c, .int .i32 s, .bool r] 94)))
  by_cases hm : 0 < m
  · have hne : d ≠ [] := fun h => by rw [h, List.length_nil] at hsz; omega
    rw [decide_eq_true hm] at HI
    rw [if_neg hne]
    have HO := hid ho
    have hlen := uniD_len d
    have hTl := runT_len d
    have hR0 : runOk d = (decide (errP (usigs (uniD d)) = 0) && !lftB (vlD d)) := by unfold runOk; rw [hdg, Bool.true_and]
    have hT0 : lftT d = if lftB (vlD d) = true then [65533] else [] := rfl
    have HRun := hid (fun W (hW : Below w.heap.size w W) => sread_unitsOf a m c d W (hp.below hW) hdg hL)
    dsimp only
    rw [hR0, hT0]
    unfold runT at hTl ⊢
    clear hm hne hp ho hR0 hT0 hdg
    generalize uniD d = U at *
    have HRW := hid hrow
    have HLT := hid hrowlt
    clear hrow hrowlt
    cases hLf : lftB (vlD d)
    all_goals
      rw [hLf] at HRun
      clear hLf
      go_enter Tryd.func75, Tryd.ntmps75
      go_wp2_with (first
        | (go_at_call 83; (with_reducible refine HI.out.mono ?_); rintro e w1 ⟨rfl, hb1⟩; (have hs1 := hb1.size); rw [World.size_alloc] at hs1; (have hw1 : Below w.heap.size w w1 := ((Below.refl _ w).alloc (Nat.le_refl _) _).trans (hb1.mono (by simp))); (have BD := (Blk.new w 94 #[.slice a m c, .int .i32 s, .bool r]).below hb1 (by simp)); have d0 := BD.cell (i := 0) rfl; have hRun := HRun.out w1 hw1)
        | (go_at_call 84; (with_reducible refine hRun.mono ?_); rintro e w2 ⟨v2, rfl, ho2, hb2⟩; (obtain ⟨a2, c2, rfl, hr2⟩ := ho2.reads); have hw2 := below_then hw1 hb2)
        | (go_at_call 85; (with_reducible refine (units_ReadO _ _ _ _ _ hr2 (by omega)).mono ?_); rintro e w3 ⟨v3, rfl, ho3, hb3⟩; (obtain ⟨a3, c3, rfl, hr3⟩ := ho3.reads); have hw3 := below_then hw2 hb3; have hO3 := HO.out.below hw3; have hU3 := (own_mono ho2 hw1.size).below hb3)
        | (go_at_call 86; (with_reducible refine (units_Right _ _ _ _ _ hr4).mono ?_); rintro e w5 ⟨rfl, hb5⟩; have ho5 := ho4.below hb5; have hg5 := grownBy_t hg4' (grown_of hb5 row))
        | (at_builtin; have hX := hg4'; clear hX; go_must (refine wpList_moreO (B0 := B0) (W := w4.alloc (.cells #[.int .i32 65533] 21)) (v := .slice a4 n4 c4) (ao := some ⟨w4.heap.size, 0, none⟩) (m := 1) (c := 1) (ys := [65533]) CTR rfl _ _ rfl rfl rfl (ho4.below ((Below.refl _ _).alloc (Nat.le_refl _) _)) (by rw [World.size_alloc]; have := hw3.size; have := hg4.size; omega) (Reads.lit .i32 21 w4 [65533] (by decide) (by decide)) (by simp; omega) ?_); intro a6 n6 c6 w6 ho6 hg6 hk6)
        | (at_builtin; go_must (refine wpList_moreO (B0 := B0) (v := .slice n nl cap) (ao := a3) (m := (utxt U).length) (c := c3) CTR rfl _ _ rfl rfl rfl hO3 (Nat.le_trans hB0 hw3.size) hr3 (by omega) ?_); intro a4 n4 c4 w4 ho4 hg4 hk4; have hU4 := hU3.kept hg4 (by rw [← HRW.out]; exact HLT.out); (obtain ⟨a5, c5, he5, hr4⟩ := hU4.reads); cases he5; have hg4' : w.grownBy w4 row := grownBy_t (grown_of hw3 row) (by rw [HRW.out]; exact hg4)))
      go_ret2
      first
      | exact ⟨a4, n4, c4, by simp, by simpa using ho5, hg5⟩
      | exact ⟨a6, n6, c6, by simp, by simpa using ho6, grown_then (grownBy_t hg4' (grown_of ((Below.refl _ _).alloc (Nat.le_refl _) _) row)) hg6 (hk4.elim (fun h => .inl (by rw [HRW.out]; exact h)) (fun h => .inr ⟨_, h, hw3.size⟩))⟩
  · have hd : d = [] := List.eq_nil_of_length_eq_zero (by omega)
    rw [decide_eq_false hm] at HI
    rw [if_pos hd]
    have HO := hid ho
    have HRW := hid hrow
    clear hm hd hp hsz ho hrow
    go_enter Tryd.func75, Tryd.ntmps75
    go_wp2_with (go_at_call 83; (with_reducible refine HI.out.mono ?_); rintro e w1 ⟨rfl, hb1⟩)
    have hs1 := hb1.size
    rw [World.size_alloc] at hs1
    have hw1 : Below w.heap.size w w1.drew := below_drew (((Below.refl _ w).alloc (Nat.le_refl _) _).trans (hb1.mono (by simp)))
    have BD : Blk w1.drew w.heap.size 94 #[.slice a m c, .int .i32 s, .bool r] := (Blk.new w 94 #[.slice a m c, .int .i32 s, .bool r]).below (below_drew hb1) (by simp)
    have OD := HO.out.below hw1
    have hal : Below w1.drew.heap.size w1.drew (w1.drew.alloc (.cells #[.int .i32 s] 21)) := (Below.refl _ _).alloc (Nat.le_refl _) _
    have BA := BD.below hal BD.lt
    have OA := hid (OD.below hal)
    have bA := hid (below_then hw1 hal)
    have hrl : Hid (Reads .i32 (w1.drew.alloc (.cells #[.int .i32 s] 21)) (some ⟨w1.heap.size, 0, none⟩) 1 1 [s]) := hid (Reads.lit .i32 21 w1.drew [s] (by simp [maxLen]) (by intro x hx; simp at hx; subst hx; exact mk_r (by omega) (by omega)))
    have d1 := BD.cell (i := 1) rfl
    have d2 := BD.cell (i := 2) rfl
    have e2 : (w1.alloc (.cells #[.int .i32 s] 21)).cell? ⟨w.heap.size, 2, none⟩ = some (.bool r) := BA.cell (i := 2) rfl
    have hlt := BD.lt
    have hbo : Hid (some w.heap.size ≠ (Value.slice n nl cap).ownBlock) := BD.not_row (by decide) OD.1
    have HBA := hid BA
    have hB1 := Nat.le_trans hB0 bA.out.size
    clear BA OD hal BD hb1
    go_region_law (first
      | (refine step_moreO (B0 := B0) (W := w1.drew.alloc (.cells #[.int .i32 s] 21)) CTR rfl (.tmp 11) (.tmp 14) rfl rfl rfl OA.out hB1 hrl.out (by omega) ?_; intro a7 n7 k7 w7 ho7 hg7 _; have c7 := (HBA.out.kept hg7 hbo.out).cell (i := 2) rfl))
    all_goals
      have hG := hid (grownBy_t (grown_of bA.out (Value.slice n nl cap).ownBlock) hg7)
      clear hg7
      go_wp2_with fail
      go_ret2
      exact ⟨_, _, _, rfl, ho7, by rw [HRW.out]; exact hG.out⟩
end Go.Proofs.YtiacijodoojgoaaDoor
