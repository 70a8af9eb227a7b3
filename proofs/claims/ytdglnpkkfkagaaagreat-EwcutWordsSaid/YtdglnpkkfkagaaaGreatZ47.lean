/-
  Texts of ours laid together: R31, Arr.
-/
import Derived.OpenShut
import Derived.WalkKit
import Derived.Test.YtdglnpkkfkagaaaGreatZ46

/-! R31 -/
namespace Go.Proofs.YtdglnpkkfkagaaaGreat
open Go.RowKit
set_option linter.unusedVariables false

theorem opt_app {X : Option (List (List Int))} : X = X.map (([] : List (List Int)) ++ ·) := by cases X <;> rfl
theorem opt_next {X Y : Option (List (List Int))} {O : List (List Int)} {p : List Int} (h : X = (Y.map (p :: ·)).map (O ++ ·)) : X = Y.map ((O ++ [p]) ++ ·) := by
  rw [h]
  cases Y with
  | none => rfl
  | some L => simp
theorem infR32 : (Tryz.prog.info? 23).map (fun i => (i.zero, i.size, i.bytes)) = some (some (.slice none 0 0), 1, 24) := by kernel_rfl
set_option maxRecDepth 100000 in
set_option maxHeartbeats 2000000 in
theorem ref31_Cut (n k : Int) (a : Option Addr) (len cap : Nat) (xs : List Int) (first : Int) (w : World) (hr : Reads .i32 w a len cap xs) (hN : len < 1000000) :
    Calls Tryz.prog 8 #[.int .i64 n, .int .i64 k, .slice a len cap, .int .i64 first] w fun e w' => ∃ v, e = .returned (.tuple #[v, .int .i64 (cutE n k xs first)]) ∧ OwnG (shRow .i32) 23 w.heap.size w' v (ctL n k xs first) ∧ Below w.heap.size w w' := by
  have hl := hr.len_le
  have HL := ref30_Len n k a len cap xs w hr hN
  have HP := hid (fun a' lt ct ys W (r : Int) (h : Reads .i32 W a' lt ct ys) (hlt : lt < 1000000) => ref30_Prefix n k a' lt ct ys r W h hlt)
  unfold cutE ctL
  generalize ewcL n k xs = LL at HL
  by_cases hE : ewcE n k xs = 0
  · rw [if_pos hE, if_pos hE]
    rw [hE] at HL
    have H1 := hid HL
    obtain ⟨X, hX⟩ : ∃ X, X = cutP n k xs first := ⟨_, rfl⟩
    have HI : Hid (X = (cutP n k xs first).map (([] : List (List Int)) ++ ·)) := by rw [Hid, hX]; exact opt_app
    rw [← hX]
    have HR := hid hr
    have HK := hid (fun (ys : List Int) (r : Int) => ewcP_le n k ys r)
    clear HL hE hr hX
    go_enter Tryz.func8, Tryz.ntmps8
    go_wp2_with (go_at_call 24; (with_reducible refine H1.out.mono ?_); rintro e w1 ⟨rfl, hb1⟩)
    go_loopw [2, 12, 13] (fun tv ov rv wr => ∃ (a' : Option Addr) (lt ct : Nat) (ys : List Int) (O : List (List Int)) (r : Int), tv = .slice a' lt ct ∧ rv = .int .i64 r ∧ Hid (Reads .i32 w a' lt ct ys) ∧ Hid (OwnG (shRow .i32) 23 w.heap.size wr ov O) ∧ Hid (X = (cutP n k ys r).map (O ++ ·)) ∧ O.length + lt ≤ len ∧ Below w.heap.size w wr) (fun tv _ _ _ => lenV tv)
    case atStart => exact ⟨a, len, cap, xs, [], first, rfl, rfl, HR, OwnG.nil _ _ _ _, HI, by simp, hb1⟩
    case round =>
      obtain ⟨a', lt, ct, ys, O, r, rfl, rfl, hry, hO, hI, hle, hbel⟩ := hrel
      have hysz := hid hry.out.size
      by_cases hlt : 0 < lt
      · obtain ⟨b, off, x, rfl, hbw, hcx, hx1, _, hx⟩ := hry.out.getR hlt
        clear hcx hx1 hx
        have hne : ys ≠ [] := fun h => by have := hysz.out; rw [h, List.length_nil] at this; omega
        have hbr := hid (hry.out.below hbel)
        have HP1 := hid (HP.out _ _ _ _ wr r hbr.out (by omega))
        have hPle := HK.out ys r
        rw [hysz.out] at hPle
        have hrm := hry.out.room
        by_cases hP : ewcP n k ys r = 0
        · have hXn : X = none := by rw [hI.out, cutP_no hne hP]; rfl
          rw [hP] at HP1
          subst hXn
          clear hI hP hne HI
          go_wp2_with (go_at_call 25; (with_reducible refine HP1.out.mono ?_); rintro e w2 ⟨rfl, hb2⟩)
          go_ret2
          exact ⟨_, rfl, OwnG.nil _ _ _ _, below_then hbel hb2⟩
        · have hI2 := hid (opt_next (by rw [hI.out, cutP_on hne hP] : X = ((cutP n k (ys.drop (ewcP n k ys r)) 75).map (ys.take (ewcP n k ys r) :: ·)).map (O ++ ·)))
          generalize ewcP n k ys r = P at *
          have p0 : ((P : Int) == 0) = false := by simpa using hP
          have p1 : (0 : Int) ≤ (P : Int) := by omega
          have p2 : (P : Int) ≤ (ct : Int) := by omega
          have p3 : (P : Int) ≤ (lt : Int) := by omega
          have p4 : (lt : Int) ≤ (ct : Int) := by omega
          have p5 : P ≤ ct := by omega
          have hpre := hid (hry.out.pre (n := P) hPle)
          have hpc := hry.out.piece (l := P) (r := lt) hPle (Nat.le_refl _)
          rw [List.take_of_length_le (by rw [hysz.out]; exact Nat.le_refl _), Option.map_some, Addr.add_lit] at hpc
          have hOl := hO.out.lt
          clear hI hne HI
          by_cases hc : ct = P
          all_goals
            first | (rw [if_pos hc] at hpc; have r3 : (ct = P) = True := eq_true hc; clear hc) | (rw [if_neg hc] at hpc; have r3 : (ct = P) = False := eq_false hc; clear hc)
            have hpc2 := hid hpc
            clear hpc
            go_wp2_with (first
              | (go_at_call 25; (with_reducible refine HP1.out.mono ?_); rintro e w2 ⟨rfl, hb2⟩; have t2 := below_then hbel hb2; have O2 := hO.out.below hb2; have hO2 := O2.lt)
              | (at_builtin; go_must (refine wpList_pushG (shRow .i32) (ys.take P) (some ⟨b, off, none⟩) P ct rfl _ _ rfl Tryz.underlying25 infR32 rfl (by decide) (by decide) (w0 := w) (W := w2) (v := u12) rfl O2 t2 rfl (hpre.out.below t2) (hpre.out.off (fun j hj => (hO2 j hj).1)) (by intro c hc; cases hc with | head => rfl | tail _ h => cases h) (by omega) ?_); intro v3 w3 O3 hb3))
            go_roundw
            case rel => exact ⟨_, lt - P, ct - P, ys.drop P, O ++ [ys.take P], 75, rfl, rfl, hpc2, O3, hI2, by simp; omega, hb3⟩
            case measure => simp [lenV]; omega
      · obtain rfl : lt = 0 := by omega
        obtain rfl : ys = [] := List.eq_nil_of_length_eq_zero hysz.out
        have hX : X = some O := by rw [hI.out, cutP_nil]; simp
        subst hX
        clear hI HI
        go_wp2_with fail
        go_ret2
        exact ⟨_, rfl, hO.out, hbel⟩
  · rw [if_neg hE, if_neg hE]
    have hE' : (ewcE n k xs != 0) = true := by simpa using hE
    have H1 := hid HL
    generalize ewcE n k xs = E at *
    clear HL hE hr
    go_enter Tryz.func8, Tryz.ntmps8
    go_wp2_with (go_at_call 24; (with_reducible refine H1.out.mono ?_); rintro e w1 ⟨rfl, hb1⟩)
    go_ret2
    exact ⟨_, rfl, OwnG.nil _ _ _ _, hb1⟩
set_option maxHeartbeats 1000000 in
theorem ref31_How (a : Option Addr) (len cap : Nat) (xs : List Int) (w : World) (hr : Reads .i32 w a len cap xs) (hN : len < 1000000) :
    Calls Tryz.prog 10 #[.slice a len cap] w fun e w' => e = .returned (.tuple #[.int .i64 (selN xs), .int .i64 (hwC xs), .int .i64 (selE xs)]) ∧ Below w.heap.size w w' := by
  have H1 := ref12_Select a len cap xs w hr
  have H2 := hid (fun W (hW : Below w.heap.size w W) => ref30_Better (selN xs) a len cap xs W (hr.below hW) hN)
  unfold hwC
  clear hr
  by_cases hE : selE xs = 0
  · rw [if_pos hE]
    rw [hE] at H1 ⊢
    have HE := hid H1
    generalize selN xs = N at *
    generalize ewcB N xs = B at *
    generalize ewcE N 1 xs = E1 at *
    clear H1 hE
    go_enter Tryz.func10, Tryz.ntmps10
    go_wp2_with (first
      | (go_at_call 28; (with_reducible refine HE.out.mono ?_); rintro e w1 ⟨rfl, hb1⟩)
      | (go_at_call 29; (with_reducible refine (H2.out _ hb1).mono ?_); rintro e w2 ⟨rfl, hb2⟩))
    go_ret3
    exact ⟨rfl, below_then hb1 hb2⟩
  · rw [if_neg hE]
    have hn : selN xs = 0 := by
      unfold selE at hE
      by_cases h : selN xs = 0
      · exact h
      · rw [if_neg h] at hE; exact absurd rfl hE
    rw [hn] at H1 ⊢
    have hE' : (selE xs != 0) = true := by simpa using hE
    have HE := hid H1
    generalize selE xs = E at *
    clear H1 H2 hE hn
    go_enter Tryz.func10, Tryz.ntmps10
    go_wp2_with (go_at_call 28; (with_reducible refine HE.out.mono ?_); rintro e w1 ⟨rfl, hb1⟩)
    go_ret3
    exact ⟨rfl, hb1⟩
theorem flat_mem {L : List (List Int)} {x : List Int} (h : x ∈ L) : x.length ≤ L.flatten.length := by
  induction L with
  | nil => cases h
  | cons y L ih =>
    rw [List.flatten_cons, List.length_append]
    rcases List.mem_cons.1 h with rfl | h
    · omega
    · have := ih h; omega
theorem cutL_mem {n k : Int} {t : List Int} {r : Int} : ∀ x ∈ ctL n k t r, x.length ≤ t.length := by
  intro x hx
  by_cases h : cutE n k t r = 0
  · have h1 := flat_mem hx
    rw [(cutP_all n k _ t r _ (Nat.le_refl _) (cut_ok h).2).1] at h1
    exact h1
  · rw [ct_no h] at hx; cases hx
theorem infB31 : (Tryz.prog.info? 42).map (fun i => (i.zero, i.size, i.bytes)) = some (some (.slice none 0 0), 1, 24) := by kernel_rfl
set_option maxRecDepth 100000 in
set_option maxHeartbeats 2000000 in
theorem ref31_Words (a : Option Addr) (len cap : Nat) (xs : List Int) (first : Int) (w : World) (hr : Reads .i32 w a len cap xs) (hN : len < 100000) :
    Calls Tryz.prog 13 #[.slice a len cap, .int .i64 first] w fun e w' => ∃ v, e = .returned (.tuple #[v, .int .i64 (wrdE xs first)]) ∧ OwnG (shRow .u8) 42 w.heap.size w' v (wrdL xs first) ∧ Below w.heap.size w w' := by
  have hsz := hr.size
  have H1 := ref31_How a len cap xs w hr (by omega)
  have H2 := hid (fun W (hW : Below w.heap.size w W) => ref31_Cut (selN xs) (hwC xs) a len cap xs first W (hr.below hW) (by omega))
  have hcl := cutL_len (selN xs) (hwC xs) xs first
  have hcm := hid (fun x (hx : x ∈ ctL (selN xs) (hwC xs) xs first) => cutL_mem x hx)
  unfold wrdL wrdE
  clear hr
  by_cases hE : selE xs = 0
  · rw [if_pos hE]
    rw [hE] at H1
    have HE := hid H1
    rw [hsz] at hcl hcm
    generalize selN xs = N at *
    generalize hwC xs = C at *
    clear H1 hE
    by_cases hC : cutE N C xs first = 0
    · rw [if_pos hC, hC]
      rw [hC] at H2
      generalize ctL N C xs first = L at *
      clear hC hsz
      have HY := hid (fun a' l' c' x W (h : Reads .i32 W a' l' c' x) (hl : l' < 100000) => ref13_Lay N a' l' c' x W h (by omega))
      have HX := hid (fun a' l' c' x W (h : Reads .u8 W a' l' c' x) (hl : l' < 1000000) => ref29_LayN N C a' l' c' x W h hl)
      have HLL := hid (fun x => layL_len N x)
      go_enter Tryz.func13, Tryz.ntmps13
      go_wp2_with (first
        | (go_at_call 10; (with_reducible refine HE.out.mono ?_); rintro e w1 ⟨rfl, hb1⟩)
        | (go_at_call 8; (with_reducible refine (H2.out _ hb1).mono ?_); rintro e w2 ⟨v2, rfl, hO2, hb2⟩; (obtain ⟨a2, c2, rfl, hR2⟩ := hO2.rows)))
      have HR2 := hid hR2
      have t2 := below_then hb1 hb2
      have T2 := hid t2
      clear hO2 hR2
      go_loopw [10, 11] (fun ov iv wr => ∃ j : Nat, j ≤ L.length ∧ iv = .int .i64 j ∧ Hid (OwnG (shRow .u8) 42 w2.heap.size wr ov ((L.take j).map fun p => ewL N C (layL N p))) ∧ Below w2.heap.size w2 wr) (fun _ iv _ => L.length - (intOf iv).toNat)
      case atStart => exact ⟨0, Nat.zero_le _, rfl, OwnG.nil _ _ _ _, Below.refl _ _⟩
      case round =>
        obtain ⟨j, hj, rfl, hO, hbel⟩ := hrel
        by_cases hlt : j < L.length
        · obtain ⟨b, off, x, ai, li, ci, rfl, hbw, hcx, hrx, hg, ht⟩ := (HR2.out.below hbel).get1 hlt
          have hxl : li ≤ len := by
            have h1 := hcm.out x (List.mem_of_getElem? hg)
            have h2 := hrx.size
            omega
          have hyl := hid (show (layL N x).length < 1000000 by
            have h1 := HLL.out x
            have h2 := hrx.size
            omega)
          have hRX := hid hrx
          have hsn : Hid ((L.take (j + 1)).map (fun p => ewL N C (layL N p)) = (L.take j).map (fun p => ewL N C (layL N p)) ++ [ewL N C (layL N x)]) := by
            rw [Hid, ht, List.map_append]; rfl
          have hOl : Hid (((L.take j).map fun p => ewL N C (layL N p)).length < 100000000000) := by
            rw [Hid, List.length_map, List.length_take]; omega
          generalize (L.take j).map (fun p => ewL N C (layL N p)) = O at *
          have q1 : (j : Int) < (L.length : Int) := by omega
          clear hrx hg ht
          go_wp2_with (first
            | (go_at_call 31; (with_reducible refine (HY.out _ _ _ _ _ hRX.out (by omega)).mono ?_); rintro e w3 ⟨a3, l3, c3, rfl, r3, hb3⟩; have hz3 := r3.size; have hyl2 := hyl.out; have hl3 : l3 < 1000000 := (by omega); clear hz3 hyl2)
            | (go_at_call 32; (with_reducible refine (HX.out _ _ _ _ _ r3 hl3).mono ?_); rintro e w4 ⟨a4, l4, c4, rfl, r4, n4, hb4⟩; have t3 := below_then hbel hb3; have t4 := below_then t3 hb4; have O3 := hO.out.below hb3; have O4 := O3.below hb4; have hOf := n4.off (fun k hk => (O3.lt k hk).2))
            | (at_builtin; go_must (refine wpList_pushG (shRow .u8) (ewL N C (layL N x)) a4 l4 c4 rfl _ _ rfl Tryz.underlying37 infB31 rfl (by decide) (by decide) (w0 := w2) (W := w4) (v := u10) rfl O4 t4 rfl r4 hOf (by intro c hc; cases hc with | head => rfl | tail _ h => cases h) hOl.out ?_); intro v5 w5 O5 hb5))
          rw [← hsn.out] at O5
          go_roundw
          case rel => exact ⟨j + 1, by omega, by go_num, O5, hb5⟩
          case measure => simp [intOf]; omega
        · obtain rfl : j = L.length := by omega
          have hO' := hO.out
          rw [List.take_length] at hO'
          clear hO
          go_wp2_with fail
          go_ret2
          obtain ⟨vs, o1, o2⟩ := hO'
          have hs := T2.out.size
          refine ⟨_, rfl, ?_, T2.out.trans (hbel.mono hs)⟩
          refine ⟨vs, ⟨o1.1, ?_⟩, o2⟩
          rcases o1.2 with h | ⟨g, cp, cur, e1, e2, e3⟩
          · exact .inl h
          · exact .inr ⟨g, cp, cur, e1, Nat.le_trans hs e2, e3⟩
    · rw [if_neg hC]
      have hC' : (cutE N C xs first != 0) = true := by simpa using hC
      generalize cutE N C xs first = E2 at *
      generalize ctL N C xs first = L at *
      clear hC hcm hcl
      go_enter Tryz.func13, Tryz.ntmps13
      go_wp2_with (first
        | (go_at_call 10; (with_reducible refine HE.out.mono ?_); rintro e w1 ⟨rfl, hb1⟩)
        | (go_at_call 8; (with_reducible refine (H2.out _ hb1).mono ?_); rintro e w2 ⟨v2, rfl, hO2, hb2⟩; (obtain ⟨a2, c2, rfl, hR2⟩ := hO2.rows)))
      go_ret2
      exact ⟨_, rfl, OwnG.nil _ _ _ _, below_then hb1 hb2⟩
  · rw [if_neg hE, if_neg hE]
    have hE' : (selE xs != 0) = true := by simpa using hE
    have HE := hid H1
    generalize selE xs = E at *
    generalize selN xs = N at *
    generalize hwC xs = C at *
    clear H1 H2 hE hcl hcm
    go_enter Tryz.func13, Tryz.ntmps13
    go_wp2_with (go_at_call 10; (with_reducible refine HE.out.mono ?_); rintro e w1 ⟨rfl, hb1⟩)
    go_ret2
    exact ⟨_, rfl, OwnG.nil _ _ _ _, hb1⟩
theorem wrdL_mem {t : List Int} {r : Int} : ∀ x ∈ wrdL t r, x.length ≤ 75 := by
  intro x hx
  by_cases h : wrdE t r = 0
  · exact ((wrd_all h).1 x hx).2.2.2
  · rw [wrd_no h] at hx; cases hx
set_option maxRecDepth 100000 in
set_option maxHeartbeats 2000000 in
theorem ref31_Fold (a : Option Addr) (len cap : Nat) (xs : List Int) (first : Int) (w : World) (hr : Reads .i32 w a len cap xs) (hN : len < 100000) :
    Calls Tryz.prog 15 #[.slice a len cap, .int .i64 first] w fun e w' => ∃ v, e = .returned (.tuple #[v, .int .i64 (wrdE xs first)]) ∧ Own .u8 5 w.heap.size w' v (jnF (wrdL xs first)) ∧ Below w.heap.size w w' := by
  have hsz := hr.size
  have H1 := hid (ref31_Words a len cap xs first w hr hN)
  have hcl := wrdL_len xs first
  have hcm := hid (wrdL_mem (t := xs) (r := first))
  rw [hsz] at hcl
  clear hr hsz
  generalize wrdE xs first = E at *
  generalize wrdL xs first = L at *
  have hJL := hid (fun j => jnF_len (L := L.take j) (B := 75) (fun x hx => hcm.out x (List.mem_of_mem_take hx)))
  go_enter Tryz.func15, Tryz.ntmps15
  go_wp2_with (go_at_call 13; (with_reducible refine H1.out.mono ?_); rintro e w1 ⟨v1, rfl, hO1, hb1⟩; (obtain ⟨a1, c1, rfl, hR1⟩ := hO1.rows))
  have HR1 := hid hR1
  have T1 := hid hb1
  clear hO1 hR1
  go_loopw [8, 9] (fun ov iv wr => ∃ j : Nat, j ≤ L.length ∧ iv = .int .i64 j ∧ Own .u8 5 w1.heap.size wr ov (jnF (L.take j)) ∧ Below w1.heap.size w1 wr) (fun _ iv _ => L.length - (intOf iv).toNat)
  case atStart => exact ⟨0, Nat.zero_le _, rfl, Own.nil _ _ _ _, Below.refl _ _⟩
  case round =>
    obtain ⟨j, hj, rfl, hown, hbel⟩ := hrel
    by_cases hlt : j < L.length
    · obtain ⟨b, off, x, ai, li, ci, rfl, hbw, hcx1, hrx, hg, ht⟩ := HR1.out.get1 hlt
      have hcx := (hbel.cell (p := ⟨b, off + j, none⟩) hbw).trans hcx1
      have hxl : li ≤ 75 := by
        have h1 := hcm.out x (List.mem_of_getElem? hg)
        have h2 := hrx.size
        omega
      have hjl := hJL.out j
      rw [List.length_take] at hjl
      have hjm : min j L.length * (75 + 3) ≤ 100000 * 78 := Nat.mul_le_mul (by omega) (by omega)
      have hjl2 : (jnF (L.take j)).length ≤ 7800000 := by omega
      have hRX := hid hrx
      have q1 : (j : Int) < (L.length : Int) := by omega
      have hs := jnF_snoc (L.take j) x
      rw [← ht] at hs
      by_cases h0 : j = 0
      · subst h0
        rw [if_pos (by simp)] at hs
        have HS : Hid (jnF (L.take (0 + 1)) = jnF (L.take 0) ++ x) := by rw [Hid, hs]; simp [jnF]
        rw [Nat.add_zero] at hcx hcx1
        have hl1 : (jnF (L.take 0)).length + li < 1000000000000 := by omega
        have HL1 := hid hl1
        clear hs hrx hg ht hjl hjm hl1 hjl2
        go_wp2_with (at_builtin; go_must (refine wpList_more ST8 rfl _ _ rfl rfl rfl hown hbel (hRX.out.below hbel) HL1.out ?_); intro v3 w3 ho3 hb3)
        rw [← HS.out] at ho3
        go_roundw
        case rel => exact ⟨1, by omega, by go_num, ho3, hb3⟩
        case measure => simp [intOf]; omega
      · rw [if_neg (fun h => by have := congrArg List.length h; rw [List.length_take, List.length_nil] at this; omega)] at hs
        have HS : Hid (jnF (L.take (j + 1)) = (jnF (L.take j) ++ [13, 10, 32]) ++ x) := by rw [Hid, hs, List.append_assoc]
        have hl1 : (jnF (L.take j)).length + 3 < 1000000000000 := by omega
        have hl2 : (jnF (L.take j) ++ [13, 10, 32]).length + li < 1000000000000 := by rw [List.length_append]; simp; omega
        have q2 : (0 : Int) < (j : Int) := by omega
        have HL1 := hid hl1
        have HL2 := hid hl2
        clear hs hrx hg ht hjl hjm hl1 hl2 hjl2
        go_wp2_with (first
          | (at_builtin; have hX := ho3; clear hX; go_must (refine wpList_more ST8 rfl _ _ rfl rfl rfl ho3 hb3 (hRX.out.below hb3) HL2.out ?_); intro v4 w4 ho4 hb4)
          | (at_builtin; go_must (refine wpList_pushs ST8 [13, 10, 32] rfl _ _ rfl rfl ⟨_, rfl⟩ hown hbel HL1.out (by decide) ?_); intro v3 w3 ho3 hb3; have hc3 := (hb3.cell (p := ⟨b, off + j, none⟩) hbw).trans hcx1))
        rw [← HS.out] at ho4
        go_roundw
        case rel => exact ⟨j + 1, by omega, by go_num, ho4, hb4⟩
        case measure => simp [intOf]; omega
    · obtain rfl : j = L.length := by omega
      rw [List.take_length] at hown
      go_wp2_with fail
      go_ret2
      exact ⟨_, rfl, own_mono hown T1.out.size, T1.out.trans (hbel.mono T1.out.size)⟩
end Go.Proofs.YtdglnpkkfkagaaaGreat

/-! Arr -/
namespace Go.Proofs.YtdglnpkkfkagaaaGreat
open Go.RowKit Go.ChangeShapes Go.WideShapes

section
variable {H : Type} {enc : TypeId × Value → H} {P : Program} {w : World} {base : Nat} {spare : Nat → Bool} {held : Bool}

theorem open_arr {r : Reach} {b0 n : Nat} {t e : TypeId} {k : IntKind} {v : Value} {d : DataW H} {ps : List MemPlace} (ht : P.underlying t = some (.array n e)) (he : P.underlying e = some (.int k)) (hc : P.cellsOf e = 1) (hct : P.cellsOf t = n)
    (hval : Value.okWide P w r b0 t v) (hd : DataW.Trod enc P w base spare held t v d ps) :
    ∃ zs : List Int, zs.length = n ∧ v = .agg (zs.map (Value.int k)).toArray ∧ ∀ z ∈ zs, (Lit.int k z).wf = true := by
  unfold Value.okWide at hval
  rw [ht] at hval
  obtain ⟨cs, rfl, hsz, _⟩ := hval
  rw [hct] at hsz
  obtain ⟨fuel, hf⟩ := hd
  obtain ⟨xs, m, _, _, _, hl, hel⟩ := DataW.trod_array ht hf
  have key : ∀ i, i < n → ∃ z, cs[i]? = some (.int k z) ∧ (Lit.int k z).wf = true := by
    intro i hi
    have hE := hel i hi
    rw [hc, Nat.mul_one, List.getElem?_eq_getElem (by omega)] at hE
    obtain ⟨z, e1, _, hw⟩ := DataW.trod_int he hE
    refine ⟨z, ?_, hw⟩
    have h0 : (((Value.agg cs).cells.toList.drop i).take 1)[0]? = some (.int k z) := by rw [e1]; rfl
    simpa [Value.cells] using h0
  have hz : ∀ i, i < n → ∃ z, cs.toList[i]? = some (.int k z) ∧ (Lit.int k z).wf = true := fun i hi => by
    obtain ⟨z, h1, h2⟩ := key i hi
    exact ⟨z, by simpa using h1, h2⟩
  have main : ∀ (l : List Value), (∀ i, i < l.length → ∃ z, l[i]? = some (.int k z) ∧ (Lit.int k z).wf = true) → ∃ zs : List Int, zs.length = l.length ∧ l = zs.map (Value.int k) ∧ ∀ z ∈ zs, (Lit.int k z).wf = true := by
    intro l
    induction l with
    | nil => intro _; exact ⟨[], rfl, rfl, fun z hz => by cases hz⟩
    | cons u l ih =>
      intro h
      obtain ⟨z, h1, h2⟩ := h 0 (by simp)
      obtain ⟨zs, i1, i2, i3⟩ := ih (fun i hi => by
        obtain ⟨z, h1, h2⟩ := h (i + 1) (by simp; omega)
        exact ⟨z, by simpa using h1, h2⟩)
      simp only [List.getElem?_cons_zero, Option.some.injEq] at h1
      refine ⟨z :: zs, by simp [i1], by simp [h1, i2], fun y hy => ?_⟩
      rcases List.mem_cons.1 hy with rfl | hy
      · exact h2
      · exact i3 y hy
  obtain ⟨zs, i1, i2, i3⟩ := main cs.toList (fun i hi => hz i (by simp at hi; omega))
  refine ⟨zs, by rw [i1]; simpa using hsz, ?_, i3⟩
  rw [← i2]
theorem open_arr2 {r : Reach} {b0 : Nat} {t e : TypeId} {k : IntKind} {v : Value} {d : DataW H} {ps : List MemPlace} (ht : P.underlying t = some (.array 2 e)) (he : P.underlying e = some (.int k)) (hc : P.cellsOf e = 1) (hct : P.cellsOf t = 2)
    (hval : Value.okWide P w r b0 t v) (hd : DataW.Trod enc P w base spare held t v d ps) :
    ∃ x y : Int, v = .agg #[.int k x, .int k y] ∧ (Lit.int k x).wf = true ∧ (Lit.int k y).wf = true := by
  obtain ⟨zs, hl, rfl, hw⟩ := open_arr ht he hc hct hval hd
  match zs, hl with
  | [x, y], _ => exact ⟨x, y, rfl, hw x (by simp), hw y (by simp)⟩
theorem open_arr3 {r : Reach} {b0 : Nat} {t e : TypeId} {k : IntKind} {v : Value} {d : DataW H} {ps : List MemPlace} (ht : P.underlying t = some (.array 3 e)) (he : P.underlying e = some (.int k)) (hc : P.cellsOf e = 1) (hct : P.cellsOf t = 3)
    (hval : Value.okWide P w r b0 t v) (hd : DataW.Trod enc P w base spare held t v d ps) :
    ∃ x y z : Int, v = .agg #[.int k x, .int k y, .int k z] ∧ (Lit.int k x).wf = true ∧ (Lit.int k y).wf = true ∧ (Lit.int k z).wf = true := by
  obtain ⟨zs, hl, rfl, hw⟩ := open_arr ht he hc hct hval hd
  match zs, hl with
  | [x, y, z], _ => exact ⟨x, y, z, rfl, hw x (by simp), hw y (by simp), hw z (by simp)⟩
end
end Go.Proofs.YtdglnpkkfkagaaaGreat
