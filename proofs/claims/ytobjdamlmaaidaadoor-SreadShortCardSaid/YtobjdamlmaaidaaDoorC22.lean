/-
  Contracts of package useven's functions: Code, what is laid, how many runs.
-/
import Derived.Test.YtobjdamlmaaidaaDoorC22a
import Derived.Test.YtobjdamlmaaidaaDoorFirst
import Derived.Test.YtobjdamlmaaidaaDoorStmB
namespace Go.Proofs.YtobjdamlmaaidaaDoor
open Go.RowKit
set_option linter.unusedVariables false

set_option maxHeartbeats 2000000 in
theorem useven_Code (a : Option Addr) (len cap : Nat) (xs : List Int) (w : World) (hr : Reads .i32 w a len cap xs) (hN : len < 1000000) :
    Calls Tryd.prog 45 #[.slice a len cap] w fun e w' => ∃ v, e = .returned v ∧ Own .u8 5 w.heap.size w' v (codU xs) ∧ Below w.heap.size w w' := by
  unfold codU
  by_cases hs : xs.all scB = true
  · rw [if_pos hs]
    have hu : (unL xs).length ≤ 2 * len := by have := unL_len xs; have := hr.size; omega
    have ho : (ocU (unL xs)).length ≤ 4 * len := by have := ocU_len (unL xs); omega
    have HL := hid (units_Lay a len cap xs w hr (by omega) hs)
    generalize unL xs = U at hu ho HL ⊢
    clear hs hr
    go_enter Tryd.func45, Tryd.ntmps45
    go_wp2_with (first
      | (go_at_call 54; (with_reducible refine HL.out.mono ?_); rintro e w1 ⟨a1, c1, rfl, r1, b1⟩)
      | (go_at_call 56; (with_reducible refine (units_Octets _ _ _ _ _ r1 (by omega)).mono ?_); rintro e w2 ⟨a2, c2, rfl, r2, b2⟩)
      | (go_at_call 55; (with_reducible refine (bcode_Bare _ _ _ _ _ r2 (by omega)).mono ?_); rintro e w3 ⟨v3, rfl, o3, b3⟩))
    go_ret
    exact ⟨_, rfl, own_mono o3 (Nat.le_trans b1.size b2.size), below_then (below_then b1 b2) b3⟩
  · rw [if_neg hs]
    have HL := hid (units_LayNo a len cap xs w hr (by simpa using hs))
    have e0 : Hid (bareB (ocU []) = []) := rfl
    clear hs hr
    go_enter Tryd.func45, Tryd.ntmps45
    go_wp2_with (first
      | (go_at_call 54; (with_reducible refine HL.out.mono ?_); rintro e w1 ⟨rfl, rfl⟩)
      | (go_at_call 56; (with_reducible refine (units_Octets _ _ _ _ _ (Reads.nil .u16 _ none 0 (Nat.zero_le _)) (by omega)).mono ?_); rintro e w2 ⟨a2, c2, rfl, r2, b2⟩)
      | (go_at_call 55; (with_reducible refine (bcode_Bare _ _ _ _ _ r2 (by decide)).mono ?_); rintro e w3 ⟨v3, rfl, o3, b3⟩))
    go_ret
    rw [e0.out] at o3
    exact ⟨_, rfl, own_mono o3 b2.size, below_then b2 b3⟩
set_option maxRecDepth 100000 in
set_option maxHeartbeats 2000000 in
theorem layer_alone (B : Nat) (rv v : Value) (a : Option Addr) (len cap : Nat) (xs O : List Int) (w0 w : World) (hr : Reads .i32 w0 a len cap xs) (hb : Below w0.heap.size w0 w) (hB : Blk w B 61 #[rv, v]) (hDB : w0.heap.size ≤ B)
    (ho : Own .u8 5 w0.heap.size w v O) (hx : ∀ c ∈ xs, begB c = false) (hN : len < 1000000) (hO : O.length < 100000000) :
    Calls Tryd.prog 31 #[.pointer (some ⟨B, 0, none⟩), .slice a len cap] w fun e w' => (∃ r, e = .returned r) ∧ ∃ v', Blk w' B 61 #[rv, v'] ∧ Own .u8 5 w0.heap.size w' v' (O ++ aloneU xs) ∧ Below w0.heap.size w0 w' := by
  have HR := hid hr
  have HX := hid hx
  have hl := hr.len_le
  have hT : (61 : Nat) ≠ 5 := by decide
  clear hr hx
  go_enter Tryd.func31, Tryd.ntmps31
  go_wp2_with fail
  go_loopw [8] (fun i wr => ∃ (k : Nat) (u : Value), k ≤ len ∧ i = .int .i64 k ∧ Blk wr B 61 #[rv, u] ∧ Own .u8 5 w0.heap.size wr u (O ++ aloneU (xs.take k)) ∧ Below w0.heap.size w0 wr) (fun i _ => len - (intOf i).toNat)
  case atStart => exact ⟨0, v, Nat.zero_le _, rfl, hB, by simpa [aloneU] using ho, hb⟩
  case round =>
    obtain ⟨k, u, hk, rfl, hBk, hown, hbel⟩ := hrel
    have hll := aloneU_len (xs.take k)
    rw [List.length_take] at hll
    by_cases hlt : k < len
    · obtain ⟨b, off, x, rfl, _, hcx, h0, h1, hxx⟩ := (HR.out.below hbel).getR hlt
      have e1 := hid (show aloneU (xs.take (k + 1)) = aloneU (xs.take k) ++ aloneU [x] by rw [hxx.out.2]; unfold aloneU; rw [List.flatMap_append])
      have hno := beg_no (HX.out x (List.mem_of_getElem? hxx.out.1))
      have c1 := hBk.cell (i := 1) (v := u) rfl
      have hBd : 9 ≤ x ∧ x ≤ 122 := by
        rcases hno with h | ⟨_, rfl⟩
        · exact dir_bd h
        · decide
      obtain ⟨x9, x122⟩ := hBd
      have hwx : ∀ y ∈ [x], (Lit.int .u8 y).wf = true := by intro y hy; simp at hy; subst hy; exact mk_u8 (by omega) (by omega)
      have HWX := hid hwx
      clear hno hwx h0 h1
      by_cases h43 : x = 43
      · subst h43
        have e2 : Hid (aloneU [43] = [43, 45]) := rfl
        have hw45 : Hid (∀ y ∈ [(45 : Int)], (Lit.int .u8 y).wf = true) := by intro y hy; simp at hy; subst hy; rfl
        go_wp2_with (first
          | (at_builtin; have hX := ho4; clear hX; go_must (refine wpList_pushsB CT8 [45] rfl _ _ rfl rfl ⟨1, by rw [size_set]; rfl⟩ ho4 hb4 hB4 hT (by simp only [List.length_append, List.length_cons, List.length_nil]; omega) hw45.out ?_); intro v5 w5 ho5 hb5 hB5; obtain ⟨a5, n5, k5, rfl⟩ := ho5.shape; have l5 := hB5.lt; have f5 := hB5.frozen 1; have c5 := hB5.cell (i := 1) (v := .slice a3 n3 k3) rfl; have hB6 : Blk (w5.setCell ⟨B, 1, none⟩ (.slice a5 n5 k5)) B 61 #[rv, .slice a5 n5 k5] := hB5.set 1 _; have ho6 := ho5.beside hB5 hT (grownBy_set w5 B 1 (.slice a5 n5 k5)); have hb6 := below_beside hb5 (grownBy_set w5 B 1 (.slice a5 n5 k5)) hb5.size hDB)
          | (at_builtin; go_must (refine wpList_pushsB CT8 [43] rfl _ _ rfl rfl ⟨_, rfl⟩ hown hbel hBk hT (by simp only [List.length_append, List.length_cons, List.length_nil]; omega) HWX.out ?_); intro v3 w3 ho3 hb3 hB3; obtain ⟨a3, n3, k3, rfl⟩ := ho3.shape; have l3 := hB3.lt; have f3 := hB3.frozen 1; have c3 := hB3.cell (i := 1) (v := u) rfl; have hB4 : Blk (w3.setCell ⟨B, 1, none⟩ (.slice a3 n3 k3)) B 61 #[rv, .slice a3 n3 k3] := hB3.set 1 _; have ho4 := ho3.beside hB3 hT (grownBy_set w3 B 1 (.slice a3 n3 k3)); have hb4 := below_beside hb3 (grownBy_set w3 B 1 (.slice a3 n3 k3)) hb3.size hDB; have c4 := hB4.cell (i := 1) (v := .slice a3 n3 k3) rfl))
        go_roundw
        case rel => exact ⟨k + 1, _, by omega, by go_num, hB6, (by have e := e1.out; rw [e2.out] at e; rw [e]; simpa using ho6), hb6⟩
        case measure => simp [intOf]; omega
      · have e2 : Hid (aloneU [x] = [x]) := by unfold Hid aloneU; simp [h43]
        have b43 : (x == 43) = false := by simpa using h43
        clear h43
        go_wp2_with (first
          | (at_builtin; go_must (refine wpList_pushsB CT8 [x] rfl _ _ rfl rfl ⟨_, rfl⟩ hown hbel hBk hT (by simp only [List.length_append, List.length_cons, List.length_nil]; omega) HWX.out ?_); intro v3 w3 ho3 hb3 hB3; obtain ⟨a3, n3, k3, rfl⟩ := ho3.shape; have l3 := hB3.lt; have f3 := hB3.frozen 1; have c3 := hB3.cell (i := 1) (v := u) rfl; have hB4 : Blk (w3.setCell ⟨B, 1, none⟩ (.slice a3 n3 k3)) B 61 #[rv, .slice a3 n3 k3] := hB3.set 1 _; have ho4 := ho3.beside hB3 hT (grownBy_set w3 B 1 (.slice a3 n3 k3)); have hb4 := below_beside hb3 (grownBy_set w3 B 1 (.slice a3 n3 k3)) hb3.size hDB))
        go_roundw
        case rel => exact ⟨k + 1, _, by omega, by go_num, hB4, (by have e := e1.out; rw [e2.out] at e; rw [e, ← List.append_assoc]; exact ho4), hb4⟩
        case measure => simp [intOf]; omega
    · have hA := hown
      rw [HR.out.all (by omega)] at hA
      have HA := hid hA
      clear hA hown
      go_wp2_with fail
      go_end0
      exact ⟨⟨_, rfl⟩, u, hBk, HA.out, hbel⟩
set_option maxRecDepth 100000 in
set_option maxHeartbeats 2000000 in
theorem layer_coded (B : Nat) (rv v : Value) (a : Option Addr) (len cap : Nat) (xs O : List Int) (w0 w : World) (hr : Reads .i32 w0 a len cap xs) (hb : Below w0.heap.size w0 w) (hB : Blk w B 61 #[rv, v]) (hDB : w0.heap.size ≤ B)
    (ho : Own .u8 5 w0.heap.size w v O) (hN : len < 1000000) (hO : O.length < 100000000) :
    Calls Tryd.prog 32 #[.pointer (some ⟨B, 0, none⟩), .slice a len cap] w fun e w' => (∃ r, e = .returned r) ∧ ∃ v', Blk w' B 61 #[rv, v'] ∧ Own .u8 5 w0.heap.size w' v' (O ++ closeU xs) ∧ Below w0.heap.size w0 w' := by
  have HR := hid hr
  have hl := hr.len_le
  have hsz := hr.size
  have hT : (61 : Nat) ≠ 5 := by decide
  have hcl := codU_le xs
  rw [hsz] at hcl
  by_cases h0 : len = 0
  · subst h0
    obtain rfl : xs = [] := List.eq_nil_of_length_eq_zero hsz
    have e0 : Hid (O ++ closeU [] = O) := by unfold Hid closeU; simp
    clear hr hcl
    go_enter Tryd.func32, Tryd.ntmps32
    go_wp2_with fail
    go_end0
    exact ⟨⟨_, rfl⟩, v, hB, by rw [e0.out]; exact ho, hb⟩
  · have hpos : 0 < len := by omega
    have e0 : Hid (O ++ closeU xs = O ++ [43] ++ codU xs ++ [45]) := by
      unfold Hid closeU
      rw [if_neg (by intro h; rw [h] at hsz; simp at hsz; omega)]
      simp
    have HC := hid (fun W (hbW : Below w0.heap.size w0 W) => useven_Code a len cap xs W (hr.below hbW) hN)
    generalize codU xs = CU at hcl e0 HC
    have c1 := hB.cell (i := 1) (v := v) rfl
    have hw43 : Hid (∀ y ∈ [(43 : Int)], (Lit.int .u8 y).wf = true) := by intro y hy; simp at hy; subst hy; rfl
    have hw45 : Hid (∀ y ∈ [(45 : Int)], (Lit.int .u8 y).wf = true) := by intro y hy; simp at hy; subst hy; rfl
    clear hr h0 hsz
    go_enter Tryd.func32, Tryd.ntmps32
    go_wp2_with (first
      | (at_builtin; go_must (refine wpList_pushsB CT8 [43] rfl _ _ rfl rfl ⟨_, rfl⟩ ho hb hB hT (by simp only [List.length_cons, List.length_nil]; omega) hw43.out ?_); intro v3 w3 ho3 hb3 hB3; obtain ⟨a3, n3, k3, rfl⟩ := ho3.shape; have l3 := hB3.lt; have f3 := hB3.frozen 1; have c3 := hB3.cell (i := 1) (v := v) rfl; have hB4 : Blk (w3.setCell ⟨B, 1, none⟩ (.slice a3 n3 k3)) B 61 #[rv, .slice a3 n3 k3] := hB3.set 1 _; have ho4 := ho3.beside hB3 hT (grownBy_set w3 B 1 (.slice a3 n3 k3)); have hb4 := below_beside hb3 (grownBy_set w3 B 1 (.slice a3 n3 k3)) hb3.size hDB))
    generalize w3.setCell ⟨B, 1, none⟩ (.slice a3 n3 k3) = W at hB4 ho4 hb4 ⊢
    have c4 := hB4.cell (i := 1) (v := .slice a3 n3 k3) rfl
    have c4d : W.drew.cell? ⟨B, 1, none⟩ = some (.slice a3 n3 k3) := c4
    have hBd : Blk W.drew B 61 #[rv, .slice a3 n3 k3] := hB4
    have HX := hid (And.intro hBd (And.intro ho4.drew' (below_drew hb4)))
    clear hB3 ho3 hb3 l3 f3 c3 hB4 ho4 hb4 hB ho hb c1 hBd
    go_region_law (first
      | (refine step_moreB (w0 := w0) CT8 rfl (.tmp 20) (.tmp 22) rfl rfl rfl ho6 hb6 hB6 hT hr6 (by simp only [List.length_append, List.length_cons, List.length_nil]; omega) ?_; intro a7 n7 k7 w7 ho7 hb7 hB7; have l7 := hB7.lt; have f7 := hB7.frozen 1; have c7 := hB7.cell (i := 1) (v := .slice a3 n3 k3) rfl)
      | (go_simp; go_at_call 45; (with_reducible refine (HC.out _ HX.out.2.2).mono ?_); rintro e w5 ⟨v5, rfl, ho5, hb5⟩; obtain ⟨a5, k5, rfl, hr6⟩ := ho5.reads; have hB6 : Blk w5 B 61 #[rv, .slice a3 n3 k3] := HX.out.1.below hb5 HX.out.1.lt; have ho6 := HX.out.2.1.below hb5; have hb6 := below_then' HX.out.2.2 hb5 (Nat.le_refl _); have c6 := hB6.cell (i := 1) (v := .slice a3 n3 k3) rfl))
    all_goals
      have hB8 : Blk (w7.setCell ⟨B, 1, none⟩ (.slice a7 n7 k7)) B 61 #[rv, .slice a7 n7 k7] := hB7.set 1 _
      have ho8 := ho7.beside hB7 hT (grownBy_set w7 B 1 (.slice a7 n7 k7))
      have hb8 := below_beside hb7 (grownBy_set w7 B 1 (.slice a7 n7 k7)) hb7.size hDB
      have c8 := hB8.cell (i := 1) (v := .slice a7 n7 k7) rfl
      go_wp2_with (at_builtin; go_must (refine wpList_pushsB CT8 [45] rfl _ _ rfl rfl ⟨1, by rw [size_set]; rfl⟩ ho8 hb8 hB8 hT (by simp only [List.length_append, List.length_cons, List.length_nil]; omega) hw45.out ?_); intro v9 w9 ho9 hb9 hB9; obtain ⟨a9, n9, k9, rfl⟩ := ho9.shape; have l9 := hB9.lt; have f9 := hB9.frozen 1; have c9 := hB9.cell (i := 1) (v := .slice a7 n7 k7) rfl; have hB10 : Blk (w9.setCell ⟨B, 1, none⟩ (.slice a9 n9 k9)) B 61 #[rv, .slice a9 n9 k9] := hB9.set 1 _; have ho10 := ho9.beside hB9 hT (grownBy_set w9 B 1 (.slice a9 n9 k9)); have hb10 := below_beside hb9 (grownBy_set w9 B 1 (.slice a9 n9 k9)) hb9.size hDB)
      go_end0
      exact ⟨⟨_, rfl⟩, _, hB10, by rw [e0.out]; exact ho10, hb10⟩
theorem closeU_len (t : List Int) : (closeU t).length ≤ 10 * t.length := by
  have := codU_le t
  unfold closeU
  split
  · simp
  · have : 0 < t.length := by rw [List.length_pos_iff]; assumption
    simp only [List.length_cons, List.length_append, List.length_nil]
    omega
set_option maxRecDepth 100000 in
set_option maxHeartbeats 2000000 in
theorem useven_Lay (a : Option Addr) (len cap : Nat) (xs : List Int) (w : World) (hr : Reads .i32 w a len cap xs) (hN : len < 1000000) :
    Calls Tryd.prog 20 #[.slice a len cap] w fun e w' => ∃ v, e = .returned (.tuple #[v, .int .i64 (lay7E xs)]) ∧ Own .u8 5 w.heap.size w' v (lay7 xs) ∧ Below w.heap.size w w' := by
  have HR := hid hr
  have hl := hr.len_le
  have hT : (61 : Nat) ≠ 5 := by decide
  have hR := hid (scalar_Right a len cap xs w hr)
  unfold lay7 lay7E
  clear hr
  cases hs : xs.all scB
  · rw [hs] at hR
    simp only [Bool.false_eq_true, if_false]
    go_enter Tryd.func20, Tryd.ntmps20
    go_wp2_with (go_at_call 28; (with_reducible refine hR.out.mono ?_); rintro e w' ⟨rfl, rfl⟩)
    go_ret2
    exact ⟨_, rfl, Own.nil _ _ _ _, Below.refl _ _⟩
  · rw [hs] at hR
    simp only [if_true]
    go_enter Tryd.func20, Tryd.ntmps20
    go_wp2_with (first
      | (go_at_call 28; (with_reducible refine hR.out.mono ?_); rintro e w' ⟨rfl, rfl⟩)
      | (at_make; (refine wpList_make0 (n := len) CT8 rfl _ _ rfl rfl rfl (Below.refl _ _) (by omega) ?_); intro v1 w1 ho1 hb1; obtain ⟨a1, n1, c1, rfl⟩ := ho1.shape))
    have hB1 : Blk (w1.alloc (.cells #[.slice a len cap, .slice a1 n1 c1] 61)) w1.heap.size 61 #[.slice a len cap, .slice a1 n1 c1] := Blk.new _ _ _
    have hb2 := hb1.alloc hb1.size (.cells #[.slice a len cap, .slice a1 n1 c1] 61)
    have ho2 : Own .u8 5 w.heap.size (w1.alloc (.cells #[.slice a len cap, .slice a1 n1 c1] 61)) (.slice a1 n1 c1) [] := ho1.below ((Below.refl _ _).alloc (Nat.le_refl _) _)
    have hDB := hb1.size
    generalize w1.alloc (.cells #[.slice a len cap, .slice a1 n1 c1] 61) = W at hB1 hb2 ho2 ⊢
    generalize w1.heap.size = B at hB1 hDB ⊢
    clear ho1 hb1 hR hs
    go_loopw [] (fun wr => ∃ (a' : Option Addr) (m c' : Nat) (ys O : List Int) (v : Value), m ≤ len ∧ O.length + 10 * m ≤ 10 * len ∧ Reads .i32 w a' m c' ys ∧ Blk wr B 61 #[.slice a' m c', v] ∧ Own .u8 5 w.heap.size wr v O ∧ Below w.heap.size w wr ∧ Hid (O ++ layU ys [] = layU xs [])) (fun wr => lenV ((wr.cell? ⟨B, 0, none⟩).getD undef))
    case atStart => exact ⟨a, len, cap, xs, [], _, Nat.le_refl _, by simp, HR.out, hB1, ho2, hb2, rfl⟩
    case round =>
      obtain ⟨a', m, c', ys, O, v, hm, hO, hry, hB, hown, hbel, hE⟩ := hrel
      have c0 := hB.cell (i := 0) (v := .slice a' m c') rfl
      have HM := hid (runs_more B 61 (fun x => #[x, v]) (fun _ => rfl) m c' a' wr hB)
      obtain ⟨M, J, hM, hJ, hM1, hJ1, hp, hall, _, hlay, _⟩ := layU_next ys
      have hys := hry.size
      have hOl := hO
      by_cases h0 : 0 < m
      · rw [decide_eq_true h0] at HM
        have hMJ : 0 < M + J := hp (by intro h; rw [h] at hys; simp at hys; omega)
        have HN := hid (runs_next B 61 (fun x => #[x, v]) (fun _ => rfl) (fun _ _ => rfl) a' m c' ys w wr hry hbel hB hDB (by omega))
        have HA := hid (fun (A : Option Addr) (C : Nat) (w2 : World) (R : Value) (r1 : Reads .i32 w A M C (ys.take M)) (hb : Below w.heap.size w w2) (hBB : Blk w2 B 61 #[R, v]) (ho : Own .u8 5 w.heap.size w2 v O) => layer_alone B R v A M C (ys.take M) O w w2 r1 hb hBB hDB ho hall (by omega) (by omega))
        have hal := aloneU_len (ys.take M)
        have hcl := closeU_len ((ys.drop M).take J)
        rw [List.length_take] at hal hcl
        rw [List.length_drop] at hcl
        have hol : (O ++ aloneU (ys.take M)).length < 100000000 := by rw [List.length_append]; omega
        have hO2 : (O ++ aloneU (ys.take M) ++ closeU ((ys.drop M).take J)).length + 10 * (m - M - J) ≤ 10 * len := by rw [List.length_append, List.length_append]; omega
        have HE : Hid (O ++ aloneU (ys.take M) ++ closeU ((ys.drop M).take J) ++ layU ((ys.drop M).drop J) [] = layU xs []) := by
          have e := hE.out
          rw [hlay] at e
          unfold Hid
          rw [← e]
          simp only [List.append_assoc]
        have HMM := hid hM
        have HJJ := hid hJ
        have HL := hid hol
        clear hM hJ hp hall hlay hE hal hcl hol
        go_wp2_with (first
          | (go_at_call 29; (with_reducible refine HM.out.mono ?_); rintro e w' ⟨rfl, rfl⟩)
          | (go_at_call 30; (with_reducible refine HN.out.mono ?_); rintro e w2 ⟨M', J', k1, a2, k2, a3, k3, hM', hJ', rfl, r1, r2, r3, g1, B1⟩; obtain rfl : M' = M := hM'.trans HMM.out.symm; obtain rfl : J' = J := hJ'.trans HJJ.out.symm; clear hM' hJ'; have o1 := hown.beside hB hT g1; have b1 := below_beside hbel g1 hbel.size hDB)
          | (go_at_call 31; (with_reducible refine (HA.out _ _ _ _ r1 b1 B1 o1).mono ?_); rintro e w4 ⟨⟨_, rfl⟩, v4, B4, o4, b4⟩)
          | (go_at_call 32; (with_reducible refine (layer_coded B _ v4 _ _ _ _ _ w w4 r2 b4 B4 hDB o4 (by omega) HL.out).mono ?_); rintro e w6 ⟨⟨_, rfl⟩, v6, B6, o6, b6⟩))
        have c6 := B6.cell (i := 0) rfl
        go_roundw
        case rel => exact ⟨a3, _, k3, _, _, v6, by omega, hO2, r3, B6, o6, b6, HE⟩
        case measure => rw [c0, c6]; simp [lenV]; omega
      · rw [decide_eq_false h0] at HM
        obtain rfl : ys = [] := List.eq_nil_of_length_eq_zero (by omega)
        have HE : Hid (O = layU xs []) := by
          have e := hE.out
          unfold Hid
          rw [← e]; simp [layU, closeU]
        have c1 := hB.cell (i := 1) (v := v) rfl
        clear hM hJ hp hall hlay hE
        go_wp2_with (go_at_call 29; (with_reducible refine HM.out.mono ?_); rintro e w' ⟨rfl, rfl⟩)
        go_ret2
        exact ⟨v, rfl, by rw [← HE.out]; exact hown, hbel⟩
end Go.Proofs.YtobjdamlmaaidaaDoor
