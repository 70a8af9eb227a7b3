/-
  Texts of ours laid together: C23a, Itm.
-/
import Derived.Test.YtiacijodoojgoaaDoorRows
import Derived.Test.YtiacijodoojgoaaDoorZ19

/-! C23a -/
namespace Go.Proofs.YtiacijodoojgoaaDoor
open Go.RowKit
set_option linter.unusedVariables false

def noD (c : Int) : Bool := !isDig c
theorem noD_cnt (xs : List Int) : cntF noD xs = digN xs := by
  unfold cntF digN noD
  simp

theorem sread_isOther (c : Int) (w : World) (h0 : 0 ≤ c) (h1 : c ≤ 255) :
    Calls Tryd.prog 102 #[.int .u8 c] w fun e w' => e = .returned (.bool (noD c)) ∧ w = w' := by
  have hV := bcode_Value c w h0 h1
  unfold noD
  generalize isDig c = D at *
  generalize valI c = V at *
  have HV := hid hV
  clear hV
  go_enter Tryd.func102, Tryd.ntmps102
  go_wp2_with (go_at_call 91; (with_reducible refine HV.out.mono ?_); rintro e w' ⟨rfl, rfl⟩)
  go_ret
  exact ⟨rfl, rfl⟩
set_option maxHeartbeats 1000000 in
theorem idx_noD (a : Option Addr) (len cap : Nat) (xs : List Int) (w : World) (hr : Reads .u8 w a len cap xs) :
    Calls Tryd.prog 67 #[.slice a len cap, .func (.func 102) #[] #[]] w fun e w' => e = .returned (.int .i64 (idxI noD xs)) ∧ w = w' := by
  have hl := hr.len_le
  have HR := hid hr
  clear hr
  go_enter Tryd.func67, Tryd.ntmps67
  go_wp2
  go_loop [8] (fun i => ∃ k : Nat, k ≤ len ∧ i = .int .i64 k ∧ Hid ((xs.take k).any noD = false)) (fun i => len - (intOf i).toNat)
  case atStart => exact ⟨0, Nat.zero_le _, rfl, rfl⟩
  case round =>
    obtain ⟨k, hk, rfl, hn⟩ := hrel
    by_cases hlt : k < len
    · obtain ⟨b, off, x, rfl, _, hc, h0, h1, hx⟩ := HR.out.get8 hlt
      cases hs : noD x
      · have H := hid hs
        go_wp2_with (go_at_call 102; (with_reducible refine (sread_isOther _ _ h0 h1).mono ?_); rintro e w' ⟨rfl, rfl⟩; rw [hs])
        go_round
        case rel => exact ⟨k + 1, by omega, by go_num, none_yes hx.out.2 hn.out H.out⟩
        case measure => simp [intOf]; omega
      · have H := hid hs
        go_wp2_with (go_at_call 102; (with_reducible refine (sread_isOther _ _ h0 h1).mono ?_); rintro e w' ⟨rfl, rfl⟩; rw [hs])
        go_ret
        exact ⟨ret_int (idx_hit hx.out.1 hn.out H.out).symm, rfl⟩
    · go_wp2
      go_ret
      exact ⟨ret_int (by rw [← HR.out.all (show len ≤ k by omega)]; exact (idx_none hn.out).symm), rfl⟩
theorem sread_leading (a : Option Addr) (len cap : Nat) (xs : List Int) (w : World) (hr : Reads .u8 w a len cap xs) :
    Calls Tryd.prog 92 #[.slice a len cap] w fun e w' => e = .returned (.slice a (digN xs) cap) ∧ w = w' := by
  have HI := hid (idx_noD a len cap xs w hr)
  have hx := idx_cntF noD xs
  have hrm := hr.room
  have hsz := hr.size
  have hle := digN_le xs
  rw [noD_cnt] at hx
  obtain ⟨m, hm⟩ : ∃ m, m = digN xs := ⟨_, rfl⟩
  rw [← hm] at hx hle ⊢
  by_cases ha : xs.any noD = true
  · rw [if_pos ha] at hx
    rw [hx] at HI
    have n0 : ¬ (m : Int) < 0 := by omega
    have q0 : (0 : Int) ≤ (m : Int) := by omega
    have q2 : (m : Int) ≤ (cap : Int) := by omega
    clear hx ha hm hr
    go_enter Tryd.func92, Tryd.ntmps92
    go_wp2_with (go_at_call 67; (with_reducible refine HI.out.mono ?_); rintro e w' ⟨rfl, rfl⟩)
    go_ret
    exact ⟨rfl, rfl⟩
  · rw [if_neg ha] at hx
    have hmm : m = len := by
      have := cntF_all (f := noD) (xs := xs) (by simpa using ha)
      rw [noD_cnt, ← hm] at this
      omega
    subst hmm
    rw [hx] at HI
    clear hx ha hm hr
    go_enter Tryd.func92, Tryd.ntmps92
    go_wp2_with (go_at_call 67; (with_reducible refine HI.out.mono ?_); rintro e w' ⟨rfl, rfl⟩)
    go_ret
    exact ⟨rfl, rfl⟩

/-- A piece: a run's digits, or a sign; may it stand there? -/
structure Pc (w0 : World) (L : Nat) where
  a : Option Addr
  m : Nat
  c : Nat
  d : List Int
  s : Int
  r : Bool
  hr : Reads .u8 w0 a m c d
  hl : m ≤ L
  h0 : 0 ≤ s
  h1 : s ≤ 65533
  hd : d.all isDig = true
/-- What a piece is read as: the signs; are they right; is it a run? -/
def pcv (d : List Int) (s : Int) (r : Bool) : List Int × Bool × Bool := if d = [] then ([s], r, false) else (runT d ++ lftT d, runOk d, true)
def Pc.val {w0 : World} {L : Nat} (x : Pc w0 L) : List Int × Bool × Bool := pcv x.d x.s x.r
/-- A piece as the program hands it on. -/
def Pc.enc {w0 : World} {L : Nat} (x : Pc w0 L) : Value := .agg #[.slice x.a x.m x.c, .int .i32 x.s, .bool x.r]

theorem drop_cons {xs : List Int} {k : Nat} {x : Int} (h : xs[k]? = some x) : xs.drop k = x :: xs.drop (k + 1) := by
  have hk : k < xs.length := (List.getElem?_eq_some_iff.1 h).1
  rw [List.drop_eq_getElem_cons hk, (List.getElem?_eq_some_iff.1 h).2]
theorem nx7_plus (r : List Int) : nx7 (43 :: r) = 1 + digN r + (if hdB is45 (r.drop (digN r)) = true then 1 else 0) ∧ u7 (43 :: r) = (if 0 < digN r then (runT (r.takeWhile isDig) ++ lftT (r.takeWhile isDig), runOk (r.takeWhile isDig), true) else ([43], hdB is45 (r.drop (digN r)), false)) := by
  have hd := dig_at r 0 (Nat.zero_le _)
  rw [List.drop_zero] at hd
  have h1 : ¬ (127 : Int) < 43 := by decide
  have h2 : ¬ (43 : Int) ≠ 43 := by decide
  unfold nx7 u7
  dsimp only
  rw [if_neg h2, if_neg h1, if_neg h2, hd]
  by_cases h : 0 < digN r
  · rw [decide_eq_true h, if_pos rfl, if_pos rfl, if_pos h]
    exact ⟨rfl, rfl⟩
  · have h0 : digN r = 0 := by omega
    rw [decide_eq_false h, if_neg Bool.false_ne_true, if_neg Bool.false_ne_true, if_neg h, h0, List.drop_zero]
    refine ⟨?_, rfl⟩
    split <;> rfl
set_option maxRecDepth 100000 in
set_option maxHeartbeats 1000000 in
theorem sread_opened (w0 w : World) (b off len cap : Nat) (r : List Int) (hr : Reads .u8 w0 (some ⟨b, off, none⟩) len cap (43 :: r)) (hb : Below w0.heap.size w0 w) (hN : len < 10000000000) :
    Calls Tryd.prog 87 #[.slice (some ⟨b, off, none⟩) len cap] w fun e w' => ∃ p : Pc w0 len, e = .returned (.tuple #[p.enc, .int .i64 (nx7 (43 :: r))]) ∧ p.val = u7 (43 :: r) ∧ Below w.heap.size w w' := by
  obtain ⟨e1, e2⟩ := nx7_plus r
  have hsz := hr.size
  have hrm := hr.room
  have hl := hr.len_le
  rw [List.length_cons] at hsz
  have hrw := hr.below hb
  have hp := hr.piece (l := 1) (r := len) (by omega) (Nat.le_refl _)
  rw [List.take_of_length_le (by simp; omega), List.drop_one, List.tail_cons] at hp
  have hle := digN_le r
  have htk := take_digN r
  rw [e1, e2, ← htk]
  obtain ⟨n, hn⟩ : ∃ n, n = digN r := ⟨_, rfl⟩
  have hall : (r.take n).all isDig = true := by rw [hn, htk]; exact List.all_takeWhile
  rw [← hn] at hle ⊢
  have hK : (hdB is45 (r.drop n) = true ∧ 1 + n < len ∧ w.cell? ⟨b, off + (1 + n), none⟩ = some (.int .u8 45)) ∨ (hdB is45 (r.drop n) = false ∧ (1 + n = len ∨ (1 + n < len ∧ ∃ y, w.cell? ⟨b, off + (1 + n), none⟩ = some (.int .u8 y) ∧ (y == 45) = false))) := by
    by_cases h : 1 + n < len
    · obtain ⟨b', off', y, hA, _, hcy, _, _, hy⟩ := hrw.get8 h
      cases hA
      have hd : (43 :: r).drop (1 + n) = y :: (43 :: r).drop (1 + n + 1) := drop_cons hy.out.1
      rw [show 1 + n = n + 1 by omega, List.drop_succ_cons] at hd
      rw [hd]
      by_cases hy45 : y = 45
      · subst hy45
        exact .inl ⟨rfl, h, hcy⟩
      · exact .inr ⟨by simpa [hdB, is45] using hy45, .inr ⟨h, y, hcy, by simpa using hy45⟩⟩
    · exact .inr ⟨by rw [List.drop_of_length_le (by omega)]; rfl, .inl (by omega)⟩
  have hbc : Below w0.heap.size w0 (w.alloc (.cells #[.slice none 0 0, .int .i32 0, .bool false] 94)) := hb.alloc hb.size _
  have hcm' : ∀ v, w.cell? ⟨b, off + (1 + n), none⟩ = some v → (w.alloc (.cells #[.slice none 0 0, .int .i32 0, .bool false] 94)).cell? ⟨b, off + (1 + n), none⟩ = some v := fun v h => (World.cell?_alloc_lt _ _ _ (World.block_lt_of_cell? w _ h)).trans h
  by_cases hc : cap = 1
  · subst hc
    obtain rfl : len = 1 := by omega
    obtain rfl : r = [] := List.eq_nil_of_length_eq_zero (by omega)
    have h0 : n = 0 := hn
    subst h0
    rw [if_pos rfl] at hp
    have HL := hid (sread_leading _ _ _ _ _ (hp.below hbc))
    rw [show digN [] = 0 from rfl] at HL
    clear hK e1 e2 hn htk hle hp hr hrw hcm' hall
    go_enter Tryd.func87, Tryd.ntmps87
    go_wp2_with (go_at_call 92; (with_reducible refine HL.out.mono ?_); rintro e w' ⟨rfl, rfl⟩)
    refine bodyPost_ret (v := .tuple #[.agg #[.slice none 0 0, .int .i32 43, .bool false], .int .i64 1]) (by simp [results, Tryd.f87, go_sem]) rfl ?_
    exact ⟨⟨none, 0, 0, [], 43, false, Reads.nil _ _ _ _ (Nat.zero_le _), Nat.zero_le _, by decide, by decide, rfl⟩, rfl, rfl, (Below.refl _ _).alloc (Nat.le_refl _) _⟩
  · rw [if_neg hc, Option.map_some, Addr.add_lit] at hp
    have r3 : (cap = 1) = False := eq_false hc
    have HL := hid (sread_leading _ _ _ _ _ (hp.below hbc))
    have hpre := hid (hp.pre (n := n) (by omega))
    rw [← hn] at HL
    clear hp hr hrw e1 e2 htk hn
    rcases Nat.eq_zero_or_pos n with h0 | h0
    · subst h0
      clear hall
      rw [if_neg (Nat.lt_irrefl 0)]
      rcases hK with ⟨h45, hml, hcm⟩ | ⟨h45, rfl | ⟨hml, y, hcm, hy45⟩⟩
      all_goals
        rw [h45]
        try replace hcm := hcm' _ hcm
        clear h45 hcm'
        simp only [Nat.add_zero] at *
        go_enter Tryd.func87, Tryd.ntmps87
        go_wp2_with (go_at_call 92; (with_reducible refine HL.out.mono ?_); rintro e w' ⟨rfl, rfl⟩)
        first
        | (refine bodyPost_ret (v := .tuple #[.agg #[.slice none 0 0, .int .i32 43, .bool true], .int .i64 2]) ?_ rfl ?_; (simp [results, Tryd.f87, go_sem]); exact ⟨⟨none, 0, 0, [], 43, true, Reads.nil _ _ _ _ (Nat.zero_le _), Nat.zero_le _, by decide, by decide, rfl⟩, rfl, rfl, (Below.refl _ _).alloc (Nat.le_refl _) _⟩)
        | (refine bodyPost_ret (v := .tuple #[.agg #[.slice none 0 0, .int .i32 43, .bool false], .int .i64 1]) ?_ rfl ?_; (simp [results, Tryd.f87, go_sem]); exact ⟨⟨none, 0, 0, [], 43, false, Reads.nil _ _ _ _ (Nat.zero_le _), Nat.zero_le _, by decide, by decide, rfl⟩, rfl, rfl, (Below.refl _ _).alloc (Nat.le_refl _) _⟩)
    · rw [if_pos h0]
      have hne : r.take n ≠ [] := fun h => by have := congrArg List.length h; rw [List.length_take, List.length_nil] at this; omega
      obtain ⟨p, hpe, hpv⟩ : ∃ p : Pc w0 len, p.enc = .agg #[.slice (some ⟨b, off + 1, none⟩) n (cap - 1), .int .i32 0, .bool false] ∧ p.val = (runT (r.take n) ++ lftT (r.take n), runOk (r.take n), true) :=
        ⟨⟨some ⟨b, off + 1, none⟩, n, cap - 1, r.take n, 0, false, hpre.out, by omega, by decide, by decide, hall⟩, rfl, if_neg hne⟩
      have HPE := hid hpe
      have HPV := hid hpv
      clear hpe hpv hall
      have hnb : n < 10000000000 := by omega
      have g0 : ((1 + n : Nat) : Int) = 1 + (n : Int) := by omega
      have g1 : (0 : Int) ≤ 1 + (n : Int) := by omega
      have g2 : (1 + (n : Int)).toNat = 1 + n := by omega
      rcases hK with ⟨h45, hml, hcm⟩ | ⟨h45, hml | ⟨hml, y, hcm, hy45⟩⟩
      all_goals
        rw [h45]
        try replace hcm := hcm' _ hcm
        have HB := hid hml
        first
        | have hq : 1 + (n : Int) < (len : Int) := by omega
        | have hq : ¬ 1 + (n : Int) < (len : Int) := by omega
        clear h45 hcm' hne hle hml
        go_enter Tryd.func87, Tryd.ntmps87
        go_wp2_with (go_at_call 92; (with_reducible refine HL.out.mono ?_); rintro e w' ⟨rfl, rfl⟩)
        first
        | (refine bodyPost_ret (v := .tuple #[.agg #[.slice (some ⟨b, off + 1, none⟩) n (cap - 1), .int .i32 0, .bool false], .int .i64 (1 + (n : Int) + 1)]) ?_ rfl ?_; (simp [results, Tryd.f87, go_sem]); exact ⟨p, by rw [HPE.out], HPV.out, (Below.refl _ _).alloc (Nat.le_refl _) _⟩)
        | (refine bodyPost_ret (v := .tuple #[.agg #[.slice (some ⟨b, off + 1, none⟩) n (cap - 1), .int .i32 0, .bool false], .int .i64 (1 + (n : Int))]) ?_ rfl ?_; (simp [results, Tryd.f87, go_sem]); exact ⟨p, by rw [HPE.out], HPV.out, (Below.refl _ _).alloc (Nat.le_refl _) _⟩)
set_option maxRecDepth 100000 in
set_option maxHeartbeats 1000000 in
theorem sread_first (w0 w : World) (a : Option Addr) (len cap : Nat) (xs : List Int) (hr : Reads .u8 w0 a len cap xs) (hb : Below w0.heap.size w0 w) (hN : len < 10000000000) (h0 : 0 < len) :
    Calls Tryd.prog 76 #[.slice a len cap] w fun e w' => ∃ p : Pc w0 len, e = .returned (.tuple #[p.enc, .int .i64 (nx7 xs)]) ∧ p.val = u7 xs ∧ Below w.heap.size w w' := by
  have hsz := hr.size
  have hl := hr.len_le
  have hrm := hr.room
  have hb1 := hb.alloc hb.size (.cells #[.slice none 0 0, .int .i32 0, .bool false] 94)
  obtain ⟨b, off, x, rfl, _, hc, h1, h2, hx⟩ := (hr.below hb1).get8 h0
  obtain ⟨r, rfl⟩ : ∃ r, xs = x :: r := by
    have h := hx.out.1
    cases xs with
    | nil => cases h
    | cons y r => exact ⟨r, by simp at h; rw [h]⟩
  rw [Nat.add_zero] at hc
  clear hx
  by_cases h43 : x = 43
  · subst h43
    have HO := hid (sread_opened w0 _ b off len cap r hr hb1 hN)
    clear hr hsz
    go_enter Tryd.func76, Tryd.ntmps76
    go_wp2_with (go_at_call 87; (with_reducible refine HO.out.mono ?_); rintro e w1 ⟨p, rfl, hpv, hb2⟩; have HPV := hid hpv; clear hpv; simp only [Pc.enc]; have B1 := (Blk.new w 94 #[.slice none 0 0, .int .i32 0, .bool false]).below hb2 (by simp); have c0 := B1.cell (i := 0) rfl; have c1 := B1.cell (i := 1) rfl; have c2 := B1.cell (i := 2) rfl; have f0 := B1.frozen 0; have f1 := B1.frozen 1; have f2 := B1.frozen 2)
    have B3 := ((B1.set 0 (.slice p.a p.m p.c)).set 1 (.int .i32 p.s)).set 2 (.bool p.r)
    have d0 := B3.cell (i := 0) rfl
    have d1 := B3.cell (i := 1) rfl
    have d2 := B3.cell (i := 2) rfl
    have hbw : Below w.heap.size w (((w1.setCell ⟨w.heap.size, 0, none⟩ (.slice p.a p.m p.c)).setCell ⟨w.heap.size, 1, none⟩ (.int .i32 p.s)).setCell ⟨w.heap.size, 2, none⟩ (.bool p.r)) :=
      (((((Below.refl _ w).alloc (Nat.le_refl _) _).trans (hb2.mono (by simp))).setCell (p := ⟨w.heap.size, 0, none⟩) (Nat.le_refl _) _).setCell (p := ⟨w.heap.size, 1, none⟩) (Nat.le_refl _) _).setCell (p := ⟨w.heap.size, 2, none⟩) (Nat.le_refl _) _
    generalize ((w1.setCell ⟨w.heap.size, 0, none⟩ (.slice p.a p.m p.c)).setCell ⟨w.heap.size, 1, none⟩ (.int .i32 p.s)).setCell ⟨w.heap.size, 2, none⟩ (.bool p.r) = W3 at *
    refine bodyPost_ret (v := .tuple #[p.enc, .int .i64 (nx7 (43 :: r))]) (by simp [results, Tryd.f76, go_sem, d0, d1, d2, Pc.enc]) rfl ?_
    exact ⟨p, rfl, HPV.out, hbw⟩
  · have hn : (x == 43) = false := by simpa using h43
    have e2 : nx7 (x :: r) = 1 := if_pos h43
    rw [e2]
    clear hr hsz e2
    by_cases h7 : 127 < x
    · have e1 : u7 (x :: r) = ([65533], false, false) := if_pos h7
      rw [e1]
      clear e1 h43
      go_enter Tryd.func76, Tryd.ntmps76
      go_wp2_with fail
      refine bodyPost_ret (v := .tuple #[.agg #[.slice none 0 0, .int .i32 65533, .bool false], .int .i64 1]) (by simp [results, Tryd.f76, go_sem]) rfl ?_
      exact ⟨⟨none, 0, 0, [], 65533, false, Reads.nil _ _ _ _ (Nat.zero_le _), Nat.zero_le _, by decide, by decide, rfl⟩, rfl, rfl, (Below.refl _ _).alloc (Nat.le_refl _) _⟩
    · have e1 : u7 (x :: r) = ([x], true, false) := by unfold u7; dsimp only; rw [if_neg h7, if_pos h43]
      rw [e1]
      clear e1 h43
      go_enter Tryd.func76, Tryd.ntmps76
      go_wp2_with fail
      refine bodyPost_ret (v := .tuple #[.agg #[.slice none 0 0, .int .i32 x, .bool true], .int .i64 1]) (by simp [results, Tryd.f76, go_sem]) rfl ?_
      exact ⟨⟨none, 0, 0, [], x, true, Reads.nil _ _ _ _ (Nat.zero_le _), Nat.zero_le _, h1, by omega, rfl⟩, rfl, rfl, (Below.refl _ _).alloc (Nat.le_refl _) _⟩

end Go.Proofs.YtiacijodoojgoaaDoor

/-! Itm -/
namespace Go.Proofs.YtiacijodoojgoaaDoor
open Go.RowKit Go.Shelf
set_option linter.unusedVariables false

/-- What an iterator promises whose receiver (rv) is bound: for every invariant J of the rounds, if each round keeps what lies below n₀, J holds of all of the elements in the end. -/
def Gives {α : Type} (F : Fence) (n : Nat) (P : Program) (g : Nat) (rv : Array Value) (encs : α → Array Value) (n₀ : Nat) (S : List α → Prop) (N : Nat) (w : World) : Prop :=
  ∀ (l : Nat) (J : List α → World → Prop) (W : World), Below w.heap.size w W → AbidesFrom W.heap.size J →
    (∀ pre x W1, J pre W1 → pre.length < N → YieldAt F (n - 1) P l (encs x) W1 fun e W' => e = .returned (.bool true) ∧ J (pre ++ [x]) W' ∧ Below n₀ W1 W') → J [] W →
    CallsIn F n P g (rv ++ #[.func (.yield l) #[] #[]]) W fun e W' => (∃ v, e = .returned v) ∧ ∃ ys, S ys ∧ J ys W'

variable {F : Fence} {n : Nat} {P : Program}

theorem wpIn_rangeRecv {α : Type} {g : Operand} {ps : Array Tmp} {assign body : Code} {Q : Exit → Act → World → Prop} {a : Act} {w w0 : World} {gf n₀ N : Nat} {rv : Array Value} {encs : α → Array Value} {S : List α → Prop}
    (hro : F.round = none) (h1 : 1 ≤ n) (hg : a.eval g = .func (.func gf) rv #[]) (hF : F.fn gf) (eg : ∀ args w, (callFunc gf args).run P w = .ok (.enter gf args) w)
    (hseq : Gives F (n - 1) P gf rv encs n₀ S N w0) (hn : n₀ ≤ w.heap.size) (hb : Below w0.heap.size w0 w) (hps : ∀ x, (encs x).size = ps.size)
    (I : List α → World → Prop) (hI : OwnFrom w.heap.size I) (hI0 : I [] w)
    (X : α → Act → World → Prop) (hX : ∀ x a', OwnFrom w.heap.size (fun (_ : Unit) W => X x a' W))
    (hassign : ∀ (l : Nat) (pre : List α) (x : α) (W : World) (K : Act → World → Prop), I pre W → pre.length < N → (∀ a' W', KeepsFrom w.heap.size W W' → Below n₀ W W' → I pre W' → X x a' W' → K a' W') →
      assign.wpIn (F.inRound l) (n - 1 - 1) P (Exit.then K (fun _ _ _ => False)) { tmps := (ps.zip (encs x)).foldl (fun t (p, v) => t.setIfInBounds p v) a.tmps, defers := [] } W)
    (hbody : ∀ (l : Nat) (pre : List α) (x : α) (a' : Act) (W : World), I pre W → X x a' W → pre.length < N → body.wpIn (F.inRound l) (n - 1 - 1) P (fun e _ W' => e = .normal ∧ KeepsFrom w.heap.size W W' ∧ Below n₀ W W' ∧ I (pre ++ [x]) W') a' W)
    (hdone : ∀ (D : Nat) (ys : List α) (W : World), w.heap.size ≤ D → S ys → I ys W → W.heap[D]? = some (.deferred (some [])) → Q .normal { a with defers := { target := .collected D, args := #[] } :: a.defers } W) :
    (Code.rangeFunc g ps assign body).wpIn F n P Q a w := by
  have hnl : (w.alloc (.deferred (some []))).heap.size = w.heap.size + 1 := by simp
  refine wpIn_rangeFunc fun fn hfn => ?_
  rw [hro]
  -- the loop's record, ready (r), busy (u), done with (d)
  generalize hr : ({ state := .ready, pending := none, fn := fn, tmps := a.tmps, params := ps, assign := assign, body := body, defers := w.heap.size } : Loop) = r
  have r1 : r.fn = fn ∧ r.tmps = a.tmps ∧ r.params = ps ∧ r.assign = assign ∧ r.body = body ∧ r.state = .ready ∧ r.pending = none := by rw [← hr]; exact ⟨rfl, rfl, rfl, rfl, rfl, rfl, rfl⟩
  generalize hV : (w.alloc (.deferred (some []))).alloc (.loop r) = V
  have v1 : V.heap[w.heap.size + 1]? = some (.loop r) := by
    have h := World.alloc_heap_new (w.alloc (.deferred (some []))) (.loop r)
    rw [hnl] at h
    rw [← hV]
    exact h
  have v0 : V.heap[w.heap.size]? = some (.deferred (some [])) := by
    rw [← hV, Below.heap_alloc _ _ _ (by simp)]
    exact World.alloc_heap_new w _
  have vI : I [] V := by rw [← hV]; exact hI.alloc _ (hI.alloc _ hI0)
  have vb : Below w.heap.size w V := by rw [← hV]; exact ((Below.refl _ w).alloc (Nat.le_refl _) _).alloc (by simp) _
  have vs := vb.size
  refine ⟨w.heap.size + 1, [{ target := .collected w.heap.size, args := #[] }], V, { target := .fn (.func gf) #[], args := rv ++ #[.func (.yield (w.heap.size + 1)) #[] #[]] }, V, gf, rv ++ #[.func (.yield (w.heap.size + 1)) #[] #[]], V, ?_, ?_, ?_, ?_, fun _ => h1, ?_⟩
  · rw [run_enterLoop_outer, hr, hV]
  · simp only [resolve, hg]
    simp [go_sem]
  · intro f' hf'
    simp [Target.leads] at hf'
    exact hf' ▸ hF
  · simp [invoke, go_sem, eg]
  -- what the rounds keep beside I: the record and the block for deferred calls
  have key : ∀ {A B : World} {row : Option Nat}, (∀ k, row = some k → V.heap.size ≤ k ∧ ∃ o : Obj, A.heap[k]? = some o ∧ o.isWalk = true) → ∀ k, row = some k → w.heap.size ≤ k ∧ ∃ o : Obj, A.heap[k]? = some o ∧ o.isCells = false := by
    intro A B row hrow k hk
    obtain ⟨h2, o, ho, hw⟩ := hrow k hk
    exact ⟨Nat.le_trans vs h2, o, ho, Obj.not_cells_of_walk hw⟩
  refine (hseq (w.heap.size + 1) (fun pre W => I pre W ∧ W.heap[w.heap.size + 1]? = some (.loop r) ∧ W.heap[w.heap.size]? = some (.deferred (some []))) V (hb.trans (vb.mono hb.size)) ?_ ?_ ⟨vI, v1, v0⟩).mono ?_
  · rintro s A B row ⟨q1, q2, q3⟩ hgr hrow
    have hw := fun k hk => (hrow k hk).2
    exact ⟨hI s A B row q1 hgr (key (B := B) hrow), by rw [grownBy_keeps hgr hw q2 rfl, q2], by rw [grownBy_keeps hgr hw q3 rfl, q3]⟩
  · rintro pre x W ⟨q1, q2, q3⟩ hlen
    have hy := run_yield (P := P) (args := encs x) q2 (by rw [r1.2.2.1]; exact hps x)
    rw [r1.1, r1.2.1, r1.2.2.1, r1.2.2.2.1, r1.2.2.2.2.1] at hy
    refine ⟨fn, _, assign, body, hy, roundIn_of_wpIn hfn (hassign _ pre x W _ q1 hlen ?_)⟩
    intro a' W1 hk1 hb1 hi1 hx1
    have q4 := hk1.same _ _ (by omega) q2 rfl
    have q5 := hk1.same _ _ (Nat.le_refl _) q3 rfl
    have hlt := (Array.getElem?_eq_some_iff.1 q4).1
    refine ⟨_, run_beginRound q4 r1.2.2.2.2.2.1, ?_⟩
    have q6 : (W1.putObj (w.heap.size + 1) (.loop { r with state := .busy })).heap[w.heap.size + 1]? = some (.loop { r with state := .busy }) := World.putObj_heap_same hlt
    have q7 : (W1.putObj (w.heap.size + 1) (.loop { r with state := .busy })).heap[w.heap.size]? = some (.deferred (some [])) := (World.putObj_heap_other (by omega)).trans q5
    have b2 := belowK_b (n₀ := n₀) hn W1 (w.heap.size + 1) _ (.loop { r with state := .busy }) (by omega) q4 rfl rfl
    refine wpIn_mono (hbody _ pre x a' _ (hI.putObj _ hi1 (by omega) q4 rfl) ((hX x a').putObj (s := ()) _ hx1 (by omega) q4 rfl) hlen) ?_
    rintro e a3 W3 ⟨rfl, hk3, hb3, hi3⟩
    have q8 := hk3.same _ _ (by omega) q6 rfl
    have q9 := hk3.same _ _ (Nat.le_refl _) q7 rfl
    refine ⟨_, _, run_endRound none q8, rfl, ⟨hI.putObj _ hi3 (by omega) q8 rfl, ?_, (World.putObj_heap_other (by omega)).trans q9⟩, (hb1.trans b2).trans (hb3.trans (belowK_b hn W3 _ _ _ (by omega) q8 rfl rfl))⟩
    rw [World.putObj_heap_same (Array.getElem?_eq_some_iff.1 q8).1, ← hr]
    rfl
  · rintro e W2 ⟨⟨v, rfl⟩, ys, hS, q1, q2, q3⟩
    have he := run_endLoop (P := P) q2 (by rw [r1.2.2.2.2.2.1]; simp)
    rw [r1.2.2.2.2.2.2] at he
    exact ⟨none, _, he, hdone _ ys _ (Nat.le_refl _) hS (hI.putObj _ q1 (by omega) q2 rfl) ((World.putObj_heap_other (by omega)).trans q3)⟩
end Go.Proofs.YtiacijodoojgoaaDoor
