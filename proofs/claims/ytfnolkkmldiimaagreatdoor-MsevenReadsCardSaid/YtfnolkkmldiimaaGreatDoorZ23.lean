/-
  Texts of ours laid together: Rdr, C23a.
-/
import Derived.Test.YtfnolkkmldiimaaGreatDoorRows
import Derived.Test.YtfnolkkmldiimaaGreatDoorZ22

/-! Rdr -/
namespace Go.Proofs.YtfnolkkmldiimaaGreatDoor
open Go.RowKit
set_option linter.unusedVariables false

/-- Block B holds the cells vs of type t. -/
def Blk (W : World) (B : Nat) (t : TypeId) (vs : Array Value) : Prop := W.heap[B]? = some (.cells vs t (0, 0))
theorem Blk.lt {W : World} {B : Nat} {t : TypeId} {vs : Array Value} (h : Blk W B t vs) : B < W.heap.size := (Array.getElem?_eq_some_iff.1 h).1
theorem Blk.cell {W : World} {B : Nat} {t : TypeId} {vs : Array Value} (h : Blk W B t vs) {i : Nat} {v : Value} (hi : vs[i]? = some v) : W.cell? ⟨B, i, none⟩ = some v := by rw [cell_of_row _ _ _ _ _ _ h]; exact hi
theorem Blk.frozen {W : World} {B : Nat} {t : TypeId} {vs : Array Value} (h : Blk W B t vs) (i : Nat) : W.frozen? ⟨B, i, none⟩ = false := by simp [World.frozen?, show W.heap[B]? = _ from h]
theorem Blk.new (W : World) (t : TypeId) (vs : Array Value) : Blk (W.alloc (.cells vs t)) W.heap.size t vs := heap_alloc_new W _
theorem Blk.kept {W W' : World} {row : Option Nat} {B : Nat} {t : TypeId} {vs : Array Value} (h : Blk W B t vs) (hg : W.grownBy W' row) (hne : some B ≠ row) : Blk W' B t vs := (hg.block B h.lt hne).trans h
theorem Blk.below {W W' : World} {B D : Nat} {t : TypeId} {vs : Array Value} (h : Blk W B t vs) (hb : Below D W W') (hlt : B < D) : Blk W' B t vs := (hb.block B hlt).trans h
theorem Blk.drewN {W : World} {B : Nat} {t : TypeId} {vs : Array Value} (h : Blk W B t vs) (n : Nat) : Blk (W.drewN n) B t vs := h
theorem Blk.set {W : World} {B : Nat} {t : TypeId} {vs : Array Value} (h : Blk W B t vs) (i : Nat) (u : Value) : Blk (W.setCell ⟨B, i, none⟩ u) B t (vs.setIfInBounds i u) := by
  obtain ⟨hlt, hk⟩ := Array.getElem?_eq_some_iff.1 h
  show (W.heap.modify B _)[B]? = _
  rw [Array.getElem?_eq_getElem (by rw [Array.size_modify]; exact hlt), Array.getElem_modify_self, hk]
  rfl
theorem grownBy_set (W : World) (b i : Nat) (v : Value) : W.grownBy (W.setCell ⟨b, i, none⟩ v) (some b) :=
  ⟨rfl, rfl, rfl, by simp [World.setCell], fun k _ hk => Below.heap_setCell _ _ _ k (fun e => hk (by rw [e]))⟩
theorem grownBy_t {a b c : World} {row : Option Nat} (h : a.grownBy b row) (k : b.grownBy c row) : a.grownBy c row :=
  ⟨k.os.trans h.os, k.tape.trans h.tape, k.output.trans h.output, Nat.le_trans h.size k.size, fun i hi hn => (k.block i (Nat.lt_of_lt_of_le hi h.size) hn).trans (h.block i hi hn)⟩
theorem grownBy_draws (W : World) (n : Nat) (row : Option Nat) : W.grownBy (W.drewN n) row := ⟨rfl, rfl, rfl, Nat.le_refl _, fun _ _ _ => rfl⟩
theorem Blk.not_row {W : World} {B : Nat} {t e : TypeId} {vs : Array Value} (h : Blk W B t vs) (hte : t ≠ e) {base size k : Nat} {v : Value} {xs : List Value} (hr : W.ownsRow base e size v k xs) : some B ≠ v.ownBlock := by
  rcases hr.2 with ⟨rfl, _⟩ | ⟨g, cap, cur, rfl, _, hgb, _⟩
  · simp [Value.ownBlock]
  · intro e'
    obtain rfl : B = g := by simpa [Value.ownBlock] using e'
    have := (show W.heap[B]? = _ from h).symm.trans hgb
    simp at this
    exact hte this.2
/-- A row of the call's own is not the struct's block: it stays when that is written. -/
theorem Own.beside {k : IntKind} {e t : TypeId} {base B : Nat} {W W' : World} {v : Value} {xs : List Int} {vs : Array Value} (h : Own k e base W v xs) (hB : Blk W B t vs) (hte : t ≠ e) (hg : W.grownBy W' (some B)) : Own k e base W' v xs :=
  ⟨h.1.kept hg (.inr fun e' => hB.not_row hte h.1 e'.symm), h.2⟩
/-- The struct's block is from B on: what is below stays. -/
theorem below_beside {a w w' : World} {B D : Nat} (h : Below D a w) (hg : w.grownBy w' (some B)) (hD : D ≤ w.heap.size) (hB : D ≤ B) : Below D a w' := h.grown hg hD (fun k hk => by cases hk; exact hB)

section
variable {P : Program} {ops : Array Oper} {rest : List Oper} {o : Oper} {a : Act} {Q : Exit → Act → World → Prop} {t e : TypeId} {k : IntKind} {by_ : Nat}
/-- 'append(s, y1, y2, ..)' beside a struct's block. -/
theorem wpList_pushsB (ST : SliceT P t e k by_) (ys : List Int) (hgd : o.guard = none) (s x : Operand) (ho : o.op = .call { callee := .builtin .append, args := #[s, x], argTypes := #[t, t] })
    {w0 wr : World} {e' T : TypeId} {v : Value} {xs : List Int} {B : Nat} {vs : Array Value} (hs : a.eval s = v) (hx : ∃ c, a.eval x = .slice (some ⟨wr.heap.size, 0, none⟩) ys.length c)
    (hown : Own k e w0.heap.size wr v xs) (hbel : Below w0.heap.size w0 wr) (hB : Blk wr B T vs) (hte : T ≠ e) (hlen : xs.length + ys.length < 1000000000000) (hwf : ∀ y ∈ ys, (Lit.int k y).wf = true)
    (h : ∀ v' w', Own k e w0.heap.size w' v' (xs ++ ys) → Below w0.heap.size w0 w' → Blk w' B T vs → wpList P ops Q rest (a.put o.dst v') w') :
    wpList P ops Q (o :: rest) a (wr.alloc (.cells (ys.map (Value.int k)).toArray e')) := by
  obtain ⟨i, hi, hz0, hz1, hz2⟩ := info_parts ST.info
  obtain ⟨c, hx⟩ := hx
  have hsm := ST.small
  have hmul : (xs.length + ys.length) * by_ ≤ (xs.length + ys.length) * 8 := Nat.mul_le_mul_left _ hsm
  have hB1 : Blk (wr.alloc (.cells (ys.map (Value.int k)).toArray e')) B T vs := hB.kept (World.grownBy_alloc _ _ none) (by simp)
  refine wpList_append_own _ hgd s x t ho w0.heap.size e i (.int k 0) 1 by_ ST.under hi hz0 hz1 hz2 rfl (by decide) v xs.length (xs.map (Value.int k)) hs (hown.1.alloc _) ⟨wr.heap.size, 0, none⟩ ys.length c (ys.map (Value.int k)) hx (by simp) ?_ (ints_oneCell _ _) (by unfold maxLen; omega) (by omega)
    (Nat.le_trans hbel.size (by simp)) ?_
  · intro j u hj
    rw [Addr.add_lit, World.cell?_alloc_at _ _ _ _ rfl]
    simpa using hj
  · intro v' w' hown' hgrow _
    refine h v' w' ⟨by simpa using hown', ?_⟩ ((hbel.alloc hbel.size _).grown hgrow (Nat.le_trans hbel.size (by simp)) (fun j hj => (hown.1.lt j hj).1)) (hB1.kept hgrow (hB1.not_row hte (hown.1.alloc _)))
    intro z hz
    rcases List.mem_append.1 hz with hz | hz
    · exact hown.2 z hz
    · exact hwf z hz
end
end Go.Proofs.YtfnolkkmldiimaaGreatDoor

/-! C23a -/
namespace Go.Proofs.YtfnolkkmldiimaaGreatDoor
open Go.RowKit
set_option linter.unusedVariables false

def noD (c : Int) : Bool := !isDig c
theorem noD_cnt (xs : List Int) : cntF noD xs = digN xs := by
  unfold cntF digN noD
  simp

theorem sread_isOther (c : Int) (w : World) (h0 : 0 ≤ c) (h1 : c ≤ 255) :
    Calls Tryz.prog 82 #[.int .u8 c] w fun e w' => e = .returned (.bool (noD c)) ∧ w = w' := by
  have hV := bcode_Value c w h0 h1
  unfold noD
  generalize isDig c = D at *
  generalize valI c = V at *
  have HV := hid hV
  clear hV
  go_enter Tryz.func82, Tryz.ntmps82
  go_wp2_with (go_at_call 81; (with_reducible refine HV.out.mono ?_); rintro e w' ⟨rfl, rfl⟩)
  go_ret
  exact ⟨rfl, rfl⟩
set_option maxHeartbeats 1000000 in
theorem idx_noD (a : Option Addr) (len cap : Nat) (xs : List Int) (w : World) (hr : Reads .u8 w a len cap xs) :
    Calls Tryz.prog 54 #[.slice a len cap, .func (.func 82) #[] #[]] w fun e w' => e = .returned (.int .i64 (idxI noD xs)) ∧ w = w' := by
  have hl := hr.len_le
  have HR := hid hr
  clear hr
  go_enter Tryz.func54, Tryz.ntmps54
  go_wp2
  go_loop [8] (fun i => ∃ k : Nat, k ≤ len ∧ i = .int .i64 k ∧ Hid ((xs.take k).any noD = false)) (fun i => len - (intOf i).toNat)
  case atStart => exact ⟨0, Nat.zero_le _, rfl, rfl⟩
  case round =>
    obtain ⟨k, hk, rfl, hn⟩ := hrel
    by_cases hlt : k < len
    · obtain ⟨b, off, x, rfl, _, hc, h0, h1, hx⟩ := HR.out.get8 hlt
      cases hs : noD x
      · have H := hid hs
        go_wp2_with (go_at_call 82; (with_reducible refine (sread_isOther _ _ h0 h1).mono ?_); rintro e w' ⟨rfl, rfl⟩; rw [hs])
        go_round
        case rel => exact ⟨k + 1, by omega, by go_num, none_yes hx.out.2 hn.out H.out⟩
        case measure => simp [intOf]; omega
      · have H := hid hs
        go_wp2_with (go_at_call 82; (with_reducible refine (sread_isOther _ _ h0 h1).mono ?_); rintro e w' ⟨rfl, rfl⟩; rw [hs])
        go_ret
        exact ⟨ret_int (idx_hit hx.out.1 hn.out H.out).symm, rfl⟩
    · go_wp2
      go_ret
      exact ⟨ret_int (by rw [← HR.out.all (show len ≤ k by omega)]; exact (idx_none hn.out).symm), rfl⟩
theorem sread_leading (a : Option Addr) (len cap : Nat) (xs : List Int) (w : World) (hr : Reads .u8 w a len cap xs) :
    Calls Tryz.prog 56 #[.slice a len cap] w fun e w' => e = .returned (.slice a (digN xs) cap) ∧ w = w' := by
  have HI := hid (idx_noD a len cap xs w hr)
  have hx := idx_cntF noD xs
  have hrm := hr.room
  have hsz := hr.size
  have hle := digN_le xs
  rw [noD_cnt] at hx
  obtain ⟨m, hm⟩ : ∃ m, m = digN xs := ⟨_, rfl⟩
  rw [← hm] at hx hle ⊢
  by_cases ha : xs.any noD = true
  · rw [if_pos ha] at hx
    rw [hx] at HI
    have n0 : ¬ (m : Int) < 0 := by omega
    have q0 : (0 : Int) ≤ (m : Int) := by omega
    have q2 : (m : Int) ≤ (cap : Int) := by omega
    clear hx ha hm hr
    go_enter Tryz.func56, Tryz.ntmps56
    go_wp2_with (go_at_call 54; (with_reducible refine HI.out.mono ?_); rintro e w' ⟨rfl, rfl⟩)
    go_ret
    exact ⟨rfl, rfl⟩
  · rw [if_neg ha] at hx
    have hmm : m = len := by
      have := cntF_all (f := noD) (xs := xs) (by simpa using ha)
      rw [noD_cnt, ← hm] at this
      omega
    subst hmm
    rw [hx] at HI
    clear hx ha hm hr
    go_enter Tryz.func56, Tryz.ntmps56
    go_wp2_with (go_at_call 54; (with_reducible refine HI.out.mono ?_); rintro e w' ⟨rfl, rfl⟩)
    go_ret
    exact ⟨rfl, rfl⟩

/-- A piece: a run's digits, or a sign; may it stand there? -/
structure Pc (w0 : World) (L : Nat) where
  a : Option Addr
  m : Nat
  c : Nat
  d : List Int
  s : Int
  r : Bool
  hr : Reads .u8 w0 a m c d
  hl : m ≤ L
  h0 : 0 ≤ s
  h1 : s ≤ 65533
  hd : d.all isDig = true
/-- What a piece is read as: the signs; are they right; is it a run? -/
def pcv (d : List Int) (s : Int) (r : Bool) : List Int × Bool × Bool := if d = [] then ([s], r, false) else (runT d ++ lftT d, runOk d, true)
def Pc.val {w0 : World} {L : Nat} (x : Pc w0 L) : List Int × Bool × Bool := pcv x.d x.s x.r
/-- A piece as the program hands it on. -/
def Pc.enc {w0 : World} {L : Nat} (x : Pc w0 L) : Value := .agg #[.slice x.a x.m x.c, .int .i32 x.s, .bool x.r]

theorem drop_cons {xs : List Int} {k : Nat} {x : Int} (h : xs[k]? = some x) : xs.drop k = x :: xs.drop (k + 1) := by
  have hk : k < xs.length := (List.getElem?_eq_some_iff.1 h).1
  rw [List.drop_eq_getElem_cons hk, (List.getElem?_eq_some_iff.1 h).2]
theorem nx7_plus (r : List Int) : nx7 (43 :: r) = 1 + digN r + (if hdB is45 (r.drop (digN r)) = true then 1 else 0) ∧ u7 (43 :: r) = (if 0 < digN r then (runT (r.takeWhile isDig) ++ lftT (r.takeWhile isDig), runOk (r.takeWhile isDig), true) else ([43], hdB is45 (r.drop (digN r)), false)) := by
  have hd := dig_at r 0 (Nat.zero_le _)
  rw [List.drop_zero] at hd
  have h1 : ¬ (127 : Int) < 43 := by decide
  have h2 : ¬ (43 : Int) ≠ 43 := by decide
  unfold nx7 u7
  dsimp only
  rw [if_neg h2, if_neg h1, if_neg h2, hd]
  by_cases h : 0 < digN r
  · rw [decide_eq_true h, if_pos rfl, if_pos rfl, if_pos h]
    exact ⟨rfl, rfl⟩
  · have h0 : digN r = 0 := by omega
    rw [decide_eq_false h, if_neg Bool.false_ne_true, if_neg Bool.false_ne_true, if_neg h, h0, List.drop_zero]
    refine ⟨?_, rfl⟩
    split <;> rfl
set_option maxRecDepth 100000 in
set_option maxHeartbeats 1000000 in
theorem sread_opened (w0 w : World) (b off len cap : Nat) (r : List Int) (hr : Reads .u8 w0 (some ⟨b, off, none⟩) len cap (43 :: r)) (hb : Below w0.heap.size w0 w) (hN : len < 10000000000) :
    Calls Tryz.prog 125 #[.slice (some ⟨b, off, none⟩) len cap] w fun e w' => ∃ p : Pc w0 len, e = .returned (.tuple #[p.enc, .int .i64 (nx7 (43 :: r))]) ∧ p.val = u7 (43 :: r) ∧ Below w.heap.size w w' := by
  obtain ⟨e1, e2⟩ := nx7_plus r
  have hsz := hr.size
  have hrm := hr.room
  have hl := hr.len_le
  rw [List.length_cons] at hsz
  have hrw := hr.below hb
  have hp := hr.piece (l := 1) (r := len) (by omega) (Nat.le_refl _)
  rw [List.take_of_length_le (by simp; omega), List.drop_one, List.tail_cons] at hp
  have hle := digN_le r
  have htk := take_digN r
  rw [e1, e2, ← htk]
  obtain ⟨n, hn⟩ : ∃ n, n = digN r := ⟨_, rfl⟩
  have hall : (r.take n).all isDig = true := by rw [hn, htk]; exact List.all_takeWhile
  rw [← hn] at hle ⊢
  have hK : (hdB is45 (r.drop n) = true ∧ 1 + n < len ∧ w.cell? ⟨b, off + (1 + n), none⟩ = some (.int .u8 45)) ∨ (hdB is45 (r.drop n) = false ∧ (1 + n = len ∨ (1 + n < len ∧ ∃ y, w.cell? ⟨b, off + (1 + n), none⟩ = some (.int .u8 y) ∧ (y == 45) = false))) := by
    by_cases h : 1 + n < len
    · obtain ⟨b', off', y, hA, _, hcy, _, _, hy⟩ := hrw.get8 h
      cases hA
      have hd : (43 :: r).drop (1 + n) = y :: (43 :: r).drop (1 + n + 1) := drop_cons hy.out.1
      rw [show 1 + n = n + 1 by omega, List.drop_succ_cons] at hd
      rw [hd]
      by_cases hy45 : y = 45
      · subst hy45
        exact .inl ⟨rfl, h, hcy⟩
      · exact .inr ⟨by simpa [hdB, is45] using hy45, .inr ⟨h, y, hcy, by simpa using hy45⟩⟩
    · exact .inr ⟨by rw [List.drop_of_length_le (by omega)]; rfl, .inl (by omega)⟩
  have hbc : Below w0.heap.size w0 (w.alloc (.cells #[.slice none 0 0, .int .i32 0, .bool false] 126)) := hb.alloc hb.size _
  have hcm' : ∀ v, w.cell? ⟨b, off + (1 + n), none⟩ = some v → (w.alloc (.cells #[.slice none 0 0, .int .i32 0, .bool false] 126)).cell? ⟨b, off + (1 + n), none⟩ = some v := fun v h => (World.cell?_alloc_lt _ _ _ (World.block_lt_of_cell? w _ h)).trans h
  by_cases hc : cap = 1
  · subst hc
    obtain rfl : len = 1 := by omega
    obtain rfl : r = [] := List.eq_nil_of_length_eq_zero (by omega)
    have h0 : n = 0 := hn
    subst h0
    rw [if_pos rfl] at hp
    have HL := hid (sread_leading _ _ _ _ _ (hp.below hbc))
    rw [show digN [] = 0 from rfl] at HL
    clear hK e1 e2 hn htk hle hp hr hrw hcm' hall
    go_enter Tryz.func125, Tryz.ntmps125
    go_wp2_with (go_at_call 56; (with_reducible refine HL.out.mono ?_); rintro e w' ⟨rfl, rfl⟩)
    refine bodyPost_ret (v := .tuple #[.agg #[.slice none 0 0, .int .i32 43, .bool false], .int .i64 1]) (by simp [results, Tryz.f125, go_sem]) rfl ?_
    exact ⟨⟨none, 0, 0, [], 43, false, Reads.nil _ _ _ _ (Nat.zero_le _), Nat.zero_le _, by decide, by decide, rfl⟩, rfl, rfl, (Below.refl _ _).alloc (Nat.le_refl _) _⟩
  · rw [if_neg hc, Option.map_some, Addr.add_lit] at hp
    have r3 : (cap = 1) = False := eq_false hc
    have HL := hid (sread_leading _ _ _ _ _ (hp.below hbc))
    have hpre := hid (hp.pre (n := n) (by omega))
    rw [← hn] at HL
    clear hp hr hrw e1 e2 htk hn
    rcases Nat.eq_zero_or_pos n with h0 | h0
    · subst h0
      clear hall
      rw [if_neg (Nat.lt_irrefl 0)]
      rcases hK with ⟨h45, hml, hcm⟩ | ⟨h45, rfl | ⟨hml, y, hcm, hy45⟩⟩
      all_goals
        rw [h45]
        try replace hcm := hcm' _ hcm
        clear h45 hcm'
        simp only [Nat.add_zero] at *
        go_enter Tryz.func125, Tryz.ntmps125
        go_wp2_with (go_at_call 56; (with_reducible refine HL.out.mono ?_); rintro e w' ⟨rfl, rfl⟩)
        first
        | (refine bodyPost_ret (v := .tuple #[.agg #[.slice none 0 0, .int .i32 43, .bool true], .int .i64 2]) ?_ rfl ?_; (simp [results, Tryz.f125, go_sem]); exact ⟨⟨none, 0, 0, [], 43, true, Reads.nil _ _ _ _ (Nat.zero_le _), Nat.zero_le _, by decide, by decide, rfl⟩, rfl, rfl, (Below.refl _ _).alloc (Nat.le_refl _) _⟩)
        | (refine bodyPost_ret (v := .tuple #[.agg #[.slice none 0 0, .int .i32 43, .bool false], .int .i64 1]) ?_ rfl ?_; (simp [results, Tryz.f125, go_sem]); exact ⟨⟨none, 0, 0, [], 43, false, Reads.nil _ _ _ _ (Nat.zero_le _), Nat.zero_le _, by decide, by decide, rfl⟩, rfl, rfl, (Below.refl _ _).alloc (Nat.le_refl _) _⟩)
    · rw [if_pos h0]
      have hne : r.take n ≠ [] := fun h => by have := congrArg List.length h; rw [List.length_take, List.length_nil] at this; omega
      obtain ⟨p, hpe, hpv⟩ : ∃ p : Pc w0 len, p.enc = .agg #[.slice (some ⟨b, off + 1, none⟩) n (cap - 1), .int .i32 0, .bool false] ∧ p.val = (runT (r.take n) ++ lftT (r.take n), runOk (r.take n), true) :=
        ⟨⟨some ⟨b, off + 1, none⟩, n, cap - 1, r.take n, 0, false, hpre.out, by omega, by decide, by decide, hall⟩, rfl, if_neg hne⟩
      have HPE := hid hpe
      have HPV := hid hpv
      clear hpe hpv hall
      have hnb : n < 10000000000 := by omega
      have g0 : ((1 + n : Nat) : Int) = 1 + (n : Int) := by omega
      have g1 : (0 : Int) ≤ 1 + (n : Int) := by omega
      have g2 : (1 + (n : Int)).toNat = 1 + n := by omega
      rcases hK with ⟨h45, hml, hcm⟩ | ⟨h45, hml | ⟨hml, y, hcm, hy45⟩⟩
      all_goals
        rw [h45]
        try replace hcm := hcm' _ hcm
        have HB := hid hml
        first
        | have hq : 1 + (n : Int) < (len : Int) := by omega
        | have hq : ¬ 1 + (n : Int) < (len : Int) := by omega
        clear h45 hcm' hne hle hml
        go_enter Tryz.func125, Tryz.ntmps125
        go_wp2_with (go_at_call 56; (with_reducible refine HL.out.mono ?_); rintro e w' ⟨rfl, rfl⟩)
        first
        | (refine bodyPost_ret (v := .tuple #[.agg #[.slice (some ⟨b, off + 1, none⟩) n (cap - 1), .int .i32 0, .bool false], .int .i64 (1 + (n : Int) + 1)]) ?_ rfl ?_; (simp [results, Tryz.f125, go_sem]); exact ⟨p, by rw [HPE.out], HPV.out, (Below.refl _ _).alloc (Nat.le_refl _) _⟩)
        | (refine bodyPost_ret (v := .tuple #[.agg #[.slice (some ⟨b, off + 1, none⟩) n (cap - 1), .int .i32 0, .bool false], .int .i64 (1 + (n : Int))]) ?_ rfl ?_; (simp [results, Tryz.f125, go_sem]); exact ⟨p, by rw [HPE.out], HPV.out, (Below.refl _ _).alloc (Nat.le_refl _) _⟩)
set_option maxRecDepth 100000 in
set_option maxHeartbeats 1000000 in
theorem sread_first (w0 w : World) (a : Option Addr) (len cap : Nat) (xs : List Int) (hr : Reads .u8 w0 a len cap xs) (hb : Below w0.heap.size w0 w) (hN : len < 10000000000) (h0 : 0 < len) :
    Calls Tryz.prog 106 #[.slice a len cap] w fun e w' => ∃ p : Pc w0 len, e = .returned (.tuple #[p.enc, .int .i64 (nx7 xs)]) ∧ p.val = u7 xs ∧ Below w.heap.size w w' := by
  have hsz := hr.size
  have hl := hr.len_le
  have hrm := hr.room
  have hb1 := hb.alloc hb.size (.cells #[.slice none 0 0, .int .i32 0, .bool false] 126)
  obtain ⟨b, off, x, rfl, _, hc, h1, h2, hx⟩ := (hr.below hb1).get8 h0
  obtain ⟨r, rfl⟩ : ∃ r, xs = x :: r := by
    have h := hx.out.1
    cases xs with
    | nil => cases h
    | cons y r => exact ⟨r, by simp at h; rw [h]⟩
  rw [Nat.add_zero] at hc
  clear hx
  by_cases h43 : x = 43
  · subst h43
    have HO := hid (sread_opened w0 _ b off len cap r hr hb1 hN)
    clear hr hsz
    go_enter Tryz.func106, Tryz.ntmps106
    go_wp2_with (go_at_call 125; (with_reducible refine HO.out.mono ?_); rintro e w1 ⟨p, rfl, hpv, hb2⟩; have HPV := hid hpv; clear hpv; simp only [Pc.enc]; have B1 := (Blk.new w 126 #[.slice none 0 0, .int .i32 0, .bool false]).below hb2 (by simp); have c0 := B1.cell (i := 0) rfl; have c1 := B1.cell (i := 1) rfl; have c2 := B1.cell (i := 2) rfl; have f0 := B1.frozen 0; have f1 := B1.frozen 1; have f2 := B1.frozen 2)
    have B3 := ((B1.set 0 (.slice p.a p.m p.c)).set 1 (.int .i32 p.s)).set 2 (.bool p.r)
    have d0 := B3.cell (i := 0) rfl
    have d1 := B3.cell (i := 1) rfl
    have d2 := B3.cell (i := 2) rfl
    have hbw : Below w.heap.size w (((w1.setCell ⟨w.heap.size, 0, none⟩ (.slice p.a p.m p.c)).setCell ⟨w.heap.size, 1, none⟩ (.int .i32 p.s)).setCell ⟨w.heap.size, 2, none⟩ (.bool p.r)) :=
      (((((Below.refl _ w).alloc (Nat.le_refl _) _).trans (hb2.mono (by simp))).setCell (p := ⟨w.heap.size, 0, none⟩) (Nat.le_refl _) _).setCell (p := ⟨w.heap.size, 1, none⟩) (Nat.le_refl _) _).setCell (p := ⟨w.heap.size, 2, none⟩) (Nat.le_refl _) _
    generalize ((w1.setCell ⟨w.heap.size, 0, none⟩ (.slice p.a p.m p.c)).setCell ⟨w.heap.size, 1, none⟩ (.int .i32 p.s)).setCell ⟨w.heap.size, 2, none⟩ (.bool p.r) = W3 at *
    refine bodyPost_ret (v := .tuple #[p.enc, .int .i64 (nx7 (43 :: r))]) (by simp [results, Tryz.f106, go_sem, d0, d1, d2, Pc.enc]) rfl ?_
    exact ⟨p, rfl, HPV.out, hbw⟩
  · have hn : (x == 43) = false := by simpa using h43
    have e2 : nx7 (x :: r) = 1 := if_pos h43
    rw [e2]
    clear hr hsz e2
    by_cases h7 : 127 < x
    · have e1 : u7 (x :: r) = ([65533], false, false) := if_pos h7
      rw [e1]
      clear e1 h43
      go_enter Tryz.func106, Tryz.ntmps106
      go_wp2_with fail
      refine bodyPost_ret (v := .tuple #[.agg #[.slice none 0 0, .int .i32 65533, .bool false], .int .i64 1]) (by simp [results, Tryz.f106, go_sem]) rfl ?_
      exact ⟨⟨none, 0, 0, [], 65533, false, Reads.nil _ _ _ _ (Nat.zero_le _), Nat.zero_le _, by decide, by decide, rfl⟩, rfl, rfl, (Below.refl _ _).alloc (Nat.le_refl _) _⟩
    · have e1 : u7 (x :: r) = ([x], true, false) := by unfold u7; dsimp only; rw [if_neg h7, if_pos h43]
      rw [e1]
      clear e1 h43
      go_enter Tryz.func106, Tryz.ntmps106
      go_wp2_with fail
      refine bodyPost_ret (v := .tuple #[.agg #[.slice none 0 0, .int .i32 x, .bool true], .int .i64 1]) (by simp [results, Tryz.f106, go_sem]) rfl ?_
      exact ⟨⟨none, 0, 0, [], x, true, Reads.nil _ _ _ _ (Nat.zero_le _), Nat.zero_le _, h1, by omega, rfl⟩, rfl, rfl, (Below.refl _ _).alloc (Nat.le_refl _) _⟩

end Go.Proofs.YtfnolkkmldiimaaGreatDoor
