/-
  Texts of ours laid together: Grw, R29.
-/
import Derived.Maps.AppendAt
import Derived.Test.YtefhddbbiheadaaGreatRows
import Derived.BigQuiet
import Derived.Test.YtefhddbbiheadaaGreatZ18

/-! Grw -/
namespace Go.Proofs.YtefhddbbiheadaaGreat
open Go.RowKit
set_option linter.unusedVariables false

/-- A finished row: a slice of the octets xs, below q, in a block of octets. -/
def FinP (q : Nat) (e8 : TypeId) (W : World) (u : Value) (xs : List Int) : Prop :=
  ∃ a l c, u = .slice a l c ∧ Reads .u8 W a l c xs ∧ ∀ b off, 0 < l → a = some ⟨b, off, none⟩ → b < q ∧ ∃ C fz, W.heap[b]? = some (.cells C e8 fz)
theorem FinP.same {q q' : Nat} {e8 : TypeId} {W W' : World} {u : Value} {xs : List Int} (h : FinP q e8 W u xs) (hs : W.heap.size ≤ W'.heap.size) (hq : q ≤ q') (hb : ∀ b, b < q → b < W.heap.size → (∃ C fz, W.heap[b]? = some (.cells C e8 fz)) → W'.heap[b]? = W.heap[b]?) : FinP q' e8 W' u xs := by
  obtain ⟨a, l, c, rfl, hr, hp⟩ := h
  have key : ∀ b off, 0 < l → a = some ⟨b, off, none⟩ → b < W.heap.size ∧ W'.heap[b]? = W.heap[b]? := by
    intro b off hl ha
    obtain ⟨b', off', ha', hlt, _⟩ := hr.cell hl
    rw [ha] at ha'; cases ha'
    exact ⟨hlt, hb b (hp b off hl ha).1 hlt (hp b off hl ha).2⟩
  refine ⟨a, l, c, rfl, ⟨hr.size, hr.room, hr.top, hr.wf, fun hl => ?_⟩, fun b off hl ha => ⟨Nat.lt_of_lt_of_le (hp b off hl ha).1 hq, ?_⟩⟩
  · obtain ⟨b, off, ha, hlt, hc⟩ := hr.cell hl
    exact ⟨b, off, ha, Nat.lt_of_lt_of_le hlt hs, fun i hi => (World.cell?_of_block (key b off hl ha).2).trans (hc i hi)⟩
  · obtain ⟨C, fz, h⟩ := (hp b off hl ha).2
    exact ⟨C, fz, by rw [(key b off hl ha).2]; exact h⟩
/-- v holds the rows O and, last, u, which holds L; rows, v's own row and what else was there lie below q, u's row above it. -/
structure Grow (e e8 : TypeId) (B q : Nat) (W : World) (v u : Value) (O : List (List Int)) (L : List Int) : Prop where
  row : ∃ vs, vs.length = O.length ∧ W.ownsRow B e 1 v (O.length + 1) (vs ++ [u]) ∧ ∀ (i : Nat) (u' : Value) (xs : List Int), vs[i]? = some u' → O[i]? = some xs → FinP q e8 W u' xs
  below : ∀ j, v.ownBlock = some j → j < q
  last : Own .u8 e8 q W u L
  lo : B ≤ q
  hi : q ≤ W.heap.size

theorem Grow.shape {e e8 : TypeId} {B q : Nat} {W : World} {v u : Value} {O : List (List Int)} {L : List Int} (h : Grow e e8 B q W v u O L) :
    ∃ g c, v = .slice (some ⟨g, 0, none⟩) (O.length + 1) c ∧ B ≤ g ∧ g < q ∧ W.cell? ⟨g, O.length, none⟩ = some u ∧ W.frozen? ⟨g, O.length, none⟩ = false ∧ ∃ a l, u = .slice a L.length l := by
  obtain ⟨vs, hvs, hrow, hfin⟩ := h.row
  rcases hrow.2 with ⟨_, h0⟩ | ⟨g, cap, cur, rfl, hg, h1, h2, h3, h4⟩
  · omega
  · refine ⟨g, cap, rfl, hg, h.below g rfl, ?_, hrow.frozenAt _, ?_⟩
    · rw [hrow.cellAt _ (by omega), ← hvs]
      simp
    · obtain ⟨a, c, hu, _⟩ := h.last.reads
      exact ⟨a, c, hu⟩
/-- The literal of one empty row. -/
theorem Grow.start (e e8 : TypeId) (w : World) : Grow e e8 w.heap.size (w.heap.size + 1) (w.alloc (.cells #[.slice none 0 0] e)) (.slice (some ⟨w.heap.size, 0, none⟩) 1 1) (.slice none 0 0) [] [] := by
  refine ⟨⟨[], rfl, ⟨rfl, .inr ⟨w.heap.size, 1, #[.slice none 0 0], rfl, Nat.le_refl _, ?_, Nat.le_refl _, by decide, rfl, rfl⟩⟩, fun i u' xs h _ => by simp at h⟩, fun j hj => ?_, Own.nil _ _ _ _, by omega, by simp⟩
  · exact heap_alloc_new w _
  · simp [Value.ownBlock] at hj
    omega
/-- One more octet on the last row: its new value, in its cell. -/
theorem Grow.put {e e8 : TypeId} {B q g c : Nat} {W W' : World} {u u' : Value} {O : List (List Int)} {L L' : List Int} (h : Grow e e8 B q W (.slice (some ⟨g, 0, none⟩) (O.length + 1) c) u O L) (hne : e ≠ e8)
    (ho : Own .u8 e8 q W' u' L') (hb : Below q W W') : Grow e e8 B q (W'.setCell ⟨g, O.length, none⟩ u') (.slice (some ⟨g, 0, none⟩) (O.length + 1) c) u' O L' := by
  obtain ⟨vs, hvs, hrow, hfin⟩ := h.row
  have hgq : g < q := h.below g rfl
  have hrow' : W'.ownsRow B e 1 (.slice (some ⟨g, 0, none⟩) (O.length + 1) c) (O.length + 1) (vs ++ [u]) := by
    refine ⟨hrow.1, ?_⟩
    rcases hrow.2 with h' | ⟨g', cap, cur, h1, h2, h3, h4⟩
    · exact .inl h'
    · cases h1
      exact .inr ⟨_, _, cur, rfl, h2, by rw [hb.block g hgq]; exact h3, h4⟩
  have hset : (vs ++ [u]).set O.length u' = vs ++ [u'] := by rw [← hvs, List.set_append_right _ _ (Nat.le_refl _), Nat.sub_self]; rfl
  have hst := (hrow'.stored O.length u').1
  rw [hset] at hst
  obtain ⟨cur, hcur⟩ := row_cells hrow' (j := g) rfl
  refine ⟨⟨vs, hvs, hst, fun i u1 xs h1 h2 => (hfin i u1 xs h1 h2).same (Nat.le_trans hb.size (by simp [World.setCell])) (Nat.le_refl _) fun b hbq hbs hC => ?_⟩, h.below, ?_, h.lo, Nat.le_trans h.hi (Nat.le_trans hb.size (by simp [World.setCell]))⟩
  · have hbg : b ≠ g := by
      rintro rfl
      obtain ⟨C, fz, hC⟩ := hC
      rw [← hb.block b hbq, hcur] at hC
      injection hC with hC; injection hC with _ he; exact hne he
    exact (Below.heap_setCell _ _ _ _ hbg).trans (hb.block b hbq)
  · refine ⟨Turns.row ((Turns.refl (fun k => k = g) W').set g O.length u' rfl) ho.1 fun j hj => ?_, ho.2⟩
    have := (ho.1.lt j hj).1
    omega
theorem Grow.putBelow {B q g j : Nat} {w W W' : World} (hb0 : Below B w W) (hb : Below q W W') (hlo : B ≤ q) (hg : B ≤ g) (u' : Value) : Below B w (W'.setCell ⟨g, j, none⟩ u') :=
  (hb0.trans (hb.mono hlo)).setCell hg _
/-- All rows, read. -/
theorem Grow.rows {e e8 : TypeId} {B q : Nat} {W : World} {v u : Value} {O : List (List Int)} {L : List Int} (h : Grow e e8 B q W v u O L) :
    ∃ a c, v = .slice a (O.length + 1) c ∧ Rws W a (O.length + 1) c (O ++ [L]) ∧ Rws W a O.length c O := by
  obtain ⟨vs, hvs, hrow, hfin⟩ := h.row
  rcases hrow.2 with ⟨_, h0⟩ | ⟨g, cap, cur, rfl, hg, h1, h2, h3, h4⟩
  · omega
  · have hlt : g < W.heap.size := (hrow.lt g rfl).2
    have cellat : ∀ (i : Nat) (xs : List Int), O[i]? = some xs → ∃ ai li ci, W.cell? ⟨g, i, none⟩ = some (.slice ai li ci) ∧ Reads .u8 W ai li ci xs := by
      intro i xs hi
      have hil : i < O.length := (List.getElem?_eq_some_iff.1 hi).1
      have hiv : i < vs.length := by omega
      obtain ⟨a, l, c, e1, hr, _⟩ := hfin i _ xs (List.getElem?_eq_getElem hiv) hi
      refine ⟨a, l, c, ?_, hr⟩
      rw [hrow.cellAt i (by omega), List.getElem?_append_left hiv, List.getElem?_eq_getElem hiv, e1]
    refine ⟨_, _, rfl, ⟨by simp, h2, h3, fun _ => ⟨g, 0, rfl, hlt, fun i xs hi => ?_⟩⟩, ⟨rfl, by omega, h3, fun _ => ⟨g, 0, rfl, hlt, fun i xs hi => by rw [Nat.zero_add]; exact cellat i xs hi⟩⟩⟩
    rw [Nat.zero_add]
    by_cases hil : i < O.length
    · rw [List.getElem?_append_left hil] at hi
      exact cellat i xs hi
    · have hie : i = O.length := by
        have := (List.getElem?_eq_some_iff.1 hi).1
        simp at this
        omega
      subst hie
      simp at hi
      subst hi
      obtain ⟨a, c, hu, hr⟩ := h.last.reads
      refine ⟨a, _, c, ?_, hr⟩
      rw [hrow.cellAt _ (by omega), ← hvs]
      simp [hu]

section
variable {P : Program} {ops : Array Oper} {rest : List Oper} {o : Oper} {a : Act} {K : Act → World → Prop} {Q : Exit → Act → World → Prop} {E : Prop} {t e : TypeId} {k : IntKind} {by_ : Nat}
/-- 'append(row, y)' at a base of one's own, as a step of a region that draws its order. -/
theorem step_pushQ (ST : SliceT P t e k by_) (hgd : o.guard = none) (s x : Operand) (ho : o.op = .call { callee := .builtin .append, args := #[s, x], argTypes := #[t, t] })
    {q : Nat} {wr : World} {e' : TypeId} {y : Int} {v : Value} {xs : List Int} (hs : a.eval s = v) (hx : ∃ c, a.eval x = .slice (some ⟨wr.heap.size, 0, none⟩) 1 c)
    (hown : Own k e q wr v xs) (hq : q ≤ wr.heap.size) (hlen : xs.length < 1000000000000) (hwf : (Lit.int k y).wf = true)
    (h : ∀ v' w', Own k e q w' v' (xs ++ [y]) → Below q wr w' → K (a.put o.dst v') w') :
    if Region.wanted o (yielded ops a.tmps) = true then Oper.wp P o a (wr.alloc (.cells #[.int k y] e')) K Q else E := by
  obtain ⟨i, hi, hz0, hz1, hz2⟩ := info_parts ST.info
  obtain ⟨c, hx⟩ := hx
  have hsm := ST.small
  have hmul : (xs.length + 1) * by_ ≤ (xs.length + 1) * 8 := Nat.mul_le_mul_left _ hsm
  have hw : Region.wanted o (yielded ops a.tmps) = true := by simp [Region.wanted, hgd]
  rw [if_pos hw]
  refine wp_append_lies _ s x t ho q e i (.int k 0) 1 by_ ST.under hi hz0 hz1 hz2 rfl (by decide) v xs.length (xs.map (Value.int k)) hs (hown.1.alloc _) ⟨wr.heap.size, 0, none⟩ 1 c [.int k y] hx rfl ?_ (by intro u hu; simp at hu; subst hu; rfl) (by omega) (by unfold maxLen; omega) (by omega)
    (Nat.le_trans hq (by simp)) _ rfl ?_
  · intro j u hj
    match j, hj with
    | 0, hj => simp at hj; subst hj; simp [Addr.add]
  · intro g cap w' hown' hgrow _ _
    refine h _ w' ⟨by simpa using hown', ?_⟩ (((Below.refl q wr).alloc hq _).grown hgrow (Nat.le_trans hq (by simp)) (fun j hj => (hown.1.lt j hj).1))
    intro z hz
    rcases List.mem_append.1 hz with hz | hz
    · exact hown.2 z hz
    · simp at hz; subst hz; exact hwf
/-- 'append(rows, nil)': a new row begins. -/
theorem wpList_line {e8 : TypeId} (hu : P.underlying t = some (.slice e)) (hinf : (P.info? e).map (fun i => (i.zero, i.size, i.bytes)) = some (some (.slice none 0 0), 1, 24)) (hne : e ≠ e8)
    (hgd : o.guard = none) (s x : Operand) (ho : o.op = .call { callee := .builtin .append, args := #[s, x], argTypes := #[t, t] })
    {B q : Nat} {wr : World} {v u : Value} {O : List (List Int)} {L : List Int} (hs : a.eval s = v) (hx : ∃ c, a.eval x = .slice (some ⟨wr.heap.size, 0, none⟩) 1 c)
    (h : Grow e e8 B q wr v u O L) (hlen : O.length < 1000000000)
    (hK : ∀ v' w', Grow e e8 B w'.heap.size w' v' (.slice none 0 0) (O ++ [L]) [] → Below B wr w' → wpList P ops Q rest (a.put o.dst v') w') :
    wpList P ops Q (o :: rest) a (wr.alloc (.cells #[.slice none 0 0] e)) := by
  obtain ⟨i, hi, hz0, hz1, hz2⟩ := info_parts hinf
  obtain ⟨c, hx⟩ := hx
  obtain ⟨vs, hvs, hrow, hfin⟩ := h.row
  have hB : B ≤ wr.heap.size := Nat.le_trans h.lo h.hi
  refine wpList_append_own _ hgd s x t ho B e i (.slice none 0 0) 1 24 hu hi hz0 hz1 hz2 rfl (by decide) v (O.length + 1) (vs ++ [u]) hs (hrow.alloc _) ⟨wr.heap.size, 0, none⟩ 1 c [.slice none 0 0] hx rfl (cell_one_new _ _ _) (by intro w hw; simp at hw; subst hw; rfl) (by unfold maxLen; omega) (by omega)
    (Nat.le_trans hB (by simp)) ?_
  intro v' w' hown' hgrow _
  have hT : Turns (fun k => v.ownBlock = some k) wr w' := ((Turns.refl _ _).below ((Below.refl wr.heap.size wr).alloc (Nat.le_refl _) _)).grown hgrow (fun j hj _ => hj)
  have hnot : ∀ b, (∃ C fz, wr.heap[b]? = some (.cells C e8 fz)) → ¬ v.ownBlock = some b := by
    intro b hC hv
    obtain ⟨C, fz, hC⟩ := hC
    obtain ⟨cur, hcur⟩ := row_cells hrow hv
    rw [hC] at hcur
    injection hcur with hcur; injection hcur with _ he; exact hne he.symm
  refine hK v' w' ⟨⟨vs ++ [u], by simp [hvs], by simpa using hown', fun j u1 xs h1 h2 => ?_⟩, fun j hj => (hown'.lt j hj).2, Own.nil _ _ _ _, Nat.le_trans hB hT.size, Nat.le_refl _⟩
    (((Below.refl B wr).alloc hB _).grown hgrow (Nat.le_trans hB (by simp)) (fun j hj => (hrow.lt j hj).1))
  have same : ∀ {u xs}, FinP wr.heap.size e8 wr u xs → FinP w'.heap.size e8 w' u xs := fun hf => hf.same hT.size hT.size fun b _ hb hC => hT.block b hb (hnot b hC)
  rcases Nat.lt_trichotomy j vs.length with hj | hj | hj
  · rw [List.getElem?_append_left hj] at h1
    rw [List.getElem?_append_left (by rw [← hvs]; exact hj)] at h2
    exact same ((hfin j u1 xs h1 h2).same (Nat.le_refl _) h.hi (fun _ _ _ _ => rfl))
  · subst hj
    rw [List.getElem?_append_right (Nat.le_refl _)] at h1
    rw [List.getElem?_append_right (by rw [hvs]; exact Nat.le_refl _), hvs] at h2
    simp at h1 h2
    subst h1 h2
    obtain ⟨a1, c1, hu1, hr1⟩ := h.last.reads
    refine same ⟨a1, _, c1, hu1, hr1, fun b off hl ha => ?_⟩
    rcases h.last.1.2 with ⟨h1', h2'⟩ | ⟨g, cap, cur, h1', _, hg, _⟩
    · omega
    · rw [hu1, ha] at h1'
      cases h1'
      exact ⟨(h.last.1.lt b (by rw [hu1, ha]; rfl)).2, cur, _, hg⟩
  · rw [List.getElem?_eq_none (by simp; omega)] at h1
    cases h1
end
end Go.Proofs.YtefhddbbiheadaaGreat

/-! R29 -/
namespace Go.Proofs.YtefhddbbiheadaaGreat
open Go.RowKit
set_option linter.unusedVariables false

theorem drop_one29 {xs : List Int} {k : Nat} {x : Int} (h : xs[k]? = some x) : xs.drop k = x :: xs.drop (k + 1) := by
  have hk : k < xs.length := (List.getElem?_eq_some_iff.1 h).1
  rw [List.drop_eq_getElem_cons hk, (List.getElem?_eq_some_iff.1 h).2]
theorem info29 : (Tryz.prog.info? 22).map (fun i => (i.zero, i.size, i.bytes)) = some (some (.slice none 0 0), 1, 24) := by kernel_rfl
theorem ne29 : (22 : TypeId) ≠ 5 := by decide
set_option maxHeartbeats 4000000 in
theorem ref29_cut (a : Option Addr) (len cap : Nat) (xs : List Int) (w : World) (hr : Reads .u8 w a len cap xs) (hN : len < 10000000) :
    Calls Tryz.prog 57 #[.slice a len cap] w fun e w' => ∃ a' n c, e = .returned (.slice a' n c) ∧ Rws w' a' n c (cutA xs) ∧ Below w.heap.size w w' := by
  have HR := hid hr
  have hsz := hr.size
  clear hr
  go_enter Tryz.func57, Tryz.ntmps57
  go_wp2
  go_loopw [3, 4] (fun v i wr => ∃ k q : Nat, ∃ u : Value, ∃ O : List (List Int), ∃ L : List Int, k ≤ len ∧ i = .int .i64 k ∧ Hid (Grow 22 5 w.heap.size q wr v u O L) ∧ Below w.heap.size w wr ∧ O.length ≤ k ∧ L.length ≤ k ∧ Hid (O ++ cutS (xs.drop k) L = cutA xs)) (fun _ i _ => len - (intOf i).toNat)
  case atStart => exact ⟨0, _, _, [], [], Nat.zero_le _, rfl, Grow.start 22 5 w, (Below.refl _ _).alloc (Nat.le_refl _) _, Nat.le_refl _, Nat.le_refl _, rfl⟩
  case round =>
    obtain ⟨k, q, u, O, L, hk, rfl, hG, hbel, hO, hL, hn⟩ := hrel
    obtain ⟨g, c, rfl, hBg, hgq, hcell, hfz, au, cu, rfl⟩ := hG.out.shape
    by_cases hlt : k < len
    · obtain ⟨b, off, x, rfl, _, hcx, h0, h1, hx⟩ := (HR.out.below hbel).get8 hlt
      have hd := hn.out
      rw [drop_one29 hx.out.1] at hd
      by_cases h63 : x = 63
      · subst h63
        rw [cut_q] at hd
        have e1 : Hid ((O ++ [L]) ++ cutS (xs.drop (k + 1)) [] = cutA xs) := by unfold Hid; rw [← hd, List.append_assoc]; rfl
        clear hd hn
        go_wp2_with (at_builtin; refine wpList_line (e8 := 5) Tryz.underlying49 info29 ne29 rfl _ _ rfl rfl ⟨_, rfl⟩ hG.out (by omega) ?_; intro v3 w3 hG3 hb3)
        go_roundw
        case rel => exact ⟨k + 1, _, _, _, _, by omega, by go_num, hG3, hbel.trans hb3, by simp; omega, Nat.zero_le _, e1.out⟩
        case measure => simp [intOf]; omega
      · rw [cut_on h63] at hd
        have e1 : Hid (O ++ cutS (xs.drop (k + 1)) (L ++ [x]) = cutA xs) := hd
        have hn63 : (x == 63) = false := by simpa using h63
        have hwx := mk_u8 h0 h1
        have hqs := hG.out.hi
        have hl3 : Hid ((L ++ [x]).length = L.length + 1) := by unfold Hid; simp
        have q1 : (0 : Int) ≤ (k : Int) := by omega
        have q2 : (k : Int) < (len : Int) := by omega
        have q3 : (0 : Int) ≤ (O.length : Int) := by omega
        have q4 : (O.length : Int) < (O.length : Int) + 1 := by omega
        have q5 : (O.length : Int).toNat = O.length := by omega
        have q6 : (k : Int).toNat = k := by omega
        have hcD : wr.drew.cell? ⟨g, O.length, none⟩ = some (.slice au L.length cu) := hcell
        have hcA : (wr.alloc (.cells #[.int .u8 x] 5)).cell? ⟨g, O.length, none⟩ = some (.slice au L.length cu) := (((Below.refl wr.heap.size wr).alloc (Nat.le_refl _) _).cell (p := ⟨g, O.length, none⟩) (Nat.lt_of_lt_of_le hgq hqs)).trans hcell
        have hxD : wr.drew.cell? ⟨b, off + k, none⟩ = some (.int .u8 x) := hcx
        clear hd hn h63
        go_wp2_with fail
        go_region_law (refine step_pushQ (q := q) (wr := wr.drew) ST8 rfl (.tmp 29) (.tmp 34) rfl rfl ⟨_, rfl⟩ hG.out.last.drew' hqs (by omega) hwx ?_; intro v3 w3 ho3 hb3; obtain ⟨a3, c3, rfl, hr3⟩ := ho3.reads; rw [hl3.out] at ho3; have hb4 := (below_drew (Below.refl q wr)).trans hb3; have hG3 := hid (hG.out.put ne29 ho3 hb4); have hcell3 := (hb4.cell (p := ⟨g, O.length, none⟩) hgq).trans hcell; have hfz3 : w3.frozen? ⟨g, O.length, none⟩ = false := (World.frozen?_of_block (hb4.block g hgq)).trans hfz)
        all_goals
          have hb5 := Grow.putBelow (j := O.length) hbel hb4 hG.out.lo hBg (.slice a3 (L.length + 1) c3)
          clear hcell3 hfz3 hcD hcA hxD hb3 hr3 hcell hfz ho3
          go_wp2_with fail
          go_roundw
          case rel => exact ⟨k + 1, _, _, _, _, by omega, by go_num, hG3.out, hb5, by omega, by rw [hl3.out]; omega, e1⟩
          case measure => simp [intOf]; omega
    · have hd := hn.out
      rw [List.drop_of_length_le (by omega), cutS] at hd
      obtain ⟨a', c', hv', hR1, hR2⟩ := hG.out.rows
      cases hv'
      have e1 := hid hd
      clear hd hn
      go_wp2
      go_ret
      exact ⟨_, _, _, rfl, by rw [← e1.out]; exact hR1, hbel⟩
theorem ref29_code (c : Int) (w : World) (h0 : 0 ≤ c) (h1 : c ≤ 255) :
    Calls Tryz.prog 58 #[.int .u8 c] w fun e w' => e = .returned (.int .i64 (ewCd c)) ∧ w = w' := by
  have HL := hid (lower_r c w h0 h1)
  unfold ewCd
  generalize lowI c = L at *
  by_cases h98 : L = 98
  · subst h98
    go_enter Tryz.func58, Tryz.ntmps58
    go_wp2_with (go_at_call 90; (with_reducible refine HL.out.mono ?_); rintro e w' ⟨rfl, rfl⟩)
    go_ret
    exact ⟨rfl, rfl⟩
  · rw [if_neg h98]
    have e1 : (L == 98) = false := by simpa using h98
    by_cases h113 : L = 113
    · subst h113
      go_enter Tryz.func58, Tryz.ntmps58
      go_wp2_with (go_at_call 90; (with_reducible refine HL.out.mono ?_); rintro e w' ⟨rfl, rfl⟩)
      go_ret
      exact ⟨rfl, rfl⟩
    · rw [if_neg h113]
      have e2 : (L == 113) = false := by simpa using h113
      clear h98 h113
      go_enter Tryz.func58, Tryz.ntmps58
      go_wp2_with (go_at_call 90; (with_reducible refine HL.out.mono ?_); rintro e w' ⟨rfl, rfl⟩)
      go_ret
      exact ⟨rfl, rfl⟩
end Go.Proofs.YtefhddbbiheadaaGreat
