/-
  Texts of ours laid together: D33b, C03, Rws, Rr.
-/
import Derived.Test.YtefhddbbiheadaaGreatRows
import Derived.Deep.Matrix
import Derived.RangeFuncNested
import Derived.RangeFuncBox
import Derived.OrdersIn
import Derived.OwnWalkIn
import Derived.Test.YtefhddbbiheadaaGreatZ12

/-! D33b -/
namespace Go.Proofs.YtefhddbbiheadaaGreat
open Go.RowKit
set_option linter.unusedVariables false

def wdsP (l : List (Int × List Int)) : List (List Int) := (l.filter fun p => decide (p.1 = 3)).map fun p => p.2
def wdsL (s : List Int) : List (List Int) := wdsP (pcsP s)
theorem shw_words (l : List (Int × List Int)) : ∀ m : Nat, m ≤ l.length → (shwN l m).filter (fun p => decide (p.1 = 3)) = (l.take m).filter (fun p => decide (p.1 = 3))
  | 0, _ => by unfold shwN; simp
  | m + 1, hm => by
    have ih := shw_words l m (by omega)
    have hx : l[m]? = some l[m] := List.getElem?_eq_getElem (by omega)
    rw [shw_snoc, List.take_succ_eq_append_getElem (by omega), List.filter_append, List.filter_append, ih]
    congr 1
    by_cases h : hidP (l.map Prod.fst) m = true
    · rw [if_pos h]
      have hk := hid_gap h
      rw [kind_at (k := l[m].1) (x := l[m].2) hx] at hk
      simp [hk]
    · rw [if_neg h, hx]
      rfl
theorem shwP_words (s : List Int) : (shwP s).filter (fun p => decide (p.1 = 3)) = (pcsP s).filter (fun p => decide (p.1 = 3)) := by
  have h := shw_words (pcsP s) (pcsP s).length (Nat.le_refl _)
  rw [List.take_length] at h
  exact h
theorem set_words (s : List Int) : setsL s = (wdsL s).map ewH := by
  unfold setsL setP wdsL wdsP
  rw [shwP_words, List.map_map]
  rfl
theorem odd_words (s : List Int) : oddN s = (wdsL s).countP (fun x => !ewS x) := by
  have h : oddN s = ((shwP s).filter (fun p => decide (p.1 = 3))).countP (fun p => !ewS p.2) := by
    unfold oddN oddP
    rw [List.countP_filter]
    congr 1
    funext p
    rw [Bool.and_comm]
  rw [h, shwP_words]
  unfold wdsL wdsP
  rw [List.countP_map]
  rfl
theorem wds_snoc {L : List (Int × List Int)} {j : Nat} {k : Int} {x : List Int} (ht : L.take (j + 1) = L.take j ++ [(k, x)]) : wdsP (L.take (j + 1)) = wdsP (L.take j) ++ (if k = 3 then [x] else []) := by
  rw [ht]
  unfold wdsP
  rw [List.filter_append, List.map_append]
  congr 1
  by_cases h : k = 3 <;> simp [h]
theorem wdsP_len (L : List (Int × List Int)) : (wdsP L).length ≤ L.length := by
  unfold wdsP
  rw [List.length_map]
  exact List.length_filter_le _ _
theorem wdsL_mem {s x : List Int} (h : x ∈ wdsL s) : x.length ≤ s.length := by
  unfold wdsL wdsP at h
  obtain ⟨p, hp, rfl⟩ := List.mem_map.1 h
  obtain ⟨i, hi⟩ := List.mem_iff_getElem?.1 (List.mem_filter.1 hp).1
  exact (pcsP_at (k := p.1) (x := p.2) hi).2.2.2
theorem lnsP_len (s : List Int) : (lnsP s).length ≤ s.length := by
  unfold lnsP
  rw [List.length_map]
  exact Nat.le_trans (shwP_sub s).length_le (pcsP_len s)
theorem shwP_txt {s : List Int} {p : Int × List Int} (h : p ∈ shwP s) : p.2.length ≤ s.length := by
  obtain ⟨i, hi⟩ := List.mem_iff_getElem?.1 ((shwP_sub s).subset h)
  exact (pcsP_at (k := p.1) (x := p.2) hi).2.2.2
theorem lnsP_mem {s x : List Int} (h : x ∈ lnsP s) : x.length ≤ s.length := by
  unfold lnsP at h
  obtain ⟨p, hp, rfl⟩ := List.mem_map.1 h
  exact Nat.le_trans (rdPc_len p) (shwP_txt hp)
theorem odd_on {W : List (List Int)} {j : Nat} {x : List Int} (ht : W.take (j + 1) = W.take j ++ [x]) : (W.take (j + 1)).countP (fun x => !ewS x) = (W.take j).countP (fun x => !ewS x) + if ewS x = true then 0 else 1 := by
  rw [ht, List.countP_append, List.countP_cons, List.countP_nil]
  cases ewS x <;> rfl
theorem set_on {W : List (List Int)} {j : Nat} {x : List Int} (ht : W.take (j + 1) = W.take j ++ [x]) : (W.take (j + 1)).map ewH = (W.take j).map ewH ++ [ewH x] := by rw [ht, List.map_append]; rfl
end Go.Proofs.YtefhddbbiheadaaGreat

/-! C03 -/
namespace Go.Proofs.YtefhddbbiheadaaGreat
open Go.RowKit
set_option linter.unusedVariables false

theorem CTR : SliceT Tryz.prog 25 21 .i32 4 := ⟨Tryz.underlying25, by kernel_rfl, by decide⟩

theorem scalar_Surrogate (c : Int) (w : World) :
    Calls Tryz.prog 174 #[.int .i32 c] w fun e w' => e = .returned (.bool (surB c)) ∧ w = w' := by
  go_enter Tryz.func174, Tryz.ntmps174
  go_wp2
  all_goals (go_ret; exact ⟨ret_bool (by unfold surB; simp; omega), rfl⟩)
theorem scalar_Is (c : Int) (w : World) :
    Calls Tryz.prog 160 #[.int .i32 c] w fun e w' => e = .returned (.bool (scB c)) ∧ w = w' := by
  go_enter Tryz.func160, Tryz.ntmps160
  go_wp2_with (go_at_call 174; (with_reducible refine (scalar_Surrogate _ _).mono ?_); rintro e w' ⟨rfl, rfl⟩)
  all_goals (go_ret; exact ⟨ret_bool (by first | exact sc_of ‹_› ‹_› | (unfold scB; simp; omega)), rfl⟩)

end Go.Proofs.YtefhddbbiheadaaGreat

/-! Rws -/
namespace Go.Proofs.YtefhddbbiheadaaGreat
open Go.RowKit
set_option linter.unusedVariables false

/-! ### slices of slices, read -/
structure Rws (W : World) (a : Option Addr) (n c : Nat) (xss : List (List Int)) : Prop where
  size : xss.length = n
  room : n ≤ c
  top : c ≤ maxLen
  cell : 0 < n → ∃ b off, a = some ⟨b, off, none⟩ ∧ b < W.heap.size ∧ ∀ (i : Nat) (xs : List Int), xss[i]? = some xs → ∃ ai li ci, W.cell? ⟨b, off + i, none⟩ = some (.slice ai li ci) ∧ Reads .u8 W ai li ci xs
theorem Rws.below {W W' : World} {a : Option Addr} {n c : Nat} {xss : List (List Int)} (h : Rws W a n c xss) (hb : Below W.heap.size W W') : Rws W' a n c xss :=
  ⟨h.size, h.room, h.top, fun hl => by
    obtain ⟨b, off, ha, hlt, hc⟩ := h.cell hl
    refine ⟨b, off, ha, Nat.lt_of_lt_of_le hlt hb.size, fun i xs hi => ?_⟩
    obtain ⟨ai, li, ci, h1, h2⟩ := hc i xs hi
    exact ⟨ai, li, ci, (hb.cell (p := ⟨b, off + i, none⟩) hlt).trans h1, h2.below hb⟩⟩
theorem Rws.get {W : World} {a : Option Addr} {n c : Nat} {xss : List (List Int)} (h : Rws W a n c xss) {i : Nat} (hi : i < n) :
    ∃ b off xs ai li ci, a = some ⟨b, off, none⟩ ∧ b < W.heap.size ∧ W.cell? ⟨b, off + i, none⟩ = some (.slice ai li ci) ∧ Reads .u8 W ai li ci xs ∧ xss[i]? = some xs ∧ xss.take (i + 1) = xss.take i ++ [xs] := by
  have hx : i < xss.length := by rw [h.size]; exact hi
  obtain ⟨b, off, ha, hlt, hc⟩ := h.cell (by omega)
  obtain ⟨ai, li, ci, h1, h2⟩ := hc i _ (List.getElem?_eq_getElem hx)
  exact ⟨b, off, _, ai, li, ci, ha, hlt, h1, h2, List.getElem?_eq_getElem hx, by rw [List.take_succ_eq_append_getElem hx]⟩
/-- An argument of slices of octets, opened. -/
theorem rws_open {H : Type} {enc : TypeId × Value → H} {P : Program} {w : World} {t e q : TypeId} (ht : P.underlying t = some (.slice e)) (he : P.underlying e = some (.slice q)) (hq : P.underlying q = some (.int .u8)) (ce : P.cellsOf e = 1) (cq : P.cellsOf q = 1)
    {fuel : Nat} {a : Option Addr} {len cap : Nat} {x : DataW H × List MemPlace} (h : DataW.trod enc P w 0 (fun _ => true) true fuel t [.slice a len cap] = some x) : ∃ xss, Rws w a len cap xss := by
  rcases Go.Deep.open_int_rows ht he hq ce cq h with ⟨hcs, _⟩ | ⟨a', l', c', A, L, C, Z, hcs, _, hl, hm, _, hr⟩
  · simp at hcs
    obtain ⟨rfl, rfl, rfl⟩ := hcs
    exact ⟨[], rfl, Nat.le_refl _, Nat.zero_le _, fun hh => by omega⟩
  · simp at hcs
    obtain ⟨rfl, rfl, rfl⟩ := hcs
    refine ⟨(List.range len).map fun r => (Z r).take (L r), by simp, hl, hm, fun hpos => ?_⟩
    obtain ⟨b, off, spot⟩ := a'
    have h0 := (hr 0 (by omega)).1
    have hspot : spot = none := by simpa [Addr.add] using World.cell?_spot h0
    subst hspot
    refine ⟨b, off, rfl, World.block_lt_of_cell? w _ h0, fun i xs hi => ?_⟩
    have hil : i < len := by
      have := (List.getElem?_eq_some_iff.1 hi).1
      simpa using this
    obtain ⟨r1, r2, r3, r4, r5, r6, r7⟩ := hr i (by omega)
    have hx : (Z i).take (L i) = xs := by
      rw [List.getElem?_map, List.getElem?_range hil] at hi
      exact Option.some.inj hi
    refine ⟨A i, L i, C i, by rw [← Go.WideShapes.add_plain]; exact r1, ?_⟩
    rw [← hx]
    cases hA : A i with
    | none =>
      have hC := r6 hA
      have hL : L i = 0 := by omega
      rw [hL, List.take_zero]
      exact Reads.nil _ _ _ _ r3
    | some a2 =>
      exact reads_of_ints r2 r3 r4 (fun c hc => (r7 a2 hA).2 c (by omega)) r5
end Go.Proofs.YtefhddbbiheadaaGreat

/-! Rr -/
namespace Go.Proofs.YtefhddbbiheadaaGreat
open Go.RowKit
set_option linter.unusedVariables false

/-! ### a region that draws its order, by what holds at each of its states -/
theorem wpAnyIn_inv {F : Fence} {n : Nat} {P : Program} {md : Region.Mode} {ops : Array Oper} {Q : Exit → Act → World → Prop} (m : Nat) (states : List (Array Bool)) (rank : Array Bool → Nat) (pre : Array Bool → Nat → Bool) (over : Array Bool → Bool) (Inv : Array Bool → Act → World → Prop)
    (hst : ∀ L ∈ states, (rank L = 0 → Region.ready md ops L = []) ∧ (Region.ready md ops L = [] → over L = true) ∧ ∀ i ∈ Region.ready md ops L, (i < m ∧ pre L i = true) ∧ L.setIfInBounds i true ∈ states ∧ rank (L.setIfInBounds i true) < rank L)
    (hdone : ∀ L ∈ states, over L = true → ∀ a w, Inv L a w → Q .normal a w)
    (hstep : ∀ L ∈ states, ∀ i, i < m → pre L i = true → ∀ a w, Inv L a w → wpOpIn F n P ops Q i (Inv (L.setIfInBounds i true)) a w) :
    ∀ (fuel : Nat) (L : Array Bool) (a : Act) (w : World), L ∈ states → rank L ≤ fuel → Inv L a w → wpAnyIn F n P md ops Q fuel L a w
  | 0, L, a, w, hL, hf, hi => by
    have h0 := (hst L hL).1 (by omega)
    exact ⟨h0, hdone L hL ((hst L hL).2.1 h0) a w hi⟩
  | fuel + 1, L, a, w, hL, hf, hi => by
    refine ⟨fun h0 => hdone L hL ((hst L hL).2.1 h0) a w hi, fun i hir => ?_⟩
    have hs := (hst L hL).2.2 i hir
    exact wpOpIn_mono (fun a' w' h' => wpAnyIn_inv m states rank pre over Inv hst hdone hstep fuel _ a' w' hs.2.1 (by omega) h') (hstep L hL i hs.1.1 hs.1.2 a w hi)
/-- 'append(s, y)', as a step of such a region. -/
theorem opIn_append {F : Fence} {n : Nat} {P : Program} {ops : Array Oper} {Q : Exit → Act → World → Prop} {o : Oper} {a : Act} {w : World} {K : Act → World → Prop} {E : Prop} (hg : o.guard = none) (s x : Operand) (t : TypeId)
    (hop : o.op = Op.call { callee := Callee.builtin Builtin.append, args := #[s, x], argTypes := #[t, t] })
    (base : Nat) (e : TypeId) (i : TypeInfo) (z : Value) (bytes : Nat) (h1 : P.underlying t = some (.slice e)) (h2 : P.info? e = some i) (h3 : i.zero = some z) (h4 : i.size = 1) (h5 : i.bytes = bytes) (h6 : z.cells.size = 1)
    (v : Value) (k : Nat) (xs : List Value) (hs : a.eval s = v) (hown : w.ownsRow base e 1 v k xs) (ad : Addr) (c : Nat) (y : Value) (hx : a.eval x = .slice (some ad) 1 c)
    (hc : ∀ j u, [y][j]? = some u → w.cell? (ad.add j) = some u) (h1c : y.oneCell' = true) (b1 : k + 1 ≤ maxLen) (b2 : (k + 1) * bytes ≤ 140737488355328) (b3 : base ≤ w.heap.size)
    (hK : ∀ g cap w', w'.ownsRow base e 1 (.slice (some ⟨g, 0, none⟩) (k + 1) cap) (k + 1) (xs ++ [y]) → w.grownBy w' v.ownBlock → K (a.put o.dst (.slice (some ⟨g, 0, none⟩) (k + 1) cap)) w') :
    if Region.wanted o (yielded ops a.tmps) = true then Oper.wpIn F n P o a w K Q else E := by
  have hw : Region.wanted o (yielded ops a.tmps) = true := by simp [Region.wanted, hg]
  rw [if_pos hw]
  obtain ⟨v', w', hrun, r1, r2, r3⟩ := run_append_own (P := P) w base t o.type e i z 1 bytes h1 h2 h3 h4 h5 h6 (by omega) v k xs hown ad 1 c [y] (by simp) hc (by intro u hu; simp at hu; subst hu; exact h1c) b1 b2 b3
  obtain ⟨g, cap, rfl⟩ := ownsRow_succ r1
  unfold Oper.wpIn
  refine ⟨?_, ?_⟩
  · simp [Oper.about, hop, resolve, Target.leads, Sem.run_pure]
  · rw [Oper.semAt_plain F _ _ (by rw [hop]; intro c hc'; cases hc')]
    simp [execOp, hop, resolve, invoke, builtin, hs, hx, hrun, Result.andThen]
    exact hK _ _ _ r1 r2

/-! ### which blocks may have turned -/
structure Turns (bs : Nat → Prop) (W W' : World) : Prop where
  size : W.heap.size ≤ W'.heap.size
  block : ∀ k, k < W.heap.size → ¬ bs k → W'.heap[k]? = W.heap[k]?
theorem Turns.refl (bs : Nat → Prop) (W : World) : Turns bs W W := ⟨Nat.le_refl _, fun _ _ _ => rfl⟩
theorem Turns.trans {bs : Nat → Prop} {A B C : World} (h : Turns bs A B) (k : Turns bs B C) : Turns bs A C :=
  ⟨Nat.le_trans h.size k.size, fun i hi hb => (k.block i (Nat.lt_of_lt_of_le hi h.size) hb).trans (h.block i hi hb)⟩
theorem Turns.below {bs : Nat → Prop} {A B C : World} (h : Turns bs A B) (k : Below B.heap.size B C) : Turns bs A C := h.trans ⟨k.size, fun i hi _ => k.block i hi⟩
theorem Turns.set {bs : Nat → Prop} {A B : World} (h : Turns bs A B) (b : Nat) (o : Nat) (u : Value) (hb : bs b) : Turns bs A (B.setCell ⟨b, o, none⟩ u) :=
  h.trans ⟨by simp [World.setCell], fun i _ hi => Below.heap_setCell _ _ _ _ (fun e => hi (by rw [e]; exact hb))⟩
theorem Turns.grown {bs : Nat → Prop} {A B C : World} {row : Option Nat} (h : Turns bs A B) (k : B.grownBy C row) (hr : ∀ j, row = some j → j < A.heap.size → bs j) : Turns bs A C :=
  ⟨Nat.le_trans h.size k.size, fun i hi hb => (k.block i (Nat.lt_of_lt_of_le hi h.size) (fun e => hb (hr i e.symm hi))).trans (h.block i hi hb)⟩
theorem Turns.boxed {bs : Nat → Prop} {W W' : World} (h : Turns bs W W') {B : Nat} {t : TypeId} {v : Value} (hv : Boxed W B t v) (hB : ¬ bs B) : Boxed W' B t v := (h.block B hv.lt hB).trans hv

/-! ### a piece -/
/-- The value u is a slice of the octets xs; it lies below q, or in a row of octets. -/
def Piece (q : Nat) (e8 : TypeId) (W : World) (u : Value) (xs : List Int) : Prop :=
  ∃ a l c, u = .slice a l c ∧ Reads .u8 W a l c xs ∧ ∀ b off, 0 < l → a = some ⟨b, off, none⟩ → b < q ∨ ∃ C fz, W.heap[b]? = some (.cells C e8 fz)
theorem Piece.turns {q : Nat} {e8 : TypeId} {bs : Nat → Prop} {W W' : World} {u : Value} {xs : List Int} (h : Piece q e8 W u xs) (ht : Turns bs W W') (hq : ∀ k, bs k → q ≤ k)
    (hne : ∀ k C fz, bs k → W.heap[k]? ≠ some (.cells C e8 fz)) : Piece q e8 W' u xs := by
  obtain ⟨a, l, c, rfl, hr, hb⟩ := h
  have key : ∀ b off, 0 < l → a = some ⟨b, off, none⟩ → W'.heap[b]? = W.heap[b]? := by
    intro b off hl ha
    obtain ⟨b', off', ha', hlt, _⟩ := hr.cell hl
    rw [ha] at ha'; cases ha'
    refine ht.block b hlt fun hbs => ?_
    rcases hb b off hl ha with h1 | ⟨C, fz, h1⟩
    · have := hq b hbs; omega
    · exact hne b C fz hbs h1
  refine ⟨a, l, c, rfl, ⟨hr.size, hr.room, hr.top, hr.wf, fun hl => ?_⟩, fun b off hl ha => ?_⟩
  · obtain ⟨b, off, ha, hlt, hc⟩ := hr.cell hl
    exact ⟨b, off, ha, Nat.lt_of_lt_of_le hlt ht.size, fun i hi => (World.cell?_of_block (key b off hl ha)).trans (hc i hi)⟩
  · rcases hb b off hl ha with h1 | ⟨C, fz, h1⟩
    · exact .inl h1
    · exact .inr ⟨C, fz, by rw [key b off hl ha]; exact h1⟩
theorem Piece.own {q base : Nat} {e8 : TypeId} {W : World} {u : Value} {xs : List Int} (h : Own .u8 e8 base W u xs) : Piece q e8 W u xs := by
  obtain ⟨a, c, hv, hr⟩ := h.reads
  refine ⟨a, _, c, hv, hr, fun b off hl ha => .inr ?_⟩
  rcases h.1.2 with ⟨h1, h2⟩ | ⟨g, cap, cur, h1, _, hg, _⟩
  · omega
  · rw [hv, ha] at h1
    cases h1
    exact ⟨cur, _, hg⟩
theorem Piece.old {q : Nat} {e8 : TypeId} {w W : World} {a : Option Addr} {l c : Nat} {xs : List Int} (h : Reads .u8 w a l c xs) (hq : w.heap.size ≤ q) (hb : Below w.heap.size w W) : Piece q e8 W (.slice a l c) xs := by
  refine ⟨a, l, c, rfl, h.below hb, fun b off hl ha => .inl ?_⟩
  obtain ⟨b', off', ha', hlt, _⟩ := h.cell hl
  rw [ha] at ha'; cases ha'
  omega
/-- Pieces side by side. -/
def Pcs (q : Nat) (e8 : TypeId) (W : World) (vs : List Value) (xss : List (List Int)) : Prop :=
  vs.length = xss.length ∧ ∀ (i : Nat) (u : Value) (xs : List Int), vs[i]? = some u → xss[i]? = some xs → Piece q e8 W u xs
theorem Pcs.nil (q : Nat) (e8 : TypeId) (W : World) : Pcs q e8 W [] [] := ⟨rfl, fun i u xs h _ => by simp at h⟩
theorem Pcs.turns {q : Nat} {e8 : TypeId} {bs : Nat → Prop} {W W' : World} {vs : List Value} {xss : List (List Int)} (h : Pcs q e8 W vs xss) (ht : Turns bs W W') (hq : ∀ k, bs k → q ≤ k)
    (hne : ∀ k C fz, bs k → W.heap[k]? ≠ some (.cells C e8 fz)) : Pcs q e8 W' vs xss := ⟨h.1, fun i u xs h1 h2 => (h.2 i u xs h1 h2).turns ht hq hne⟩
theorem Pcs.snoc {q : Nat} {e8 : TypeId} {W : World} {vs : List Value} {xss : List (List Int)} {u : Value} {xs : List Int} (h : Pcs q e8 W vs xss) (hu : Piece q e8 W u xs) : Pcs q e8 W (vs ++ [u]) (xss ++ [xs]) := by
  refine ⟨by simp [h.1], fun i v ys h1 h2 => ?_⟩
  rcases Nat.lt_trichotomy i vs.length with hi | hi | hi
  · rw [List.getElem?_append_left hi] at h1
    rw [List.getElem?_append_left (by rw [← h.1]; exact hi)] at h2
    exact h.2 i v ys h1 h2
  · subst hi
    rw [List.getElem?_append_right (Nat.le_refl _)] at h1
    rw [List.getElem?_append_right (by rw [h.1]; exact Nat.le_refl _), ← h.1] at h2
    simp at h1 h2
    subst h1 h2
    exact hu
  · rw [List.getElem?_eq_none (by simp; omega)] at h1
    cases h1
theorem Pcs.set {q : Nat} {e8 : TypeId} {W : World} {vs : List Value} {xss : List (List Int)} {u : Value} {xs : List Int} (h : Pcs q e8 W vs xss) (j : Nat) (hu : Piece q e8 W u xs) : Pcs q e8 W (vs.set j u) (xss.set j xs) := by
  refine ⟨by simp [h.1], fun i v ys h1 h2 => ?_⟩
  rw [List.getElem?_set] at h1 h2
  by_cases hj : j = i
  · rw [if_pos hj] at h1 h2
    split at h1
    · rw [if_pos (by rw [← h.1]; assumption)] at h2
      cases h1; cases h2
      exact hu
    · cases h1
  · rw [if_neg hj] at h1 h2
    exact h.2 i v ys h1 h2
/-- .. in a box. -/
theorem pieces_own {β : Type} (D n₀ B : Nat) (t e e8 : TypeId) (f : β → List (List Int)) : OwnFrom D (fun (s : β) W => ∃ v vs, Boxed W B t v ∧ W.ownsRow n₀ e 1 v (f s).length vs ∧ Pcs 0 e8 W vs (f s)) := by
  rintro s W W' row ⟨v, vs, h1, h2, h3⟩ hg hr
  obtain ⟨v', h1', h2', rfl⟩ := holdsRow_own n₀ B t e 1 (fun _ : Unit => (f s).length) (fun _ => vs) (fun _ u => u = v) () W W' row ⟨v, h1, h2, rfl⟩ hg (fun r e => (hr r e).2)
  refine ⟨_, vs, h1', h2', h3.turns (bs := fun k => row = some k) ⟨hg.size, fun k hk hn => hg.block k hk (fun e => hn e.symm)⟩ (fun _ _ => Nat.zero_le _) fun k C fz hk hc => ?_⟩
  obtain ⟨_, o, ho, hoc⟩ := hr k hk
  rw [hc] at ho; cases ho; cases hoc

/-! ### slices of slices, read: Rws -/
theorem rows_read {W : World} {base : Nat} {e e8 : TypeId} {q : Nat} {v : Value} {vs : List Value} {xss : List (List Int)} (h : W.ownsRow base e 1 v xss.length vs) (hp : Pcs q e8 W vs xss) :
    ∃ a c, v = .slice a xss.length c ∧ Rws W a xss.length c xss := by
  rcases h.2 with ⟨rfl, hn⟩ | ⟨g, cap, cur, rfl, hg, hb, hnc, hcm, hcs, htk⟩
  · refine ⟨none, 0, by rw [hn], rfl, by omega, by simp, fun hl => by omega⟩
  · refine ⟨_, _, rfl, rfl, hnc, hcm, fun hl => ⟨g, 0, rfl, (h.lt g rfl).2, fun i xs hi => ?_⟩⟩
    have hil : i < xss.length := (List.getElem?_eq_some_iff.1 hi).1
    have hiv : i < vs.length := by rw [hp.1]; exact hil
    obtain ⟨a, l, c, h1, h2, _⟩ := hp.2 i _ xs (List.getElem?_eq_getElem hiv) hi
    refine ⟨a, l, c, ?_, h2⟩
    rw [Nat.zero_add, h.cellAt i (by omega), List.getElem?_eq_getElem hiv, h1]
/-! ### pieces in a row of the call's own -/
theorem Turns.row {bs : Nat → Prop} {A B : World} (h : Turns bs A B) {base size k : Nat} {e : TypeId} {u : Value} {xs : List Value} (hr : A.ownsRow base e size u k xs) (hb : ∀ j, u.ownBlock = some j → ¬ bs j) : B.ownsRow base e size u k xs := by
  refine ⟨hr.1, ?_⟩
  rcases hr.2 with h' | ⟨g, cap, cur, h1, h2, h3, h4⟩
  · exact .inl h'
  · exact .inr ⟨g, cap, cur, h1, h2, by rw [h.block g (Array.getElem?_eq_some_iff.1 h3).1 (hb g (by rw [h1]; rfl))]; exact h3, h4⟩
theorem row_cells {A : World} {base size k : Nat} {e : TypeId} {u : Value} {xs : List Value} (hr : A.ownsRow base e size u k xs) {j : Nat} (hj : u.ownBlock = some j) : ∃ cur, A.heap[j]? = some (.cells cur e (0, 0)) := by
  rcases hr.2 with ⟨rfl, _⟩ | ⟨g, cap, cur, rfl, _, h3, _⟩
  · simp [Value.ownBlock] at hj
  · simp [Value.ownBlock] at hj
    subst hj
    exact ⟨cur, h3⟩
theorem row_shape {A : World} {base size k : Nat} {e : TypeId} {u : Value} {xs : List Value} (hr : A.ownsRow base e size u k xs) : ∃ a c, u = .slice a k c := by
  rcases hr.2 with ⟨rfl, h0⟩ | ⟨g, cap, cur, rfl, _, h3, _⟩
  · exact ⟨none, 0, by rw [h0]⟩
  · exact ⟨_, _, rfl⟩
/-- A piece more. -/
theorem rows_push {W w' : World} {base k : Nat} {e e8 : TypeId} {v pv : Value} {vs : List Value} {O : List (List Int)} {s : List Int} {tmp : Obj} (hrow : W.ownsRow base e 1 v k vs) (hpc : Pcs base e8 W vs O)
    (hgrow : (W.alloc tmp).grownBy w' v.ownBlock) (hne : e ≠ e8) (hp : Piece base e8 w' pv s) : Pcs base e8 w' (vs ++ [pv]) (O ++ [s]) := by
  have hT : Turns (fun k => v.ownBlock = some k) W w' := ((Turns.refl _ _).below ((Below.refl W.heap.size W).alloc (Nat.le_refl _) tmp)).grown hgrow (fun j hj _ => hj)
  refine (hpc.turns hT (fun k hk => (hrow.lt k hk).1) fun k C fz hk hc => ?_).snoc hp
  obtain ⟨cur, hcur⟩ := row_cells hrow hk
  rw [hc] at hcur; injection hcur with hcur; injection hcur with _ he; exact hne he.symm
/-- A piece in the place of another. -/
theorem rows_set {W : World} {base base' k g c : Nat} {e e8 : TypeId} {u : Value} {vs : List Value} {O : List (List Int)} {s : List Int} (hrow : W.ownsRow base e 1 (.slice (some ⟨g, 0, none⟩) k c) k vs) (hpc : Pcs base e8 W vs O) (hne : e ≠ e8) (j : Nat) (ho : Own .u8 e8 base' W u s) :
    (W.setCell ⟨g, j, none⟩ u).ownsRow base e 1 (.slice (some ⟨g, 0, none⟩) k c) k (vs.set j u) ∧ Pcs base e8 (W.setCell ⟨g, j, none⟩ u) (vs.set j u) (O.set j s) := by
  have hT : Turns (fun k => k = g) W (W.setCell ⟨g, j, none⟩ u) := (Turns.refl _ _).set g j u rfl
  have ht : ∀ k C fz, k = g → W.heap[k]? ≠ some (.cells C e8 fz) := by
    intro k C fz hk hc
    subst hk
    obtain ⟨cur, hcur⟩ := row_cells hrow (j := k) rfl
    rw [hc] at hcur; injection hcur with hcur; injection hcur with _ he; exact hne he.symm
  have hq : ∀ k, k = g → base ≤ k := fun k hk => by subst hk; exact (hrow.lt k rfl).1
  exact ⟨(hrow.stored j u).1, (hpc.turns hT hq ht).set j ((Piece.own ho).turns hT hq ht)⟩

end Go.Proofs.YtefhddbbiheadaaGreat
