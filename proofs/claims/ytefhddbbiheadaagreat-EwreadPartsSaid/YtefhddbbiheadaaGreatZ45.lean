/-
  Texts of ours laid together: Apt, C27.
-/
import Derived.Deep.AppendLies
import Derived.Lib.AppendStr
import Derived.Test.YtefhddbbiheadaaGreatRows
import Derived.Deep.LoopGhost
import Derived.Test.YtefhddbbiheadaaGreatZ44

/-! Apt -/
namespace Go.Proofs.YtefhddbbiheadaaGreat
open Go.RowKit
set_option linter.unusedVariables false

/-- The slice (a, len, cap) reads as xs, in another block than v's row. -/
def Bes (k : IntKind) (w : World) (v : Value) (a : Option Addr) (len cap : Nat) (xs : List Int) : Prop :=
  Reads k w a len cap xs ∧ ∀ b off, 0 < len → a = some ⟨b, off, none⟩ → v.ownBlock ≠ some b
theorem Bes.turn {k : IntKind} {w w' : World} {v v' : Value} {a : Option Addr} {len cap : Nat} {xs : List Int} (h : Bes k w v a len cap xs) (hs : w.heap.size ≤ w'.heap.size)
    (hb : ∀ b, b < w.heap.size → v.ownBlock ≠ some b → v'.ownBlock ≠ some b ∧ w'.heap[b]? = w.heap[b]?) : Bes k w' v' a len cap xs := by
  obtain ⟨h, hne⟩ := h
  refine ⟨⟨h.size, h.room, h.top, h.wf, fun hl => ?_⟩, fun b off hl ha => ?_⟩
  · obtain ⟨b, off, ha, hlt, hc⟩ := h.cell hl
    refine ⟨b, off, ha, Nat.lt_of_lt_of_le hlt hs, fun i hi => ?_⟩
    rw [World.cell?_of_block (w := w) (hb b hlt (hne b off hl ha)).2]
    exact hc i hi
  · obtain ⟨b', off', ha', hlt, _⟩ := h.cell hl
    rw [ha] at ha'
    cases ha'
    exact (hb b hlt (hne b off hl ha)).1
theorem Bes.piece {k : IntKind} {w : World} {v : Value} {a : Option Addr} {len cap : Nat} {xs : List Int} (h : Bes k w v a len cap xs) {l r : Nat} (hlr : l ≤ r) (hr : r ≤ len) :
    Bes k w v (if cap = l then a else a.map (·.add l)) (r - l) (cap - l) ((xs.take r).drop l) := by
  obtain ⟨h, hne⟩ := h
  refine ⟨h.piece hlr hr, fun b off hl ha => ?_⟩
  have hrm := h.room
  obtain ⟨b', off', ha', _⟩ := h.cell (by omega)
  rw [if_neg (by omega), ha'] at ha
  simp [Addr.add_lit] at ha
  exact ha.1 ▸ hne b' off' (by omega) ha'
theorem Bes.below {k : IntKind} {w w' : World} {v : Value} {a : Option Addr} {len cap : Nat} {xs : List Int} (h : Bes k w v a len cap xs) (hb : Below w.heap.size w w') : Bes k w' v a len cap xs :=
  ⟨h.1.below hb, h.2⟩
section
variable {P : Program} {ops : Array Oper} {rest : List Oper} {o : Oper} {a : Act} {Q : Exit → Act → World → Prop} {t e : TypeId} {k : IntKind} {by_ : Nat}
/-- 'append(v, y)': what is read beside v stays beside it. -/
theorem wpList_pushA (ST : SliceT P t e k by_) (hgd : o.guard = none) (s x : Operand) (ho : o.op = .call { callee := .builtin .append, args := #[s, x], argTypes := #[t, t] })
    {B : Nat} {w0 wr : World} {e' : TypeId} {y : Int} {v : Value} {xs : List Int} (hs : a.eval s = v) (hx : ∃ c, a.eval x = .slice (some ⟨wr.heap.size, 0, none⟩) 1 c)
    (hown : Own k e B wr v xs) (hB : B ≤ wr.heap.size) (hbel : Below B w0 wr) (hlen : xs.length < 1000000000000) (hwf : (Lit.int k y).wf = true)
    (h : ∀ v' w', Own k e B w' v' (xs ++ [y]) → Below B w0 w' → (∀ (k2 : IntKind) ao n c zs, Bes k2 wr v ao n c zs → Bes k2 w' v' ao n c zs) → wpList P ops Q rest (a.put o.dst v') w') :
    wpList P ops Q (o :: rest) a (wr.alloc (.cells #[.int k y] e')) := by
  obtain ⟨i, hi, hz0, hz1, hz2⟩ := info_parts ST.info
  obtain ⟨c, hx⟩ := hx
  have hsm := ST.small
  have hmul : (xs.length + 1) * by_ ≤ (xs.length + 1) * 8 := Nat.mul_le_mul_left _ hsm
  refine wpList_append_lies _ hgd s x t ho B e i (.int k 0) 1 by_ ST.under hi hz0 hz1 hz2 rfl (by decide) v xs.length (xs.map (Value.int k)) hs (hown.1.alloc _) ⟨wr.heap.size, 0, none⟩ 1 c [.int k y] hx rfl ?_ ?_ (by omega) (by unfold maxLen; omega) (by omega)
    (Nat.le_trans hB (by simp)) (wr.heap.size + 1) (by simp) ?_
  · intro j u hj
    match j, hj with
    | 0, hj => simp at hj; subst hj; simp [Addr.add]
  · intro u hu; simp at hu; subst hu; rfl
  · intro g cap w' hown' hgrow hat hlt
    refine h _ w' ⟨by simpa using hown', ?_⟩ ((hbel.alloc hB _).grown hgrow (Nat.le_trans hB (by simp)) (fun j hj => (hown.1.lt j hj).1)) ?_
    · intro z hz
      rcases List.mem_append.1 hz with hz | hz
      · exact hown.2 z hz
      · simp at hz; subst hz; exact hwf
    · intro k2 ao n c2 zs hb
      refine hb.turn (Nat.le_trans (by simp) hgrow.size) fun b hbl hne => ⟨?_, ?_⟩
      · show some g ≠ some b
        rintro ⟨rfl⟩
        rcases hat with hat | hat
        · exact hne hat
        · omega
      · rw [hgrow.block b (by simp; omega) (fun hh => hne hh.symm)]
        exact heap_alloc_old wr _ hbl
/-- 'append(v, s...)', s a string. -/
theorem wpList_moreA {st : TypeId} (ST : SliceT P t e .u8 1) (hgd : o.guard = none) (s x : Operand) (hst : P.underlying st = some .string) (ho : o.op = .call { callee := .builtin .append, args := #[s, x], argTypes := #[t, st] })
    {B : Nat} {w0 wr : World} {v : Value} {xs : List Int} (ys : List Int) {S : ByteArray} (hs : a.eval s = v) (hx : a.eval x = .string S) (hS : Lib.strCells S = ys.map (Value.int .u8))
    (hown : Own .u8 e B wr v xs) (hB : B ≤ wr.heap.size) (hbel : Below B w0 wr) (hlen : xs.length + ys.length < 1000000000000) (hwf : ∀ y ∈ ys, (Lit.int .u8 y).wf = true)
    (h : ∀ v' w', Own .u8 e B w' v' (xs ++ ys) → Below B w0 w' → (∀ (k2 : IntKind) ao n c zs, Bes k2 wr v ao n c zs → Bes k2 w' v' ao n c zs) → wpList P ops Q rest (a.put o.dst v') w') :
    wpList P ops Q (o :: rest) a wr := by
  obtain ⟨i, hi, hz0, hz1, hz2⟩ := info_parts ST.info
  have hSl : S.size = ys.length := by rw [← Lib.strCells_length, hS, List.length_map]
  refine wpList_plain hgd fun K hK => ?_
  obtain ⟨v', w', hr, h2, h3, h4⟩ := Lib.run_append_own_string (P := P) wr B t st o.type e i ST.under hst hi hz0 hz1 hz2 v xs.length (xs.map (Value.int .u8)) hown.1 S (by unfold maxLen; omega) (by omega) hB
  have hat : v'.ownBlock = v.ownBlock ∨ v'.ownBlock = some wr.heap.size := by
    rcases hown.1.2 with ⟨rfl, hn⟩ | ⟨g, cap, cur, rfl, hbg, hg, hnc, hcm, hcs, htk⟩
    · by_cases hm : S.size = 0
      · exact .inl (by rw [h4.2 ⟨rfl, hm⟩])
      · have hr2 := run_append_nil_string (P := P) wr t st o.type e i (.int .u8 0) ST.under hst hi hz0 S (by omega) (by omega) (by rw [hz2]; omega)
        injection hr2.symm.trans hr with e1 _
        exact .inr (by rw [← e1]; rfl)
    · by_cases hroom : xs.length + S.size ≤ cap
      · have hr2 := Lib.run_append_room_string (P := P) wr t st o.type e i ST.under hst hi hz1 g xs.length cap cur hg S hroom (by simp at hcs; omega)
        injection hr2.symm.trans hr with e1 _
        exact .inl (by rw [← e1]; rfl)
      · have hr2 := Lib.run_append_grow_string (P := P) wr t st o.type e i (.int .u8 0) ST.under hst hi hz0 ⟨g, 0, none⟩ xs.length cap (xs.map (Value.int .u8)) (by rw [hz1]; simp) (hown.1.cells (g := g) rfl) S (by omega) (by omega) (by rw [hz2]; exact growslice_fits (by omega) (by omega))
        injection hr2.symm.trans hr with e1 _
        exact .inr (by rw [← e1]; rfl)
  unfold Oper.wp execOp
  simp only [ho, resolve, invoke, builtin, Sem.run_bind, Sem.run_pure, Result.andThen_ok, List.map_toArray, List.map_cons, List.map_nil, hs, hx, hr]
  refine hK _ _ (h v' w' ⟨by rw [List.map_append, ← hS, List.length_append, ← hSl]; exact h2, ?_⟩ (hbel.grown h3 hB (fun j hj => (hown.1.lt j hj).1)) ?_)
  · intro z hz
    rcases List.mem_append.1 hz with hz | hz
    · exact hown.2 z hz
    · exact hwf z hz
  · intro k2 ao n c2 zs hb
    refine hb.turn h3.size fun b hbl hne => ⟨?_, h3.block b hbl (fun hh => hne hh.symm)⟩
    rcases hat with hat | hat
    · rw [hat]; exact hne
    · rw [hat]; rintro ⟨rfl⟩; omega
end
end Go.Proofs.YtefhddbbiheadaaGreat

/-! C27 -/
namespace Go.Proofs.YtefhddbbiheadaaGreat
open Go.RowKit
set_option linter.unusedVariables false

theorem fold_blank {z : Int} (h0 : 0 ≤ z) (h1 : z ≤ 255) : isB 2 z = (decide (z = 32) || decide (z = 9)) := by
  have h : ∀ n : Fin 256, isB 2 ((n.val : Nat) : Int) = (decide (((n.val : Nat) : Int) = 32) || decide (((n.val : Nat) : Int) = 9)) := by decide +kernel
  have h2 := h ⟨z.toNat, by omega⟩
  simp only [Int.toNat_of_nonneg h0] at h2
  exact h2
theorem fold_print {z : Int} (h0 : 0 ≤ z) (h1 : z ≤ 255) : okF z = (decide (z = 32) || isB 4 z) := by
  have h : ∀ n : Fin 256, okF ((n.val : Nat) : Int) = (decide (((n.val : Nat) : Int) = 32) || isB 4 ((n.val : Nat) : Int)) := by decide +kernel
  have h2 := h ⟨z.toNat, by omega⟩
  simp only [Int.toNat_of_nonneg h0] at h2
  exact h2
theorem fldB_no {xs : List Int} (h : decide (xs.take 2 = [13, 10]) = false) : fldB xs = false := by
  match xs, h with
  | [], _ => rfl
  | [_], _ => rfl
  | [_, _], _ => rfl
  | x :: y :: z :: r, h =>
    rw [decide_eq_false_iff_not] at h
    simp only [List.take_succ_cons, List.take_zero, List.cons.injEq, and_true] at h
    show (decide (x = 13) && decide (y = 10) && (decide (z = 32) || decide (z = 9))) = false
    by_cases hx : x = 13
    · have hy : y ≠ 10 := fun hy => h ⟨hx, hy⟩
      rw [decide_eq_false hy, Bool.and_false, Bool.false_and]
    · rw [decide_eq_false hx, Bool.false_and, Bool.false_and]
theorem fldB_blank {x y z : Int} {xs : List Int} {k : Nat} (h : fldB (x :: xs.drop (k + 1)) = true) (hy : xs[k + 1]? = some y) (hz : xs[k + 2]? = some z) : fldB (z :: xs.drop (k + 3)) = false := by
  rw [drop_at27 hy, drop_at27 hz] at h
  have h' : (decide (x = 13) && decide (y = 10) && (decide (z = 32) || decide (z = 9))) = true := h
  simp only [Bool.and_eq_true, Bool.or_eq_true, decide_eq_true_eq] at h'
  have hz' : z ≠ 13 := by omega
  unfold fldB
  split
  · rename_i e
    simp only [List.cons.injEq] at e
    rw [← e.1, decide_eq_false hz']; rfl
  · rfl
theorem fldB_at {xs r : List Int} {z : Int} (h : decide (xs.take 2 = [13, 10]) = true) (hz : xs.drop 2 = z :: r) : fldB xs = (decide (z = 32) || decide (z = 9)) := by
  have e : xs = [13, 10] ++ z :: r := by rw [← of_decide_eq_true h, ← hz, List.take_append_drop]
  rw [e]; rfl
theorem lit27 (w : World) : Reads .u8 (w.alloc (.cells #[.int .u8 13, .int .u8 10] 5 (2, 3))) (some ⟨w.heap.size, 0, none⟩) 2 2 [13, 10] :=
  Reads_litB .u8 5 (2, 3) w w.heap.size rfl [13, 10] (by decide) (by decide)
theorem at27 {w : World} {a : Option Addr} {len cap : Nat} {z : Int} {r : List Int} (h : Reads .u8 w a len cap (z :: r)) : ∃ b off, a = some ⟨b, off, none⟩ ∧ w.cell? ⟨b, off, none⟩ = some (.int .u8 z) ∧ (0 : Int) < (len : Int) := by
  have hl := h.size
  rw [List.length_cons] at hl
  obtain ⟨b, off, y, ha, _, hc, _, _, hy⟩ := h.get8 (i := 0) (by omega)
  have e := hy.out.1
  rw [List.getElem?_cons_zero] at e
  obtain rfl := Option.some.inj e
  exact ⟨b, off, ha, hc, by omega⟩
set_option maxHeartbeats 1000000 in
theorem fold_isFold (a : Option Addr) (len cap : Nat) (xs : List Int) (w : World) (hr : Reads .u8 w a len cap xs) :
    Calls Tryz.prog 45 #[.slice a len cap] w fun e w' => e = .returned (.bool (fldB xs)) ∧ Below w.heap.size w w' := by
  have hb : Below w.heap.size w (w.alloc (.cells #[.int .u8 13, .int .u8 10] 5 (2, 3))) := (Below.refl _ _).alloc (Nat.le_refl _) _
  have kc := convB (P := Tryz.prog) (t := 22) (e := 5) Tryz.underlying22 Tryz.underlying5 w w.heap.size rfl
  have hC := bytes_CutPrefixN a len cap xs _ 2 _ [13, 10] _ _ (hr.below hb) (Below.refl _ _) (lit27 w)
  have hsz := hr.size
  cases hd : decide (xs.take 2 = [13, 10])
  · rw [fldB_no hd]
    rw [hd] at hC
    have HC := hid hC
    clear hC hd hr hsz
    go_enter Tryz.func45, Tryz.ntmps45
    go_wp2_with (go_at_call 72; (with_reducible refine HC.out.mono ?_); rintro e w' ⟨a', l', c', rfl, _, rfl⟩)
    go_ret
    exact ⟨rfl, hb⟩
  · rw [hd, if_pos rfl] at hC
    by_cases h2 : 2 < len
    · obtain ⟨_, _, z, -, -, -, h0, h1, hz⟩ := hr.get8 h2
      have hzd := drop_at27 hz.out.1
      have hF := fldB_at hd hzd
      rw [← fold_blank h0 h1] at hF
      rw [hF]
      rw [hzd] at hC
      have HC := hid hC
      clear hC hd hr hsz hz hF hzd
      go_enter Tryz.func45, Tryz.ntmps45
      go_wp2_with (first
        | (go_at_call 72; (with_reducible refine HC.out.mono ?_); rintro e w' ⟨a', l', c', rfl, hrd, rfl⟩; obtain ⟨b, off, rfl, hcy, hlp⟩ := at27 hrd)
        | (go_at_call 73; (with_reducible refine (is_c _ _ _ h0 h1).mono ?_); rintro e w' ⟨rfl, rfl⟩))
      go_ret
      exact ⟨rfl, hb⟩
    · rw [fldB_short (by omega)]
      rw [List.drop_of_length_le (by omega)] at hC
      have HC := hid hC
      clear hC hd hr hsz
      go_enter Tryz.func45, Tryz.ntmps45
      go_wp2_with (go_at_call 72; (with_reducible refine HC.out.mono ?_); rintro e w' ⟨a', l', c', rfl, hrd, rfl⟩; obtain rfl : 0 = l' := hrd.size)
      go_ret
      exact ⟨rfl, hb⟩
/-- The same of what follows a place. -/
theorem fold_isFoldAt (b off len cap : Nat) (xs : List Int) (k : Nat) (w : World) (hr : Reads .u8 w (some ⟨b, off, none⟩) len cap xs) (hk : k < len) :
    Calls Tryz.prog 45 #[.slice (some ⟨b, off + k, none⟩) (len - k) (cap - k)] w fun e w' => e = .returned (.bool (fldB (xs.drop k))) ∧ Below w.heap.size w w' := by
  have hp := hr.piece (l := k) (r := len) (by omega) (Nat.le_refl _)
  have hrm := hr.room
  rw [List.take_of_length_le (by have := hr.size; omega), if_neg (by omega), Option.map_some, Addr.add_lit] at hp
  exact fold_isFold _ _ _ _ _ hp
set_option maxHeartbeats 2000000 in
theorem fold_UnfoldO (a : Option Addr) (len cap : Nat) (xs : List Int) (w : World) (hr : Reads .u8 w a len cap xs) (hN : len < 1000000) :
    Calls Tryz.prog 27 #[.slice a len cap] w fun e w' => ∃ v, e = .returned v ∧ Own .u8 5 w.heap.size w' v (unfL xs) ∧ Below w.heap.size w w' := by
  have HR := hid hr
  have hsz := hr.size
  have hle := hr.room
  clear hr
  go_enter Tryz.func27, Tryz.ntmps27
  go_wp2_with (at_make; go_must (refine wpList_make0 (n := len) CT8 rfl _ _ rfl rfl rfl (Below.refl _ _) (by omega) ?_); intro v1 w1 ho1 hb1)
  go_loopw [3, 4] (fun v i wr => ∃ (k : Nat) (O : List Int), k ≤ len ∧ i = .int .i64 k ∧ O.length ≤ k ∧ Hid (O ++ unfS false (xs.drop k) = unfL xs) ∧ Own .u8 5 w.heap.size wr v O ∧ Below w.heap.size w wr) (fun _ i _ => len - (intOf i).toNat)
  case atStart => exact ⟨0, [], Nat.zero_le _, rfl, Nat.le_refl _, rfl, ho1, hb1⟩
  case round =>
    clear ho1 hb1
    obtain ⟨k, O, hk, rfl, hO, hT, hown, hbel⟩ := hrel
    by_cases hlt : k < len
    · obtain ⟨b, off, x, rfl, hbw, hc, h0, h1, hx⟩ := (HR.out.below hbel).get8 hlt
      have hF := fold_isFoldAt b off len cap xs k wr (HR.out.below hbel) hlt
      have hT' := hT.out
      have hd := drop_at27 hx.out.1
      rw [hd, unfS] at hT'
      rw [hd] at hF
      have q1 : (k : Int) ≤ (len : Int) := by omega
      have q2 : (len : Int) ≤ (cap : Int) := by omega
      have q3 : ((len : Int) - (k : Int)).toNat = len - k := by omega
      have q4 : ((cap : Int) - (k : Int)).toNat = cap - k := by omega
      cases hf : fldB (x :: xs.drop (k + 1))
      · rw [hf, if_neg (by decide)] at hT'
        rw [hf] at hF
        have HF := hid hF
        have HT := hid (show O ++ [x] ++ unfS false (xs.drop (k + 1)) = unfL xs by rw [← hT', List.append_assoc]; rfl)
        have HX := hid (mk_u8 h0 h1)
        clear hT hT' hF hf hd hx
        go_wp2_with (first
          | (go_at_call 45; (with_reducible refine HF.out.mono ?_); rintro e w2 ⟨rfl, hb2⟩; have hc2 := (hb2.cell (p := ⟨b, off + k, none⟩) hbw).trans hc; have ho2 := hown.below hb2; have hbel2 := below_then hbel hb2)
          | (at_builtin; go_must (refine wpList_push CT8 rfl _ _ rfl rfl ⟨_, rfl⟩ ho2 hbel2 (by omega) HX.out ?_); intro v3 w3 ho3 hb3))
        go_roundw
        case rel => exact ⟨k + 1, _, by omega, by go_num, by simp; omega, HT, ho3, hb3⟩
        case measure => simp [intOf]; omega
      · have h3 := fldB_len hf
        rw [← hd, List.length_drop] at h3
        obtain ⟨b', off', y, hA, _, _, _, _, hy⟩ := HR.out.get8 (i := k + 1) (by omega)
        obtain ⟨b', off', z, hA, hbz, hcz, hz0, hz1, hz⟩ := (HR.out.below hbel).get8 (i := k + 2) (by omega)
        cases hA
        rw [hf, if_pos rfl, drop_at27 hy.out.1, unfS, drop_at27 hz.out.1, unfS, if_neg (show ¬ fldB (z :: xs.drop (k + 2 + 1)) = true by rw [fldB_blank hf hy.out.1 hz.out.1]; decide)] at hT'
        rw [hf] at hF
        have HF := hid hF
        have HT := hid (show O ++ [z] ++ unfS false (xs.drop (k + 3)) = unfL xs by rw [← hT', List.append_assoc]; rfl)
        have HX := hid (mk_u8 hz0 hz1)
        have q5 : ((k : Int) + 2).toNat = k + 2 := by omega
        have q6 : (k : Int) + 2 < (len : Int) := by omega
        have q7 : (0 : Int) ≤ (k : Int) + 2 := by omega
        clear hT hT' hF hf hd hx hy hz hc h0 h1 hA
        go_wp2_with (first
          | (go_at_call 45; (with_reducible refine HF.out.mono ?_); rintro e w2 ⟨rfl, hb2⟩; have hc2 := (hb2.cell (p := ⟨b, off + (k + 2), none⟩) hbz).trans hcz; have ho2 := hown.below hb2; have hbel2 := below_then hbel hb2)
          | (at_builtin; go_must (refine wpList_push CT8 rfl _ _ rfl rfl ⟨_, rfl⟩ ho2 hbel2 (by omega) HX.out ?_); intro v3 w3 ho3 hb3))
        go_roundw
        case rel => exact ⟨k + 3, _, by omega, by go_num, by simp; omega, HT, ho3, hb3⟩
        case measure => simp [intOf]; omega
    · obtain rfl : k = len := by omega
      have hT' := hT.out
      rw [List.drop_of_length_le (by omega), unfS, List.append_nil] at hT'
      subst hT'
      clear hT
      go_wp2_with fail
      go_ret
      exact ⟨_, rfl, hown, hbel⟩
theorem fold_Unfold (a : Option Addr) (len cap : Nat) (xs : List Int) (w : World) (hr : Reads .u8 w a len cap xs) (hN : len < 1000000) :
    Calls Tryz.prog 27 #[.slice a len cap] w fun e w' => ∃ a' l' c', e = .returned (.slice a' l' c') ∧ Reads .u8 w' a' l' c' (unfL xs) ∧ Below w.heap.size w w' :=
  (fold_UnfoldO a len cap xs w hr hN).mono fun e w' ⟨v, h1, h2, h3⟩ => by
    obtain ⟨a', c', rfl, hr'⟩ := h2.reads
    exact ⟨a', _, c', h1, hr', h3⟩
theorem idx_any (f : Int → Bool) (xs : List Int) : decide (0 ≤ idxI f xs) = xs.any f := by
  cases h : xs.any f
  · rw [idx_none h]; rfl
  · rw [decide_eq_true_iff]
    unfold idxI
    cases h3 : xs.findIdx? f with
    | some i => show (0 : Int) ≤ (i : Int); omega
    | none =>
      rw [List.findIdx?_eq_none_iff] at h3
      obtain ⟨x, hx, hf⟩ := List.any_eq_true.1 h
      rw [h3 x hx] at hf
      cases hf
end Go.Proofs.YtefhddbbiheadaaGreat
