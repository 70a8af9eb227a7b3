/-
  Contracts of package qpage's functions: what is laid, and how long it is (those that the translation has).
-/
import Derived.Test.YtpdoehdmeojmkaaDoorC18b
namespace Go.Proofs.YtpdoehdmeojmkaaDoor
open Go.RowKit Go.Shelf
set_option linter.unusedVariables false

/-- A variable's box behind a change of others. -/
theorem boxed_below {W W' : World} {S B : Nat} {t : TypeId} {v : Value} (h : Boxed W B t v) (hB : B < S) (hb : Below S W W') : Boxed W' B t v := (hb.block B hB).trans h
section
variable {P : Program} {ops : Array Oper} {rest : List Oper} {o : Oper} {a : Act} {Q : Exit → Act → World → Prop} {t e : TypeId} {by_ : Nat}
/-- 'append(v, ys...)': the new value written out; what may have turned. -/
theorem wpList_moreB (ST : SliceT P t e .u8 by_) (hgd : o.guard = none) (s x : Operand) (ho : o.op = .call { callee := .builtin .append, args := #[s, x], argTypes := #[t, t] })
    {B0 : Nat} {W : World} {v : Value} {xs ys : List Int} {ad : Option Addr} {m c : Nat} (hs : a.eval s = v) (hx : a.eval x = .slice ad m c)
    (hown : Own .u8 e B0 W v xs) (hB : B0 ≤ W.heap.size) (hr : Reads .u8 W ad m c ys) (h0 : 0 < m) (hlen : xs.length + m < 1000000000000)
    (h : ∀ g cap w1, Own .u8 e B0 w1 (.slice (some ⟨g, 0, none⟩) (xs ++ ys).length cap) (xs ++ ys) → W.grownBy w1 v.ownBlock → wpList P ops Q rest (a.put o.dst (.slice (some ⟨g, 0, none⟩) (xs ++ ys).length cap)) w1) :
    wpList P ops Q (o :: rest) a W := by
  obtain ⟨i, hi, hz0, hz1, hz2⟩ := info_parts ST.info
  have hsm := ST.small
  have hsz := hr.size
  obtain ⟨b, off, rfl, hb, hc⟩ := hr.cell h0
  have hmul : (xs.length + m) * by_ ≤ (xs.length + m) * 8 := Nat.mul_le_mul_left _ hsm
  refine wpList_append_own _ hgd s x t ho B0 e i (.int .u8 0) 1 by_ ST.under hi hz0 hz1 hz2 rfl (by decide) v xs.length (xs.map (Value.int .u8)) hs hown.1 ⟨b, off, none⟩ m c (ys.map (Value.int .u8)) hx (by simp [hsz]) ?_ (ints_oneCell _ _) (by unfold maxLen; omega) (by omega) hB ?_
  · intro j u hj
    have hjl : j < ys.length := by
      have := (List.getElem?_eq_some_iff.1 hj).1
      simpa using this
    rw [Addr.add_lit, hc j (by omega)]
    simp only [List.getElem?_map, List.getElem?_eq_getElem hjl, Option.map_some, Option.some.injEq] at hj
    subst hj
    simp [hjl]
  · intro v' w' hown' hgrow _
    have hl : xs.length + m = (xs ++ ys).length := by rw [List.length_append, hsz]
    rw [hl] at hown'
    obtain ⟨k, hk⟩ : ∃ k, (xs ++ ys).length = k + 1 := ⟨(xs ++ ys).length - 1, by rw [List.length_append]; omega⟩
    have hown2 := hown'
    rw [hk] at hown2
    obtain ⟨g, cap, rfl⟩ := ownsRow_succ hown2
    rw [← hk]
    refine h g cap w' ⟨by rw [← hk] at hown'; simpa using hown', fun z hz => ?_⟩ hgrow
    rcases List.mem_append.1 hz with hz | hz
    · exact hown.2 z hz
    · exact hr.wf z hz
end
/-- What is laid so far lies in a row of the call's own, in the box B; all of it below S. -/
def JLay (n₀ B : Nat) (O : List Int) (S : Nat) (W : World) : Prop := ∃ v, Boxed W B 22 v ∧ Own .u8 5 n₀ W v O ∧ B < S ∧ (∀ g, v.ownBlock = some g → g < S)
theorem JLay.below {n₀ B : Nat} (O : List Int) (S : Nat) (W W' : World) (h : JLay n₀ B O S W) (hb : Below S W W') : JLay n₀ B O S W' := by
  obtain ⟨v, h1, h2, h3, h4⟩ := h
  refine ⟨v, boxed_below h1 h3 hb, ⟨?_, h2.2⟩, h3, h4⟩
  have hS : ∀ g, v.ownBlock = some g → W'.heap[g]? = W.heap[g]? := fun g hg => hb.block g (h4 g hg)
  rcases h2.1.2 with ⟨rfl, hn⟩ | ⟨g, cap, cur, rfl, hg, hgb, h5⟩
  · exact ⟨h2.1.1, .inl ⟨rfl, hn⟩⟩
  · exact ⟨h2.1.1, .inr ⟨g, cap, cur, rfl, hg, (hS g rfl).trans hgb, h5⟩⟩
set_option maxRecDepth 100000 in
set_option maxHeartbeats 1000000 in
theorem qpage_Lay1 (n₀ B : Nat) (hB : n₀ ≤ B) (O u : List Int) (a : Option Addr) (l c S : Nat) (W : World) (hJ : JLay n₀ B O S W) (hS : S ≤ W.heap.size) (hr : Reads .u8 W a l c u) (h0 : 0 < l) (h3 : l ≤ 3) (hO : O.length ≤ 100000000) :
    Calls Tryd.prog 42 #[.slice a l c, .pointer (some ⟨B, 0, none⟩)] W fun e W' => (∃ v, e = .returned v) ∧ JLay n₀ B (O ++ u) W'.heap.size W' ∧ (∀ b, S ≤ b → b < W.heap.size → W'.heap[b]? = W.heap[b]?) ∧ Below n₀ W W' := by
  obtain ⟨v, h1, h2, hBS, hg⟩ := hJ
  have hn₀ : n₀ ≤ W.heap.size := by omega
  have hc1 := h1.cell
  have H2 := hid h2
  have HR := hid hr
  have HG := hid hg
  have hne : 22 ≠ 5 := by decide
  have HNR := hid (h1.not_row hne h2.1)
  have H1 := hid h1
  clear h1 h2 hr hg
  go_enter Tryd.func42, Tryd.ntmps42
  go_wp2_with (at_builtin; (refine wpList_moreB CT8 rfl _ _ rfl rfl rfl H2.out hn₀ HR.out h0 (by omega) ?_); intro g cap w1 ho1 hgr1; have hb1 := H1.out.kept hgr1 HNR.out; have hcc1 := hb1.cell; have hfr1 := hb1.frozen)
  rw [← List.length_append]
  go_end0
  have hrow := ho1.1.kept (grownBy_setCell' w1 B (.slice (some ⟨g, 0, none⟩) (O ++ u).length cap)) (.inr (hb1.not_row hne ho1.1).symm)
  refine ⟨⟨_, rfl⟩, ⟨_, hb1.set _, ⟨hrow, ho1.2⟩, (hb1.set _).lt, fun g' hg' => (hrow.lt g' hg').2⟩, fun b hSb hb => ?_, ?_⟩
  · rw [Below.heap_setCell _ _ _ b (fun e => by simp at e; omega)]
    exact hgr1.block b hb (fun e => by have := HG.out b e.symm; omega)
  · exact ((Below.refl n₀ W).grown hgr1 hn₀ (fun j ej => (H2.out.1.lt j ej).1)).setCell (p := ⟨B, 0, none⟩) hB _
set_option maxRecDepth 100000 in
set_option maxHeartbeats 1000000 in
theorem qpage_LayO (a : Option Addr) (len cap : Nat) (xs : List Int) (w : World) (hr : Reads .u8 w a len cap xs) (hN : len < 1000000) :
    Calls Tryd.prog 25 #[.slice a len cap] w fun e w' => ∃ v, e = .returned v ∧ Own .u8 5 w.heap.size w' v (layQ xs) ∧ Below w.heap.size w w' := by
  have HR := hid hr
  clear hr
  have hne : 22 ≠ 5 := by decide
  go_enter Tryd.func25, Tryd.ntmps25
  go_wp2_with (first
    | (at_make; go_must (refine wpList_make0 (n := len + 3) CT8 rfl _ _ rfl rfl (by go_num) (Below.refl _ _) (by omega) ?_); intro v1 w1 ho1 hb1; obtain ⟨a1, c1, hv1, _⟩ := ho1.reads; subst hv1; change Own .u8 5 w.heap.size w1 (.slice a1 0 c1) [] at ho1; change wpList _ _ _ _ (Act.put _ _ (.slice a1 0 c1)) _))
  obtain ⟨B, hB⟩ : ∃ B, B = w1.heap.size := ⟨_, rfl⟩
  have hbx := Boxed.new w1 22 (.slice a1 0 c1)
  have hba := (Below.refl w1.heap.size w1).alloc (Nat.le_refl _) (.cells #[.slice a1 0 c1] 22)
  have hbw := below_then hb1 hba
  have hoB := ho1.below hba
  rw [← hB] at hbx
  have hwB : w.heap.size ≤ B := by rw [hB]; exact hb1.size
  have hJ : JLay w.heap.size B [] (w1.alloc (.cells #[.slice a1 0 c1] 22)).heap.size (w1.alloc (.cells #[.slice a1 0 c1] 22)) := ⟨_, hbx, hoB, hbx.lt, hoB.blockLt⟩
  rw [← hB]
  clear hB
  have HL := hid (qpage_lay 42 (some ⟨B, 0, none⟩) (enters_of Tryd.func42 (by kernel_rfl) rfl) (JLay w.heap.size B) w.heap.size (fun O S W W' h h' => JLay.below O S W W' h h')
    (fun O u a l c S W h1 h2 h3 h4 h5 h6 => qpage_Lay1 w.heap.size B hwB O u a l c S W h1 h2 h3 h4 h5 h6) a len cap xs w _ HR.out hN (Nat.le_refl _) hbw hbw.size hJ)
  go_wp2_with (go_at_call 41; (refine HL.out.mono ?_); rintro e w5 ⟨⟨v5, rfl⟩, ⟨v, hbx5, ho5, _, _⟩, hb5⟩; obtain ⟨a6, c6, hv6, _⟩ := ho5.reads; subst hv6; have hc5 := hbx5.cell; have hfin := hbw.trans hb5)
  go_ret
  exact ⟨_, rfl, ho5, hfin⟩
theorem qpage_Lay (a : Option Addr) (len cap : Nat) (xs : List Int) (w : World) (hr : Reads .u8 w a len cap xs) (hN : len < 1000000) :
    Calls Tryd.prog 25 #[.slice a len cap] w fun e w' => ∃ a' len' cap', e = .returned (.slice a' len' cap') ∧ Reads .u8 w' a' len' cap' (layQ xs) ∧ Below w.heap.size w w' := by
  refine (qpage_LayO a len cap xs w hr hN).mono ?_
  rintro e w' ⟨v, rfl, ho, hb⟩
  obtain ⟨a', c', rfl, hr'⟩ := ho.reads
  exact ⟨_, _, _, rfl, hr', hb⟩
end Go.Proofs.YtpdoehdmeojmkaaDoor
