/-
  Contracts of the document's own functions of layer 19: line by line (those that the translation has).
-/
import Derived.Test.YtpdoehdmeojmkaaDoorR19
import Derived.Test.YtpdoehdmeojmkaaDoorR18d
import Derived.Test.YtpdoehdmeojmkaaDoorD19b
namespace Go.Proofs.YtpdoehdmeojmkaaDoor
open Go.RowKit
set_option linter.unusedVariables false

/-- A row below q stands where only what lies above q turns. -/
theorem Own.keep {k : IntKind} {e : TypeId} {B q : Nat} {w w' : World} {v : Value} {xs : List Int} (h : Own k e B w v xs) (hq : ∀ j, v.ownBlock = some j → j < q) (hb : Below q w w') : Own k e B w' v xs := by
  refine ⟨⟨h.1.1, ?_⟩, h.2⟩
  rcases h.1.2 with h' | ⟨g, cap, cur, h1, h2, h3, h4⟩
  · exact .inl h'
  · exact .inr ⟨g, cap, cur, h1, h2, by rw [hb.block g (hq g (by rw [h1]; rfl))]; exact h3, h4⟩
section
variable {P : Program} {ops : Array Oper} {rest : List Oper} {o : Oper} {a : Act} {Q : Exit → Act → World → Prop} {t e : TypeId} {k : IntKind} {by_ : Nat}
/-- 'append(row, y)' at a base of one's own. -/
theorem wpList_pushQ (ST : SliceT P t e k by_) (hgd : o.guard = none) (s x : Operand) (ho : o.op = .call { callee := .builtin .append, args := #[s, x], argTypes := #[t, t] })
    {q : Nat} {wr : World} {e' : TypeId} {y : Int} {v : Value} {xs : List Int} (hs : a.eval s = v) (hx : ∃ c, a.eval x = .slice (some ⟨wr.heap.size, 0, none⟩) 1 c)
    (hown : Own k e q wr v xs) (hq : q ≤ wr.heap.size) (hlen : xs.length < 1000000000000) (hwf : (Lit.int k y).wf = true)
    (h : ∀ v' w', Own k e q w' v' (xs ++ [y]) → Below q wr w' → wpList P ops Q rest (a.put o.dst v') w') :
    wpList P ops Q (o :: rest) a (wr.alloc (.cells #[.int k y] e')) := by
  obtain ⟨i, hi, hz0, hz1, hz2⟩ := info_parts ST.info
  obtain ⟨c, hx⟩ := hx
  have hsm := ST.small
  have hmul : (xs.length + 1) * by_ ≤ (xs.length + 1) * 8 := Nat.mul_le_mul_left _ hsm
  refine wpList_append_own _ hgd s x t ho q e i (.int k 0) 1 by_ ST.under hi hz0 hz1 hz2 rfl (by decide) v xs.length (xs.map (Value.int k)) hs (hown.1.alloc _) ⟨wr.heap.size, 0, none⟩ 1 c [.int k y] hx rfl ?_ ?_ (by unfold maxLen; omega) (by omega)
    (Nat.le_trans hq (by simp)) ?_
  · intro j u hj
    match j, hj with
    | 0, hj => simp at hj; subst hj; simp [Addr.add]
  · intro u hu; simp at hu; subst hu; rfl
  · intro v' w' hown' hgrow _
    refine h v' w' ⟨by simpa using hown', ?_⟩ (((Below.refl q wr).alloc hq _).grown hgrow (Nat.le_trans hq (by simp)) (fun j hj => (hown.1.lt j hj).1))
    intro z hz
    rcases List.mem_append.1 hz with hz | hz
    · exact hown.2 z hz
    · simp at hz; subst hz; exact hwf
end
theorem rdS_len : ∀ (xs : List Int) (b : Bool) (line : List Int), (rdS xs b line).length ≤ line.length + 2 * xs.length
  | [], b, line => by have := lineR_le line; rw [rdS]; omega
  | x :: r, true, line => by have := rdS_len r false line; rw [rdS]; simp only [List.length_cons]; omega
  | x :: r, false, line => by
    rw [rdS]
    split
    · have h1 := rdS_len r (two19 x r) []
      have h2 := lineR_le line
      have h3 : (brk19 x r line).length ≤ 2 := by unfold brk19; (repeat' split) <;> simp
      simp only [List.length_append, List.length_cons, List.length_nil] at h1 ⊢
      omega
    · have h1 := rdS_len r false (line ++ [x])
      simp only [List.length_append, List.length_cons, List.length_nil] at h1 ⊢
      omega
set_option maxRecDepth 100000 in
set_option maxHeartbeats 8000000 in
theorem ref19_Read (a : Option Addr) (len cap : Nat) (xs : List Int) (w : World) (hr : Reads .u8 w a len cap xs) (hN : len < 10000000) :
    Calls Tryd.prog 8 #[.slice a len cap] w fun e w' => ∃ v, e = .returned (.tuple #[v, .int .i64 (strS xs)]) ∧ Own .u8 5 w.heap.size w' v (readS xs) ∧ Below w.heap.size w w' := by
  have HR := hid hr
  have hsz := hid hr.size
  clear hr
  go_enter Tryd.func8, Tryd.ntmps8
  go_wp2
  go_loopw [4, 5, 6, 7] (fun v l s i wr => ∃ k j q : Nat, ∃ O L : List Int, k ≤ len ∧ i = .int .i64 k ∧ s = .int .i64 j ∧ j + L.length ≤ k ∧ O.length + L.length ≤ 2 * k ∧ Hid (O ++ rdS (xs.drop k) false L = readS xs) ∧ Hid (j + stS (xs.drop k) false L = strS xs) ∧ Own .u8 5 w.heap.size wr v O ∧ (∀ g, v.ownBlock = some g → g < q) ∧ Own .u8 5 q wr l L ∧ w.heap.size ≤ q ∧ q ≤ wr.heap.size ∧ Below w.heap.size w wr) (fun _ _ _ i _ => len + 1 - (intOf i).toNat)
  case atStart => exact ⟨0, 0, w.heap.size, [], [], Nat.zero_le _, rfl, rfl, Nat.le_refl _, Nat.le_refl _, rfl, Nat.zero_add _, Own.nil _ _ _ _, (fun g hg => by cases hg), Own.nil _ _ _ _, Nat.le_refl _, Nat.le_refl _, Below.refl _ _⟩
  case round =>
    obtain ⟨k, j, q, O, L, hk, rfl, rfl, hj, hO, hn, hs, hown, hvq, hlin, hq0, hq1, hbel⟩ := hrel
    by_cases hlt : k < len
    · obtain ⟨b, off, x, rfl, hbw, hcw, h0, h1, hx⟩ := HR.out.get8 hlt
      have hcx := (hbel.cell (p := ⟨b, off + k, none⟩) hbw).trans hcw
      have hd := drop1s hx.out.1
      have hn' := hn.out
      have hs' := hs.out
      rw [hd] at hn' hs'
      have hwx := mk_u8 h0 h1
      by_cases hbr : x = 13 ∨ x = 10
      · rw [rdS, if_pos hbr] at hn'
        rw [stS, if_pos hbr] at hs'
        obtain ⟨al, cl, rfl, hrl⟩ := hlin.reads
        have hlr := lineR_le L
        have hln := lineN_le L
        have hkind : (x = 13 ∧ k + 1 < len ∧ ∃ y, w.cell? ⟨b, off + (k + 1), none⟩ = some (.int .u8 y) ∧ y = 10 ∧ xs[k + 1]? = some y) ∨ (((x == 13) = false ∧ x = 10 ∧ True) ∨ (x = 13 ∧ ¬ k + 1 < len ∧ True) ∨ (x = 13 ∧ k + 1 < len ∧ ∃ y, w.cell? ⟨b, off + (k + 1), none⟩ = some (.int .u8 y) ∧ (y == 10) = false ∧ xs[k + 1]? = some y)) := by
          by_cases h13 : x = 13
          · by_cases hk1 : k + 1 < len
            · obtain ⟨_, _, y, hA, _, hcy, _, _, hy⟩ := HR.out.get8 hk1
              cases hA
              by_cases h10 : y = 10
              · exact .inl ⟨h13, hk1, y, hcy, h10, hy.out.1⟩
              · exact .inr (.inr (.inr ⟨h13, hk1, y, hcy, by simpa using h10, hy.out.1⟩))
            · exact .inr (.inr (.inl ⟨h13, hk1, trivial⟩))
          · rcases hbr with h | h
            · exact absurd h h13
            · exact .inr (.inl ⟨by simpa using h13, h, trivial⟩)
        have hno : ¬ (x = 13 ∧ xs[k + 1]? = some 10) → two19 x (xs.drop (k + 1)) = false := by
          intro h
          unfold two19
          rw [List.head?_drop]
          exact decide_eq_false h
        have hyes : (x = 13 ∧ xs[k + 1]? = some 10) → two19 x (xs.drop (k + 1)) = true := by
          intro h
          unfold two19
          rw [List.head?_drop]
          exact decide_eq_true h
        have HNO := hid hno
        have HYES := hid hyes
        have HN0 := hid hn'
        have HS0 := hid hs'
        clear hn hs hn' hs' hbr hd hno hyes hlin
        cases hsb : softB L
        all_goals
          rcases hkind with ⟨rfl, hk1, y, hyw, rfl, hy⟩ | ⟨hx13, rfl, hk1⟩ | ⟨rfl, hk1, _⟩ | ⟨rfl, hk1, y, hyw, hy10, hy⟩
          case inl =>
            have ht := HYES.out ⟨rfl, hy⟩
            have hn' := HN0.out
            have hs' := HS0.out
            rw [ht, rdS_skip, List.drop_drop, show k + 1 + 1 = k + 2 by omega] at hn'
            rw [ht, stS_skip, List.drop_drop, show k + 1 + 1 = k + 2 by omega] at hs'
            unfold brk19 at hn'
            rw [hsb, ht] at hn'
            simp only [if_true, Bool.false_eq_true, if_false, ← List.append_assoc] at hn'
            rw [← Nat.add_assoc] at hs'
            have HN := hid hn'
            have HS := hid hs'
            clear hn' hs' ht HN0 HS0 HNO HYES
            go_wp2_with (first
              | (at_builtin; (refine wpList_push ST8 rfl _ _ rfl rfl ⟨_, rfl⟩ ho3 hb3 (by simp only [List.length_append, List.length_cons, List.length_nil]; omega) (by decide) ?_); intro v4 w4 ho4 hb4)
              | (at_builtin; (refine wpList_push ST8 rfl _ _ rfl rfl ⟨_, rfl⟩ ho2 hb2 (by simp only [List.length_append]; omega) (by decide) ?_); intro v3 w3 ho3 hb3)
              | (at_builtin; (refine wpList_more ST8 rfl _ _ rfl rfl rfl ho1 hb1 r1 (by omega) ?_); intro v2 w2 ho2 hb2; have hcx2 := (hb2.cell (p := ⟨b, off + k, none⟩) hbw).trans hcw; first | (have hcy2 := (hb2.cell (p := ⟨b, off + (k + 1), none⟩) hbw).trans hyw) | skip)
              | (go_at_call 17; (with_reducible refine (ref19_Line _ _ _ _ _ hrl (by omega)).mono ?_); rw [hsb]; rintro e w1 ⟨v1, rfl, o1, h1b⟩; obtain ⟨a1, c1, rfl, r1⟩ := o1.reads; have ho1 := hown.below h1b; have hb1 := below_then' hbel h1b (Nat.le_refl _)))
            go_roundw
            case rel => first
              | exact ⟨k + 2, j + lineN L, w4.heap.size, _, [], by omega, by go_num, by go_num, by simp; omega, by simp; omega, by (unfold Hid; simpa using HN.out), HS, ho4, (fun g hg => (ho4.1.lt g hg).2), Own.nil _ _ _ _, hb4.size, Nat.le_refl _, hb4⟩
              | exact ⟨k + 2, j + lineN L, w2.heap.size, _, [], by omega, by go_num, by go_num, by simp; omega, by simp; omega, by (unfold Hid; simpa using HN.out), HS, ho2, (fun g hg => (ho2.1.lt g hg).2), Own.nil _ _ _ _, hb2.size, Nat.le_refl _, hb2⟩
            case measure => simp [intOf]; omega
          all_goals
            have ht : two19 _ (xs.drop (k + 1)) = false := HNO.out (by
              rintro ⟨h1, h2⟩
              first
                | (cases h1; done)
                | (have h3 := (List.getElem?_eq_some_iff.1 h2).1; have := hsz.out; omega)
                | (rw [hy] at h2; rw [Option.some.inj h2] at hy10; cases hy10))
            have hn' := HN0.out
            have hs' := HS0.out
            rw [ht] at hn' hs'
            unfold brk19 at hn'
            rw [hsb, ht] at hn'
            simp only [if_true, Bool.false_eq_true, if_false, ← List.append_assoc] at hn'
            rw [← Nat.add_assoc] at hs'
            have HN := hid hn'
            have HS := hid hs'
            clear hn' hs' ht HN0 HS0 HNO HYES
            go_wp2_with (first
              | (at_builtin; (refine wpList_push ST8 rfl _ _ rfl rfl ⟨_, rfl⟩ ho2 hb2 (by simp only [List.length_append]; omega) (by decide) ?_); intro v3 w3 ho3 hb3)
              | (at_builtin; (refine wpList_more ST8 rfl _ _ rfl rfl rfl ho1 hb1 r1 (by omega) ?_); intro v2 w2 ho2 hb2; have hcx2 := (hb2.cell (p := ⟨b, off + k, none⟩) hbw).trans hcw; first | (have hcy2 := (hb2.cell (p := ⟨b, off + (k + 1), none⟩) hbw).trans hyw) | skip)
              | (go_at_call 17; (with_reducible refine (ref19_Line _ _ _ _ _ hrl (by omega)).mono ?_); rw [hsb]; rintro e w1 ⟨v1, rfl, o1, h1b⟩; obtain ⟨a1, c1, rfl, r1⟩ := o1.reads; have ho1 := hown.below h1b; have hb1 := below_then' hbel h1b (Nat.le_refl _)))
            go_roundw
            case rel => first
              | exact ⟨k + 1, j + lineN L, w3.heap.size, _, [], by omega, by go_num, by go_num, by simp; omega, by simp; omega, by (unfold Hid; simpa using HN.out), HS, ho3, (fun g hg => (ho3.1.lt g hg).2), Own.nil _ _ _ _, hb3.size, Nat.le_refl _, hb3⟩
              | exact ⟨k + 1, j + lineN L, w2.heap.size, _, [], by omega, by go_num, by go_num, by simp; omega, by simp; omega, by (unfold Hid; simpa using HN.out), HS, ho2, (fun g hg => (ho2.1.lt g hg).2), Own.nil _ _ _ _, hb2.size, Nat.le_refl _, hb2⟩
            case measure => simp [intOf]; omega
      · have b13 : (x != 13) = true := by simp only [bne_iff_ne, ne_eq]; exact fun h => hbr (.inl h)
        have b10 : (x != 10) = true := by simp only [bne_iff_ne, ne_eq]; exact fun h => hbr (.inr h)
        rw [rdS, if_neg hbr] at hn'
        rw [stS, if_neg hbr] at hs'
        have HN := hid hn'
        have HS := hid hs'
        clear hn hs hn' hs' hbr hd
        go_wp2_with (at_builtin; (refine wpList_pushQ ST8 rfl _ _ rfl rfl ⟨_, rfl⟩ hlin hq1 (by omega) hwx ?_); intro v3 w3 ho3 hb3)
        go_roundw
        case rel => exact ⟨k + 1, j, q, O, _, by omega, by go_num, rfl, by simp; omega, by simp; omega, HN, HS, hown.keep hvq hb3, hvq, ho3, hq0, Nat.le_trans hq1 hb3.size, hbel.trans (hb3.mono hq0)⟩
        case measure => simp [intOf]; omega
    · have hke : k = len := by omega
      subst hke
      have hn' := hn.out
      have hs' := hs.out
      rw [List.drop_of_length_le (by rw [hsz.out]; omega), rdS] at hn'
      rw [List.drop_of_length_le (by rw [hsz.out]; omega), stS] at hs'
      obtain ⟨al, cl, rfl, hrl⟩ := hlin.reads
      have hlr := lineR_le L
      have hln := lineN_le L
      have HN := hid hn'
      have HS := hid hs'
      clear hn hs hn' hs' hlin
      go_wp2_with (first
        | (at_builtin; (refine wpList_more ST8 rfl _ _ rfl rfl rfl ho1 hb1 r1 (by omega) ?_); intro v2 w2 ho2 hb2)
        | (go_at_call 17; (with_reducible refine (ref19_Line _ _ _ _ _ hrl (by omega)).mono ?_); rintro e w1 ⟨v1, rfl, o1, h1b⟩; obtain ⟨a1, c1, rfl, r1⟩ := o1.reads; have ho1 := hown.below h1b; have hb1 := below_then' hbel h1b (Nat.le_refl _)))
      go_ret2
      exact ⟨_, by rw [← HS.out]; rfl, by rw [← HN.out]; exact ho2, hb2⟩
/-- What is read strictly: nothing, where it is not right. -/
def stcL (xs : List Int) : List Int := if checkQ xs = 0 then readS xs else []
theorem stcL_le (xs : List Int) : (stcL xs).length ≤ xs.length := by
  unfold stcL
  split
  · exact readS_short xs
  · simp
set_option maxRecDepth 100000 in
set_option maxHeartbeats 1000000 in
theorem ref19_Strict (a : Option Addr) (len cap : Nat) (xs : List Int) (w : World) (hr : Reads .u8 w a len cap xs) (hN : len < 1000000) :
    Calls Tryd.prog 10 #[.slice a len cap] w fun e w' => ∃ a' l' c', e = .returned (.tuple #[.slice a' l' c', .int .i64 (checkQ xs)]) ∧ Reads .u8 w' a' l' c' (stcL xs) ∧ Below w.heap.size w w' := by
  have HR := hid hr
  have HC := hid (ref18_Check a len cap xs w hr hN)
  unfold stcL
  obtain ⟨E, hE⟩ : ∃ E, E = checkQ xs := ⟨_, rfl⟩
  rw [← hE] at HC ⊢
  clear hr hE
  by_cases h0 : E = 0
  · subst h0
    rw [if_pos rfl]
    go_enter Tryd.func10, Tryd.ntmps10
    go_wp2_with (first
      | (go_at_call 20; (with_reducible refine HC.out.mono ?_); rintro e w1 ⟨rfl, hb1⟩; have HRD := hid (ref19_Read a len cap xs w1 (HR.out.below hb1) (by omega)))
      | (go_at_call 8; (with_reducible refine HRD.out.mono ?_); rintro e w2 ⟨v2, rfl, ho2, hb2⟩; obtain ⟨a2, c2, rfl, hr2⟩ := ho2.reads; have hb2' := below_then hb1 hb2))
    go_ret2
    exact ⟨_, _, _, rfl, hr2, hb2'⟩
  · rw [if_neg h0]
    have hne : (E != 0) = true := by simpa using h0
    go_enter Tryd.func10, Tryd.ntmps10
    go_wp2_with (go_at_call 20; (with_reducible refine HC.out.mono ?_); rintro e w1 ⟨rfl, hb1⟩)
    go_ret2
    exact ⟨_, _, _, rfl, Reads.nil _ _ _ _ (Nat.zero_le _), hb1⟩
end Go.Proofs.YtpdoehdmeojmkaaDoor
