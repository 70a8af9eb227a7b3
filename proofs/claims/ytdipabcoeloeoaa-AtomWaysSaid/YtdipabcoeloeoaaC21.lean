/-
  Contracts of package pct's functions.
-/
import Derived.Test.YtdipabcoeloeoaaRows
import Derived.Test.YtdipabcoeloeoaaC01k
import Derived.Test.YtdipabcoeloeoaaC02
import Derived.Test.YtdipabcoeloeoaaR21b
import Derived.Test.YtdipabcoeloeoaaRdr
namespace Go.Proofs.Ytdipabcoeloeoaa
open Go.RowKit
set_option linter.unusedVariables false

/-- A reader: its list and the place of what is next. -/
abbrev rdC (a : Option Addr) (len cap k : Nat) : Array Value := #[.slice a len cap, .int .i64 k]
theorem reader_more (B len cap k : Nat) (a : Option Addr) (w : World) (hB : Blk w B 46 (rdC a len cap k)) :
    Calls Try.prog 38 #[.pointer (some ⟨B, 0, none⟩)] w fun e w' => e = .returned (.bool (decide ((k : Int) < len))) ∧ ∃ n, w' = w.drewN n := by
  have c0 := hB.cell (i := 0) (v := .slice a len cap) rfl
  have c1 := hB.cell (i := 1) (v := .int .i64 k) rfl
  clear hB
  go_enter Try.func38, Try.ntmps38
  go_wp2_with fail
  go_quiet (fail)
  go_wp2_with fail
  go_ret
  exact ⟨ret_bool (by simp), ⟨_, rfl⟩⟩
theorem reader_take (B len cap k : Nat) (a : Option Addr) (xs : List Int) (x : Int) (w : World) (hB : Blk w B 46 (rdC a len cap k)) (hr : Reads .u8 w a len cap xs) (hk : k < len) (hx : xs[k]? = some x) (hN : len < 10000000000) :
    Calls Try.prog 39 #[.pointer (some ⟨B, 0, none⟩)] w fun e w' => e = .returned (.int .u8 x) ∧ w.grownBy w' (some B) ∧ Blk w' B 46 (rdC a len cap (k + 1)) := by
  have hlt := hB.lt
  have f1 := hB.frozen 1
  have c0 := hB.cell (i := 0) (v := .slice a len cap) rfl
  have c1 := hB.cell (i := 1) (v := .int .i64 k) rfl
  obtain ⟨b, off, y, rfl, _, hcx, h0, h1, hy⟩ := hr.get8 hk
  obtain rfl : x = y := Option.some.inj (hx.symm.trans hy.out.1)
  clear hr
  have HB := hid hB
  clear hB
  go_enter Try.func39, Try.ntmps39
  go_wp2_with fail
  go_quiet (fail)
  go_wp2_with fail
  go_ret
  exact ⟨rfl, grownBy_t (grownBy_draws _ _ _) (grownBy_set _ _ _ _), by have := (HB.out.drewN nq).set 1 (.int .i64 (k + 1)); exact this⟩
/-- How far the next one goes. -/
def stepE (s : Int) (r : List Int) : Nat := if (escP s r).isSome = true then 3 else 1
theorem rd_next {xs : List Int} {k : Nat} {x : Int} (hx : xs[k]? = some x) (h8 : ∀ y ∈ xs, (Lit.int .u8 y).wf = true) : ∃ c b s, (escP 37 (xs.drop k)).getD x = c ∧ (escP 37 (xs.drop k)).isSome = b ∧ stepE 37 (xs.drop k) = s ∧ 0 ≤ c ∧ c ≤ 255 ∧ 1 ≤ s ∧ k + s ≤ xs.length ∧ (b = false → c = x) ∧
    rdE 37 selfI (xs.drop k) 0 = c :: rdE 37 selfI (xs.drop (k + s)) 0 ∧ stE 37 (xs.drop k) 0 = (if b = false ∧ c = 37 then 1 else 0) + stE 37 (xs.drop (k + s)) 0 ∧ riE 37 (isB 256) (xs.drop k) 0 = ((b || isB 256 c) && riE 37 (isB 256) (xs.drop (k + s)) 0) := by
  have hd := drop1p hx
  have hxb := wf_u8 (h8 x (List.mem_of_getElem? hx))
  have hkl : k < xs.length := (List.getElem?_eq_some_iff.1 hx).1
  unfold stepE
  cases he : escP 37 (xs.drop k) with
  | some v =>
    rw [hd] at he ⊢
    have hv := escP_bd he
    obtain ⟨_, _, _, _, _, r, e, _⟩ := hv
    have hl := congrArg List.length e
    simp only [List.length_cons, List.length_drop] at hl
    refine ⟨v, true, 3, rfl, rfl, rfl, (escP_bd he).1, (escP_bd he).2.1, by decide, by omega, (fun h => by cases h), ?_, ?_, ?_⟩
    · rw [rdE_esc he, List.drop_drop]
    · rw [stE_esc he, List.drop_drop]; simp
    · rw [riE_esc he, List.drop_drop]; simp
  | none =>
    rw [hd] at he ⊢
    refine ⟨x, false, 1, rfl, rfl, rfl, hxb.1, hxb.2, by decide, by omega, (fun _ => rfl), ?_, ?_, ?_⟩
    · rw [rdE_on he]; rfl
    · rw [stE_on he]; simp
    · rw [riE_on he]; simp
set_option maxHeartbeats 1000000 in
theorem pct_Quote (a : Option Addr) (len cap : Nat) (xs : List Int) (w : World) (hr : Reads .u8 w a len cap xs) (hN : len < 10000000) :
    Calls Try.prog 33 #[.slice a len cap] w fun e w' => ∃ a' len' cap', e = .returned (.slice a' len' cap') ∧ Reads .u8 w' a' len' cap' (quoP xs) ∧ Below w.heap.size w w' := by
  have HR := hid hr
  clear hr
  go_enter Try.func33, Try.ntmps33
  go_wp2_with (first
    | (at_make; (refine wpList_make0 ST8 rfl _ _ rfl (w0 := w) (n := len + 2) rfl (by go_num) (Below.refl _ _) (by omega) ?_); intro v0 w1 ho0 hb0)
    | (at_builtin; (refine wpList_push ST8 rfl _ _ rfl rfl ⟨_, rfl⟩ ho0 hb0 (by decide) (by decide) ?_); intro v1 w2 ho1 hb1))
  go_loopw [3, 14] (fun v i wr => ∃ k : Nat, k ≤ len ∧ i = .int .i64 k ∧ Own .u8 5 w.heap.size wr v (34 :: (xs.take k).flatMap quo1) ∧ Below w.heap.size w wr) (fun _ i _ => len - (intOf i).toNat)
  case atStart => exact ⟨0, Nat.zero_le _, rfl, ho1, hb1⟩
  case round =>
    obtain ⟨k, hk, rfl, hown, hbel⟩ := hrel
    have hll := quo_len (xs.take k)
    rw [List.length_take] at hll
    by_cases hlt : k < len
    · obtain ⟨b, off, x, rfl, _, hcx, h0, h1, hx⟩ := (HR.out.below hbel).get8 hlt
      have e1 := hid (quo_snoc hx.out.2)
      have hwx := mk_u8 h0 h1
      by_cases hq : x = 34 ∨ x = 92
      · have e2 : Hid (quo1 x = [92, x]) := by unfold Hid quo1; rw [if_pos hq]
        have hsub : x = 34 ∨ ((x == 34) = false ∧ x = 92) := by
          rcases hq with rfl | rfl
          · exact .inl rfl
          · exact .inr ⟨rfl, rfl⟩
        clear hq
        rcases hsub with rfl | ⟨hx34, rfl⟩
        all_goals
          go_wp2_with (first
            | (at_builtin; (refine wpList_push ST8 rfl _ _ rfl rfl ⟨_, rfl⟩ ho2 hb2 (by simp only [List.length_append, List.length_cons, List.length_nil]; omega) hwx ?_); intro v3 w3 ho3 hb3)
            | (at_builtin; (refine wpList_push ST8 rfl _ _ rfl rfl ⟨_, rfl⟩ hown hbel (by simp only [List.length_cons]; omega) (by decide) ?_); intro v2 w2 ho2 hb2))
          go_roundw
          case rel =>
            refine ⟨k + 1, by omega, by go_num, ?_, hb3⟩
            rw [e1.out, e2.out]
            simpa using ho3
          case measure => simp [intOf]; omega
      · have e2 : Hid (quo1 x = [x]) := by unfold Hid quo1; rw [if_neg hq]
        have b34 : (x == 34) = false := by rw [beq_eq_false_iff_ne]; exact fun h => hq (.inl h)
        have b92 : (x == 92) = false := by rw [beq_eq_false_iff_ne]; exact fun h => hq (.inr h)
        clear hq
        go_wp2_with (at_builtin; (refine wpList_push ST8 rfl _ _ rfl rfl ⟨_, rfl⟩ hown hbel (by simp only [List.length_cons]; omega) hwx ?_); intro v3 w3 ho3 hb3)
        go_roundw
        case rel =>
          refine ⟨k + 1, by omega, by go_num, ?_, hb3⟩
          rw [e1.out, e2.out]
          simpa using ho3
        case measure => simp [intOf]; omega
    · rw [HR.out.all (by omega)] at hown
      have hll2 := quo_len xs
      rw [HR.out.size] at hll2
      go_wp2_with (at_builtin; (refine wpList_push ST8 rfl _ _ rfl rfl ⟨_, rfl⟩ hown hbel (by simp only [List.length_cons]; omega) (by decide) ?_); intro v3 w3 ho3 hb3; obtain ⟨a', l', c', rfl, hr'⟩ := ho3.back)
      go_ret
      exact ⟨_, _, _, rfl, hr', hb3⟩
set_option maxHeartbeats 2000000 in
theorem pct_Unquote (a : Option Addr) (len cap : Nat) (xs : List Int) (w : World) (hr : Reads .u8 w a len cap xs) (hN : len < 10000000) :
    Calls Try.prog 31 #[.slice a len cap] w fun e w' => ∃ a' len' cap', e = .returned (.tuple #[.slice a' len' cap', .int .i64 ((unqA xs).2.1 : Nat), .int .i64 (unqA xs).2.2]) ∧ Reads .u8 w' a' len' cap' (unqA xs).1 ∧ Below w.heap.size w w' := by
  have HR := hid hr
  have hsz := hid hr.size
  clear hr
  obtain ⟨U, hU⟩ : ∃ U, U = unqA xs := ⟨_, rfl⟩
  rw [← hU]
  have HU := hid hU
  clear hU
  have hT : (46 : Nat) ≠ 5 := by decide
  have hB0 : Blk (w.alloc (.cells #[.slice a len cap, .int .i64 0] 46)) w.heap.size 46 (rdC a len cap 0) := Blk.new w 46 (rdC a len cap 0)
  have hb1 := (Below.refl w.heap.size w).alloc (Nat.le_refl _) (.cells #[.slice a len cap, .int .i64 0] 46)
  by_cases hl0 : len = 0
  · subst hl0
    have e : Hid (U = ([], 0, 3)) := by
      unfold Hid
      rw [HU.out, List.eq_nil_of_length_eq_zero hsz.out]; rfl
    have HM := hid (reader_more w.heap.size 0 cap 0 a _ hB0)
    go_enter Try.func31, Try.ntmps31
    go_wp2_with (go_at_call 38; (with_reducible refine HM.out.mono ?_); rintro e w2 ⟨rfl, n2, rfl⟩)
    go_ret3
    exact ⟨_, _, _, by rw [e.out]; rfl, by rw [e.out]; exact Reads.nil _ _ _ _ (Nat.zero_le _), Below.drewN hb1 n2⟩
  have hl : decide (((0 : Nat) : Int) < len) = true := by simp; omega
  obtain ⟨x, hx⟩ : ∃ x, xs[0]? = some x := ⟨_, List.getElem?_eq_getElem (by rw [hsz.out]; omega)⟩
  have hxs : xs = x :: xs.drop 1 := by
    have := drop1p hx
    simpa using this
  have HM := hid (reader_more w.heap.size len cap 0 a _ hB0)
  have HT := hid (fun n => reader_take w.heap.size len cap 0 a xs x _ (hB0.drewN n) (HR.out.below (Below.drewN hb1 n)) (by omega) hx (by omega))
  by_cases h34 : x = 34
  · subst h34
    have e : Hid (unqS (xs.drop 1) [] 1 = U) := by
      unfold Hid
      rw [HU.out]
      unfold unqA
      rw [hxs]; rfl
    clear hxs hx
    go_enter Try.func31, Try.ntmps31
    go_wp2_with (first
      | (go_at_call 38; (with_reducible refine HM.out.mono ?_); rintro e w2 ⟨rfl, n2, rfl⟩; rw [hl])
      | (go_at_call 39; (with_reducible refine (HT.out _).mono ?_); rintro e w3 ⟨rfl, hg3, hB3⟩; have hb3 := below_beside (Below.drewN hb1 n2) hg3 (by simp) (Nat.le_refl _)))
    clear HM HT hB0 hg3
    go_loopw [6] (fun v wr => ∃ k : Nat, ∃ O : List Int, k ≤ len ∧ O.length ≤ k ∧ Hid (unqS (xs.drop k) O k = U) ∧ Own .u8 5 w.heap.size wr v O ∧ Below w.heap.size w wr ∧ Blk wr w.heap.size 46 (rdC a len cap k)) (fun _ wr => len - (intOf ((wr.cell? ⟨w.heap.size, 1, none⟩).getD undef)).toNat)
    case atStart => exact ⟨1, [], by omega, Nat.zero_le _, e, Own.nil _ _ _ _, hb3, hB3⟩
    case round =>
      obtain ⟨k, O, hk, hO, hn, hown, hbel, hB⟩ := hrel
      have hc := hB.cell (i := 1) (v := .int .i64 k) rfl
      have HM := hid (reader_more w.heap.size len cap k a wr hB)
      by_cases hlt : k < len
      · have hlt' : decide ((k : Int) < len) = true := by simp; omega
        obtain ⟨y, hy⟩ : ∃ y, xs[k]? = some y := ⟨_, List.getElem?_eq_getElem (by rw [hsz.out]; exact hlt)⟩
        have hwy := HR.out.wf y (List.mem_of_getElem? hy)
        have HTk := hid (fun n => reader_take w.heap.size len cap k a xs y (wr.drewN n) (hB.drewN n) (HR.out.below (Below.drewN hbel n)) hlt hy (by omega))
        have hd := hn.out
        rw [drop1p hy] at hd
        by_cases y34 : y = 34
        · subst y34
          rw [unq_hit] at hd
          have HD := hid hd
          clear hd hn hy hc
          go_wp2_with (first
            | (go_at_call 38; (with_reducible refine HM.out.mono ?_); rintro e w4 ⟨rfl, n4, rfl⟩; rw [hlt'])
            | (go_at_call 39; (with_reducible refine (HTk.out _).mono ?_); rintro e w5 ⟨rfl, hg5, hB5⟩; have hb5 := below_beside (Below.drewN hbel n4) hg5 hbel.size (Nat.le_refl _); have ho5 := (hown.below (Below.drewN (Below.refl _ _) n4)).beside (hB.drewN n4) hT hg5; have hc5 := hB5.cell (i := 1) (v := .int .i64 ((k + 1 : Nat) : Int)) rfl))
          obtain ⟨a', l', c', rfl, hr'⟩ := ho5.back
          go_quiet (fail)
          go_wp2_with fail
          go_ret3
          exact ⟨_, _, _, by rw [← HD.out]; rfl, by rw [← HD.out]; exact hr'.below (Below.drewN (Below.refl _ _) _), Below.drewN hb5 _⟩
        · have b34 : (y == 34) = false := by simpa using y34
          by_cases y92 : y = 92
          · subst y92
            by_cases hk1 : k + 1 < len
            · obtain ⟨z, hz⟩ : ∃ z, xs[k + 1]? = some z := ⟨_, List.getElem?_eq_getElem (by rw [hsz.out]; exact hk1)⟩
              have hwz := HR.out.wf z (List.mem_of_getElem? hz)
              rw [drop1p hz, unq_esc] at hd
              have HD := hid hd
              have hk1' : decide (((k + 1 : Nat) : Int) < len) = true := by simp; omega
              have hzz := hid hz
              clear hd hn y34 hy hz
              go_wp2_with (first
                | (go_at_call 38; (with_reducible refine (reader_more w.heap.size len cap (k + 1) a w5 hB5).mono ?_); rintro e w6 ⟨rfl, n6, rfl⟩; rw [hk1'])
                | (go_at_call 38; (with_reducible refine HM.out.mono ?_); rintro e w4 ⟨rfl, n4, rfl⟩; rw [hlt'])
                | (go_at_call 39; (with_reducible refine (reader_take w.heap.size len cap (k + 1) a xs z (w5.drewN n6) (hB5.drewN n6) (HR.out.below (Below.drewN hb5 n6)) hk1 hzz.out (by omega)).mono ?_); rintro e w7 ⟨rfl, hg7, hB7⟩; have hb7 := below_beside (Below.drewN hb5 n6) hg7 hb5.size (Nat.le_refl _); have ho7 := (ho5.below (Below.drewN (Below.refl _ _) n6)).beside (hB5.drewN n6) hT hg7)
                | (go_at_call 39; (with_reducible refine (HTk.out _).mono ?_); rintro e w5 ⟨rfl, hg5, hB5⟩; have hb5 := below_beside (Below.drewN hbel n4) hg5 hbel.size (Nat.le_refl _); have ho5 := (hown.below (Below.drewN (Below.refl _ _) n4)).beside (hB.drewN n4) hT hg5)
                | (at_builtin; (refine wpList_pushsB ST8 [z] rfl _ _ rfl rfl ⟨_, rfl⟩ ho7 hb7 hB7 hT (by simp; omega) (by intro q hq; simp at hq; subst hq; exact hwz) ?_); intro v8 w8 ho8 hb8 hB8))
              go_roundw
              case rel => exact ⟨k + 2, _, by omega, by simp; omega, HD, ho8, hb8, hB8⟩
              case measure =>
                rw [hc, hB8.cell (i := 1) (v := .int .i64 ((k + 1 + 1 : Nat) : Int)) rfl]
                simp [intOf]; omega
            · have hD : Hid (U = ([], 0, 4)) := by
                unfold Hid
                rw [← hd, List.drop_of_length_le (by rw [hsz.out]; omega)]; rfl
              have hk1' : decide (((k + 1 : Nat) : Int) < len) = false := by simp; omega
              clear hd hn y34 hy
              go_wp2_with (first
                | (go_at_call 38; (with_reducible refine (reader_more w.heap.size len cap (k + 1) a w5 hB5).mono ?_); rintro e w6 ⟨rfl, n6, rfl⟩; rw [hk1'])
                | (go_at_call 38; (with_reducible refine HM.out.mono ?_); rintro e w4 ⟨rfl, n4, rfl⟩; rw [hlt'])
                | (go_at_call 39; (with_reducible refine (HTk.out _).mono ?_); rintro e w5 ⟨rfl, hg5, hB5⟩; have hb5 := below_beside (Below.drewN hbel n4) hg5 hbel.size (Nat.le_refl _)))
              go_ret3
              exact ⟨_, _, _, by rw [hD.out]; rfl, by rw [hD.out]; exact Reads.nil _ _ _ _ (Nat.zero_le _), Below.drewN hb5 _⟩
          · have b92 : (y == 92) = false := by simpa using y92
            rw [unq_on y34 y92] at hd
            have HD := hid hd
            clear hd hn y34 y92 hy
            go_wp2_with (first
              | (go_at_call 38; (with_reducible refine HM.out.mono ?_); rintro e w4 ⟨rfl, n4, rfl⟩; rw [hlt'])
              | (go_at_call 39; (with_reducible refine (HTk.out _).mono ?_); rintro e w5 ⟨rfl, hg5, hB5⟩; have hb5 := below_beside (Below.drewN hbel n4) hg5 hbel.size (Nat.le_refl _); have ho5 := (hown.below (Below.drewN (Below.refl _ _) n4)).beside (hB.drewN n4) hT hg5)
              | (at_builtin; (refine wpList_pushsB ST8 [y] rfl _ _ rfl rfl ⟨_, rfl⟩ ho5 hb5 hB5 hT (by simp; omega) (by intro q hq; simp at hq; subst hq; exact hwy) ?_); intro v8 w8 ho8 hb8 hB8))
            go_roundw
            case rel => exact ⟨k + 1, _, by omega, by simp; omega, HD, ho8, hb8, hB8⟩
            case measure =>
              rw [hc, hB8.cell (i := 1) (v := .int .i64 ((k + 1 : Nat) : Int)) rfl]
              simp [intOf]; omega
      · have hlt' : decide ((k : Int) < len) = false := by simp; omega
        have hD : Hid (U = ([], 0, 4)) := by
          unfold Hid
          rw [← hn.out, List.drop_of_length_le (by rw [hsz.out]; omega)]; rfl
        clear hn
        go_wp2_with (go_at_call 38; (with_reducible refine HM.out.mono ?_); rintro e w4 ⟨rfl, n4, rfl⟩; rw [hlt'])
        go_ret3
        exact ⟨_, _, _, by rw [hD.out]; rfl, by rw [hD.out]; exact Reads.nil _ _ _ _ (Nat.zero_le _), Below.drewN hbel _⟩
  · have e : Hid (U = ([], 0, 3)) := by
      unfold Hid
      rw [HU.out]
      unfold unqA
      rw [hxs]
      simp only [if_neg h34]
    have b34 : (x != 34) = true := by simpa using h34
    clear hxs h34 hx
    go_enter Try.func31, Try.ntmps31
    go_wp2_with (first
      | (go_at_call 38; (with_reducible refine HM.out.mono ?_); rintro e w2 ⟨rfl, n2, rfl⟩; rw [hl])
      | (go_at_call 39; (with_reducible refine (HT.out _).mono ?_); rintro e w3 ⟨rfl, hg3, hB3⟩; have hb3 := below_beside (Below.drewN hb1 n2) hg3 (by simp) (Nat.le_refl _)))
    go_ret3
    exact ⟨_, _, _, by rw [e.out]; rfl, by rw [e.out]; exact Reads.nil _ _ _ _ (Nat.zero_le _), hb3⟩
end Go.Proofs.Ytdipabcoeloeoaa
