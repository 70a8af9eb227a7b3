/-
  Contracts of the document's own functions of layer 19: one line (those that the translation has).
-/
import Derived.Test.YtpdoehdmeojmkaaDoorRows
import Derived.Test.YtpdoehdmeojmkaaDoorR01
import Derived.Test.YtpdoehdmeojmkaaDoorR01k
import Derived.Test.YtpdoehdmeojmkaaDoorR02
import Derived.Test.YtpdoehdmeojmkaaDoorD19
namespace Go.Proofs.YtpdoehdmeojmkaaDoor
open Go.RowKit
set_option linter.unusedVariables false

theorem drop1s {xs : List Int} {k : Nat} {x : Int} (h : xs[k]? = some x) : xs.drop k = x :: xs.drop (k + 1) := by
  have hk : k < xs.length := (List.getElem?_eq_some_iff.1 h).1
  have e : xs[k] = x := (List.getElem?_eq_some_iff.1 h).2
  rw [List.drop_eq_getElem_cons hk, e]
/-- A beginning of a row. -/
theorem Reads.front {k : IntKind} {w : World} {a : Option Addr} {len cap : Nat} {xs : List Int} (h : Reads k w a len cap xs) {m : Nat} (hm : m ≤ len) : Reads k w a m cap (xs.take m) := by
  have hs := h.size
  have hrm := h.room
  refine ⟨by rw [List.length_take]; omega, by omega, h.top, fun x hx => h.wf x (List.mem_of_mem_take hx), fun hl => ?_⟩
  obtain ⟨b, off, ha, hb, hc⟩ := h.cell (by omega)
  refine ⟨b, off, ha, hb, fun i hi => ?_⟩
  rw [hc i (by omega)]
  simp [hi]
set_option maxHeartbeats 4000000 in
theorem ref19_Line (a : Option Addr) (len cap : Nat) (xs : List Int) (w : World) (hr : Reads .u8 w a len cap xs) (hN : len < 100000000) :
    Calls Tryd.prog 17 #[.slice a len cap] w fun e w' => ∃ v, e = .returned (.tuple #[v, .bool (softB xs), .int .i64 (lineN xs)]) ∧ Own .u8 5 w.heap.size w' v (lineR xs) ∧ Below w.heap.size w w' := by
  have HR := hid hr
  have hsz := hid hr.size
  have hrm := hr.room
  clear hr
  obtain ⟨SB, hSB⟩ : ∃ SB, SB = softB xs := ⟨_, rfl⟩
  obtain ⟨LB, hLB⟩ : ∃ LB, LB = lineB xs := ⟨_, rfl⟩
  have hLR : Hid (lineR xs = rdE 61 idI LB 0 ∧ lineN xs = stE 61 LB 0) := by unfold Hid lineR lineN; rw [hLB]; exact ⟨rfl, rfl⟩
  rw [← hSB]
  have HSB := hid hSB
  have HLB := hid hLB
  clear hSB hLB
  go_enter Tryd.func17, Tryd.ntmps17
  go_wp2
  go_loop [0] (fun v => ∃ m : Nat, m ≤ len ∧ v = .slice a m cap ∧ Hid (trimE (xs.take m) = trimE xs)) (fun v => match v with | .slice _ m _ => m | _ => 0)
  case atStart => exact ⟨len, Nat.le_refl _, rfl, by rw [Hid, HR.out.all (Nat.le_refl _)]⟩
  case round =>
    obtain ⟨m, hm, rfl, hn⟩ := hrel
    have D : (m = 0 ∧ SB = false ∧ Hid (Reads .u8 w a 0 cap LB)) ∨ (∃ p x b off, m = p + 1 ∧ a = some ⟨b, off, none⟩ ∧ w.cell? ⟨b, off + p, none⟩ = some (.int .u8 x) ∧ 0 ≤ x ∧ x ≤ 255 ∧ isB 2 x = false ∧ ((x = 61 ∧ SB = true ∧ Hid (Reads .u8 w a p cap LB)) ∨ ((x == 61) = false ∧ SB = false ∧ Hid (Reads .u8 w a (p + 1) cap LB)))) ∨ ∃ p x b off, m = p + 1 ∧ a = some ⟨b, off, none⟩ ∧ w.cell? ⟨b, off + p, none⟩ = some (.int .u8 x) ∧ 0 ≤ x ∧ x ≤ 255 ∧ isB 2 x = true ∧ Hid (trimE (xs.take p) = trimE xs) := by
      by_cases h0 : m = 0
      · have ht : trimE xs = [] := by rw [← hn.out, h0]; rfl
        have e1 : SB = false := by rw [HSB.out]; unfold softB; rw [ht]; rfl
        have e2 : LB = xs.take 0 := by
          rw [HLB.out]
          unfold lineB
          rw [← HSB.out, e1, ht]; rfl
        exact .inl ⟨h0, e1, by unfold Hid; rw [e2]; exact HR.out.front (Nat.zero_le _)⟩
      · obtain ⟨p, rfl⟩ : ∃ p, m = p + 1 := ⟨m - 1, by omega⟩
        obtain ⟨b, off, x, hA, _, hcx, hx0, hx1, hx⟩ := HR.out.get8 (i := p) (by omega)
        have ht := hn.out
        rw [hx.out.2, trimE_snoc] at ht
        cases h2 : isB 2 x
        · rw [h2, if_neg (by decide), ← hx.out.2] at ht
          have hlast : (trimE xs).getLast? = some x := by rw [← ht, hx.out.2, List.getLast?_concat]
          refine .inr (.inl ⟨p, x, b, off, rfl, hA, hcx, hx0, hx1, h2, ?_⟩)
          by_cases h61 : x = 61
          · have e1 : SB = true := by rw [HSB.out]; unfold softB; rw [hlast, h61]; rfl
            have e2 : LB = xs.take p := by
              rw [HLB.out]
              unfold lineB
              rw [← HSB.out, e1, if_pos rfl, ← ht, hx.out.2, List.dropLast_concat]
            exact .inl ⟨h61, e1, by unfold Hid; rw [e2]; exact HR.out.front (by omega)⟩
          · have e1 : SB = false := by
              rw [HSB.out]
              unfold softB
              rw [hlast]
              simpa using h61
            have e2 : LB = xs.take (p + 1) := by
              rw [HLB.out]
              unfold lineB
              rw [← HSB.out, e1, if_neg (by decide), ← ht]
            exact .inr ⟨by simpa using h61, e1, by unfold Hid; rw [e2]; exact HR.out.front hm⟩
        · rw [h2, if_pos rfl] at ht
          exact .inr (.inr ⟨p, x, b, off, rfl, hA, hcx, hx0, hx1, h2, ht⟩)
    clear hn
    rcases D with ⟨rfl, rfl, HX⟩ | ⟨p, x, b, off, rfl, rfl, hcx, hx0, hx1, h2, ⟨rfl, rfl, HX⟩ | ⟨h61, rfl, HX⟩⟩ | ⟨p, x, b, off, rfl, rfl, hcx, hx0, hx1, h2, HT⟩
    case inr.inr =>
      go_wp2_with (go_at_call 28; (with_reducible refine (is_r _ _ _ hx0 hx1).mono ?_); rintro e w' ⟨rfl, rfl⟩; rw [h2])
      go_round
      case rel => exact ⟨p, by omega, rfl, HT⟩
      case measure => simp
    all_goals
      have hpc : LB.length ≤ len := by have := HX.out.size; omega
      have hcc : LB.length ≤ cap := by omega
      have hsL := hid HX.out.size
      clear HSB HLB
      go_wp2_with (go_at_call 28; (with_reducible refine (is_r _ _ _ hx0 hx1).mono ?_); rintro e w' ⟨rfl, rfl⟩; rw [h2])
      go_loopw [6, 7, 8] (fun v s i wr => ∃ k j : Nat, ∃ O : List Int, k ≤ LB.length ∧ i = .int .i64 k ∧ s = .int .i64 j ∧ j ≤ k ∧ O.length ≤ k ∧ Hid (O ++ rdE 61 idI (LB.drop k) 0 = rdE 61 idI LB 0) ∧ Hid (j + stE 61 (LB.drop k) 0 = stE 61 LB 0) ∧ Own .u8 5 w.heap.size wr v O ∧ Below w.heap.size w wr) (fun _ _ i _ => LB.length - (intOf i).toNat)
      case atStart => exact ⟨0, 0, [], Nat.zero_le _, rfl, rfl, Nat.le_refl _, Nat.le_refl _, rfl, Nat.zero_add _, Own.nil _ _ _ _, Below.refl _ _⟩
      case round =>
        obtain ⟨k, j, O, hk, rfl, rfl, hj, hO, hn, hs, hown, hbel2⟩ := hrel
        by_cases hlt : k < LB.length
        · have hlt' := hlt
          rw [hsL.out] at hlt'
          first
            | (exfalso; exact absurd hlt' (Nat.not_lt_zero _))
            | skip
          all_goals
            obtain ⟨b3, off3, y, hA, _, hcy, hy0, hy1, hy⟩ := (HX.out.below hbel2).get8 hlt'
            cases hA
            have ht := take_esc (xs := LB) (k := k) 61 hk
            have hd := drop1s hy.out.1
            have hn' := hn.out
            have hs' := hs.out
            rw [hd] at hn' hs' ht
            have hRk := hid (HX.out.below hbel2)
            have hwy := mk_u8 hy0 hy1
            cases he : escP 61 (y :: LB.drop (k + 1)) with
            | some v =>
              rw [he] at ht
              have hv := escP_bd he
              have hk3 : k + 3 ≤ LB.length := by
                obtain ⟨_, _, _, _, _, r, e, _⟩ := hv
                have := congrArg List.length e
                simp only [List.length_cons, List.length_drop] at this
                omega
              rw [rdE_esc he, List.drop_drop, show k + 1 + 2 = k + 3 by omega] at hn'
              rw [stE_esc he, List.drop_drop, show k + 1 + 2 = k + 3 by omega] at hs'
              have HN : Hid ((O ++ [v]) ++ rdE 61 idI (LB.drop (k + 3)) 0 = rdE 61 idI LB 0) := by unfold Hid; rw [← hn', List.append_assoc]; rfl
              have HS := hid hs'
              have HT1 := hid ht.1
              have HT2 := hid ht.2
              have hwv := mk_u8 hv.1 hv.2.1
              clear hn hs hn' hs' ht he hv hd
              go_wp2_with (first
                | (go_at_call 29; (with_reducible refine (take_r _ _ _ _ _ _ _ hRk.out (WalkArith.wf_i64 (by omega))).mono ?_); rintro e w' ⟨rfl, rfl⟩; rw [HT1.out, HT2.out]; simp only [Option.isSome_some, Option.getD_some])
                | (at_builtin; (refine wpList_push ST8 rfl _ _ rfl rfl ⟨_, rfl⟩ hown hbel2 (by omega) hwv ?_); intro v2 w2 ho2 hb2))
              go_roundw
              case rel => exact ⟨k + 3, j, _, by omega, by go_num, rfl, by omega, by simp; omega, HN, HS, ho2, hb2⟩
              case measure => simp [intOf]; omega
            | none =>
              rw [he] at ht
              rw [rdE_on he] at hn'
              rw [stE_on he] at hs'
              have HN : Hid ((O ++ [y]) ++ rdE 61 idI (LB.drop (k + 1)) 0 = rdE 61 idI LB 0) := by unfold Hid; rw [← hn', List.append_assoc]; rfl
              have HT1 := hid ht.1
              have HT2 := hid ht.2
              clear hn hs hn' ht he hd
              by_cases y61 : y = 61
              · subst y61
                have HS : Hid ((j + 1) + stE 61 (LB.drop (k + 1)) 0 = stE 61 LB 0) := by unfold Hid; rw [← hs', if_pos rfl]; omega
                clear hs'
                go_wp2_with (first
                  | (go_at_call 29; (with_reducible refine (take_r _ _ _ _ _ _ _ hRk.out (WalkArith.wf_i64 (by omega))).mono ?_); rintro e w' ⟨rfl, rfl⟩; rw [HT1.out, HT2.out]; simp only [Option.isSome_none, Option.getD_none])
                  | (at_builtin; (refine wpList_push ST8 rfl _ _ rfl rfl ⟨_, rfl⟩ hown hbel2 (by omega) hwy ?_); intro v2 w2 ho2 hb2))
                go_roundw
                case rel => exact ⟨k + 1, j + 1, _, by omega, by go_num, by go_num, by omega, by simp; omega, HN, HS, ho2, hb2⟩
                case measure => simp [intOf]; omega
              · have HS : Hid (j + stE 61 (LB.drop (k + 1)) 0 = stE 61 LB 0) := by unfold Hid; rw [← hs', if_neg y61]; omega
                have b61 : (y == 61) = false := by simpa using y61
                clear hs' y61
                go_wp2_with (first
                  | (go_at_call 29; (with_reducible refine (take_r _ _ _ _ _ _ _ hRk.out (WalkArith.wf_i64 (by omega))).mono ?_); rintro e w' ⟨rfl, rfl⟩; rw [HT1.out, HT2.out]; simp only [Option.isSome_none, Option.getD_none])
                  | (at_builtin; (refine wpList_push ST8 rfl _ _ rfl rfl ⟨_, rfl⟩ hown hbel2 (by omega) hwy ?_); intro v2 w2 ho2 hb2))
                go_roundw
                case rel => exact ⟨k + 1, j, _, by omega, by go_num, rfl, by omega, by simp; omega, HN, HS, ho2, hb2⟩
                case measure => simp [intOf]; omega
        · have hn' := hn.out
          have hs' := hs.out
          rw [List.drop_of_length_le (by omega), rdE, List.append_nil] at hn'
          rw [List.drop_of_length_le (by omega), stE, Nat.add_zero] at hs'
          rw [← hLR.out.1] at hn'
          rw [← hLR.out.2] at hs'
          have HS := hid hs'
          have HN := hid hn'
          have hkl := hid (show k = LB.length by omega)
          have hsk := hkl.out
          rw [hsL.out] at hsk
          subst hsk
          clear hn hs hs' hn'
          go_wp2
          go_ret3
          exact ⟨_, by rw [← HS.out]; rfl, by rw [← HN.out]; exact hown, hbel2⟩
end Go.Proofs.YtpdoehdmeojmkaaDoor
