/-
  Contracts of the document's own functions of layer 21: quoted texts (those that the translation has).
-/
import Derived.Test.YtdipabcoeloeoaaLit0
import Derived.Test.YtdipabcoeloeoaaR21
namespace Go.Proofs.Ytdipabcoeloeoaa
open Go.RowKit
set_option linter.unusedVariables false

set_option maxHeartbeats 1000000 in
theorem ref21_Quote (a : Option Addr) (len cap : Nat) (xs : List Int) (w : World) (hr : Reads .u8 w a len cap xs) (hN : len < 100000000) :
    Calls Try.prog 34 #[.slice a len cap] w fun e w' => ∃ v, e = .returned v ∧ Own .u8 5 w.heap.size w' v (quoP xs) ∧ Below w.heap.size w w' := by
  have HR := hid hr
  clear hr
  have hq0 : Own .u8 5 w.heap.size (w.alloc (.cells #[.int .u8 34] 5)) (.slice (some ⟨w.heap.size, 0, none⟩) 1 1) [34] := Own.lit .u8 5 w [34] (by decide) (by decide)
  have HQ0 := hid hq0
  clear hq0
  go_enter Try.func34, Try.ntmps34
  go_wp2
  go_loopw [3, 4] (fun v i wr => ∃ k : Nat, k ≤ len ∧ i = .int .i64 k ∧ Own .u8 5 w.heap.size wr v (34 :: (xs.take k).flatMap quo1) ∧ Below w.heap.size w wr) (fun _ i _ => len - (intOf i).toNat)
  case atStart => exact ⟨0, Nat.zero_le _, rfl, HQ0.out, (Below.refl _ _).alloc (Nat.le_refl _) _⟩
  case round =>
    obtain ⟨k, hk, rfl, hown, hbel⟩ := hrel
    have hll := quo_len (xs.take k)
    rw [List.length_take] at hll
    by_cases hlt : k < len
    · obtain ⟨b, off, x, rfl, _, hcx, h0, h1, hx⟩ := (HR.out.below hbel).get8 hlt
      have e1 := hid (quo_snoc hx.out.2)
      have hwx := mk_u8 h0 h1
      by_cases hq : x = 34 ∨ x = 92
      · have e2 : Hid (quo1 x = [92, x]) := by unfold Hid quo1; rw [if_pos hq]
        have hsub : x = 34 ∨ ((x == 34) = false ∧ x = 92) := by
          rcases hq with rfl | rfl
          · exact .inl rfl
          · exact .inr ⟨rfl, rfl⟩
        clear hq
        rcases hsub with rfl | ⟨hx34, rfl⟩
        all_goals
          go_wp2_with (first
            | (at_builtin; (refine wpList_push ST8 rfl _ _ rfl rfl ⟨_, rfl⟩ ho2 hb2 (by simp only [List.length_append, List.length_cons, List.length_nil]; omega) hwx ?_); intro v3 w3 ho3 hb3)
            | (at_builtin; (refine wpList_push ST8 rfl _ _ rfl rfl ⟨_, rfl⟩ hown hbel (by simp only [List.length_cons]; omega) (by decide) ?_); intro v2 w2 ho2 hb2; obtain ⟨_, _, _, hA, _, hcx2, _, _, hx2⟩ := (HR.out.below hb2).get8 hlt; cases hA; have hx3 := hx2.out.1; rw [hx.out.1] at hx3; rw [← Option.some.inj hx3] at hcx2))
          go_roundw
          case rel =>
            refine ⟨k + 1, by omega, by go_num, ?_, hb3⟩
            rw [e1.out, e2.out]
            simpa using ho3
          case measure => simp [intOf]; omega
      · have e2 : Hid (quo1 x = [x]) := by unfold Hid quo1; rw [if_neg hq]
        have b34 : (x == 34) = false := by rw [beq_eq_false_iff_ne]; exact fun h => hq (.inl h)
        have b92 : (x == 92) = false := by rw [beq_eq_false_iff_ne]; exact fun h => hq (.inr h)
        clear hq
        go_wp2_with (at_builtin; (refine wpList_push ST8 rfl _ _ rfl rfl ⟨_, rfl⟩ hown hbel (by simp only [List.length_cons]; omega) hwx ?_); intro v3 w3 ho3 hb3)
        go_roundw
        case rel =>
          refine ⟨k + 1, by omega, by go_num, ?_, hb3⟩
          rw [e1.out, e2.out]
          simpa using ho3
        case measure => simp [intOf]; omega
    · rw [HR.out.all (show len ≤ k by omega)] at hown hll
      have hsz := HR.out.size
      have hlb := quo_len xs
      go_wp2_with (at_builtin; (refine wpList_push ST8 rfl _ _ rfl rfl ⟨_, rfl⟩ hown hbel (by simp only [List.length_cons]; omega) (by decide) ?_); intro v3 w3 ho3 hb3)
      go_ret
      exact ⟨_, rfl, by unfold quoP; simpa using ho3, hb3⟩
set_option maxHeartbeats 1000000 in
theorem ref21_Unquote (a : Option Addr) (len cap : Nat) (xs : List Int) (w : World) (hr : Reads .u8 w a len cap xs) (hN : len < 100000000) :
    Calls Try.prog 32 #[.slice a len cap] w fun e w' => ∃ v, e = .returned (.tuple #[v, .int .i64 ((unqA xs).2.1 : Nat), .int .i64 (unqA xs).2.2]) ∧ Own .u8 5 w.heap.size w' v (unqA xs).1 ∧ Below w.heap.size w w' := by
  have HR := hid hr
  have hsz := hid hr.size
  clear hr
  obtain ⟨U, hU⟩ : ∃ U, U = unqA xs := ⟨_, rfl⟩
  rw [← hU]
  have HU := hid hU
  clear hU
  by_cases hl0 : len = 0
  · subst hl0
    have e : Hid (U = ([], 0, 3)) := by
      unfold Hid
      rw [HU.out, List.eq_nil_of_length_eq_zero hsz.out]; rfl
    go_enter Try.func32, Try.ntmps32
    go_wp2
    go_ret3
    exact ⟨_, by rw [e.out]; rfl, by rw [e.out]; exact Own.nil _ _ _ _, Below.refl _ _⟩
  obtain ⟨b, off, x, rfl, hbl, hcx, h0, h1, hx⟩ := HR.out.get8 (i := 0) (by omega)
  rw [Nat.add_zero] at hcx
  have hxs : xs = x :: xs.drop 1 := by
    have := drop1p hx.out.1
    simpa using this
  have hl0' : ((len : Int) == 0) = false := by rw [beq_eq_false_iff_ne]; omega
  by_cases h34 : x = 34
  · subst h34
    have e : Hid (unqS (xs.drop 1) [] 1 = U) := by
      unfold Hid
      rw [HU.out]
      unfold unqA
      rw [hxs]; rfl
    clear hxs
    go_enter Try.func32, Try.ntmps32
    go_wp2
    go_loopw [5, 6] (fun v i wr => ∃ k : Nat, ∃ O : List Int, k ≤ len ∧ i = .int .i64 k ∧ O.length ≤ k ∧ Hid (unqS (xs.drop k) O k = U) ∧ Own .u8 5 w.heap.size wr v O ∧ Below w.heap.size w wr) (fun _ i _ => len - (intOf i).toNat)
    case atStart => exact ⟨1, [], by omega, rfl, Nat.zero_le _, e, Own.nil _ _ _ _, Below.refl _ _⟩
    case round =>
      obtain ⟨k, O, hk, rfl, hO, hn, hown, hbel⟩ := hrel
      by_cases hlt : k < len
      · obtain ⟨_, _, y, hA, _, hcy, hy0, hy1, hy⟩ := (HR.out.below hbel).get8 hlt
        cases hA
        have hd := hn.out
        rw [drop1p hy.out.1] at hd
        have hwy := mk_u8 hy0 hy1
        by_cases y34 : y = 34
        · subst y34
          rw [unq_hit] at hd
          have HD := hid hd
          clear hd hn
          go_wp2
          go_ret3
          exact ⟨_, by rw [← HD.out]; rfl, by rw [← HD.out]; exact hown, hbel⟩
        · have b34 : (y == 34) = false := by simpa using y34
          by_cases y92 : y = 92
          · subst y92
            by_cases hk1 : k + 1 < len
            · obtain ⟨_, _, z, hA, _, hcz, hz0, hz1, hz⟩ := (HR.out.below hbel).get8 hk1
              cases hA
              rw [drop1p hz.out.1, unq_esc] at hd
              have HD := hid hd
              have hwz := mk_u8 hz0 hz1
              have hkl : ((k : Int) + 1 == (len : Int)) = false := by rw [beq_eq_false_iff_ne]; omega
              clear hd hn y34
              go_wp2_with (at_builtin; (refine wpList_push ST8 rfl _ _ rfl rfl ⟨_, rfl⟩ hown hbel (by omega) hwz ?_); intro v3 w3 ho3 hb3)
              go_roundw
              case rel => exact ⟨k + 2, _, by omega, by go_num, by simp; omega, HD, ho3, hb3⟩
              case measure => simp [intOf]; omega
            · have hD : Hid (U = ([], 0, 4)) := by
                unfold Hid
                rw [← hd, List.drop_of_length_le (by rw [hsz.out]; omega)]; rfl
              have hkl : ((k : Int) + 1 == (len : Int)) = true := by simp; omega
              clear hd hn y34
              go_wp2
              go_ret3
              exact ⟨_, by rw [hD.out]; rfl, by rw [hD.out]; exact Own.nil _ _ _ _, hbel⟩
          · have b92 : (y == 92) = false := by simpa using y92
            rw [unq_on y34 y92] at hd
            have HD := hid hd
            clear hd hn y34 y92
            go_wp2_with (at_builtin; (refine wpList_push ST8 rfl _ _ rfl rfl ⟨_, rfl⟩ hown hbel (by omega) hwy ?_); intro v3 w3 ho3 hb3)
            go_roundw
            case rel => exact ⟨k + 1, _, by omega, by go_num, by simp; omega, HD, ho3, hb3⟩
            case measure => simp [intOf]; omega
      · have hD : Hid (U = ([], 0, 4)) := by
          unfold Hid
          rw [← hn.out, List.drop_of_length_le (by rw [hsz.out]; omega)]; rfl
        clear hn
        go_wp2
        go_ret3
        exact ⟨_, by rw [hD.out]; rfl, by rw [hD.out]; exact Own.nil _ _ _ _, hbel⟩
  · have e : Hid (U = ([], 0, 3)) := by
      unfold Hid
      rw [HU.out]
      unfold unqA
      rw [hxs]
      simp only [if_neg h34]
    have b34 : (x != 34) = true := by simpa using h34
    clear hxs h34
    go_enter Try.func32, Try.ntmps32
    go_wp2
    go_ret3
    exact ⟨_, by rw [e.out]; rfl, by rw [e.out]; exact Own.nil _ _ _ _, Below.refl _ _⟩
end Go.Proofs.Ytdipabcoeloeoaa
