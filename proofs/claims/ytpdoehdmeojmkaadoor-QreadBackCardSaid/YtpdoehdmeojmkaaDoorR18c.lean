/-
  Contracts of the document's own functions of layer 18: what is right (those that the translation has).
-/
import Derived.Test.YtpdoehdmeojmkaaDoorR18b
import Derived.Deep.RegionHeld3
namespace Go.Proofs.YtpdoehdmeojmkaaDoor
open Go.RowKit
set_option linter.unusedVariables false

theorem getD_of {xs : List Int} {k : Nat} {x : Int} (h : xs[k]? = some x) : xs.getD k 0 = x := by rw [List.getD_eq_getElem?_getD, h]; rfl
theorem esc3 (xs : List Int) (k : Nat) (y : Int) : (escI [] 61 y).length = 3 := rfl
theorem takeV_bd (xs : List Int) (k : Int) : 0 ≤ takeV xs k 61 ∧ takeV xs k 61 ≤ 255 := by
  have key : ∀ c, 0 ≤ hexV c ∧ hexV c ≤ 15 := by intro c; unfold hexV; (repeat' split) <;> omega
  have h1 := key (xs.getD (k.toNat + 1) 0)
  have h2 := key (xs.getD (k.toNat + 2) 0)
  unfold takeV
  split <;> omega
set_option maxHeartbeats 4000000 in
theorem ref18_right (a : Option Addr) (len cap : Nat) (xs : List Int) (w : World) (hr : Reads .u8 w a len cap xs) (hN : len < 10000000) :
    Calls Tryd.prog 33 #[.slice a len cap] w fun e w' => e = .returned (.bool (rgtB xs)) ∧ Below w.heap.size w w' := by
  have HR := hid hr
  have hsz := hid hr.size
  have hrm := hr.room
  have hll := hr.len_le
  clear hr
  go_enter Tryd.func33, Tryd.ntmps33
  go_wp2
  go_loopw [3] (fun i wr => ∃ k : Nat, k ≤ len ∧ i = .int .i64 k ∧ Hid ((List.range k).all (sgnOk xs) = true) ∧ Below w.heap.size w wr) (fun i _ => len + 1 - (intOf i).toNat)
  case atStart => exact ⟨0, Nat.zero_le _, rfl, rfl, Below.refl _ _⟩
  case round =>
    obtain ⟨k, hk, rfl, hn, hbel⟩ := hrel
    by_cases hlt : k < len
    · obtain ⟨b, off, x, rfl, _, hcx, h0, h1, hx⟩ := (HR.out.below hbel).get8 hlt
      have hgd := hid (getD_of hx.out.1)
      have h24 : isB 2 x = true ∨ (isB 2 x = false ∧ isB 4 x = true) ∨ (isB 2 x = false ∧ isB 4 x = false) := by
        cases isB 2 x <;> cases isB 4 x <;> simp
      have hbad : isB 2 x = false ∧ isB 4 x = false → rgtB xs = false := by
        intro hh
        unfold rgtB
        rw [range_no (k := k) (by rw [hsz.out]; exact hlt) (by unfold sgnOk; rw [hgd.out, hh.1, hh.2]; rfl), Bool.false_and]
      have hgood : isB 2 x = true ∨ (isB 2 x = false ∧ isB 4 x = true) → sgnOk xs k = (if x = 61 ∧ k + 1 < xs.length then escAt xs k else true) := by
        intro hh
        unfold sgnOk
        rw [hgd.out]
        rcases hh with hh | ⟨_, hh⟩
        · rw [hh, Bool.true_or, Bool.true_and]
        · rw [hh, Bool.or_true, Bool.true_and]
      have HG := hid hgood
      have HBAD := hid hbad
      clear hgood hbad
      by_cases hbb : isB 2 x = false ∧ isB 4 x = false
      · have hF := HBAD.out hbb
        obtain ⟨h2, h4⟩ := hbb
        have HF := hid hF
        clear hF h24
        go_wp2_with (go_at_call 28; (with_reducible refine (is_r _ _ _ h0 h1).mono ?_); rintro e w' ⟨rfl, rfl⟩; first | rw [h2] | rw [h4])
        go_ret
        exact ⟨ret_bool HF.out.symm, hbel⟩
      have h24' : isB 2 x = true ∨ (isB 2 x = false ∧ isB 4 x = true) := by
        rcases h24 with h | h | h
        · exact .inl h
        · exact .inr h
        · exact absurd h hbb
      have hS := HG.out h24'
      clear h24 hbb HG HBAD
      by_cases hxe : x = 61 ∧ k + 1 < len
      · obtain ⟨rfl, hk1⟩ := hxe
        have h2 : isB 2 61 = false := by decide
        have h4 : isB 4 61 = true := by decide
        clear h24'
        rw [if_pos ⟨rfl, by rw [hsz.out]; exact hk1⟩] at hS
        cases hok : takeOk xs k 61
        · have hF : rgtB xs = false := by
            unfold rgtB
            rw [range_no (k := k) (by rw [hsz.out]; exact hlt) (by rw [hS]; unfold escAt; rw [hok]; rfl), Bool.false_and]
          have HF := hid hF
          clear hF hS
          go_wp2_with (first
              | (go_at_call 28; (with_reducible refine (is_r _ _ _ h0 h1).mono ?_); rintro e w' ⟨rfl, rfl⟩; first | rw [h2] | rw [h4])
              | (go_at_call 29; (with_reducible refine (take_r _ _ _ _ _ _ _ (HR.out.below hbel) (WalkArith.wf_i64 (by omega))).mono ?_); rintro e w' ⟨rfl, rfl⟩; rw [hok]))
          go_quiet (fail)
          go_wp2_with fail
          go_ret
          exact ⟨ret_bool HF.out.symm, by first | exact below_drew hbel | exact Below.drewN hbel _⟩
        · have hk3 : k + 3 ≤ len := by
            have := hok
            unfold takeOk at this
            simp only [Bool.and_eq_true, decide_eq_true_eq] at this
            have := hsz.out
            omega
          have hX := (HR.out.below hbel).piece (l := k) (r := k + 3) (by omega) hk3
          have hck : ¬ cap = k := by omega
          rw [if_neg hck, List.drop_take, show k + 3 - k = 3 by omega] at hX
          have ead : (some (⟨b, off, none⟩ : Addr)).map (·.add k) = some ⟨b, off + k, none⟩ := by simp [Addr.add_lit]
          rw [ead] at hX
          have HX := hid hX
          have hvb := takeV_bd xs k
          obtain ⟨V, hV⟩ : ∃ V, V = takeV xs k 61 := ⟨_, rfl⟩
          rw [← hV] at hvb
          have hSB : sgnOk xs k = decide (escI [] 61 V = (xs.drop k).take 3) := by rw [hS]; unfold escAt; rw [hok, hV]; rfl
          have HV := hid hV
          have HSB := hid hSB
          clear hX hS hV hSB
          have q1 : (0 : Int) ≤ (k : Int) := by omega
          have q2 : (k : Int) ≤ (k : Int) + 3 := by omega
          have q3 : (k : Int) + 3 ≤ (cap : Int) := by omega
          have q4 : ((k : Int) + 3).toNat = k + 3 := by omega
          have q5 : (k : Int).toNat = k := by omega
          have q6 : IntKind.i64.wrap ((k : Int) + 3) = (k : Int) + 3 := IntWalk.i64_in _ (by omega)
          go_wp2_with (first
              | (go_at_call 28; (with_reducible refine (is_r _ _ _ h0 h1).mono ?_); rintro e w' ⟨rfl, rfl⟩; first | rw [h2] | rw [h4])
              | (go_at_call 29; (with_reducible refine (take_r _ _ _ _ _ _ _ (HR.out.below hbel) (WalkArith.wf_i64 (by omega))).mono ?_); rintro e w' ⟨rfl, rfl⟩; rw [hok, ← HV.out]))
          cases hB : decide (escI [] 61 V = (xs.drop k).take 3)
          all_goals
            have hSk := HSB.out
            rw [hB] at hSk
            have HSK := hid hSk
            have HB2 := hid hB
            clear hSk
            go_region_held3 (fun _ => True) (trivial) (first
              | (go_at_call 43; (with_reducible refine (put_o _ _ _ hvb.1 hvb.2 (by decide)).mono ?_); rintro e w2 ⟨v2, rfl, ho2, hb2⟩; obtain ⟨a2, c2, rfl, hr2⟩ := ho2.reads; have hbA := (below_drew hbel).trans (hb2.mono hbel.size); have HX2 := hid ((HX.out.below (below_drew (Below.refl _ _))).below hb2))
              | (go_at_call 11; (with_reducible refine (like_r _ _ _ _ _ _ _ _ _ hr2 HX2.out).mono ?_); rintro e w3 ⟨rfl, n3, rfl⟩; rw [HB2.out]))
          · all_goals
              have hF : Hid (rgtB xs = false) := by
                unfold Hid rgtB
                rw [range_no (k := k) (by rw [hsz.out]; exact hlt) HSK.out, Bool.false_and]
              go_wp2_with fail
              go_ret
              exact ⟨ret_bool hF.out.symm, Below.drewN hbA _⟩
          · all_goals
              have hE := hid (range_on hn.out HSK.out)
              go_wp2_with fail
              go_roundw
              case rel => exact ⟨k + 1, by omega, by go_num, hE, Below.drewN hbA _⟩
              case measure => simp [intOf]; omega
      · have hE : Hid ((List.range (k + 1)).all (sgnOk xs) = true) := by
          refine range_on hn.out ?_
          rw [hS, if_neg (by rw [hsz.out]; exact hxe)]
        have hsub : (x == 61) = false ∨ (x = 61 ∧ ¬ k + 1 < len) := by
          by_cases h61 : x = 61
          · exact .inr ⟨h61, fun h => hxe ⟨h61, h⟩⟩
          · exact .inl (by simpa using h61)
        clear hS hxe
        rcases hsub with h61 | ⟨rfl, hk1⟩
        · rcases h24' with h2 | ⟨h2, h4⟩
          all_goals
            go_wp2_with (go_at_call 28; (with_reducible refine (is_r _ _ _ h0 h1).mono ?_); rintro e w' ⟨rfl, rfl⟩; first | rw [h2] | rw [h4])
            go_roundw
            case rel => exact ⟨k + 1, by omega, by go_num, hE, hbel⟩
            case measure => simp [intOf]; omega
        · have h2 : isB 2 61 = false := by decide
          have h4 : isB 4 61 = true := by decide
          clear h24'
          go_wp2_with (go_at_call 28; (with_reducible refine (is_r _ _ _ h0 h1).mono ?_); rintro e w' ⟨rfl, rfl⟩; first | rw [h2] | rw [h4])
          go_roundw
          case rel => exact ⟨k + 1, by omega, by go_num, hE, hbel⟩
          case measure => simp [intOf]; omega
    · obtain rfl : k = len := by omega
      have hR : rgtB xs = endOk xs := by unfold rgtB; rw [hsz.out, hn.out, Bool.true_and]
      by_cases h0 : k = 0
      · subst h0
        obtain rfl : xs = [] := List.eq_nil_of_length_eq_zero hsz.out
        clear hR
        go_wp2
        go_ret
        exact ⟨rfl, hbel⟩
      · obtain ⟨b, off, x, rfl, _, hcx, hx0, hx1, hx⟩ := (HR.out.below hbel).get8 (i := k - 1) (by omega)
        have hle : xs.getLast? = some x := by rw [List.getLast?_eq_getElem?, hsz.out]; exact hx.out.1
        have hE : Hid (rgtB xs = !isB 2 x) := by unfold Hid; rw [hR]; unfold endOk; rw [hle]
        obtain ⟨k', rfl⟩ : ∃ k', k = k' + 1 := ⟨k - 1, by omega⟩
        rw [Nat.add_sub_cancel] at hcx
        have h0 := hx0
        have h1 := hx1
        clear hR hle
        cases h2 : isB 2 x
        all_goals
          rw [h2] at hE
          go_wp2_with (go_at_call 28; (with_reducible refine (is_r _ _ _ h0 h1).mono ?_); rintro e w' ⟨rfl, rfl⟩; rw [h2])
          go_ret
          exact ⟨ret_bool hE.out.symm, hbel⟩
end Go.Proofs.YtpdoehdmeojmkaaDoor
