/-
  Texts of ours laid together: R14b.
-/
import Derived.Deep.CutBlock
import Derived.Test.YtdglnpkkfkagaaaGreatZ26

/-! R14b -/
namespace Go.Proofs.YtdglnpkkfkagaaaGreat
open Go.RowKit
set_option linter.unusedVariables false

theorem eqEnd_le (xs : List Int) : eqEnd xs ≤ xs.length := by unfold eqEnd; (repeat' split) <;> omega
theorem eq_getD {xs : List Int} {i : Nat} {x : Int} (h : xs[i]? = some x) : xs.getD i 0 = x := by rw [List.getD_eq_getElem?_getD, h]; rfl
set_option maxHeartbeats 4000000 in
theorem ref14_Read (a : Option Addr) (len cap : Nat) (xs : List Int) (w : World) (hr : Reads .u8 w a len cap xs) (hN : len < 10000000) :
    Calls Tryz.prog 39 #[.slice a len cap] w fun e w' => ∃ v, e = .returned (.tuple #[v, .int .i64 (codE xs)]) ∧ Own .u8 5 w.heap.size w' v (codL xs) ∧ Below w.heap.size w w' := by
  have HR := hid hr
  have hsz := hr.size
  have hll := hr.len_le
  clear hr
  obtain ⟨E, hE⟩ : ∃ E, E = eqEnd xs := ⟨_, rfl⟩
  have hEl : E ≤ len := by rw [hE, ← hsz]; exact eqEnd_le xs
  have hD : codD xs = xs.take E := by unfold codD; rw [hE]
  have HE := hid hE
  go_enter Tryz.func39, Tryz.ntmps39
  go_upto_block 0 with fail
  go_cut [4] (fun s wx => s = .int .i64 E ∧ w = wx)
  case first =>
    go_wp2_with fail
    go_loop [4, 5] (fun e i => ∃ k : Nat, k ≤ 2 ∧ k ≤ len ∧ i = .int .i64 k ∧ e = .int .i64 ((len - k : Nat) : Int) ∧ Hid (∀ t, t < k → xs.getD (len - 1 - t) 0 = 61)) (fun _ i => 2 - (intOf i).toNat)
    case atStart => exact ⟨0, by omega, by omega, rfl, rfl, fun t ht => by omega⟩
    case round =>
      obtain ⟨k, hk, hkl, rfl, rfl, hn⟩ := hrel
      have hs := HE.out
      unfold eqEnd at hs
      rw [hsz] at hs
      by_cases hk2 : k < 2
      · by_cases hlt : k < len
        · obtain ⟨b, off, x, rfl, _, hc, h0, h1, hx⟩ := HR.out.get8 (i := len - 1 - k) (by omega)
          have hg := eq_getD hx.out.1
          have hix : ((len - k : Nat) : Int) - 1 = ((len - 1 - k : Nat) : Int) := by omega
          have hpos : 0 < len - k := by omega
          by_cases hx6 : x = 61
          · subst hx6
            have hn' : Hid (∀ t, t < k + 1 → xs.getD (len - 1 - t) 0 = 61) := by
              intro t ht
              by_cases htk : t < k
              · exact hn.out t htk
              · obtain rfl : t = k := by omega
                exact hg
            clear hs hg
            go_wp2_with fail
            go_round
            case rel => exact ⟨k + 1, by omega, by omega, by go_num, by go_num, hn'⟩
            case measure => simp [intOf]; omega
          · have hb : (x == 61) = false := by simpa using hx6
            have hEk : E = len - k := by
              rw [hs]
              have hq : k = 0 ∨ k = 1 := by omega
              rcases hq with rfl | rfl
              · rw [if_neg (fun h => hx6 (by rw [← hg]; exact h.2))]; rfl
              · rw [if_pos ⟨by omega, hn.out 0 (by omega)⟩, if_neg (fun h => hx6 (by rw [← hg]; exact h.2))]
            clear hs hg hx6
            go_wp2_with fail
            go_meet
            exact ⟨by rw [hEk], rfl⟩
        · have hk0 : k = len := by omega
          have hEk : E = len - k := by
            rw [hs]
            have hq : k = 0 ∨ k = 1 := by omega
            rcases hq with rfl | rfl
            · rw [if_neg (by omega)]; rfl
            · rw [if_pos ⟨by omega, hn.out 0 (by omega)⟩, if_neg (by omega)]
          have h0 : ¬ 0 < len - k := by omega
          clear hs
          go_wp2_with fail
          go_meet
          exact ⟨by rw [hEk, show len - k = 0 by omega]; rfl, rfl⟩
      · obtain rfl : k = 2 := by omega
        have hEk : E = len - 2 := by
          rw [hs]
          rw [if_pos ⟨by omega, hn.out 0 (by omega)⟩, if_pos ⟨by omega, hn.out 1 (by omega)⟩]
        clear hs
        go_wp2_with fail
        go_meet
        exact ⟨by rw [hEk], rfl⟩
  case rest =>
  obtain ⟨rfl, rfl⟩ := hcut
  have hcap : E ≤ cap := Nat.le_trans hEl HR.out.room
  have hpre := HR.out.pre hEl
  rw [← hD] at hpre
  have HP := hid hpre
  have hp1 := hpre.size
  have hv6 : ∀ v ∈ (codD xs).map valI, V6 v := by
    intro v hv
    obtain ⟨c, _, rfl⟩ := List.mem_map.1 hv
    exact val_bd c
  have hrd := rd_bits _ hv6
  clear hpre hE hD
  cases hd : (codD xs).all isDig
  · have e : Hid (codE xs = 3) := by unfold Hid codE; rw [hd]; rfl
    have el : Hid (codL xs = []) := by unfold Hid codL; rw [e.out]; rfl
    have hV := ref14_Values a E cap (codD xs) w HP.out (by omega)
    rw [hd] at hV
    have HV := hid hV
    clear hV hd hrd
    go_wp2_with (go_at_call 60; (with_reducible refine HV.out.mono ?_); rintro e w1 ⟨v1, rfl, ho1, hb1⟩)
    go_ret2
    exact ⟨_, by rw [e.out]; rfl, by rw [el.out]; exact Own.nil _ _ _ _, hb1⟩
  · have hV := ref14_Values a E cap (codD xs) w HP.out (by omega)
    rw [hd] at hV
    have hvl : valsL (codD xs) = bits6 ((codD xs).map valI) := by unfold valsL; rw [if_pos hd]
    rw [hvl] at hV
    have HV := hid hV
    have hlen : (bits6 ((codD xs).map valI)).length = 6 * E := by rw [bits6_len, List.length_map, hp1]
    by_cases h4 : len % 4 = 0
    · have h4i : (len : Int) % 4 = 0 := by omega
      have hO1 : ∀ b ∈ bits6 ((codD xs).map valI), b = 0 ∨ b = 1 := by
        intro b hb
        unfold bits6 bit6 at hb
        rw [List.mem_flatMap] at hb
        obtain ⟨x, _, hb⟩ := hb
        simp only [List.mem_cons, List.not_mem_nil, or_false] at hb
        omega
      have HO1 := hid hO1
      rw [hlen] at hrd
      have HRD := hid hrd
      cases ho : ok64 ((codD xs).map valI)
      · have e : Hid (codE xs = 3) := by unfold Hid codE; rw [if_pos hd, hsz, if_pos h4, ho]; rfl
        have el : Hid (codL xs = []) := by unfold Hid codL; rw [e.out]; rfl
        have HO := hid ho
        clear hV hd hrd hvl hO1 ho h4
        go_wp2_with (first
          | (go_at_call 60; (with_reducible refine HV.out.mono ?_); rintro e w1 ⟨v1, rfl, ho1, hb1⟩; obtain ⟨a1, c1, rfl, hr1⟩ := ho1.reads; rw [hlen] at hr1; have hq := ref14_Octets a1 (6 * E) c1 _ w1 hr1 HO1.out (by omega); rw [HRD.out.2, HO.out] at hq; rw [hlen]; have HQ := hid hq; clear hq)
          | (go_at_call 61; (with_reducible refine HQ.out.mono ?_); rintro e w2 ⟨v2, rfl, ho2, hb2⟩))
        go_ret2
        exact ⟨_, by rw [e.out]; rfl, by rw [el.out]; exact Own.nil _ _ _ _, below_then hb1 hb2⟩
      · have e : Hid (codE xs = 0) := by unfold Hid codE; rw [if_pos hd, hsz, if_pos h4, if_pos ho]
        have el : Hid (codL xs = rd64 ((codD xs).map valI)) := by unfold Hid codL; rw [if_pos e.out]
        have HO := hid ho
        clear hV hd hrd hvl hO1 ho h4
        go_wp2_with (first
          | (go_at_call 60; (with_reducible refine HV.out.mono ?_); rintro e w1 ⟨v1, rfl, ho1, hb1⟩; obtain ⟨a1, c1, rfl, hr1⟩ := ho1.reads; rw [hlen] at hr1; have hq := ref14_Octets a1 (6 * E) c1 _ w1 hr1 HO1.out (by omega); rw [HRD.out.2, HO.out, HRD.out.1] at hq; rw [hlen]; have HQ := hid hq; clear hq)
          | (go_at_call 61; (with_reducible refine HQ.out.mono ?_); rintro e w2 ⟨v2, rfl, ho2, hb2⟩))
        go_ret2
        exact ⟨_, by rw [e.out]; rfl, by rw [el.out]; exact own_mono ho2 hb1.size, below_then hb1 hb2⟩
    · have h4i : ¬ (len : Int) % 4 = 0 := by omega
      have e : Hid (codE xs = 4) := by unfold Hid codE; rw [if_pos hd, hsz, if_neg h4]
      have el : Hid (codL xs = []) := by unfold Hid codL; rw [e.out]; rfl
      clear hV hd hrd hvl h4
      go_wp2_with (go_at_call 60; (with_reducible refine HV.out.mono ?_); rintro e w1 ⟨v1, rfl, ho1, hb1⟩)
      go_ret2
      exact ⟨_, by rw [e.out]; rfl, by rw [el.out]; exact Own.nil _ _ _ _, hb1⟩
end Go.Proofs.YtdglnpkkfkagaaaGreat
