/-
  Contracts of the document's own functions of layer 15 (those that the translation has).
-/
import Derived.Test.YtkfmalajapojhaaR14
import Derived.Test.YtkfmalajapojhaaD15
namespace Go.Proofs.Ytkfmalajapojhaa
open Go.RowKit
set_option linter.unusedVariables false

set_option maxHeartbeats 2000000 in
theorem ref15_Digits (a : Option Addr) (len cap : Nat) (xs : List Int) (w : World) (hr : Reads .u8 w a len cap xs) (hN : len < 10000000) :
    Calls Try.prog 30 #[.slice a len cap] w fun e w' => ∃ v, e = .returned (.tuple #[v, .int .i64 (strQ xs)]) ∧ Own .u8 5 w.heap.size w' v (digL xs) ∧ Below w.heap.size w w' := by
  have HR := hid hr
  have hsz := hr.size
  clear hr
  go_enter Try.func30, Try.ntmps30
  go_wp2
  go_loopw [4, 5, 6] (fun v s i wr => ∃ k m : Nat, k ≤ len ∧ i = .int .i64 k ∧ s = .int .i64 m ∧ m ≤ k ∧ Hid ((xs.take k).all noEq = true) ∧ Hid (m = ((xs.take k).filter (fun c => !isDig c)).length) ∧ Own .u8 5 w.heap.size wr v ((xs.take k).filter isDig) ∧ Below w.heap.size w wr) (fun _ _ i _ => len - (intOf i).toNat)
  case atStart => exact ⟨0, 0, Nat.zero_le _, rfl, rfl, Nat.le_refl _, rfl, rfl, Own.nil _ _ _ _, Below.refl _ _⟩
  case round =>
    obtain ⟨k, m, hk, rfl, rfl, hm, hn, hq, hown', hbel'⟩ := hrel
    have hfl : ((xs.take k).filter isDig).length ≤ k := Nat.le_trans (List.length_filter_le _ _) (by rw [List.length_take]; omega)
    by_cases hlt : k < len
    · obtain ⟨b, off, x, rfl, _, hc, h0, h1, hx⟩ := (HR.out.below hbel').get8 hlt
      by_cases hx6 : x = 61
      · have e : Hid (cutEq xs = xs.take k) := cut_at hn.out (.inr ⟨x, hx.out.1, by rw [hx6]; decide⟩)
        have hb : (x != 61) = false := by simpa using hx6
        clear hx6
        go_wp2_with fail
        go_ret2
        exact ⟨_, by unfold strQ; rw [e.out, ← hq.out]; rfl, by unfold digL; rw [e.out]; exact hown', hbel'⟩
      · have hE := hid (all_yes hx.out.2 hn.out (decide_eq_true hx6))
        have hb : (x != 61) = true := by simpa using hx6
        clear hx6
        cases hd : isDig x
        · have HD := hid hd
          have hV := ref14_Value x wr h0 h1
          rw [hd] at hV
          have HV := hid hV
          have e1 : Hid ((xs.take (k + 1)).filter isDig = (xs.take k).filter isDig) := by unfold Hid; rw [hx.out.2, List.filter_append]; simp [hd]
          have e2 : Hid (m + 1 = ((xs.take (k + 1)).filter (fun c => !isDig c)).length) := by unfold Hid; rw [hx.out.2, List.filter_append, List.length_append, ← hq.out]; simp [hd]
          clear hV hd
          go_wp2_with (go_at_call 40; (with_reducible refine HV.out.mono ?_); rintro e w4 ⟨rfl, rfl⟩)
          rw [← e1.out] at hown'
          go_roundw
          case rel => exact ⟨k + 1, m + 1, by omega, by go_num, by go_num, by omega, hE, e2, hown', hbel'⟩
          case measure => simp [intOf]; omega
        · have HD := hid hd
          have hV := ref14_Value x wr h0 h1
          rw [hd] at hV
          have HV := hid hV
          have e1 : Hid ((xs.take k).filter isDig ++ [x] = (xs.take (k + 1)).filter isDig) := by unfold Hid; rw [hx.out.2, List.filter_append]; simp [hd]
          have e2 : Hid (m = ((xs.take (k + 1)).filter (fun c => !isDig c)).length) := by unfold Hid; rw [hx.out.2, List.filter_append, List.length_append, ← hq.out]; simp [hd]
          clear hV hd
          go_wp2_with (first
            | (go_at_call 40; (with_reducible refine HV.out.mono ?_); rintro e w4 ⟨rfl, rfl⟩)
            | (at_builtin; go_must (refine wpList_push ST8 rfl _ _ rfl rfl ⟨_, rfl⟩ hown' hbel' (by omega) (mk_u8 h0 h1) ?_); intro v' w' ho2 hb3))
          rw [e1.out] at ho2
          clear hown' hbel'
          go_wp2_with fail
          go_roundw
          case rel => exact ⟨k + 1, m, by omega, by go_num, rfl, by omega, hE, e2, ho2, hb3⟩
          case measure => simp [intOf]; omega
    · have e : Hid (cutEq xs = xs.take k) := cut_at hn.out (.inl (by omega))
      go_wp2_with fail
      go_ret2
      exact ⟨_, by unfold strQ; rw [e.out, ← hq.out]; rfl, by unfold digL; rw [e.out]; exact hown', hbel'⟩
set_option maxHeartbeats 2000000 in
theorem ref15_Read (a : Option Addr) (len cap : Nat) (xs : List Int) (w : World) (hr : Reads .u8 w a len cap xs) (hN : len < 10000000) :
    Calls Try.prog 19 #[.slice a len cap] w fun e w' => ∃ v, e = .returned (.tuple #[v, .int .i64 (drpN xs)]) ∧ Own .u8 5 w.heap.size w' v (looL xs) ∧ Below w.heap.size w w' := by
  have HR := hid hr
  have hsz := hr.size
  clear hr
  have hdl := digL_le xs
  have hrd := hid (rd_bits _ (digL_v6 xs))
  have hvl : Hid (valsL (digL xs) = bits6 ((digL xs).map valI)) := by unfold Hid valsL; rw [if_pos (digL_dig xs)]
  have HDD := hid (digL_dig xs)
  have hlen : (bits6 ((digL xs).map valI)).length = 6 * (digL xs).length := by rw [bits6_len, List.length_map]
  have HO1 : Hid (∀ b ∈ bits6 ((digL xs).map valI), b = 0 ∨ b = 1) := by
    intro b hb
    unfold bits6 bit6 at hb
    rw [List.mem_flatMap] at hb
    obtain ⟨x, _, hb⟩ := hb
    simp only [List.mem_cons, List.not_mem_nil, or_false] at hb
    omega
  obtain ⟨n, hn⟩ : ∃ n, n = (digL xs).length := ⟨_, rfl⟩
  have HDr : Hid (drpN xs = 6 * n % 8) := by unfold Hid drpN; rw [hn]
  rw [← hn] at hdl hlen
  have HN := hid hn
  clear hn
  go_enter Try.func19, Try.ntmps19
  go_wp2_with (first
    | (go_at_call 30; (with_reducible refine (ref15_Digits _ _ _ _ _ HR.out (by omega)).mono ?_); rintro e w1 ⟨v1, rfl, ho1, hb1⟩; obtain ⟨a1, c1, rfl, hr1⟩ := ho1.reads; rw [← HN.out] at hr1; have hV := ref14_Values a1 n c1 _ w1 hr1 (by omega); rw [HDD.out, hvl.out] at hV; rw [← HN.out]; have HV := hid hV; clear hV)
    | (go_at_call 28; (with_reducible refine HV.out.mono ?_); rintro e w2 ⟨v2, rfl, ho2, hb2⟩; obtain ⟨a2, c2, rfl, hr2⟩ := ho2.reads; rw [hlen] at hr2; have hq := ref14_Octets a2 (6 * n) c2 _ w2 hr2 HO1.out (by omega); rw [hrd.out.1] at hq; rw [hlen]; have HQ := hid hq; have hb2' := below_then hb1 hb2; clear hq)
    | (go_at_call 29; (with_reducible refine HQ.out.mono ?_); rintro e w3 ⟨v3, rfl, ho3, hb3⟩; have hb3' := below_then hb2' hb3))
  go_ret2
  exact ⟨_, by rw [HDr.out]; rfl, own_mono ho3 hb2'.size, hb3'⟩
end Go.Proofs.Ytkfmalajapojhaa
