/-
  Contracts of package units' functions: units of octets.
-/
import Derived.Test.YteihhadcmmdidaaC06b
namespace Go.Proofs.Yteihhadcmmdidaa
open Go.RowKit
set_option linter.unusedVariables false

theorem units_FromOctetsNo (a : Option Addr) (len cap : Nat) (w : World) (hl : len ≤ 9223372036854775807) (ho : len % 2 = 1) :
    Calls Try.prog 22 #[.slice a len cap] w fun e w' => e = .returned (.tuple #[.slice none 0 0, .int .i64 4]) ∧ w = w' := by
  have hmod : ((len : Int) % 2 != 0) = true := by simp; omega
  go_enter Try.func22, Try.ntmps22
  go_wp2
  go_ret2
  exact ⟨rfl, rfl⟩
set_option maxHeartbeats 2000000 in
theorem units_FromOctets (a : Option Addr) (len cap : Nat) (xs : List Int) (w : World) (hr : Reads .u8 w a len cap xs) (hN : len < 10000000000) (he : len % 2 = 0) :
    Calls Try.prog 22 #[.slice a len cap] w fun e w' => ∃ a' cap', e = .returned (.tuple #[.slice a' (prU xs).length cap', .int .i64 0]) ∧ Reads .u16 w' a' (prU xs).length cap' (prU xs) ∧ Below w.heap.size w w' := by
  have HR := hid hr
  have hsz := hr.size
  have hmod : ((len : Int) % 2 != 0) = false := by simp; omega
  obtain ⟨n, hn⟩ : ∃ n, n = len / 2 := ⟨_, rfl⟩
  have hdiv : (len : Int) / 2 = (n : Int) := by omega
  have hnl : n ≤ len := by omega
  clear hn
  have hpl := prU_len xs
  clear hr
  go_enter Try.func22, Try.ntmps22
  go_wp2_with (at_make; (refine wpList_make0 (n := n) CT16 rfl _ _ rfl rfl rfl (Below.refl _ _) (by omega) ?_); intro v1 w1 ho1 hb1)
  clear hdiv hmod
  go_loopw [4, 5] (fun v i wr => ∃ (k : Nat) (pre : List Int), k ≤ len ∧ k % 2 = 0 ∧ i = .int .i64 k ∧ Hid (pre ++ prU (xs.drop k) = prU xs) ∧ Own .u16 38 w.heap.size wr v pre ∧ Below w.heap.size w wr) (fun _ i _ => len - (intOf i).toNat)
  case atStart => exact ⟨0, [], Nat.zero_le _, rfl, rfl, rfl, ho1, hb1⟩
  case round =>
    obtain ⟨k, pre, hk, hk2, rfl, hps, hown', hbel'⟩ := hrel
    by_cases hlt : k < len
    · obtain ⟨b, off, x, rfl, hbl, hc, h0, h1, hx⟩ := (HR.out.below hbel').get8 hlt
      obtain ⟨b', off', y, hb, _, hc2, h02, h12, hy⟩ := (HR.out.below hbel').get8 (i := k + 1) (by omega)
      cases hb
      have hprl : pre.length + 1 < 1000000000000 := by
        have := congrArg List.length hps.out
        simp [hpl, hsz] at this; omega
      have hnext : Hid (pre ++ [256 * x + y] ++ prU (xs.drop (k + 2)) = prU xs) := by
        rw [Hid, ← hps.out, prU_step hx.out.1 hy.out.1, List.append_assoc]; rfl
      have hwf : Hid (∀ z ∈ [256 * x + y], (Lit.int .u16 z).wf = true) := by intro z hz; simp at hz; subst hz; exact mk_u16 (by omega) (by omega)
      have o1 : bits .or .u16 (x * 256) y = 256 * x + y := by rw [or_u16 8 _ _ (by omega) (by omega) (by omega) (by omega) (by omega)]; omega
      have g1 : IntKind.i64.wrap ((k : Int) + 1) = (k : Int) + 1 := IntWalk.i64_in _ (by omega)
      have g2 : IntKind.u16.wrap (x * 256) = x * 256 := IntWalk.u16_in _ (by omega)
      have g3 : IntKind.u16.wrap x = x := IntWalk.u16_in _ (by omega)
      have g4 : IntKind.u16.wrap y = y := IntWalk.u16_in _ (by omega)
      have p2 : 0 ≤ (k : Int) + 1 := by omega
      have q2 : (k : Int) + 1 < len := by omega
      have t2 : ((k : Int) + 1).toNat = k + 1 := by omega
      clear hps
      go_wp2_with fail
      go_region_law (first
        | (refine step_pushs (w0 := w) (wr := wr.drew) CT16 [256 * x + y] rfl (.tmp 20) (.tmp 34) rfl rfl ⟨_, rfl⟩ (Nat.zero_lt_succ _) hown'.drew' (below_drew hbel') hprl hwf.out ?_; intro v3 w3 ho3 hb3))
      all_goals
        clear hown' hbel' g1 g2 g3 g4 p2 q2 t2 hc hc2 o1
        go_wp2_with fail
        go_roundw
        case rel => exact ⟨k + 2, _, by omega, by omega, by go_num, hnext, ho3, hb3⟩
        case measure => simp [intOf]; omega
    · go_wp2_with fail
      have hend : pre = prU xs := by
        have := hps.out
        rwa [List.drop_of_length_le (by omega), show prU [] = [] from rfl, List.append_nil] at this
      subst hend
      obtain ⟨a', cap', rfl, hrd⟩ := hown'.reads
      go_ret2
      exact ⟨a', cap', rfl, hrd, hbel'⟩
end Go.Proofs.Yteihhadcmmdidaa
