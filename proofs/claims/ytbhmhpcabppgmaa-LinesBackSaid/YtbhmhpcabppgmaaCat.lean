/-
  Contracts of the library's functions: slices.Grow of nothing, slices.Concat of rows of octets.
-/
import Derived.Lib.AppendZerosOnto
import Derived.Test.YtbhmhpcabppgmaaRows
import Derived.Test.YtbhmhpcabppgmaaC01
import Derived.Test.YtbhmhpcabppgmaaRws
namespace Go.Proofs.Ytbhmhpcabppgmaa
open Go.RowKit
set_option linter.unusedVariables false

set_option maxHeartbeats 1000000 in
theorem slices_GrowNil (n : Nat) (w : World) (hN : n < 1000000000000) :
    Calls Try.prog 41 #[.slice none 0 0, .int .i64 n] w fun e w' => ∃ v, e = .returned v ∧ Own .u8 5 w.heap.size w' v [] ∧ Below w.heap.size w w' := by
  by_cases h0 : n = 0
  · subst h0
    go_enter Try.func41, Try.ntmps41
    go_wp2
    go_ret
    exact ⟨_, rfl, Own.nil _ _ _ _, Below.refl _ _⟩
  · have hpos : 0 < n := by omega
    obtain ⟨i, hi, hz0, hz1, hz2⟩ := info_parts CT8.info
    have hrz : ∀ ty, (Builtin.append_ #[22, 3] ty #[.slice none 0 0, .int .i64 n]).run Try.prog w =
        .ok (.slice (some ⟨w.heap.size, 0, none⟩) n (grownCap w n 0 5)) (w.drew.alloc (.cells (Builtin.zeroCells (Value.int .u8 0).cells n ++ Builtin.zeroCells (Value.int .u8 0).cells (grownCap w n 0 5 - n)) 5)) := fun ty =>
      Lib.run_append_nil_zeros w 22 3 ty 5 i (.int .u8 0) .i64 .i64 Try.underlying22 Try.underlying3 hi hz0 n hpos (by omega) (by omega) (by rw [hz2]; omega)
    have hGn : n ≤ grownCap w n 0 5 := grownCap_ge w _ _ _
    have hGm : grownCap w n 0 5 ≤ maxLen := grownCap_le_maxLen w n 0 5 (by unfold maxLen; omega)
    obtain ⟨G, hG⟩ : ∃ G, G = grownCap w n 0 5 := ⟨_, rfl⟩
    rw [← hG] at hrz hGn hGm
    have hcs : (Builtin.zeroCells (Value.int .u8 0).cells n ++ Builtin.zeroCells (Value.int .u8 0).cells (G - n)).size = G := by
      simp [Builtin.zeroCells, Value.cells]
      omega
    generalize (Builtin.zeroCells (Value.int .u8 0).cells n ++ Builtin.zeroCells (Value.int .u8 0).cells (G - n)) = C at *
    have HO : Hid (Own .u8 5 w.heap.size (w.drew.alloc (.cells C 5)) (.slice (some ⟨w.heap.size, 0, none⟩) 0 G) []) := by
      refine ⟨⟨by simp, .inr ⟨w.heap.size, G, C, rfl, Nat.le_refl _, heap_alloc_new w.drew _, Nat.zero_le _, hGm, by rw [hcs, Nat.mul_one], by simp⟩⟩, fun x hx => by cases hx⟩
    have HB : Hid (Below w.heap.size w (w.drew.alloc (.cells C 5))) := (below_drew (Below.refl _ _)).alloc (Nat.le_refl _) _
    unfold maxLen at hGm
    clear hG hcs hz0 hz1 hz2 hi
    go_enter Try.func41, Try.ntmps41
    go_wp2_with (at_builtin; refine Lib.wpList_append_run _ rfl _ _ _ _ rfl _ _ rfl rfl _ _ (hrz _) ?_)
    go_ret
    exact ⟨_, rfl, HO.out, HB.out⟩
theorem flat_snoc {l : List (List Int)} {k : Nat} {x : List Int} (h : l.take (k + 1) = l.take k ++ [x]) : (l.take (k + 1)).flatten = (l.take k).flatten ++ x := by rw [h]; simp
theorem flat_take (l : List (List Int)) (k : Nat) : (l.take k).flatten.length ≤ l.flatten.length := by
  have h : l.flatten = (l.take k).flatten ++ (l.drop k).flatten := by rw [← List.flatten_append, List.take_append_drop]
  rw [h, List.length_append]
  omega
set_option maxHeartbeats 2000000 in
theorem slices_Concat (a : Option Addr) (len cap : Nat) (xss : List (List Int)) (w : World) (hr : Rws w a len cap xss) (hN : xss.flatten.length < 100000000) (hM : len < 100000000) :
    Calls Try.prog 32 #[.slice a len cap] w fun e w' => ∃ v, e = .returned v ∧ Own .u8 5 w.heap.size w' v xss.flatten ∧ Below w.heap.size w w' := by
  have HR := hid hr
  have hsz := hr.size
  have HJ := hid (fun k => flat_take xss k)
  clear hr
  go_enter Try.func32, Try.ntmps32
  go_wp2_with fail
  go_loop [3, 11] (fun n i => ∃ k m : Nat, k ≤ len ∧ i = .int .i64 k ∧ n = .int .i64 m ∧ m < 100000000 ∧ Hid (m = (xss.take k).flatten.length)) (fun _ i => len - (intOf i).toNat)
  case atStart => exact ⟨0, 0, Nat.zero_le _, rfl, rfl, by omega, by rw [Hid]; simp⟩
  case round =>
    obtain ⟨k, m, hk, rfl, rfl, hmb, hm⟩ := hrel
    by_cases hlt : k < len
    · obtain ⟨b, off, x, ai, li, ci, rfl, hbw, hc, hx, hg, ht⟩ := HR.out.get hlt
      have hs := congrArg List.length (flat_snoc ht)
      rw [List.length_append, ← hm.out, hx.size] at hs
      have hjk := HJ.out (k + 1)
      rw [hs] at hjk
      have hml : m + li < 100000000 := by omega
      have HS := hid hs.symm
      clear hs hg ht hjk hx hm
      go_wp2_with fail
      go_round
      case rel => exact ⟨k + 1, m + li, by omega, by go_num, by go_num, hml, HS⟩
      case measure => simp [intOf]; omega
    · go_wp2_with (go_at_call 41; (with_reducible refine (slices_GrowNil m w (by omega)).mono ?_); rintro e w1 ⟨v1, rfl, ho1, hb1⟩)
      go_loopw [6, 27] (fun v i wr => ∃ k : Nat, k ≤ len ∧ i = .int .i64 k ∧ Own .u8 5 w.heap.size wr v (xss.take k).flatten ∧ Below w.heap.size w wr) (fun _ i _ => len - (intOf i).toNat)
      case atStart => exact ⟨0, Nat.zero_le _, rfl, ho1, hb1⟩
      case round =>
        clear hk hm hmb
        obtain ⟨k, hk, rfl, hown, hbel⟩ := hrel
        by_cases hlt : k < len
        · obtain ⟨b, off, x, ai, li, ci, rfl, hbw, hc, hx, hg, ht⟩ := (HR.out.below hbel).get hlt
          have hs := flat_snoc ht
          have hjk := HJ.out (k + 1)
          rw [hs, List.length_append, hx.size] at hjk
          have HX := hid hx
          have HS := hid hs
          have HL := hid (show (xss.take k).flatten.length + li < 1000000000000 by omega)
          clear hx hs hg ht hjk
          go_wp2_with (at_builtin; go_must (refine wpList_more CT8 rfl _ _ rfl rfl rfl hown hbel HX.out HL.out ?_); intro v3 w3 ho3 hb3)
          rw [← HS.out] at ho3
          go_roundw
          case rel => exact ⟨k + 1, by omega, by go_num, ho3, hb3⟩
          case measure => simp [intOf]; omega
        · obtain rfl : k = len := by omega
          rw [List.take_of_length_le (by omega)] at hown
          go_wp2_with fail
          go_ret
          exact ⟨_, rfl, hown, hbel⟩
end Go.Proofs.Ytbhmhpcabppgmaa
