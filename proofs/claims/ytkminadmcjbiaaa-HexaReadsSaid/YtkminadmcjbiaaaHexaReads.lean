/-
  Proved: for every []byte s (nil, empty, of any length and capacity), in whatever memory and on every schedule, sheavelaw02.HexaReads(s) returns true, without a panic or a race, and its argument reads as before. No condition.
-/
import Derived.Test.YtkminadmcjbiaaaRows
import Derived.Test.YtkminadmcjbiaaaAlive02
import Derived.Test.YtkminadmcjbiaaaR02b
import Derived.WalkKit
import Derived.ProofKit
import Derived.OpenShut
import Derived.ShutString
import Derived.ChangeOld
import Derived.Below
namespace Go.Proofs.Ytkminadmcjbiaaa.hexaReads
open Go.ChangeShapes Go.WideShapes Go.ChangeAt Go.RowKit
open Go.ChangeMaps (open_string shut_string)
set_option linter.unusedVariables false

theorem own : ownKnob Try.prog.godebug = none := by kernel_rfl
theorem laidOut : laidOutB Try.prog = true := by kernel_rfl
theorem like_eq (a : Option Addr) (len cap : Nat) (a2 : Option Addr) (len2 cap2 : Nat) (xs : List Int) (w : World) (hr : Reads .u8 w a len cap xs) (hr2 : Reads .u8 w a2 len2 cap2 xs) :
    Calls Try.prog 15 #[.slice a len cap, .slice a2 len2 cap2] w fun e w' => e = .returned (.bool true) ∧ ∃ n, w' = w.drewN n := by
  have := like_r a len cap xs a2 len2 cap2 xs w hr hr2
  rwa [decide_eq_true rfl] at this
theorem not_cap {x : Int} (h : 97 ≤ x) (h2 : x ≤ 102) : capB x = false := by unfold capB; simp [h, h2]
theorem yes_cap {x : Int} (h : ¬ (97 ≤ x ∧ x ≤ 102)) : capB x = true := by unfold capB; simp; omega
theorem sm_yes {xs : List Int} {k : Nat} {x : Int} {b : Bool} (h : xs.take (k + 1) = xs.take k ++ [x]) (hn : b = !(xs.take k).all capB) (hf : capB x = true) : b = !(xs.take (k + 1)).all capB := by
  rw [h, List.all_append, hn]; simp [hf]
theorem sm_no {xs : List Int} {k : Nat} {x : Int} (h : xs.take (k + 1) = xs.take k ++ [x]) (hf : capB x = false) : true = !(xs.take (k + 1)).all capB := by
  rw [h, List.all_append]; simp [hf]
theorem sm_keep {xs : List Int} {k : Nat} {x : Int} (h : xs.take (k + 1) = xs.take k ++ [x]) (hn : true = !(xs.take k).all capB) : true = !(xs.take (k + 1)).all capB := by
  rw [h, List.all_append]; simp at hn ⊢; exact .inl hn
theorem cap_small (a : Option Addr) (len cap : Nat) (xs : List Int) (sm : Bool) (w : World) (hr : Reads .u8 w a len cap xs) (hs : sm = !xs.all capB) :
    Calls Try.prog 21 #[.slice a len cap] w fun e w' => e = .returned (.bool (!sm)) ∧ w = w' := by
  have := capital_c a len cap xs w hr
  rwa [show xs.all capB = !sm by rw [hs]; simp] at this
set_option maxHeartbeats 4000000 in
set_option maxRecDepth 100000 in
theorem walk (a0 : Option Addr) (len0 cap0 : Nat) (xs0 : List Int) (w : World) (r0 : Reads .u8 w a0 len0 cap0 xs0) :
    Calls Try.prog 5 #[.slice a0 len0 cap0] w fun e w' => e = .returned (.bool true) ∧ Below w.heap.size w w' := by
  by_cases hN : len0 ≤ 1000
  · have R := hid r0
    clear r0
    go_enter Try.func5, Try.ntmps5
    go_wp2_with (first
      | (go_at_call 17; (with_reducible refine (reads_c _ _ _ _ _ R.out (by omega)).mono ?_); rintro e w1 ⟨b1, l1, c1, rfl, hr1, hb1⟩)
      | (go_at_call 18; (with_reducible refine (read_r _ _ _ _ _ (R.out.below hb1) (by omega)).mono ?_); rintro e w2 ⟨b2, l2, c2, rfl, hr2, hb2⟩; have hr1' := hr1.below hb2; have hb2' := below_then hb1 hb2; have R2 := hid (R.out.below hb2'); clear hr1 hb1 hb2))
    obtain ⟨ee, hee⟩ : ∃ ee, readE xs0 = ee := ⟨_, rfl⟩
    rw [hee]
    have HEE := hid hee
    clear hee
    go_loop [7, 26] (fun sm i => ∃ (b : Bool) (k : Nat), k ≤ len0 ∧ i = .int .i64 k ∧ sm = .bool b ∧ Hid (b = !(xs0.take k).all capB)) (fun _ i => len0 - (intOf i).toNat)
    case atStart => exact ⟨false, 0, Nat.zero_le _, rfl, rfl, by simp [Hid]⟩
    case round =>
      obtain ⟨b, k, hk, rfl, rfl, hn⟩ := hrel
      by_cases hlt : k < len0
      · obtain ⟨bb, off, x, rfl, _, hc, h0, h1, hx⟩ := R2.out.get8 hlt
        by_cases hcx : 97 ≤ x ∧ x ≤ 102
        · obtain ⟨hc1, hc2⟩ := hcx
          have hnc := hid (not_cap hc1 hc2)
          cases b
          all_goals
            go_wp2_with fail
            go_round
            case rel => exact ⟨true, k + 1, by omega, by go_num, rfl, sm_no hx.out.2 hnc.out⟩
            case measure => simp [intOf]; omega
        · have hnc := hid (yes_cap hcx)
          have hcx' : x < 97 ∨ 102 < x := by omega
          clear hcx
          cases b
          · rcases hcx' with hcx' | hcx'
            · go_wp2_with fail
              go_round
              case rel => exact ⟨false, k + 1, by omega, by go_num, rfl, sm_yes hx.out.2 hn.out hnc.out⟩
              case measure => simp [intOf]; omega
            · have hd := decide_eq_false (show ¬ x ≤ 102 by omega)
              go_wp2_with fail
              go_round
              case rel => exact ⟨false, k + 1, by omega, by go_num, rfl, sm_yes hx.out.2 hn.out hnc.out⟩
              case measure => simp [intOf]; omega
          · clear hcx'
            go_wp2_with fail
            go_round
            case rel => exact ⟨true, k + 1, by omega, by go_num, rfl, sm_keep hx.out.2 hn.out⟩
            case measure => simp [intOf]; omega
      · have hS : Hid (b = !xs0.all capB) := by have := hn.out; rwa [R2.out.all (show len0 ≤ k by omega)] at this
        clear hn
        go_wp2_with (first
          | (go_at_call 19; (with_reducible refine (lay_c _ _ _ _ _ R2.out (by omega)).mono ?_); rintro e w3 ⟨b3, l3, c3, rfl, hr3, hb3⟩; have hb3' := below_then hb2' hb3)
          | (go_at_call 20; (with_reducible refine (lay_r _ _ _ _ _ (R2.out.below hb3) (by omega)).mono ?_); rintro e w4 ⟨b4, l4, c4, rfl, hr4, hb4⟩; have hr3' := hr3.below hb4; have hb4' := below_then hb3' hb4; have hr14 := (hr1'.below hb3).below hb4; have hr24 := (hr2.below hb3).below hb4; have R4 := R.out.below hb4')
          | (go_at_call 15; (with_reducible refine (like_eq _ _ _ _ _ _ _ _ hr3' hr4).mono ?_); rintro e w5 ⟨rfl, n5, rfl⟩; have hb5 := Below.drewN hb4' n5; have hr15 := hr14.below (Below.drewN (Below.refl _ _) n5); have hr25 := hr24.below (Below.drewN (Below.refl _ _) n5))
          | (go_at_call 15; (with_reducible refine (like_eq _ _ _ _ _ _ _ _ hr15 hr25).mono ?_); rintro e w6 ⟨rfl, n6, rfl⟩; have hb6 := Below.drewN hb4' (n5 + n6); have R6 := R.out.below hb6)
          | (go_at_call 21; (with_reducible refine (cap_small _ _ _ _ _ _ R6 hS.out).mono ?_); rintro e w' ⟨rfl, rfl⟩)
          | (go_at_call 11; (with_reducible refine (alive_any _).mono ?_); rintro e w' ⟨rfl, hb⟩))
        go_ret
        exact ⟨rfl, below_then hb6 hb⟩
  · have hN' : 1000 < len0 := by omega
    go_enter Try.func5, Try.ntmps5
    go_wp2_with (go_at_call 11; (with_reducible refine (alive_any _).mono ?_); rintro e w' ⟨rfl, hb⟩)
    go_ret
    exact ⟨rfl, hb⟩

set_option maxRecDepth 100000 in
theorem lifted (os : Os) (started : os.Started) (H : Type) (enc : TypeId × Value → H) :
    ReturnsInHanded {} Try.checked os 5 .any (Rows.hexaReadsSpec.pre6 enc Try.prog Try.f5 Rows.hexaReadsRow.domain false) (Rows.hexaReadsSpec.post enc Try.prog Try.f5 false true false false) := by
  refine returnsInHanded_of_change (C := Try.checked) own started (by kernel_rfl) Try.func5
    (ChangeSpec.witness6 (enc := enc) (C := Try.checked) false ⟨#[], #[.slice none 0 0], []⟩ 8 (by kernel_rfl) (by kernel_rfl) (by kernel_rfl) (by kernel_rfl)) ?_
  intro W base args ds gs before hval0 hW hcnd _
  have hval : ∀ (j : Nat) t v, Try.f5.params[j]? = some t → args[j]? = some v → Value.okWide Try.prog W .any base t v := hval0
  have hW' := hW
  obtain ⟨p, q, hA0, hV, rfl, hfz, hnd⟩ := hW
  have hA : DataW.TrodAll enc Try.prog W 0 (fun _ => true) true Try.f5.params.toList args.toList ds p := hA0
  rw [Try.params5] at hA hval
  obtain ⟨v0, vs0, d0, ds0, p0, q0, hargs, rfl, rfl, h0, r_0⟩ := trodAll_cons hA
  obtain ⟨rfl, rfl, rfl⟩ := trodAll_nil r_0
  obtain rfl : args = #[v0] := by cases args; simp_all
  obtain ⟨rfl, rfl⟩ := trodVars_none hV
  obtain ⟨a0, len0, cap0, rfl⟩ := okWide_slice Try.underlying27 (hval 0 27 v0 rfl rfl)
  have k0 := h0
  have lt0 : ∀ x ∈ p0, x.block < W.heap.size := by obtain ⟨m, hm⟩ := k0; exact DataW.trod_lt m _ _ _ hm
  obtain ⟨xs0, r0⟩ : ∃ xs, Reads .u8 W a0 len0 cap0 xs := by
    obtain ⟨fuel, hf⟩ := h0
    rcases open_ints Try.underlying27 Try.underlying5 (by kernel_rfl) hf with ⟨hcs, _⟩ | ⟨x, l, c, zs, hcs, _, hl, hm, hz, _, hcell, hwz⟩
    · simp [Value.cells] at hcs
      obtain ⟨rfl, rfl, rfl⟩ := hcs
      exact ⟨[], Reads.nil _ _ _ _ (Nat.zero_le _)⟩
    · simp [Value.cells] at hcs
      obtain ⟨rfl, rfl, rfl⟩ := hcs
      exact ⟨_, reads_of_ints hl hm (by simpa using hz) hcell hwz⟩
  clear hA0 hval0
  refine (walk a0 len0 cap0 xs0 W r0).mono fun e W' ⟨he, bel⟩ => ?_
  subst he
  exact ⟨_, rfl, _, _, _, [], _, [], hW', trodAll_mk1 (shut_bool Try.underlying4 _), (trodAll_cons_mk (Below.trod laidOut (by kernel_rfl) (of_decide_eq_true (by kernel_rfl)) k0 bel lt0) trodAll_mk0), rfl, bel.frame _, fun h => by cases h⟩

theorem over : Rows.hexaReadsRow.holds Try.pinned (OpenSpec.ofChange Rows.hexaReadsSpec) :=
  OpenClaim.holds_of_wide 5 Try.f5 rfl rfl rfl rfl rfl rfl rfl ⟨rfl, rfl, rfl, rfl, rfl⟩ rfl rfl rfl rfl rfl (by kernel_rfl) Try.func5 (by kernel_rfl)
    (of_decide_eq_true (by kernel_rfl)) (by unfold Func.isWrapper; first | (rw [if_pos (by decide +kernel)]; kernel_rfl) | (rw [if_neg (by decide +kernel)]; exact ⟨rfl, rfl⟩))
    (fun os started H enc _ => lifted os started H enc)

end Go.Proofs.Ytkminadmcjbiaaa.hexaReads
namespace Go.Proofs.Ytkminadmcjbiaaa
theorem hexaReads_holds : Rows.HexaReadsSaid := hexaReads.over
#print axioms hexaReads_holds
end Go.Proofs.Ytkminadmcjbiaaa
