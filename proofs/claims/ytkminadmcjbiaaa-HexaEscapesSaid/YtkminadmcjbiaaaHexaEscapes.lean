/-
  Proved: for every []byte s (nil, empty, of any length and capacity), every int 'at' and every [2]byte x, in whatever memory and on every schedule, sheavelaw02.HexaEscapes(s, at, x) returns true, without a panic or a race, and its arguments read as before. No condition.
-/
import Derived.Test.YtkminadmcjbiaaaRows
import Derived.Test.YtkminadmcjbiaaaAlive02
import Derived.Test.YtkminadmcjbiaaaR02b
import Derived.Test.YtkminadmcjbiaaaArr
import Derived.WalkKit
import Derived.ProofKit
import Derived.OpenShut
import Derived.ShutString
import Derived.ChangeOld
import Derived.Below
namespace Go.Proofs.Ytkminadmcjbiaaa.hexaEscapes
open Go.ChangeShapes Go.WideShapes Go.ChangeAt Go.RowKit
open Go.ChangeMaps (open_string shut_string)
set_option linter.unusedVariables false

theorem own : ownKnob Try.prog.godebug = none := by kernel_rfl
theorem laidOut : laidOutB Try.prog = true := by kernel_rfl
theorem like_eq (a : Option Addr) (len cap : Nat) (a2 : Option Addr) (len2 cap2 : Nat) (xs : List Int) (w : World) (hr : Reads .u8 w a len cap xs) (hr2 : Reads .u8 w a2 len2 cap2 xs) :
    Calls Try.prog 15 #[.slice a len cap, .slice a2 len2 cap2] w fun e w' => e = .returned (.bool true) ∧ ∃ n, w' = w.drewN n := by
  have := like_r a len cap xs a2 len2 cap2 xs w hr hr2
  rwa [decide_eq_true rfl] at this
theorem esc_back (xs : List Int) (s c : Int) (h0 : 0 ≤ c) (h1 : c ≤ 255) : takeV (escI xs s c) (xs.length : Nat) s = c ∧ takeOk (escI xs s c) (xs.length : Nat) s = true := by
  have g0 : (escI xs s c)[xs.length]? = some s := by simp [escI]
  have g1 : (escI xs s c)[xs.length + 1]? = some (digI (c / 16)) := by simp [escI]
  have g2 : (escI xs s c)[xs.length + 2]? = some (digI (c % 16)) := by simp [escI]
  have a1 := hexV_dig (c / 16) (by omega) (by omega)
  have a2 := hexV_dig (c % 16) (by omega) (by omega)
  have T := take_at (s := s) g0 g1 g2
  rw [a1.2, a2.2, a1.1, a2.1] at T
  have e : (s == s && true && true) = true := by simp
  rw [e] at T
  refine ⟨?_, T.1⟩
  rw [T.2, if_pos rfl]; omega
theorem take_back (a : Option Addr) (l cap : Nat) (xs : List Int) (n : Nat) (s c : Int) (w : World) (hr : Reads .u8 w a l cap (escI xs s c)) (hn : xs.length = n) (hb : n ≤ 1000) (h0 : 0 ≤ c) (h1 : c ≤ 255) :
    Calls Try.prog 12 #[.slice a l cap, .int .i64 n, .int .u8 s] w fun e w' => e = .returned (.tuple #[.int .u8 c, .bool true]) ∧ ∃ m, w' = w.drewN m := by
  have := take_c a l cap _ n s w hr (WalkArith.wf_i64 (by omega))
  subst hn
  have hh := esc_back xs s c h0 h1
  rwa [hh.1, hh.2] at this
set_option maxHeartbeats 4000000 in
set_option maxRecDepth 100000 in
theorem walk (a0 : Option Addr) (len0 cap0 : Nat) (xs0 : List Int) (a1 : Int) (a2_0 a2_1 : Int) (w : World) (r0 : Reads .u8 w a0 len0 cap0 xs0) (w1 : (Lit.int .i64 a1).wf = true) (w2_0 : (Lit.int .u8 a2_0).wf = true) (w2_1 : (Lit.int .u8 a2_1).wf = true) :
    Calls Try.prog 4 #[.slice a0 len0 cap0, .int .i64 a1, .agg #[.int .u8 a2_0, .int .u8 a2_1]] w fun e w' => e = .returned (.bool true) ∧ Below w.heap.size w w' := by
  have hx := wf_u8 w2_0
  have hy := wf_u8 w2_1
  by_cases hN : len0 ≤ 1000
  · have R := hid r0
    have HS := hid r0.size
    clear r0
    go_enter Try.func4, Try.ntmps4
    go_wp2_with fail
    have hb0 : Below w.heap.size w (w.alloc (.cells #[.int .u8 a2_0, .int .u8 a2_1] 28)) := (Below.refl _ _).alloc (Nat.le_refl _) _
    go_quiet (fail)
    generalize hwq : World.drewN (w.alloc (.cells #[.int .u8 a2_0, .int .u8 a2_1] 28)) _ = wq
    have hb1 : Below w.heap.size w wq := by rw [← hwq]; exact Below.drewN hb0 _
    clear hwq hb0
    go_wp2_with (first
      | (go_at_call 12; (with_reducible refine (take_c _ _ _ _ _ _ _ (R.out.below hb1) w1).mono ?_); rintro e w2 ⟨rfl, n2, rfl⟩; have hb2 := Below.drewN hb1 n2)
      | (go_at_call 13; (with_reducible refine (take_r _ _ _ _ _ _ _ (R.out.below hb2) w1).mono ?_); rintro e w' ⟨rfl, rfl⟩)
      | (go_at_call 14; (with_reducible refine (put_c _ _ _ _ _ _ _ (R.out.below hb2) (by omega) hy.1 hy.2 w2_0).mono ?_); rintro e w3 ⟨b3, l3, c3, rfl, hr3, hb3⟩; have hb3' := below_then' hb2 hb3 (by simp))
      | (go_at_call 12; go_must (refine (take_back _ _ _ _ _ _ _ _ hr3 HS.out (by omega) hy.1 hy.2).mono ?_); rintro e w4 ⟨rfl, n4, rfl⟩; have hb4 := Below.drewN hb3' n4; have hr4 := hr3.below (Below.drewN (Below.refl _ _) n4))
      | (go_at_call 16; (with_reducible refine (put_r _ _ _ _ _ _ _ (R.out.below hb4) (by omega) hy.1 hy.2 w2_0).mono ?_); rintro e w5 ⟨b5, l5, c5, rfl, hr5, hb5⟩; have hb5' := below_then' hb4 hb5 (by simp); have hr45 := hr4.below hb5)
      | (go_at_call 15; (with_reducible refine (like_eq _ _ _ _ _ _ _ _ hr45 hr5).mono ?_); rintro e w6 ⟨rfl, n6, rfl⟩)
      | (go_at_call 11; (with_reducible refine (alive_any _).mono ?_); rintro e w' ⟨rfl, hb⟩))
    go_ret
    exact ⟨rfl, below_then (Below.drewN hb5' n6) hb⟩
  · have hN' : 1000 < len0 := by omega
    go_enter Try.func4, Try.ntmps4
    go_wp2_with fail
    have hb0 : Below w.heap.size w (w.alloc (.cells #[.int .u8 a2_0, .int .u8 a2_1] 28)) := (Below.refl _ _).alloc (Nat.le_refl _) _
    go_quiet (fail)
    go_wp2_with (go_at_call 11; (with_reducible refine (alive_any _).mono ?_); rintro e w' ⟨rfl, hb⟩)
    go_ret
    exact ⟨rfl, below_then (Below.drewN hb0 _) hb⟩

set_option maxRecDepth 100000 in
theorem lifted (os : Os) (started : os.Started) (H : Type) (enc : TypeId × Value → H) :
    ReturnsInHanded {} Try.checked os 4 .any (Rows.hexaEscapesSpec.pre6 enc Try.prog Try.f4 Rows.hexaEscapesRow.domain false) (Rows.hexaEscapesSpec.post enc Try.prog Try.f4 false true false false) := by
  refine returnsInHanded_of_change (C := Try.checked) own started (by kernel_rfl) Try.func4
    (ChangeSpec.witness6 (enc := enc) (C := Try.checked) false ⟨#[], #[.slice none 0 0, .int .i64 0, .agg #[.int .u8 0, .int .u8 0]], []⟩ 8 (by kernel_rfl) (by kernel_rfl) (by kernel_rfl) (by kernel_rfl)) ?_
  intro W base args ds gs before hval0 hW hcnd _
  have hval : ∀ (j : Nat) t v, Try.f4.params[j]? = some t → args[j]? = some v → Value.okWide Try.prog W .any base t v := hval0
  have hW' := hW
  obtain ⟨p, q, hA0, hV, rfl, hfz, hnd⟩ := hW
  have hA : DataW.TrodAll enc Try.prog W 0 (fun _ => true) true Try.f4.params.toList args.toList ds p := hA0
  rw [Try.params4] at hA hval
  obtain ⟨v0, vs0, d0, ds0, p0, q0, hargs, rfl, rfl, h0, r_0⟩ := trodAll_cons hA
  obtain ⟨v1, vs1, d1, ds1, p1, q1, rfl, rfl, rfl, h1, r_1⟩ := trodAll_cons r_0
  obtain ⟨v2, vs2, d2, ds2, p2, q2, rfl, rfl, rfl, h2, r_2⟩ := trodAll_cons r_1
  obtain ⟨rfl, rfl, rfl⟩ := trodAll_nil r_2
  obtain rfl : args = #[v0, v1, v2] := by cases args; simp_all
  obtain ⟨rfl, rfl⟩ := trodVars_none hV
  obtain ⟨a0, len0, cap0, rfl⟩ := okWide_slice Try.underlying27 (hval 0 27 v0 rfl rfl)
  have k0 := h0
  have lt0 : ∀ x ∈ p0, x.block < W.heap.size := by obtain ⟨m, hm⟩ := k0; exact DataW.trod_lt m _ _ _ hm
  obtain ⟨xs0, r0⟩ : ∃ xs, Reads .u8 W a0 len0 cap0 xs := by
    obtain ⟨fuel, hf⟩ := h0
    rcases open_ints Try.underlying27 Try.underlying5 (by kernel_rfl) hf with ⟨hcs, _⟩ | ⟨x, l, c, zs, hcs, _, hl, hm, hz, _, hcell, hwz⟩
    · simp [Value.cells] at hcs
      obtain ⟨rfl, rfl, rfl⟩ := hcs
      exact ⟨[], Reads.nil _ _ _ _ (Nat.zero_le _)⟩
    · simp [Value.cells] at hcs
      obtain ⟨rfl, rfl, rfl⟩ := hcs
      exact ⟨_, reads_of_ints hl hm (by simpa using hz) hcell hwz⟩
  obtain ⟨a1, rfl, rfl, rfl, w1⟩ := open_int Try.underlying3 (hval 1 3 v1 rfl rfl) h1
  have k2 := h2
  have lt2 : ∀ x ∈ p2, x.block < W.heap.size := by obtain ⟨m, hm⟩ := k2; exact DataW.trod_lt m _ _ _ hm
  obtain ⟨a2_0, a2_1, rfl, w2_0, w2_1⟩ := open_arr2 Try.underlying28 Try.underlying5 (by kernel_rfl) (by kernel_rfl) (hval 2 28 v2 rfl rfl) h2
  clear hA0 hval0
  refine (walk a0 len0 cap0 xs0 a1 a2_0 a2_1 W r0 w1 w2_0 w2_1).mono fun e W' ⟨he, bel⟩ => ?_
  subst he
  exact ⟨_, rfl, _, _, _, [], _, [], hW', trodAll_mk1 (shut_bool Try.underlying4 _), (trodAll_cons_mk (Below.trod laidOut (by kernel_rfl) (of_decide_eq_true (by kernel_rfl)) k0 bel lt0) (trodAll_cons_mk (shut_int Try.underlying3 w1) (trodAll_cons_mk (Below.trod laidOut (by kernel_rfl) (of_decide_eq_true (by kernel_rfl)) k2 bel lt2) trodAll_mk0))), rfl, bel.frame _, fun h => by cases h⟩

theorem over : Rows.hexaEscapesRow.holds Try.pinned (OpenSpec.ofChange Rows.hexaEscapesSpec) :=
  OpenClaim.holds_of_wide 4 Try.f4 rfl rfl rfl rfl rfl rfl rfl ⟨rfl, rfl, rfl, rfl, rfl⟩ rfl rfl rfl rfl rfl (by kernel_rfl) Try.func4 (by kernel_rfl)
    (of_decide_eq_true (by kernel_rfl)) (by unfold Func.isWrapper; first | (rw [if_pos (by decide +kernel)]; kernel_rfl) | (rw [if_neg (by decide +kernel)]; exact ⟨rfl, rfl⟩))
    (fun os started H enc _ => lifted os started H enc)

end Go.Proofs.Ytkminadmcjbiaaa.hexaEscapes
namespace Go.Proofs.Ytkminadmcjbiaaa
theorem hexaEscapes_holds : Rows.HexaEscapesSaid := hexaEscapes.over
#print axioms hexaEscapes_holds
end Go.Proofs.Ytkminadmcjbiaaa
