/-
  Proved: for every []byte s (nil, empty, of any length and capacity) and every int n, in whatever memory and on every schedule, sheavelaw07.BoundPlaces(s, n) returns true, without a panic or a race, and its arguments read as before. No condition.
-/
import Derived.Test.YtpdlnbomjknhiaaRows
import Derived.Test.YtpdlnbomjknhiaaAlive07
import Derived.Test.YtpdlnbomjknhiaaR07
import Derived.WalkKit
import Derived.ProofKit
import Derived.OpenShut
import Derived.ShutString
import Derived.ChangeOld
import Derived.Below
namespace Go.Proofs.Ytpdlnbomjknhiaa.boundPlaces
open Go.ChangeShapes Go.WideShapes Go.ChangeAt Go.RowKit
open Go.ChangeMaps (open_string shut_string)
set_option linter.unusedVariables false

theorem own : ownKnob Try.prog.godebug = none := by kernel_rfl
theorem laidOut : laidOutB Try.prog = true := by kernel_rfl
theorem placesL (a : Option Addr) (len cap : Nat) (xs : List Int) (w : World) (hr : Reads .u8 w a len cap xs) (hN : len < 100000000) (m : Nat) (hm : (segs xs).length + 1 = m) :
    Calls Try.prog 8 #[.slice a len cap] w fun e w' => ∃ a' cap', e = .returned (.slice a' m cap') ∧ Reads .i64 w' a' m cap' (plc xs) ∧ Below w.heap.size w w' := by
  refine (bound_Places _ _ _ _ _ hr hN).mono ?_
  rintro e w' ⟨g, c', rfl, ho, hb⟩
  subst hm
  exact ⟨_, _, rfl, (places_row ho).1, hb⟩
theorem placesR (a : Option Addr) (len cap : Nat) (xs : List Int) (w : World) (hr : Reads .u8 w a len cap xs) (hN : len < 100000000) (m : Nat) (hm : (segs xs).length + 1 = m) :
    Calls Try.prog 9 #[.slice a len cap] w fun e w' => ∃ a' cap', e = .returned (.slice a' m cap') ∧ Reads .i64 w' a' m cap' (plc xs) ∧ Below w.heap.size w w' := by
  refine (ref07_Places _ _ _ _ _ hr hN).mono ?_
  rintro e w' ⟨a', m', c', rfl, hr', hb⟩
  obtain rfl : m = m' := by rw [← hm, ← plc_len]; exact hr'.size
  exact ⟨a', c', rfl, hr', hb⟩
theorem mem_next {zs : List Int} {k : Nat} {x n : Int} (h : zs.take (k + 1) = zs.take k ++ [x]) : decide (n ∈ zs.take (k + 1)) = (decide (n ∈ zs.take k) || (x == n)) := by
  rw [h, Bool.eq_iff_iff]; simp; constructor <;> (intro h; rcases h with h | h; exact .inl h; exact .inr h.symm)
set_option maxHeartbeats 4000000 in
set_option maxRecDepth 100000 in
theorem walk (a0 : Option Addr) (len0 cap0 : Nat) (xs0 : List Int) (a1 : Int) (w : World) (r0 : Reads .u8 w a0 len0 cap0 xs0) (w1 : (Lit.int .i64 a1).wf = true) :
    Calls Try.prog 3 #[.slice a0 len0 cap0, .int .i64 a1] w fun e w' => e = .returned (.bool true) ∧ Below w.heap.size w w' := by
  by_cases hN : len0 ≤ 300
  · have hse := segs_le xs0
    have hsz := r0.size
    obtain ⟨m, hm⟩ : ∃ m, (segs xs0).length + 1 = m := ⟨_, rfl⟩
    have hml : m ≤ 301 := by omega
    have hPL := fun w (hr : Reads .u8 w a0 len0 cap0 xs0) => placesL a0 len0 cap0 xs0 w hr (by omega) m hm
    have hPR := fun w (hr : Reads .u8 w a0 len0 cap0 xs0) => placesR a0 len0 cap0 xs0 w hr (by omega) m hm
    have R := hid r0
    have HW := hid w1
    clear r0 w1 hm hse
    go_enter Try.func3, Try.ntmps3
    go_wp2_with (first
      | (go_at_call 8; (with_reducible refine (hPL _ R.out).mono ?_); rintro e w2 ⟨a2, c2, rfl, hr2, hb2⟩; have R2 := R.out.below hb2)
      | (go_at_call 9; (with_reducible refine (hPR _ R2).mono ?_); rintro e w3 ⟨a3, c3, rfl, hr3, hb3⟩; have R3 := hid (R2.below hb3); have hb3' := below_then hb2 hb3; have hr2' := hr2.below hb3))
    have H2 := hid hr2'
    have H3 := hid hr3
    clear hr2 hr2' hr3 R2
    go_loop [7, 25] (fun is i => ∃ k : Nat, k ≤ m ∧ i = .int .i64 k ∧ is = .bool (decide (a1 ∈ (plc xs0).take k))) (fun _ i => m - (intOf i).toNat)
    case atStart => exact ⟨0, Nat.zero_le _, rfl, by simp⟩
    case round =>
      obtain ⟨k, hk, rfl, rfl⟩ := hrel
      by_cases hlt : k < m
      · obtain ⟨b2, off2, x, rfl, _, hc2, hx2⟩ := H2.out.getI hlt
        obtain ⟨b3, off3, y, rfl, _, hc3, hx3⟩ := H3.out.getI hlt
        obtain rfl : x = y := by have := hx3.out.1; rw [hx2.out.1] at this; cases this; rfl
        have hnx := hid (mem_next (n := a1) hx2.out.2.1)
        generalize hB : decide (a1 ∈ (plc xs0).take k) = B at *
        have HB := hid hB
        clear hB
        cases B
        · cases hE : (x == a1)
          · have HE := hid hE
            go_wp2_with fail
            go_round
            case rel => exact ⟨k + 1, by omega, by go_num, by rw [hnx.out, HE.out]; rfl⟩
            case measure => simp [intOf]; omega
          · have HE := hid hE
            go_wp2_with fail
            go_round
            case rel => exact ⟨k + 1, by omega, by go_num, by rw [hnx.out, HE.out]; rfl⟩
            case measure => simp [intOf]; omega
        · go_wp2_with fail
          go_round
          case rel => exact ⟨k + 1, by omega, by go_num, by rw [hnx.out]; rfl⟩
          case measure => simp [intOf]; omega
      · have hall := H3.out.all (show m ≤ k by omega)
        rw [hall]
        clear hall
        have hL : len0 < 100000000 := by omega
        go_wp2_with (first
          | (go_at_call 10; (with_reducible refine (bound_At _ _ _ _ _ _ R3.out hL HW.out).mono ?_); rintro e w4 ⟨rfl, hb4⟩; have R4 := R3.out.below hb4; have hb4' := below_then hb3' hb4)
          | (go_at_call 11; (with_reducible refine (bound_Next _ _ _ _ _ _ R4 hL HW.out).mono ?_); rintro e w5 ⟨rfl, hb5⟩; have R5 := R4.below hb5; have hb5' := below_then hb4' hb5)
          | (go_at_call 12; (with_reducible refine (ref07_Next _ _ _ _ _ _ R5 hL HW.out).mono ?_); rintro e w6 ⟨rfl, hb6⟩; have R6 := R5.below hb6; have hb6' := below_then hb5' hb6)
          | (go_at_call 13; (with_reducible refine (bound_Back _ _ _ _ _ _ R6 hL HW.out).mono ?_); rintro e w7 ⟨rfl, hb7⟩; have R7 := R6.below hb7; have hb7' := below_then hb6' hb7)
          | (go_at_call 14; (with_reducible refine (ref07_Back _ _ _ _ _ _ R7 hL HW.out).mono ?_); rintro e w8 ⟨rfl, hb8⟩; have R8 := R7.below hb8; have hb8' := below_then hb7' hb8)
          | (go_at_call 15; (with_reducible refine (bound_Nth _ _ _ _ _ _ R8 hL HW.out).mono ?_); rintro e w9 ⟨rfl, hb9⟩; have R9 := R8.below hb9; have hb9' := below_then hb8' hb9)
          | (go_at_call 16; (with_reducible refine (ref07_Nth _ _ _ _ _ _ R9 hL HW.out).mono ?_); rintro e w10 ⟨rfl, hb10⟩; have hb10' := below_then hb9' hb10)
          | (go_at_call 7; (with_reducible refine (alive7_any _).mono ?_); rintro e w' ⟨rfl, hb⟩))
        go_ret
        exact ⟨rfl, below_then hb10' hb⟩
  · have hN' : 300 < len0 := by omega
    go_enter Try.func3, Try.ntmps3
    go_wp2_with (go_at_call 7; (with_reducible refine (alive7_any _).mono ?_); rintro e w' ⟨rfl, hb⟩)
    go_ret
    exact ⟨rfl, hb⟩

set_option maxRecDepth 100000 in
theorem lifted (os : Os) (started : os.Started) (H : Type) (enc : TypeId × Value → H) :
    ReturnsInHanded {} Try.checked os 3 .any (Rows.boundPlacesSpec.pre6 enc Try.prog Try.f3 Rows.boundPlacesRow.domain false) (Rows.boundPlacesSpec.post enc Try.prog Try.f3 false true false false) := by
  refine returnsInHanded_of_change (C := Try.checked) own started (by kernel_rfl) Try.func3
    (ChangeSpec.witness6 (enc := enc) (C := Try.checked) false ⟨#[], #[.slice none 0 0, .int .i64 0], []⟩ 8 (by kernel_rfl) (by kernel_rfl) (by kernel_rfl) (by kernel_rfl)) ?_
  intro W base args ds gs before hval0 hW hcnd _
  have hval : ∀ (j : Nat) t v, Try.f3.params[j]? = some t → args[j]? = some v → Value.okWide Try.prog W .any base t v := hval0
  have hW' := hW
  obtain ⟨p, q, hA0, hV, rfl, hfz, hnd⟩ := hW
  have hA : DataW.TrodAll enc Try.prog W 0 (fun _ => true) true Try.f3.params.toList args.toList ds p := hA0
  rw [Try.params3] at hA hval
  obtain ⟨v0, vs0, d0, ds0, p0, q0, hargs, rfl, rfl, h0, r_0⟩ := trodAll_cons hA
  obtain ⟨v1, vs1, d1, ds1, p1, q1, rfl, rfl, rfl, h1, r_1⟩ := trodAll_cons r_0
  obtain ⟨rfl, rfl, rfl⟩ := trodAll_nil r_1
  obtain rfl : args = #[v0, v1] := by cases args; simp_all
  obtain ⟨rfl, rfl⟩ := trodVars_none hV
  obtain ⟨a0, len0, cap0, rfl⟩ := okWide_slice Try.underlying22 (hval 0 22 v0 rfl rfl)
  have k0 := h0
  have lt0 : ∀ x ∈ p0, x.block < W.heap.size := by obtain ⟨m, hm⟩ := k0; exact DataW.trod_lt m _ _ _ hm
  obtain ⟨xs0, r0⟩ : ∃ xs, Reads .u8 W a0 len0 cap0 xs := by
    obtain ⟨fuel, hf⟩ := h0
    rcases open_ints Try.underlying22 Try.underlying5 (by kernel_rfl) hf with ⟨hcs, _⟩ | ⟨x, l, c, zs, hcs, _, hl, hm, hz, _, hcell, hwz⟩
    · simp [Value.cells] at hcs
      obtain ⟨rfl, rfl, rfl⟩ := hcs
      exact ⟨[], Reads.nil _ _ _ _ (Nat.zero_le _)⟩
    · simp [Value.cells] at hcs
      obtain ⟨rfl, rfl, rfl⟩ := hcs
      exact ⟨_, reads_of_ints hl hm (by simpa using hz) hcell hwz⟩
  obtain ⟨a1, rfl, rfl, rfl, w1⟩ := open_int Try.underlying3 (hval 1 3 v1 rfl rfl) h1
  clear hA0 hval0
  refine (walk a0 len0 cap0 xs0 a1 W r0 w1).mono fun e W' ⟨he, bel⟩ => ?_
  subst he
  exact ⟨_, rfl, _, _, _, [], _, [], hW', trodAll_mk1 (shut_bool Try.underlying4 _), (trodAll_cons_mk (Below.trod laidOut (by kernel_rfl) (of_decide_eq_true (by kernel_rfl)) k0 bel lt0) (trodAll_cons_mk (shut_int Try.underlying3 w1) trodAll_mk0)), rfl, bel.frame _, fun h => by cases h⟩

theorem over : Rows.boundPlacesRow.holds Try.pinned (OpenSpec.ofChange Rows.boundPlacesSpec) :=
  OpenClaim.holds_of_wide 3 Try.f3 rfl rfl rfl rfl rfl rfl rfl ⟨rfl, rfl, rfl, rfl, rfl⟩ rfl rfl rfl rfl rfl (by kernel_rfl) Try.func3 (by kernel_rfl)
    (of_decide_eq_true (by kernel_rfl)) (by unfold Func.isWrapper; first | (rw [if_pos (by decide +kernel)]; kernel_rfl) | (rw [if_neg (by decide +kernel)]; exact ⟨rfl, rfl⟩))
    (fun os started H enc _ => lifted os started H enc)

end Go.Proofs.Ytpdlnbomjknhiaa.boundPlaces
namespace Go.Proofs.Ytpdlnbomjknhiaa
theorem boundPlaces_holds : Rows.BoundPlacesSaid := boundPlaces.over
#print axioms boundPlaces_holds
end Go.Proofs.Ytpdlnbomjknhiaa
