/-
  Proved: for every []byte s (nil, empty, of any length and capacity) and every int most, in whatever memory and on every schedule, sheavelaw07.BoundWhole(s, most) returns true, without a panic or a race, and its arguments read as before. No condition.
-/
import Derived.Test.YtpdlnbomjknhiaaRows
import Derived.Test.YtpdlnbomjknhiaaAlive07
import Derived.Test.YtpdlnbomjknhiaaR05
import Derived.Test.YtpdlnbomjknhiaaR07b
import Derived.WalkKit
import Derived.ProofKit
import Derived.OpenShut
import Derived.ShutString
import Derived.ChangeOld
import Derived.Below
namespace Go.Proofs.Ytpdlnbomjknhiaa.boundWhole
open Go.ChangeShapes Go.WideShapes Go.ChangeAt Go.RowKit
open Go.ChangeMaps (open_string shut_string)
set_option linter.unusedVariables false

theorem own : ownKnob Try.prog.godebug = none := by kernel_rfl
theorem laidOut : laidOutB Try.prog = true := by kernel_rfl
theorem like7_same (a : Option Addr) (len cap : Nat) (a2 : Option Addr) (len2 cap2 : Nat) (xs : List Int) (w : World) (hr : Reads .u8 w a len cap xs) (hr2 : Reads .u8 w a2 len2 cap2 xs) :
    Calls Try.prog 19 #[.slice a len cap, .slice a2 len2 cap2] w fun e w' => e = .returned (.bool true) ∧ ∃ n, w' = w.drewN n := by
  have := like_r a len cap xs a2 len2 cap2 xs w hr hr2
  rwa [decide_eq_true rfl] at this
theorem splitL (a : Option Addr) (len cap : Nat) (xs : List Int) (n : Int) (w : World) (hr : Reads .u8 w a len cap xs) (hN : len < 100000000) (hw : (Lit.int .i64 n).wf = true) (m : Nat) (hm : (spl n xs).length = m) :
    Calls Try.prog 17 #[.slice a len cap, .int .i64 n] w fun e w' => ∃ a' c', e = .returned (.slice a' m c') ∧ Rws w' a' m c' (spl n xs) ∧ Below w.heap.size w w' := by
  refine (bound_Split _ _ _ _ _ _ hr hN hw).mono ?_
  rintro e w' ⟨a', m', c', rfl, hR, hb⟩
  obtain rfl : m = m' := by rw [← hm]; exact hR.size
  exact ⟨a', c', rfl, hR, hb⟩
theorem spl_many (n : Int) (xs : List Int) : (spl n xs).length ≤ xs.length := by
  have h1 := outS_len n xs (segs xs).length
  rw [outS_all] at h1
  have := segs_le xs
  omega
/-- What has come so far. -/
theorem flat_take (xss : List (List Int)) (k : Nat) : (xss.take k).flatten.length ≤ xss.flatten.length := flat_le xss k
theorem two_places (a : Option Addr) (len cap : Nat) (p : List Int) (w : World) (hr : Reads .u8 w a len cap p) (hN : len < 100000000) (h2 : (plc p).length = 2) :
    Calls Try.prog 8 #[.slice a len cap] w fun e w' => ∃ a' c', e = .returned (.slice a' 2 c') ∧ Below w.heap.size w w' := by
  refine (bound_Places _ _ _ _ _ hr hN).mono ?_
  rintro e w' ⟨g, c', rfl, ho, hb⟩
  rw [plc_len] at h2
  rw [h2]
  exact ⟨_, _, rfl, hb⟩
set_option maxHeartbeats 4000000 in
set_option maxRecDepth 100000 in
theorem walk (a0 : Option Addr) (len0 cap0 : Nat) (xs0 : List Int) (a1 : Int) (w : World) (r0 : Reads .u8 w a0 len0 cap0 xs0) (w1 : (Lit.int .i64 a1).wf = true) :
    Calls Try.prog 5 #[.slice a0 len0 cap0, .int .i64 a1] w fun e w' => e = .returned (.bool true) ∧ Below w.heap.size w w' := by
  by_cases hN : len0 ≤ 300
  · have hsm := spl_many a1 xs0
    have hsz := r0.size
    obtain ⟨m, hm⟩ : ∃ m, (spl a1 xs0).length = m := ⟨_, rfl⟩
    have hml : m ≤ 300 := by omega
    have hL : len0 < 100000000 := by omega
    have hSL := fun w (hr : Reads .u8 w a0 len0 cap0 xs0) => splitL a0 len0 cap0 xs0 a1 w hr hL w1 m hm
    have hRd := fun w (hr : Reads .u8 w a0 len0 cap0 xs0) => ref05_Read a0 len0 cap0 xs0 w hr (by omega)
    have R := hid r0
    have HW := hid w1
    have HM := hid hm
    clear r0 w1 hm hsm
    go_enter Try.func5, Try.ntmps5
    go_wp2_with (first
      | (go_at_call 22; (with_reducible refine (hRd _ R.out).mono ?_); rintro e w2 ⟨a2, c2, rfl, _, hb2⟩; have R2 := R.out.below hb2)
      | (go_at_call 17; (with_reducible refine (hSL _ R2).mono ?_); rintro e w3 ⟨a3, c3, rfl, hr3, hb3⟩; have R3 := R2.below hb3; have hb3' := below_then hb2 hb3))
    have H3 := hid hr3
    have HB := hid hb3'
    have HA := hid R3
    clear hr3 R2 R3 hb3' hb3 hb2
    go_loopw [5, 28] (fun v i wr => ∃ k : Nat, k ≤ m ∧ i = .int .i64 k ∧ Own .u8 5 w3.heap.size wr v ((spl a1 xs0).take k).flatten ∧ Below w3.heap.size w3 wr) (fun _ i _ => m - (intOf i).toNat)
    case atStart => exact ⟨0, Nat.zero_le _, rfl, Own.nil _ _ _ _, Below.refl _ _⟩
    case round =>
      obtain ⟨k, hk, rfl, hown, hbel⟩ := hrel
      by_cases hlt : k < m
      · obtain ⟨b3, off3, p, ai, li, ci, rfl, _, hc3, hx3, hg3, htk⟩ := (H3.out.below hbel).get hlt
        have hpm : p ∈ spl a1 xs0 := List.mem_of_getElem? hg3
        obtain ⟨hp0, hp1, hp2⟩ := spl_piece a1 xs0 p hpm
        have hpl := outS_part a1 xs0 (segs xs0).length p (by rw [outS_all]; exact hpm)
        obtain rfl : p.length = li := hx3.size
        have hfl := flat_take (spl a1 xs0) k
        rw [spl_flat] at hfl
        have X3 := hid hx3
        have HF := hid htk
        clear hx3 hpm htk hg3
        have hne : ((p.length : Int) == 0) = false := beq_eq_false_iff_ne.2 (by omega)
        have hRp := fun w (hr : Reads .u8 w ai p.length ci p) => ref05_Read ai p.length ci p w hr (by omega)
        have hPp := fun w (hr : Reads .u8 w ai p.length ci p) (h : a1 < (p.length : Int)) => two_places ai p.length ci p w hr (by omega) (hp1 h)
        clear hp1
        have hj : Hid (((spl a1 xs0).take k).flatten ++ p = ((spl a1 xs0).take (k + 1)).flatten) := by rw [Hid, HF.out, List.flatten_append]; simp
        generalize hbx : brkP (sigs xs0) = bx at *
        generalize hbp : brkP (sigs p) = bp at *
        clear hbx hbp
        by_cases hb0 : bx = 0
        · have hbp0 := hp2 hb0
          have hb0' : ((bx : Int) == 0) = true := by simp [hb0]
          have hbp' : ((bp : Int) != 0) = false := by simp [hbp0]
          clear hp2 hb0 hbp0
          by_cases hgt : a1 < (p.length : Int)
          · go_wp2_with (first
              | (go_at_call 22; (with_reducible refine (hRp _ X3.out).mono ?_); rintro e w4 ⟨a4, c4, rfl, _, hb4⟩; have X4 := X3.out.below hb4; have ho4 := hown.below hb4; have hb4' := below_then hbel hb4)
              | (go_at_call 8; (with_reducible refine (hPp _ X4 hgt).mono ?_); rintro e w5 ⟨a5, c5, rfl, hb5⟩; have X5 := X4.below hb5; have ho5 := ho4.below hb5; have hb5' := below_then hb4' hb5)
              | (at_builtin; go_must (refine wpList_more ST8 rfl _ _ rfl rfl rfl ho5 hb5' X5 (by omega) ?_); intro v6 w6 ho6 hb6))
            rw [hj.out] at ho6
            clear hown hbel
            go_roundw
            case rel => exact ⟨k + 1, by omega, by go_num, ho6, hb6⟩
            case measure => simp [intOf]; omega
          · go_wp2_with (first
              | (go_at_call 22; (with_reducible refine (hRp _ X3.out).mono ?_); rintro e w4 ⟨a4, c4, rfl, _, hb4⟩; have X4 := X3.out.below hb4; have ho4 := hown.below hb4; have hb4' := below_then hbel hb4)
              | (at_builtin; go_must (refine wpList_more ST8 rfl _ _ rfl rfl rfl ho4 hb4' X4 (by omega) ?_); intro v6 w6 ho6 hb6))
            rw [hj.out] at ho6
            clear hown hbel
            go_roundw
            case rel => exact ⟨k + 1, by omega, by go_num, ho6, hb6⟩
            case measure => simp [intOf]; omega
        · have hb0' : ((bx : Int) == 0) = false := beq_eq_false_iff_ne.2 (by omega)
          clear hp2
          by_cases hgt : a1 < (p.length : Int)
          · go_wp2_with (first
              | (go_at_call 22; (with_reducible refine (hRp _ X3.out).mono ?_); rintro e w4 ⟨a4, c4, rfl, _, hb4⟩; have X4 := X3.out.below hb4; have ho4 := hown.below hb4; have hb4' := below_then hbel hb4)
              | (go_at_call 8; (with_reducible refine (hPp _ X4 hgt).mono ?_); rintro e w5 ⟨a5, c5, rfl, hb5⟩; have X5 := X4.below hb5; have ho5 := ho4.below hb5; have hb5' := below_then hb4' hb5)
              | (at_builtin; go_must (refine wpList_more ST8 rfl _ _ rfl rfl rfl ho5 hb5' X5 (by omega) ?_); intro v6 w6 ho6 hb6))
            rw [hj.out] at ho6
            clear hown hbel
            go_roundw
            case rel => exact ⟨k + 1, by omega, by go_num, ho6, hb6⟩
            case measure => simp [intOf]; omega
          · go_wp2_with (first
              | (go_at_call 22; (with_reducible refine (hRp _ X3.out).mono ?_); rintro e w4 ⟨a4, c4, rfl, _, hb4⟩; have X4 := X3.out.below hb4; have ho4 := hown.below hb4; have hb4' := below_then hbel hb4)
              | (at_builtin; go_must (refine wpList_more ST8 rfl _ _ rfl rfl rfl ho4 hb4' X4 (by omega) ?_); intro v6 w6 ho6 hb6))
            rw [hj.out] at ho6
            clear hown hbel
            go_roundw
            case rel => exact ⟨k + 1, by omega, by go_num, ho6, hb6⟩
            case measure => simp [intOf]; omega
      · obtain rfl : k = m := by omega
        have hall : Hid (((spl a1 xs0).take k).flatten = xs0) := by rw [Hid, List.take_of_length_le (by rw [HM.out]; omega), spl_flat]
        rw [hall.out] at hown
        obtain ⟨av, cv, hv, hrv⟩ := hown.reads
        rw [hsz] at hv hrv
        subst hv
        have hlk := fun w (h : Reads .u8 w av len0 cv xs0) (h2 : Reads .u8 w a0 len0 cap0 xs0) => like7_same av len0 cv a0 len0 cap0 xs0 w h h2
        have HR := hid hrv
        clear hrv hown
        go_wp2_with (first
          | (go_at_call 19; (with_reducible refine (hlk _ HR.out (HA.out.below hbel)).mono ?_); rintro e w6 ⟨rfl, n6, rfl⟩; have hb6 := Below.drewN hbel n6)
          | (go_at_call 7; (with_reducible refine (alive7_any _).mono ?_); rintro e w' ⟨rfl, hb⟩))
        go_ret
        exact ⟨rfl, HB.out.trans (hb6.mono HB.out.size) |>.trans (hb.mono (Nat.le_trans HB.out.size hb6.size))⟩
  · have hN' : 300 < len0 := by omega
    go_enter Try.func5, Try.ntmps5
    go_wp2_with (go_at_call 7; (with_reducible refine (alive7_any _).mono ?_); rintro e w' ⟨rfl, hb⟩)
    go_ret
    exact ⟨rfl, hb⟩

set_option maxRecDepth 100000 in
theorem lifted (os : Os) (started : os.Started) (H : Type) (enc : TypeId × Value → H) :
    ReturnsInHanded {} Try.checked os 5 .any (Rows.boundWholeSpec.pre6 enc Try.prog Try.f5 Rows.boundWholeRow.domain false) (Rows.boundWholeSpec.post enc Try.prog Try.f5 false true false false) := by
  refine returnsInHanded_of_change (C := Try.checked) own started (by kernel_rfl) Try.func5
    (ChangeSpec.witness6 (enc := enc) (C := Try.checked) false ⟨#[], #[.slice none 0 0, .int .i64 0], []⟩ 8 (by kernel_rfl) (by kernel_rfl) (by kernel_rfl) (by kernel_rfl)) ?_
  intro W base args ds gs before hval0 hW hcnd _
  have hval : ∀ (j : Nat) t v, Try.f5.params[j]? = some t → args[j]? = some v → Value.okWide Try.prog W .any base t v := hval0
  have hW' := hW
  obtain ⟨p, q, hA0, hV, rfl, hfz, hnd⟩ := hW
  have hA : DataW.TrodAll enc Try.prog W 0 (fun _ => true) true Try.f5.params.toList args.toList ds p := hA0
  rw [Try.params5] at hA hval
  obtain ⟨v0, vs0, d0, ds0, p0, q0, hargs, rfl, rfl, h0, r_0⟩ := trodAll_cons hA
  obtain ⟨v1, vs1, d1, ds1, p1, q1, rfl, rfl, rfl, h1, r_1⟩ := trodAll_cons r_0
  obtain ⟨rfl, rfl, rfl⟩ := trodAll_nil r_1
  obtain rfl : args = #[v0, v1] := by cases args; simp_all
  obtain ⟨rfl, rfl⟩ := trodVars_none hV
  obtain ⟨a0, len0, cap0, rfl⟩ := okWide_slice Try.underlying22 (hval 0 22 v0 rfl rfl)
  have k0 := h0
  have lt0 : ∀ x ∈ p0, x.block < W.heap.size := by obtain ⟨m, hm⟩ := k0; exact DataW.trod_lt m _ _ _ hm
  obtain ⟨xs0, r0⟩ : ∃ xs, Reads .u8 W a0 len0 cap0 xs := by
    obtain ⟨fuel, hf⟩ := h0
    rcases open_ints Try.underlying22 Try.underlying5 (by kernel_rfl) hf with ⟨hcs, _⟩ | ⟨x, l, c, zs, hcs, _, hl, hm, hz, _, hcell, hwz⟩
    · simp [Value.cells] at hcs
      obtain ⟨rfl, rfl, rfl⟩ := hcs
      exact ⟨[], Reads.nil _ _ _ _ (Nat.zero_le _)⟩
    · simp [Value.cells] at hcs
      obtain ⟨rfl, rfl, rfl⟩ := hcs
      exact ⟨_, reads_of_ints hl hm (by simpa using hz) hcell hwz⟩
  obtain ⟨a1, rfl, rfl, rfl, w1⟩ := open_int Try.underlying3 (hval 1 3 v1 rfl rfl) h1
  clear hA0 hval0
  refine (walk a0 len0 cap0 xs0 a1 W r0 w1).mono fun e W' ⟨he, bel⟩ => ?_
  subst he
  exact ⟨_, rfl, _, _, _, [], _, [], hW', trodAll_mk1 (shut_bool Try.underlying4 _), (trodAll_cons_mk (Below.trod laidOut (by kernel_rfl) (of_decide_eq_true (by kernel_rfl)) k0 bel lt0) (trodAll_cons_mk (shut_int Try.underlying3 w1) trodAll_mk0)), rfl, bel.frame _, fun h => by cases h⟩

theorem over : Rows.boundWholeRow.holds Try.pinned (OpenSpec.ofChange Rows.boundWholeSpec) :=
  OpenClaim.holds_of_wide 5 Try.f5 rfl rfl rfl rfl rfl rfl rfl ⟨rfl, rfl, rfl, rfl, rfl⟩ rfl rfl rfl rfl rfl (by kernel_rfl) Try.func5 (by kernel_rfl)
    (of_decide_eq_true (by kernel_rfl)) (by unfold Func.isWrapper; first | (rw [if_pos (by decide +kernel)]; kernel_rfl) | (rw [if_neg (by decide +kernel)]; exact ⟨rfl, rfl⟩))
    (fun os started H enc _ => lifted os started H enc)

end Go.Proofs.Ytpdlnbomjknhiaa.boundWhole
namespace Go.Proofs.Ytpdlnbomjknhiaa
theorem boundWhole_holds : Rows.BoundWholeSaid := boundWhole.over
#print axioms boundWhole_holds
end Go.Proofs.Ytpdlnbomjknhiaa
