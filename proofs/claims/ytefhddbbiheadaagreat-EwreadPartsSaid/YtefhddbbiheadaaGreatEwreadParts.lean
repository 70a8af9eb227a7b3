/-
  Proved: for every []byte s (nil, empty, of any length and capacity), in whatever memory and on every schedule, sheavelaw33.EwreadParts(s) returns true, without a panic or a race, and its argument reads as before. No condition.
-/
import Derived.Test.YtefhddbbiheadaaGreatRows
import Derived.Test.YtefhddbbiheadaaGreatZ51
import Derived.WalkKit
import Derived.ProofKit
import Derived.OpenShut
import Derived.ShutString
import Derived.ChangeOld
import Derived.Below
namespace Go.Proofs.YtefhddbbiheadaaGreat.ewreadParts
open Go.ChangeShapes Go.WideShapes Go.ChangeAt Go.RowKit
open Go.ChangeMaps (open_string shut_string)
set_option linter.unusedVariables false

theorem own : ownKnob Tryz.prog.godebug = none := by kernel_rfl
theorem laidOut : laidOutB Tryz.prog = true := by kernel_rfl

set_option maxHeartbeats 4000000 in
set_option maxRecDepth 100000 in
theorem walk (a0 : Option Addr) (len0 cap0 : Nat) (xs0 : List Int) (w : World) (r0 : Reads .u8 w a0 len0 cap0 xs0) :
    Calls Tryz.prog 4 #[.slice a0 len0 cap0] w fun e w' => e = .returned (.bool true) ∧ Below w.heap.size w w' := by
  by_cases hN : len0 ≤ 500
  · have R := hid r0
    have hul : (unfL xs0).length ≤ len0 := by rw [← r0.size]; exact (unfS_len xs0 false).1
    have hLl : (lnsP (unfL xs0)).length ≤ len0 := by
      have h1 : (shwP (unfL xs0)).length ≤ (pcsP (unfL xs0)).length := (shwP_sub _).length_le
      have h2 : (pcsP (unfL xs0)).length ≤ (unfL xs0).length := by
        unfold pcsP
        rw [List.length_map]
        exact (pcsT_whole _).2.2
      unfold lnsP
      rw [List.length_map]
      omega
    have hSl : (setsL (unfL xs0)).length ≤ len0 := by
      have h1 := setP_len (shwP (unfL xs0))
      unfold lnsP at hLl
      rw [List.length_map] at hLl
      unfold setsL
      omega
    have F0 := hid (ref27_Unfold a0 len0 cap0 xs0 w r0 (by omega))
    have F1 := hid (fun W a l c (h : Reads .u8 W a l c (unfL xs0)) => ref33_Lines a l c (unfL xs0) W h (by have := h.size; omega))
    have F2 := hid (fun W (hb : Below w.heap.size w W) => ewread_Lines a0 len0 cap0 xs0 W (R.out.below hb) (by omega))
    have F3 := hid (fun W (hb : Below w.heap.size w W) => ewread_Charsets a0 len0 cap0 xs0 W (R.out.below hb) (by omega))
    have F4 := hid (fun W (hb : Below w.heap.size w W) => ewread_Odd a0 len0 cap0 xs0 W (R.out.below hb) (by omega))
    clear r0
    generalize lnsP (unfL xs0) = L at *
    generalize setsL (unfL xs0) = S at *
    generalize oddN (unfL xs0) = N at *
    generalize unfL xs0 = U at *
    go_enter Tryz.func4, Tryz.ntmps4
    go_wp2_with (first
      | (go_at_call 13; (with_reducible refine F0.out.mono ?_); rintro e v1 ⟨z1, rfl, O1, y1⟩; (obtain ⟨b1, k1, rfl, q1⟩ := O1.reads))
      | (go_at_call 14; (with_reducible refine (F1.out _ _ _ _ q1).mono ?_); rintro e v2 ⟨z2, u2, rfl, OL, OS, h2⟩; (obtain ⟨a2, k2, rfl, q2⟩ := OL.rows); (obtain ⟨a3, k3, rfl, s2⟩ := OS.reads); have y2 := below_then y1 h2)
      | (go_at_call 15; (with_reducible refine (F2.out _ y2).mono ?_); rintro e v3 ⟨a4, n4, k4, rfl, p3, h3⟩; obtain rfl : L.length = n4 := p3.size; have y3 := below_then y2 h3; have q3 := q2.below h3; have s3 := s2.below h3)
      | (go_at_call 16; (with_reducible refine (F3.out _ y3).mono ?_); rintro e v4 ⟨a5, n5, k5, rfl, r4, h4⟩; obtain rfl : S.length = n5 := r4.size; have y4 := below_then y3 h4; have q4 := q3.below h4; have s4 := s3.below h4; have p4 := p3.below h4)
      | (go_at_call 17; (with_reducible refine (F4.out _ y4).mono ?_); rintro e v5 ⟨rfl, h5⟩; have y5 := below_then y4 h5; have Q := hid (q4.below h5); have P := hid (p4.below h5); have SA := hid (s4.below h5); have SB := hid (r4.below h5)))
    clear y1 y2 y3 y4 h2 h3 h4 h5 q1 q2 q3 q4 p3 p4 s2 s3 s4 r4 O1 OL OS
    go_loopw [51] (fun i wr => ∃ (j m : Nat), j ≤ L.length ∧ i = .int .i64 j ∧ Hid (wr = v5.drewN m)) (fun i _ => L.length - (intOf i).toNat)
    case atStart => exact ⟨0, 0, Nat.zero_le _, rfl, rfl⟩
    case round =>
      obtain ⟨j, m, hj, rfl, HW⟩ := hrel
      have hb : Below v5.heap.size v5 wr := by rw [HW.out]; exact Below.drewN (Below.refl _ _) m
      by_cases hlt : j < L.length
      · obtain ⟨b, off, x, ai, li, ci, rfl, hbw, hc, hx, hg, _⟩ := (Q.out.below hb).get1 hlt
        obtain ⟨b2, off2, x2, ai2, li2, ci2, rfl, hbw2, hc2, hx2, hg2, _⟩ := (P.out.below hb).get1 hlt
        have hxx : x2 = x := by rw [hg] at hg2; exact (Option.some.inj hg2).symm
        subst hxx
        have HK := hid (fun q => like33_draws ai2 li2 ci2 ai li ci _ wr hx2 hx q)
        have q1 : (j : Int) < (L.length : Int) := by omega
        clear hx hx2 hg hg2
        go_wp2_with fail
        go_quiet ((go_at_call 8; exact Calls.quiet_of (HK.out _)))
        go_wp2_with fail
        go_roundw
        case rel => exact ⟨j + 1, m + nq, by omega, by go_num, by rw [Hid, HW.out]; simp⟩
        case measure => simp [intOf]; omega
      · have q1 : ¬ (j : Int) < (L.length : Int) := by omega
        go_wp2_with fail
        go_loopw [67] (fun i w2 => ∃ (k n : Nat), k ≤ S.length ∧ i = .int .i64 k ∧ Hid (w2 = v5.drewN n)) (fun i _ => S.length - (intOf i).toNat)
        case atStart => exact ⟨0, m, Nat.zero_le _, rfl, HW⟩
        case round =>
          clear HW hb
          obtain ⟨k, n, hk, rfl, HV⟩ := hrel
          have hd := Below.drewN (Below.refl v5.heap.size v5) n
          rw [← HV.out] at hd
          by_cases hlt : k < S.length
          · obtain ⟨b, off, x, rfl, hbw, hc, hx⟩ := (SA.out.below hd).get hlt
            obtain ⟨b2, off2, x2, rfl, hbw2, hc2, hx2⟩ := (SB.out.below hd).get hlt
            have hxx : x2 = x := by
              have h1 := hx.out.1
              rw [hx2.out.1] at h1
              exact Option.some.inj h1
            subst hxx
            have q1 : (k : Int) < (S.length : Int) := by omega
            clear hx hx2
            go_wp2_with fail
            go_quiet (fail)
            go_wp2_with fail
            go_roundw
            case rel => exact ⟨k + 1, n + nq, by omega, by go_num, by rw [Hid, HV.out]; simp⟩
            case measure => simp [intOf]; omega
          · have q1 : ¬ (k : Int) < (S.length : Int) := by omega
            go_wp2_with (go_at_call 7; (with_reducible refine (alive33_any _).mono ?_); rintro e w5 ⟨rfl, h5⟩)
            go_ret
            exact ⟨rfl, below_then (below_then y5 hd) h5⟩
  · have hN' : 500 < len0 := by omega
    go_enter Tryz.func4, Tryz.ntmps4
    go_wp2_with (go_at_call 7; (with_reducible refine (alive33_any _).mono ?_); rintro e w' ⟨rfl, hb⟩)
    go_ret
    exact ⟨rfl, hb⟩

set_option maxRecDepth 100000 in
theorem lifted (os : Os) (started : os.Started) (H : Type) (enc : TypeId × Value → H) :
    ReturnsInHanded {} Tryz.checked os 4 .any (Rows.ewreadPartsSpec.pre6 enc Tryz.prog Tryz.f4 Rows.ewreadPartsRow.domain false) (Rows.ewreadPartsSpec.post enc Tryz.prog Tryz.f4 false true false false) := by
  refine returnsInHanded_of_change (C := Tryz.checked) own started (by kernel_rfl) Tryz.func4
    (ChangeSpec.witness6 (enc := enc) (C := Tryz.checked) false ⟨#[], #[.slice none 0 0], []⟩ 8 (by kernel_rfl) (by kernel_rfl) (by kernel_rfl) (by kernel_rfl)) ?_
  intro W base args ds gs before hval0 hW hcnd _
  have hval : ∀ (j : Nat) t v, Tryz.f4.params[j]? = some t → args[j]? = some v → Value.okWide Tryz.prog W .any base t v := hval0
  have hW' := hW
  obtain ⟨p, q, hA0, hV, rfl, hfz, hnd⟩ := hW
  have hA : DataW.TrodAll enc Tryz.prog W 0 (fun _ => true) true Tryz.f4.params.toList args.toList ds p := hA0
  rw [Tryz.params4] at hA hval
  obtain ⟨v0, vs0, d0, ds0, p0, q0, hargs, rfl, rfl, h0, r_0⟩ := trodAll_cons hA
  obtain ⟨rfl, rfl, rfl⟩ := trodAll_nil r_0
  obtain rfl : args = #[v0] := by cases args; simp_all
  obtain ⟨rfl, rfl⟩ := trodVars_none hV
  obtain ⟨a0, len0, cap0, rfl⟩ := okWide_slice Tryz.underlying22 (hval 0 22 v0 rfl rfl)
  have k0 := h0
  have lt0 : ∀ x ∈ p0, x.block < W.heap.size := by obtain ⟨m, hm⟩ := k0; exact DataW.trod_lt m _ _ _ hm
  obtain ⟨xs0, r0⟩ : ∃ xs, Reads .u8 W a0 len0 cap0 xs := by
    obtain ⟨fuel, hf⟩ := h0
    rcases open_ints Tryz.underlying22 Tryz.underlying5 (by kernel_rfl) hf with ⟨hcs, _⟩ | ⟨x, l, c, zs, hcs, _, hl, hm, hz, _, hcell, hwz⟩
    · simp [Value.cells] at hcs
      obtain ⟨rfl, rfl, rfl⟩ := hcs
      exact ⟨[], Reads.nil _ _ _ _ (Nat.zero_le _)⟩
    · simp [Value.cells] at hcs
      obtain ⟨rfl, rfl, rfl⟩ := hcs
      exact ⟨_, reads_of_ints hl hm (by simpa using hz) hcell hwz⟩
  clear hA0 hval0
  refine (walk a0 len0 cap0 xs0 W r0).mono fun e W' ⟨he, bel⟩ => ?_
  subst he
  exact ⟨_, rfl, _, _, _, [], _, [], hW', trodAll_mk1 (shut_bool Tryz.underlying4 _), (trodAll_cons_mk (Below.trod laidOut (by kernel_rfl) (of_decide_eq_true (by kernel_rfl)) k0 bel lt0) trodAll_mk0), rfl, bel.frame _, fun h => by cases h⟩

theorem over : Rows.ewreadPartsRow.holds Tryz.pinned (OpenSpec.ofChange Rows.ewreadPartsSpec) :=
  OpenClaim.holds_of_wide 4 Tryz.f4 rfl rfl rfl rfl rfl rfl rfl ⟨rfl, rfl, rfl, rfl, rfl⟩ rfl rfl rfl rfl rfl (by kernel_rfl) Tryz.func4 (by kernel_rfl)
    (of_decide_eq_true (by kernel_rfl)) (by unfold Func.isWrapper; first | (rw [if_pos (by decide +kernel)]; kernel_rfl) | (rw [if_neg (by decide +kernel)]; exact ⟨rfl, rfl⟩))
    (fun os started H enc _ => lifted os started H enc)

end Go.Proofs.YtefhddbbiheadaaGreat.ewreadParts
namespace Go.Proofs.YtefhddbbiheadaaGreat
theorem ewreadParts_holds : Rows.EwreadPartsSaid := ewreadParts.over
#print axioms ewreadParts_holds
end Go.Proofs.YtefhddbbiheadaaGreat
