/-
  Proved: for every []rune t (nil, empty, of any length and capacity) and every int first, in whatever memory and on every schedule, sheavelaw31.EwcutWords(t, first) returns true, without a panic or a race, and its arguments read as before. No condition.
-/
import Derived.Test.YtdglnpkkfkagaaaGreatRows
import Derived.Test.YtdglnpkkfkagaaaGreatZ47
import Derived.WalkKit
import Derived.ProofKit
import Derived.OpenShut
import Derived.ShutString
import Derived.ChangeOld
import Derived.Below
namespace Go.Proofs.YtdglnpkkfkagaaaGreat.ewcutWords
open Go.ChangeShapes Go.WideShapes Go.ChangeAt Go.RowKit
open Go.ChangeMaps (open_string shut_string)
set_option linter.unusedVariables false

theorem own : ownKnob Tryz.prog.godebug = none := by kernel_rfl
theorem laidOut : laidOutB Tryz.prog = true := by kernel_rfl
theorem like31 (a : Option Addr) (len cap : Nat) (a2 : Option Addr) (len2 cap2 : Nat) (xs : List Int) (w : World) (hr : Reads .u8 w a len cap xs) (hr2 : Reads .u8 w a2 len2 cap2 xs) :
    Calls Tryz.prog 16 #[.slice a len cap, .slice a2 len2 cap2] w fun e w' => e = .returned (.bool true) ∧ Below w.heap.size w w' := by
  have := like_r a len cap xs a2 len2 cap2 xs w hr hr2
  rw [decide_eq_true rfl] at this
  refine this.mono ?_
  rintro e w' ⟨rfl, n, rfl⟩
  exact ⟨rfl, Below.drewN (Below.refl _ _) n⟩
set_option maxHeartbeats 4000000 in
set_option maxRecDepth 100000 in
theorem walk (a0 : Option Addr) (len0 cap0 : Nat) (xs0 : List Int) (a1 : Int) (w : World) (r0 : Reads .i32 w a0 len0 cap0 xs0) (w1 : (Lit.int .i64 a1).wf = true) :
    Calls Tryz.prog 4 #[.slice a0 len0 cap0, .int .i64 a1] w fun e w' => e = .returned (.bool true) ∧ Below w.heap.size w w' := by
  by_cases hN : len0 ≤ 80
  · have R := hid r0
    have F1 := hid (ewcut_Words a0 len0 cap0 xs0 a1 w r0 (by omega) w1)
    have F2 := hid (fun W (hb : Below w.heap.size w W) => ref31_Words a0 len0 cap0 xs0 a1 W (R.out.below hb) (by omega))
    have F3 := hid (fun W (hb : Below w.heap.size w W) => ewcut_Fold a0 len0 cap0 xs0 a1 W (R.out.below hb) (by omega) w1)
    have F4 := hid (fun W (hb : Below w.heap.size w W) => ref31_Fold a0 len0 cap0 xs0 a1 W (R.out.below hb) (by omega))
    have F5 := hid (fun W (hb : Below w.heap.size w W) => ewcut_Count a0 len0 cap0 xs0 a1 W (R.out.below hb) (by omega) w1)
    have hcl := wrdL_len xs0 a1
    rw [r0.size] at hcl
    clear r0
    generalize wrdE xs0 a1 = E at *
    generalize wrdL xs0 a1 = L at *
    go_enter Tryz.func4, Tryz.ntmps4
    go_wp2_with (first
      | (go_at_call 12; (with_reducible refine F1.out.mono ?_); rintro e v1 ⟨a2, m2, k2, rfl, q1, y1⟩; obtain rfl : L.length = m2 := q1.size)
      | (go_at_call 13; (with_reducible refine (F2.out _ y1).mono ?_); rintro e v2 ⟨z2, rfl, O2, h2⟩; (obtain ⟨a3, k3, rfl, q2⟩ := O2.rows); have y2 := below_then y1 h2; have q12 := q1.below h2)
      | (go_at_call 14; (with_reducible refine (F3.out _ y2).mono ?_); rintro e v3 ⟨a4, l4, k4, rfl, s3, h3⟩; have y3 := below_then y2 h3; have q13 := q12.below h3; have q23 := q2.below h3)
      | (go_at_call 15; (with_reducible refine (F4.out _ y3).mono ?_); rintro e v4 ⟨z4, rfl, O4, h4⟩; (obtain ⟨a5, k5, rfl, s4⟩ := O4.reads); have y4 := below_then y3 h4; have q14 := q13.below h4; have q24 := q23.below h4; have s34 := s3.below h4)
      | (go_at_call 16; (with_reducible refine (like31 _ _ _ _ _ _ _ _ s34 s4).mono ?_); rintro e v5 ⟨rfl, h5⟩; have y5 := below_then y4 h5; have q15 := q14.below h5; have q25 := q24.below h5)
      | (go_at_call 17; (with_reducible refine (F5.out _ y5).mono ?_); rintro e v6 ⟨rfl, h6⟩; have y6 := below_then y5 h6; have q16 := hid (q15.below h6); have q26 := hid (q25.below h6)))
    clear y1 y2 y3 y4 y5 h2 h3 h4 h5 h6 q1 q12 q13 q14 q15 q2 q23 q24 q25 O2 O4 s3 s34 s4
    go_loopw [73] (fun i wr => ∃ (j m : Nat), j ≤ L.length ∧ i = .int .i64 j ∧ Hid (wr = v6.drewN m)) (fun i _ => L.length - (intOf i).toNat)
    case atStart => exact ⟨0, 0, Nat.zero_le _, rfl, rfl⟩
    case round =>
      obtain ⟨j, m, hj, rfl, HW⟩ := hrel
      have hb : Below v6.heap.size v6 wr := by rw [HW.out]; exact Below.drewN (Below.refl _ _) m
      by_cases hlt : j < L.length
      · obtain ⟨b, off, x, ai, li, ci, rfl, hbw, hc, hx, hg, _⟩ := (q16.out.below hb).get1 hlt
        obtain ⟨b2, off2, x2, ai2, li2, ci2, rfl, hbw2, hc2, hx2, hg2, _⟩ := (q26.out.below hb).get1 hlt
        have hxx : x2 = x := by rw [hg] at hg2; exact (Option.some.inj hg2).symm
        subst hxx
        have HK := hid (fun q => like1_draws ai li ci ai2 li2 ci2 _ wr hx hx2 q)
        have q1 : (j : Int) < (L.length : Int) := by omega
        clear hx hx2 hg hg2
        go_wp2_with fail
        go_quiet ((go_at_call 16; exact Calls.quiet_of (HK.out _)))
        go_wp2_with fail
        go_roundw
        case rel => exact ⟨j + 1, m + nq, by omega, by go_num, by rw [Hid, HW.out]; simp⟩
        case measure => simp [intOf]; omega
      · have q1 : ¬ (j : Int) < (L.length : Int) := by omega
        go_wp2_with (go_at_call 6; (with_reducible refine (alive31_any _).mono ?_); rintro e w5 ⟨rfl, h5⟩)
        go_ret
        exact ⟨rfl, below_then (below_then y6 hb) h5⟩
  · have hN' : 80 < len0 := by omega
    go_enter Tryz.func4, Tryz.ntmps4
    go_wp2_with (go_at_call 6; (with_reducible refine (alive31_any _).mono ?_); rintro e w' ⟨rfl, hb⟩)
    go_ret
    exact ⟨rfl, hb⟩

set_option maxRecDepth 100000 in
theorem lifted (os : Os) (started : os.Started) (H : Type) (enc : TypeId × Value → H) :
    ReturnsInHanded {} Tryz.checked os 4 .any (Rows.ewcutWordsSpec.pre6 enc Tryz.prog Tryz.f4 Rows.ewcutWordsRow.domain false) (Rows.ewcutWordsSpec.post enc Tryz.prog Tryz.f4 false true false false) := by
  refine returnsInHanded_of_change (C := Tryz.checked) own started (by kernel_rfl) Tryz.func4
    (ChangeSpec.witness6 (enc := enc) (C := Tryz.checked) false ⟨#[], #[.slice none 0 0, .int .i64 0], []⟩ 8 (by kernel_rfl) (by kernel_rfl) (by kernel_rfl) (by kernel_rfl)) ?_
  intro W base args ds gs before hval0 hW hcnd _
  have hval : ∀ (j : Nat) t v, Tryz.f4.params[j]? = some t → args[j]? = some v → Value.okWide Tryz.prog W .any base t v := hval0
  have hW' := hW
  obtain ⟨p, q, hA0, hV, rfl, hfz, hnd⟩ := hW
  have hA : DataW.TrodAll enc Tryz.prog W 0 (fun _ => true) true Tryz.f4.params.toList args.toList ds p := hA0
  rw [Tryz.params4] at hA hval
  obtain ⟨v0, vs0, d0, ds0, p0, q0, hargs, rfl, rfl, h0, r_0⟩ := trodAll_cons hA
  obtain ⟨v1, vs1, d1, ds1, p1, q1, rfl, rfl, rfl, h1, r_1⟩ := trodAll_cons r_0
  obtain ⟨rfl, rfl, rfl⟩ := trodAll_nil r_1
  obtain rfl : args = #[v0, v1] := by cases args; simp_all
  obtain ⟨rfl, rfl⟩ := trodVars_none hV
  obtain ⟨a0, len0, cap0, rfl⟩ := okWide_slice Tryz.underlying23 (hval 0 23 v0 rfl rfl)
  have k0 := h0
  have lt0 : ∀ x ∈ p0, x.block < W.heap.size := by obtain ⟨m, hm⟩ := k0; exact DataW.trod_lt m _ _ _ hm
  obtain ⟨xs0, r0⟩ : ∃ xs, Reads .i32 W a0 len0 cap0 xs := by
    obtain ⟨fuel, hf⟩ := h0
    rcases open_ints Tryz.underlying23 Tryz.underlying21 (by kernel_rfl) hf with ⟨hcs, _⟩ | ⟨x, l, c, zs, hcs, _, hl, hm, hz, _, hcell, hwz⟩
    · simp [Value.cells] at hcs
      obtain ⟨rfl, rfl, rfl⟩ := hcs
      exact ⟨[], Reads.nil _ _ _ _ (Nat.zero_le _)⟩
    · simp [Value.cells] at hcs
      obtain ⟨rfl, rfl, rfl⟩ := hcs
      exact ⟨_, reads_of_ints hl hm (by simpa using hz) hcell hwz⟩
  obtain ⟨a1, rfl, rfl, rfl, w1⟩ := open_int Tryz.underlying3 (hval 1 3 v1 rfl rfl) h1
  clear hA0 hval0
  refine (walk a0 len0 cap0 xs0 a1 W r0 w1).mono fun e W' ⟨he, bel⟩ => ?_
  subst he
  exact ⟨_, rfl, _, _, _, [], _, [], hW', trodAll_mk1 (shut_bool Tryz.underlying4 _), (trodAll_cons_mk (Below.trod laidOut (by kernel_rfl) (of_decide_eq_true (by kernel_rfl)) k0 bel lt0) (trodAll_cons_mk (shut_int Tryz.underlying3 w1) trodAll_mk0)), rfl, bel.frame _, fun h => by cases h⟩

theorem over : Rows.ewcutWordsRow.holds Tryz.pinned (OpenSpec.ofChange Rows.ewcutWordsSpec) :=
  OpenClaim.holds_of_wide 4 Tryz.f4 rfl rfl rfl rfl rfl rfl rfl ⟨rfl, rfl, rfl, rfl, rfl⟩ rfl rfl rfl rfl rfl (by kernel_rfl) Tryz.func4 (by kernel_rfl)
    (of_decide_eq_true (by kernel_rfl)) (by unfold Func.isWrapper; first | (rw [if_pos (by decide +kernel)]; kernel_rfl) | (rw [if_neg (by decide +kernel)]; exact ⟨rfl, rfl⟩))
    (fun os started H enc _ => lifted os started H enc)

end Go.Proofs.YtdglnpkkfkagaaaGreat.ewcutWords
namespace Go.Proofs.YtdglnpkkfkagaaaGreat
theorem ewcutWords_holds : Rows.EwcutWordsSaid := ewcutWords.over
#print axioms ewcutWords_holds
end Go.Proofs.YtdglnpkkfkagaaaGreat
