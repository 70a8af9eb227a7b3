/-
  Proved: for every []byte s (nil, empty, of any length and capacity), in whatever memory and on every schedule, sheavelaw19.QreadReads(s) returns true, without a panic or a race, and its argument reads as before. No condition.
-/
import Derived.Test.YtpdoehdmeojmkaaDoorRows
import Derived.Test.YtpdoehdmeojmkaaDoorAlive19
import Derived.Test.YtpdoehdmeojmkaaDoorTab
import Derived.Test.YtpdoehdmeojmkaaDoorCards
import Derived.Test.YtpdoehdmeojmkaaDoorTie
import Derived.WalkKit
import Derived.LaidMore
import Derived.Lay
import Derived.SevenTiedAt
import Derived.Stop.Joined
import Derived.ProofKit
import Derived.OpenShut
import Derived.ShutString
import Derived.ChangeOld
import Derived.Below
import Derived.HandedShaped
namespace Go.Proofs.YtpdoehdmeojmkaaDoor.qreadReads
open Go.ChangeShapes Go.WideShapes Go.ChangeAt Go.RowKit
open Go.ChangeMaps (open_string shut_string)
set_option linter.unusedVariables false

theorem own : ownKnob Tryd.prog.godebug = none := by kernel_rfl
theorem laidOut : laidOutB Tryd.prog = true := by kernel_rfl
theorem like19_same (a : Option Addr) (len cap : Nat) (a2 : Option Addr) (len2 cap2 : Nat) (xs : List Int) (w : World) (hr : Reads .u8 w a len cap xs) (hr2 : Reads .u8 w a2 len2 cap2 xs) :
    Calls Tryd.prog 11 #[.slice a len cap, .slice a2 len2 cap2] w fun e w' => e = .returned (.bool true) ∧ Below w.heap.size w w' := by
  have := like_r a len cap xs a2 len2 cap2 xs w hr hr2
  rw [decide_eq_true rfl] at this
  refine this.mono ?_
  rintro e w' ⟨rfl, n, rfl⟩
  exact ⟨rfl, Below.drewN (Below.refl _ _) n⟩
set_option maxHeartbeats 4000000 in
set_option maxRecDepth 100000 in
theorem walk (a0 : Option Addr) (len0 cap0 : Nat) (xs0 : List Int) (w : World) (r0 : Reads .u8 w a0 len0 cap0 xs0) (hm : Mx w) (hT : Tabs w) :
    Calls Tryd.prog 3 #[.slice a0 len0 cap0] w fun e w' => e = .returned (.bool true) ∧ Below w.heap.size w w' := by
  have HM := hid hm
  have HT := hid hT
  by_cases hN : len0 ≤ 1000
  · have hsh := readS_short xs0
    rw [r0.size] at hsh
    have hN6 : len0 < 1000000 := by omega
    have F1 := hid (ref19_Read a0 len0 cap0 xs0 w r0 (by omega))
    have F2 := hid (fun W (hb : Below w.heap.size w W) => qread_Strict a0 len0 cap0 xs0 W (r0.below hb) hN6 (hT.below hb) (hm.below hb))
    have F3 := hid (fun W (hb : Below w.heap.size w W) => ref19_Strict a0 len0 cap0 xs0 W (r0.below hb) hN6)
    have F4 := hid (fun W (hb : Below w.heap.size w W) => qread_Read a0 len0 cap0 xs0 W (r0.below hb) hN6 (hT.below hb) (hm.below hb))
    have F6 := hid (fun W (hb : Below w.heap.size w W) => qread_Strange a0 len0 cap0 xs0 W (r0.below hb) hN6 (hT.below hb) (hm.below hb))
    have F8 := hid (fun W (hb : Below w.heap.size w W) => qread_Again a0 len0 cap0 xs0 W (r0.below hb) hN6 (hT.below hb) (hm.below hb))
    generalize readS xs0 = RD at F1 F4 F8 hsh
    generalize stcL xs0 = ST at F2 F3
    generalize strS xs0 = SN at F1 F6
    generalize checkQ xs0 = CK at F2 F3
    obtain ⟨n, hn⟩ : ∃ n, n = RD.length := ⟨_, rfl⟩
    rw [← hn] at hsh F4
    have HN := hid hn
    clear r0 hm hT hn
    go_enter Tryd.func3, Tryd.ntmps3
    go_wp2_with (first
      | (go_at_call 8; (with_reducible refine F1.out.mono ?_); rintro e w1 ⟨v1, rfl, o1, h1⟩; obtain ⟨a1, c1, rfl, r1⟩ := o1.reads; rw [← HN.out] at r1; rw [← HN.out])
      | (go_at_call 9; (with_reducible refine (F2.out w1 h1).mono ?_); rintro e w2 ⟨a2, l2, c2, rfl, r2, h2⟩; have t2 := below_then h1 h2)
      | (go_at_call 10; (with_reducible refine (F3.out w2 t2).mono ?_); rintro e w3 ⟨a3, l3, c3, rfl, r3, h3⟩; have t3 := below_then t2 h3)
      | (go_at_call 12; (with_reducible refine (F4.out w3 t3).mono ?_); rintro e w4 ⟨a4, c4, rfl, r4, h4⟩; have t4 := below_then t3 h4; have r1' := ((r1.below h2).below h3).below h4)
      | (go_at_call 11; (with_reducible refine (like19_same _ _ _ _ _ _ _ _ r4 r1').mono ?_); rintro e w5 ⟨rfl, h5⟩; have t5 := below_then t4 h5)
      | (go_at_call 13; (with_reducible refine (F6.out w5 t5).mono ?_); rintro e w6 ⟨rfl, h6⟩; have t6 := below_then t5 h6; have r2' := (((r2.below h3).below h4).below h5).below h6; have r3' := ((r3.below h4).below h5).below h6)
      | (go_at_call 11; (with_reducible refine (like19_same _ _ _ _ _ _ _ _ r2' r3').mono ?_); rintro e w7 ⟨rfl, h7⟩; have t7 := below_then t6 h7)
      | (go_at_call 14; (with_reducible refine (F8.out w7 t7).mono ?_); rintro e w8 ⟨a8, l8, c8, rfl, r8, h8⟩; have t8 := below_then t7 h8; have r1q := (((r1'.below h5).below h6).below h7).below h8)
      | (go_at_call 15; (with_reducible refine (ref18_Lay _ _ _ _ _ r1q (by omega)).mono ?_); rintro e w9 ⟨v9, rfl, o9, h9⟩; obtain ⟨a9, c9, rfl, r9⟩ := o9.reads; have t9 := below_then t8 h9; have r8' := r8.below h9)
      | (go_at_call 11; (with_reducible refine (like19_same _ _ _ _ _ _ _ _ r8' r9).mono ?_); rintro e w10 ⟨rfl, h10⟩; have t10 := below_then t9 h10)
      | (go_at_call 7; (with_reducible refine (alive19_any _ (HT.out.below t10) (HM.out.below t10)).mono ?_); rintro e w11 ⟨rfl, h11⟩))
    go_ret
    exact ⟨rfl, below_then t10 h11⟩
  · have hN' : 1000 < len0 := by omega
    clear hm hT
    go_enter Tryd.func3, Tryd.ntmps3
    go_wp2_with (go_at_call 7; (with_reducible refine (alive19_any _ HT.out HM.out).mono ?_); rintro e w' ⟨rfl, hb⟩)
    go_ret
    exact ⟨rfl, hb⟩

def laidL : List (String × DataW Unit) := [("unicode/utf8.acceptRanges", Rows.laid_unicode_utf8_acceptRanges), ("unicode/utf8.first", Rows.laid_unicode_utf8_first)]
set_option maxRecDepth 100000 in
theorem lifted (os : Os) (started : os.Started) (H : Type) (enc : TypeId × Value → H) :
    ReturnsInHanded {} Tryd.checked os 3 .any (fun w args => (Rows.qreadReadsSpec.pre enc Tryd.prog Tryd.f3 Rows.qreadReadsRow.domain false w args ∧ laidMetH Tryd.prog laidL w) ∧ sizedMet enc Tryd.prog Tryd.f3 (OpenSpec.ofChange Rows.qreadReadsSpec) false w args)
      (Rows.qreadReadsSpec.post enc Tryd.prog Tryd.f3 false true false false) := by
  refine returnsInHanded_both (C := Tryd.checked) (X := fun w _ => laidMetH Tryd.prog laidL w) (fun _ _ _ hh h => h.of_heap hh) own started (by kernel_rfl) Tryd.func3
    (ChangeSpec.witness_shaped (enc := enc) (C := Tryd.checked) (os := os) (X := fun w _ => laidMetH Tryd.prog laidL w) false (World.laidAll Tryd.prog os laidL) #[.slice none 0 0] 8 (World.laidAll_os _ _ _)
      (World.shaped_of_ZipB (by kernel_rfl) (by kernel_rfl)) (by kernel_rfl) (by kernel_rfl) (by kernel_rfl)
      (by rw [MakeChecks.laidMetH_plain _ _ _ (by kernel_rfl)]; exact laidMet_laidAll _ (by kernel_rfl) (by kernel_rfl))) ?_
  intro W base args ds gs before hval0 hW hcnd hsh hL
  have hval : ∀ (j : Nat) t v, Tryd.f3.params[j]? = some t → args[j]? = some v → Value.okWide Tryd.prog W .any base t v := hval0
  have hW' := hW
  obtain ⟨p, q, hA0, hV, rfl, hfz, hnd⟩ := hW
  have hA : DataW.TrodAll enc Tryd.prog W 0 (fun _ => true) true Tryd.f3.params.toList args.toList ds p := hA0
  rw [Tryd.params3] at hA hval
  obtain ⟨v0, vs0, d0, ds0, p0, q0, hargs, rfl, rfl, h0, r_0⟩ := trodAll_cons hA
  obtain ⟨rfl, rfl, rfl⟩ := trodAll_nil r_0
  obtain rfl : args = #[v0] := by cases args; simp_all
  obtain ⟨rfl, rfl⟩ := trodVars_none hV
  obtain ⟨a0, len0, cap0, rfl⟩ := okWide_slice Tryd.underlying22 (hval 0 22 v0 rfl rfl)
  have k0 := h0
  have lt0 : ∀ x ∈ p0, x.block < W.heap.size := by obtain ⟨m, hm⟩ := k0; exact DataW.trod_lt m _ _ _ hm
  obtain ⟨xs0, r0⟩ : ∃ xs, Reads .u8 W a0 len0 cap0 xs := by
    obtain ⟨fuel, hf⟩ := h0
    rcases open_ints Tryd.underlying22 Tryd.underlying5 (by kernel_rfl) hf with ⟨hcs, _⟩ | ⟨x, l, c, zs, hcs, _, hl, hm, hz, _, hcell, hwz⟩
    · simp [Value.cells] at hcs
      obtain ⟨rfl, rfl, rfl⟩ := hcs
      exact ⟨[], Reads.nil _ _ _ _ (Nat.zero_le _)⟩
    · simp [Value.cells] at hcs
      obtain ⟨rfl, rfl, rfl⟩ := hcs
      exact ⟨_, reads_of_ints hl hm (by simpa using hz) hcell hwz⟩
  clear hA0 hval0
  refine (walk a0 len0 cap0 xs0 W r0 (Mx.shaped hsh) (tabs_of_laid hL)).mono fun e W' ⟨he, bel⟩ => ?_
  subst he
  exact ⟨_, rfl, _, _, _, [], _, [], hW', trodAll_mk1 (shut_bool Tryd.underlying4 _), (trodAll_cons_mk (Below.trod laidOut (by kernel_rfl) (of_decide_eq_true (by kernel_rfl)) k0 bel lt0) trodAll_mk0), rfl, bel.frame _, fun h => by cases h⟩

theorem over : Rows.qreadReadsRow.holds Tryd.pinned (OpenSpec.ofChange Rows.qreadReadsSpec) :=
  OpenClaim.holds_of_wide 3 Tryd.f3 rfl rfl rfl rfl rfl rfl rfl ⟨rfl, rfl, rfl, rfl, rfl⟩ rfl rfl rfl rfl rfl (by kernel_rfl) Tryd.func3 (by kernel_rfl)
    (of_decide_eq_true (by kernel_rfl)) (by unfold Func.isWrapper; first | (rw [if_pos (by decide +kernel)]; kernel_rfl) | (rw [if_neg (by decide +kernel)]; exact ⟨rfl, rfl⟩))
    (fun os started H enc _ => lifted os started H enc)

end Go.Proofs.YtpdoehdmeojmkaaDoor.qreadReads
namespace Go.Proofs.YtpdoehdmeojmkaaDoor
set_option maxRecDepth 100000 in
theorem qreadReads_holds : Rows.QreadReadsCardSaid :=
  Claim7.holds_tied_plain_at .later [] [.data, .pinned] true (true, "fa53e5c62354752ee9d2bc4441a3f2aef1174715aff2b417d906bb5ce815eedd") false qreadReads.over (fun _ h => by cases h) (by kernel_rfl) (fun _ h => by cases h) qreadReads_row_tie rfl ⟨rfl, rfl⟩ (by kernel_rfl) rfl
    (fun f fn hf hfn => by
      obtain rfl : f = 3 := Option.some.inj ((show Tryd.prog.funcNamed "sheave/sheavelaw19.QreadReads" = some 3 by kernel_rfl).symm.trans hf) |>.symm
      obtain rfl : fn = Tryd.f3 := (Option.some.inj (Tryd.func3.symm.trans hfn)).symm
      exact ⟨by kernel_rfl, fun j t ht => by
        rw [Tryd.params3] at ht
        have hm : t ∈ [22] := by simpa using Array.mem_of_getElem? ht
        have hall : ([22].all fun u => !Tryd.prog.wantsStandIn u) = true := by kernel_rfl
        exact (show Tryd.prog.wantsStandIn t = false by simpa using List.all_eq_true.1 hall t hm)⟩)
    (by kernel_rfl)
#print axioms qreadReads_holds
end Go.Proofs.YtpdoehdmeojmkaaDoor
