/-
  Proved: for every []byte s (nil, empty, of any length and capacity), in whatever memory and on every schedule, sheavelaw19.QreadBack(s) returns true, without a panic or a race, and its argument reads as before. No condition.
-/
import Derived.Test.YtpdoehdmeojmkaaDoorRows
import Derived.Test.YtpdoehdmeojmkaaDoorAlive19
import Derived.Test.YtpdoehdmeojmkaaDoorTab
import Derived.Test.YtpdoehdmeojmkaaDoorCards
import Derived.Test.YtpdoehdmeojmkaaDoorTie
import Derived.WalkKit
import Derived.LaidMore
import Derived.Lay
import Derived.SevenTiedAt
import Derived.Stop.Joined
import Derived.ProofKit
import Derived.OpenShut
import Derived.ShutString
import Derived.ChangeOld
import Derived.Below
import Derived.HandedShaped
namespace Go.Proofs.YtpdoehdmeojmkaaDoor.qreadBack
open Go.ChangeShapes Go.WideShapes Go.ChangeAt Go.RowKit
open Go.ChangeMaps (open_string shut_string)
set_option linter.unusedVariables false

theorem own : ownKnob Tryd.prog.godebug = none := by kernel_rfl
theorem laidOut : laidOutB Tryd.prog = true := by kernel_rfl
theorem like19_same (a : Option Addr) (len cap : Nat) (a2 : Option Addr) (len2 cap2 : Nat) (xs : List Int) (w : World) (hr : Reads .u8 w a len cap xs) (hr2 : Reads .u8 w a2 len2 cap2 xs) :
    Calls Tryd.prog 11 #[.slice a len cap, .slice a2 len2 cap2] w fun e w' => e = .returned (.bool true) ∧ Below w.heap.size w w' := by
  have := like_r a len cap xs a2 len2 cap2 xs w hr hr2
  rw [decide_eq_true rfl] at this
  refine this.mono ?_
  rintro e w' ⟨rfl, n, rfl⟩
  exact ⟨rfl, Below.drewN (Below.refl _ _) n⟩
theorem layQ_len (xs : List Int) : (layQ xs).length ≤ 12 * xs.length + 3 := by
  have h1 := layS_len (brkL xs) false 0
  have h2 := brkS_len xs false
  unfold layQ
  unfold brkL at h1 ⊢
  omega
theorem stq {a : Option Addr} {len cap : Nat} {xs ys : List Int} {w : World} (hr : Reads .u8 w a len cap xs) (h : checkQ xs = 0) (h' : readS xs = ys) (hN : len < 1000000) (hT : Tabs w) (hm : Mx w) :
    Calls Tryd.prog 9 #[.slice a len cap] w fun e w' => ∃ a' l' c', e = .returned (.tuple #[.slice a' l' c', .int .i64 0]) ∧ Reads .u8 w' a' l' c' ys ∧ Below w.heap.size w w' := by
  have := qread_Strict a len cap xs w hr hN hT hm
  unfold stcL at this
  rw [h, if_pos rfl, h'] at this
  exact this
theorem rdq {a : Option Addr} {len cap : Nat} {xs ys : List Int} {w : World} (hr : Reads .u8 w a len cap xs) (h' : readS xs = ys) (hN : len < 1000000) (hT : Tabs w) (hm : Mx w) :
    Calls Tryd.prog 12 #[.slice a len cap] w fun e w' => ∃ a' l' c', e = .returned (.slice a' l' c') ∧ Reads .u8 w' a' l' c' ys ∧ Below w.heap.size w w' := by
  have := qread_Read a len cap xs w hr hN hT hm
  rw [h'] at this
  exact this.mono fun _ _ ⟨a', c', h1, h2, h3⟩ => ⟨a', _, c', h1, h2, h3⟩
theorem agq {a : Option Addr} {len cap : Nat} {xs ys : List Int} {w : World} (hr : Reads .u8 w a len cap xs) (h' : layQ (readS xs) = ys) (hN : len < 1000000) (hT : Tabs w) (hm : Mx w) :
    Calls Tryd.prog 14 #[.slice a len cap] w fun e w' => ∃ a' l' c', e = .returned (.slice a' l' c') ∧ Reads .u8 w' a' l' c' ys ∧ Below w.heap.size w w' := by
  have := qread_Again a len cap xs w hr hN hT hm
  rwa [h'] at this
theorem snq {a : Option Addr} {len cap : Nat} {xs : List Int} {w : World} (hr : Reads .u8 w a len cap xs) (h' : strS xs = 0) (hN : len < 1000000) (hT : Tabs w) (hm : Mx w) :
    Calls Tryd.prog 13 #[.slice a len cap] w fun e w' => e = .returned (.int .i64 0) ∧ Below w.heap.size w w' := by
  have := qread_Strange a len cap xs w hr hN hT hm
  rwa [h'] at this
set_option maxHeartbeats 4000000 in
set_option maxRecDepth 100000 in
theorem walk (a0 : Option Addr) (len0 cap0 : Nat) (xs0 : List Int) (w : World) (r0 : Reads .u8 w a0 len0 cap0 xs0) (hm : Mx w) (hT : Tabs w) :
    Calls Tryd.prog 5 #[.slice a0 len0 cap0] w fun e w' => e = .returned (.bool true) ∧ Below w.heap.size w w' := by
  have HM := hid hm
  have HT := hid hT
  clear hm hT
  by_cases hN : len0 ≤ 1000
  · have hb := fun x hx => wf_u8 (r0.wf x hx)
    have p1 := (laid_all hb).1
    obtain ⟨p2, p3, p4⟩ := read_layQ hb
    have hle := layQ_len xs0
    rw [r0.size] at hle
    have F1 := hid (ref18_Lay a0 len0 cap0 xs0 w r0 (by omega))
    have F3 := hid (fun W (hb : Below w.heap.size w W) => ref18_Breaks a0 len0 cap0 xs0 W (r0.below hb) (by omega))
    generalize layQ xs0 = L at F1 p1 p2 p3 p4 hle
    generalize brkL xs0 = C at F3 p2
    obtain ⟨n, hn⟩ : ∃ n, n = L.length := ⟨_, rfl⟩
    rw [← hn] at hle
    have HN := hid hn
    have P1 := hid p1
    have P2 := hid p2
    have P3 := hid p3
    have P4 := hid p4
    clear r0 hn hb p1 p2 p3 p4
    go_enter Tryd.func5, Tryd.ntmps5
    go_wp2_with (first
      | (go_at_call 15; (with_reducible refine F1.out.mono ?_); rintro e w1 ⟨v1, rfl, o1, h1⟩; obtain ⟨a1, c1, rfl, r1⟩ := o1.reads; rw [← HN.out] at r1; rw [← HN.out]; have R1 := hid r1; clear r1)
      | (go_at_call 9; (with_reducible refine (stq R1.out P1.out P2.out (by omega) (HT.out.below h1) (HM.out.below h1)).mono ?_); rintro e w2 ⟨a2, l2, c2, rfl, r2, h2⟩; have t2 := below_then h1 h2)
      | (go_at_call 18; (with_reducible refine (F3.out w2 t2).mono ?_); rintro e w3 ⟨v3, rfl, o3, h3⟩; obtain ⟨a3, c3, rfl, r3⟩ := o3.reads; have t3 := below_then t2 h3; have r2' := r2.below h3)
      | (go_at_call 11; (with_reducible refine (like19_same _ _ _ _ _ _ _ _ r2' r3).mono ?_); rintro e w4 ⟨rfl, h4⟩; have t4 := below_then t3 h4; have R4 := hid (((R1.out.below h2).below h3).below h4))
      | (go_at_call 12; (with_reducible refine (rdq R4.out P2.out (by omega) (HT.out.below t4) (HM.out.below t4)).mono ?_); rintro e w5 ⟨a5, l5, c5, rfl, r5, h5⟩; have t5 := below_then t4 h5; have r2q := (r2'.below h4).below h5)
      | (go_at_call 11; (with_reducible refine (like19_same _ _ _ _ _ _ _ _ r5 r2q).mono ?_); rintro e w6 ⟨rfl, h6⟩; have t6 := below_then t5 h6; have R6 := hid ((R4.out.below h5).below h6))
      | (go_at_call 14; (with_reducible refine (agq R6.out P4.out (by omega) (HT.out.below t6) (HM.out.below t6)).mono ?_); rintro e w7 ⟨a7, l7, c7, rfl, r7, h7⟩; have t7 := below_then t6 h7; have R7 := hid (R6.out.below h7))
      | (go_at_call 11; (with_reducible refine (like19_same _ _ _ _ _ _ _ _ r7 R7.out).mono ?_); rintro e w8 ⟨rfl, h8⟩; have t8 := below_then t7 h8; have R8 := hid (R7.out.below h8))
      | (go_at_call 13; (with_reducible refine (snq R8.out P3.out (by omega) (HT.out.below t8) (HM.out.below t8)).mono ?_); rintro e w9 ⟨rfl, h9⟩; have t9 := below_then t8 h9)
      | (go_at_call 7; (with_reducible refine (alive19_any _ (HT.out.below t9) (HM.out.below t9)).mono ?_); rintro e w11 ⟨rfl, h11⟩))
    go_ret
    exact ⟨rfl, below_then t9 h11⟩
  · have hN' : 1000 < len0 := by omega
    go_enter Tryd.func5, Tryd.ntmps5
    go_wp2_with (go_at_call 7; (with_reducible refine (alive19_any _ HT.out HM.out).mono ?_); rintro e w' ⟨rfl, hb⟩)
    go_ret
    exact ⟨rfl, hb⟩

def laidL : List (String × DataW Unit) := [("unicode/utf8.acceptRanges", Rows.laid_unicode_utf8_acceptRanges), ("unicode/utf8.first", Rows.laid_unicode_utf8_first)]
set_option maxRecDepth 100000 in
theorem lifted (os : Os) (started : os.Started) (H : Type) (enc : TypeId × Value → H) :
    ReturnsInHanded {} Tryd.checked os 5 .any (fun w args => (Rows.qreadBackSpec.pre enc Tryd.prog Tryd.f5 Rows.qreadBackRow.domain false w args ∧ laidMetH Tryd.prog laidL w) ∧ sizedMet enc Tryd.prog Tryd.f5 (OpenSpec.ofChange Rows.qreadBackSpec) false w args)
      (Rows.qreadBackSpec.post enc Tryd.prog Tryd.f5 false true false false) := by
  refine returnsInHanded_both (C := Tryd.checked) (X := fun w _ => laidMetH Tryd.prog laidL w) (fun _ _ _ hh h => h.of_heap hh) own started (by kernel_rfl) Tryd.func5
    (ChangeSpec.witness_shaped (enc := enc) (C := Tryd.checked) (os := os) (X := fun w _ => laidMetH Tryd.prog laidL w) false (World.laidAll Tryd.prog os laidL) #[.slice none 0 0] 8 (World.laidAll_os _ _ _)
      (World.shaped_of_ZipB (by kernel_rfl) (by kernel_rfl)) (by kernel_rfl) (by kernel_rfl) (by kernel_rfl)
      (by rw [MakeChecks.laidMetH_plain _ _ _ (by kernel_rfl)]; exact laidMet_laidAll _ (by kernel_rfl) (by kernel_rfl))) ?_
  intro W base args ds gs before hval0 hW hcnd hsh hL
  have hval : ∀ (j : Nat) t v, Tryd.f5.params[j]? = some t → args[j]? = some v → Value.okWide Tryd.prog W .any base t v := hval0
  have hW' := hW
  obtain ⟨p, q, hA0, hV, rfl, hfz, hnd⟩ := hW
  have hA : DataW.TrodAll enc Tryd.prog W 0 (fun _ => true) true Tryd.f5.params.toList args.toList ds p := hA0
  rw [Tryd.params5] at hA hval
  obtain ⟨v0, vs0, d0, ds0, p0, q0, hargs, rfl, rfl, h0, r_0⟩ := trodAll_cons hA
  obtain ⟨rfl, rfl, rfl⟩ := trodAll_nil r_0
  obtain rfl : args = #[v0] := by cases args; simp_all
  obtain ⟨rfl, rfl⟩ := trodVars_none hV
  obtain ⟨a0, len0, cap0, rfl⟩ := okWide_slice Tryd.underlying22 (hval 0 22 v0 rfl rfl)
  have k0 := h0
  have lt0 : ∀ x ∈ p0, x.block < W.heap.size := by obtain ⟨m, hm⟩ := k0; exact DataW.trod_lt m _ _ _ hm
  obtain ⟨xs0, r0⟩ : ∃ xs, Reads .u8 W a0 len0 cap0 xs := by
    obtain ⟨fuel, hf⟩ := h0
    rcases open_ints Tryd.underlying22 Tryd.underlying5 (by kernel_rfl) hf with ⟨hcs, _⟩ | ⟨x, l, c, zs, hcs, _, hl, hm, hz, _, hcell, hwz⟩
    · simp [Value.cells] at hcs
      obtain ⟨rfl, rfl, rfl⟩ := hcs
      exact ⟨[], Reads.nil _ _ _ _ (Nat.zero_le _)⟩
    · simp [Value.cells] at hcs
      obtain ⟨rfl, rfl, rfl⟩ := hcs
      exact ⟨_, reads_of_ints hl hm (by simpa using hz) hcell hwz⟩
  clear hA0 hval0
  refine (walk a0 len0 cap0 xs0 W r0 (Mx.shaped hsh) (tabs_of_laid hL)).mono fun e W' ⟨he, bel⟩ => ?_
  subst he
  exact ⟨_, rfl, _, _, _, [], _, [], hW', trodAll_mk1 (shut_bool Tryd.underlying4 _), (trodAll_cons_mk (Below.trod laidOut (by kernel_rfl) (of_decide_eq_true (by kernel_rfl)) k0 bel lt0) trodAll_mk0), rfl, bel.frame _, fun h => by cases h⟩

theorem over : Rows.qreadBackRow.holds Tryd.pinned (OpenSpec.ofChange Rows.qreadBackSpec) :=
  OpenClaim.holds_of_wide 5 Tryd.f5 rfl rfl rfl rfl rfl rfl rfl ⟨rfl, rfl, rfl, rfl, rfl⟩ rfl rfl rfl rfl rfl (by kernel_rfl) Tryd.func5 (by kernel_rfl)
    (of_decide_eq_true (by kernel_rfl)) (by unfold Func.isWrapper; first | (rw [if_pos (by decide +kernel)]; kernel_rfl) | (rw [if_neg (by decide +kernel)]; exact ⟨rfl, rfl⟩))
    (fun os started H enc _ => lifted os started H enc)

end Go.Proofs.YtpdoehdmeojmkaaDoor.qreadBack
namespace Go.Proofs.YtpdoehdmeojmkaaDoor
set_option maxRecDepth 100000 in
theorem qreadBack_holds : Rows.QreadBackCardSaid :=
  Claim7.holds_tied_plain_at .later [] [.data, .pinned] true (true, "fa53e5c62354752ee9d2bc4441a3f2aef1174715aff2b417d906bb5ce815eedd") false qreadBack.over (fun _ h => by cases h) (by kernel_rfl) (fun _ h => by cases h) qreadBack_row_tie rfl ⟨rfl, rfl⟩ (by kernel_rfl) rfl
    (fun f fn hf hfn => by
      obtain rfl : f = 5 := Option.some.inj ((show Tryd.prog.funcNamed "sheave/sheavelaw19.QreadBack" = some 5 by kernel_rfl).symm.trans hf) |>.symm
      obtain rfl : fn = Tryd.f5 := (Option.some.inj (Tryd.func5.symm.trans hfn)).symm
      exact ⟨by kernel_rfl, fun j t ht => by
        rw [Tryd.params5] at ht
        have hm : t ∈ [22] := by simpa using Array.mem_of_getElem? ht
        have hall : ([22].all fun u => !Tryd.prog.wantsStandIn u) = true := by kernel_rfl
        exact (show Tryd.prog.wantsStandIn t = false by simpa using List.all_eq_true.1 hall t hm)⟩)
    (by kernel_rfl)
#print axioms qreadBack_holds
end Go.Proofs.YtpdoehdmeojmkaaDoor
