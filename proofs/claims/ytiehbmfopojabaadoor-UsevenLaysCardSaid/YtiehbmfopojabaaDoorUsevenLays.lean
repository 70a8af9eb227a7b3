/-
  Proved: for every []rune t (nil, empty, of any length and capacity), in whatever memory and on every schedule, sheavelaw22.UsevenLays(t) returns true, without a panic or a race, and its argument reads as before. No condition.
-/
import Derived.Test.YtiehbmfopojabaaDoorRows
import Derived.Test.YtiehbmfopojabaaDoorAlive22
import Derived.Test.YtiehbmfopojabaaDoorR22b
import Derived.Test.YtiehbmfopojabaaDoorCards
import Derived.Test.YtiehbmfopojabaaDoorTie
import Derived.WalkKit
import Derived.LaidMore
import Derived.Lay
import Derived.SevenTiedAt
import Derived.Stop.Joined
import Derived.ProofKit
import Derived.OpenShut
import Derived.ShutString
import Derived.ChangeOld
import Derived.Below
namespace Go.Proofs.YtiehbmfopojabaaDoor.usevenLays
open Go.ChangeShapes Go.WideShapes Go.ChangeAt Go.RowKit
open Go.ChangeMaps (open_string shut_string)
set_option linter.unusedVariables false

theorem own : ownKnob Tryd.prog.godebug = none := by kernel_rfl
theorem laidOut : laidOutB Tryd.prog = true := by kernel_rfl
theorem like22_same (a : Option Addr) (len cap : Nat) (a2 : Option Addr) (len2 cap2 : Nat) (xs : List Int) (w : World) (hr : Reads .u8 w a len cap xs) (hr2 : Reads .u8 w a2 len2 cap2 xs) :
    Calls Tryd.prog 9 #[.slice a len cap, .slice a2 len2 cap2] w fun e w' => e = .returned (.bool true) ∧ ∃ n, w' = w.drewN n := by
  have := like_r a len cap xs a2 len2 cap2 xs w hr hr2
  rwa [decide_eq_true rfl] at this
set_option maxHeartbeats 4000000 in
set_option maxRecDepth 100000 in
theorem walk (a0 : Option Addr) (len0 cap0 : Nat) (xs0 : List Int) (w : World) (r0 : Reads .i32 w a0 len0 cap0 xs0) :
    Calls Tryd.prog 3 #[.slice a0 len0 cap0] w fun e w' => e = .returned (.bool true) ∧ Below w.heap.size w w' := by
  by_cases hN : len0 ≤ 200
  · have R := hid r0
    clear r0
    have hE : lay7E xs0 = 0 ∨ lay7E xs0 = 7 := by unfold lay7E; split <;> simp
    have HL := hid (fun W (hb : Below w.heap.size w W) => useven_Lay _ _ _ _ W (R.out.below hb) (by omega))
    have HRL := hid (fun W (hb : Below w.heap.size w W) => ref22_Lay _ _ _ _ W (R.out.below hb) (by omega))
    have HRU := hid (fun W (hb : Below w.heap.size w W) => useven_Runs _ _ _ _ W (R.out.below hb) (by omega))
    have HLE := hid (fun W (hb : Below w.heap.size w W) => useven_Len _ _ _ _ W (R.out.below hb) (by omega))
    have HC := hid (fun W (hb : Below w.heap.size w W) => useven_Code _ _ _ _ W (R.out.below hb) (by omega))
    have HRC := hid (fun W (hb : Below w.heap.size w W) => ref22_Code _ _ _ _ W (R.out.below hb) (by omega))
    generalize lay7E xs0 = E at hE HL HRL
    generalize lay7 xs0 = L at HL HRL HLE
    generalize runN xs0 false = U at HRL HRU
    generalize codU xs0 = CU at HC HRC
    clear hE
    go_enter Tryd.func3, Tryd.ntmps3
    go_wp2_with (first
      | (go_at_call 7; (with_reducible refine (HL.out _ (Below.refl _ _)).mono ?_); rintro e w1 ⟨v1, rfl, o1, h1⟩; obtain ⟨a1, c1, rfl, r1⟩ := o1.reads)
      | (go_at_call 8; (with_reducible refine (HRL.out _ h1).mono ?_); rintro e w2 ⟨v2, rfl, o2, h2⟩; obtain ⟨a2, c2, rfl, r2⟩ := o2.reads; have t2 := below_then h1 h2)
      | (go_at_call 9; (with_reducible refine (like22_same _ _ _ _ _ _ _ _ (r1.below h2) r2).mono ?_); rintro e w3 ⟨rfl, n3, rfl⟩; have t3 := Below.drewN t2 n3)
      | (go_at_call 10; (with_reducible refine (HRU.out _ t3).mono ?_); rintro e w4 ⟨rfl, h4⟩; have t4 := below_then t3 h4)
      | (go_at_call 11; (with_reducible refine (HLE.out _ t4).mono ?_); rintro e w5 ⟨rfl, h5⟩; have t5 := below_then t4 h5)
      | (go_at_call 12; (with_reducible refine (HC.out _ t5).mono ?_); rintro e w6 ⟨v6, rfl, o6, h6⟩; obtain ⟨a6, c6, rfl, r6⟩ := o6.reads; have t6 := below_then t5 h6)
      | (go_at_call 13; (with_reducible refine (HRC.out _ t6).mono ?_); rintro e w7 ⟨v7, rfl, o7, h7⟩; obtain ⟨a7, c7, rfl, r7⟩ := o7.reads; have t7 := below_then t6 h7)
      | (go_at_call 9; (with_reducible refine (like22_same _ _ _ _ _ _ _ _ (r6.below h7) r7).mono ?_); rintro e w8 ⟨rfl, n8, rfl⟩; have t8 := Below.drewN t7 n8)
      | (go_at_call 6; (with_reducible refine (alive22_any _).mono ?_); rintro e w9 ⟨rfl, h9⟩))
    go_ret
    exact ⟨rfl, below_then t8 h9⟩
  · have hN' : 200 < len0 := by omega
    go_enter Tryd.func3, Tryd.ntmps3
    go_wp2_with (go_at_call 6; (with_reducible refine (alive22_any _).mono ?_); rintro e w' ⟨rfl, hb⟩)
    go_ret
    exact ⟨rfl, hb⟩

def laidL : List (String × DataW Unit) := [("unicode/utf8.acceptRanges", Rows.laid_unicode_utf8_acceptRanges), ("unicode/utf8.first", Rows.laid_unicode_utf8_first)]
set_option maxRecDepth 100000 in
theorem lifted (os : Os) (started : os.Started) (H : Type) (enc : TypeId × Value → H) :
    ReturnsInHanded {} Tryd.checked os 3 .any (fun w args => (Rows.usevenLaysSpec.pre enc Tryd.prog Tryd.f3 Rows.usevenLaysRow.domain false w args ∧ laidMetH Tryd.prog laidL w) ∧ sizedMet enc Tryd.prog Tryd.f3 (OpenSpec.ofChange Rows.usevenLaysSpec) false w args)
      (Rows.usevenLaysSpec.post enc Tryd.prog Tryd.f3 false true false false) := by
  refine returnsInHanded_of_change_and (C := Tryd.checked) (X := fun w _ => laidMetH Tryd.prog laidL w) (fun _ _ _ hh h => h.of_heap hh) own started (by kernel_rfl) Tryd.func3
    (ChangeSpec.witness_shaped (enc := enc) (C := Tryd.checked) (os := os) (X := fun w _ => laidMetH Tryd.prog laidL w) false (World.laidAll Tryd.prog os laidL) #[.slice none 0 0] 8 (World.laidAll_os _ _ _)
      (World.shaped_of_ZipB (by kernel_rfl) (by kernel_rfl)) (by kernel_rfl) (by kernel_rfl) (by kernel_rfl)
      (by rw [MakeChecks.laidMetH_plain _ _ _ (by kernel_rfl)]; exact laidMet_laidAll _ (by kernel_rfl) (by kernel_rfl))) ?_
  intro W base args ds gs before hval0 hW hcnd _ _ _
  have hval : ∀ (j : Nat) t v, Tryd.f3.params[j]? = some t → args[j]? = some v → Value.okWide Tryd.prog W .any base t v := hval0
  have hW' := hW
  obtain ⟨p, q, hA0, hV, rfl, hfz, hnd⟩ := hW
  have hA : DataW.TrodAll enc Tryd.prog W 0 (fun _ => true) true Tryd.f3.params.toList args.toList ds p := hA0
  rw [Tryd.params3] at hA hval
  obtain ⟨v0, vs0, d0, ds0, p0, q0, hargs, rfl, rfl, h0, r_0⟩ := trodAll_cons hA
  obtain ⟨rfl, rfl, rfl⟩ := trodAll_nil r_0
  obtain rfl : args = #[v0] := by cases args; simp_all
  obtain ⟨rfl, rfl⟩ := trodVars_none hV
  obtain ⟨a0, len0, cap0, rfl⟩ := okWide_slice Tryd.underlying22 (hval 0 22 v0 rfl rfl)
  have k0 := h0
  have lt0 : ∀ x ∈ p0, x.block < W.heap.size := by obtain ⟨m, hm⟩ := k0; exact DataW.trod_lt m _ _ _ hm
  obtain ⟨xs0, r0⟩ : ∃ xs, Reads .i32 W a0 len0 cap0 xs := by
    obtain ⟨fuel, hf⟩ := h0
    rcases open_ints Tryd.underlying22 Tryd.underlying21 (by kernel_rfl) hf with ⟨hcs, _⟩ | ⟨x, l, c, zs, hcs, _, hl, hm, hz, _, hcell, hwz⟩
    · simp [Value.cells] at hcs
      obtain ⟨rfl, rfl, rfl⟩ := hcs
      exact ⟨[], Reads.nil _ _ _ _ (Nat.zero_le _)⟩
    · simp [Value.cells] at hcs
      obtain ⟨rfl, rfl, rfl⟩ := hcs
      exact ⟨_, reads_of_ints hl hm (by simpa using hz) hcell hwz⟩
  clear hA0 hval0
  refine (walk a0 len0 cap0 xs0 W r0).mono fun e W' ⟨he, bel⟩ => ?_
  subst he
  exact ⟨_, rfl, _, _, _, [], _, [], hW', trodAll_mk1 (shut_bool Tryd.underlying4 _), (trodAll_cons_mk (Below.trod laidOut (by kernel_rfl) (of_decide_eq_true (by kernel_rfl)) k0 bel lt0) trodAll_mk0), rfl, bel.frame _, fun h => by cases h⟩

theorem over : Rows.usevenLaysRow.holds Tryd.pinned (OpenSpec.ofChange Rows.usevenLaysSpec) :=
  OpenClaim.holds_of_wide 3 Tryd.f3 rfl rfl rfl rfl rfl rfl rfl ⟨rfl, rfl, rfl, rfl, rfl⟩ rfl rfl rfl rfl rfl (by kernel_rfl) Tryd.func3 (by kernel_rfl)
    (of_decide_eq_true (by kernel_rfl)) (by unfold Func.isWrapper; first | (rw [if_pos (by decide +kernel)]; kernel_rfl) | (rw [if_neg (by decide +kernel)]; exact ⟨rfl, rfl⟩))
    (fun os started H enc _ => lifted os started H enc)

end Go.Proofs.YtiehbmfopojabaaDoor.usevenLays
namespace Go.Proofs.YtiehbmfopojabaaDoor
set_option maxRecDepth 100000 in
theorem usevenLays_holds : Rows.UsevenLaysCardSaid :=
  Claim7.holds_tied_plain_at .later [] [.data, .pinned] true (true, "ab886175a3bafb89f28444a3b9ab3e559c7a55962537967060480334f18b6c04") false usevenLays.over (fun _ h => by cases h) (by kernel_rfl) (fun _ h => by cases h) usevenLays_row_tie rfl ⟨rfl, rfl⟩ (by kernel_rfl) rfl
    (fun f fn hf hfn => by
      obtain rfl : f = 3 := Option.some.inj ((show Tryd.prog.funcNamed "sheave/sheavelaw22.UsevenLays" = some 3 by kernel_rfl).symm.trans hf) |>.symm
      obtain rfl : fn = Tryd.f3 := (Option.some.inj (Tryd.func3.symm.trans hfn)).symm
      exact ⟨by kernel_rfl, fun j t ht => by
        rw [Tryd.params3] at ht
        have hm : t ∈ [22] := by simpa using Array.mem_of_getElem? ht
        have hall : ([22].all fun u => !Tryd.prog.wantsStandIn u) = true := by kernel_rfl
        exact (show Tryd.prog.wantsStandIn t = false by simpa using List.all_eq_true.1 hall t hm)⟩)
    (by kernel_rfl)
#print axioms usevenLays_holds
end Go.Proofs.YtiehbmfopojabaaDoor
