/-
  Proved: for every []byte s (nil, empty, of any length and capacity), in whatever memory and on every schedule, sheavelaw17.BmodBack(s) returns true, without a panic or a race, and its argument reads as before. No condition.
-/
import Derived.Test.YtnbhheahfmknfaaDoorRows
import Derived.Test.YtnbhheahfmknfaaDoorAlive17
import Derived.Test.YtnbhheahfmknfaaDoorR17
import Derived.Test.YtnbhheahfmknfaaDoorCards
import Derived.Test.YtnbhheahfmknfaaDoorTie
import Derived.WalkKit
import Derived.LaidMore
import Derived.Lay
import Derived.SevenTiedAt
import Derived.Stop.Joined
import Derived.ProofKit
import Derived.OpenShut
import Derived.ShutString
import Derived.ChangeOld
import Derived.Below
namespace Go.Proofs.YtnbhheahfmknfaaDoor.bmodBack
open Go.ChangeShapes Go.WideShapes Go.ChangeAt Go.RowKit
open Go.ChangeMaps (open_string shut_string)
set_option linter.unusedVariables false

theorem own : ownKnob Tryd.prog.godebug = none := by kernel_rfl
theorem laidOut : laidOutB Tryd.prog = true := by kernel_rfl
theorem like17_same (a : Option Addr) (len cap : Nat) (a2 : Option Addr) (len2 cap2 : Nat) (xs : List Int) (w : World) (hr : Reads .u8 w a len cap xs) (hr2 : Reads .u8 w a2 len2 cap2 xs) :
    Calls Tryd.prog 10 #[.slice a len cap, .slice a2 len2 cap2] w fun e w' => e = .returned (.bool true) ∧ ∃ n, w' = w.drewN n := by
  have := like_r a len cap xs a2 len2 cap2 xs w hr hr2
  rwa [decide_eq_true rfl] at this
theorem layM_len (xs : List Int) : ((layM xs).length : Int) = lenM xs.length := by
  unfold layM turnL bareB lenM
  rw [List.length_map, List.length_map, v64_len]
  (repeat' split) <;> omega
theorem rdb {a : Option Addr} {len cap : Nat} {xs : List Int} {w : World} (ho : ∀ x ∈ xs, O8 x) (hr : Reads .u8 w a len cap (layM xs)) (hN : len < 1000000) :
    Calls Tryd.prog 14 #[.slice a len cap] w fun e w' => ∃ a' len' cap', e = .returned (.tuple #[.slice a' len' cap', .int .i64 0]) ∧ Reads .u8 w' a' len' cap' xs ∧ Below w.heap.size w w' := by
  have h := bmod_Read a len cap _ w hr hN
  rwa [(mod_lay ho).1, (mod_lay ho).2] at h
theorem rdq {a : Option Addr} {len cap : Nat} {xs ys : List Int} {w : World} {E : Int} (hr : Reads .u8 w a len cap xs) (hE : modE xs = E) (hY : modL xs = ys) (hN : len < 1000000) :
    Calls Tryd.prog 14 #[.slice a len cap] w fun e w' => ∃ a' len' cap', e = .returned (.tuple #[.slice a' len' cap', .int .i64 E]) ∧ Reads .u8 w' a' len' cap' ys ∧ Below w.heap.size w w' := hE ▸ hY ▸ bmod_Read a len cap _ w hr hN
theorem lyq {a : Option Addr} {len cap : Nat} {xs ys : List Int} {w : World} (hr : Reads .u8 w a len cap ys) (hE : layM ys = xs) (hN : len < 10000000) :
    Calls Tryd.prog 9 #[.slice a len cap] w fun e w' => ∃ a' len' cap', e = .returned (.slice a' len' cap') ∧ Reads .u8 w' a' len' cap' xs ∧ Below w.heap.size w w' := hE ▸ bmod_Lay a len cap _ w hr hN
set_option maxHeartbeats 4000000 in
set_option maxRecDepth 100000 in
theorem walk (a0 : Option Addr) (len0 cap0 : Nat) (xs0 : List Int) (w : World) (r0 : Reads .u8 w a0 len0 cap0 xs0) :
    Calls Tryd.prog 5 #[.slice a0 len0 cap0] w fun e w' => e = .returned (.bool true) ∧ Below w.heap.size w w' := by
  by_cases hN : len0 ≤ 1000
  · have R := hid r0
    have HS := hid r0.size
    have HO := hid (show ∀ x ∈ xs0, O8 x from fun x hx => wf_u8 (r0.wf x hx))
    clear r0
    by_cases hz : modE xs0 = 0
    · have HE := hid hz
      have HL := hid (lay_mod hz)
      obtain ⟨ys, hys⟩ : ∃ ys, modL xs0 = ys := ⟨_, rfl⟩
      have HLE : Hid (ys.length ≤ 1000) := by
        unfold Hid
        have h1 := rd64_len ((turnL 44 47 xs0).map valI)
        have := HS.out
        rw [← hys]
        unfold modL
        rw [if_pos hz, h1]
        unfold turnL
        rw [List.length_map, List.length_map]
        omega
      rw [hys] at HL
      have HY := hid hys
      clear hz hys
      go_enter Tryd.func5, Tryd.ntmps5
      go_wp2_with (first
        | (go_at_call 9; (with_reducible refine (bmod_Lay _ _ _ _ _ R.out (by omega)).mono ?_); rintro e w1 ⟨a1, l1, c1, rfl, r1, h1⟩; have hl1 : l1 < 100000 := (by have h1 := r1.size; have h2 := layM_len xs0; have := HS.out; unfold lenM at h2; (repeat' split at h2) <;> omega))
        | (go_at_call 14; (with_reducible refine (rdb HO.out r1 (by omega)).mono ?_); rintro e w2 ⟨a2, l2, c2, rfl, r2, h2⟩)
        | (go_at_call 10; (with_reducible refine (like17_same _ _ _ _ _ _ _ _ r2 ((R.out.below h1).below h2)).mono ?_); rintro e w3 ⟨rfl, n3, rfl⟩; have h3 := Below.drewN (Below.refl w2.heap.size w2) n3)
        | (go_at_call 14; (with_reducible refine (rdq (((R.out.below h1).below h2).below h3) HE.out HY.out (by omega)).mono ?_); rintro e w4 ⟨a4, l4, c4, rfl, r4, h4⟩; have hl4 : l4 < 100000 := (by have h1 := r4.size; have := HLE.out; omega))
        | (go_at_call 9; (with_reducible refine (lyq r4 HL.out (by omega)).mono ?_); rintro e w5 ⟨a5, l5, c5, rfl, r5, h5⟩)
        | (go_at_call 10; (with_reducible refine (like17_same _ _ _ _ _ _ _ _ r5 (((((R.out.below h1).below h2).below h3).below h4).below h5)).mono ?_); rintro e w6 ⟨rfl, n6, rfl⟩; have h6 := Below.drewN (Below.refl w5.heap.size w5) n6)
        | (go_at_call 6; (with_reducible refine (alive17_any _).mono ?_); rintro e w7 ⟨rfl, h7⟩))
      go_ret
      exact ⟨rfl, below_then (below_then (below_then (below_then (below_then (below_then h1 h2) h3) h4) h5) h6) h7⟩
    · obtain ⟨E, hEE⟩ : ∃ E, modE xs0 = E := ⟨_, rfl⟩
      have HY := hid (mod_no hz)
      rw [hEE] at hz
      have hz3 : (E != 0) = true := by simpa using hz
      have HE := hid hEE
      clear hz hEE
      go_enter Tryd.func5, Tryd.ntmps5
      go_wp2_with (first
        | (go_at_call 9; (with_reducible refine (bmod_Lay _ _ _ _ _ R.out (by omega)).mono ?_); rintro e w1 ⟨a1, l1, c1, rfl, r1, h1⟩; have hl1 : l1 < 100000 := (by have h1 := r1.size; have h2 := layM_len xs0; have := HS.out; unfold lenM at h2; (repeat' split at h2) <;> omega))
        | (go_at_call 14; (with_reducible refine (rdb HO.out r1 (by omega)).mono ?_); rintro e w2 ⟨a2, l2, c2, rfl, r2, h2⟩)
        | (go_at_call 10; (with_reducible refine (like17_same _ _ _ _ _ _ _ _ r2 ((R.out.below h1).below h2)).mono ?_); rintro e w3 ⟨rfl, n3, rfl⟩; have h3 := Below.drewN (Below.refl w2.heap.size w2) n3)
        | (go_at_call 14; (with_reducible refine (rdq (((R.out.below h1).below h2).below h3) HE.out HY.out (by omega)).mono ?_); rintro e w4 ⟨a4, l4, c4, rfl, r4, h4⟩; obtain rfl : l4 = 0 := r4.size.symm)
        | (go_at_call 6; (with_reducible refine (alive17_any _).mono ?_); rintro e w5 ⟨rfl, h5⟩))
      go_ret
      exact ⟨rfl, below_then (below_then (below_then (below_then h1 h2) h3) h4) h5⟩
  · have hN' : 1000 < len0 := by omega
    go_enter Tryd.func5, Tryd.ntmps5
    go_wp2_with (go_at_call 6; (with_reducible refine (alive17_any _).mono ?_); rintro e w' ⟨rfl, hb⟩)
    go_ret
    exact ⟨rfl, hb⟩

def laidL : List (String × DataW Unit) := [("unicode/utf8.acceptRanges", Rows.laid_unicode_utf8_acceptRanges), ("unicode/utf8.first", Rows.laid_unicode_utf8_first)]
set_option maxRecDepth 100000 in
theorem lifted (os : Os) (started : os.Started) (H : Type) (enc : TypeId × Value → H) :
    ReturnsInHanded {} Tryd.checked os 5 .any (fun w args => (Rows.bmodBackSpec.pre enc Tryd.prog Tryd.f5 Rows.bmodBackRow.domain false w args ∧ laidMetH Tryd.prog laidL w) ∧ sizedMet enc Tryd.prog Tryd.f5 (OpenSpec.ofChange Rows.bmodBackSpec) false w args)
      (Rows.bmodBackSpec.post enc Tryd.prog Tryd.f5 false true false false) := by
  refine returnsInHanded_of_change_and (C := Tryd.checked) (X := fun w _ => laidMetH Tryd.prog laidL w) (fun _ _ _ hh h => h.of_heap hh) own started (by kernel_rfl) Tryd.func5
    (ChangeSpec.witness_shaped (enc := enc) (C := Tryd.checked) (os := os) (X := fun w _ => laidMetH Tryd.prog laidL w) false (World.laidAll Tryd.prog os laidL) #[.slice none 0 0] 8 (World.laidAll_os _ _ _)
      (World.shaped_of_ZipB (by kernel_rfl) (by kernel_rfl)) (by kernel_rfl) (by kernel_rfl) (by kernel_rfl)
      (by rw [MakeChecks.laidMetH_plain _ _ _ (by kernel_rfl)]; exact laidMet_laidAll _ (by kernel_rfl) (by kernel_rfl))) ?_
  intro W base args ds gs before hval0 hW hcnd _ _ _
  have hval : ∀ (j : Nat) t v, Tryd.f5.params[j]? = some t → args[j]? = some v → Value.okWide Tryd.prog W .any base t v := hval0
  have hW' := hW
  obtain ⟨p, q, hA0, hV, rfl, hfz, hnd⟩ := hW
  have hA : DataW.TrodAll enc Tryd.prog W 0 (fun _ => true) true Tryd.f5.params.toList args.toList ds p := hA0
  rw [Tryd.params5] at hA hval
  obtain ⟨v0, vs0, d0, ds0, p0, q0, hargs, rfl, rfl, h0, r_0⟩ := trodAll_cons hA
  obtain ⟨rfl, rfl, rfl⟩ := trodAll_nil r_0
  obtain rfl : args = #[v0] := by cases args; simp_all
  obtain ⟨rfl, rfl⟩ := trodVars_none hV
  obtain ⟨a0, len0, cap0, rfl⟩ := okWide_slice Tryd.underlying22 (hval 0 22 v0 rfl rfl)
  have k0 := h0
  have lt0 : ∀ x ∈ p0, x.block < W.heap.size := by obtain ⟨m, hm⟩ := k0; exact DataW.trod_lt m _ _ _ hm
  obtain ⟨xs0, r0⟩ : ∃ xs, Reads .u8 W a0 len0 cap0 xs := by
    obtain ⟨fuel, hf⟩ := h0
    rcases open_ints Tryd.underlying22 Tryd.underlying5 (by kernel_rfl) hf with ⟨hcs, _⟩ | ⟨x, l, c, zs, hcs, _, hl, hm, hz, _, hcell, hwz⟩
    · simp [Value.cells] at hcs
      obtain ⟨rfl, rfl, rfl⟩ := hcs
      exact ⟨[], Reads.nil _ _ _ _ (Nat.zero_le _)⟩
    · simp [Value.cells] at hcs
      obtain ⟨rfl, rfl, rfl⟩ := hcs
      exact ⟨_, reads_of_ints hl hm (by simpa using hz) hcell hwz⟩
  clear hA0 hval0
  refine (walk a0 len0 cap0 xs0 W r0).mono fun e W' ⟨he, bel⟩ => ?_
  subst he
  exact ⟨_, rfl, _, _, _, [], _, [], hW', trodAll_mk1 (shut_bool Tryd.underlying4 _), (trodAll_cons_mk (Below.trod laidOut (by kernel_rfl) (of_decide_eq_true (by kernel_rfl)) k0 bel lt0) trodAll_mk0), rfl, bel.frame _, fun h => by cases h⟩

theorem over : Rows.bmodBackRow.holds Tryd.pinned (OpenSpec.ofChange Rows.bmodBackSpec) :=
  OpenClaim.holds_of_wide 5 Tryd.f5 rfl rfl rfl rfl rfl rfl rfl ⟨rfl, rfl, rfl, rfl, rfl⟩ rfl rfl rfl rfl rfl (by kernel_rfl) Tryd.func5 (by kernel_rfl)
    (of_decide_eq_true (by kernel_rfl)) (by unfold Func.isWrapper; first | (rw [if_pos (by decide +kernel)]; kernel_rfl) | (rw [if_neg (by decide +kernel)]; exact ⟨rfl, rfl⟩))
    (fun os started H enc _ => lifted os started H enc)

end Go.Proofs.YtnbhheahfmknfaaDoor.bmodBack
namespace Go.Proofs.YtnbhheahfmknfaaDoor
set_option maxRecDepth 100000 in
theorem bmodBack_holds : Rows.BmodBackCardSaid :=
  Claim7.holds_tied_plain_at .later [] [.data, .pinned] true (true, "e6f4a716e8c82a135ead485c7d6be53da38e3679b8c9fc8f7743b71b65e973c7") false bmodBack.over (fun _ h => by cases h) (by kernel_rfl) (fun _ h => by cases h) bmodBack_row_tie rfl ⟨rfl, rfl⟩ (by kernel_rfl) rfl
    (fun f fn hf hfn => by
      obtain rfl : f = 5 := Option.some.inj ((show Tryd.prog.funcNamed "sheave/sheavelaw17.BmodBack" = some 5 by kernel_rfl).symm.trans hf) |>.symm
      obtain rfl : fn = Tryd.f5 := (Option.some.inj (Tryd.func5.symm.trans hfn)).symm
      exact ⟨by kernel_rfl, fun j t ht => by
        rw [Tryd.params5] at ht
        have hm : t ∈ [22] := by simpa using Array.mem_of_getElem? ht
        have hall : ([22].all fun u => !Tryd.prog.wantsStandIn u) = true := by kernel_rfl
        exact (show Tryd.prog.wantsStandIn t = false by simpa using List.all_eq_true.1 hall t hm)⟩)
    (by kernel_rfl)
#print axioms bmodBack_holds
end Go.Proofs.YtnbhheahfmknfaaDoor
