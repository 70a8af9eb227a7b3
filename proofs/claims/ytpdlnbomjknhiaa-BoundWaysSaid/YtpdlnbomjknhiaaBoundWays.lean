/-
  Proved: for every []byte s (nil, empty, of any length and capacity), in whatever memory and on every schedule, sheavelaw07.BoundWays(s) returns true, without a panic or a race, and its argument reads as before. No condition.
-/
import Derived.Test.YtpdlnbomjknhiaaRows
import Derived.Test.YtpdlnbomjknhiaaAlive07
import Derived.Test.YtpdlnbomjknhiaaHeld
import Derived.WalkKit
import Derived.ProofKit
import Derived.OpenShut
import Derived.ShutString
import Derived.ChangeOld
import Derived.Below
namespace Go.Proofs.Ytpdlnbomjknhiaa.boundWays
open Go.ChangeShapes Go.WideShapes Go.ChangeAt Go.RowKit
open Go.ChangeMaps (open_string shut_string)
set_option linter.unusedVariables false

theorem own : ownKnob Try.prog.godebug = none := by kernel_rfl
theorem laidOut : laidOutB Try.prog = true := by kernel_rfl
theorem placesL (a : Option Addr) (len cap : Nat) (xs : List Int) (w : World) (hr : Reads .u8 w a len cap xs) (hN : len < 100000000) (m : Nat) (hm : (segs xs).length = m) :
    Calls Try.prog 8 #[.slice a len cap] w fun e w' => ∃ a' cap', e = .returned (.slice a' (m + 1) cap') ∧ Reads .i64 w' a' (m + 1) cap' (plc xs) ∧ Below w.heap.size w w' := by
  refine (bound_Places _ _ _ _ _ hr hN).mono ?_
  rintro e w' ⟨g, c', rfl, ho, hb⟩
  subst hm
  exact ⟨_, _, rfl, (places_row ho).1, hb⟩
/-! ### forward and back -/
theorem find_at {zs : List Int} {f : Int → Bool} {k : Nat} {x : Int} (hx : zs[k]? = some x) (hf : f x = true) (hn : ∀ j y, j < k → zs[j]? = some y → f y = false) : zs.find? f = some x := by
  refine find_stop hx ?_ hf
  rw [List.find?_eq_none]
  intro y hy
  obtain ⟨j, hj⟩ := List.getElem?_of_mem hy
  have hl : j < (zs.take k).length := (List.getElem?_eq_some_iff.1 hj).1
  rw [List.getElem?_take_of_lt (by simp at hl; omega)] at hj
  simp [hn j y (by simp at hl; omega) hj]
theorem last_at {zs : List Int} {f : Int → Bool} {k : Nat} {x : Int} (hx : zs[k]? = some x) (hf : f x = true) (hn : ∀ j y, k < j → zs[j]? = some y → f y = false) : lastF f zs = some x := by
  have hk : k < zs.length := (List.getElem?_eq_some_iff.1 hx).1
  have hsp := List.take_append_drop (k + 1) zs
  have htk := List.take_succ_eq_append_getElem hk
  rw [(List.getElem?_eq_some_iff.1 hx).2] at htk
  unfold lastF
  rw [← hsp, htk, List.reverse_append, List.find?_append]
  have h1 : (zs.drop (k + 1)).reverse.find? f = none := by
    rw [List.find?_eq_none]
    intro y hy
    obtain ⟨j, hj⟩ := List.getElem?_of_mem (List.mem_reverse.1 hy)
    rw [List.getElem?_drop] at hj
    simp [hn (k + 1 + j) y (by omega) hj]
  rw [h1]
  simp [hf]
theorem way_next {xs : List Int} {k : Nat} {x y : Int} (hx : (plc xs)[k]? = some x) (hy : (plc xs)[k + 1]? = some y) (len : Int) : nxtP (plc xs) x len = y := by
  unfold nxtP
  rw [find_at (x := y) (k := k + 1) hy (decide_eq_true (plc_up xs (Nat.lt_succ_self k) hx hy)) (fun j z hj hz => ?_)]
  · rfl
  · rw [decide_eq_false_iff_not]
    rcases Nat.lt_or_ge j k with h | h
    · have := plc_up xs h hz hx; omega
    · obtain rfl : j = k := by omega
      rw [hx] at hz; cases hz; omega
theorem way_back {xs : List Int} {k : Nat} {x y : Int} (hx : (plc xs)[k]? = some x) (hy : (plc xs)[k + 1]? = some y) : bckP (plc xs) y = x := by
  unfold bckP
  rw [last_at (x := x) (k := k) hx (decide_eq_true (plc_up xs (Nat.lt_succ_self k) hx hy)) (fun j z hj hz => ?_)]
  · rfl
  · rw [decide_eq_false_iff_not]
    rcases Nat.lt_or_ge (k + 1) j with h | h
    · have := plc_up xs h hy hz; omega
    · obtain rfl : j = k + 1 := by omega
      rw [hy] at hz; cases hz; omega
theorem way_nth {xs : List Int} {k : Nat} {x : Int} (hx : (plc xs)[k]? = some x) : nthP (plc xs) k = x := by
  have hk : k < (plc xs).length := (List.getElem?_eq_some_iff.1 hx).1
  exact nth_at (by omega) hx
theorem way_low (xs : List Int) : bckP (plc xs) 0 = 0 := by
  refine bck_all ?_
  unfold NoneP
  rw [List.find?_eq_none]
  intro y hy
  have := plc_bd xs y (List.mem_reverse.1 hy)
  simp; omega
theorem way_high (xs : List Int) : nxtP (plc xs) xs.length xs.length = xs.length := by
  unfold nxtP
  have : (plc xs).find? (fun x => decide ((xs.length : Int) < x)) = none := by
    rw [List.find?_eq_none]
    intro y hy
    have := plc_bd xs y hy
    simp; omega
  rw [this]; rfl
theorem way_neg (xs : List Int) : decide ((-1 : Int) ∈ plc xs) = false := by
  rw [decide_eq_false_iff_not]
  intro h
  have := plc_bd xs _ h
  omega
set_option maxHeartbeats 4000000 in
set_option maxRecDepth 100000 in
theorem walk (a0 : Option Addr) (len0 cap0 : Nat) (xs0 : List Int) (w : World) (r0 : Reads .u8 w a0 len0 cap0 xs0) :
    Calls Try.prog 6 #[.slice a0 len0 cap0] w fun e w' => e = .returned (.bool true) ∧ Below w.heap.size w w' := by
  by_cases hN : len0 ≤ 300
  · have hse := segs_le xs0
    have hsz := r0.size
    obtain ⟨m, hm⟩ : ∃ m, (segs xs0).length = m := ⟨_, rfl⟩
    have hml : m ≤ 300 := by omega
    have hL : len0 < 100000000 := by omega
    have hPL := fun w (hr : Reads .u8 w a0 len0 cap0 xs0) => placesL a0 len0 cap0 xs0 w hr hL m hm
    have hlast := hid (plc_last xs0)
    rw [hm, hsz] at hlast
    have R := hid r0
    have e1 := way_low xs0
    have e2 := way_high xs0
    have e3 := way_neg xs0
    rw [hsz] at e2
    have hA3 := fun w (hr : Reads .u8 w a0 len0 cap0 xs0) => bound_At a0 len0 cap0 xs0 (-1) w hr hL (by decide)
    have hB3 := fun w (hr : Reads .u8 w a0 len0 cap0 xs0) => bound_Back a0 len0 cap0 xs0 0 w hr hL (by decide)
    have hN3 := fun w (hr : Reads .u8 w a0 len0 cap0 xs0) => bound_Next a0 len0 cap0 xs0 len0 w hr hL (WalkArith.wf_i64 (by omega))
    rw [e3] at hA3
    rw [e1] at hB3
    rw [e2] at hN3
    have hm1 : ((m : Int) + 1 == 0) = false := beq_eq_false_iff_ne.2 (by omega)
    clear r0 hm hse e1 e2 e3
    go_enter Try.func6, Try.ntmps6
    go_wp2_with (go_at_call 8; (with_reducible refine (hPL _ R.out).mono ?_); rintro e w2 ⟨a2, c2, rfl, hr2, hb2⟩; have R2 := hid (R.out.below hb2); have H2 := hid hr2; obtain ⟨b, off, x0, rfl, _, hc0, hx0⟩ := hr2.getI (i := 0) (by omega); obtain ⟨b', off', xl, hb', _, hcl, hxl⟩ := hr2.getI (i := m) (by omega); cases hb'; obtain rfl : x0 = 0 := Option.some.inj (hx0.out.1.symm.trans (show (plc xs0)[0]? = some 0 from rfl)); obtain rfl : xl = (len0 : Int) := Option.some.inj (hxl.out.1.symm.trans hlast.out); simp only [Nat.add_zero] at hc0; clear hr2)
    have HB2 := hid hb2
    clear hb2 hc0 hcl hx0 hxl hPL
    go_loopw [34] (fun i wr => ∃ k : Nat, k ≤ m + 1 ∧ i = .int .i64 k ∧ Below w2.heap.size w2 wr) (fun i _ => m + 1 - (intOf i).toNat)
    case atStart => exact ⟨0, Nat.zero_le _, rfl, Below.refl _ _⟩
    case round =>
      obtain ⟨k, hk, rfl, hbel⟩ := hrel
      by_cases hlt : k < m + 1
      · obtain ⟨b', off', x, hb', hbl, hcx, hx⟩ := (H2.out.below hbel).getI (i := k) hlt
        cases hb'
        have hA : ∀ w, Reads .u8 w a0 len0 cap0 xs0 → Calls Try.prog 10 #[.slice a0 len0 cap0, .int .i64 x] w fun e w' => e = .returned (.bool true) ∧ Below w.heap.size w w' := by
          intro w hr
          have := bound_At a0 len0 cap0 xs0 x w hr hL hx.out.2.2
          rwa [decide_eq_true (List.mem_of_getElem? hx.out.1)] at this
        have hNt : ∀ w, Reads .u8 w a0 len0 cap0 xs0 → Calls Try.prog 15 #[.slice a0 len0 cap0, .int .i64 k] w fun e w' => e = .returned (.int .i64 x) ∧ Below w.heap.size w w' := by
          intro w hr
          have := bound_Nth a0 len0 cap0 xs0 k w hr hL (WalkArith.wf_i64 (by omega))
          rwa [way_nth hx.out.1] at this
        have X0 := hid ((R2.out.below hbel).below (below_drew (Below.refl _ wr)))
        have hb0 := below_drew hbel
        by_cases hk0 : k = 0
        · subst hk0
          simp only [Nat.add_zero] at hcx
          have hN0 : ∀ w, Reads .u8 w a0 len0 cap0 xs0 → Calls Try.prog 15 #[.slice a0 len0 cap0, .int .i64 0] w fun e w' => e = .returned (.int .i64 x) ∧ Below w.heap.size w w' := fun w hr => hNt w hr
          clear hNt
          go_wp2_with fail
          refine wp_region_any (by kernel_rfl) ?_
          change wpAny _ _ _ _ _ _ _ (World.drew _)
          clear hA3 hB3 hN3 hlast hx hcx
          refine wpAny_take (i := 0) (v := .slice a0 len0 cap0) rfl (by kernel_rfl) (by kernel_rfl) (by kernel_rfl) (fun _ _ _ h => h) (Or.inl ⟨by rfl, fun w => by go_simp⟩) ?_
          try simp only [Act.put, List.getElem_toArray, List.getElem_cons_zero, List.setIfInBounds_toArray, List.set_cons_zero, List.set_cons_succ]
          refine wpAny_take (i := 1) (v := .int .i64 x) rfl (by kernel_rfl) (by kernel_rfl) (by kernel_rfl) (fun _ _ _ h => h) (Or.inl ⟨by rfl, fun w => by go_simp⟩) ?_
          try simp only [Act.put, List.getElem_toArray, List.getElem_cons_succ, List.getElem_cons_zero, List.setIfInBounds_toArray, List.set_cons_zero, List.set_cons_succ]
          refine wpAny_ready (rs := [2]) (by kernel_rfl) (by simp) ?_
          refine AllReady.cons rfl (fun K hK => ?_) AllReady.nil
          go_simp
          (with_reducible refine (hA _ X0.out).mono ?_); rintro e w4 ⟨rfl, hb4⟩; have X4 := hid (X0.out.below hb4); have hb4' := below_then hb0 hb4
          refine hK _ _ ?_
          clear hK K
          try simp only [Act.put, List.getElem_toArray, List.getElem_cons_succ, List.getElem_cons_zero, List.setIfInBounds_toArray, List.set_cons_zero, List.set_cons_succ]
          refine wpAny_take (i := 3) (v := .bool false) rfl (by kernel_rfl) (by kernel_rfl) (by kernel_rfl) (fun _ _ _ h => h) (Or.inl ⟨by rfl, fun w => by go_simp⟩) ?_
          try simp only [Act.put, List.getElem_toArray, List.getElem_cons_succ, List.getElem_cons_zero, List.setIfInBounds_toArray, List.set_cons_zero, List.set_cons_succ]
          refine wpAny_take (i := 4) (v := .bool false) rfl (by kernel_rfl) (by kernel_rfl) (by kernel_rfl) (fun _ _ _ h => h) (Or.inl ⟨by rfl, fun w => by go_simp⟩) ?_
          try simp only [Act.put, List.getElem_toArray, List.getElem_cons_succ, List.getElem_cons_zero, List.setIfInBounds_toArray, List.set_cons_zero, List.set_cons_succ]
          refine wpAny_take (i := 5) (v := .slice a0 len0 cap0) rfl (by kernel_rfl) (by kernel_rfl) (by kernel_rfl) (fun _ _ _ h => h) (Or.inl ⟨by rfl, fun w => by go_simp⟩) ?_
          try simp only [Act.put, List.getElem_toArray, List.getElem_cons_succ, List.getElem_cons_zero, List.setIfInBounds_toArray, List.set_cons_zero, List.set_cons_succ]
          refine wpAny_take (i := 6) (v := .int .i64 0) rfl (by kernel_rfl) (by kernel_rfl) (by kernel_rfl) (fun _ _ _ h => h) (Or.inl ⟨by rfl, fun w => by go_simp⟩) ?_
          try simp only [Act.put, List.getElem_toArray, List.getElem_cons_succ, List.getElem_cons_zero, List.setIfInBounds_toArray, List.set_cons_zero, List.set_cons_succ]
          refine wpAny_take (i := 8) (v := .int .i64 x) rfl (by kernel_rfl) (by kernel_rfl) (by kernel_rfl) (fun _ _ _ h => h) (Or.inl ⟨by rfl, fun w => by go_simp⟩) ?_
          try simp only [Act.put, List.getElem_toArray, List.getElem_cons_succ, List.getElem_cons_zero, List.setIfInBounds_toArray, List.set_cons_zero, List.set_cons_succ]
          refine wpAny_ready (rs := [7]) (by kernel_rfl) (by simp) ?_
          refine AllReady.cons rfl (fun K hK => ?_) AllReady.nil
          go_simp
          (with_reducible refine (hN0 _ X4.out).mono ?_); rintro e w5 ⟨rfl, hb5⟩; have hb5' := below_then hb4' hb5
          refine hK _ _ ?_
          clear hK K
          try simp only [Act.put, List.getElem_toArray, List.getElem_cons_succ, List.getElem_cons_zero, List.setIfInBounds_toArray, List.set_cons_zero, List.set_cons_succ]
          refine wpAny_take (i := 9) (v := .bool false) rfl (by kernel_rfl) (by kernel_rfl) (by kernel_rfl) (fun _ _ _ h => h) (Or.inl ⟨by rfl, fun w => by go_simp⟩) ?_
          try simp only [Act.put, List.getElem_toArray, List.getElem_cons_succ, List.getElem_cons_zero, List.setIfInBounds_toArray, List.set_cons_zero, List.set_cons_succ]
          refine wpAny_take (i := 10) (v := .bool false) rfl (by kernel_rfl) (by kernel_rfl) (by kernel_rfl) (fun _ _ _ h => h) (Or.inl ⟨by rfl, fun w => by go_simp⟩) ?_
          try simp only [Act.put, List.getElem_toArray, List.getElem_cons_succ, List.getElem_cons_zero, List.setIfInBounds_toArray, List.set_cons_zero, List.set_cons_succ]
          refine wpAny_take (i := 11) (v := .bool false) rfl (by kernel_rfl) (by kernel_rfl) (by kernel_rfl) (fun _ _ _ h => h) (Or.inl ⟨by rfl, fun w => by go_simp⟩) ?_
          try simp only [Act.put, List.getElem_toArray, List.getElem_cons_succ, List.getElem_cons_zero, List.setIfInBounds_toArray, List.set_cons_zero, List.set_cons_succ]
          refine wpAny_take (i := 12) (v := .int .i64 0) rfl (by kernel_rfl) (by kernel_rfl) (by kernel_rfl) (fun _ _ _ h => h) (Or.inl ⟨by rfl, fun w => by go_simp⟩) ?_
          try simp only [Act.put, List.getElem_toArray, List.getElem_cons_succ, List.getElem_cons_zero, List.setIfInBounds_toArray, List.set_cons_zero, List.set_cons_succ]
          refine wpAny_take (i := 13) (v := .bool false) rfl (by kernel_rfl) (by kernel_rfl) (by kernel_rfl) (fun _ _ _ h => h) (Or.inl ⟨by rfl, fun w => by go_simp⟩) ?_
          try simp only [Act.put, List.getElem_toArray, List.getElem_cons_succ, List.getElem_cons_zero, List.setIfInBounds_toArray, List.set_cons_zero, List.set_cons_succ]
          refine wpAny_take (i := 14) (v := .bool false) rfl (by kernel_rfl) (by kernel_rfl) (by kernel_rfl) (fun _ _ _ h => h) (Or.inl ⟨by rfl, fun w => by go_simp⟩) ?_
          try simp only [Act.put, List.getElem_toArray, List.getElem_cons_succ, List.getElem_cons_zero, List.setIfInBounds_toArray, List.set_cons_zero, List.set_cons_succ]
          refine wpAny_take (i := 15) (v := undef) rfl (by kernel_rfl) (by kernel_rfl) (by kernel_rfl) (fun _ _ _ h => h) (Or.inr ⟨by rfl, rfl⟩) ?_
          try simp only [Act.put, List.getElem_toArray, List.getElem_cons_succ, List.getElem_cons_zero, List.setIfInBounds_toArray, List.set_cons_zero, List.set_cons_succ]
          refine wpAny_take (i := 16) (v := undef) rfl (by kernel_rfl) (by kernel_rfl) (by kernel_rfl) (fun _ _ _ h => h) (Or.inr ⟨by rfl, rfl⟩) ?_
          try simp only [Act.put, List.getElem_toArray, List.getElem_cons_succ, List.getElem_cons_zero, List.setIfInBounds_toArray, List.set_cons_zero, List.set_cons_succ]
          refine wpAny_take (i := 17) (v := undef) rfl (by kernel_rfl) (by kernel_rfl) (by kernel_rfl) (fun _ _ _ h => h) (Or.inr ⟨by rfl, rfl⟩) ?_
          try simp only [Act.put, List.getElem_toArray, List.getElem_cons_succ, List.getElem_cons_zero, List.setIfInBounds_toArray, List.set_cons_zero, List.set_cons_succ]
          refine wpAny_take (i := 18) (v := undef) rfl (by kernel_rfl) (by kernel_rfl) (by kernel_rfl) (fun _ _ _ h => h) (Or.inr ⟨by rfl, rfl⟩) ?_
          try simp only [Act.put, List.getElem_toArray, List.getElem_cons_succ, List.getElem_cons_zero, List.setIfInBounds_toArray, List.set_cons_zero, List.set_cons_succ]
          refine wpAny_take (i := 19) (v := undef) rfl (by kernel_rfl) (by kernel_rfl) (by kernel_rfl) (fun _ _ _ h => h) (Or.inr ⟨by rfl, rfl⟩) ?_
          try simp only [Act.put, List.getElem_toArray, List.getElem_cons_succ, List.getElem_cons_zero, List.setIfInBounds_toArray, List.set_cons_zero, List.set_cons_succ]
          refine wpAny_take (i := 20) (v := undef) rfl (by kernel_rfl) (by kernel_rfl) (by kernel_rfl) (fun _ _ _ h => h) (Or.inr ⟨by rfl, rfl⟩) ?_
          try simp only [Act.put, List.getElem_toArray, List.getElem_cons_succ, List.getElem_cons_zero, List.setIfInBounds_toArray, List.set_cons_zero, List.set_cons_succ]
          refine wpAny_take (i := 21) (v := undef) rfl (by kernel_rfl) (by kernel_rfl) (by kernel_rfl) (fun _ _ _ h => h) (Or.inr ⟨by rfl, rfl⟩) ?_
          try simp only [Act.put, List.getElem_toArray, List.getElem_cons_succ, List.getElem_cons_zero, List.setIfInBounds_toArray, List.set_cons_zero, List.set_cons_succ]
          refine wpAny_take (i := 22) (v := undef) rfl (by kernel_rfl) (by kernel_rfl) (by kernel_rfl) (fun _ _ _ h => h) (Or.inr ⟨by rfl, rfl⟩) ?_
          try simp only [Act.put, List.getElem_toArray, List.getElem_cons_succ, List.getElem_cons_zero, List.setIfInBounds_toArray, List.set_cons_zero, List.set_cons_succ]
          refine wpAny_take (i := 23) (v := undef) rfl (by kernel_rfl) (by kernel_rfl) (by kernel_rfl) (fun _ _ _ h => h) (Or.inr ⟨by rfl, rfl⟩) ?_
          try simp only [Act.put, List.getElem_toArray, List.getElem_cons_succ, List.getElem_cons_zero, List.setIfInBounds_toArray, List.set_cons_zero, List.set_cons_succ]
          refine wpAny_take (i := 24) (v := undef) rfl (by kernel_rfl) (by kernel_rfl) (by kernel_rfl) (fun _ _ _ h => h) (Or.inr ⟨by rfl, rfl⟩) ?_
          try simp only [Act.put, List.getElem_toArray, List.getElem_cons_succ, List.getElem_cons_zero, List.setIfInBounds_toArray, List.set_cons_zero, List.set_cons_succ]
          refine wpAny_take (i := 25) (v := undef) rfl (by kernel_rfl) (by kernel_rfl) (by kernel_rfl) (fun _ _ _ h => h) (Or.inr ⟨by rfl, rfl⟩) ?_
          try simp only [Act.put, List.getElem_toArray, List.getElem_cons_succ, List.getElem_cons_zero, List.setIfInBounds_toArray, List.set_cons_zero, List.set_cons_succ]
          refine wpAny_take (i := 26) (v := undef) rfl (by kernel_rfl) (by kernel_rfl) (by kernel_rfl) (fun _ _ _ h => h) (Or.inr ⟨by rfl, rfl⟩) ?_
          try simp only [Act.put, List.getElem_toArray, List.getElem_cons_succ, List.getElem_cons_zero, List.setIfInBounds_toArray, List.set_cons_zero, List.set_cons_succ]
          refine wpAny_take (i := 27) (v := undef) rfl (by kernel_rfl) (by kernel_rfl) (by kernel_rfl) (fun _ _ _ h => h) (Or.inr ⟨by rfl, rfl⟩) ?_
          try simp only [Act.put, List.getElem_toArray, List.getElem_cons_succ, List.getElem_cons_zero, List.setIfInBounds_toArray, List.set_cons_zero, List.set_cons_succ]
          refine wpAny_take (i := 28) (v := undef) rfl (by kernel_rfl) (by kernel_rfl) (by kernel_rfl) (fun _ _ _ h => h) (Or.inr ⟨by rfl, rfl⟩) ?_
          try simp only [Act.put, List.getElem_toArray, List.getElem_cons_succ, List.getElem_cons_zero, List.setIfInBounds_toArray, List.set_cons_zero, List.set_cons_succ]
          refine wpAny_take (i := 29) (v := undef) rfl (by kernel_rfl) (by kernel_rfl) (by kernel_rfl) (fun _ _ _ h => h) (Or.inr ⟨by rfl, rfl⟩) ?_
          try simp only [Act.put, List.getElem_toArray, List.getElem_cons_succ, List.getElem_cons_zero, List.setIfInBounds_toArray, List.set_cons_zero, List.set_cons_succ]
          refine wpAny_take (i := 30) (v := undef) rfl (by kernel_rfl) (by kernel_rfl) (by kernel_rfl) (fun _ _ _ h => h) (Or.inr ⟨by rfl, rfl⟩) ?_
          try simp only [Act.put, List.getElem_toArray, List.getElem_cons_succ, List.getElem_cons_zero, List.setIfInBounds_toArray, List.set_cons_zero, List.set_cons_succ]
          refine wpAny_take (i := 31) (v := undef) rfl (by kernel_rfl) (by kernel_rfl) (by kernel_rfl) (fun _ _ _ h => h) (Or.inr ⟨by rfl, rfl⟩) ?_
          try simp only [Act.put, List.getElem_toArray, List.getElem_cons_succ, List.getElem_cons_zero, List.setIfInBounds_toArray, List.set_cons_zero, List.set_cons_succ]
          refine wpAny_take (i := 32) (v := undef) rfl (by kernel_rfl) (by kernel_rfl) (by kernel_rfl) (fun _ _ _ h => h) (Or.inr ⟨by rfl, rfl⟩) ?_
          try simp only [Act.put, List.getElem_toArray, List.getElem_cons_succ, List.getElem_cons_zero, List.setIfInBounds_toArray, List.set_cons_zero, List.set_cons_succ]
          refine wpAny_take (i := 33) (v := undef) rfl (by kernel_rfl) (by kernel_rfl) (by kernel_rfl) (fun _ _ _ h => h) (Or.inr ⟨by rfl, rfl⟩) ?_
          try simp only [Act.put, List.getElem_toArray, List.getElem_cons_succ, List.getElem_cons_zero, List.setIfInBounds_toArray, List.set_cons_zero, List.set_cons_succ]
          refine wpAny_take (i := 34) (v := undef) rfl (by kernel_rfl) (by kernel_rfl) (by kernel_rfl) (fun _ _ _ h => h) (Or.inr ⟨by rfl, rfl⟩) ?_
          try simp only [Act.put, List.getElem_toArray, List.getElem_cons_succ, List.getElem_cons_zero, List.setIfInBounds_toArray, List.set_cons_zero, List.set_cons_succ]
          refine wpAny_take (i := 35) (v := undef) rfl (by kernel_rfl) (by kernel_rfl) (by kernel_rfl) (fun _ _ _ h => h) (Or.inr ⟨by rfl, rfl⟩) ?_
          try simp only [Act.put, List.getElem_toArray, List.getElem_cons_succ, List.getElem_cons_zero, List.setIfInBounds_toArray, List.set_cons_zero, List.set_cons_succ]
          refine wpAny_take (i := 36) (v := undef) rfl (by kernel_rfl) (by kernel_rfl) (by kernel_rfl) (fun _ _ _ h => h) (Or.inr ⟨by rfl, rfl⟩) ?_
          try simp only [Act.put, List.getElem_toArray, List.getElem_cons_succ, List.getElem_cons_zero, List.setIfInBounds_toArray, List.set_cons_zero, List.set_cons_succ]
          refine wpAny_take (i := 37) (v := undef) rfl (by kernel_rfl) (by kernel_rfl) (by kernel_rfl) (fun _ _ _ h => h) (Or.inr ⟨by rfl, rfl⟩) ?_
          try simp only [Act.put, List.getElem_toArray, List.getElem_cons_succ, List.getElem_cons_zero, List.setIfInBounds_toArray, List.set_cons_zero, List.set_cons_succ]
          refine wpAny_take (i := 38) (v := undef) rfl (by kernel_rfl) (by kernel_rfl) (by kernel_rfl) (fun _ _ _ h => h) (Or.inr ⟨by rfl, rfl⟩) ?_
          try simp only [Act.put, List.getElem_toArray, List.getElem_cons_succ, List.getElem_cons_zero, List.setIfInBounds_toArray, List.set_cons_zero, List.set_cons_succ]
          refine wpAny_take (i := 39) (v := undef) rfl (by kernel_rfl) (by kernel_rfl) (by kernel_rfl) (fun _ _ _ h => h) (Or.inr ⟨by rfl, rfl⟩) ?_
          try simp only [Act.put, List.getElem_toArray, List.getElem_cons_succ, List.getElem_cons_zero, List.setIfInBounds_toArray, List.set_cons_zero, List.set_cons_succ]
          refine wpAny_take (i := 40) (v := undef) rfl (by kernel_rfl) (by kernel_rfl) (by kernel_rfl) (fun _ _ _ h => h) (Or.inr ⟨by rfl, rfl⟩) ?_
          try simp only [Act.put, List.getElem_toArray, List.getElem_cons_succ, List.getElem_cons_zero, List.setIfInBounds_toArray, List.set_cons_zero, List.set_cons_succ]
          refine wpAny_take (i := 41) (v := undef) rfl (by kernel_rfl) (by kernel_rfl) (by kernel_rfl) (fun _ _ _ h => h) (Or.inr ⟨by rfl, rfl⟩) ?_
          try simp only [Act.put, List.getElem_toArray, List.getElem_cons_succ, List.getElem_cons_zero, List.setIfInBounds_toArray, List.set_cons_zero, List.set_cons_succ]
          refine wpAny_take (i := 42) (v := undef) rfl (by kernel_rfl) (by kernel_rfl) (by kernel_rfl) (fun _ _ _ h => h) (Or.inr ⟨by rfl, rfl⟩) ?_
          try simp only [Act.put, List.getElem_toArray, List.getElem_cons_succ, List.getElem_cons_zero, List.setIfInBounds_toArray, List.set_cons_zero, List.set_cons_succ]
          refine wpAny_take (i := 43) (v := undef) rfl (by kernel_rfl) (by kernel_rfl) (by kernel_rfl) (fun _ _ _ h => h) (Or.inr ⟨by rfl, rfl⟩) ?_
          try simp only [Act.put, List.getElem_toArray, List.getElem_cons_succ, List.getElem_cons_zero, List.setIfInBounds_toArray, List.set_cons_zero, List.set_cons_succ]
          refine wpAny_take (i := 44) (v := .bool false) rfl (by kernel_rfl) (by kernel_rfl) (by kernel_rfl) (fun _ _ _ h => h) (Or.inl ⟨by rfl, fun w => by go_simp⟩) ?_
          try simp only [Act.put, List.getElem_toArray, List.getElem_cons_succ, List.getElem_cons_zero, List.setIfInBounds_toArray, List.set_cons_zero, List.set_cons_succ]
          refine wpAny_take (i := 45) (v := .bool false) rfl (by kernel_rfl) (by kernel_rfl) (by kernel_rfl) (fun _ _ _ h => h) (Or.inl ⟨by rfl, fun w => by go_simp⟩) ?_
          try simp only [Act.put, List.getElem_toArray, List.getElem_cons_succ, List.getElem_cons_zero, List.setIfInBounds_toArray, List.set_cons_zero, List.set_cons_succ]
          refine wpAny_done (by kernel_rfl) ?_ _
          go_wp2_with fail
          go_roundw
          case rel => exact ⟨1, by omega, by go_num, hb5'⟩
          case measure => simp [intOf]
        · obtain ⟨k', hk'⟩ : ∃ k', k = k' + 1 := ⟨k - 1, by omega⟩
          obtain ⟨b', off', x', hb', hbl', hcx', hx'⟩ := H2.out.getI (i := k') (by omega)
          cases hb'
          have hxy := plc_up xs0 (show k' < k by omega) hx'.out.1 hx.out.1
          have hBk : ∀ w, Reads .u8 w a0 len0 cap0 xs0 → Calls Try.prog 13 #[.slice a0 len0 cap0, .int .i64 x] w fun e w' => e = .returned (.int .i64 x') ∧ Below w.heap.size w w' := by
            intro w hr
            have := bound_Back a0 len0 cap0 xs0 x w hr hL hx.out.2.2
            rwa [way_back hx'.out.1 (by rw [← hk']; exact hx.out.1)] at this
          have hNe : ∀ w, Reads .u8 w a0 len0 cap0 xs0 → Calls Try.prog 11 #[.slice a0 len0 cap0, .int .i64 x'] w fun e w' => e = .returned (.int .i64 x) ∧ Below w.heap.size w w' := by
            intro w hr
            have := bound_Next a0 len0 cap0 xs0 x' w hr hL hx'.out.2.2
            rwa [way_next hx'.out.1 (by rw [← hk']; exact hx.out.1)] at this
          have e1 : IntKind.i64.wrap ((k : Int) - 1) = (k' : Int) := by rw [IntWalk.i64_in _ (by omega)]; omega
          have hkp : (0 : Int) < (k : Int) := by omega
          have hkn : 0 < k := by omega
          have hkd : decide ((k : Int) > 0) = true := decide_eq_true hkp
          have q1 : (0 : Int) ≤ (k' : Int) := by omega
          have q2 : (k' : Int) < (m : Int) + 1 := by omega
          have hgd : decide (x ≤ x') = false := decide_eq_false (by omega)
          have hge : decide (x' ≥ x) = false := decide_eq_false (by omega)
          have HK' := hid hk'
          have HX' := hid hcx'
          clear hk' hxy hk0 hcx'
          go_wp2_with fail
          have HXd : wr.drew.cell? ⟨b, off + k', none⟩ = some (.int .i64 x') := (hb0.cell (p := ⟨b, off + k', none⟩) hbl').trans HX'.out
          go_region_held3 (fun w' => w'.cell? ⟨b, off + k', none⟩ = some (.int .i64 x')) (go_keep)
            (first
            | (go_at_call 10; (with_reducible refine (hA _ X0.out).mono ?_); rintro e w4 ⟨rfl, hb4⟩; have X4 := hid (X0.out.below hb4); have hb4' := below_then hb0 hb4; have hc4 := (hb4'.cell (p := ⟨b, off + k', none⟩) hbl').trans HX'.out)
            | (go_at_call 15; (with_reducible refine (hNt _ X4.out).mono ?_); rintro e w5 ⟨rfl, hb5⟩; have X5 := hid (X4.out.below hb5); have hb5' := below_then hb4' hb5; have hc5 := (hb5'.cell (p := ⟨b, off + k', none⟩) hbl').trans HX'.out)
            | (go_at_call 13; (with_reducible refine (hBk _ X5.out).mono ?_); rintro e w6 ⟨rfl, hb6⟩; have X6 := hid (X5.out.below hb6); have hb6' := below_then hb5' hb6; have hc6 := (hb6'.cell (p := ⟨b, off + k', none⟩) hbl').trans HX'.out)
            | (go_at_call 11; (with_reducible refine (hNe _ X6.out).mono ?_); rintro e w7 ⟨rfl, hb7⟩; have hb7' := below_then hb6' hb7; have hc7 := (hb7'.cell (p := ⟨b, off + k', none⟩) hbl').trans HX'.out))
          all_goals
            go_wp2_with fail
            go_roundw
            case rel => exact ⟨k + 1, by omega, by go_num, hb7'⟩
            case measure => simp [intOf]; omega
      · go_wp2_with (first
          | (go_at_call 10; (with_reducible refine (hA3 _ (R2.out.below hbel)).mono ?_); rintro e w4 ⟨rfl, hb4⟩; have X4 := hid ((R2.out.below hbel).below hb4); have hb4' := below_then hbel hb4)
          | (go_at_call 13; (with_reducible refine (hB3 _ X4.out).mono ?_); rintro e w5 ⟨rfl, hb5⟩; have X5 := hid (X4.out.below hb5); have hb5' := below_then hb4' hb5)
          | (go_at_call 11; (with_reducible refine (hN3 _ X5.out).mono ?_); rintro e w6 ⟨rfl, hb6⟩; have hb6' := below_then hb5' hb6)
          | (go_at_call 7; (with_reducible refine (alive7_any _).mono ?_); rintro e w' ⟨rfl, hb⟩))
        go_ret
        exact ⟨rfl, HB2.out.trans (hb6'.mono HB2.out.size) |>.trans (hb.mono (Nat.le_trans HB2.out.size hb6'.size))⟩
  · have hN' : 300 < len0 := by omega
    go_enter Try.func6, Try.ntmps6
    go_wp2_with (go_at_call 7; (with_reducible refine (alive7_any _).mono ?_); rintro e w' ⟨rfl, hb⟩)
    go_ret
    exact ⟨rfl, hb⟩

set_option maxRecDepth 100000 in
theorem lifted (os : Os) (started : os.Started) (H : Type) (enc : TypeId × Value → H) :
    ReturnsInHanded {} Try.checked os 6 .any (Rows.boundWaysSpec.pre6 enc Try.prog Try.f6 Rows.boundWaysRow.domain false) (Rows.boundWaysSpec.post enc Try.prog Try.f6 false true false false) := by
  refine returnsInHanded_of_change (C := Try.checked) own started (by kernel_rfl) Try.func6
    (ChangeSpec.witness6 (enc := enc) (C := Try.checked) false ⟨#[], #[.slice none 0 0], []⟩ 8 (by kernel_rfl) (by kernel_rfl) (by kernel_rfl) (by kernel_rfl)) ?_
  intro W base args ds gs before hval0 hW hcnd _
  have hval : ∀ (j : Nat) t v, Try.f6.params[j]? = some t → args[j]? = some v → Value.okWide Try.prog W .any base t v := hval0
  have hW' := hW
  obtain ⟨p, q, hA0, hV, rfl, hfz, hnd⟩ := hW
  have hA : DataW.TrodAll enc Try.prog W 0 (fun _ => true) true Try.f6.params.toList args.toList ds p := hA0
  rw [Try.params6] at hA hval
  obtain ⟨v0, vs0, d0, ds0, p0, q0, hargs, rfl, rfl, h0, r_0⟩ := trodAll_cons hA
  obtain ⟨rfl, rfl, rfl⟩ := trodAll_nil r_0
  obtain rfl : args = #[v0] := by cases args; simp_all
  obtain ⟨rfl, rfl⟩ := trodVars_none hV
  obtain ⟨a0, len0, cap0, rfl⟩ := okWide_slice Try.underlying22 (hval 0 22 v0 rfl rfl)
  have k0 := h0
  have lt0 : ∀ x ∈ p0, x.block < W.heap.size := by obtain ⟨m, hm⟩ := k0; exact DataW.trod_lt m _ _ _ hm
  obtain ⟨xs0, r0⟩ : ∃ xs, Reads .u8 W a0 len0 cap0 xs := by
    obtain ⟨fuel, hf⟩ := h0
    rcases open_ints Try.underlying22 Try.underlying5 (by kernel_rfl) hf with ⟨hcs, _⟩ | ⟨x, l, c, zs, hcs, _, hl, hm, hz, _, hcell, hwz⟩
    · simp [Value.cells] at hcs
      obtain ⟨rfl, rfl, rfl⟩ := hcs
      exact ⟨[], Reads.nil _ _ _ _ (Nat.zero_le _)⟩
    · simp [Value.cells] at hcs
      obtain ⟨rfl, rfl, rfl⟩ := hcs
      exact ⟨_, reads_of_ints hl hm (by simpa using hz) hcell hwz⟩
  clear hA0 hval0
  refine (walk a0 len0 cap0 xs0 W r0).mono fun e W' ⟨he, bel⟩ => ?_
  subst he
  exact ⟨_, rfl, _, _, _, [], _, [], hW', trodAll_mk1 (shut_bool Try.underlying4 _), (trodAll_cons_mk (Below.trod laidOut (by kernel_rfl) (of_decide_eq_true (by kernel_rfl)) k0 bel lt0) trodAll_mk0), rfl, bel.frame _, fun h => by cases h⟩

theorem over : Rows.boundWaysRow.holds Try.pinned (OpenSpec.ofChange Rows.boundWaysSpec) :=
  OpenClaim.holds_of_wide 6 Try.f6 rfl rfl rfl rfl rfl rfl rfl ⟨rfl, rfl, rfl, rfl, rfl⟩ rfl rfl rfl rfl rfl (by kernel_rfl) Try.func6 (by kernel_rfl)
    (of_decide_eq_true (by kernel_rfl)) (by unfold Func.isWrapper; first | (rw [if_pos (by decide +kernel)]; kernel_rfl) | (rw [if_neg (by decide +kernel)]; exact ⟨rfl, rfl⟩))
    (fun os started H enc _ => lifted os started H enc)

end Go.Proofs.Ytpdlnbomjknhiaa.boundWays
namespace Go.Proofs.Ytpdlnbomjknhiaa
theorem boundWays_holds : Rows.BoundWaysSaid := boundWays.over
#print axioms boundWays_holds
end Go.Proofs.Ytpdlnbomjknhiaa
