/-
  Proved: for every []byte s (nil, empty, of any length and capacity), in whatever memory and on every schedule, sheavelaw16.BwrapLines(s) returns true, without a panic or a race, and its argument reads as before. No condition.
-/
import Derived.Test.YtkfmalajapojhaaRows
import Derived.Test.YtkfmalajapojhaaAlive16
import Derived.Test.YtkfmalajapojhaaR16
import Derived.Test.YtkfmalajapojhaaD16b
import Derived.WalkKit
import Derived.ProofKit
import Derived.OpenShut
import Derived.ShutString
import Derived.ChangeOld
import Derived.Below
import Derived.HandedShaped
namespace Go.Proofs.Ytkfmalajapojhaa.bwrapLines
open Go.ChangeShapes Go.WideShapes Go.ChangeAt Go.RowKit
open Go.ChangeMaps (open_string shut_string)
set_option linter.unusedVariables false

theorem own : ownKnob Try.prog.godebug = none := by kernel_rfl
theorem laidOut : laidOutB Try.prog = true := by kernel_rfl
theorem lay16_len (xs : List Int) : ((layB xs).length : Int) = lenB xs.length := by
  unfold layB fill4 bareB lenB
  rw [List.length_append, List.length_replicate, List.length_map, v64_len]
  split <;> omega
theorem wrap16_len (xs : List Int) : ((wrapL (layB xs)).length : Int) = wlenN xs.length := by
  have h := lay16_len xs
  rw [wrap_len]
  unfold wlenN lineN
  omega
/-- Where the octets of line j stand. -/
theorem at_line {c : List Int} {j t : Nat} (hj : j < (c.length + 75) / 76) (ht : t < 76) (htc : j * 76 + t < c.length) : (wrapL c)[78 * j + t]? = c[j * 76 + t]? := by
  obtain ⟨r, e, hl, _⟩ := wrap_at c j hj
  rw [e, List.getElem?_append_right (by omega), hl, show 78 * j + t - j * 78 = t by omega, List.getElem?_append_left (by simp; omega), List.getElem?_take_of_lt ht, List.getElem?_drop]
theorem at_end {c : List Int} {j m : Nat} (hj : j < (c.length + 75) / 76) (hm : m = min 76 (c.length - j * 76)) : (wrapL c)[78 * j + m]? = some 13 ∧ (wrapL c)[78 * j + m + 1]? = some 10 ∧ 78 * j + m + 2 ≤ (wrapL c).length ∧ (78 * j + m + 2 = (wrapL c).length ↔ j + 1 = (c.length + 75) / 76) := by
  obtain ⟨r, e, hl, hr⟩ := wrap_at c j hj
  have hlen : ((c.drop (j * 76)).take 76).length = m := by rw [List.length_take, List.length_drop, hm]
  have hw : (wrapL c).length = 78 * j + m + 2 + r.length := by
    rw [e, List.length_append, List.length_append, hl, hlen, List.length_cons, List.length_cons]; omega
  refine ⟨?_, ?_, by omega, ?_⟩
  · rw [e, List.getElem?_append_right (by omega), hl, List.getElem?_append_right (by omega), hlen, show 78 * j + m - j * 78 - m = 0 by omega]; rfl
  · rw [e, List.getElem?_append_right (by omega), hl, List.getElem?_append_right (by omega), hlen, show 78 * j + m + 1 - j * 78 - m = 1 by omega]; rfl
  · rw [hw, ← hr]
    constructor
    · intro h; exact List.eq_nil_of_length_eq_zero (by omega)
    · intro h; rw [h]; simp
set_option maxHeartbeats 4000000 in
set_option maxRecDepth 100000 in
theorem walk (a0 : Option Addr) (len0 cap0 : Nat) (xs0 : List Int) (w : World) (r0 : Reads .u8 w a0 len0 cap0 xs0) (hm : Mx w) :
    Calls Try.prog 6 #[.slice a0 len0 cap0] w fun e w' => e = .returned (.bool true) ∧ Below w.heap.size w w' := by
  have HM := hid hm
  clear hm
  by_cases hN : len0 ≤ 1000
  · have R := hid r0
    have HS := hid r0.size
    have HO := hid (show ∀ x ∈ xs0, O8 x from fun x hx => wf_u8 (r0.wf x hx))
    clear r0
    obtain ⟨c, hc⟩ : ∃ c, c = layB xs0 := ⟨_, rfl⟩
    have HN13 := hid (lay_no13 HO.out)
    have hcl := lay16_len xs0
    have hln : lineN len0 = (((c.length + 75) / 76 : Nat) : Int) := by
      unfold lineN
      rw [HS.out] at hcl
      rw [hc]
      omega
    have hbd := layB_len xs0
    rw [HS.out] at hbd
    rw [← hc] at HN13 hcl hbd
    have HC := hid hc
    obtain ⟨n, hn⟩ : ∃ n, n = (c.length + 75) / 76 := ⟨_, rfl⟩
    rw [← hn] at hln
    have hn80 : n < 100 := by omega
    have HLN := hid hln
    have HN := hid hn
    obtain ⟨cl, hcl2⟩ : ∃ cl, cl = c.length := ⟨_, rfl⟩
    have HCL := hid hcl2
    clear hc hcl hln hn hcl2 hbd
    go_enter Try.func6, Try.ntmps6
    go_wp2_with (go_at_call 8; (with_reducible refine (bwrap_Lay _ _ _ _ _ R.out (by omega)).mono ?_); rintro e w1 ⟨a1, l1, c1, rfl, r1, h1⟩; rw [← HC.out] at r1; have hl1 := r1.size; have hl2 := wrap_len c; have HL1 := hid (show l1 = (wrapL c).length from hl1.symm); have hl1b : l1 < 100000 := (by have := HN.out; omega); have R1 := hid r1; clear hl1 hl2 r1)
    go_loop [4, 5, 6] (fun lg ln i => ∃ j t p : Nat, lg = .int .i64 t ∧ ln = .int .i64 j ∧ i = .int .i64 p ∧ t ≤ 76 ∧ j ≤ n ∧ p ≤ l1 ∧ Hid ((j < n ∧ j * 76 + t ≤ cl ∧ p = 78 * j + t) ∨ (j = n ∧ t = 0 ∧ p = l1))) (fun _ _ i => l1 + 1 - (intOf i).toNat)
    case atStart =>
      refine ⟨0, 0, 0, rfl, rfl, rfl, by omega, by omega, by omega, ?_⟩
      have h1 := HN.out; have h2 := HL1.out; have h3 := wrap_len c; have h4 := HCL.out
      unfold Hid
      by_cases h0 : n = 0
      · right; omega
      · left; omega
    case round =>
      obtain ⟨j, t, p, rfl, rfl, rfl, ht, hj, hp, hst⟩ := hrel
      by_cases hlt : p < l1
      · obtain ⟨hjn, htc, hpe⟩ : j < n ∧ j * 76 + t ≤ cl ∧ p = 78 * j + t := by
          rcases hst.out with h | h
          · exact h
          · omega
        have hE := at_end (c := c) (j := j) (m := min 76 (cl - j * 76)) (by have := HN.out; omega) (by rw [HCL.out])
        by_cases hend : t < 76 ∧ j * 76 + t < cl
        · have hx := at_line (c := c) (j := j) (t := t) (by have := HN.out; omega) hend.1 (by have := HCL.out; omega)
          rw [← hpe] at hx
          obtain ⟨b, off, x, rfl, _, hcx, hx0, hx1, hxx⟩ := R1.out.get8 hlt
          rw [hxx.out.1] at hx
          have hne : (x != 13) = true := by
            have := HN13.out x (List.mem_of_getElem? hx.symm)
            simpa using this
          have hE2 := hE.2.2.1
          have HST : Hid ((j < n ∧ j * 76 + (t + 1) ≤ cl ∧ p + 1 = 78 * j + (t + 1)) ∨ (j = n ∧ t + 1 = 0 ∧ p + 1 = l1)) := .inl (by omega)
          have hq : t + 1 ≤ 76 := by omega
          clear hE hx hE2 hpe htc hst hend
          go_wp2
          go_round
          case rel => exact ⟨j, t + 1, p + 1, by go_num, by go_num, by go_num, hq, hj, by omega, HST⟩
          case measure => simp [intOf]; omega
        · have hcn := HN.out
          have hcc := HCL.out
          have htm : t = min 76 (cl - j * 76) := by omega
          rw [← htm, ← hpe] at hE
          obtain ⟨e1, e2, e3, e4⟩ := hE
          rw [← HL1.out] at e3 e4
          obtain ⟨b, off, x, rfl, _, hcx, hx0, hx1, hxx⟩ := R1.out.get8 hlt
          obtain ⟨b', off', y, hby, _, hcy, hy0, hy1, hyy⟩ := R1.out.get8 (i := p + 1) (by omega)
          obtain ⟨rfl, rfl⟩ : b = b' ∧ off = off' := by simpa using hby
          rw [e1] at hxx
          rw [e2] at hyy
          obtain rfl : x = 13 := (Option.some.inj hxx.out.1).symm
          obtain rfl : y = 10 := (Option.some.inj hyy.out.1).symm
          have hge : decide ((l1 : Int) ≤ (p : Int) + 1) = false := decide_eq_false (by omega)
          have hz : ((t : Int) == 0) = false := by rw [beq_eq_false_iff_ne]; omega
          have HST : Hid ((j + 1 < n ∧ (j + 1) * 76 + 0 ≤ cl ∧ p + 2 = 78 * (j + 1) + 0) ∨ (j + 1 = n ∧ 0 = 0 ∧ p + 2 = l1)) := by
            unfold Hid
            by_cases hl : j + 1 = n
            · exact .inr ⟨hl, rfl, by omega⟩
            · exact .inl (by omega)
          have hp2 : p + 2 ≤ l1 := e3
          by_cases h76 : t = 76
          · subst h76
            clear e1 e2 e3 e4 hcn hcc htm hpe htc hst hend
            go_wp2
            go_round
            case rel => exact ⟨j + 1, 0, p + 2, by go_num, by go_num, by go_num, by omega, hjn, hp2, HST⟩
            case measure => simp [intOf]; omega
          · have hlt76 : decide ((t : Int) < 76) = true := decide_eq_true (by omega)
            have hgt76 : decide ((76 : Int) < (t : Int)) = false := decide_eq_false (by omega)
            have hne : ((p : Int) + 2 != l1) = false := by
              have : p + 2 = l1 := e4.2 (by omega)
              simp; omega
            clear e1 e2 e3 e4 hcn hcc htm hpe htc hst hend
            go_wp2
            go_round
            case rel => exact ⟨j + 1, 0, p + 2, by go_num, by go_num, by go_num, by omega, hjn, hp2, HST⟩
            case measure => simp [intOf]; omega
      · obtain ⟨rfl, rfl, hpe⟩ : j = n ∧ t = 0 ∧ p = l1 := by
          rcases hst.out with h | h
          · exfalso
            have hE := at_end (c := c) (j := j) (m := min 76 (cl - j * 76)) (by have := HN.out; omega) (by rw [HCL.out])
            have := hE.2.2.1
            have := HL1.out
            omega
          · exact h
        clear hpe hst
        go_wp2_with (first
          | (go_at_call 12; (with_reducible refine (bwrap_Lines _ _ (by omega)).mono ?_); rintro e w2 ⟨rfl, h2⟩; rw [HLN.out])
          | (go_at_call 7; (with_reducible refine (alive16_any _ ((HM.out.below h1).below h2)).mono ?_); rintro e w3 ⟨rfl, h3⟩))
        go_ret
        exact ⟨rfl, below_then (below_then h1 h2) h3⟩
  · have hN' : 1000 < len0 := by omega
    go_enter Try.func6, Try.ntmps6
    go_wp2_with (go_at_call 7; (with_reducible refine (alive16_any _ HM.out).mono ?_); rintro e w' ⟨rfl, hb⟩)
    go_ret
    exact ⟨rfl, hb⟩

set_option maxRecDepth 100000 in
theorem lifted (os : Os) (started : os.Started) (H : Type) (enc : TypeId × Value → H) :
    ReturnsInHanded {} Try.checked os 6 .any (Rows.bwrapLinesSpec.pre6 enc Try.prog Try.f6 Rows.bwrapLinesRow.domain false) (Rows.bwrapLinesSpec.post enc Try.prog Try.f6 false true false false) := by
  refine returnsInHanded_of_change_shaped (C := Try.checked) own started (by kernel_rfl) Try.func6
    (ChangeSpec.witness6 (enc := enc) (C := Try.checked) false ⟨#[], #[.slice none 0 0], []⟩ 8 (by kernel_rfl) (by kernel_rfl) (by kernel_rfl) (by kernel_rfl)) ?_
  intro W base args ds gs before hval0 hW hcnd _ hsh _
  have hval : ∀ (j : Nat) t v, Try.f6.params[j]? = some t → args[j]? = some v → Value.okWide Try.prog W .any base t v := hval0
  have hW' := hW
  obtain ⟨p, q, hA0, hV, rfl, hfz, hnd⟩ := hW
  have hA : DataW.TrodAll enc Try.prog W 0 (fun _ => true) true Try.f6.params.toList args.toList ds p := hA0
  rw [Try.params6] at hA hval
  obtain ⟨v0, vs0, d0, ds0, p0, q0, hargs, rfl, rfl, h0, r_0⟩ := trodAll_cons hA
  obtain ⟨rfl, rfl, rfl⟩ := trodAll_nil r_0
  obtain rfl : args = #[v0] := by cases args; simp_all
  obtain ⟨rfl, rfl⟩ := trodVars_none hV
  obtain ⟨a0, len0, cap0, rfl⟩ := okWide_slice Try.underlying22 (hval 0 22 v0 rfl rfl)
  have k0 := h0
  have lt0 : ∀ x ∈ p0, x.block < W.heap.size := by obtain ⟨m, hm⟩ := k0; exact DataW.trod_lt m _ _ _ hm
  obtain ⟨xs0, r0⟩ : ∃ xs, Reads .u8 W a0 len0 cap0 xs := by
    obtain ⟨fuel, hf⟩ := h0
    rcases open_ints Try.underlying22 Try.underlying5 (by kernel_rfl) hf with ⟨hcs, _⟩ | ⟨x, l, c, zs, hcs, _, hl, hm, hz, _, hcell, hwz⟩
    · simp [Value.cells] at hcs
      obtain ⟨rfl, rfl, rfl⟩ := hcs
      exact ⟨[], Reads.nil _ _ _ _ (Nat.zero_le _)⟩
    · simp [Value.cells] at hcs
      obtain ⟨rfl, rfl, rfl⟩ := hcs
      exact ⟨_, reads_of_ints hl hm (by simpa using hz) hcell hwz⟩
  clear hA0 hval0
  refine (walk a0 len0 cap0 xs0 W r0 (Mx.shaped hsh)).mono fun e W' ⟨he, bel⟩ => ?_
  subst he
  exact ⟨_, rfl, _, _, _, [], _, [], hW', trodAll_mk1 (shut_bool Try.underlying4 _), (trodAll_cons_mk (Below.trod laidOut (by kernel_rfl) (of_decide_eq_true (by kernel_rfl)) k0 bel lt0) trodAll_mk0), rfl, bel.frame _, fun h => by cases h⟩

theorem over : Rows.bwrapLinesRow.holds Try.pinned (OpenSpec.ofChange Rows.bwrapLinesSpec) :=
  OpenClaim.holds_of_wide 6 Try.f6 rfl rfl rfl rfl rfl rfl rfl ⟨rfl, rfl, rfl, rfl, rfl⟩ rfl rfl rfl rfl rfl (by kernel_rfl) Try.func6 (by kernel_rfl)
    (of_decide_eq_true (by kernel_rfl)) (by unfold Func.isWrapper; first | (rw [if_pos (by decide +kernel)]; kernel_rfl) | (rw [if_neg (by decide +kernel)]; exact ⟨rfl, rfl⟩))
    (fun os started H enc _ => lifted os started H enc)

end Go.Proofs.Ytkfmalajapojhaa.bwrapLines
namespace Go.Proofs.Ytkfmalajapojhaa
theorem bwrapLines_holds : Rows.BwrapLinesSaid := bwrapLines.over
#print axioms bwrapLines_holds
end Go.Proofs.Ytkfmalajapojhaa
