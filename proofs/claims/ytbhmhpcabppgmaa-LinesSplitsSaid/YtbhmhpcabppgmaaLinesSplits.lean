/-
  Proved: for every []byte s and every [][]byte l (nil, empty, of any length and capacity, its rows sharing memory or not), in whatever memory and on every schedule, sheavelaw26.LinesSplits(s, l) returns true, without a panic or a race, and its arguments read as before. No condition.
-/
import Derived.Test.YtbhmhpcabppgmaaRows
import Derived.Test.YtbhmhpcabppgmaaAlive26
import Derived.Test.YtbhmhpcabppgmaaR26
import Derived.WalkKit
import Derived.ProofKit
import Derived.OpenShut
import Derived.ShutString
import Derived.ChangeOld
import Derived.Below
import Derived.HandedShaped
namespace Go.Proofs.Ytbhmhpcabppgmaa.linesSplits
open Go.ChangeShapes Go.WideShapes Go.ChangeAt Go.RowKit
open Go.ChangeMaps (open_string shut_string)
set_option linter.unusedVariables false

theorem own : ownKnob Try.prog.godebug = none := by kernel_rfl
theorem laidOut : laidOutB Try.prog = true := by kernel_rfl
theorem like26 (a : Option Addr) (len cap : Nat) (a2 : Option Addr) (len2 cap2 : Nat) (xs : List Int) (w : World) (hr : Reads .u8 w a len cap xs) (hr2 : Reads .u8 w a2 len2 cap2 xs) :
    Calls Try.prog 14 #[.slice a len cap, .slice a2 len2 cap2] w fun e w' => e = .returned (.bool true) ∧ Below w.heap.size w w' := by
  have := like_r a len cap xs a2 len2 cap2 xs w hr hr2
  rw [decide_eq_true rfl] at this
  refine this.mono ?_
  rintro e w' ⟨rfl, n, rfl⟩
  exact ⟨rfl, Below.drewN (Below.refl _ _) n⟩
set_option maxHeartbeats 4000000 in
set_option maxRecDepth 100000 in
theorem walk (a0 : Option Addr) (len0 cap0 : Nat) (xs0 : List Int) (a1 : Option Addr) (len1 cap1 : Nat) (xss1 : List (List Int)) (w : World) (r0 : Reads .u8 w a0 len0 cap0 xs0) (r1 : Rws w a1 len1 cap1 xss1) (hm : Mx w) :
    Calls Try.prog 3 #[.slice a0 len0 cap0, .slice a1 len1 cap1] w fun e w' => e = .returned (.bool true) ∧ Below w.heap.size w w' := by
  by_cases hN : len0 ≤ 1000
  · by_cases hM : len1 ≤ 30
    · have R := hid r0
      have Q := hid r1
      have hsz := r1.size
      have F1 := hid (lines_Split a0 len0 cap0 xs0 w r0 (by omega) hm)
      have F2 := hid (fun W (hb : Below w.heap.size w W) => ref26_Split a0 len0 cap0 xs0 W (R.out.below hb) (by omega))
      have F3 := hid (fun W (hb : Below w.heap.size w W) => lines_Ends a0 len0 cap0 xs0 W (R.out.below hb) (by omega))
      have F4 := hid (fun W (hb : Below w.heap.size w W) => ref26_Ends a0 len0 cap0 xs0 W (R.out.below hb) (by omega))
      have F5 := hid (fun W (hb : Below w.heap.size w W) => lines_Bare a0 len0 cap0 xs0 W (R.out.below hb) (by omega) (hm.below hb))
      have F6 := hid (fun W (hb : Below w.heap.size w W) => ref26_Bare a0 len0 cap0 xs0 W (R.out.below hb))
      have F7 := hid (fun (hJ : (linJ xss1).length < 1000000) W (hb : Below w.heap.size w W) => lines_Join a1 len1 cap1 xss1 W (Q.out.below hb) hJ (by omega))
      have F8 := hid (fun (hJ : (linJ xss1).length < 1000000) W (hb : Below w.heap.size w W) => ref26_Join a1 len1 cap1 xss1 W (Q.out.below hb) (by omega) (by omega))
      clear r0 r1
      generalize linL xs0 = L at *
      generalize linE xs0 = E at *
      generalize barC 0 xs0 = B at *
      go_enter Try.func3, Try.ntmps3
      go_wp2_with fail
      go_loop [18] (fun i => ∃ k : Nat, k ≤ len1 ∧ i = .int .i64 k ∧ Hid (∀ x ∈ xss1.take k, x.length ≤ 200)) (fun i => len1 - (intOf i).toNat)
      case atStart => exact ⟨0, Nat.zero_le _, rfl, fun x hx => by cases hx⟩
      case round =>
        obtain ⟨k, hk, rfl, hi⟩ := hrel
        by_cases hlt : k < len1
        · obtain ⟨b, off, x, ai, li, ci, rfl, hbw, hc, hx, hg, ht⟩ := Q.out.get hlt
          have hxs := hx.size
          have hll := hx.len_le
          by_cases h3 : (200 : Int) < (li : Int)
          · clear hg ht hx hi
            go_wp2_with (go_at_call 6; (with_reducible refine (alive26_any _ hm).mono ?_); rintro e w' ⟨rfl, hb⟩)
            go_ret
            exact ⟨rfl, hb⟩
          · have HI : Hid (∀ x ∈ xss1.take (k + 1), x.length ≤ 200) := by
              intro y hy
              rw [ht] at hy
              rcases List.mem_append.1 hy with hy | hy
              · exact hi.out y hy
              · simp only [List.mem_singleton] at hy
                subst hy; omega
            clear hg ht hx hi
            go_wp2_with fail
            go_round
            case rel => exact ⟨k + 1, by omega, by go_num, HI⟩
            case measure => simp [intOf]; omega
        · have hall := hi.out
          rw [List.take_of_length_le (by omega)] at hall
          have hJ : (linJ xss1).length < 1000000 := by
            have := linJ_le (m := 200) hall
            have h2 : xss1.length * (200 + 2) ≤ 30 * 202 := Nat.mul_le_mul (by omega) (by omega)
            omega
          have G7 := hid (F7.out hJ)
          have G8 := hid (F8.out hJ)
          clear hi hall F7 F8 hJ
          generalize linJ xss1 = J at *
          cases E
          all_goals
            go_wp2_with (first
              | (go_at_call 8; (with_reducible refine F1.out.mono ?_); rintro e w1 ⟨b1, n1, c1, rfl, r1, h1⟩)
              | (go_at_call 9; (with_reducible refine (F2.out w1 h1).mono ?_); rintro e w2 ⟨b2, n2, c2, rfl, r2, h2⟩; have t2 := below_then h1 h2; have r12 := r1.below h2)
              | (go_at_call 7; (with_reducible refine (same26 _ _ _ _ _ _ _ _ r12 r2).mono ?_); rintro e w3 ⟨rfl, n3, rfl⟩; have t3 := Below.drewN t2 n3)
              | (go_at_call 10; (with_reducible refine (F3.out _ t3).mono ?_); rintro e w4 ⟨rfl, h4⟩; have t4 := below_then t3 h4)
              | (go_at_call 11; (with_reducible refine (F4.out _ t4).mono ?_); rintro e w5 ⟨rfl, h5⟩; have t5 := below_then t4 h5)
              | (go_at_call 12; (with_reducible refine (F5.out _ t5).mono ?_); rintro e w6 ⟨rfl, h6⟩; have t6 := below_then t5 h6)
              | (go_at_call 13; (with_reducible refine (F6.out _ t6).mono ?_); rintro e w' ⟨rfl, rfl⟩)
              | (go_at_call 15; (with_reducible refine (G7.out _ t6).mono ?_); rintro e w7 ⟨b7, n7, c7, rfl, r7, h7⟩; have t7 := below_then t6 h7)
              | (go_at_call 16; (with_reducible refine (G8.out _ t7).mono ?_); rintro e w8 ⟨v8, rfl, o8, h8⟩; obtain ⟨b8, c8, rfl, r8⟩ := o8.reads; have t8 := below_then t7 h8; have r78 := r7.below h8)
              | (go_at_call 14; (with_reducible refine (like26 _ _ _ _ _ _ _ _ r78 r8).mono ?_); rintro e w9 ⟨rfl, h9⟩; have t9 := below_then t8 h9)
              | (go_at_call 6; (with_reducible refine (alive26_any _ (hm.below t9)).mono ?_); rintro e wa ⟨rfl, ha⟩))
            go_ret
            exact ⟨rfl, below_then t9 ha⟩
    · have hM' : 30 < len1 := by omega
      go_enter Try.func3, Try.ntmps3
      go_wp2_with (go_at_call 6; (with_reducible refine (alive26_any _ hm).mono ?_); rintro e w' ⟨rfl, hb⟩)
      go_ret
      exact ⟨rfl, hb⟩
  · have hN' : 1000 < len0 := by omega
    go_enter Try.func3, Try.ntmps3
    go_wp2_with (go_at_call 6; (with_reducible refine (alive26_any _ hm).mono ?_); rintro e w' ⟨rfl, hb⟩)
    go_ret
    exact ⟨rfl, hb⟩

set_option maxRecDepth 100000 in
theorem lifted (os : Os) (started : os.Started) (H : Type) (enc : TypeId × Value → H) :
    ReturnsInHanded {} Try.checked os 3 .any (Rows.linesSplitsSpec.pre6 enc Try.prog Try.f3 Rows.linesSplitsRow.domain false) (Rows.linesSplitsSpec.post enc Try.prog Try.f3 false true false false) := by
  refine returnsInHanded_of_change_shaped (C := Try.checked) own started (by kernel_rfl) Try.func3
    (ChangeSpec.witness6 (enc := enc) (C := Try.checked) false ⟨#[], #[.slice none 0 0, .slice none 0 0], []⟩ 8 (by kernel_rfl) (by kernel_rfl) (by kernel_rfl) (by kernel_rfl)) ?_
  intro W base args ds gs before hval0 hW hcnd _ hsh _
  have hval : ∀ (j : Nat) t v, Try.f3.params[j]? = some t → args[j]? = some v → Value.okWide Try.prog W .any base t v := hval0
  have hW' := hW
  obtain ⟨p, q, hA0, hV, rfl, hfz, hnd⟩ := hW
  have hA : DataW.TrodAll enc Try.prog W 0 (fun _ => true) true Try.f3.params.toList args.toList ds p := hA0
  rw [Try.params3] at hA hval
  obtain ⟨v0, vs0, d0, ds0, p0, q0, hargs, rfl, rfl, h0, r_0⟩ := trodAll_cons hA
  obtain ⟨v1, vs1, d1, ds1, p1, q1, rfl, rfl, rfl, h1, r_1⟩ := trodAll_cons r_0
  obtain ⟨rfl, rfl, rfl⟩ := trodAll_nil r_1
  obtain rfl : args = #[v0, v1] := by cases args; simp_all
  obtain ⟨rfl, rfl⟩ := trodVars_none hV
  obtain ⟨a0, len0, cap0, rfl⟩ := okWide_slice Try.underlying22 (hval 0 22 v0 rfl rfl)
  have k0 := h0
  have lt0 : ∀ x ∈ p0, x.block < W.heap.size := by obtain ⟨m, hm⟩ := k0; exact DataW.trod_lt m _ _ _ hm
  obtain ⟨xs0, r0⟩ : ∃ xs, Reads .u8 W a0 len0 cap0 xs := by
    obtain ⟨fuel, hf⟩ := h0
    rcases open_ints Try.underlying22 Try.underlying5 (by kernel_rfl) hf with ⟨hcs, _⟩ | ⟨x, l, c, zs, hcs, _, hl, hm, hz, _, hcell, hwz⟩
    · simp [Value.cells] at hcs
      obtain ⟨rfl, rfl, rfl⟩ := hcs
      exact ⟨[], Reads.nil _ _ _ _ (Nat.zero_le _)⟩
    · simp [Value.cells] at hcs
      obtain ⟨rfl, rfl, rfl⟩ := hcs
      exact ⟨_, reads_of_ints hl hm (by simpa using hz) hcell hwz⟩
  obtain ⟨a1, len1, cap1, rfl⟩ := okWide_slice Try.underlying23 (hval 1 23 v1 rfl rfl)
  have k1 := h1
  have lt1 : ∀ x ∈ p1, x.block < W.heap.size := by obtain ⟨m, hm⟩ := k1; exact DataW.trod_lt m _ _ _ hm
  obtain ⟨xss1, r1⟩ : ∃ xss, Rws W a1 len1 cap1 xss := by
    obtain ⟨fuel, hf⟩ := h1
    simp only [Value.cells] at hf
    exact rws_open Try.underlying23 Try.underlying22 Try.underlying5 (by kernel_rfl) (by kernel_rfl) hf
  clear hA0 hval0
  refine (walk a0 len0 cap0 xs0 a1 len1 cap1 xss1 W r0 r1 (Mx.shaped hsh)).mono fun e W' ⟨he, bel⟩ => ?_
  subst he
  exact ⟨_, rfl, _, _, _, [], _, [], hW', trodAll_mk1 (shut_bool Try.underlying4 _), (trodAll_cons_mk (Below.trod laidOut (by kernel_rfl) (of_decide_eq_true (by kernel_rfl)) k0 bel lt0) (trodAll_cons_mk (Below.trod laidOut (by kernel_rfl) (of_decide_eq_true (by kernel_rfl)) k1 bel lt1) trodAll_mk0)), rfl, bel.frame _, fun h => by cases h⟩

theorem over : Rows.linesSplitsRow.holds Try.pinned (OpenSpec.ofChange Rows.linesSplitsSpec) :=
  OpenClaim.holds_of_wide 3 Try.f3 rfl rfl rfl rfl rfl rfl rfl ⟨rfl, rfl, rfl, rfl, rfl⟩ rfl rfl rfl rfl rfl (by kernel_rfl) Try.func3 (by kernel_rfl)
    (of_decide_eq_true (by kernel_rfl)) (by unfold Func.isWrapper; first | (rw [if_pos (by decide +kernel)]; kernel_rfl) | (rw [if_neg (by decide +kernel)]; exact ⟨rfl, rfl⟩))
    (fun os started H enc _ => lifted os started H enc)

end Go.Proofs.Ytbhmhpcabppgmaa.linesSplits
namespace Go.Proofs.Ytbhmhpcabppgmaa
theorem linesSplits_holds : Rows.LinesSplitsSaid := linesSplits.over
#print axioms linesSplits_holds
end Go.Proofs.Ytbhmhpcabppgmaa
