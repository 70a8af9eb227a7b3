/-
  Proved: for every []byte s and every []byte behind (nil, empty, of any length and capacity, sharing memory or not), in whatever memory and on every schedule, sheavelaw28.AtomBack(s, behind) returns true, without a panic or a race, and its arguments read as before. No condition.
-/
import Derived.Test.YtdipabcoeloeoaaRows
import Derived.Test.YtdipabcoeloeoaaAlive28
import Derived.Test.YtdipabcoeloeoaaR28
import Derived.WalkKit
import Derived.ProofKit
import Derived.OpenShut
import Derived.ShutString
import Derived.ChangeOld
import Derived.Below
namespace Go.Proofs.Ytdipabcoeloeoaa.atomBack
open Go.ChangeShapes Go.WideShapes Go.ChangeAt Go.RowKit
open Go.ChangeMaps (open_string shut_string)
set_option linter.unusedVariables false

theorem own : ownKnob Try.prog.godebug = none := by kernel_rfl
theorem laidOut : laidOutB Try.prog = true := by kernel_rfl

set_option maxHeartbeats 4000000 in
set_option maxRecDepth 100000 in
theorem walk (a0 : Option Addr) (len0 cap0 : Nat) (xs0 : List Int) (a1 : Option Addr) (len1 cap1 : Nat) (xs1 : List Int) (w : World) (r0 : Reads .u8 w a0 len0 cap0 xs0) (r1 : Reads .u8 w a1 len1 cap1 xs1) :
    Calls Try.prog 5 #[.slice a0 len0 cap0, .slice a1 len1 cap1] w fun e w' => e = .returned (.bool true) ∧ Below w.heap.size w w' := by
  by_cases hN : len0 ≤ 500
  · by_cases hM : len1 ≤ 500
    · have hz0 := r0.size
      have hz1 := r1.size
      have hbd : ∀ x ∈ xs0, 0 ≤ x ∧ x ≤ 255 := fun x hx => wf_u8 (r0.wf x hx)
      have hll := layA_len xs0
      have R := hid r0
      have Q := hid r1
      have F1 := hid (atom_Lay a0 len0 cap0 xs0 w r0 (by omega))
      have D : (∃ b off x, a1 = some ⟨b, off, none⟩ ∧ 0 < len1 ∧ w.cell? ⟨b, off, none⟩ = some (.int .u8 x) ∧ 0 ≤ x ∧ x ≤ 255 ∧ isB 64 x = true) ∨ ((xs1 = [] ∨ ∃ y t, xs1 = y :: t ∧ tokB y = false) ∧ (len1 = 0 ∨ ∃ b off x, a1 = some ⟨b, off, none⟩ ∧ 0 < len1 ∧ w.cell? ⟨b, off, none⟩ = some (.int .u8 x) ∧ 0 ≤ x ∧ x ≤ 255 ∧ isB 64 x = false)) := by
        by_cases h : 0 < len1
        · obtain ⟨b, off, x, ha, _, hc, h0, h1, hx⟩ := r1.get8 h
          rw [Nat.add_zero] at hc
          cases ht : isB 64 x
          · refine .inr ⟨.inr ?_, .inr ⟨b, off, x, ha, h, hc, h0, h1, ht⟩⟩
            have hx0 := hx.out.1
            cases xs1 with
            | nil => cases hx0
            | cons y t =>
              simp only [List.getElem?_cons_zero, Option.some.injEq] at hx0
              exact ⟨y, t, rfl, by rw [hx0]; exact ht⟩
          · exact .inl ⟨b, off, x, ha, h, hc, h0, h1, ht⟩
        · exact .inr ⟨.inl (List.eq_nil_of_length_eq_zero (by omega)), .inl (by omega)⟩
      clear r0 r1
      rcases D with ⟨b, off, x, rfl, hl, hc, h0, h1, ht⟩ | ⟨hb, D⟩
      · have HI := hid (is_r x 64 w h0 h1)
        rw [ht] at HI
        have q0 : (0 : Int) < (len1 : Int) := by omega
        clear hbd hll ht
        go_enter Try.func5, Try.ntmps5
        go_wp2_with (first
          | (go_at_call 23; (with_reducible refine HI.out.mono ?_); rintro e w' ⟨rfl, rfl⟩)
          | (go_at_call 7; (with_reducible refine (alive28_any _).mono ?_); rintro e wa ⟨rfl, ha⟩))
        go_ret
        exact ⟨rfl, ha⟩
      · have hv := layA_back hbd hb
        have F2 := hid (fun W b1 l1 c1 (h : Reads .u8 W b1 l1 c1 (layA xs0 ++ xs1)) (hl : l1 < 1000000) => by
          have := atom_Value b1 l1 c1 (layA xs0 ++ xs1) 0 W h hl (by decide)
          rw [hv] at this
          exact this)
        clear hbd hb hv
        generalize layA xs0 = L at *
        have HLL := hid (show L.length ≤ 2000 by omega)
        obtain ⟨m, hm⟩ : ∃ m, m = (L ++ xs1).length := ⟨_, rfl⟩
        have HMm := hid hm
        have hml : m < 1000000 := by rw [hm, List.length_append]; omega
        clear hll hz0 hz1 hm
        rcases D with hl | ⟨b, off, x, rfl, hl, hc, h0, h1, ht⟩
        case' inl =>
          subst hl
        case' inr =>
          have HI := hid (is_r x 64 w h0 h1)
          rw [ht] at HI
          have q0 : (0 : Int) < (len1 : Int) := by omega
          clear ht
        all_goals
          go_enter Try.func5, Try.ntmps5
          go_wp2_with (first
            | (go_at_call 23; (with_reducible refine HI.out.mono ?_); rintro e w' ⟨rfl, rfl⟩)
            | (go_at_call 19; (with_reducible refine F1.out.mono ?_); rintro e w1 ⟨b1, l1, c1, rfl, r1, h1⟩; obtain rfl : _ = l1 := r1.size; have q1 := Q.out.below h1)
            | (at_builtin; have hX := o2; clear hX; go_must (refine wpList_more ST8 rfl _ _ rfl rfl rfl o2 h2 (q1.below h2) (by have := HLL.out; simp; omega) ?_); intro v3 w3 o3 h3; obtain ⟨b3, c3, hv3, r3⟩ := o3.reads; rw [← HMm.out] at hv3 r3; subst hv3; have r13 := r1.below h3; have t3 := below_then h1 h3; have r03 := R.out.below t3)
            | (at_builtin; go_must (refine wpList_more ST8 rfl _ _ rfl (w0 := w1) (v := .slice none 0 0) (xs := []) rfl rfl (Own.nil _ _ _ _) (Below.refl _ _) r1 (by have := HLL.out; simp; omega) ?_); intro v2 w2 o2 h2; rw [List.nil_append] at o2)
            | (go_at_call 17; (with_reducible refine (F2.out _ _ _ _ r3 hml).mono ?_); rintro e w4 ⟨b4, l4, c4, rfl, r4, h4⟩; have t4 := below_then t3 h4; have r04 := r03.below h4)
            | (go_at_call 16; (with_reducible refine (like28 _ _ _ _ _ _ _ _ r4 r04).mono ?_); rintro e w5 ⟨rfl, h5⟩; have t5 := below_then t4 h5)
            | (go_at_call 7; (with_reducible refine (alive28_any _).mono ?_); rintro e wa ⟨rfl, ha⟩))
          go_ret
          exact ⟨rfl, below_then t5 ha⟩
    · have hM' : 500 < len1 := by omega
      go_enter Try.func5, Try.ntmps5
      go_wp2_with (go_at_call 7; (with_reducible refine (alive28_any _).mono ?_); rintro e w' ⟨rfl, hb⟩)
      go_ret
      exact ⟨rfl, hb⟩
  · have hN' : 500 < len0 := by omega
    go_enter Try.func5, Try.ntmps5
    go_wp2_with (go_at_call 7; (with_reducible refine (alive28_any _).mono ?_); rintro e w' ⟨rfl, hb⟩)
    go_ret
    exact ⟨rfl, hb⟩

set_option maxRecDepth 100000 in
theorem lifted (os : Os) (started : os.Started) (H : Type) (enc : TypeId × Value → H) :
    ReturnsInHanded {} Try.checked os 5 .any (Rows.atomBackSpec.pre6 enc Try.prog Try.f5 Rows.atomBackRow.domain false) (Rows.atomBackSpec.post enc Try.prog Try.f5 false true false false) := by
  refine returnsInHanded_of_change (C := Try.checked) own started (by kernel_rfl) Try.func5
    (ChangeSpec.witness6 (enc := enc) (C := Try.checked) false ⟨#[], #[.slice none 0 0, .slice none 0 0], []⟩ 8 (by kernel_rfl) (by kernel_rfl) (by kernel_rfl) (by kernel_rfl)) ?_
  intro W base args ds gs before hval0 hW hcnd _
  have hval : ∀ (j : Nat) t v, Try.f5.params[j]? = some t → args[j]? = some v → Value.okWide Try.prog W .any base t v := hval0
  have hW' := hW
  obtain ⟨p, q, hA0, hV, rfl, hfz, hnd⟩ := hW
  have hA : DataW.TrodAll enc Try.prog W 0 (fun _ => true) true Try.f5.params.toList args.toList ds p := hA0
  rw [Try.params5] at hA hval
  obtain ⟨v0, vs0, d0, ds0, p0, q0, hargs, rfl, rfl, h0, r_0⟩ := trodAll_cons hA
  obtain ⟨v1, vs1, d1, ds1, p1, q1, rfl, rfl, rfl, h1, r_1⟩ := trodAll_cons r_0
  obtain ⟨rfl, rfl, rfl⟩ := trodAll_nil r_1
  obtain rfl : args = #[v0, v1] := by cases args; simp_all
  obtain ⟨rfl, rfl⟩ := trodVars_none hV
  obtain ⟨a0, len0, cap0, rfl⟩ := okWide_slice Try.underlying22 (hval 0 22 v0 rfl rfl)
  have k0 := h0
  have lt0 : ∀ x ∈ p0, x.block < W.heap.size := by obtain ⟨m, hm⟩ := k0; exact DataW.trod_lt m _ _ _ hm
  obtain ⟨xs0, r0⟩ : ∃ xs, Reads .u8 W a0 len0 cap0 xs := by
    obtain ⟨fuel, hf⟩ := h0
    rcases open_ints Try.underlying22 Try.underlying5 (by kernel_rfl) hf with ⟨hcs, _⟩ | ⟨x, l, c, zs, hcs, _, hl, hm, hz, _, hcell, hwz⟩
    · simp [Value.cells] at hcs
      obtain ⟨rfl, rfl, rfl⟩ := hcs
      exact ⟨[], Reads.nil _ _ _ _ (Nat.zero_le _)⟩
    · simp [Value.cells] at hcs
      obtain ⟨rfl, rfl, rfl⟩ := hcs
      exact ⟨_, reads_of_ints hl hm (by simpa using hz) hcell hwz⟩
  obtain ⟨a1, len1, cap1, rfl⟩ := okWide_slice Try.underlying22 (hval 1 22 v1 rfl rfl)
  have k1 := h1
  have lt1 : ∀ x ∈ p1, x.block < W.heap.size := by obtain ⟨m, hm⟩ := k1; exact DataW.trod_lt m _ _ _ hm
  obtain ⟨xs1, r1⟩ : ∃ xs, Reads .u8 W a1 len1 cap1 xs := by
    obtain ⟨fuel, hf⟩ := h1
    rcases open_ints Try.underlying22 Try.underlying5 (by kernel_rfl) hf with ⟨hcs, _⟩ | ⟨x, l, c, zs, hcs, _, hl, hm, hz, _, hcell, hwz⟩
    · simp [Value.cells] at hcs
      obtain ⟨rfl, rfl, rfl⟩ := hcs
      exact ⟨[], Reads.nil _ _ _ _ (Nat.zero_le _)⟩
    · simp [Value.cells] at hcs
      obtain ⟨rfl, rfl, rfl⟩ := hcs
      exact ⟨_, reads_of_ints hl hm (by simpa using hz) hcell hwz⟩
  clear hA0 hval0
  refine (walk a0 len0 cap0 xs0 a1 len1 cap1 xs1 W r0 r1).mono fun e W' ⟨he, bel⟩ => ?_
  subst he
  exact ⟨_, rfl, _, _, _, [], _, [], hW', trodAll_mk1 (shut_bool Try.underlying4 _), (trodAll_cons_mk (Below.trod laidOut (by kernel_rfl) (of_decide_eq_true (by kernel_rfl)) k0 bel lt0) (trodAll_cons_mk (Below.trod laidOut (by kernel_rfl) (of_decide_eq_true (by kernel_rfl)) k1 bel lt1) trodAll_mk0)), rfl, bel.frame _, fun h => by cases h⟩

theorem over : Rows.atomBackRow.holds Try.pinned (OpenSpec.ofChange Rows.atomBackSpec) :=
  OpenClaim.holds_of_wide 5 Try.f5 rfl rfl rfl rfl rfl rfl rfl ⟨rfl, rfl, rfl, rfl, rfl⟩ rfl rfl rfl rfl rfl (by kernel_rfl) Try.func5 (by kernel_rfl)
    (of_decide_eq_true (by kernel_rfl)) (by unfold Func.isWrapper; first | (rw [if_pos (by decide +kernel)]; kernel_rfl) | (rw [if_neg (by decide +kernel)]; exact ⟨rfl, rfl⟩))
    (fun os started H enc _ => lifted os started H enc)

end Go.Proofs.Ytdipabcoeloeoaa.atomBack
namespace Go.Proofs.Ytdipabcoeloeoaa
theorem atomBack_holds : Rows.AtomBackSaid := atomBack.over
#print axioms atomBack_holds
end Go.Proofs.Ytdipabcoeloeoaa
