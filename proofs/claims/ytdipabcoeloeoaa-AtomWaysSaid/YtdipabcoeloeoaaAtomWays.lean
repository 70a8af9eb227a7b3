/-
  Proved: for every []byte s (nil, empty, of any length and capacity) and every int at, in whatever memory and on every schedule, sheavelaw28.AtomWays(s, at) returns true, without a panic or a race, and its arguments read as before. No condition.
-/
import Derived.Test.YtdipabcoeloeoaaRows
import Derived.Test.YtdipabcoeloeoaaAlive28
import Derived.WalkKit
import Derived.ProofKit
import Derived.OpenShut
import Derived.ShutString
import Derived.ChangeOld
import Derived.Below
namespace Go.Proofs.Ytdipabcoeloeoaa.atomWays
open Go.ChangeShapes Go.WideShapes Go.ChangeAt Go.RowKit
open Go.ChangeMaps (open_string shut_string)
set_option linter.unusedVariables false

theorem own : ownKnob Try.prog.godebug = none := by kernel_rfl
theorem laidOut : laidOutB Try.prog = true := by kernel_rfl

set_option maxHeartbeats 4000000 in
set_option maxRecDepth 100000 in
theorem walk (a0 : Option Addr) (len0 cap0 : Nat) (xs0 : List Int) (a1 : Int) (w : World) (r0 : Reads .u8 w a0 len0 cap0 xs0) (w1 : (Lit.int .i64 a1).wf = true) :
    Calls Try.prog 6 #[.slice a0 len0 cap0, .int .i64 a1] w fun e w' => e = .returned (.bool true) ∧ Below w.heap.size w w' := by
  by_cases hN : len0 ≤ 500
  · have hsz := r0.size
    have hbd : ∀ x ∈ xs0, 0 ≤ x ∧ x ≤ 255 := fun x hx => wf_u8 (r0.wf x hx)
    have hgl := gapP_le xs0 a1
    have hgi := gapP_idem xs0 a1
    have R := hid r0
    have F1 := hid (atom_Gap a0 len0 cap0 xs0 a1 w r0 (by omega) w1)
    have F2 := hid (fun W (hb : Below w.heap.size w W) => by
      have := atom_Gap a0 len0 cap0 xs0 (gapP xs0 a1 : Int) W (R.out.below hb) (by omega) (WalkArith.wf_i64 (by omega))
      rwa [hgi] at this)
    have F3 := hid (fun W (hb : Below w.heap.size w W) => atom_Token a0 len0 cap0 xs0 (gapP xs0 a1 : Int) W (R.out.below hb) (by omega) (WalkArith.wf_i64 (by omega)))
    have hto := tokA_of xs0 (gapP xs0 a1 : Int)
    rw [withN_of hgl.2] at hto
    rw [hsz] at hgl
    generalize gapP xs0 a1 = G at *
    generalize hTe : tokA xs0 (G : Int) = T at *
    have hP : (a1 < 0 ∧ ¬ (G : Int) < 0) ∨ (¬ a1 < 0 ∧ (len0 : Int) < a1 ∧ ¬ (G : Int) < (len0 : Int)) ∨ (¬ a1 < 0 ∧ ¬ (len0 : Int) < a1 ∧ ¬ (G : Int) < a1) := by
      by_cases h1 : a1 < 0
      · exact .inl ⟨h1, by omega⟩
      · by_cases h2 : (len0 : Int) < a1
        · refine .inr (.inl ⟨h1, h2, ?_⟩)
          have := hgl.1
          unfold withN at this
          rw [if_neg h1, if_pos h2] at this
          omega
        · refine .inr (.inr ⟨h1, h2, ?_⟩)
          have := hgl.1
          unfold withN at this
          rw [if_neg h1, if_neg h2] at this
          omega
    have hg2 : ¬ (len0 : Int) < (G : Int) := by have := hgl.2; omega
    have hGl : G ≤ len0 := hgl.2
    clear r0 hgl hgi
    rcases hto with ⟨he, _, _⟩ | ⟨he, hn, hpl, hmem⟩
    · have e0 : (T.2.2 != 0) = true := by simpa using he
      clear he hbd hTe
      rcases hP with ⟨p1, p2⟩ | ⟨p1, p2, p3⟩ | ⟨p1, p2, p3⟩
      all_goals
        have z0 : ¬ (len0 : Int) < 0 := by omega
        go_enter Try.func6, Try.ntmps6
        go_wp2_with (first
          | (go_at_call 10; (with_reducible refine F1.out.mono ?_); rintro e w3 ⟨rfl, h1⟩)
          | (go_at_call 10; (with_reducible refine (F2.out _ h1).mono ?_); rintro e w4 ⟨rfl, h2⟩; have t2 := below_then h1 h2)
          | (go_at_call 14; (with_reducible refine (F3.out _ t2).mono ?_); rintro e w5 ⟨b3, l3, c3, rfl, r3, h3⟩; have t3 := below_then t2 h3)
          | (go_at_call 7; (with_reducible refine (alive28_any _).mono ?_); rintro e wa ⟨rfl, ha⟩))
        go_ret
        exact ⟨rfl, below_then t3 ha⟩
    · have hbt : ∀ x ∈ T.1, 0 ≤ x ∧ x ≤ 255 := fun x hx => hbd x (hmem x hx)
      have hgz := pln_gap hpl hbt
      have F4 := hid (fun W b1 l1 c1 (h : Reads .u8 W b1 l1 c1 T.1) (hl : l1 < 1000000) => by
        have := atom_Plain b1 l1 c1 T.1 W h hl
        rwa [hpl] at this)
      have F5 := hid (fun W b1 l1 c1 (h : Reads .u8 W b1 l1 c1 T.1) (hl : l1 < 1000000) => by
        have := atom_Gap b1 l1 c1 T.1 0 W h hl (by decide)
        rw [hgz] at this
        exact this)
      have htl : T.1.length ≤ 500 := by have := tokA_len xs0 (G : Int); rw [hTe] at this; omega
      have HTL := hid htl
      have HN := hid hn
      rw [he] at F3
      have e0 : (T.2.2 != 0) = false := by simpa using he
      clear he hbd hbt hgz hpl hmem hn htl hTe
      rcases hP with ⟨p1, p2⟩ | ⟨p1, p2, p3⟩ | ⟨p1, p2, p3⟩
      all_goals
        have z0 : ¬ (len0 : Int) < 0 := by omega
        go_enter Try.func6, Try.ntmps6
        go_wp2_with (first
          | (go_at_call 10; have hX := r3; clear hX; (with_reducible refine (F5.out _ _ _ _ r4 hl3).mono ?_); rintro e w7 ⟨rfl, h5⟩; have t5 := below_then t4 h5)
          | (go_at_call 10; (with_reducible refine F1.out.mono ?_); rintro e w3 ⟨rfl, h1⟩)
          | (go_at_call 10; (with_reducible refine (F2.out _ h1).mono ?_); rintro e w4 ⟨rfl, h2⟩; have t2 := below_then h1 h2)
          | (go_at_call 14; (with_reducible refine (F3.out _ t2).mono ?_); rintro e w5 ⟨b3, l3, c3, rfl, r3, h3⟩; have t3 := below_then t2 h3; have hl3 : l3 < 1000000 := (by have := HTL.out; have := r3.size; omega); have hnn : ((T.2.1 : Int) == (G : Int) + (l3 : Int)) = true := (by have := HN.out; have := r3.size; simp; omega); have hww : IntKind.i64.wrap ((G : Int) + (l3 : Int)) = (G : Int) + (l3 : Int) := IntWalk.i64_in _ (by omega))
          | (go_at_call 21; (with_reducible refine (F4.out _ _ _ _ r3 hl3).mono ?_); rintro e w6 ⟨rfl, h4⟩; have t4 := below_then t3 h4; have r4 := r3.below h4)
          | (go_at_call 7; (with_reducible refine (alive28_any _).mono ?_); rintro e wa ⟨rfl, ha⟩))
        go_ret
        exact ⟨rfl, below_then t5 ha⟩
  · have hN' : 500 < len0 := by omega
    go_enter Try.func6, Try.ntmps6
    go_wp2_with (go_at_call 7; (with_reducible refine (alive28_any _).mono ?_); rintro e w' ⟨rfl, hb⟩)
    go_ret
    exact ⟨rfl, hb⟩

set_option maxRecDepth 100000 in
theorem lifted (os : Os) (started : os.Started) (H : Type) (enc : TypeId × Value → H) :
    ReturnsInHanded {} Try.checked os 6 .any (Rows.atomWaysSpec.pre6 enc Try.prog Try.f6 Rows.atomWaysRow.domain false) (Rows.atomWaysSpec.post enc Try.prog Try.f6 false true false false) := by
  refine returnsInHanded_of_change (C := Try.checked) own started (by kernel_rfl) Try.func6
    (ChangeSpec.witness6 (enc := enc) (C := Try.checked) false ⟨#[], #[.slice none 0 0, .int .i64 0], []⟩ 8 (by kernel_rfl) (by kernel_rfl) (by kernel_rfl) (by kernel_rfl)) ?_
  intro W base args ds gs before hval0 hW hcnd _
  have hval : ∀ (j : Nat) t v, Try.f6.params[j]? = some t → args[j]? = some v → Value.okWide Try.prog W .any base t v := hval0
  have hW' := hW
  obtain ⟨p, q, hA0, hV, rfl, hfz, hnd⟩ := hW
  have hA : DataW.TrodAll enc Try.prog W 0 (fun _ => true) true Try.f6.params.toList args.toList ds p := hA0
  rw [Try.params6] at hA hval
  obtain ⟨v0, vs0, d0, ds0, p0, q0, hargs, rfl, rfl, h0, r_0⟩ := trodAll_cons hA
  obtain ⟨v1, vs1, d1, ds1, p1, q1, rfl, rfl, rfl, h1, r_1⟩ := trodAll_cons r_0
  obtain ⟨rfl, rfl, rfl⟩ := trodAll_nil r_1
  obtain rfl : args = #[v0, v1] := by cases args; simp_all
  obtain ⟨rfl, rfl⟩ := trodVars_none hV
  obtain ⟨a0, len0, cap0, rfl⟩ := okWide_slice Try.underlying22 (hval 0 22 v0 rfl rfl)
  have k0 := h0
  have lt0 : ∀ x ∈ p0, x.block < W.heap.size := by obtain ⟨m, hm⟩ := k0; exact DataW.trod_lt m _ _ _ hm
  obtain ⟨xs0, r0⟩ : ∃ xs, Reads .u8 W a0 len0 cap0 xs := by
    obtain ⟨fuel, hf⟩ := h0
    rcases open_ints Try.underlying22 Try.underlying5 (by kernel_rfl) hf with ⟨hcs, _⟩ | ⟨x, l, c, zs, hcs, _, hl, hm, hz, _, hcell, hwz⟩
    · simp [Value.cells] at hcs
      obtain ⟨rfl, rfl, rfl⟩ := hcs
      exact ⟨[], Reads.nil _ _ _ _ (Nat.zero_le _)⟩
    · simp [Value.cells] at hcs
      obtain ⟨rfl, rfl, rfl⟩ := hcs
      exact ⟨_, reads_of_ints hl hm (by simpa using hz) hcell hwz⟩
  obtain ⟨a1, rfl, rfl, rfl, w1⟩ := open_int Try.underlying3 (hval 1 3 v1 rfl rfl) h1
  clear hA0 hval0
  refine (walk a0 len0 cap0 xs0 a1 W r0 w1).mono fun e W' ⟨he, bel⟩ => ?_
  subst he
  exact ⟨_, rfl, _, _, _, [], _, [], hW', trodAll_mk1 (shut_bool Try.underlying4 _), (trodAll_cons_mk (Below.trod laidOut (by kernel_rfl) (of_decide_eq_true (by kernel_rfl)) k0 bel lt0) (trodAll_cons_mk (shut_int Try.underlying3 w1) trodAll_mk0)), rfl, bel.frame _, fun h => by cases h⟩

theorem over : Rows.atomWaysRow.holds Try.pinned (OpenSpec.ofChange Rows.atomWaysSpec) :=
  OpenClaim.holds_of_wide 6 Try.f6 rfl rfl rfl rfl rfl rfl rfl ⟨rfl, rfl, rfl, rfl, rfl⟩ rfl rfl rfl rfl rfl (by kernel_rfl) Try.func6 (by kernel_rfl)
    (of_decide_eq_true (by kernel_rfl)) (by unfold Func.isWrapper; first | (rw [if_pos (by decide +kernel)]; kernel_rfl) | (rw [if_neg (by decide +kernel)]; exact ⟨rfl, rfl⟩))
    (fun os started H enc _ => lifted os started H enc)

end Go.Proofs.Ytdipabcoeloeoaa.atomWays
namespace Go.Proofs.Ytdipabcoeloeoaa
theorem atomWays_holds : Rows.AtomWaysSaid := atomWays.over
#print axioms atomWays_holds
end Go.Proofs.Ytdipabcoeloeoaa
