/-
  Proved: for every octet c, in whatever memory and on every schedule, sheavelaw01.OctetParts(c) returns true, without a panic or a race, and its argument reads as before. No condition.
-/
import Derived.Test.YtjmjljhicfaalaaRows
import Derived.Test.YtjmjljhicfaalaaAlive01
import Derived.WalkKit
import Derived.ProofKit
import Derived.OpenShut
import Derived.ShutString
import Derived.ChangeOld
import Derived.Below
namespace Go.Proofs.Ytjmjljhicfaalaa.octetParts
open Go.ChangeShapes Go.WideShapes Go.ChangeAt Go.RowKit
open Go.ChangeMaps (open_string shut_string)
set_option linter.unusedVariables false

theorem own : ownKnob Try.prog.godebug = none := by kernel_rfl
theorem laidOut : laidOutB Try.prog = true := by kernel_rfl
theorem pats : ∀ c : Int, 0 ≤ c → c ≤ 255 → (isB 4 c, isB 32 c, isB 64 c, isB 1 c, isB 920 c, isB 256 c, isB 24 c, isB 128 c, isB 512 c) ∈
    [(false, false, false, false, false, false, false, false, false), (false, false, false, true, false, false, false, false, false), (true, false, true, false, false, false, false, false, false), (true, false, true, false, true, false, false, true, false), (true, false, true, false, true, true, false, false, false), (true, false, true, false, true, true, false, true, false), (true, false, true, false, true, true, false, true, true), (true, false, true, false, true, true, true, true, true), (true, true, false, false, false, false, false, false, false), (true, true, false, false, true, false, false, true, true)] :=
  byte_fin (p := fun c => (isB 4 c, isB 32 c, isB 64 c, isB 1 c, isB 920 c, isB 256 c, isB 24 c, isB 128 c, isB 512 c) ∈
    [(false, false, false, false, false, false, false, false, false), (false, false, false, true, false, false, false, false, false), (true, false, true, false, false, false, false, false, false), (true, false, true, false, true, false, false, true, false), (true, false, true, false, true, true, false, false, false), (true, false, true, false, true, true, false, true, false), (true, false, true, false, true, true, false, true, true), (true, false, true, false, true, true, true, true, true), (true, true, false, false, false, false, false, false, false), (true, true, false, false, true, false, false, true, true)]) (by decide +kernel)
set_option maxHeartbeats 4000000 in
set_option maxRecDepth 100000 in
theorem walk (a0 : Int) (w : World) (w0 : (Lit.int .u8 a0).wf = true) :
    Calls Try.prog 6 #[.int .u8 a0] w fun e w' => e = .returned (.bool true) ∧ Below w.heap.size w w' := by
  have h0 := wf_u8 w0
  have hp := pats a0 h0.1 h0.2
  simp only [List.mem_cons, Prod.mk.injEq, List.not_mem_nil, or_false] at hp
  rcases hp with hp | hp | hp | hp | hp | hp | hp | hp | hp | hp
  all_goals
    obtain ⟨p4, p32, p64, p1, p920, p256, p24, p128, p512⟩ := hp
    go_enter Try.func6, Try.ntmps6
    go_wp2_with (first
      | (go_at_call 9; (with_reducible refine (is_c _ _ _ h0.1 h0.2).mono ?_); rintro e w' ⟨rfl, rfl⟩)
      | (go_at_call 13; (with_reducible refine (alive_any _).mono ?_); rintro e w' ⟨rfl, hb⟩))
    go_ret
    exact ⟨rfl, hb⟩

set_option maxRecDepth 100000 in
theorem lifted (os : Os) (started : os.Started) (H : Type) (enc : TypeId × Value → H) :
    ReturnsInHanded {} Try.checked os 6 .any (Rows.octetPartsSpec.pre6 enc Try.prog Try.f6 Rows.octetPartsRow.domain false) (Rows.octetPartsSpec.post enc Try.prog Try.f6 false true false false) := by
  refine returnsInHanded_of_change (C := Try.checked) own started (by kernel_rfl) Try.func6
    (ChangeSpec.witness6 (enc := enc) (C := Try.checked) false ⟨#[], #[.int .u8 0], []⟩ 8 (by kernel_rfl) (by kernel_rfl) (by kernel_rfl) (by kernel_rfl)) ?_
  intro W base args ds gs before hval0 hW hcnd _
  have hval : ∀ (j : Nat) t v, Try.f6.params[j]? = some t → args[j]? = some v → Value.okWide Try.prog W .any base t v := hval0
  have hW' := hW
  obtain ⟨p, q, hA0, hV, rfl, hfz, hnd⟩ := hW
  have hA : DataW.TrodAll enc Try.prog W 0 (fun _ => true) true Try.f6.params.toList args.toList ds p := hA0
  rw [Try.params6] at hA hval
  obtain ⟨v0, vs0, d0, ds0, p0, q0, hargs, rfl, rfl, h0, r_0⟩ := trodAll_cons hA
  obtain ⟨rfl, rfl, rfl⟩ := trodAll_nil r_0
  obtain rfl : args = #[v0] := by cases args; simp_all
  obtain ⟨rfl, rfl⟩ := trodVars_none hV
  obtain ⟨a0, rfl, rfl, rfl, w0⟩ := open_int Try.underlying5 (hval 0 5 v0 rfl rfl) h0
  clear hA0 hval0
  refine (walk a0 W w0).mono fun e W' ⟨he, bel⟩ => ?_
  subst he
  exact ⟨_, rfl, _, _, _, [], _, [], hW', trodAll_mk1 (shut_bool Try.underlying4 _), (trodAll_cons_mk (shut_int Try.underlying5 w0) trodAll_mk0), rfl, bel.frame _, fun h => by cases h⟩

theorem over : Rows.octetPartsRow.holds Try.pinned (OpenSpec.ofChange Rows.octetPartsSpec) :=
  OpenClaim.holds_of_wide 6 Try.f6 rfl rfl rfl rfl rfl rfl rfl ⟨rfl, rfl, rfl, rfl, rfl⟩ rfl rfl rfl rfl rfl (by kernel_rfl) Try.func6 (by kernel_rfl)
    (of_decide_eq_true (by kernel_rfl)) (by unfold Func.isWrapper; first | (rw [if_pos (by decide +kernel)]; kernel_rfl) | (rw [if_neg (by decide +kernel)]; exact ⟨rfl, rfl⟩))
    (fun os started H enc _ => lifted os started H enc)

end Go.Proofs.Ytjmjljhicfaalaa.octetParts
namespace Go.Proofs.Ytjmjljhicfaalaa
theorem octetParts_holds : Rows.OctetPartsSaid := octetParts.over
#print axioms octetParts_holds
end Go.Proofs.Ytjmjljhicfaalaa
