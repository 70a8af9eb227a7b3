/-
  Proved: for every []byte s (nil, empty, of any length and capacity), in whatever memory and on every schedule, sheavelaw29.EwformParses(s) returns true, without a panic or a race, and its argument reads as before. No condition.
-/
import Derived.Test.YtplceogclmgnnaaGreatRows
import Derived.Test.YtplceogclmgnnaaGreatZ44
import Derived.WalkKit
import Derived.ProofKit
import Derived.OpenShut
import Derived.ShutString
import Derived.ChangeOld
import Derived.Below
namespace Go.Proofs.YtplceogclmgnnaaGreat.ewformParses
open Go.ChangeShapes Go.WideShapes Go.ChangeAt Go.RowKit
open Go.ChangeMaps (open_string shut_string)
set_option linter.unusedVariables false

theorem own : ownKnob Tryz.prog.godebug = none := by kernel_rfl
theorem laidOut : laidOutB Tryz.prog = true := by kernel_rfl
theorem like29_oct (a : Option Addr) (len cap : Nat) (a2 : Option Addr) (len2 cap2 : Nat) (xs : List Int) (w : World) (hr : Reads .u8 w a len cap xs) (hr2 : Reads .u8 w a2 len2 cap2 xs) :
    Calls Tryz.prog 10 #[.slice a len cap, .slice a2 len2 cap2] w fun e w' => e = .returned (.bool true) ∧ Below w.heap.size w w' := by
  have := like_r a len cap xs a2 len2 cap2 xs w hr hr2
  rw [decide_eq_true rfl] at this
  refine this.mono ?_
  rintro e w' ⟨rfl, n, rfl⟩
  exact ⟨rfl, Below.drewN (Below.refl _ _) n⟩
set_option maxHeartbeats 4000000 in
set_option maxRecDepth 100000 in
theorem walk (a0 : Option Addr) (len0 cap0 : Nat) (xs0 : List Int) (w : World) (r0 : Reads .u8 w a0 len0 cap0 xs0) :
    Calls Tryz.prog 3 #[.slice a0 len0 cap0] w fun e w' => e = .returned (.bool true) ∧ Below w.heap.size w w' := by
  by_cases hN : len0 ≤ 500
  · have R := hid r0
    have HP := hid (ewform_Parse a0 len0 cap0 xs0 w r0 (by omega))
    have HR := hid (fun W (hb : Below w.heap.size w W) => ref29_Parse a0 len0 cap0 xs0 W (r0.below hb) (by omega))
    have HI := hid (fun W (hb : Below w.heap.size w W) => ewform_Is a0 len0 cap0 xs0 W (r0.below hb) (by omega))
    unfold ParP at HR
    clear r0
    generalize ewN xs0 = N at *
    generalize ewT xs0 = T at *
    generalize ewK xs0 = K at *
    obtain ⟨E, hE⟩ : ∃ E, E = ewE xs0 := ⟨_, rfl⟩
    rw [← hE] at HP HR HI
    clear hE
    obtain ⟨B, hB⟩ : ∃ B, B = decide (E = 0) := ⟨_, rfl⟩
    rw [← hB] at HI
    have HB := hid (show (E == 0) = B by rw [hB]; rfl)
    clear hB
    go_enter Tryz.func3, Tryz.ntmps3
    go_wp2_with (first
      | (go_at_call 8; (with_reducible refine HP.out.mono ?_); rintro e w1 ⟨a1, l1, c1, a2, l2, c2, rfl, r1, r2, h1⟩; have hal1 := (Below.refl w1.heap.size w1).alloc (Nat.le_refl _) (.cells #[.slice a1 l1 c1, .int .i64 K, .slice a2 l2 c2] 25); have BA := Blk.new w1 25 #[.slice a1 l1 c1, .int .i64 K, .slice a2 l2 c2]; have t1 := h1.alloc h1.size (.cells #[.slice a1 l1 c1, .int .i64 K, .slice a2 l2 c2] 25))
      | (go_at_call 9; (with_reducible refine (HR.out _ t1).mono ?_); rintro e w2 ⟨a3, l3, c3, a4, l4, c4, rfl, r3, r4, h2⟩; have hal2 := (Below.refl w2.heap.size w2).alloc (Nat.le_refl _) (.cells #[.slice a3 l3 c3, .int .i64 K, .slice a4 l4 c4] 29); have BB := Blk.new w2 29 #[.slice a3 l3 c3, .int .i64 K, .slice a4 l4 c4]; have h2a := h2.trans (hal2.mono h2.size); have t2 := below_then t1 h2a; have BA2 := BA.below h2a (by simp); have p1 := ((r1.below hal1).below h2a); have p2 := ((r2.below hal1).below h2a); have p3 := r3.below hal2; have p4 := r4.below hal2; have d0 := BA2.cell (i := 0) rfl; have d1 := BA2.cell (i := 1) rfl; have d2 := BA2.cell (i := 2) rfl)
      | (go_at_call 10; (with_reducible refine (like29_oct _ _ _ _ _ _ _ _ p1 p3).mono ?_); rintro e w3 ⟨rfl, h3⟩; have t3 := below_then t2 h3; have BA3 := BA2.below h3 BA2.lt; have BB3 := BB.below h3 BB.lt; have p23 := p2.below h3; have p43 := p4.below h3; have e0 := BA3.cell (i := 1) rfl; have e1 := BA3.cell (i := 2) rfl; have e2 := BB3.cell (i := 1) rfl; have e3 := BB3.cell (i := 2) rfl)
      | (go_at_call 10; (with_reducible refine (like29_oct _ _ _ _ _ _ _ _ p23 p43).mono ?_); rintro e w4 ⟨rfl, h4⟩; have t4 := below_then t3 h4)
      | (go_at_call 11; (with_reducible refine (HI.out _ t4).mono ?_); rintro e w5 ⟨rfl, h5⟩; have t5 := below_then t4 h5; have hb := HB.out)
      | (go_at_call 7; (with_reducible refine (alive29_any _).mono ?_); rintro e w6 ⟨rfl, h6⟩))
    go_ret
    exact ⟨rfl, below_then t5 h6⟩
  · have hN' : 500 < len0 := by omega
    go_enter Tryz.func3, Tryz.ntmps3
    go_wp2_with (go_at_call 7; (with_reducible refine (alive29_any _).mono ?_); rintro e w' ⟨rfl, hb⟩)
    go_ret
    exact ⟨rfl, hb⟩

set_option maxRecDepth 100000 in
theorem lifted (os : Os) (started : os.Started) (H : Type) (enc : TypeId × Value → H) :
    ReturnsInHanded {} Tryz.checked os 3 .any (Rows.ewformParsesSpec.pre6 enc Tryz.prog Tryz.f3 Rows.ewformParsesRow.domain false) (Rows.ewformParsesSpec.post enc Tryz.prog Tryz.f3 false true false false) := by
  refine returnsInHanded_of_change (C := Tryz.checked) own started (by kernel_rfl) Tryz.func3
    (ChangeSpec.witness6 (enc := enc) (C := Tryz.checked) false ⟨#[], #[.slice none 0 0], []⟩ 8 (by kernel_rfl) (by kernel_rfl) (by kernel_rfl) (by kernel_rfl)) ?_
  intro W base args ds gs before hval0 hW hcnd _
  have hval : ∀ (j : Nat) t v, Tryz.f3.params[j]? = some t → args[j]? = some v → Value.okWide Tryz.prog W .any base t v := hval0
  have hW' := hW
  obtain ⟨p, q, hA0, hV, rfl, hfz, hnd⟩ := hW
  have hA : DataW.TrodAll enc Tryz.prog W 0 (fun _ => true) true Tryz.f3.params.toList args.toList ds p := hA0
  rw [Tryz.params3] at hA hval
  obtain ⟨v0, vs0, d0, ds0, p0, q0, hargs, rfl, rfl, h0, r_0⟩ := trodAll_cons hA
  obtain ⟨rfl, rfl, rfl⟩ := trodAll_nil r_0
  obtain rfl : args = #[v0] := by cases args; simp_all
  obtain ⟨rfl, rfl⟩ := trodVars_none hV
  obtain ⟨a0, len0, cap0, rfl⟩ := okWide_slice Tryz.underlying22 (hval 0 22 v0 rfl rfl)
  have k0 := h0
  have lt0 : ∀ x ∈ p0, x.block < W.heap.size := by obtain ⟨m, hm⟩ := k0; exact DataW.trod_lt m _ _ _ hm
  obtain ⟨xs0, r0⟩ : ∃ xs, Reads .u8 W a0 len0 cap0 xs := by
    obtain ⟨fuel, hf⟩ := h0
    rcases open_ints Tryz.underlying22 Tryz.underlying5 (by kernel_rfl) hf with ⟨hcs, _⟩ | ⟨x, l, c, zs, hcs, _, hl, hm, hz, _, hcell, hwz⟩
    · simp [Value.cells] at hcs
      obtain ⟨rfl, rfl, rfl⟩ := hcs
      exact ⟨[], Reads.nil _ _ _ _ (Nat.zero_le _)⟩
    · simp [Value.cells] at hcs
      obtain ⟨rfl, rfl, rfl⟩ := hcs
      exact ⟨_, reads_of_ints hl hm (by simpa using hz) hcell hwz⟩
  clear hA0 hval0
  refine (walk a0 len0 cap0 xs0 W r0).mono fun e W' ⟨he, bel⟩ => ?_
  subst he
  exact ⟨_, rfl, _, _, _, [], _, [], hW', trodAll_mk1 (shut_bool Tryz.underlying4 _), (trodAll_cons_mk (Below.trod laidOut (by kernel_rfl) (of_decide_eq_true (by kernel_rfl)) k0 bel lt0) trodAll_mk0), rfl, bel.frame _, fun h => by cases h⟩

theorem over : Rows.ewformParsesRow.holds Tryz.pinned (OpenSpec.ofChange Rows.ewformParsesSpec) :=
  OpenClaim.holds_of_wide 3 Tryz.f3 rfl rfl rfl rfl rfl rfl rfl ⟨rfl, rfl, rfl, rfl, rfl⟩ rfl rfl rfl rfl rfl (by kernel_rfl) Tryz.func3 (by kernel_rfl)
    (of_decide_eq_true (by kernel_rfl)) (by unfold Func.isWrapper; first | (rw [if_pos (by decide +kernel)]; kernel_rfl) | (rw [if_neg (by decide +kernel)]; exact ⟨rfl, rfl⟩))
    (fun os started H enc _ => lifted os started H enc)

end Go.Proofs.YtplceogclmgnnaaGreat.ewformParses
namespace Go.Proofs.YtplceogclmgnnaaGreat
theorem ewformParses_holds : Rows.EwformParsesSaid := ewformParses.over
#print axioms ewformParses_holds
end Go.Proofs.YtplceogclmgnnaaGreat
