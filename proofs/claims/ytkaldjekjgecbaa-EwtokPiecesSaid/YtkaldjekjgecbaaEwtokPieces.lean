/-
  Proved: for every []byte s (nil, empty, of any length and capacity), in whatever memory and on every schedule, sheavelaw32.EwtokPieces(s) returns true, without a panic or a race, and its argument reads as before. No condition.
-/
import Derived.Test.YtkaldjekjgecbaaRows
import Derived.Test.YtkaldjekjgecbaaZ27
import Derived.WalkKit
import Derived.ProofKit
import Derived.OpenShut
import Derived.ShutString
import Derived.ChangeOld
import Derived.Below
namespace Go.Proofs.Ytkaldjekjgecbaa.ewtokPieces
open Go.ChangeShapes Go.WideShapes Go.ChangeAt Go.RowKit
open Go.ChangeMaps (open_string shut_string)
set_option linter.unusedVariables false

theorem own : ownKnob Try.prog.godebug = none := by kernel_rfl
theorem laidOut : laidOutB Try.prog = true := by kernel_rfl
theorem wrd_snoc {L : List (Int × List Int)} {j : Nat} {k : Int} {x : List Int} (ht : L.take (j + 1) = L.take j ++ [(k, x)]) : (L.take (j + 1)).countP (fun p => decide (p.1 = 3)) = (L.take j).countP (fun p => decide (p.1 = 3)) + if k = 3 then 1 else 0 := by
  rw [ht, List.countP_append, List.countP_cons, List.countP_nil]
  simp
set_option maxHeartbeats 4000000 in
set_option maxRecDepth 100000 in
theorem walk (a0 : Option Addr) (len0 cap0 : Nat) (xs0 : List Int) (w : World) (r0 : Reads .u8 w a0 len0 cap0 xs0) :
    Calls Try.prog 3 #[.slice a0 len0 cap0] w fun e w' => e = .returned (.bool true) ∧ Below w.heap.size w w' := by
  by_cases hN : len0 ≤ 500
  · have R := hid r0
    have hpl : (pcsP xs0).length ≤ len0 := by
      unfold pcsP
      rw [List.length_map, ← r0.size]
      exact (pcsT_whole xs0).2.2
    have F0 := hid (ref32_Pieces a0 len0 cap0 xs0 w r0 (by omega))
    have F1 := hid (fun W (hb : Below w.heap.size w W) => ewtok_Pieces a0 len0 cap0 xs0 W (R.out.below hb) (by omega))
    have F2 := hid (fun W (hb : Below w.heap.size w W) => ref32_Pieces a0 len0 cap0 xs0 W (R.out.below hb) (by omega))
    have F3 := hid (fun W (hb : Below w.heap.size w W) => ewtok_Shown a0 len0 cap0 xs0 W (R.out.below hb) (by omega))
    have F4 := hid (fun W (hb : Below w.heap.size w W) => ref32_Shown a0 len0 cap0 xs0 W (R.out.below hb) (by omega))
    have F5 := hid (fun W (hb : Below w.heap.size w W) => ewtok_Kind a0 len0 cap0 xs0 W (R.out.below hb) (by omega))
    have F6 := hid (fun W (hb : Below w.heap.size w W) => ref32_Kind a0 len0 cap0 xs0 W (R.out.below hb) (by omega))
    have F7 := hid (fun W (hb : Below w.heap.size w W) => ewtok_Words a0 len0 cap0 xs0 W (R.out.below hb) (by omega))
    obtain ⟨N, hNW⟩ : ∃ N, N = wrdN xs0 := ⟨_, rfl⟩
    rw [← hNW] at F7
    unfold wrdN at hNW
    have HC := hid (fun j => List.countP_le_length (p := fun p : Int × List Int => decide (p.1 = 3)) (l := (pcsP xs0).take j))
    clear r0
    generalize pcsP xs0 = L at *
    generalize shwP xs0 = M at *
    generalize kdW xs0 = D at *
    have HN := hid hNW
    clear hNW
    go_enter Try.func3, Try.ntmps3
    go_wp2_with (go_at_call 7; (with_reducible refine F0.out.mono ?_); rintro e v1 ⟨z1, rfl, O1, y1⟩; (obtain ⟨a1, c1, rfl, q1⟩ := O1.rows))
    have Q1 := hid q1
    clear q1 O1
    go_loopw [3, 13] (fun nv iv wr => ∃ (j k : Nat), j ≤ L.length ∧ iv = .int .i64 j ∧ nv = .int .i64 k ∧ k ≤ j ∧ Hid (k = (L.take j).countP (fun p => decide (p.1 = 3))) ∧ Below v1.heap.size v1 wr) (fun _ iv _ => L.length - (intOf iv).toNat)
    case atStart => exact ⟨0, 0, Nat.zero_le _, rfl, rfl, Nat.le_refl _, by rw [Hid, List.take_zero]; rfl, Below.refl _ _⟩
    case round =>
      obtain ⟨j, k, hj, rfl, rfl, hkj, hk, hb⟩ := hrel
      by_cases hlt : j < L.length
      · obtain ⟨b, off, kx, x, ai, li, ci, rfl, hbw, hck, hcx, hx, hg, ht⟩ := (Q1.out.below hb).get2 hlt
        have hsn := wrd_snoc ht
        rw [← hk.out] at hsn
        have HS := hid hsn
        have q1 : (j : Int) < (L.length : Int) := by omega
        have BP := Blk.new wr 27 #[.int .i64 kx, .slice ai li ci]
        have d0 := BP.cell (i := 0) rfl
        have hal := hb.alloc hb.size (.cells #[.int .i64 kx, .slice ai li ci] 27)
        clear hx hg ht hsn hk
        by_cases h3 : kx = 3
        · subst h3
          have HS2 : Hid (k + 1 = (L.take (j + 1)).countP (fun p => decide (p.1 = 3))) := by rw [Hid, HS.out, if_pos rfl]
          go_wp2_with fail
          go_roundw
          case rel => exact ⟨j + 1, k + 1, by omega, by go_num, by go_num, by omega, HS2, hal⟩
          case measure => simp [intOf]; omega
        · have HS2 : Hid (k = (L.take (j + 1)).countP (fun p => decide (p.1 = 3))) := by rw [Hid, HS.out, if_neg h3, Nat.add_zero]
          have h3' : (kx == 3) = false := by simpa using h3
          clear h3
          go_wp2_with fail
          go_roundw
          case rel => exact ⟨j + 1, k, by omega, by go_num, rfl, by omega, HS2, hal⟩
          case measure => simp [intOf]; omega
      · obtain rfl : j = L.length := by omega
        have hk' := hk.out
        rw [List.take_length, ← HN.out] at hk'
        subst hk'
        have q1 : ¬ (L.length : Int) < (L.length : Int) := by omega
        have y2 := below_then y1 hb
        clear hk
        go_wp2_with (first
          | (go_at_call 9; (with_reducible refine (F1.out _ y2).mono ?_); rintro e v2 ⟨a2, m2, c2, rfl, q2, h2⟩; have y3 := below_then y2 h2)
          | (go_at_call 7; (with_reducible refine (F2.out _ y3).mono ?_); rintro e v3 ⟨z3, rfl, O3, h3⟩; (obtain ⟨a3, c3, rfl, q3⟩ := O3.rows); have y4 := below_then y3 h3; have q23 := q2.below h3)
          | (go_at_call 8; (with_reducible refine (same32 _ _ _ _ _ _ _ _ q23 q3).mono ?_); rintro e v4 ⟨rfl, h4⟩; have y5 := below_then y4 h4)
          | (go_at_call 10; (with_reducible refine (F3.out _ y5).mono ?_); rintro e v5 ⟨a5, m5, c5, rfl, q5, h5⟩; have y6 := below_then y5 h5)
          | (go_at_call 11; (with_reducible refine (F4.out _ y6).mono ?_); rintro e v6 ⟨z6, rfl, O6, h6⟩; (obtain ⟨a6, c6, rfl, q6⟩ := O6.rows); have y7 := below_then y6 h6; have q56 := q5.below h6)
          | (go_at_call 8; (with_reducible refine (same32 _ _ _ _ _ _ _ _ q56 q6).mono ?_); rintro e v7 ⟨rfl, h7⟩; have y8 := below_then y7 h7)
          | (go_at_call 12; (with_reducible refine (F5.out _ y8).mono ?_); rintro e v8 ⟨rfl, h8⟩; have y9 := below_then y8 h8)
          | (go_at_call 13; (with_reducible refine (F6.out _ y9).mono ?_); rintro e v9 ⟨rfl, h9⟩; have y10 := below_then y9 h9)
          | (go_at_call 14; (with_reducible refine (F7.out _ y10).mono ?_); rintro e v10 ⟨rfl, h10⟩; have y11 := below_then y10 h10)
          | (go_at_call 6; (with_reducible refine (alive32_any _).mono ?_); rintro e v11 ⟨rfl, h11⟩))
        go_ret
        exact ⟨rfl, below_then y11 h11⟩
  · have hN' : 500 < len0 := by omega
    go_enter Try.func3, Try.ntmps3
    go_wp2_with (go_at_call 6; (with_reducible refine (alive32_any _).mono ?_); rintro e w' ⟨rfl, hb⟩)
    go_ret
    exact ⟨rfl, hb⟩

set_option maxRecDepth 100000 in
theorem lifted (os : Os) (started : os.Started) (H : Type) (enc : TypeId × Value → H) :
    ReturnsInHanded {} Try.checked os 3 .any (Rows.ewtokPiecesSpec.pre6 enc Try.prog Try.f3 Rows.ewtokPiecesRow.domain false) (Rows.ewtokPiecesSpec.post enc Try.prog Try.f3 false true false false) := by
  refine returnsInHanded_of_change (C := Try.checked) own started (by kernel_rfl) Try.func3
    (ChangeSpec.witness6 (enc := enc) (C := Try.checked) false ⟨#[], #[.slice none 0 0], []⟩ 8 (by kernel_rfl) (by kernel_rfl) (by kernel_rfl) (by kernel_rfl)) ?_
  intro W base args ds gs before hval0 hW hcnd _
  have hval : ∀ (j : Nat) t v, Try.f3.params[j]? = some t → args[j]? = some v → Value.okWide Try.prog W .any base t v := hval0
  have hW' := hW
  obtain ⟨p, q, hA0, hV, rfl, hfz, hnd⟩ := hW
  have hA : DataW.TrodAll enc Try.prog W 0 (fun _ => true) true Try.f3.params.toList args.toList ds p := hA0
  rw [Try.params3] at hA hval
  obtain ⟨v0, vs0, d0, ds0, p0, q0, hargs, rfl, rfl, h0, r_0⟩ := trodAll_cons hA
  obtain ⟨rfl, rfl, rfl⟩ := trodAll_nil r_0
  obtain rfl : args = #[v0] := by cases args; simp_all
  obtain ⟨rfl, rfl⟩ := trodVars_none hV
  obtain ⟨a0, len0, cap0, rfl⟩ := okWide_slice Try.underlying22 (hval 0 22 v0 rfl rfl)
  have k0 := h0
  have lt0 : ∀ x ∈ p0, x.block < W.heap.size := by obtain ⟨m, hm⟩ := k0; exact DataW.trod_lt m _ _ _ hm
  obtain ⟨xs0, r0⟩ : ∃ xs, Reads .u8 W a0 len0 cap0 xs := by
    obtain ⟨fuel, hf⟩ := h0
    rcases open_ints Try.underlying22 Try.underlying5 (by kernel_rfl) hf with ⟨hcs, _⟩ | ⟨x, l, c, zs, hcs, _, hl, hm, hz, _, hcell, hwz⟩
    · simp [Value.cells] at hcs
      obtain ⟨rfl, rfl, rfl⟩ := hcs
      exact ⟨[], Reads.nil _ _ _ _ (Nat.zero_le _)⟩
    · simp [Value.cells] at hcs
      obtain ⟨rfl, rfl, rfl⟩ := hcs
      exact ⟨_, reads_of_ints hl hm (by simpa using hz) hcell hwz⟩
  clear hA0 hval0
  refine (walk a0 len0 cap0 xs0 W r0).mono fun e W' ⟨he, bel⟩ => ?_
  subst he
  exact ⟨_, rfl, _, _, _, [], _, [], hW', trodAll_mk1 (shut_bool Try.underlying4 _), (trodAll_cons_mk (Below.trod laidOut (by kernel_rfl) (of_decide_eq_true (by kernel_rfl)) k0 bel lt0) trodAll_mk0), rfl, bel.frame _, fun h => by cases h⟩

theorem over : Rows.ewtokPiecesRow.holds Try.pinned (OpenSpec.ofChange Rows.ewtokPiecesSpec) :=
  OpenClaim.holds_of_wide 3 Try.f3 rfl rfl rfl rfl rfl rfl rfl ⟨rfl, rfl, rfl, rfl, rfl⟩ rfl rfl rfl rfl rfl (by kernel_rfl) Try.func3 (by kernel_rfl)
    (of_decide_eq_true (by kernel_rfl)) (by unfold Func.isWrapper; first | (rw [if_pos (by decide +kernel)]; kernel_rfl) | (rw [if_neg (by decide +kernel)]; exact ⟨rfl, rfl⟩))
    (fun os started H enc _ => lifted os started H enc)

end Go.Proofs.Ytkaldjekjgecbaa.ewtokPieces
namespace Go.Proofs.Ytkaldjekjgecbaa
theorem ewtokPieces_holds : Rows.EwtokPiecesSaid := ewtokPieces.over
#print axioms ewtokPieces_holds
end Go.Proofs.Ytkaldjekjgecbaa
