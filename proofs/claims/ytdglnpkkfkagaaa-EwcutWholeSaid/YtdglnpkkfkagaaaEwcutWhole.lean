/-
  Proved: for every [3]int how and every []rune t (nil, empty, of any length and capacity), in whatever memory and on every schedule, sheavelaw31.EwcutWhole(how, t) returns true, without a panic or a race, and its arguments read as before. No condition.
-/
import Derived.Test.YtdglnpkkfkagaaaRows
import Derived.Test.YtdglnpkkfkagaaaZ33
import Derived.WalkKit
import Derived.ProofKit
import Derived.OpenShut
import Derived.ShutString
import Derived.ChangeOld
import Derived.Below
namespace Go.Proofs.Ytdglnpkkfkagaaa.ewcutWhole
open Go.ChangeShapes Go.WideShapes Go.ChangeAt Go.RowKit
open Go.ChangeMaps (open_string shut_string)
set_option linter.unusedVariables false

theorem own : ownKnob Try.prog.godebug = none := by kernel_rfl
theorem laidOut : laidOutB Try.prog = true := by kernel_rfl
theorem like3_same (a : Option Addr) (len cap : Nat) (a2 : Option Addr) (len2 cap2 : Nat) (xs : List Int) (w : World) (hr : Reads .i32 w a len cap xs) (hr2 : Reads .i32 w a2 len2 cap2 xs) :
    Calls Try.prog 6 #[.slice a len cap, .slice a2 len2 cap2] w fun e w' => e = .returned (.bool true) ∧ Below w.heap.size w w' := by
  have := ref03_Like a len cap xs a2 len2 cap2 xs w hr hr2
  rw [decide_eq_true rfl] at this
  refine this.mono ?_
  rintro e w' ⟨rfl, n, rfl⟩
  exact ⟨rfl, Below.drewN (Below.refl _ _) n⟩
theorem flat_take (L : List (List Int)) (j : Nat) : (L.take j).flatten.length ≤ L.flatten.length := by
  conv => rhs; rw [← List.take_append_drop j L, List.flatten_append, List.length_append]
  omega
set_option maxHeartbeats 4000000 in
set_option maxRecDepth 100000 in
theorem walk (a0_0 a0_1 a0_2 : Int) (a1 : Option Addr) (len1 cap1 : Nat) (xs1 : List Int) (w : World) (w0_0 : (Lit.int .i64 a0_0).wf = true) (w0_1 : (Lit.int .i64 a0_1).wf = true) (w0_2 : (Lit.int .i64 a0_2).wf = true) (r1 : Reads .i32 w a1 len1 cap1 xs1) :
    Calls Try.prog 3 #[.agg #[.int .i64 a0_0, .int .i64 a0_1, .int .i64 a0_2], .slice a1 len1 cap1] w fun e w' => e = .returned (.bool true) ∧ Below w.heap.size w w' := by
  have BA := Blk.new w 22 #[.int .i64 a0_0, .int .i64 a0_1, .int .i64 a0_2]
  have tA : Below w.heap.size w (w.alloc (.cells #[.int .i64 a0_0, .int .i64 a0_1, .int .i64 a0_2] 22)) := (Below.refl _ _).alloc (Nat.le_refl _) _
  have c0 := BA.cell (i := 0) rfl
  have c1 := BA.cell (i := 1) rfl
  have c2 := BA.cell (i := 2) rfl
  by_cases hN : len1 ≤ 80
  · have R := hid r1
    have hsz := r1.size
    have F1 := hid (fun W (hb : Below w.heap.size w W) => ewcut_Cut a0_0 a0_1 a1 len1 cap1 xs1 a0_2 W (R.out.below hb) (by omega) w0_0 w0_1 w0_2)
    clear r1
    by_cases hE : cutE a0_0 a0_1 xs1 a0_2 = 0
    · obtain ⟨p1, p2, _, p4⟩ := cutP_all a0_0 a0_1 _ xs1 a0_2 _ (Nat.le_refl _) (cut_ok hE).2
      rw [hsz] at p4
      rw [hE] at F1
      generalize ctL a0_0 a0_1 xs1 a0_2 = L at *
      have P1 := hid p1
      have P2 := hid (fun p (hp : p ∈ L) => (p2 p hp).1)
      have PF := hid (fun j => flat_take L j)
      have HS := hid (show L.flatten.length = len1 by rw [p1]; exact hsz)
      clear p1 p2 hE hsz
      go_enter Try.func3, Try.ntmps3
      go_wp2_with (go_at_call 5; (with_reducible refine (F1.out _ tA).mono ?_); rintro e v1 ⟨a2, m2, k2, rfl, q1, h1⟩; have y1 := below_then tA h1; obtain rfl : L.length = m2 := q1.size)
      have Q1 := hid q1
      clear c0 c1 c2 q1 h1
      go_loopw [7, 35] (fun ov i wr => ∃ j : Nat, j ≤ L.length ∧ i = .int .i64 j ∧ Own .i32 21 v1.heap.size wr ov (L.take j).flatten ∧ Below v1.heap.size v1 wr) (fun _ i _ => L.length - (intOf i).toNat)
      case atStart => exact ⟨0, Nat.zero_le _, rfl, Own.nil _ _ _ _, Below.refl _ _⟩
      case round =>
        obtain ⟨j, hj, rfl, hown, hb⟩ := hrel
        by_cases hlt : j < L.length
        · obtain ⟨b, off, x, ai, li, ci, rfl, hbw, hc, hx, hg, ht⟩ := (Q1.out.below hb).get1 hlt
          have hne := P2.out x (List.mem_of_getElem? hg)
          have hxs := hx.size
          have hpos : 0 < li := by have := List.length_pos_iff.2 hne; omega
          have hl0 : ((li : Int) == 0) = false := by
            have : ¬ (li : Int) = 0 := by omega
            simpa using this
          have hfl := PF.out (j + 1)
          have hsn : Hid ((L.take (j + 1)).flatten = (L.take j).flatten ++ x) := by rw [Hid, ht]; simp
          rw [hsn.out, HS.out, List.length_append] at hfl
          have HL := hid (show (L.take j).flatten.length + li < 1000000000000 by omega)
          have HX := hid hx
          have z1 : (j : Int) < (L.length : Int) := by omega
          clear hx hg ht hne hxs hfl
          go_wp2_with (at_builtin; go_must (refine wpList_more STR rfl _ _ rfl rfl rfl hown hb HX.out HL.out ?_); intro v3 w3 ho3 hb3)
          rw [← hsn.out] at ho3
          go_roundw
          case rel => exact ⟨j + 1, by omega, by go_num, ho3, hb3⟩
          case measure => simp [intOf]; omega
        · obtain rfl : j = L.length := by omega
          have z1 : ¬ (L.length : Int) < (L.length : Int) := by omega
          rw [List.take_length, P1.out] at hown
          obtain ⟨a6, k6, rfl, r6⟩ := hown.reads
          have y2 := below_then y1 hb
          have R2 := R.out.below y2
          go_wp2_with (first
            | (go_at_call 6; (with_reducible refine (like3_same _ _ _ _ _ _ _ _ r6 R2).mono ?_); rintro e v4 ⟨rfl, h4⟩; have y4 := below_then y2 h4)
            | (go_at_call 4; (with_reducible refine (alive31_any _).mono ?_); rintro e v5 ⟨rfl, h5⟩))
          go_ret
          exact ⟨rfl, below_then y4 h5⟩
    · rw [ct_no hE] at F1
      have hE' : (cutE a0_0 a0_1 xs1 a0_2 != 0) = true := by simpa using hE
      generalize cutE a0_0 a0_1 xs1 a0_2 = E at *
      clear hE
      go_enter Try.func3, Try.ntmps3
      go_wp2_with (first
        | (go_at_call 5; (with_reducible refine (F1.out _ tA).mono ?_); rintro e v1 ⟨a2, m2, k2, rfl, q1, h1⟩; have y1 := below_then tA h1; obtain rfl : 0 = m2 := q1.size)
        | (go_at_call 4; (with_reducible refine (alive31_any _).mono ?_); rintro e v5 ⟨rfl, h5⟩))
      go_ret
      exact ⟨rfl, below_then y1 h5⟩
  · have hN' : 80 < len1 := by omega
    go_enter Try.func3, Try.ntmps3
    go_wp2_with (go_at_call 4; (with_reducible refine (alive31_any _).mono ?_); rintro e w' ⟨rfl, hb⟩)
    go_ret
    exact ⟨rfl, below_then tA hb⟩

set_option maxRecDepth 100000 in
theorem lifted (os : Os) (started : os.Started) (H : Type) (enc : TypeId × Value → H) :
    ReturnsInHanded {} Try.checked os 3 .any (Rows.ewcutWholeSpec.pre6 enc Try.prog Try.f3 Rows.ewcutWholeRow.domain false) (Rows.ewcutWholeSpec.post enc Try.prog Try.f3 false true false false) := by
  refine returnsInHanded_of_change (C := Try.checked) own started (by kernel_rfl) Try.func3
    (ChangeSpec.witness6 (enc := enc) (C := Try.checked) false ⟨#[], #[.agg #[.int .i64 0, .int .i64 0, .int .i64 0], .slice none 0 0], []⟩ 8 (by kernel_rfl) (by kernel_rfl) (by kernel_rfl) (by kernel_rfl)) ?_
  intro W base args ds gs before hval0 hW hcnd _
  have hval : ∀ (j : Nat) t v, Try.f3.params[j]? = some t → args[j]? = some v → Value.okWide Try.prog W .any base t v := hval0
  have hW' := hW
  obtain ⟨p, q, hA0, hV, rfl, hfz, hnd⟩ := hW
  have hA : DataW.TrodAll enc Try.prog W 0 (fun _ => true) true Try.f3.params.toList args.toList ds p := hA0
  rw [Try.params3] at hA hval
  obtain ⟨v0, vs0, d0, ds0, p0, q0, hargs, rfl, rfl, h0, r_0⟩ := trodAll_cons hA
  obtain ⟨v1, vs1, d1, ds1, p1, q1, rfl, rfl, rfl, h1, r_1⟩ := trodAll_cons r_0
  obtain ⟨rfl, rfl, rfl⟩ := trodAll_nil r_1
  obtain rfl : args = #[v0, v1] := by cases args; simp_all
  obtain ⟨rfl, rfl⟩ := trodVars_none hV
  have k0 := h0
  have lt0 : ∀ x ∈ p0, x.block < W.heap.size := by obtain ⟨m, hm⟩ := k0; exact DataW.trod_lt m _ _ _ hm
  obtain ⟨a0_0, a0_1, a0_2, rfl, w0_0, w0_1, w0_2⟩ := open_arr3 Try.underlying22 Try.underlying3 (by kernel_rfl) (by kernel_rfl) (hval 0 22 v0 rfl rfl) h0
  obtain ⟨a1, len1, cap1, rfl⟩ := okWide_slice Try.underlying23 (hval 1 23 v1 rfl rfl)
  have k1 := h1
  have lt1 : ∀ x ∈ p1, x.block < W.heap.size := by obtain ⟨m, hm⟩ := k1; exact DataW.trod_lt m _ _ _ hm
  obtain ⟨xs1, r1⟩ : ∃ xs, Reads .i32 W a1 len1 cap1 xs := by
    obtain ⟨fuel, hf⟩ := h1
    rcases open_ints Try.underlying23 Try.underlying21 (by kernel_rfl) hf with ⟨hcs, _⟩ | ⟨x, l, c, zs, hcs, _, hl, hm, hz, _, hcell, hwz⟩
    · simp [Value.cells] at hcs
      obtain ⟨rfl, rfl, rfl⟩ := hcs
      exact ⟨[], Reads.nil _ _ _ _ (Nat.zero_le _)⟩
    · simp [Value.cells] at hcs
      obtain ⟨rfl, rfl, rfl⟩ := hcs
      exact ⟨_, reads_of_ints hl hm (by simpa using hz) hcell hwz⟩
  clear hA0 hval0
  refine (walk a0_0 a0_1 a0_2 a1 len1 cap1 xs1 W w0_0 w0_1 w0_2 r1).mono fun e W' ⟨he, bel⟩ => ?_
  subst he
  exact ⟨_, rfl, _, _, _, [], _, [], hW', trodAll_mk1 (shut_bool Try.underlying4 _), (trodAll_cons_mk (Below.trod laidOut (by kernel_rfl) (of_decide_eq_true (by kernel_rfl)) k0 bel lt0) (trodAll_cons_mk (Below.trod laidOut (by kernel_rfl) (of_decide_eq_true (by kernel_rfl)) k1 bel lt1) trodAll_mk0)), rfl, bel.frame _, fun h => by cases h⟩

theorem over : Rows.ewcutWholeRow.holds Try.pinned (OpenSpec.ofChange Rows.ewcutWholeSpec) :=
  OpenClaim.holds_of_wide 3 Try.f3 rfl rfl rfl rfl rfl rfl rfl ⟨rfl, rfl, rfl, rfl, rfl⟩ rfl rfl rfl rfl rfl (by kernel_rfl) Try.func3 (by kernel_rfl)
    (of_decide_eq_true (by kernel_rfl)) (by unfold Func.isWrapper; first | (rw [if_pos (by decide +kernel)]; kernel_rfl) | (rw [if_neg (by decide +kernel)]; exact ⟨rfl, rfl⟩))
    (fun os started H enc _ => lifted os started H enc)

end Go.Proofs.Ytdglnpkkfkagaaa.ewcutWhole
namespace Go.Proofs.Ytdglnpkkfkagaaa
theorem ewcutWhole_holds : Rows.EwcutWholeSaid := ewcutWhole.over
#print axioms ewcutWhole_holds
end Go.Proofs.Ytdglnpkkfkagaaa
