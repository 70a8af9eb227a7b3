/-
  Proved: for every []byte s (nil, empty, of any length and capacity), in whatever memory and on every schedule, sheavelaw33.EwreadShort(s) returns true, without a panic or a race, and its argument reads as before. No condition.
-/
import Derived.Test.YtefhddbbiheadaaGreatRows
import Derived.Test.YtefhddbbiheadaaGreatZ51
import Derived.WalkKit
import Derived.ProofKit
import Derived.OpenShut
import Derived.ShutString
import Derived.ChangeOld
import Derived.Below
namespace Go.Proofs.YtefhddbbiheadaaGreat.ewreadShort
open Go.ChangeShapes Go.WideShapes Go.ChangeAt Go.RowKit
open Go.ChangeMaps (open_string shut_string)
set_option linter.unusedVariables false

theorem own : ownKnob Tryz.prog.godebug = none := by kernel_rfl
theorem laidOut : laidOutB Tryz.prog = true := by kernel_rfl
theorem raw_take3 (L : List (List Int)) (j : Nat) : (L.take j).flatten.length ≤ L.flatten.length := by
  conv => rhs; rw [← List.take_append_drop j L, List.flatten_append, List.length_append]
  omega
set_option maxHeartbeats 4000000 in
set_option maxRecDepth 100000 in
theorem walk (a0 : Option Addr) (len0 cap0 : Nat) (xs0 : List Int) (w : World) (r0 : Reads .u8 w a0 len0 cap0 xs0) :
    Calls Tryz.prog 5 #[.slice a0 len0 cap0] w fun e w' => e = .returned (.bool true) ∧ Below w.heap.size w w' := by
  by_cases hN : len0 ≤ 500
  · have R := hid r0
    have hsz := r0.size
    have hbd : ∀ x ∈ xs0, 0 ≤ x ∧ x ≤ 255 := fun x hx => wf_u8 (r0.wf x hx)
    have hsc := rdL_sc hbd
    have hle := rdL_len xs0
    rw [hsz] at hle
    have hfl : (lnsP (unfL xs0)).flatten = rdL xs0 := rfl
    have hodd := odd_le (shwP (unfL xs0))
    have F1 := hid (ewread_Read a0 len0 cap0 xs0 w r0 (by omega))
    have F2 := hid (fun W (hb : Below w.heap.size w W) => ewread_Lines a0 len0 cap0 xs0 W (R.out.below hb) (by omega))
    have F4 := hid (fun W (hb : Below w.heap.size w W) => ewread_Odd a0 len0 cap0 xs0 W (R.out.below hb) (by omega))
    have F5 := hid (fun W (hb : Below w.heap.size w W) => ewread_Charsets a0 len0 cap0 xs0 W (R.out.below hb) (by omega))
    have hneg : idxI (fun c => !scB c) (rdL xs0) < 0 := by
      have := idx_neg (fun c => !scB c) (rdL xs0)
      have h2 : (rdL xs0).all (fun c => !(fun c => !scB c) c) = true := by simpa using hsc
      rw [h2] at this
      simpa using this
    have F3 := hid (fun W a1 l1 c1 (h : Reads .i32 W a1 l1 c1 (rdL xs0)) => ref03_First a1 l1 c1 (rdL xs0) W h)
    have hod2 : oddN (unfL xs0) ≤ (setsL (unfL xs0)).length := hodd
    have hLl : (lnsP (unfL xs0)).length ≤ len0 := by
      have h1 : (shwP (unfL xs0)).length ≤ (pcsP (unfL xs0)).length := (shwP_sub _).length_le
      have h2 : (pcsP (unfL xs0)).length ≤ (unfL xs0).length := by
        unfold pcsP
        rw [List.length_map]
        exact (pcsT_whole _).2.2
      have h3 : (unfL xs0).length ≤ xs0.length := (unfS_len xs0 false).1
      unfold lnsP
      rw [List.length_map]
      omega
    clear r0 hbd hsc hodd
    generalize oddN (unfL xs0) = N at *
    generalize setsL (unfL xs0) = S at *
    generalize idxI (fun c => !scB c) (rdL xs0) = I at *
    generalize rdL xs0 = T at *
    generalize lnsP (unfL xs0) = L at *
    have HFL := hid hfl
    have HTK := hid (fun j => raw_take3 L j)
    have HSS := hid hod2
    clear hfl hod2
    go_enter Tryz.func5, Tryz.ntmps5
    go_wp2_with (first
      | (go_at_call 9; (with_reducible refine F1.out.mono ?_); rintro e v1 ⟨a1, l1, c1, rfl, q1, y1⟩; have hq1 := hid q1.size)
      | (go_at_call 15; (with_reducible refine (F2.out _ y1).mono ?_); rintro e v2 ⟨a2, n2, c2, rfl, q2, h2⟩; have y2 := below_then y1 h2; have q12 := q1.below h2; obtain rfl : L.length = n2 := q2.size))
    have hl1 : l1 ≤ len0 := by have := hq1.out; omega
    have Q2 := hid q2
    have Q1 := hid q12
    clear q1 q2 q12 h2
    go_loopw [4, 16] (fun ov iv wr => ∃ j : Nat, j ≤ L.length ∧ iv = .int .i64 j ∧ Own .i32 21 v2.heap.size wr ov (L.take j).flatten ∧ Below v2.heap.size v2 wr) (fun _ iv _ => L.length - (intOf iv).toNat)
    case atStart => exact ⟨0, Nat.zero_le _, rfl, Own.nil _ _ _ _, Below.refl _ _⟩
    case round =>
      obtain ⟨j, hj, rfl, hown, hb⟩ := hrel
      by_cases hlt : j < L.length
      · obtain ⟨b, off, x, ai, li, ci, rfl, hbw, hc, hx, hg, ht⟩ := (Q2.out.below hb).get1 hlt
        have hsn : Hid ((L.take (j + 1)).flatten = (L.take j).flatten ++ x) := by rw [Hid, ht]; simp
        have hf := HTK.out (j + 1)
        rw [hsn.out, HFL.out, List.length_append, hx.size] at hf
        have HL := hid (show (L.take j).flatten.length + li < 1000000000000 by omega)
        have HX := hid hx
        have z1 : (j : Int) < (L.length : Int) := by omega
        clear hx hg ht hf
        go_wp2_with (at_builtin; go_must (refine wpList_more STR rfl _ _ rfl rfl rfl hown hb HX.out HL.out ?_); intro v3 w3 ho3 hb3)
        rw [← hsn.out] at ho3
        go_roundw
        case rel => exact ⟨j + 1, by omega, by go_num, ho3, hb3⟩
        case measure => simp [intOf]; omega
      · obtain rfl : j = L.length := by omega
        have z1 : ¬ (L.length : Int) < (L.length : Int) := by omega
        rw [List.take_length, HFL.out] at hown
        obtain ⟨a6, k6, hv6, r6⟩ := hown.reads
        rw [hq1.out] at hv6 r6
        subst hv6
        have y3 := below_then y2 hb
        have q3 := Q1.out.below hb
        go_wp2_with (first
          | (go_at_call 18; (with_reducible refine (F3.out _ _ _ _ q3).mono ?_); rintro e v4 ⟨rfl, rfl⟩)
          | (go_at_call 8; (with_reducible refine (like33 _ _ _ _ _ _ _ _ r6 q3).mono ?_); rintro e v5 ⟨rfl, h5⟩; have y5 := below_then y3 h5)
          | (go_at_call 17; (with_reducible refine (F4.out _ y5).mono ?_); rintro e v6 ⟨rfl, h6⟩; have y6 := below_then y5 h6)
          | (go_at_call 16; (with_reducible refine (F5.out _ y6).mono ?_); rintro e v7 ⟨a7, l7, c7, rfl, q7, h7⟩; have y7 := below_then y6 h7; have hz7 : (N : Int) ≤ (l7 : Int) := (by have h1 := q7.size; have h2 := HSS.out; omega))
          | (go_at_call 7; (with_reducible refine (alive33_any _).mono ?_); rintro e v8 ⟨rfl, h8⟩))
        go_ret
        exact ⟨rfl, below_then y7 h8⟩
  · have hN' : 500 < len0 := by omega
    go_enter Tryz.func5, Tryz.ntmps5
    go_wp2_with (go_at_call 7; (with_reducible refine (alive33_any _).mono ?_); rintro e w' ⟨rfl, hb⟩)
    go_ret
    exact ⟨rfl, hb⟩

set_option maxRecDepth 100000 in
theorem lifted (os : Os) (started : os.Started) (H : Type) (enc : TypeId × Value → H) :
    ReturnsInHanded {} Tryz.checked os 5 .any (Rows.ewreadShortSpec.pre6 enc Tryz.prog Tryz.f5 Rows.ewreadShortRow.domain false) (Rows.ewreadShortSpec.post enc Tryz.prog Tryz.f5 false true false false) := by
  refine returnsInHanded_of_change (C := Tryz.checked) own started (by kernel_rfl) Tryz.func5
    (ChangeSpec.witness6 (enc := enc) (C := Tryz.checked) false ⟨#[], #[.slice none 0 0], []⟩ 8 (by kernel_rfl) (by kernel_rfl) (by kernel_rfl) (by kernel_rfl)) ?_
  intro W base args ds gs before hval0 hW hcnd _
  have hval : ∀ (j : Nat) t v, Tryz.f5.params[j]? = some t → args[j]? = some v → Value.okWide Tryz.prog W .any base t v := hval0
  have hW' := hW
  obtain ⟨p, q, hA0, hV, rfl, hfz, hnd⟩ := hW
  have hA : DataW.TrodAll enc Tryz.prog W 0 (fun _ => true) true Tryz.f5.params.toList args.toList ds p := hA0
  rw [Tryz.params5] at hA hval
  obtain ⟨v0, vs0, d0, ds0, p0, q0, hargs, rfl, rfl, h0, r_0⟩ := trodAll_cons hA
  obtain ⟨rfl, rfl, rfl⟩ := trodAll_nil r_0
  obtain rfl : args = #[v0] := by cases args; simp_all
  obtain ⟨rfl, rfl⟩ := trodVars_none hV
  obtain ⟨a0, len0, cap0, rfl⟩ := okWide_slice Tryz.underlying22 (hval 0 22 v0 rfl rfl)
  have k0 := h0
  have lt0 : ∀ x ∈ p0, x.block < W.heap.size := by obtain ⟨m, hm⟩ := k0; exact DataW.trod_lt m _ _ _ hm
  obtain ⟨xs0, r0⟩ : ∃ xs, Reads .u8 W a0 len0 cap0 xs := by
    obtain ⟨fuel, hf⟩ := h0
    rcases open_ints Tryz.underlying22 Tryz.underlying5 (by kernel_rfl) hf with ⟨hcs, _⟩ | ⟨x, l, c, zs, hcs, _, hl, hm, hz, _, hcell, hwz⟩
    · simp [Value.cells] at hcs
      obtain ⟨rfl, rfl, rfl⟩ := hcs
      exact ⟨[], Reads.nil _ _ _ _ (Nat.zero_le _)⟩
    · simp [Value.cells] at hcs
      obtain ⟨rfl, rfl, rfl⟩ := hcs
      exact ⟨_, reads_of_ints hl hm (by simpa using hz) hcell hwz⟩
  clear hA0 hval0
  refine (walk a0 len0 cap0 xs0 W r0).mono fun e W' ⟨he, bel⟩ => ?_
  subst he
  exact ⟨_, rfl, _, _, _, [], _, [], hW', trodAll_mk1 (shut_bool Tryz.underlying4 _), (trodAll_cons_mk (Below.trod laidOut (by kernel_rfl) (of_decide_eq_true (by kernel_rfl)) k0 bel lt0) trodAll_mk0), rfl, bel.frame _, fun h => by cases h⟩

theorem over : Rows.ewreadShortRow.holds Tryz.pinned (OpenSpec.ofChange Rows.ewreadShortSpec) :=
  OpenClaim.holds_of_wide 5 Tryz.f5 rfl rfl rfl rfl rfl rfl rfl ⟨rfl, rfl, rfl, rfl, rfl⟩ rfl rfl rfl rfl rfl (by kernel_rfl) Tryz.func5 (by kernel_rfl)
    (of_decide_eq_true (by kernel_rfl)) (by unfold Func.isWrapper; first | (rw [if_pos (by decide +kernel)]; kernel_rfl) | (rw [if_neg (by decide +kernel)]; exact ⟨rfl, rfl⟩))
    (fun os started H enc _ => lifted os started H enc)

end Go.Proofs.YtefhddbbiheadaaGreat.ewreadShort
namespace Go.Proofs.YtefhddbbiheadaaGreat
theorem ewreadShort_holds : Rows.EwreadShortSaid := ewreadShort.over
#print axioms ewreadShort_holds
end Go.Proofs.YtefhddbbiheadaaGreat
