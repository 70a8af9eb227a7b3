/-
  Proved: for every int n, every uint64 up and every []byte behind (nil, empty, of any length and capacity), in whatever memory and on every schedule, sheavelaw11.LabelLeads(n, up, behind) returns true, without a panic or a race, and its argument reads as before. No condition.
-/
import Derived.Test.YtffjiidegnblbaaRows
import Derived.Test.YtffjiidegnblbaaAlive11
import Derived.Test.YtffjiidegnblbaaR11
import Derived.Test.YtffjiidegnblbaaD11b
import Derived.Test.YtffjiidegnblbaaCvt
import Derived.Test.YtffjiidegnblbaaKeep
import Derived.WalkKit
import Derived.ProofKit
import Derived.OpenShut
import Derived.ShutString
import Derived.ChangeOld
import Derived.Below
namespace Go.Proofs.Ytffjiidegnblbaa.labelLeads
open Go.ChangeShapes Go.WideShapes Go.ChangeAt Go.RowKit
open Go.ChangeMaps (open_string shut_string)
set_option linter.unusedVariables false

theorem own : ownKnob Try.prog.godebug = none := by kernel_rfl
theorem laidOut : laidOutB Try.prog = true := by kernel_rfl
theorem drop_suc {zs ys : List Int} {j : Nat} (h : zs.drop j = ys.drop j) : zs.drop (j + 1) = ys.drop (j + 1) := by
  rw [← List.drop_drop, h, List.drop_drop]
theorem drop_set {zs ys : List Int} {j : Nat} {v : Int} (h : zs.drop j = ys.drop j) : (zs.set j v).drop (j + 1) = ys.drop (j + 1) := by
  rw [List.drop_set_of_lt (by omega)]; exact drop_suc h
theorem caseL_len {ys zs : List Int} (h : CaseL ys zs) : zs.length = ys.length := h.1
theorem getD_of {xs : List Int} {k : Nat} {x : Int} (h : xs[k]? = some x) : xs.getD k 0 = x := by rw [List.getD_eq_getElem?_getD, h]; rfl
/-- A name in whichever case, with blanks, and a language: its charset. -/
theorem leads {n : Int} {s : ByteArray} (hs : s ∈ nm11 n) {zs behind : List Int} (hz : CaseL (octB s) zs) : csN (keyB ([32, 9] ++ zs ++ [32, 42] ++ behind)) = n ∧ csNE (keyB ([32, 9] ++ zs ++ [32, 42] ++ behind)) = 0 := by
  obtain ⟨h1, h2, h3, h4, _⟩ := names_low hs
  obtain ⟨e1, e2⟩ := caseL_low h1 hz
  have hne : zs ≠ [] := by
    intro h
    subst h
    exact h2 (List.length_eq_zero_iff.1 hz.1.symm)
  have e : [32, 9] ++ zs ++ [32, 42] ++ behind = 32 :: 9 :: (zs ++ 32 :: 42 :: behind) := by simp
  rw [e, key_all e2 hne, e1, octB_str]
  exact ⟨h3, h4⟩
theorem cd_key : ∀ n : Int, cdN (keyC (octB (cd11 n))) = (if 1 ≤ n ∧ n ≤ 3 then n else 0) ∧ cdNE (keyC (octB (cd11 n))) = (if 1 ≤ n ∧ n ≤ 3 then 0 else 11) := by
  intro n
  by_cases h : 1 ≤ n ∧ n ≤ 3
  · rw [if_pos h, if_pos h]
    have hq : n = 1 ∨ n = 2 ∨ n = 3 := by omega
    rcases hq with rfl | rfl | rfl
    · decide +kernel
    · decide +kernel
    · decide +kernel
  · rw [if_neg h, if_neg h]
    have e : cd11 n = ⟨#[]⟩ := by unfold cd11; rw [if_neg (by omega), if_neg (by omega), if_neg (by omega)]
    rw [e]
    decide +kernel
theorem cd_size (n : Int) : (cd11 n).size ≤ 20 := by
  unfold cd11
  (repeat' split) <;> decide
set_option maxHeartbeats 4000000 in
set_option maxRecDepth 100000 in
theorem walk (a0 : Int) (a1 : Int) (a2 : Option Addr) (len2 cap2 : Nat) (xs2 : List Int) (w : World) (w0 : (Lit.int .i64 a0).wf = true) (w1 : (Lit.int .u64 a1).wf = true) (r2 : Reads .u8 w a2 len2 cap2 xs2) :
    Calls Try.prog 4 #[.int .i64 a0, .int .u64 a1, .slice a2 len2 cap2] w fun e w' => e = .returned (.bool true) ∧ Below w.heap.size w w' := by
  by_cases hN : len2 ≤ 100
  · have R := hid r2
    clear r2
    go_enter Try.func4, Try.ntmps4
    go_wp2_with (go_at_call 13; (with_reducible refine (label_Names _ _).mono ?_); rintro e w1 ⟨a3, rfl, hT, hb1⟩; have hL := nm_len a0)
    go_loopw [24] (fun i wr => ∃ k : Nat, k ≤ (nm11 a0).length ∧ i = .int .i64 k ∧ Below w1.heap.size w1 wr) (fun i _ => (nm11 a0).length - (intOf i).toNat)
    case atStart => exact ⟨0, Nat.zero_le _, rfl, Below.refl _ _⟩
    case round =>
      obtain ⟨k, hk, rfl, hB1⟩ := hrel
      by_cases hkl : k < (nm11 a0).length
      · obtain ⟨s, hs⟩ : ∃ s, (nm11 a0)[k]? = some s := ⟨_, List.getElem?_eq_getElem hkl⟩
        have hT1 := hT.below hB1
        obtain ⟨b, off, rfl, _, hc⟩ := hT1 k s hs
        have hmem := hid (List.mem_of_getElem? hs)
        have hlow := names_low hmem.out
        have hsz : (octB s).length = s.size := by simp [octB]
        have hs20 : s.size ≤ 20 := by rw [← hsz]; exact hlow.2.2.2.2
        have hs0 : 0 < s.size := by rw [← hsz]; exact List.length_pos_iff.2 hlow.2.1
        obtain ⟨w3, C, hcv, hC, hb3, hC1, hC2⟩ := conv_str (P := Try.prog) Try.underlying9 Try.underlying22 Try.underlying5 wr s (by omega)
        have hB13 := below_then hB1 hb3
        have hgw1 : w1.heap.size ≤ wr.heap.size := hB1.size
        obtain ⟨g, hg⟩ : ∃ g, g = wr.heap.size := ⟨_, rfl⟩
        rw [← hg] at hC hcv hgw1
        have HC3 := hid hC
        clear hC hs hlow hg hb3
        go_wp2
        go_loopw [32] (fun i w4 => ∃ (j : Nat) (zs : List Int), j ≤ s.size ∧ i = .int .i64 j ∧ Hid (Cvt w4 g zs) ∧ Hid (CaseL (octB s) zs) ∧ Hid (zs.drop j = (octB s).drop j) ∧ Below w1.heap.size w1 w4) (fun i _ => s.size - (intOf i).toNat)
        case atStart => exact ⟨0, octB s, Nat.zero_le _, rfl, HC3.out, caseL_self _, rfl, hB13⟩
        case round =>
          obtain ⟨j, zs, hj, rfl, hCv, hCa, hDr, hB14⟩ := hrel
          have hzl : zs.length = s.size := by rw [hCa.out.1, hsz]
          by_cases hjl : j < s.size
          · obtain ⟨y, hy⟩ : ∃ y, zs[j]? = some y := ⟨_, List.getElem?_eq_getElem (by omega)⟩
            have hoy : (octB s)[j]? = some y := by
              have := congrArg List.head? hDr.out
              rw [List.head?_drop, List.head?_drop, hy] at this
              exact this.symm
            obtain ⟨hcell, hfz⟩ := hCv.out.at (j := j) (by omega)
            rw [getD_of hy] at hcell
            have hyb := wf_u8 (hCv.out.wf y (List.mem_of_getElem? hy))
            have HY := hid hy
            have HOY := hid hoy
            have q1 : (0 : Int) ≤ (j : Int) % 64 := by omega
            have q2 : (j : Int) % 64 < 64 := by omega
            clear hy hoy hc
            go_wp2
            all_goals
              go_roundw
              case rel =>
                first
                | exact ⟨j + 1, zs, by omega, by go_num, hCv.out, hCa.out, drop_suc hDr.out, hB14⟩
                | exact ⟨j + 1, zs.set j (y - 32), by omega, by go_num, hCv.out.store j (mk_u8 (by omega) (by omega)), caseL_set hCa.out HOY.out (by omega) (by omega), drop_set hDr.out, hB14.setCell (p := ⟨g, j, none⟩) hgw1 _⟩
              case measure => simp [intOf]; omega
          · obtain rfl : j = s.size := by omega
            have hkey := leads (behind := xs2) hmem.out hCa.out
            have hrz := hCv.out.reads (c := C) (by omega) hC2
            rw [hzl] at hrz
            have kc := convB (P := Try.prog) (t := 22) (e := 5) Try.underlying22 Try.underlying5 wr wr.heap.size rfl
            have h5 := Reads_lit .u8 5 (2, 3) wr [32, 9] (by decide) (by decide)
            have hb5 := hB14.alloc hB14.size (.cells ([32, 9].map (Value.int .u8)).toArray 5 (2, 3))
            have hrz5 := hrz.below ((Below.refl wr.heap.size wr).alloc (Nat.le_refl _) (.cells ([32, 9].map (Value.int .u8)).toArray 5 (2, 3)))
            have H5 := hid h5
            have HZ5 := hid hrz5
            have HB5 := hid hb5
            have HKey := hid hkey
            have hR2 := R.out.size
            have R2 := hid hR2
            clear hrz h5 hrz5 hb5 hkey hDr hCa hCv hc hT1 hR2 hcv HC3
            go_wp2_with (first
              | (at_builtin; (refine wpList_more ST8 rfl _ _ rfl rfl rfl ho6 hb6 (R.out.below (below_then hb1 hb6)) (by simp; omega) ?_); intro v7 w7 ho7 hb7; obtain ⟨a7, c7, hv7, hr7⟩ := ho7.reads; obtain ⟨n7, hn7⟩ : ∃ n7, n7 = ([32, 9] ++ zs ++ [32, 42] ++ xs2).length := ⟨_, rfl⟩; rw [← hn7] at hv7 hr7; subst hv7; have hn7b : n7 < 1000 := (by have := R2.out; rw [hn7]; simp; omega); clear hn7; have hcs := label_Charset a7 n7 c7 _ w7 hr7 (by omega); rw [HKey.out.1, HKey.out.2] at hcs; have HCS := hid hcs; clear hcs hr7 ho7)
              | (go_at_call 6; (with_reducible refine HCS.out.mono ?_); rintro e w8 ⟨rfl, hb8⟩; have hb8' := below_then hb7 hb8)
              | (at_builtin; (refine wpList_pushs ST8 [32, 42] rfl _ _ rfl rfl ⟨_, rfl⟩ ho5 hb5 (by simp; omega) (by decide) ?_); intro v6 w6 ho6 hb6)
              | (at_builtin; (refine wpList_grows (w0 := w1) ST8 rfl _ _ rfl rfl rfl H5.out HZ5.out HB5.out hs0 (by simp; omega) (by simp; omega) ?_); intro v5 w5 ho5 hb5))
            go_roundw
            case rel => exact ⟨k + 1, by omega, by go_num, hb8'⟩
            case measure => simp [intOf]; omega
      · have hB := below_then hb1 hB1
        have hcd := cd_key a0
        have hcs := cd_size a0
        have hsz2 : (octB' (cd11 a0)).length = (cd11 a0).size := by simp [octB']
        have HS2 := hid hsz2
        clear hsz2
        by_cases hin : 1 ≤ a0 ∧ a0 ≤ 3
        · rw [if_pos hin, if_pos hin] at hcd
          have HCD := hid hcd
          have hI := label_IsCoding a0
          rw [decide_eq_true hin] at hI
          have HI := hid hI
          clear hcd hI hin
          go_wp2_with (first
            | (go_at_call 14; (with_reducible refine (label_CodingName _ _).mono ?_); rintro e w9 ⟨rfl, hb9⟩; have hb9' := below_then hB hb9; obtain ⟨w10, C2, hcv2, hC2, hb10, hC3, hC4⟩ := conv_str (P := Try.prog) Try.underlying9 Try.underlying22 Try.underlying5 w9 (cd11 a0) (by omega); have hb10' := below_then hb9' hb10; have hr10 := hC2.reads (c := C2) (by rw [HS2.out]; exact hC3) hC4; rw [HS2.out] at hr10; have hq := label_Coding _ _ C2 _ w10 hr10 (by omega); rw [show keyC (octB' (cd11 a0)) = keyC (octB (cd11 a0)) from rfl, HCD.out.1, HCD.out.2] at hq; have HQ := hid hq; clear hq hr10 hC2)
            | (go_at_call 8; (with_reducible refine HQ.out.mono ?_); rintro e w11 ⟨rfl, hb11⟩; have hb11' := below_then hb10' hb11)
            | (go_at_call 15; (with_reducible refine (HI.out _).mono ?_); rintro e w12 ⟨rfl, hb12⟩; have hb12' := below_then hb11' hb12)
            | (go_at_call 5; (with_reducible refine (alive11_any _).mono ?_); rintro e w' ⟨rfl, hb⟩))
          go_ret
          exact ⟨rfl, below_then hb12' hb⟩
        · rw [if_neg hin, if_neg hin] at hcd
          have HCD := hid hcd
          have hI := label_IsCoding a0
          rw [decide_eq_false hin] at hI
          have HI := hid hI
          clear hcd hI hin
          go_wp2_with (first
            | (go_at_call 14; (with_reducible refine (label_CodingName _ _).mono ?_); rintro e w9 ⟨rfl, hb9⟩; have hb9' := below_then hB hb9; obtain ⟨w10, C2, hcv2, hC2, hb10, hC3, hC4⟩ := conv_str (P := Try.prog) Try.underlying9 Try.underlying22 Try.underlying5 w9 (cd11 a0) (by omega); have hb10' := below_then hb9' hb10; have hr10 := hC2.reads (c := C2) (by rw [HS2.out]; exact hC3) hC4; rw [HS2.out] at hr10; have hq := label_Coding _ _ C2 _ w10 hr10 (by omega); rw [show keyC (octB' (cd11 a0)) = keyC (octB (cd11 a0)) from rfl, HCD.out.1, HCD.out.2] at hq; have HQ := hid hq; clear hq hr10 hC2)
            | (go_at_call 8; (with_reducible refine HQ.out.mono ?_); rintro e w11 ⟨rfl, hb11⟩; have hb11' := below_then hb10' hb11)
            | (go_at_call 15; (with_reducible refine (HI.out _).mono ?_); rintro e w12 ⟨rfl, hb12⟩; have hb12' := below_then hb11' hb12)
            | (go_at_call 5; (with_reducible refine (alive11_any _).mono ?_); rintro e w' ⟨rfl, hb⟩))
          go_ret
          exact ⟨rfl, below_then hb12' hb⟩
  · have hN' : 100 < len2 := by omega
    go_enter Try.func4, Try.ntmps4
    go_wp2_with (go_at_call 5; (with_reducible refine (alive11_any _).mono ?_); rintro e w' ⟨rfl, hb⟩)
    go_ret
    exact ⟨rfl, hb⟩

set_option maxRecDepth 100000 in
theorem lifted (os : Os) (started : os.Started) (H : Type) (enc : TypeId × Value → H) :
    ReturnsInHanded {} Try.checked os 4 .any (Rows.labelLeadsSpec.pre6 enc Try.prog Try.f4 Rows.labelLeadsRow.domain false) (Rows.labelLeadsSpec.post enc Try.prog Try.f4 false true false false) := by
  refine returnsInHanded_of_change (C := Try.checked) own started (by kernel_rfl) Try.func4
    (ChangeSpec.witness6 (enc := enc) (C := Try.checked) false ⟨#[], #[.int .i64 0, .int .u64 0, .slice none 0 0], []⟩ 8 (by kernel_rfl) (by kernel_rfl) (by kernel_rfl) (by kernel_rfl)) ?_
  intro W base args ds gs before hval0 hW hcnd _
  have hval : ∀ (j : Nat) t v, Try.f4.params[j]? = some t → args[j]? = some v → Value.okWide Try.prog W .any base t v := hval0
  have hW' := hW
  obtain ⟨p, q, hA0, hV, rfl, hfz, hnd⟩ := hW
  have hA : DataW.TrodAll enc Try.prog W 0 (fun _ => true) true Try.f4.params.toList args.toList ds p := hA0
  rw [Try.params4] at hA hval
  obtain ⟨v0, vs0, d0, ds0, p0, q0, hargs, rfl, rfl, h0, r_0⟩ := trodAll_cons hA
  obtain ⟨v1, vs1, d1, ds1, p1, q1, rfl, rfl, rfl, h1, r_1⟩ := trodAll_cons r_0
  obtain ⟨v2, vs2, d2, ds2, p2, q2, rfl, rfl, rfl, h2, r_2⟩ := trodAll_cons r_1
  obtain ⟨rfl, rfl, rfl⟩ := trodAll_nil r_2
  obtain rfl : args = #[v0, v1, v2] := by cases args; simp_all
  obtain ⟨rfl, rfl⟩ := trodVars_none hV
  obtain ⟨a0, rfl, rfl, rfl, w0⟩ := open_int Try.underlying3 (hval 0 3 v0 rfl rfl) h0
  obtain ⟨a1, rfl, rfl, rfl, w1⟩ := open_int Try.underlying32 (hval 1 32 v1 rfl rfl) h1
  obtain ⟨a2, len2, cap2, rfl⟩ := okWide_slice Try.underlying22 (hval 2 22 v2 rfl rfl)
  have k2 := h2
  have lt2 : ∀ x ∈ p2, x.block < W.heap.size := by obtain ⟨m, hm⟩ := k2; exact DataW.trod_lt m _ _ _ hm
  obtain ⟨xs2, r2⟩ : ∃ xs, Reads .u8 W a2 len2 cap2 xs := by
    obtain ⟨fuel, hf⟩ := h2
    rcases open_ints Try.underlying22 Try.underlying5 (by kernel_rfl) hf with ⟨hcs, _⟩ | ⟨x, l, c, zs, hcs, _, hl, hm, hz, _, hcell, hwz⟩
    · simp [Value.cells] at hcs
      obtain ⟨rfl, rfl, rfl⟩ := hcs
      exact ⟨[], Reads.nil _ _ _ _ (Nat.zero_le _)⟩
    · simp [Value.cells] at hcs
      obtain ⟨rfl, rfl, rfl⟩ := hcs
      exact ⟨_, reads_of_ints hl hm (by simpa using hz) hcell hwz⟩
  clear hA0 hval0
  refine (walk a0 a1 a2 len2 cap2 xs2 W w0 w1 r2).mono fun e W' ⟨he, bel⟩ => ?_
  subst he
  exact ⟨_, rfl, _, _, _, [], _, [], hW', trodAll_mk1 (shut_bool Try.underlying4 _), (trodAll_cons_mk (shut_int Try.underlying3 w0) (trodAll_cons_mk (shut_int Try.underlying32 w1) (trodAll_cons_mk (Below.trod laidOut (by kernel_rfl) (of_decide_eq_true (by kernel_rfl)) k2 bel lt2) trodAll_mk0))), rfl, bel.frame _, fun h => by cases h⟩

theorem over : Rows.labelLeadsRow.holds Try.pinned (OpenSpec.ofChange Rows.labelLeadsSpec) :=
  OpenClaim.holds_of_wide 4 Try.f4 rfl rfl rfl rfl rfl rfl rfl ⟨rfl, rfl, rfl, rfl, rfl⟩ rfl rfl rfl rfl rfl (by kernel_rfl) Try.func4 (by kernel_rfl)
    (of_decide_eq_true (by kernel_rfl)) (by unfold Func.isWrapper; first | (rw [if_pos (by decide +kernel)]; kernel_rfl) | (rw [if_neg (by decide +kernel)]; exact ⟨rfl, rfl⟩))
    (fun os started H enc _ => lifted os started H enc)

end Go.Proofs.Ytffjiidegnblbaa.labelLeads
namespace Go.Proofs.Ytffjiidegnblbaa
theorem labelLeads_holds : Rows.LabelLeadsSaid := labelLeads.over
#print axioms labelLeads_holds
end Go.Proofs.Ytffjiidegnblbaa
