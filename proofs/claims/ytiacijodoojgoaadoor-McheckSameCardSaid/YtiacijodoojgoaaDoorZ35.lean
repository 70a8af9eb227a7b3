/-
  Texts of ours laid together: R24b.
-/
import Derived.Test.YtiacijodoojgoaaDoorZ34

/-! R24b -/
namespace Go.Proofs.YtiacijodoojgoaaDoor
open Go.RowKit Go.Shelf
set_option linter.unusedVariables false
attribute [local go_sem] Oper.semAt_some

theorem drop_take_cons24 {xs : List Int} {i j : Nat} {x : Int} (h : xs[i]? = some x) (hj : 0 < j) : (xs.drop i).take j = x :: (xs.drop (i + 1)).take (j - 1) := by
  have hlt := (List.getElem?_eq_some_iff.1 h).1
  have he := (List.getElem?_eq_some_iff.1 h).2
  obtain ⟨m, rfl⟩ : ∃ m, j = m + 1 := ⟨j - 1, by omega⟩
  rw [List.drop_eq_getElem_cons hlt, List.take_succ_cons, he]
  rfl
/-- What a run, closed, adds. -/
theorem mbLay_piece {xs : List Int} {i j : Nat} {x : Int} (h : xs[i]? = some x) (hj : 0 < j) (hx : mbPrt x = false) (hu : ((xs.drop i).take j).all (fun y => !mbPrt y) = true) (hs : mbStop (xs.drop (i + j))) :
    mbLay (xs.drop i) [] = 38 :: (mbCod ((xs.drop i).take j) ++ (45 :: mbLay (xs.drop (i + j)) [])) := by
  have e := drop_take_cons24 h hj
  have hd : xs.drop i = (xs.drop i).take j ++ xs.drop (i + j) := by rw [← List.drop_drop]; exact (List.take_append_drop j (xs.drop i)).symm
  rw [e] at hu ⊢
  conv => lhs; rw [hd, e]
  refine mbLay_one hx (fun y hy => ?_) hs
  have := List.all_eq_true.1 hu y (List.mem_cons_of_mem _ hy)
  simpa using this
set_option maxRecDepth 100000 in
set_option maxHeartbeats 8000000 in
theorem ref24_Lay (a : Option Addr) (len cap : Nat) (xs : List Int) (w : World) (hr : Reads .i32 w a len cap xs) (hN : len < 1000000) :
    Calls Tryd.prog 14 #[.slice a len cap] w fun e w' => ∃ v, e = .returned (.tuple #[v, .int .i64 (mbE xs)]) ∧ Own .u8 5 w.heap.size w' v (mbL xs) ∧ Below w.heap.size w w' := by
  have HR := hid hr
  have hl := hr.len_le
  have hrm := hr.room
  have hsz := hr.size
  have HFI := hid (fun W (hb : Below w.heap.size w W) => ref03_First a len cap xs W (hr.below hb))
  have hip := idx_pos (fun c => !scB c) xs
  have hall : xs.any (fun c => !scB c) = !xs.all scB := by simp [List.all_eq_not_any_not]
  rw [hall] at hip
  generalize idxI (fun c => !scB c) xs = q at HFI hip
  clear hr hall
  refine (callsIn_wide (n := 4)).1 ?_
  refine callsIn_of_wp Tryd.func14 rfl trivial ?_ rfl
  simp only [Tryd.ntmps14, List.size_toArray, List.length_cons, List.length_nil, Nat.reduceAdd, Nat.reduceSub, Array.replicate_succ, Array.replicate_zero, List.push_toArray, List.append_toArray, List.nil_append, List.cons_append]
  unfold mbL mbE
  cases hs : xs.all scB
  · rw [hs] at hip
    have hq : (0 : Int) ≤ q := of_decide_eq_true hip
    simp only [Bool.false_eq_true, if_false]
    gi_wp2_with (refine ⟨trivial, ?_⟩; gi_at_call 24; (with_reducible refine (callsIn_wide.2 (HFI.out w (Below.refl _ _))).mono ?_); rintro e w2 ⟨rfl, rfl⟩)
    go_ret2
    exact ⟨_, rfl, Own.nil _ _ _ _, Below.refl _ _⟩
  · rw [hs] at hip
    have hq : ¬ (0 : Int) ≤ q := of_decide_eq_false hip
    simp only [if_true]
    gi_wp2_with (refine ⟨trivial, ?_⟩; gi_at_call 24; (with_reducible refine (callsIn_wide.2 (HFI.out w (Below.refl _ _))).mono ?_); rintro e w2 ⟨rfl, rfl⟩)
    gi_loopw [4, 5] (fun v i wr => ∃ (k : Nat) (O : List Int), k ≤ len ∧ i = .int .i64 k ∧ O.length ≤ 10 * k ∧ Hid (O ++ mbLay (xs.drop k) [] = mbLay xs []) ∧ Grows .u8 5 w wr v O []) (fun _ i _ => len - (intOf i).toNat)
    case atStart => exact ⟨0, [], Nat.zero_le _, rfl, Nat.zero_le _, rfl, Grows.start (Below.refl _ _) (Own.nil _ _ _ _)⟩
    case round =>
      obtain ⟨k, O, hk, rfl, hO, hE, hG⟩ := hrel
      have HG := hid hG
      by_cases hlt : k < len
      · obtain ⟨b, off, x, rfl, hbw, hcw, hx0, hx1, hx⟩ := HR.out.getR hlt
        have hc := (hG.below.cell (p := ⟨b, off + k, none⟩) hbw).trans hcw
        have hd : xs.drop k = x :: xs.drop (k + 1) := by
          rw [List.drop_eq_getElem_cons (by omega)]
          have := hx.out.1
          rw [List.getElem?_eq_getElem (by omega)] at this
          rw [Option.some.inj this]
        have hE' := hE.out
        rw [hd] at hE'
        have HLT := hid hlt
        have HDi := hid (fun W : World => ref24_Direct x W)
        cases hpx : mbPrt x
        case true =>
          have hbd := (mbPrt_iff x).1 hpx
          by_cases h38 : x = 38
          · subst h38
            rw [mbLay_amp] at hE'
            rw [mbDir_38] at HDi
            have HE := hid (show O ++ [38, 45] ++ mbLay (xs.drop (k + 1)) [] = mbLay xs [] by rw [← hE', List.append_assoc]; rfl)
            clear hE hE' hd hG hpx hbd
            gi_wp2_with (first
              | (refine ⟨trivial, ?_⟩; gi_at_call 21; (with_reducible refine (callsIn_wide.2 (HDi.out _)).mono ?_); rintro e w3 ⟨rfl, rfl⟩)
              | (gi_at_builtin; refine wpListIn_grow ST8 rfl _ _ rfl [38, 45] (show Grows .u8 5 w (wr.alloc (.cells #[.int .u8 38, .int .u8 45] 5)) _ O _ from HG.out.lit [38, 45] (by simp [maxLen]) (by decide)) rfl rfl (by simp) (by omega) ?_; intro a4 l4 c4 w4 hG4))
            go_roundw
            case rel => exact ⟨k + 1, _, by omega, by go_num, by simp; omega, HE, Grows.start hG4.below hG4.own⟩
            case measure => simp [intOf]; omega
          · rw [mbLay_dir hpx h38] at hE'
            rw [mbDir_of hpx h38] at HDi
            have HE := hid (show O ++ [x] ++ mbLay (xs.drop (k + 1)) [] = mbLay xs [] by rw [← hE', List.append_assoc]; rfl)
            have hwx : Hid (∀ y ∈ [x], (Lit.int .u8 y).wf = true) := by intro y hy; simp at hy; subst hy; exact mk_u8 (by omega) (by omega)
            clear hE hE' hd hG hpx h38
            gi_wp2_with (first
              | (refine ⟨trivial, ?_⟩; gi_at_call 21; (with_reducible refine (callsIn_wide.2 (HDi.out _)).mono ?_); rintro e w3 ⟨rfl, rfl⟩)
              | (gi_at_builtin; refine wpListIn_grow ST8 rfl _ _ rfl [x] (show Grows .u8 5 w (wr.alloc (.cells #[.int .u8 x] 5)) _ O _ from HG.out.lit [x] (by simp [maxLen]) hwx.out) rfl rfl (by simp) (by omega) ?_; intro a4 l4 c4 w4 hG4))
            go_roundw
            case rel => exact ⟨k + 1, _, by omega, by go_num, by simp; omega, HE, Grows.start hG4.below hG4.own⟩
            case measure => simp [intOf]; omega
        case false =>
            have h38 : x ≠ 38 := by rintro rfl; cases hpx
            have hne : (x == 38) = false := by simpa using h38
            have hdx : mbDir x = false := by unfold mbDir; rw [hpx]; rfl
            rw [hdx] at HDi
            rw [← hd] at hE'
            clear hE hd hG h38 hdx
            gi_wp2_with (refine ⟨trivial, ?_⟩; gi_at_call 21; (with_reducible refine (callsIn_wide.2 (HDi.out _)).mono ?_); rintro e w3 ⟨rfl, rfl⟩)
            gi_loopw [6] (fun i wr => ∃ j : Nat, k + j ≤ len ∧ i = .int .i64 ((k + j : Nat) : Int) ∧ Hid (((xs.drop k).take j).all (fun y => !mbPrt y) = true) ∧ Grows .u8 5 w wr u4 O []) (fun i _ => len - (intOf i).toNat)
            case atStart => exact ⟨0, by omega, rfl, rfl, HG.out⟩
            case round =>
              obtain ⟨j, hkj, rfl, hal, hGj⟩ := hrel
              have HGJ := hid hGj
              clear hGj
              have D : (k + j < len ∧ ∃ y, xs[k + j]? = some y ∧ w.cell? ⟨b, off + (k + j), none⟩ = some (.int .i32 y) ∧ mbPrt y = false) ∨ (0 < j ∧ mbStop (xs.drop (k + j)) ∧ (k + j = len ∨ (k + j < len ∧ ∃ y, xs[k + j]? = some y ∧ w.cell? ⟨b, off + (k + j), none⟩ = some (.int .i32 y) ∧ mbPrt y = true))) := by
                by_cases hl2 : k + j < len
                · obtain ⟨b', off', y, hA, _, hcy, _, _, hy⟩ := HR.out.getR hl2
                  cases hA
                  cases hdy : mbPrt y
                  · exact .inl ⟨hl2, y, hy.out.1, hcy, hdy⟩
                  · refine .inr ⟨?_, ?_, .inr ⟨hl2, y, hy.out.1, hcy, hdy⟩⟩
                    · by_cases h0 : j = 0
                      · subst h0
                        have h1 := hy.out.1
                        rw [Nat.add_zero, hx.out.1] at h1
                        rw [Option.some.inj h1] at hpx
                        rw [hpx] at hdy; cases hdy
                      · omega
                    · have h1 := (List.getElem?_eq_some_iff.1 hy.out.1).1
                      have h2 := (List.getElem?_eq_some_iff.1 hy.out.1).2
                      exact .inr ⟨y, xs.drop (k + j + 1), by rw [List.drop_eq_getElem_cons h1, h2], hdy⟩
                · refine .inr ⟨by omega, .inl (List.drop_of_length_le (by omega)), .inl (by omega)⟩
              rcases D with ⟨hl2, y, hy, hcy, hdy⟩ | ⟨hj0, hst, D⟩
              · have hcy2 := (HGJ.out.below.cell (p := ⟨b, off + (k + j), none⟩) hbw).trans hcy
                have HAL : Hid (((xs.drop k).take (j + 1)).all (fun y => !mbPrt y) = true) := by
                  unfold Hid
                  have e : (xs.drop k).take (j + 1) = (xs.drop k).take j ++ [y] := by
                    rw [List.take_add_one, List.getElem?_drop, hy]; rfl
                  rw [e, List.all_append, hal.out]
                  simp [hdy]
                have r1 : ((k + j : Nat) : Int) < (len : Int) := by omega
                have r2 : (0 : Int) ≤ ((k + j : Nat) : Int) := by omega
                have r3 : ((k + j : Nat) : Int) + 1 = ((k + (j + 1) : Nat) : Int) := by omega
                have r4 : IntKind.i64.wrap (((k + j : Nat) : Int) + 1) = ((k + (j + 1) : Nat) : Int) := by rw [r3]; exact IntWalk.i64_in _ (by omega)
                have hyn : (y != 38) = true := by
                  have : y ≠ 38 := by rintro rfl; cases hdy
                  simpa using this
                have HDy := hid (fun W : World => ref24_Direct y W)
                rw [show mbDir y = false by unfold mbDir; rw [hdy]; rfl] at HDy
                generalize hm : k + j = m at *
                clear hal hy hdy
                gi_wp2_with (refine ⟨trivial, ?_⟩; gi_at_call 21; (with_reducible refine (callsIn_wide.2 (HDy.out _)).mono ?_); rintro e w4 ⟨rfl, rfl⟩)
                go_roundw
                case rel => exact ⟨j + 1, by omega, by first | go_num | simp, HAL, HGJ.out⟩
                case measure => simp [intOf]; omega
              · have hpc := mbLay_piece hx.out.1 hj0 hpx hal.out hst
                rw [hpc] at hE'
                have hcl := mbCod_le ((xs.drop k).take j)
                have hpl : ((xs.drop k).take j).length = j := by rw [List.length_take, List.length_drop]; omega
                rw [hpl] at hcl
                have hp := HR.out.piece (l := k) (r := k + j) (by omega) hkj
                rw [Option.map_some, Addr.add_lit, if_neg (by omega), List.drop_take, show k + j - k = j by omega] at hp
                have HC := hid (fun W (hb : Below w.heap.size w W) => ref24_Code _ _ _ _ W (hp.below hb) (by omega))
                generalize mbCod ((xs.drop k).take j) = CU at hE' hcl HC
                have HE := hid (show O ++ [38] ++ CU ++ [45] ++ mbLay (xs.drop (k + j)) [] = mbLay xs [] by rw [← hE']; simp)
                have HAL := hid hal
                have HST := hid hst
                clear hE' hpc hpl hp hal hst
                have r0 : (0 : Int) ≤ ((k + j : Nat) : Int) := by omega
                have r1 : ((k + j : Nat) : Int) ≤ (cap : Int) := by omega
                have r2 : (k : Int) ≤ ((k + j : Nat) : Int) := by omega
                have r3 : ((k + j : Nat) : Int).toNat - k = j := by omega
                have hkj' := hid hkj
                rcases D with D | ⟨hl2, y, hy, hcy, hdy⟩
                case' inl =>
                  have r4 : ¬ ((k + j : Nat) : Int) < (len : Int) := by omega
                  clear D
                  generalize hm : k + j = m at *
                  gi_wp2_with (refine ⟨trivial, ?_⟩)
                case' inr =>
                  have r4 : ((k + j : Nat) : Int) < (len : Int) := by omega
                  have hcy2 := (HGJ.out.below.cell (p := ⟨b, off + (k + j), none⟩) hbw).trans hcy
                  have HDy := hid (fun W : World => ref24_Direct y W)
                  generalize hm : k + j = m at *
                  by_cases h38y : y = 38
                  case' pos =>
                    subst h38y
                    rw [mbDir_38] at HDy
                  case' neg =>
                    rw [mbDir_of hdy h38y] at HDy
                  all_goals
                    clear hdy
                    gi_wp2_with (refine ⟨trivial, ?_⟩; gi_at_call 21; (with_reducible refine (callsIn_wide.2 (HDy.out _)).mono ?_); rintro e w4 ⟨rfl, rfl⟩)
                all_goals
                  have r5 : ¬ cap = k := by omega
                  have r6 : m - k = j := by omega
                  have HX := hid HGJ.out.drew
                  clear HGJ
                  refine wpIn_region_any (by kernel_rfl) ?_
                  change wpAnyIn _ _ _ _ _ _ 12 _ _ (World.drew _)
                  generalize World.drew _ = W0 at HX ⊢
                  refine wpAnyIn_take (i := 0) (v := u4) rfl rfl (by kernel_rfl) (by kernel_rfl) (by kernel_rfl) (fun _ _ _ h => h) ⟨Or.inl ⟨by rfl, fun w => by go_simp⟩, fun w => by simp [Oper.about]⟩ ?_
                  try simp only [Act.put, List.getElem_toArray, List.getElem_cons_zero, List.setIfInBounds_toArray, List.set_cons_zero, List.set_cons_succ]
                  refine wpAnyIn_take (i := 3) (v := .slice (some ⟨b, off, none⟩) len cap) rfl rfl (by kernel_rfl) (by kernel_rfl) (by kernel_rfl) (fun _ _ _ h => h) ⟨Or.inl ⟨by rfl, fun w => by go_simp⟩, fun w => by simp [Oper.about]⟩ ?_
                  try simp only [Act.put, List.getElem_toArray, List.getElem_cons_succ, List.getElem_cons_zero, List.setIfInBounds_toArray, List.set_cons_zero, List.set_cons_succ]
                  refine wpAnyIn_take (i := 4) (v := .int .i64 k) rfl rfl (by kernel_rfl) (by kernel_rfl) (by kernel_rfl) (fun _ _ _ h => h) ⟨Or.inl ⟨by rfl, fun w => by go_simp⟩, fun w => by simp [Oper.about]⟩ ?_
                  try simp only [Act.put, List.getElem_toArray, List.getElem_cons_succ, List.getElem_cons_zero, List.setIfInBounds_toArray, List.set_cons_zero, List.set_cons_succ]
                  refine wpAnyIn_take (i := 5) (v := .int .i64 m) rfl rfl (by kernel_rfl) (by kernel_rfl) (by kernel_rfl) (fun _ _ _ h => h) ⟨Or.inl ⟨by rfl, fun w => by go_simp⟩, fun w => by simp [Oper.about]⟩ ?_
                  try simp only [Act.put, List.getElem_toArray, List.getElem_cons_succ, List.getElem_cons_zero, List.setIfInBounds_toArray, List.set_cons_zero, List.set_cons_succ]
                  refine wpAnyIn_take (i := 6) (v := .slice (some ⟨b, off + k, none⟩) j (cap - k)) rfl rfl (by kernel_rfl) (by kernel_rfl) (by kernel_rfl) (fun _ _ _ h => h) ⟨Or.inl ⟨by rfl, fun w => by go_simp⟩, fun w => by simp [Oper.about]⟩ ?_
                  try simp only [Act.put, List.getElem_toArray, List.getElem_cons_succ, List.getElem_cons_zero, List.setIfInBounds_toArray, List.set_cons_zero, List.set_cons_succ]
                  repeat' (first
                    | exact AllReadyIn.nil
                    | with_reducible refine wpAnyIn_ready (rs := [1, 9]) (by decide +kernel) (by simp) ?_
                    | with_reducible refine wpAnyIn_ready (rs := [2, 9]) (by decide +kernel) (by simp) ?_
                    | with_reducible refine wpAnyIn_ready (rs := [7, 9]) (by decide +kernel) (by simp) ?_
                    | with_reducible refine wpAnyIn_ready (rs := [8, 9]) (by decide +kernel) (by simp) ?_
                    | with_reducible refine wpAnyIn_ready (rs := [1]) (by decide +kernel) (by simp) ?_
                    | with_reducible refine wpAnyIn_ready (rs := [2]) (by decide +kernel) (by simp) ?_
                    | with_reducible refine wpAnyIn_ready (rs := [7]) (by decide +kernel) (by simp) ?_
                    | with_reducible refine wpAnyIn_ready (rs := [8]) (by decide +kernel) (by simp) ?_
                    | with_reducible refine wpAnyIn_ready (rs := [9]) (by decide +kernel) (by simp) ?_
                    | with_reducible refine wpAnyIn_ready (rs := [10]) (by decide +kernel) (by simp) ?_
                    | with_reducible refine wpAnyIn_ready (rs := [11]) (by decide +kernel) (by simp) ?_
                    | ((with_reducible change AllReadyIn _ _ _ _ _ _ _ _ _ _ _); apply ready_cons; exact rfl; intro K hK)
                    | (refine opIn_grow ST8 rfl rfl [38] HX.out rfl rfl (by first | exact List.mem_cons_self | exact .tail _ List.mem_cons_self | exact .tail _ (.tail _ List.mem_cons_self)) (by omega) ?_; intro a4 l4 c4 W4 hX; have HX := hid hX; clear hX; refine hK _ _ ?_; clear hK K)
                    | (refine opIn_grow ST8 rfl rfl [45] HX.out rfl rfl (by first | exact List.mem_cons_self | exact .tail _ List.mem_cons_self | exact .tail _ (.tail _ List.mem_cons_self)) (by simp only [List.length_append, List.length_cons, List.length_nil]; omega) ?_; intro a6 l6 c6 W6 hX; have HX := hid hX; clear hX; refine hK _ _ ?_; clear hK K)
                    | (refine opIn_grow ST8 rfl rfl CU HX.out rfl rfl (by first | exact List.mem_cons_self | exact .tail _ List.mem_cons_self | exact .tail _ (.tail _ List.mem_cons_self)) (by simp only [List.length_append, List.length_cons, List.length_nil]; omega) ?_; intro a5 l5 c5 W5 hX; have HX := hid hX; clear hX; refine hK _ _ ?_; clear hK K)
                    | (go_simp; refine lit_go HX.out [38] (by simp [maxLen]) (by decide) ?_; intro W1 hX; have HX := hid hX; clear hX; refine hK _ _ ?_; clear hK K)
                    | (go_simp; refine lit_go HX.out [45] (by simp [maxLen]) (by decide) ?_; intro W2 hX; have HX := hid hX; clear hX; refine hK _ _ ?_; clear hK K)
                    | (go_simp; refine ⟨trivial, ?_⟩; (with_reducible refine (callsIn_wide.2 (HC.out _ HX.out.below)).mono ?_); rintro e W3 ⟨v3, rfl, o3, h3⟩; obtain ⟨a3, c3, rfl, r3'⟩ := o3.reads; have HX := hid (HX.out.row h3 r3' o3.fresh); refine hK _ _ ?_; clear hK K)
                    | (go_simp; refine hK _ _ ?_; clear hK K)
                    | with_reducible refine wpAnyIn_done (by decide +kernel) ?_ _)
                  all_goals
                    gi_wp2_with fail
                    go_roundw
                    case rel => exact ⟨m, _, by omega, by first | rfl | go_num, by simp only [List.length_append, List.length_cons, List.length_nil]; omega, HE, Grows.start HX.out.below HX.out.own⟩
                    case measure => simp [intOf]; omega
      · obtain rfl : k = len := by omega
        have hE' := hE.out
        rw [List.drop_of_length_le (by omega), mbLay, mbClose, if_pos rfl, List.append_nil] at hE'
        have HE := hid hE'
        clear hE hE' hG
        gi_wp2_with fail
        go_ret2
        exact ⟨_, rfl, by rw [← HE.out]; exact HG.out.own, HG.out.below⟩
end Go.Proofs.YtiacijodoojgoaaDoor
