/-
  Proved: for every []rune t (nil, empty, of any length and capacity), in whatever memory and on every schedule, sheavelaw22.UsevenSeven(t) returns true, without a panic or a race, and its argument reads as before. No condition.
-/
import Derived.Test.YtiehbmfopojabaaDoorRows
import Derived.Test.YtiehbmfopojabaaDoorAlive22
import Derived.Test.YtiehbmfopojabaaDoorR22
import Derived.Test.YtiehbmfopojabaaDoorCards
import Derived.Test.YtiehbmfopojabaaDoorTie
import Derived.WalkKit
import Derived.LaidMore
import Derived.Lay
import Derived.SevenTiedAt
import Derived.Stop.Joined
import Derived.ProofKit
import Derived.OpenShut
import Derived.ShutString
import Derived.ChangeOld
import Derived.Below
namespace Go.Proofs.YtiehbmfopojabaaDoor.usevenSeven
open Go.ChangeShapes Go.WideShapes Go.ChangeAt Go.RowKit
open Go.ChangeMaps (open_string shut_string)
set_option linter.unusedVariables false

theorem own : ownKnob Tryd.prog.godebug = none := by kernel_rfl
theorem laidOut : laidOutB Tryd.prog = true := by kernel_rfl
theorem codU_sev (t : List Int) : (codU t).all sevB = true := by
  unfold codU
  split
  · exact bare_sev (v64_bd _ (fun x hx => u8_wf (ocU_wf (unL_bd t) x hx)))
  · rfl
theorem closeU_sev (t : List Int) : (closeU t).all sevB = true := by
  unfold closeU
  split
  · rfl
  · rw [List.all_cons, List.all_append, codU_sev]; rfl
theorem aloneU_sev : ∀ t : List Int, (∀ c ∈ t, begB c = false) → (aloneU t).all sevB = true
  | [], _ => rfl
  | c :: t, h => by
    rw [aloneU_cons, List.all_append, aloneU_sev t (fun x hx => h x (List.mem_cons_of_mem _ hx))]
    rcases beg_no (h c (List.mem_cons_self ..)) with hd | ⟨_, rfl⟩
    · by_cases hc : c = 43
      · rw [if_pos hc]; rfl
      · rw [if_neg hc, List.all_cons, dir_sev hd]; rfl
    · rfl
theorem layU_sev : ∀ (n : Nat) (xs : List Int), xs.length ≤ n → (layU xs []).all sevB = true
  | 0, xs, h => by
    obtain rfl : xs = [] := List.eq_nil_of_length_eq_zero (by omega)
    simp [layU, closeU]
  | n + 1, xs, h => by
    obtain ⟨M, J, _, _, _, hJ1, hp, hall, _, hlay, _⟩ := layU_next xs
    by_cases h0 : xs = []
    · subst h0; simp [layU, closeU]
    · have := hp h0
      rw [hlay, List.all_append, List.all_append, aloneU_sev _ hall, closeU_sev, layU_sev n ((xs.drop M).drop J) (by rw [List.length_drop, List.length_drop]; omega)]
      rfl
theorem lay7_sev (xs : List Int) : (lay7 xs).all sevB = true := by
  unfold lay7
  split
  · exact layU_sev _ xs (Nat.le_refl _)
  · rfl
theorem sev_le {x : Int} (h : sevB x = true) : x ≤ 126 := by
  unfold sevB at h
  simp only [Bool.and_eq_true, decide_eq_true_eq] at h
  exact h.1
theorem plain22 {P : List Int} (h : P.all dirB = true) : lay7 P = P ∧ lay7E P = 0 ∧ runN P false = 0 := by
  have hs : P.all scB = true := by
    rw [List.all_eq_true] at h ⊢
    exact fun x hx => dir_sc (h x hx)
  obtain ⟨h1, h2⟩ := layU_all h
  unfold lay7 lay7E
  rw [if_pos hs, if_pos hs]
  exact ⟨h1, rfl, h2⟩
theorem err22 (xs : List Int) : (lay7E xs = 0 ∧ idxI (fun c => !scB c) xs < 0) ∨ (lay7E xs = 7 ∧ 0 ≤ idxI (fun c => !scB c) xs) := by
  have hip := idx_pos (fun c => !scB c) xs
  have hall : xs.any (fun c => !scB c) = !xs.all scB := by simp [List.all_eq_not_any_not]
  rw [hall] at hip
  unfold lay7E
  cases hs : xs.all scB
  · rw [hs] at hip; exact .inr ⟨by simp, of_decide_eq_true hip⟩
  · rw [hs] at hip; have := of_decide_eq_false hip; exact .inl ⟨by simp, by omega⟩
set_option maxHeartbeats 4000000 in
set_option maxRecDepth 100000 in
theorem walk (a0 : Option Addr) (len0 cap0 : Nat) (xs0 : List Int) (w : World) (r0 : Reads .i32 w a0 len0 cap0 xs0) :
    Calls Tryd.prog 5 #[.slice a0 len0 cap0] w fun e w' => e = .returned (.bool true) ∧ Below w.heap.size w w' := by
  by_cases hN : len0 ≤ 200
  · have R := hid r0
    have hsz := r0.size
    have hE := hid (err22 xs0)
    have hL7 := hid (lay7_sev xs0)
    have hP0 : Hid ((xs0.filter dirB).all dirB = true) := by
      unfold Hid; rw [List.all_filter, List.all_eq_true]; intro x _; simp
    have hPl : (xs0.filter dirB).length ≤ 200 := by have := List.length_filter_le dirB xs0; omega
    have HL := hid (useven_Lay _ _ _ _ w r0 (by omega))
    have HS := hid (fun (a : Option Addr) (n c : Nat) (W : World) (hr : Reads .u8 W a n c (lay7 xs0)) => by
      have := useven_Seven a n c _ W hr
      rwa [lay7_sev] at this)
    have HF := hid (fun W (hb : Below w.heap.size w W) => ref03_First _ _ _ _ W (r0.below hb))
    generalize lay7E xs0 = E at hE HL
    generalize lay7 xs0 = L at hL7 HL HS
    generalize idxI (fun c => !scB c) xs0 = q at hE HF
    clear r0
    go_enter Tryd.func5, Tryd.ntmps5
    go_wp2_with (go_at_call 7; (with_reducible refine HL.out.mono ?_); rintro e w1 ⟨v1, rfl, o1, h1⟩; obtain ⟨a1, c1, rfl, r1⟩ := o1.reads)
    have hl1 := r1.len_le
    have HR1 := hid r1
    clear o1 r1 HL
    go_loopw [5, 25] (fun v i wr => ∃ k : Nat, k ≤ len0 ∧ i = .int .i64 k ∧ Own .i32 21 w1.heap.size wr v ((xs0.take k).filter dirB) ∧ Below w1.heap.size w1 wr) (fun _ i _ => len0 - (intOf i).toNat)
    case atStart => exact ⟨0, Nat.zero_le _, rfl, Own.nil _ _ _ _, Below.refl _ _⟩
    case round =>
      obtain ⟨k, hk, rfl, hown, hbel⟩ := hrel
      by_cases hlt : k < len0
      · obtain ⟨b, off, x, rfl, _, hc, h0, hx1, hx⟩ := ((R.out.below h1).below hbel).getR hlt
        have hfl : ((xs0.take k).filter dirB).length ≤ k := Nat.le_trans (List.length_filter_le _ _) (by rw [List.length_take]; omega)
        cases hd : dirB x
        · have e1 : Hid ((xs0.take (k + 1)).filter dirB = (xs0.take k).filter dirB) := by unfold Hid; rw [hx.out.2, List.filter_append]; simp [hd]
          go_wp2_with (go_at_call 14; (with_reducible refine (useven_Direct _ _).mono ?_); rintro e w2 ⟨rfl, rfl⟩; rw [hd])
          go_roundw
          case rel => exact ⟨k + 1, by omega, by go_num, by rw [e1.out]; exact hown, hbel⟩
          case measure => simp [intOf]; omega
        · have e1 : Hid ((xs0.take (k + 1)).filter dirB = (xs0.take k).filter dirB ++ [x]) := by unfold Hid; rw [hx.out.2, List.filter_append]; simp [hd]
          have hwx : Hid ((Lit.int .i32 x).wf = true) := R.out.wf x (List.mem_of_getElem? hx.out.1)
          go_wp2_with (first
            | (go_at_call 14; (with_reducible refine (useven_Direct _ _).mono ?_); rintro e w2 ⟨rfl, rfl⟩; rw [hd])
            | (at_builtin; go_must (refine wpList_push STR rfl _ _ rfl rfl ⟨_, rfl⟩ hown hbel (by omega) hwx.out ?_); intro v3 w3 ho3 hb3))
          go_roundw
          case rel => exact ⟨k + 1, by omega, by go_num, by rw [e1.out]; exact ho3, hb3⟩
          case measure => simp [intOf]; omega
      · rw [R.out.all (by omega)] at hown
        generalize xs0.filter dirB = P at hown hP0 hPl
        obtain ⟨a5, c5, rfl, r5⟩ := hown.reads
        have hl5 := r5.len_le
        have t5 := below_then h1 hbel
        have HP := hid (plain22 hP0.out)
        have QL := hid (useven_Lay _ _ _ _ _ r5 (by omega))
        rw [HP.out.1, HP.out.2.1] at QL
        have QR := hid (fun W (hb : Below wr.heap.size wr W) => useven_Runs _ _ _ _ W (r5.below hb) (by omega))
        rw [HP.out.2.2] at QR
        have H5 := hid r5
        clear hown HP r5
        go_wp2_with (first
          | (go_at_call 7; (with_reducible refine QL.out.mono ?_); rintro e w6 ⟨v6, rfl, o6, h6⟩; obtain ⟨a6, c6, rfl, r6⟩ := o6.reads)
          | (go_at_call 10; (with_reducible refine (QR.out _ h6).mono ?_); rintro e w7 ⟨rfl, h7⟩))
        have r57 := hid ((H5.out.below h6).below h7)
        have r67 := hid (r6.below h7)
        have r17 := hid (((HR1.out.below hbel).below h6).below h7)
        have t7 := below_then (below_then t5 h6) h7
        clear o6 r6
        go_loop [57] (fun i => ∃ k : Nat, k ≤ P.length ∧ i = .int .i64 k) (fun i => P.length - (intOf i).toNat)
        case atStart => exact ⟨0, Nat.zero_le _, rfl⟩
        case round =>
          obtain ⟨j, hj, rfl⟩ := hrel
          by_cases hlt2 : j < P.length
          · obtain ⟨b5, off5, x, rfl, _, hc5, g0, g1, hx5⟩ := r57.out.getR hlt2
            obtain ⟨b6, off6, y, rfl, _, hc6, y0, y1, hx6⟩ := r67.out.get8 hlt2
            obtain rfl : x = y := Option.some.inj (hx5.out.1.symm.trans hx6.out.1)
            go_wp2_with fail
            go_round
            case rel => exact ⟨j + 1, by omega, by go_num⟩
            case measure => simp [intOf]; omega
          · go_wp2_with fail
            go_loop [72] (fun i => ∃ k : Nat, k ≤ L.length ∧ i = .int .i64 k) (fun i => L.length - (intOf i).toNat)
            case atStart => exact ⟨0, Nat.zero_le _, rfl⟩
            case round =>
              obtain ⟨m, hm, rfl⟩ := hrel
              by_cases hlt3 : m < L.length
              · obtain ⟨b1, off1, y, rfl, _, hcy, y0, y1, hy⟩ := r17.out.get8 hlt3
                have hy126 : ¬ y > 126 := by have := sev_le (List.all_eq_true.1 hL7.out y (List.mem_of_getElem? hy.out.1)); omega
                go_wp2_with fail
                go_round
                case rel => exact ⟨m + 1, by omega, by go_num⟩
                case measure => simp [intOf]; omega
              · rcases hE.out with ⟨rfl, hq⟩ | ⟨rfl, hq⟩
                all_goals
                  go_wp2_with (first
                    | (go_at_call 18; (with_reducible refine (HF.out _ t7).mono ?_); rintro e w8 ⟨rfl, rfl⟩)
                    | (go_at_call 16; (with_reducible refine (HS.out _ _ _ _ r17.out).mono ?_); rintro e w8 ⟨rfl, rfl⟩)
                    | (go_at_call 6; (with_reducible refine (alive22_any _).mono ?_); rintro e w9 ⟨rfl, h9⟩))
                  go_ret
                  first
                    | exact ⟨rfl, below_then t7 h9⟩
                    | exact ⟨ret_bool (show (!decide (q < 0)) = true by rw [decide_eq_false (by omega)]; rfl), below_then t7 h9⟩
  · have hN' : 200 < len0 := by omega
    go_enter Tryd.func5, Tryd.ntmps5
    go_wp2_with (go_at_call 6; (with_reducible refine (alive22_any _).mono ?_); rintro e w' ⟨rfl, hb⟩)
    go_ret
    exact ⟨rfl, hb⟩

def laidL : List (String × DataW Unit) := [("unicode/utf8.acceptRanges", Rows.laid_unicode_utf8_acceptRanges), ("unicode/utf8.first", Rows.laid_unicode_utf8_first)]
set_option maxRecDepth 100000 in
theorem lifted (os : Os) (started : os.Started) (H : Type) (enc : TypeId × Value → H) :
    ReturnsInHanded {} Tryd.checked os 5 .any (fun w args => (Rows.usevenSevenSpec.pre enc Tryd.prog Tryd.f5 Rows.usevenSevenRow.domain false w args ∧ laidMetH Tryd.prog laidL w) ∧ sizedMet enc Tryd.prog Tryd.f5 (OpenSpec.ofChange Rows.usevenSevenSpec) false w args)
      (Rows.usevenSevenSpec.post enc Tryd.prog Tryd.f5 false true false false) := by
  refine returnsInHanded_of_change_and (C := Tryd.checked) (X := fun w _ => laidMetH Tryd.prog laidL w) (fun _ _ _ hh h => h.of_heap hh) own started (by kernel_rfl) Tryd.func5
    (ChangeSpec.witness_shaped (enc := enc) (C := Tryd.checked) (os := os) (X := fun w _ => laidMetH Tryd.prog laidL w) false (World.laidAll Tryd.prog os laidL) #[.slice none 0 0] 8 (World.laidAll_os _ _ _)
      (World.shaped_of_ZipB (by kernel_rfl) (by kernel_rfl)) (by kernel_rfl) (by kernel_rfl) (by kernel_rfl)
      (by rw [MakeChecks.laidMetH_plain _ _ _ (by kernel_rfl)]; exact laidMet_laidAll _ (by kernel_rfl) (by kernel_rfl))) ?_
  intro W base args ds gs before hval0 hW hcnd _ _ _
  have hval : ∀ (j : Nat) t v, Tryd.f5.params[j]? = some t → args[j]? = some v → Value.okWide Tryd.prog W .any base t v := hval0
  have hW' := hW
  obtain ⟨p, q, hA0, hV, rfl, hfz, hnd⟩ := hW
  have hA : DataW.TrodAll enc Tryd.prog W 0 (fun _ => true) true Tryd.f5.params.toList args.toList ds p := hA0
  rw [Tryd.params5] at hA hval
  obtain ⟨v0, vs0, d0, ds0, p0, q0, hargs, rfl, rfl, h0, r_0⟩ := trodAll_cons hA
  obtain ⟨rfl, rfl, rfl⟩ := trodAll_nil r_0
  obtain rfl : args = #[v0] := by cases args; simp_all
  obtain ⟨rfl, rfl⟩ := trodVars_none hV
  obtain ⟨a0, len0, cap0, rfl⟩ := okWide_slice Tryd.underlying22 (hval 0 22 v0 rfl rfl)
  have k0 := h0
  have lt0 : ∀ x ∈ p0, x.block < W.heap.size := by obtain ⟨m, hm⟩ := k0; exact DataW.trod_lt m _ _ _ hm
  obtain ⟨xs0, r0⟩ : ∃ xs, Reads .i32 W a0 len0 cap0 xs := by
    obtain ⟨fuel, hf⟩ := h0
    rcases open_ints Tryd.underlying22 Tryd.underlying21 (by kernel_rfl) hf with ⟨hcs, _⟩ | ⟨x, l, c, zs, hcs, _, hl, hm, hz, _, hcell, hwz⟩
    · simp [Value.cells] at hcs
      obtain ⟨rfl, rfl, rfl⟩ := hcs
      exact ⟨[], Reads.nil _ _ _ _ (Nat.zero_le _)⟩
    · simp [Value.cells] at hcs
      obtain ⟨rfl, rfl, rfl⟩ := hcs
      exact ⟨_, reads_of_ints hl hm (by simpa using hz) hcell hwz⟩
  clear hA0 hval0
  refine (walk a0 len0 cap0 xs0 W r0).mono fun e W' ⟨he, bel⟩ => ?_
  subst he
  exact ⟨_, rfl, _, _, _, [], _, [], hW', trodAll_mk1 (shut_bool Tryd.underlying4 _), (trodAll_cons_mk (Below.trod laidOut (by kernel_rfl) (of_decide_eq_true (by kernel_rfl)) k0 bel lt0) trodAll_mk0), rfl, bel.frame _, fun h => by cases h⟩

theorem over : Rows.usevenSevenRow.holds Tryd.pinned (OpenSpec.ofChange Rows.usevenSevenSpec) :=
  OpenClaim.holds_of_wide 5 Tryd.f5 rfl rfl rfl rfl rfl rfl rfl ⟨rfl, rfl, rfl, rfl, rfl⟩ rfl rfl rfl rfl rfl (by kernel_rfl) Tryd.func5 (by kernel_rfl)
    (of_decide_eq_true (by kernel_rfl)) (by unfold Func.isWrapper; first | (rw [if_pos (by decide +kernel)]; kernel_rfl) | (rw [if_neg (by decide +kernel)]; exact ⟨rfl, rfl⟩))
    (fun os started H enc _ => lifted os started H enc)

end Go.Proofs.YtiehbmfopojabaaDoor.usevenSeven
namespace Go.Proofs.YtiehbmfopojabaaDoor
set_option maxRecDepth 100000 in
theorem usevenSeven_holds : Rows.UsevenSevenCardSaid :=
  Claim7.holds_tied_plain_at .later [] [.data, .pinned] true (true, "ab886175a3bafb89f28444a3b9ab3e559c7a55962537967060480334f18b6c04") false usevenSeven.over (fun _ h => by cases h) (by kernel_rfl) (fun _ h => by cases h) usevenSeven_row_tie rfl ⟨rfl, rfl⟩ (by kernel_rfl) rfl
    (fun f fn hf hfn => by
      obtain rfl : f = 5 := Option.some.inj ((show Tryd.prog.funcNamed "sheave/sheavelaw22.UsevenSeven" = some 5 by kernel_rfl).symm.trans hf) |>.symm
      obtain rfl : fn = Tryd.f5 := (Option.some.inj (Tryd.func5.symm.trans hfn)).symm
      exact ⟨by kernel_rfl, fun j t ht => by
        rw [Tryd.params5] at ht
        have hm : t ∈ [22] := by simpa using Array.mem_of_getElem? ht
        have hall : ([22].all fun u => !Tryd.prog.wantsStandIn u) = true := by kernel_rfl
        exact (show Tryd.prog.wantsStandIn t = false by simpa using List.all_eq_true.1 hall t hm)⟩)
    (by kernel_rfl)
#print axioms usevenSeven_holds
end Go.Proofs.YtiehbmfopojabaaDoor
