/-
  Proved: for every []byte s (nil, empty, of any length and capacity) and all ints first and most, in whatever memory and on every schedule, sheavelaw27.FoldBack(s, first, most) returns true, without a panic or a race, and its arguments read as before. No condition.
-/
import Derived.Test.YtldmoopdffenfaaDoorRows
import Derived.Test.YtldmoopdffenfaaDoorAlive27
import Derived.Test.YtldmoopdffenfaaDoorR27
import Derived.Test.YtldmoopdffenfaaDoorTab
import Derived.Test.YtldmoopdffenfaaDoorCards
import Derived.Test.YtldmoopdffenfaaDoorTie
import Derived.WalkKit
import Derived.LaidMore
import Derived.Lay
import Derived.SevenTiedAt
import Derived.Stop.Joined
import Derived.ProofKit
import Derived.OpenShut
import Derived.ShutString
import Derived.ChangeOld
import Derived.Below
import Derived.HandedShaped
namespace Go.Proofs.YtldmoopdffenfaaDoor.foldBack
open Go.ChangeShapes Go.WideShapes Go.ChangeAt Go.RowKit
open Go.ChangeMaps (open_string shut_string)
set_option linter.unusedVariables false

theorem own : ownKnob Tryd.prog.godebug = none := by kernel_rfl
theorem laidOut : laidOutB Tryd.prog = true := by kernel_rfl
theorem rgt_of {L xs : List Int} (hu : unfL L = xs) (hok : xs.all okF = true) : rgtF L = true := by
  unfold rgtF
  rw [hu]
  have : xs.any isEnd = false := by
    rw [List.any_eq_false]
    intro x hx
    have := okF_13 hok x hx
    unfold isEnd
    rw [decide_eq_false this.1, decide_eq_false this.2]; decide
  rw [this]; rfl
set_option maxHeartbeats 4000000 in
set_option maxRecDepth 100000 in
theorem walk (a0 : Option Addr) (len0 cap0 : Nat) (xs0 : List Int) (a1 : Int) (a2 : Int) (w : World) (r0 : Reads .u8 w a0 len0 cap0 xs0) (w1 : (Lit.int .i64 a1).wf = true) (w2 : (Lit.int .i64 a2).wf = true) (hm : Mx w) (hT : Tabs w) :
    Calls Tryd.prog 5 #[.slice a0 len0 cap0, .int .i64 a1, .int .i64 a2] w fun e w' => e = .returned (.bool true) ∧ Below w.heap.size w w' := by
  have HA := hid (fun W (hb : Below w.heap.size w W) => alive27_any W (hT.below hb) (hm.below hb))
  by_cases hN : len0 ≤ 600
  · have R := hid r0
    have hsz := r0.size
    have F1 := fold_Fold a0 len0 cap0 xs0 a1 a2 w r0 (by omega) w1 w2
    rcases fold_of xs0 a1 a2 with ⟨hE, hL⟩ | ⟨hE, hok, m1, m2, f1, f2, hF⟩
    · rw [hL] at F1
      generalize foldE xs0 a1 a2 = E at *
      have hEn : (E != 0) = true := by simpa using hE
      have HF1 := hid F1
      clear r0 F1 hE hL hsz hT hm
      go_enter Tryd.func5, Tryd.ntmps5
      go_wp2_with (first
        | (go_at_call 13; (with_reducible refine HF1.out.mono ?_); rintro e w3 ⟨b1, l1, c1, rfl, r1, h1⟩; obtain rfl : 0 = l1 := r1.size)
        | (go_at_call 6; (with_reducible refine (HA.out _ h1).mono ?_); rintro e wa ⟨rfl, ha⟩))
      go_ret
      exact ⟨rfl, below_then h1 ha⟩
    · obtain ⟨M, rfl⟩ := Int.eq_ofNat_of_zero_le (show 0 ≤ a2 by omega)
      obtain ⟨F, rfl⟩ := Int.eq_ofNat_of_zero_le f1
      rw [Int.toNat_natCast, Int.toNat_natCast] at hF
      have hu := foldF_back xs0 F _ hok hF
      have hr := rgt_of hu hok
      have hc := foldF_fits xs0 F _ hok hF
      have hl := foldF_len xs0 F _ hF
      have hfit : xs0.length ≤ F → foldL xs0 (F : Int) (M : Int) = xs0 := fun h => by
        rw [foldF_fit h] at hF
        exact (Option.some.inj hF).symm
      rw [hE] at F1
      generalize foldL xs0 (F : Int) (M : Int) = L at *
      have HF1 := hid F1
      have F2 := hid (fun W b1 c1 (h : Reads .u8 W b1 L.length c1 L) => by
        have := fold_Unfold b1 L.length c1 L W h (by omega)
        rw [hu] at this
        exact this)
      have F3 := hid (fun W b1 c1 (h : Reads .u8 W b1 L.length c1 L) (hb : Below w.heap.size w W) => by
        have := fold_Right b1 L.length c1 L W h (by omega) (hT.below hb) (hm.below hb)
        rw [hr] at this
        exact this)
      have HC := hid hc
      have hLM : Hid (L.length ≤ 1800) := by unfold Hid; omega
      obtain ⟨n, hn⟩ : ∃ n, n = L.length := ⟨_, rfl⟩
      rw [← hn] at F2 F3
      have HN := hid hn
      have hFM : F ≤ 1000 := by omega
      rw [hsz] at hfit
      clear r0 F1 hE hF hu hr hc hl hok hsz hn hT hm
      go_enter Tryd.func5, Tryd.ntmps5
      by_cases hle : len0 ≤ F
      case' pos =>
        have hLx := hfit hle
        have HLX := hid hLx
        clear hfit hLx
        have q0 : (len0 : Int) ≤ (F : Int) := by omega
        go_wp2_with (first
          | (go_at_call 13; (with_reducible refine HF1.out.mono ?_); rintro e w3 ⟨b1, l1, c1, rfl, r1, h1⟩; obtain rfl : n = l1 := HN.out.trans r1.size)
          | (go_at_call 9; (with_reducible refine (F2.out _ _ _ r1).mono ?_); rintro e w4 ⟨b2, l2, c2, rfl, r2, h2⟩; have t2 := below_then h1 h2; have r12 := r1.below h2; have r02 := R.out.below t2)
          | (go_at_call 8; (with_reducible refine (like27 _ _ _ _ _ _ _ _ r2 r02).mono ?_); rintro e w5 ⟨rfl, h3⟩; have t3 := below_then t2 h3; have r13 := r12.below h3)
          | (go_at_call 11; (with_reducible refine (F3.out _ _ _ r13 t3).mono ?_); rintro e w6 ⟨rfl, h4⟩; have t4 := below_then t3 h4; have r14 := r13.below h4; have r14' := r14; rw [HLX.out] at r14'; have r04 := R.out.below t4)
          | (go_at_call 8; (with_reducible refine (like27 _ _ _ _ _ _ _ _ r14' r04).mono ?_); rintro e wz ⟨rfl, h5⟩; have tz := below_then t4 h5; have rz := r14.below h5))
      case' neg =>
        have q0 : ¬ (len0 : Int) ≤ (F : Int) := by omega
        clear hfit
        go_wp2_with (first
          | (go_at_call 13; (with_reducible refine HF1.out.mono ?_); rintro e w3 ⟨b1, l1, c1, rfl, r1, h1⟩; obtain rfl : n = l1 := HN.out.trans r1.size)
          | (go_at_call 9; (with_reducible refine (F2.out _ _ _ r1).mono ?_); rintro e w4 ⟨b2, l2, c2, rfl, r2, h2⟩; have t2 := below_then h1 h2; have r12 := r1.below h2; have r02 := R.out.below t2)
          | (go_at_call 8; (with_reducible refine (like27 _ _ _ _ _ _ _ _ r2 r02).mono ?_); rintro e w5 ⟨rfl, h3⟩; have t3 := below_then t2 h3; have r13 := r12.below h3)
          | (go_at_call 11; (with_reducible refine (F3.out _ _ _ r13 t3).mono ?_); rintro e wz ⟨rfl, h4⟩; have tz := below_then t3 h4; have rz := r13.below h4))
      all_goals
        have HZ := hid rz
        have hn1 : n ≤ 1800 := by have := HN.out; have := hLM.out; omega
        clear rz
        go_loop [9, 10, 11] (fun lo ro i => ∃ k l r : Nat, k ≤ n ∧ i = .int .i64 k ∧ lo = .int .i64 l ∧ ro = .int .i64 r ∧ l ≤ k ∧ r ≤ 1000 ∧ Hid (chkF M (L.drop k) l r false = true)) (fun _ _ i => n - (intOf i).toNat)
        case atStart => exact ⟨0, 0, F, Nat.zero_le _, rfl, rfl, rfl, Nat.le_refl _, hFM, HC.out⟩
        case round =>
          obtain ⟨k, l, r, hk, rfl, rfl, rfl, hlk, hr, hi⟩ := hrel
          have hi' := hi.out
          by_cases hlt : k < n
          · obtain ⟨b, off, x, rfl, _, hc, _, _, hx⟩ := HZ.out.get8 hlt
            rw [drop_at27 hx.out.1, chkF] at hi'
            by_cases h13 : x = 13
            · subst h13
              rw [if_neg (by decide)] at hi'
              split at hi'
              · rename_i hcond
                obtain ⟨c1', c2', c3', c4'⟩ := hcond
                have hk1 : k + 1 < n := by
                  by_cases h : k + 1 < n
                  · exact h
                  · rw [List.drop_of_length_le (by have := HN.out; omega)] at c3'; cases c3'
                have hk2 : k + 2 < n := by
                  by_cases h : k + 2 < n
                  · exact h
                  · rw [List.drop_drop, List.drop_of_length_le (by have := HN.out; omega)] at c4'; cases c4'
                obtain ⟨b', off', y, hA, _, hcy, _, _, hy⟩ := HZ.out.get8 hk1
                cases hA
                obtain ⟨b', off', z, hA, _, hcz, _, _, hz⟩ := HZ.out.get8 hk2
                cases hA
                rw [List.head?_drop, hy.out.1] at c3'
                rw [List.drop_drop, List.head?_drop, hz.out.1] at c4'
                obtain rfl : y = 10 := by simpa using c3'
                obtain rfl : z = 32 := by simpa using c4'
                rw [drop_at27 hy.out.1, chkF] at hi'
                have HI := hid hi'
                have q1 : ¬ (r : Int) < (l : Int) := by omega
                have q2 : ((l : Int) == 0) = false := by simp; omega
                have q3 : ¬ (n : Int) ≤ (k : Int) + 2 := by omega
                have q4 : ((k : Int) + 1).toNat = k + 1 := by omega
                have q5 : ((k : Int) + 2).toNat = k + 2 := by omega
                have q6 : (0 : Int) ≤ (k : Int) + 1 := by omega
                have q7 : (0 : Int) ≤ (k : Int) + 2 := by omega
                have q8 : (k : Int) + 1 < (n : Int) := by omega
                have q9 : (k : Int) + 2 < (n : Int) := by omega
                clear hi hi' c1' c2' c3' c4' hx hy hz
                go_wp2_with fail
                go_round
                case rel => exact ⟨k + 2, 0, M, by omega, by go_num, rfl, rfl, Nat.zero_le _, by omega, HI⟩
                case measure => simp [intOf]; omega
              · cases hi'
            · rw [if_pos h13] at hi'
              have HI := hid hi'
              have e13 : (x != 13) = true := by simpa using h13
              clear hi hi' h13
              go_wp2_with fail
              go_round
              case rel => exact ⟨k + 1, l + 1, r, by omega, by go_num, by go_num, rfl, by omega, hr, HI⟩
              case measure => simp [intOf]; omega
          · rw [List.drop_of_length_le (by have := HN.out; omega), chkF] at hi'
            have hlr : l ≤ r := by simpa using hi'
            have q1 : (l : Int) ≤ (r : Int) := by omega
            clear hi hi' hlr
            go_wp2_with (go_at_call 6; (with_reducible refine (HA.out _ tz).mono ?_); rintro e wa ⟨rfl, ha⟩)
            go_ret
            exact ⟨rfl, below_then tz ha⟩
  · have hN' : 600 < len0 := by omega
    clear hT hm
    go_enter Tryd.func5, Tryd.ntmps5
    go_wp2_with (go_at_call 6; (with_reducible refine (HA.out _ (Below.refl _ _)).mono ?_); rintro e w' ⟨rfl, hb⟩)
    go_ret
    exact ⟨rfl, hb⟩

def laidL : List (String × DataW Unit) := [("unicode/utf8.acceptRanges", Rows.laid_unicode_utf8_acceptRanges), ("unicode/utf8.first", Rows.laid_unicode_utf8_first)]
set_option maxRecDepth 100000 in
theorem lifted (os : Os) (started : os.Started) (H : Type) (enc : TypeId × Value → H) :
    ReturnsInHanded {} Tryd.checked os 5 .any (fun w args => (Rows.foldBackSpec.pre enc Tryd.prog Tryd.f5 Rows.foldBackRow.domain false w args ∧ laidMetH Tryd.prog laidL w) ∧ sizedMet enc Tryd.prog Tryd.f5 (OpenSpec.ofChange Rows.foldBackSpec) false w args)
      (Rows.foldBackSpec.post enc Tryd.prog Tryd.f5 false true false false) := by
  refine returnsInHanded_both (C := Tryd.checked) (X := fun w _ => laidMetH Tryd.prog laidL w) (fun _ _ _ hh h => h.of_heap hh) own started (by kernel_rfl) Tryd.func5
    (ChangeSpec.witness_shaped (enc := enc) (C := Tryd.checked) (os := os) (X := fun w _ => laidMetH Tryd.prog laidL w) false (World.laidAll Tryd.prog os laidL) #[.slice none 0 0, .int .i64 0, .int .i64 0] 8 (World.laidAll_os _ _ _)
      (World.shaped_of_ZipB (by kernel_rfl) (by kernel_rfl)) (by kernel_rfl) (by kernel_rfl) (by kernel_rfl)
      (by rw [MakeChecks.laidMetH_plain _ _ _ (by kernel_rfl)]; exact laidMet_laidAll _ (by kernel_rfl) (by kernel_rfl))) ?_
  intro W base args ds gs before hval0 hW hcnd hsh hL
  have hval : ∀ (j : Nat) t v, Tryd.f5.params[j]? = some t → args[j]? = some v → Value.okWide Tryd.prog W .any base t v := hval0
  have hW' := hW
  obtain ⟨p, q, hA0, hV, rfl, hfz, hnd⟩ := hW
  have hA : DataW.TrodAll enc Tryd.prog W 0 (fun _ => true) true Tryd.f5.params.toList args.toList ds p := hA0
  rw [Tryd.params5] at hA hval
  obtain ⟨v0, vs0, d0, ds0, p0, q0, hargs, rfl, rfl, h0, r_0⟩ := trodAll_cons hA
  obtain ⟨v1, vs1, d1, ds1, p1, q1, rfl, rfl, rfl, h1, r_1⟩ := trodAll_cons r_0
  obtain ⟨v2, vs2, d2, ds2, p2, q2, rfl, rfl, rfl, h2, r_2⟩ := trodAll_cons r_1
  obtain ⟨rfl, rfl, rfl⟩ := trodAll_nil r_2
  obtain rfl : args = #[v0, v1, v2] := by cases args; simp_all
  obtain ⟨rfl, rfl⟩ := trodVars_none hV
  obtain ⟨a0, len0, cap0, rfl⟩ := okWide_slice Tryd.underlying22 (hval 0 22 v0 rfl rfl)
  have k0 := h0
  have lt0 : ∀ x ∈ p0, x.block < W.heap.size := by obtain ⟨m, hm⟩ := k0; exact DataW.trod_lt m _ _ _ hm
  obtain ⟨xs0, r0⟩ : ∃ xs, Reads .u8 W a0 len0 cap0 xs := by
    obtain ⟨fuel, hf⟩ := h0
    rcases open_ints Tryd.underlying22 Tryd.underlying5 (by kernel_rfl) hf with ⟨hcs, _⟩ | ⟨x, l, c, zs, hcs, _, hl, hm, hz, _, hcell, hwz⟩
    · simp [Value.cells] at hcs
      obtain ⟨rfl, rfl, rfl⟩ := hcs
      exact ⟨[], Reads.nil _ _ _ _ (Nat.zero_le _)⟩
    · simp [Value.cells] at hcs
      obtain ⟨rfl, rfl, rfl⟩ := hcs
      exact ⟨_, reads_of_ints hl hm (by simpa using hz) hcell hwz⟩
  obtain ⟨a1, rfl, rfl, rfl, w1⟩ := open_int Tryd.underlying3 (hval 1 3 v1 rfl rfl) h1
  obtain ⟨a2, rfl, rfl, rfl, w2⟩ := open_int Tryd.underlying3 (hval 2 3 v2 rfl rfl) h2
  clear hA0 hval0
  refine (walk a0 len0 cap0 xs0 a1 a2 W r0 w1 w2 (Mx.shaped hsh) (tabs_of_laid hL)).mono fun e W' ⟨he, bel⟩ => ?_
  subst he
  exact ⟨_, rfl, _, _, _, [], _, [], hW', trodAll_mk1 (shut_bool Tryd.underlying4 _), (trodAll_cons_mk (Below.trod laidOut (by kernel_rfl) (of_decide_eq_true (by kernel_rfl)) k0 bel lt0) (trodAll_cons_mk (shut_int Tryd.underlying3 w1) (trodAll_cons_mk (shut_int Tryd.underlying3 w2) trodAll_mk0))), rfl, bel.frame _, fun h => by cases h⟩

theorem over : Rows.foldBackRow.holds Tryd.pinned (OpenSpec.ofChange Rows.foldBackSpec) :=
  OpenClaim.holds_of_wide 5 Tryd.f5 rfl rfl rfl rfl rfl rfl rfl ⟨rfl, rfl, rfl, rfl, rfl⟩ rfl rfl rfl rfl rfl (by kernel_rfl) Tryd.func5 (by kernel_rfl)
    (of_decide_eq_true (by kernel_rfl)) (by unfold Func.isWrapper; first | (rw [if_pos (by decide +kernel)]; kernel_rfl) | (rw [if_neg (by decide +kernel)]; exact ⟨rfl, rfl⟩))
    (fun os started H enc _ => lifted os started H enc)

end Go.Proofs.YtldmoopdffenfaaDoor.foldBack
namespace Go.Proofs.YtldmoopdffenfaaDoor
set_option maxRecDepth 100000 in
theorem foldBack_holds : Rows.FoldBackCardSaid :=
  Claim7.holds_tied_plain_at .later [] [.data, .pinned] true (true, "5ca5cbeb13d80388a28c2a784e1ec5cf55ec56919591607f7ba5f71919d845be") false foldBack.over (fun _ h => by cases h) (by kernel_rfl) (fun _ h => by cases h) foldBack_row_tie rfl ⟨rfl, rfl⟩ (by kernel_rfl) rfl
    (fun f fn hf hfn => by
      obtain rfl : f = 5 := Option.some.inj ((show Tryd.prog.funcNamed "sheave/sheavelaw27.FoldBack" = some 5 by kernel_rfl).symm.trans hf) |>.symm
      obtain rfl : fn = Tryd.f5 := (Option.some.inj (Tryd.func5.symm.trans hfn)).symm
      exact ⟨by kernel_rfl, fun j t ht => by
        rw [Tryd.params5] at ht
        have hm : t ∈ [22, 3, 3] := by simpa using Array.mem_of_getElem? ht
        have hall : ([22, 3, 3].all fun u => !Tryd.prog.wantsStandIn u) = true := by kernel_rfl
        exact (show Tryd.prog.wantsStandIn t = false by simpa using List.all_eq_true.1 hall t hm)⟩)
    (by kernel_rfl)
#print axioms foldBack_holds
end Go.Proofs.YtldmoopdffenfaaDoor
