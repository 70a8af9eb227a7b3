/-
  Proved: for every []byte s (nil, empty, of any length and capacity), in whatever memory and on every schedule, sheavelaw19.QreadShort(s) returns true, without a panic or a race, and its argument reads as before. No condition.
-/
import Derived.Test.YtpdoehdmeojmkaaDoorRows
import Derived.Test.YtpdoehdmeojmkaaDoorAlive19
import Derived.Test.YtpdoehdmeojmkaaDoorTab
import Derived.Test.YtpdoehdmeojmkaaDoorCards
import Derived.Test.YtpdoehdmeojmkaaDoorTie
import Derived.WalkKit
import Derived.LaidMore
import Derived.Lay
import Derived.SevenTiedAt
import Derived.Stop.Joined
import Derived.ProofKit
import Derived.OpenShut
import Derived.ShutString
import Derived.ChangeOld
import Derived.Below
import Derived.HandedShaped
namespace Go.Proofs.YtpdoehdmeojmkaaDoor.qreadShort
open Go.ChangeShapes Go.WideShapes Go.ChangeAt Go.RowKit
open Go.ChangeMaps (open_string shut_string)
set_option linter.unusedVariables false

theorem own : ownKnob Tryd.prog.godebug = none := by kernel_rfl
theorem laidOut : laidOutB Tryd.prog = true := by kernel_rfl
theorem like19_same (a : Option Addr) (len cap : Nat) (a2 : Option Addr) (len2 cap2 : Nat) (xs : List Int) (w : World) (hr : Reads .u8 w a len cap xs) (hr2 : Reads .u8 w a2 len2 cap2 xs) :
    Calls Tryd.prog 11 #[.slice a len cap, .slice a2 len2 cap2] w fun e w' => e = .returned (.bool true) ∧ Below w.heap.size w w' := by
  have := like_r a len cap xs a2 len2 cap2 xs w hr hr2
  rw [decide_eq_true rfl] at this
  refine this.mono ?_
  rintro e w' ⟨rfl, n, rfl⟩
  exact ⟨rfl, Below.drewN (Below.refl _ _) n⟩
/-- No sign of an escape, and no blank. -/
def plnQ (x : Int) : Bool := decide (x ≠ 61 ∧ x ≠ 32 ∧ x ≠ 9)
theorem pln_all {xs : List Int} (hb : ∀ x ∈ xs, 0 ≤ x ∧ x ≤ 255) : (xs.filter plnQ).all plainQ = true := by
  rw [List.all_eq_true]
  intro x hx
  obtain ⟨h1, h2⟩ := List.mem_filter.1 hx
  have h3 := hb x h1
  unfold plnQ at h2
  have h4 := of_decide_eq_true h2
  unfold plainQ
  rw [isB2 h3.1 h3.2, decide_eq_true h4.1, decide_eq_false (by omega)]
  rfl
theorem pln_take {xs : List Int} {k : Nat} {x : Int} (h : xs.take (k + 1) = xs.take k ++ [x]) : (xs.take (k + 1)).filter plnQ = (xs.take k).filter plnQ ++ (if plnQ x = true then [x] else []) := by
  rw [h, List.filter_append]
  congr 1
  cases hd : plnQ x <;> simp [hd]
theorem rdq {a : Option Addr} {len cap : Nat} {xs ys : List Int} {w : World} (hr : Reads .u8 w a len cap xs) (h' : readS xs = ys) (hN : len < 1000000) (hT : Tabs w) (hm : Mx w) :
    Calls Tryd.prog 12 #[.slice a len cap] w fun e w' => ∃ a' l' c', e = .returned (.slice a' l' c') ∧ Reads .u8 w' a' l' c' ys ∧ Below w.heap.size w w' := by
  have := qread_Read a len cap xs w hr hN hT hm
  rw [h'] at this
  exact this.mono fun _ _ ⟨a', c', h1, h2, h3⟩ => ⟨a', _, c', h1, h2, h3⟩
set_option maxHeartbeats 4000000 in
set_option maxRecDepth 100000 in
theorem walk (a0 : Option Addr) (len0 cap0 : Nat) (xs0 : List Int) (w : World) (r0 : Reads .u8 w a0 len0 cap0 xs0) (hm : Mx w) (hT : Tabs w) :
    Calls Tryd.prog 6 #[.slice a0 len0 cap0] w fun e w' => e = .returned (.bool true) ∧ Below w.heap.size w w' := by
  have HM := hid hm
  have HT := hid hT
  by_cases hN : len0 ≤ 1000
  · have hb := fun x hx => wf_u8 (r0.wf x hx)
    have hsh := readS_short xs0
    have hsz := r0.size
    rw [hsz] at hsh
    have F1 := hid (qread_Read a0 len0 cap0 xs0 w r0 (by omega) hT hm)
    have hpl := hid (readS_plain (pln_all hb))
    obtain ⟨n, hn⟩ : ∃ n, n = (readS xs0).length := ⟨_, rfl⟩
    rw [← hn] at hsh F1
    have hle : decide ((n : Int) ≤ (len0 : Int)) = true := decide_eq_true (by omega)
    have hfl := (List.filter_sublist (p := plnQ) (l := xs0)).length_le
    have R := hid r0
    clear r0 hb hm hT hn
    go_enter Tryd.func6, Tryd.ntmps6
    go_wp2_with (go_at_call 12; (with_reducible refine F1.out.mono ?_); rintro e w1 ⟨a1, c1, rfl, r1, h1⟩; have R1 := hid (R.out.below h1); clear r1)
    go_loopw [4, 15] (fun v i wr => ∃ (k : Nat) (O : List Int), k ≤ len0 ∧ O.length ≤ k ∧ i = .int .i64 k ∧ Hid (O = (xs0.take k).filter plnQ) ∧ Own .u8 5 w.heap.size wr v O ∧ Below w.heap.size w wr) (fun _ i _ => len0 - (intOf i).toNat)
    case atStart => exact ⟨0, [], Nat.zero_le _, Nat.le_refl _, rfl, rfl, Own.nil _ _ _ _, h1⟩
    case round =>
      obtain ⟨k, O, hk, hO, rfl, hE, hown, hbel⟩ := hrel
      by_cases hlt : k < len0
      · obtain ⟨b, off, x, rfl, hbw, hcw, h0x, h1x, hx⟩ := R.out.get8 hlt
        have hc := (hbel.cell (p := ⟨b, off + k, none⟩) hbw).trans hcw
        have hnext := pln_take hx.out.2
        rw [← hE.out] at hnext
        have hwx := mk_u8 h0x h1x
        have hP : (plnQ x = true ∧ (x != 61) = true ∧ (x != 32) = true ∧ (x != 9) = true) ∨ (plnQ x = false ∧ ((x = 61) ∨ ((x != 61) = true ∧ x = 32) ∨ ((x != 61) = true ∧ (x != 32) = true ∧ x = 9))) := by
          by_cases h61 : x = 61
          · exact .inr ⟨by rw [h61]; rfl, .inl h61⟩
          · by_cases h32 : x = 32
            · exact .inr ⟨by rw [h32]; rfl, .inr (.inl ⟨by simpa using h61, h32⟩)⟩
            · by_cases h9 : x = 9
              · exact .inr ⟨by rw [h9]; rfl, .inr (.inr ⟨by simpa using h61, by simpa using h32, h9⟩)⟩
              · exact .inl ⟨decide_eq_true ⟨h61, h32, h9⟩, by simpa using h61, by simpa using h32, by simpa using h9⟩
        rcases hP with ⟨hp, e1, e2, e3⟩ | ⟨hp, hq⟩
        · rw [hp, if_pos rfl] at hnext
          have HN := hid hnext.symm
          clear hnext hE hp
          go_wp2_with (at_builtin; (refine wpList_push ST8 rfl _ _ rfl rfl ⟨_, rfl⟩ hown hbel (by omega) hwx ?_); intro v2 w2 ho2 hb2)
          go_roundw
          case rel => exact ⟨k + 1, _, by omega, by simp; omega, by go_num, HN, ho2, hb2⟩
          case measure => simp [intOf]; omega
        · rw [hp, if_neg (by decide), List.append_nil] at hnext
          have HN := hid hnext.symm
          clear hnext hE hp
          rcases hq with rfl | ⟨e1, rfl⟩ | ⟨e1, e2, rfl⟩
          all_goals
            go_wp2_with fail
            go_roundw
            case rel => exact ⟨k + 1, _, by omega, by omega, by go_num, HN, hown, hbel⟩
            case measure => simp [intOf]; omega
      · have hE' := hE.out
        rw [List.take_of_length_le (by omega)] at hE'
        obtain ⟨a3, c3, rfl, r3⟩ := hown.reads
        have hO2 : readS O = O := by rw [hE']; exact hpl.out
        have HO := hid hO2
        obtain ⟨m, hm⟩ : ∃ m, m = O.length := ⟨_, rfl⟩
        rw [← hm] at r3 hO
        rw [← hm]
        clear hE hE' hO2 hown hm
        go_wp2_with (first
          | (go_at_call 12; (with_reducible refine (rdq r3 HO.out (by omega) (HT.out.below hbel) (HM.out.below hbel)).mono ?_); rintro e w4 ⟨a4, l4, c4, rfl, r4, h4⟩; have t4 := below_then hbel h4; have r3' := r3.below h4)
          | (go_at_call 11; (with_reducible refine (like19_same _ _ _ _ _ _ _ _ r4 r3').mono ?_); rintro e w5 ⟨rfl, h5⟩; have t5 := below_then t4 h5)
          | (go_at_call 7; (with_reducible refine (alive19_any _ (HT.out.below t5) (HM.out.below t5)).mono ?_); rintro e w6 ⟨rfl, h6⟩))
        go_ret
        exact ⟨rfl, below_then t5 h6⟩
  · have hN' : 1000 < len0 := by omega
    clear hm hT
    go_enter Tryd.func6, Tryd.ntmps6
    go_wp2_with (go_at_call 7; (with_reducible refine (alive19_any _ HT.out HM.out).mono ?_); rintro e w' ⟨rfl, hb⟩)
    go_ret
    exact ⟨rfl, hb⟩

def laidL : List (String × DataW Unit) := [("unicode/utf8.acceptRanges", Rows.laid_unicode_utf8_acceptRanges), ("unicode/utf8.first", Rows.laid_unicode_utf8_first)]
set_option maxRecDepth 100000 in
theorem lifted (os : Os) (started : os.Started) (H : Type) (enc : TypeId × Value → H) :
    ReturnsInHanded {} Tryd.checked os 6 .any (fun w args => (Rows.qreadShortSpec.pre enc Tryd.prog Tryd.f6 Rows.qreadShortRow.domain false w args ∧ laidMetH Tryd.prog laidL w) ∧ sizedMet enc Tryd.prog Tryd.f6 (OpenSpec.ofChange Rows.qreadShortSpec) false w args)
      (Rows.qreadShortSpec.post enc Tryd.prog Tryd.f6 false true false false) := by
  refine returnsInHanded_both (C := Tryd.checked) (X := fun w _ => laidMetH Tryd.prog laidL w) (fun _ _ _ hh h => h.of_heap hh) own started (by kernel_rfl) Tryd.func6
    (ChangeSpec.witness_shaped (enc := enc) (C := Tryd.checked) (os := os) (X := fun w _ => laidMetH Tryd.prog laidL w) false (World.laidAll Tryd.prog os laidL) #[.slice none 0 0] 8 (World.laidAll_os _ _ _)
      (World.shaped_of_ZipB (by kernel_rfl) (by kernel_rfl)) (by kernel_rfl) (by kernel_rfl) (by kernel_rfl)
      (by rw [MakeChecks.laidMetH_plain _ _ _ (by kernel_rfl)]; exact laidMet_laidAll _ (by kernel_rfl) (by kernel_rfl))) ?_
  intro W base args ds gs before hval0 hW hcnd hsh hL
  have hval : ∀ (j : Nat) t v, Tryd.f6.params[j]? = some t → args[j]? = some v → Value.okWide Tryd.prog W .any base t v := hval0
  have hW' := hW
  obtain ⟨p, q, hA0, hV, rfl, hfz, hnd⟩ := hW
  have hA : DataW.TrodAll enc Tryd.prog W 0 (fun _ => true) true Tryd.f6.params.toList args.toList ds p := hA0
  rw [Tryd.params6] at hA hval
  obtain ⟨v0, vs0, d0, ds0, p0, q0, hargs, rfl, rfl, h0, r_0⟩ := trodAll_cons hA
  obtain ⟨rfl, rfl, rfl⟩ := trodAll_nil r_0
  obtain rfl : args = #[v0] := by cases args; simp_all
  obtain ⟨rfl, rfl⟩ := trodVars_none hV
  obtain ⟨a0, len0, cap0, rfl⟩ := okWide_slice Tryd.underlying22 (hval 0 22 v0 rfl rfl)
  have k0 := h0
  have lt0 : ∀ x ∈ p0, x.block < W.heap.size := by obtain ⟨m, hm⟩ := k0; exact DataW.trod_lt m _ _ _ hm
  obtain ⟨xs0, r0⟩ : ∃ xs, Reads .u8 W a0 len0 cap0 xs := by
    obtain ⟨fuel, hf⟩ := h0
    rcases open_ints Tryd.underlying22 Tryd.underlying5 (by kernel_rfl) hf with ⟨hcs, _⟩ | ⟨x, l, c, zs, hcs, _, hl, hm, hz, _, hcell, hwz⟩
    · simp [Value.cells] at hcs
      obtain ⟨rfl, rfl, rfl⟩ := hcs
      exact ⟨[], Reads.nil _ _ _ _ (Nat.zero_le _)⟩
    · simp [Value.cells] at hcs
      obtain ⟨rfl, rfl, rfl⟩ := hcs
      exact ⟨_, reads_of_ints hl hm (by simpa using hz) hcell hwz⟩
  clear hA0 hval0
  refine (walk a0 len0 cap0 xs0 W r0 (Mx.shaped hsh) (tabs_of_laid hL)).mono fun e W' ⟨he, bel⟩ => ?_
  subst he
  exact ⟨_, rfl, _, _, _, [], _, [], hW', trodAll_mk1 (shut_bool Tryd.underlying4 _), (trodAll_cons_mk (Below.trod laidOut (by kernel_rfl) (of_decide_eq_true (by kernel_rfl)) k0 bel lt0) trodAll_mk0), rfl, bel.frame _, fun h => by cases h⟩

theorem over : Rows.qreadShortRow.holds Tryd.pinned (OpenSpec.ofChange Rows.qreadShortSpec) :=
  OpenClaim.holds_of_wide 6 Tryd.f6 rfl rfl rfl rfl rfl rfl rfl ⟨rfl, rfl, rfl, rfl, rfl⟩ rfl rfl rfl rfl rfl (by kernel_rfl) Tryd.func6 (by kernel_rfl)
    (of_decide_eq_true (by kernel_rfl)) (by unfold Func.isWrapper; first | (rw [if_pos (by decide +kernel)]; kernel_rfl) | (rw [if_neg (by decide +kernel)]; exact ⟨rfl, rfl⟩))
    (fun os started H enc _ => lifted os started H enc)

end Go.Proofs.YtpdoehdmeojmkaaDoor.qreadShort
namespace Go.Proofs.YtpdoehdmeojmkaaDoor
set_option maxRecDepth 100000 in
theorem qreadShort_holds : Rows.QreadShortCardSaid :=
  Claim7.holds_tied_plain_at .later [] [.data, .pinned] true (true, "fa53e5c62354752ee9d2bc4441a3f2aef1174715aff2b417d906bb5ce815eedd") false qreadShort.over (fun _ h => by cases h) (by kernel_rfl) (fun _ h => by cases h) qreadShort_row_tie rfl ⟨rfl, rfl⟩ (by kernel_rfl) rfl
    (fun f fn hf hfn => by
      obtain rfl : f = 6 := Option.some.inj ((show Tryd.prog.funcNamed "sheave/sheavelaw19.QreadShort" = some 6 by kernel_rfl).symm.trans hf) |>.symm
      obtain rfl : fn = Tryd.f6 := (Option.some.inj (Tryd.func6.symm.trans hfn)).symm
      exact ⟨by kernel_rfl, fun j t ht => by
        rw [Tryd.params6] at ht
        have hm : t ∈ [22] := by simpa using Array.mem_of_getElem? ht
        have hall : ([22].all fun u => !Tryd.prog.wantsStandIn u) = true := by kernel_rfl
        exact (show Tryd.prog.wantsStandIn t = false by simpa using List.all_eq_true.1 hall t hm)⟩)
    (by kernel_rfl)
#print axioms qreadShort_holds
end Go.Proofs.YtpdoehdmeojmkaaDoor
