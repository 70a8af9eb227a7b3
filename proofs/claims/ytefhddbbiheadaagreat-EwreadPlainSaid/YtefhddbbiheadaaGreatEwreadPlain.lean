/-
  Proved: for every []byte s (nil, empty, of any length and capacity), in whatever memory and on every schedule, sheavelaw33.EwreadPlain(s) returns true, without a panic or a race, and its argument reads as before. No condition.
-/
import Derived.Test.YtefhddbbiheadaaGreatRows
import Derived.Test.YtefhddbbiheadaaGreatZ51
import Derived.WalkKit
import Derived.ProofKit
import Derived.OpenShut
import Derived.ShutString
import Derived.ChangeOld
import Derived.Below
namespace Go.Proofs.YtefhddbbiheadaaGreat.ewreadPlain
open Go.ChangeShapes Go.WideShapes Go.ChangeAt Go.RowKit
open Go.ChangeMaps (open_string shut_string)
set_option linter.unusedVariables false

theorem own : ownKnob Tryz.prog.godebug = none := by kernel_rfl
theorem laidOut : laidOutB Tryz.prog = true := by kernel_rfl
def plA (P : List Int) : Prop := (∀ y ∈ P, 32 ≤ y ∧ y ≤ 126) ∧ qOk P = true
theorem plA_push {P : List Int} {x : Int} (hP : plA P) (h1 : 32 ≤ x) (h2 : x ≤ 126) (h : ¬ (P.getLast? = some 61 ∧ x = 63)) : plA (P ++ [x]) := by
  refine ⟨fun y hy => ?_, qOk_snoc P x hP.2 h⟩
  rcases List.mem_append.1 hy with hy | hy
  · exact hP.1 y hy
  · obtain rfl := List.mem_singleton.1 hy; exact ⟨h1, h2⟩
theorem plA_last {P : List Int} {p : Nat} {y : Int} (hn : P.length = p + 1) (hg : P[p]? = some y) : P.getLast? = some y := by
  rw [List.getLast?_eq_getElem?, hn]; exact hg
set_option maxHeartbeats 4000000 in
set_option maxRecDepth 100000 in
theorem walk (a0 : Option Addr) (len0 cap0 : Nat) (xs0 : List Int) (w : World) (r0 : Reads .u8 w a0 len0 cap0 xs0) :
    Calls Tryz.prog 6 #[.slice a0 len0 cap0] w fun e w' => e = .returned (.bool true) ∧ Below w.heap.size w w' := by
  by_cases hN : len0 ≤ 500
  · have R := hid r0
    clear r0
    go_enter Tryz.func6, Tryz.ntmps6
    go_wp2_with fail
    go_loopw [3, 15] (fun v i wr => ∃ (k : Nat) (P : List Int), k ≤ len0 ∧ P.length ≤ k ∧ i = .int .i64 k ∧ Hid (plA P) ∧ Own .u8 5 w.heap.size wr v P ∧ Below w.heap.size w wr) (fun _ i _ => len0 - (intOf i).toNat)
    case atStart => exact ⟨0, [], Nat.zero_le _, Nat.le_refl _, rfl, ⟨fun _ h => absurd h (List.not_mem_nil), rfl⟩, Own.nil _ _ _ _, Below.refl _ _⟩
    case round =>
      obtain ⟨k, P, hk, hP, rfl, hA, hown, hbel⟩ := hrel
      obtain ⟨ap, kp, hv, rp⟩ := hown.reads
      obtain ⟨n, hn⟩ : ∃ n, P.length = n := ⟨_, rfl⟩
      rw [hn] at hv rp
      subst hv
      by_cases hlt : k < len0
      · obtain ⟨b, off, x, rfl, hbw, hcw, h0x, h1x, hx⟩ := R.out.get8 hlt
        have hc := (hbel.cell (p := ⟨b, off + k, none⟩) hbw).trans hcw
        have hwx := mk_u8 h0x h1x
        have HO := hid hown
        have D : (x < 32) ∨ (¬ x < 32 ∧ 126 < x) ∨ (¬ x < 32 ∧ ¬ 126 < x ∧ (x == 63) = false ∧ Hid (plA (P ++ [x]))) ∨ (x = 63 ∧ n = 0 ∧ Hid (plA (P ++ [x]))) ∨ (∃ p b2 off2 y, x = 63 ∧ n = p + 1 ∧ ap = some ⟨b2, off2, none⟩ ∧ wr.cell? ⟨b2, off2 + p, none⟩ = some (.int .u8 y) ∧ (y = 61 ∨ ((y == 61) = false ∧ Hid (plA (P ++ [x]))))) := by
          by_cases h32 : x < 32
          · exact .inl h32
          · by_cases h126 : 126 < x
            · exact .inr (.inl ⟨h32, h126⟩)
            · by_cases h63 : x = 63
              · rcases n with _ | p
                · have hnil : P = [] := List.eq_nil_of_length_eq_zero hn
                  exact .inr (.inr (.inr (.inl ⟨h63, rfl, plA_push hA.out (by omega) (by omega) (by rw [hnil]; simp)⟩)))
                · obtain ⟨b2, off2, y, rfl, _, hcy, _, _, hy⟩ := rp.get8 (i := p) (by omega)
                  refine .inr (.inr (.inr (.inr ⟨p, b2, off2, y, h63, rfl, rfl, hcy, ?_⟩)))
                  by_cases hy61 : y = 61
                  · exact .inl hy61
                  · refine .inr ⟨by simpa using hy61, plA_push hA.out (by omega) (by omega) ?_⟩
                    rw [plA_last hn hy.out.1]
                    simp [hy61]
              · exact .inr (.inr (.inl ⟨h32, h126, by simpa using h63, plA_push hA.out (by omega) (by omega) (by simp [h63])⟩))
        clear hx rp hown
        rcases D with h32 | ⟨h32, h126⟩ | ⟨h32, h126, h63, HA⟩ | ⟨rfl, rfl, HA⟩ | ⟨p, b2, off2, y, rfl, rfl, rfl, hcy, rfl | ⟨hy61, HA⟩⟩
        · go_wp2_with fail
          go_roundw
          case rel => exact ⟨k + 1, P, by omega, by omega, by go_num, hA, HO.out, hbel⟩
          case measure => simp [intOf]; omega
        · go_wp2_with fail
          go_roundw
          case rel => exact ⟨k + 1, P, by omega, by omega, by go_num, hA, HO.out, hbel⟩
          case measure => simp [intOf]; omega
        · go_wp2_with (at_builtin; go_must (refine wpList_push ST8 rfl _ _ rfl rfl ⟨_, rfl⟩ HO.out hbel (by omega) hwx ?_); intro v3 w3 ho3 hb3)
          go_roundw
          case rel => exact ⟨k + 1, P ++ [x], by omega, by simp; omega, by go_num, HA, ho3, hb3⟩
          case measure => simp [intOf]; omega
        · go_wp2_with (at_builtin; go_must (refine wpList_push ST8 rfl _ _ rfl rfl ⟨_, rfl⟩ HO.out hbel (by omega) hwx ?_); intro v3 w3 ho3 hb3)
          go_roundw
          case rel => exact ⟨k + 1, P ++ [63], by omega, by simp; omega, by go_num, HA, ho3, hb3⟩
          case measure => simp [intOf]; omega
        · go_wp2_with fail
          go_roundw
          case rel => exact ⟨k + 1, P, by omega, by omega, by go_num, hA, HO.out, hbel⟩
          case measure => simp [intOf]; omega
        · go_wp2_with (at_builtin; go_must (refine wpList_push ST8 rfl _ _ rfl rfl ⟨_, rfl⟩ HO.out hbel (by omega) hwx ?_); intro v3 w3 ho3 hb3)
          go_roundw
          case rel => exact ⟨k + 1, P ++ [63], by omega, by simp; omega, by go_num, HA, ho3, hb3⟩
          case measure => simp [intOf]; omega
      · have e := rd_plain hA.out.1 hA.out.2
        have F1 := ewread_Read ap n kp P wr rp (by omega)
        rw [e.1] at F1
        have F2 := fun W (hb : Below wr.heap.size wr W) => ewread_Charsets ap n kp P W (rp.below hb) (by omega)
        rw [e.2] at F2
        have HF1 := hid F1
        have HF2 := hid F2
        have RP := hid rp
        clear hown e F1 F2 rp
        go_wp2_with (go_at_call 9; (with_reducible refine HF1.out.mono ?_); rintro e v1 ⟨a1, l1, c1, rfl, q1, h1⟩; obtain rfl : n = l1 := hn.symm.trans q1.size)
        have r57 := hid (RP.out.below h1)
        have q57 := hid q1
        clear q1
        go_loop [57] (fun i => ∃ j : Nat, j ≤ n ∧ i = .int .i64 j) (fun i => n - (intOf i).toNat)
        case atStart => exact ⟨0, Nat.zero_le _, rfl⟩
        case round =>
          obtain ⟨j, hj, rfl⟩ := hrel
          by_cases hlt2 : j < n
          · obtain ⟨b5, off5, x, rfl, _, hc5, g0, g1, hx5⟩ := q57.out.getR hlt2
            obtain ⟨b6, off6, y, rfl, _, hc6, y0, y1, hx6⟩ := r57.out.get8 hlt2
            obtain rfl : x = y := Option.some.inj (hx5.out.1.symm.trans hx6.out.1)
            go_wp2_with fail
            go_round
            case rel => exact ⟨j + 1, by omega, by go_num⟩
            case measure => simp [intOf]; omega
          · go_wp2_with (first
              | (go_at_call 16; (with_reducible refine (HF2.out _ h1).mono ?_); rintro e v2 ⟨a2, l2, c2, rfl, q2, h2⟩; obtain rfl : 0 = l2 := q2.size)
              | (go_at_call 7; (with_reducible refine (alive33_any _).mono ?_); rintro e v3 ⟨rfl, h3⟩))
            go_ret
            exact ⟨rfl, below_then (below_then (below_then hbel h1) h2) h3⟩
  · have hN' : 500 < len0 := by omega
    go_enter Tryz.func6, Tryz.ntmps6
    go_wp2_with (go_at_call 7; (with_reducible refine (alive33_any _).mono ?_); rintro e w' ⟨rfl, hb⟩)
    go_ret
    exact ⟨rfl, hb⟩

set_option maxRecDepth 100000 in
theorem lifted (os : Os) (started : os.Started) (H : Type) (enc : TypeId × Value → H) :
    ReturnsInHanded {} Tryz.checked os 6 .any (Rows.ewreadPlainSpec.pre6 enc Tryz.prog Tryz.f6 Rows.ewreadPlainRow.domain false) (Rows.ewreadPlainSpec.post enc Tryz.prog Tryz.f6 false true false false) := by
  refine returnsInHanded_of_change (C := Tryz.checked) own started (by kernel_rfl) Tryz.func6
    (ChangeSpec.witness6 (enc := enc) (C := Tryz.checked) false ⟨#[], #[.slice none 0 0], []⟩ 8 (by kernel_rfl) (by kernel_rfl) (by kernel_rfl) (by kernel_rfl)) ?_
  intro W base args ds gs before hval0 hW hcnd _
  have hval : ∀ (j : Nat) t v, Tryz.f6.params[j]? = some t → args[j]? = some v → Value.okWide Tryz.prog W .any base t v := hval0
  have hW' := hW
  obtain ⟨p, q, hA0, hV, rfl, hfz, hnd⟩ := hW
  have hA : DataW.TrodAll enc Tryz.prog W 0 (fun _ => true) true Tryz.f6.params.toList args.toList ds p := hA0
  rw [Tryz.params6] at hA hval
  obtain ⟨v0, vs0, d0, ds0, p0, q0, hargs, rfl, rfl, h0, r_0⟩ := trodAll_cons hA
  obtain ⟨rfl, rfl, rfl⟩ := trodAll_nil r_0
  obtain rfl : args = #[v0] := by cases args; simp_all
  obtain ⟨rfl, rfl⟩ := trodVars_none hV
  obtain ⟨a0, len0, cap0, rfl⟩ := okWide_slice Tryz.underlying22 (hval 0 22 v0 rfl rfl)
  have k0 := h0
  have lt0 : ∀ x ∈ p0, x.block < W.heap.size := by obtain ⟨m, hm⟩ := k0; exact DataW.trod_lt m _ _ _ hm
  obtain ⟨xs0, r0⟩ : ∃ xs, Reads .u8 W a0 len0 cap0 xs := by
    obtain ⟨fuel, hf⟩ := h0
    rcases open_ints Tryz.underlying22 Tryz.underlying5 (by kernel_rfl) hf with ⟨hcs, _⟩ | ⟨x, l, c, zs, hcs, _, hl, hm, hz, _, hcell, hwz⟩
    · simp [Value.cells] at hcs
      obtain ⟨rfl, rfl, rfl⟩ := hcs
      exact ⟨[], Reads.nil _ _ _ _ (Nat.zero_le _)⟩
    · simp [Value.cells] at hcs
      obtain ⟨rfl, rfl, rfl⟩ := hcs
      exact ⟨_, reads_of_ints hl hm (by simpa using hz) hcell hwz⟩
  clear hA0 hval0
  refine (walk a0 len0 cap0 xs0 W r0).mono fun e W' ⟨he, bel⟩ => ?_
  subst he
  exact ⟨_, rfl, _, _, _, [], _, [], hW', trodAll_mk1 (shut_bool Tryz.underlying4 _), (trodAll_cons_mk (Below.trod laidOut (by kernel_rfl) (of_decide_eq_true (by kernel_rfl)) k0 bel lt0) trodAll_mk0), rfl, bel.frame _, fun h => by cases h⟩

theorem over : Rows.ewreadPlainRow.holds Tryz.pinned (OpenSpec.ofChange Rows.ewreadPlainSpec) :=
  OpenClaim.holds_of_wide 6 Tryz.f6 rfl rfl rfl rfl rfl rfl rfl ⟨rfl, rfl, rfl, rfl, rfl⟩ rfl rfl rfl rfl rfl (by kernel_rfl) Tryz.func6 (by kernel_rfl)
    (of_decide_eq_true (by kernel_rfl)) (by unfold Func.isWrapper; first | (rw [if_pos (by decide +kernel)]; kernel_rfl) | (rw [if_neg (by decide +kernel)]; exact ⟨rfl, rfl⟩))
    (fun os started H enc _ => lifted os started H enc)

end Go.Proofs.YtefhddbbiheadaaGreat.ewreadPlain
namespace Go.Proofs.YtefhddbbiheadaaGreat
theorem ewreadPlain_holds : Rows.EwreadPlainSaid := ewreadPlain.over
#print axioms ewreadPlain_holds
end Go.Proofs.YtefhddbbiheadaaGreat
