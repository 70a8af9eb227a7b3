/-
  Proved: for every []sheaveref32.Piece l (nil, empty, of any length and capacity, its texts sharing memory or not), in whatever memory and on every schedule, sheavelaw32.EwtokHidden(l) returns true, without a panic or a race, and its argument reads as before. No condition.
-/
import Derived.Test.YtkaldjekjgecbaaRows
import Derived.Test.YtkaldjekjgecbaaZ27
import Derived.WalkKit
import Derived.ProofKit
import Derived.OpenShut
import Derived.ShutString
import Derived.ChangeOld
import Derived.Below
namespace Go.Proofs.Ytkaldjekjgecbaa.ewtokHidden
open Go.ChangeShapes Go.WideShapes Go.ChangeAt Go.RowKit
open Go.ChangeMaps (open_string shut_string)
set_option linter.unusedVariables false

theorem own : ownKnob Try.prog.godebug = none := by kernel_rfl
theorem laidOut : laidOutB Try.prog = true := by kernel_rfl
theorem infE32 : (Try.prog.info? 33).map (fun i => (i.zero, i.size, i.bytes)) = some (some (.agg #[.int .i64 0, .slice none 0 0]), shPc.sz, 32) := by kernel_rfl
theorem hid_at (ks : List Int) (i : Nat) (hi : i < ks.length) : (hidA ks).getD i false = hidP ks i := by
  unfold hidA
  rw [List.getD_eq_getElem?_getD, List.getElem?_map, List.getElem?_range hi]
  rfl
theorem hid_draws (a : Option Addr) (n c : Nat) (ps : List (Int × List Int)) (i : Nat) (w : World) (hr : RwsG shPc w a n c ps) (hi : i < n) (hN : n < 1000000) (g : Bool) (hg : hidP (ps.map Prod.fst) i = g) (q : Nat) :
    Calls Try.prog 16 #[.slice a n c, .int .i64 i] (w.drewN q) fun e w' => e = .returned (.bool g) ∧ ∃ m, w' = (w.drewN q).drewN m := by
  subst hg
  refine (ref32_Hidden a n c ps i (w.drewN q) (hr.below (Below.drewN (Below.refl _ _) q)) hi hN).mono ?_
  rintro e w' ⟨rfl, rfl⟩
  exact ⟨rfl, 0, rfl⟩
theorem flat_200 : ∀ L : List (Int × List Int), (∀ p ∈ L, p.2.length ≤ 200) → (L.map Prod.snd).flatten.length ≤ L.length * 200
  | [], _ => Nat.le_refl _
  | p :: L, h => by
    have h1 := h p (List.mem_cons_self ..)
    have h2 := flat_200 L (fun q hq => h q (List.mem_cons_of_mem _ hq))
    rw [List.map_cons, List.flatten_cons, List.length_append, List.length_cons, Nat.add_mul]
    omega
set_option maxHeartbeats 4000000 in
set_option maxRecDepth 100000 in
theorem walk (a0 : Option Addr) (len0 cap0 : Nat) (xs0 : List (Int × List Int)) (w : World) (r0 : RwsG shPc w a0 len0 cap0 xs0) :
    Calls Try.prog 4 #[.slice a0 len0 cap0] w fun e w' => e = .returned (.bool true) ∧ Below w.heap.size w w' := by
  by_cases hN : len0 ≤ 40
  · have R := hid r0
    have hsz := hid r0.size
    clear r0
    go_enter Try.func4, Try.ntmps4
    go_wp2_with fail
    go_loopw [3, 4, 15] (fun xv av iv wr => ∃ j : Nat, j ≤ len0 ∧ iv = .int .i64 j ∧ Hid (OwnO shPc 33 w wr xv (xs0.take j)) ∧ Hid (Own .u8 5 w.heap.size wr av ((xs0.take j).map Prod.snd).flatten) ∧ Hid (∀ p ∈ xs0.take j, p.2.length ≤ 200) ∧ Below w.heap.size w wr) (fun _ _ iv _ => len0 - (intOf iv).toNat)
    case atStart => exact ⟨0, Nat.zero_le _, rfl, OwnO.nil _ _ _ _, Own.nil _ _ _ _, fun p hp => (by cases hp), Below.refl _ _⟩
    case round =>
      obtain ⟨j, hj, rfl, hX, hA, hP, hb⟩ := hrel
      by_cases hlt : j < len0
      · obtain ⟨b, off, kx, x, ai, li, ci, rfl, hbw, hck0, hcx0, hx, hg, ht⟩ := R.out.get2 hlt
        have hck := (hb.cell (p := ⟨b, off + j * 2, none⟩) hbw).trans hck0
        have hcx := (hb.cell (p := ⟨b, off + j * 2 + 1, none⟩) hbw).trans hcx0
        have hxs := hx.size
        have HX := hid hx
        have q1 : (j : Int) < (len0 : Int) := by omega
        have BP := Blk.new wr 27 #[.int .i64 kx, .slice ai li ci]
        have d0 := BP.cell (i := 0) rfl
        have d1 := BP.cell (i := 1) rfl
        have hal := hb.alloc hb.size (.cells #[.int .i64 kx, .slice ai li ci] 27)
        by_cases h3 : (200 : Int) < (li : Int)
        · clear hg ht hx hP hX hA
          go_wp2_with (go_at_call 6; (with_reducible refine (alive32_any _).mono ?_); rintro e w' ⟨rfl, hb'⟩)
          go_ret
          exact ⟨rfl, below_then hal hb'⟩
        · have HPn : Hid (∀ p ∈ xs0.take (j + 1), p.2.length ≤ 200) := by
            intro y hy
            rw [ht] at hy
            rcases List.mem_append.1 hy with hy | hy
            · exact hP.out y hy
            · simp only [List.mem_singleton] at hy
              subst hy
              show x.length ≤ 200
              omega
          have HE1 : Hid (xs0.take (j + 1) = xs0.take j ++ [(kx, x)]) := ht
          have HE2 : Hid (((xs0.take (j + 1)).map Prod.snd).flatten = ((xs0.take j).map Prod.snd).flatten ++ x) := by rw [Hid, ht]; simp
          have hfl := flat_200 _ hP.out
          rw [List.length_take] at hfl
          have hfl2 : min j xs0.length * 200 ≤ 40 * 200 := Nat.mul_le_mul (by omega) (Nat.le_refl _)
          have hml : ((xs0.take j).map Prod.snd).flatten.length + li < 1000000000000 := by omega
          have HML := hid hml
          have hjl : (xs0.take j).length < 100000000000 := by rw [List.length_take]; omega
          have hXl := hX.out.lt
          have gal := World.grownBy_alloc wr (.cells #[.int .i64 kx, .slice ai li ci] 27)
          have X1 := hX.out.kept (gal none) (by cases hh : u3.ownBlock <;> simp)
          have A1 := hA.out.below ((Below.refl _ _).alloc (Nat.le_refl _) (.cells #[.int .i64 kx, .slice ai li ci] 27))
          clear hg ht hx hP hfl hfl2 hml
          generalize ((xs0.take j).map Prod.snd).flatten = AL at *
          generalize xs0.take j = XL at *
          generalize hW1 : wr.alloc (.cells #[.int .i64 kx, .slice ai li ci] 27) = W1 at *
          go_wp2_with (first
            | (at_builtin; have hY := X3; clear hY; go_must (refine wpList_moreO (B0 := w.heap.size) (W := w3) (v := u4) (ao := ai) (m := li) (c := ci) (ys := x) ST8 rfl _ _ rfl rfl rfl A3 hb3.size (HX.out.below hb3) HML.out ?_); intro a5 n5 c5 w5 A5 hg5 hk5)
            | (at_builtin; go_must (refine wpList_pushOld shPc (kx, x) ai li ci rfl _ _ rfl Try.underlying29 infE32 rfl (by decide) (by decide) (w0 := w) (W := W1) (v := u3) rfl X1 hal rfl HX.out (by intro c hc; simp [shPc] at hc; rcases hc with rfl | rfl <;> rfl) hjl ?_); intro a3 n3 c3 w3 X3 hb3 hg3; have A3 := (A1.below ((Below.refl _ _).alloc (Nat.le_refl _) (.cells #[.int .i64 kx, .slice ai li ci] 33))).keptBy hg3 ((X1.kept (World.grownBy_alloc W1 (.cells #[.int .i64 kx, .slice ai li ci] 33) none) (by cases hh : u3.ownBlock <;> simp)).apart (A1.below ((Below.refl _ _).alloc (Nat.le_refl _) (.cells #[.int .i64 kx, .slice ai li ci] 33))) (by decide)).2; have B3 := (BP.below ((Below.refl W1.heap.size W1).alloc (Nat.le_refl _) (.cells #[.int .i64 kx, .slice ai li ci] 33)) BP.lt).kept hg3 (fun h => by have := (hXl _ h.symm).2; omega); have d3 := B3.cell (i := 1) rfl))
          have X5 := X3.kept hg5 ((X3.apart A3 (by decide)).1)
          have hb5 := hb3.grown hg5 hb3.size (fun j hj => (A3.1.lt j hj).1)
          rw [← HE1.out] at X5
          rw [← HE2.out] at A5
          go_roundw
          case rel => exact ⟨j + 1, by omega, by go_num, X5, A5, HPn, hb5⟩
          case measure => simp [intOf]; omega
      · obtain rfl : j = len0 := by omega
        have q1 : ¬ (j : Int) < (j : Int) := by omega
        have X1 := hX.out
        have A1 := hA.out
        have P1 := hP.out
        rw [List.take_of_length_le (by rw [hsz.out]; exact Nat.le_refl _)] at X1 A1 P1
        have hfl := flat_200 _ P1
        rw [hsz.out] at hfl
        have hfl2 : j * 200 ≤ 40 * 200 := Nat.mul_le_mul (by omega) (Nat.le_refl _)
        obtain ⟨a6, c6, hu3, q6⟩ := (X1.ownG hb).rows
        rw [hsz.out] at hu3 q6
        subst hu3
        obtain ⟨a7, c7, hu4, q7⟩ := A1.reads
        subst hu4
        have F1 := hid (ewtok_Hidden a6 j c6 xs0 wr q6 (by omega))
        have F2 := hid (fun W (hW : Below wr.heap.size wr W) => ewtok_Join a6 j c6 xs0 W (q6.below hW) (by omega) (by omega))
        have HA := hid (fun W (hW : Below wr.heap.size wr W) => q7.below hW)
        have HHL : Hid ((hidA (xs0.map Prod.fst)).length = j) := by
          unfold hidA Hid
          rw [List.length_map, List.length_range, List.length_map, hsz.out]
        have HHA := hid (fun i (hi : i < j) => hid_at (xs0.map Prod.fst) i (by rw [List.length_map, hsz.out]; exact hi))
        clear hX hA hP X1 A1 P1 hfl hfl2 q6 q7
        generalize (xs0.map Prod.snd).flatten = AL at *
        go_wp2_with (go_at_call 15; (with_reducible refine F1.out.mono ?_); rintro e v2 ⟨a2, m2, c2, rfl, r2, h2⟩; obtain rfl : j = m2 := (HHL.out.symm.trans r2.size))
        have R2 := hid r2
        have y2 := below_then hb h2
        clear r2
        go_loopw [46] (fun iv wq => ∃ (i m : Nat), i ≤ j ∧ iv = .int .i64 i ∧ Hid (wq = v2.drewN m)) (fun iv _ => j - (intOf iv).toNat)
        case atStart => exact ⟨0, 0, Nat.zero_le _, rfl, rfl⟩
        case round =>
          obtain ⟨i, m, hi, rfl, HW⟩ := hrel
          have hbq : Below v2.heap.size v2 wr := by rw [HW.out]; exact Below.drewN (Below.refl _ _) m
          have hnx := hid (fun q => show wr.drewN q = v2.drewN (m + q) by rw [HW.out, World.drewN_drewN])
          by_cases hlt2 : i < j
          · obtain ⟨b2, o2, rfl, hb2w, hc2⟩ := R2.out.cell (by omega)
            have hcb := (hbq.cell (p := ⟨b2, o2 + i, none⟩) hb2w).trans (hc2 i hlt2)
            rw [HHA.out i hlt2] at hcb
            obtain ⟨g, hg⟩ : ∃ g, hidP (xs0.map Prod.fst) i = g := ⟨_, rfl⟩
            have hw0q := below_then y2 hbq
            have HK := hid (fun q => hid_draws a0 j cap0 xs0 i wr (R.out.below hw0q) hlt2 (by omega) g hg q)
            rw [hg] at hcb
            have q1 : (i : Int) < (j : Int) := by omega
            clear hc2 hg HW
            cases g
            all_goals
              go_wp2_with fail
              go_quiet ((go_at_call 16; with_reducible exact Calls.quiet_of (HK.out _)))
              go_wp2_with fail
              go_roundw
              case rel => exact ⟨i + 1, m + nq, by omega, by go_num, hnx.out nq⟩
              case measure => simp [intOf]; omega
          · obtain rfl : i = j := by omega
            have q1 : ¬ (i : Int) < (i : Int) := by omega
            have y3 := below_then h2 hbq
            have y4 := below_then y2 hbq
            go_wp2_with (first
              | (go_at_call 18; (with_reducible refine (F2.out _ y3).mono ?_); rintro e v5 ⟨a5, l5, c5, rfl, s5, h5⟩; have y5 := below_then y3 h5; have s7 := HA.out _ y5; have z5 := below_then y4 h5)
              | (go_at_call 17; (with_reducible refine (like32 _ _ _ _ _ _ _ _ s5 s7).mono ?_); rintro e v6 ⟨rfl, h6⟩; have z6 := below_then z5 h6)
              | (go_at_call 6; (with_reducible refine (alive32_any _).mono ?_); rintro e v7 ⟨rfl, h7⟩))
            go_ret
            exact ⟨rfl, below_then z6 h7⟩
  · have hN' : 40 < len0 := by omega
    go_enter Try.func4, Try.ntmps4
    go_wp2_with (go_at_call 6; (with_reducible refine (alive32_any _).mono ?_); rintro e w' ⟨rfl, hb⟩)
    go_ret
    exact ⟨rfl, hb⟩

set_option maxRecDepth 100000 in
theorem lifted (os : Os) (started : os.Started) (H : Type) (enc : TypeId × Value → H) :
    ReturnsInHanded {} Try.checked os 4 .any (Rows.ewtokHiddenSpec.pre6 enc Try.prog Try.f4 Rows.ewtokHiddenRow.domain false) (Rows.ewtokHiddenSpec.post enc Try.prog Try.f4 false true false false) := by
  refine returnsInHanded_of_change (C := Try.checked) own started (by kernel_rfl) Try.func4
    (ChangeSpec.witness6 (enc := enc) (C := Try.checked) false ⟨#[], #[.slice none 0 0], []⟩ 8 (by kernel_rfl) (by kernel_rfl) (by kernel_rfl) (by kernel_rfl)) ?_
  intro W base args ds gs before hval0 hW hcnd _
  have hval : ∀ (j : Nat) t v, Try.f4.params[j]? = some t → args[j]? = some v → Value.okWide Try.prog W .any base t v := hval0
  have hW' := hW
  obtain ⟨p, q, hA0, hV, rfl, hfz, hnd⟩ := hW
  have hA : DataW.TrodAll enc Try.prog W 0 (fun _ => true) true Try.f4.params.toList args.toList ds p := hA0
  rw [Try.params4] at hA hval
  obtain ⟨v0, vs0, d0, ds0, p0, q0, hargs, rfl, rfl, h0, r_0⟩ := trodAll_cons hA
  obtain ⟨rfl, rfl, rfl⟩ := trodAll_nil r_0
  obtain rfl : args = #[v0] := by cases args; simp_all
  obtain ⟨rfl, rfl⟩ := trodVars_none hV
  obtain ⟨a0, len0, cap0, rfl⟩ := okWide_slice Try.underlying24 (hval 0 24 v0 rfl rfl)
  have k0 := h0
  have lt0 : ∀ x ∈ p0, x.block < W.heap.size := by obtain ⟨m, hm⟩ := k0; exact DataW.trod_lt m _ _ _ hm
  obtain ⟨xs0, r0⟩ : ∃ xs, RwsG shPc W a0 len0 cap0 xs := by
    obtain ⟨fuel, hf⟩ := h0
    simp only [Value.cells] at hf
    exact rwsP_open Try.underlying24 Try.underlying27 (by kernel_rfl) rfl rfl Try.underlying3 Try.underlying22 Try.underlying5 (by kernel_rfl) (by kernel_rfl) (by kernel_rfl) hf
  clear hA0 hval0
  refine (walk a0 len0 cap0 xs0 W r0).mono fun e W' ⟨he, bel⟩ => ?_
  subst he
  exact ⟨_, rfl, _, _, _, [], _, [], hW', trodAll_mk1 (shut_bool Try.underlying4 _), (trodAll_cons_mk (Below.trod laidOut (by kernel_rfl) (of_decide_eq_true (by kernel_rfl)) k0 bel lt0) trodAll_mk0), rfl, bel.frame _, fun h => by cases h⟩

theorem over : Rows.ewtokHiddenRow.holds Try.pinned (OpenSpec.ofChange Rows.ewtokHiddenSpec) :=
  OpenClaim.holds_of_wide 4 Try.f4 rfl rfl rfl rfl rfl rfl rfl ⟨rfl, rfl, rfl, rfl, rfl⟩ rfl rfl rfl rfl rfl (by kernel_rfl) Try.func4 (by kernel_rfl)
    (of_decide_eq_true (by kernel_rfl)) (by unfold Func.isWrapper; first | (rw [if_pos (by decide +kernel)]; kernel_rfl) | (rw [if_neg (by decide +kernel)]; exact ⟨rfl, rfl⟩))
    (fun os started H enc _ => lifted os started H enc)

end Go.Proofs.Ytkaldjekjgecbaa.ewtokHidden
namespace Go.Proofs.Ytkaldjekjgecbaa
theorem ewtokHidden_holds : Rows.EwtokHiddenSaid := ewtokHidden.over
#print axioms ewtokHidden_holds
end Go.Proofs.Ytkaldjekjgecbaa
