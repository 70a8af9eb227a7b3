/-
  Contracts of the document's own functions of layer 7 (those that the translation has): pieces.
-/
import Derived.Maps.AppendAt
import Derived.Test.YtpdlnbomjknhiaaRr
import Derived.Test.YtpdlnbomjknhiaaR07
namespace Go.Proofs.Ytpdlnbomjknhiaa
open Go.RowKit
set_option linter.unusedVariables false

def outS (n : Int) (xs : List Int) (k : Nat) : List (List Int) := ((segs xs).take k).foldl (stepS n) []
theorem outS_zero (n : Int) (xs : List Int) : outS n xs 0 = [] := by simp [outS]
theorem outS_all (n : Int) (xs : List Int) : outS n xs (segs xs).length = spl n xs := by unfold outS spl; rw [List.take_length]
theorem outS_succ (n : Int) (xs : List Int) {k : Nat} {s : List Int} (h : (segs xs)[k]? = some s) : outS n xs (k + 1) = stepS n (outS n xs k) s := by
  unfold outS
  have hk : k < (segs xs).length := (List.getElem?_eq_some_iff.1 h).1
  rw [List.take_succ_eq_append_getElem hk, (List.getElem?_eq_some_iff.1 h).2, List.foldl_append]; rfl
theorem stepS_len (n : Int) (out : List (List Int)) (s : List Int) : (stepS n out s).length ≤ out.length + 1 := by
  unfold stepS
  split
  · simp
  · rename_i l hl
    have : 0 < out.length := by cases out with
      | nil => simp at hl
      | cons => simp
    split <;> simp
theorem outS_len (n : Int) (xs : List Int) : ∀ k, (outS n xs k).length ≤ k := by
  have key : ∀ (ss : List (List Int)) (out : List (List Int)), (ss.foldl (stepS n) out).length ≤ out.length + ss.length := by
    intro ss
    induction ss with
    | nil => intro out; simp
    | cons s ss ih =>
      intro out
      have h1 := ih (stepS n out s)
      have h2 := stepS_len n out s
      simp at h1 ⊢; omega
  intro k
  have := key ((segs xs).take k) []
  simp at this
  unfold outS; omega
/-- A piece is no longer than all. -/
theorem outS_part (n : Int) (xs : List Int) (k : Nat) (l : List Int) (h : l ∈ outS n xs k) : l.length ≤ xs.length := by
  have hb := blocks_fold n ((segs xs).take k) [] [] ⟨[], rfl, rfl, fun B h => by cases h⟩
  rw [List.nil_append] at hb
  obtain ⟨Bs, h1, h2, _⟩ := hb
  have h3 : (outS n xs k).flatten = ((segs xs).take k).flatten := by
    show (((segs xs).take k).foldl (stepS n) []).flatten = _
    rw [h2, flat_flat, h1]
  have h4 : l.length ≤ (outS n xs k).flatten.length := by
    obtain ⟨A, C, hAC⟩ := List.append_of_mem h
    rw [hAC]; simp; omega
  have h5 := flat_le (segs xs) k
  rw [segs_flat] at h5
  rw [h3] at h4
  omega
/-- Each sign's place. -/
theorem seg_at (xs : List Int) {k : Nat} (hk : k < (segs xs).length) : ∃ (p : Nat) (s : List Int), (segs xs)[k]? = some s ∧ (plc xs)[k]? = some (p : Int) ∧ (plc xs)[k + 1]? = some ((p + s.length : Nat) : Int) ∧ p + s.length ≤ xs.length ∧ (xs.take (p + s.length)).drop p = s ∧ 0 < s.length := by
  have hg := List.getElem?_eq_getElem hk
  have htk := List.take_succ_eq_append_getElem hk
  have hlt := List.take_append_drop (k + 1) (segs xs)
  generalize hs : (segs xs)[k] = s at *
  refine ⟨((segs xs).take k).flatten.length, s, hg, plc_get xs (by omega), ?_, ?_, ?_, segs_ne xs s (List.mem_of_getElem? hg)⟩
  · rw [plc_get xs (by omega), htk, List.flatten_append]; simp
  · have := flat_le (segs xs) (k + 1)
    rw [segs_flat, htk, List.flatten_append] at this
    simpa using this
  · have h1 : xs = ((segs xs).take k).flatten ++ (s ++ ((segs xs).drop (k + 1)).flatten) := by
      conv => lhs; rw [← segs_flat xs, ← hlt, htk]
      simp
    have h2 : xs.take (((segs xs).take k).flatten.length + s.length) = ((segs xs).take k).flatten ++ s := by
      generalize hA : ((segs xs).take k).flatten = A at *
      rw [h1, ← List.append_assoc, ← List.length_append]
      exact List.take_left
    rw [h2]
    exact List.drop_left
set_option maxHeartbeats 4000000 in
theorem ref07_Split (a : Option Addr) (len cap : Nat) (xs : List Int) (n : Int) (w : World) (hr : Reads .u8 w a len cap xs) (hN : len < 100000000) (hw : (Lit.int .i64 n).wf = true) :
    Calls Try.prog 18 #[.slice a len cap, .int .i64 n] w fun e w' => ∃ a' m c', e = .returned (.slice a' m c') ∧ Rws w' a' m c' (spl n xs) ∧ Below w.heap.size w w' := by
  obtain ⟨S, hS⟩ : ∃ S, (segs xs).length = S := ⟨_, rfl⟩
  have hsz := hr.size
  have hSl : S ≤ len := by have := segs_le xs; omega
  have hP : Calls Try.prog 9 #[.slice a len cap] w fun e w' => ∃ a' cap', e = .returned (.slice a' (S + 1) cap') ∧ Reads .i64 w' a' (S + 1) cap' (plc xs) ∧ Below w.heap.size w w' := by
    refine (ref07_Places _ _ _ _ _ hr hN).mono ?_
    rintro e w' ⟨a', m, c', rfl, hr', hb⟩
    obtain rfl : S + 1 = m := by rw [← hS, ← plc_len]; exact hr'.size
    exact ⟨a', c', rfl, hr', hb⟩
  have HS := hid hS
  have hroom := hr.room
  have HA := hid hr
  have hwn := wf_i64 hw
  have hu : (Try.prog.info? 22).map (fun i => (i.zero, i.size, i.bytes)) = some (some (.slice none 0 0), 1, 24) := by kernel_rfl
  obtain ⟨i0, hiT, hz0, hz1, hz2⟩ := info_parts hu
  clear hr hw hS hu
  go_enter Try.func18, Try.ntmps18
  go_wp2_with (go_at_call 9; (with_reducible refine hP.mono ?_); rintro e w1 ⟨a1, c1, rfl, hr1, hb1⟩)
  have HR := hid hr1
  clear hr1 hP
  go_loopw [6, 7] (fun v i wr => ∃ (k : Nat) (vs : List Value), k ≤ S ∧ i = .int .i64 k ∧ wr.ownsRow w1.heap.size 22 1 v (outS n xs k).length vs ∧ Pcs w1.heap.size 5 wr vs (outS n xs k) ∧ Below w1.heap.size w1 wr) (fun _ i _ => S - (intOf i).toNat)
  case atStart => exact ⟨0, [], Nat.zero_le _, rfl, by rw [outS_zero]; exact World.ownsRow_nil _ _ _ _, by rw [outS_zero]; exact Pcs.nil _ _ _, Below.refl _ _⟩
  case round =>
    obtain ⟨k, vs, hk, rfl, hrow, hpc, hbel⟩ := hrel
    by_cases hlt : k < S
    · obtain ⟨p, s, hs1, hp1, hp2, hple, hsl, hs0⟩ := seg_at xs (show k < (segs xs).length by rw [HS.out]; exact hlt)
      obtain ⟨b, off, x, rfl, _, hc1, hx1⟩ := (HR.out.below hbel).getI (i := k) (by omega)
      obtain ⟨b', off', x', hb', _, hc2, hx2⟩ := (HR.out.below hbel).getI (i := k + 1) (by omega)
      cases hb'
      obtain rfl : (p : Int) = x := by have := hx1.out.1; rw [hp1] at this; cases this; rfl
      obtain rfl : ((p + s.length : Nat) : Int) = x' := by have := hx2.out.1; rw [hp2] at this; cases this; rfl
      have hpcap : ¬ cap = p := by omega
      have hsucc := hid (outS_succ n xs hs1)
      have hol := outS_len n xs k
      have hrx := HA.out.piece (show p ≤ p + s.length by omega) (show p + s.length ≤ len by omega)
      rw [if_neg hpcap, hsl, show p + s.length - p = s.length by omega] at hrx
      have HX := hid hrx
      clear hrx hsl hp1 hp2 hs1
      have e1 : IntKind.i64.wrap ((k : Int) + 1) = (k : Int) + 1 := IntWalk.i64_in _ (by omega)
      have q1 : (0 : Int) ≤ (k : Int) := by omega
      have q2 : (k : Int) < (S : Int) + 1 := by omega
      have q3 : (0 : Int) ≤ (k : Int) + 1 := by omega
      have q4 : (k : Int) + 1 < (S : Int) + 1 := by omega
      have q5 : ((k : Int) + 1).toNat = k + 1 := by omega
      have q6 : p ≤ p + s.length := by omega
      have q7 : p + s.length ≤ cap := by omega
      have q8 : p + s.length - p = s.length := by omega
      go_wp2_with fail
      go_quiet (fail)
      have hbW := Below.drewN hbel nq
      have hTW : Turns (fun _ => False) wr (wr.drewN nq) := (Turns.refl _ _).below (Below.drewN (Below.refl _ _) nq)
      have hrowW := hTW.row hrow (fun _ _ h => h)
      have hpcW := hpc.turns hTW (fun _ h => h.elim) (fun _ _ _ h => h.elim)
      clear hrow hpc hbel hc1 hc2 hTW e1 q1 q2 q3 q4 q5
      generalize wr.drewN nq = W at *
      have hwb := hid hb1.size
      have HO := hsucc
      rw [Hid] at HO
      generalize hO : outS n xs k = O at *
      have HOO := hid hO
      clear hO hsucc
      by_cases h0 : O = []
      · subst h0
        have HS2 : Hid (outS n xs (k + 1) = [s]) := HO
        clear HO
        obtain ⟨av, cv, rfl⟩ := row_shape hrowW
        simp only [List.length_nil] at hrowW
        go_wp2_with (at_builtin; refine wpList_append_own _ rfl _ _ 28 rfl w1.heap.size 22 i0 (.slice none 0 0) 1 24 Try.underlying28 hiT hz0 hz1 hz2 rfl (by decide) _ 0 vs rfl (hrowW.alloc _) ⟨W.heap.size, 0, none⟩ 1 1 [_] rfl rfl (cell_one_new _ _ _) (by simp [Value.oneCell']) (by unfold maxLen; omega) (by omega) (by have := hbW.size; simp; omega) ?_; intro v' w' hown' hgrow _)
        have hb3 : Below w1.heap.size w1 w' := (hbW.alloc hbW.size _).grown hgrow (by have := hbW.size; simp; omega) (fun j hj => (hrowW.lt j hj).1)
        have hpc3 := rows_push hrowW hpcW hgrow (by decide) (Piece.old HX.out hwb.out (hb1.trans (hb3.mono hb1.size)))
        have HB := hid hb3
        have HP := hid hpc3
        have HW := hid hown'
        clear hb3 hpc3 hown' hgrow hrowW hpcW
        go_roundw
        case rel => exact ⟨k + 1, _, by omega, by go_num, by rw [HS2.out]; exact HW.out, by rw [HS2.out]; exact HP.out, HB.out⟩
        case measure => simp [intOf]; omega
      · obtain ⟨ys, lst, hyl⟩ : ∃ ys lst, O = ys ++ [lst] := ⟨_, _, (List.dropLast_concat_getLast h0).symm⟩
        subst hyl
        obtain ⟨j, hj⟩ : ∃ j, ys.length = j := ⟨_, rfl⟩
        have hjk : j + 1 ≤ k := by have := hol; simp at this; omega
        have hlen : (ys ++ [lst]).length = j + 1 := by simp [hj]
        rw [hlen] at hrowW
        obtain ⟨g, cv, rfl, hg1, hg2⟩ := hrowW.form (Nat.succ_pos _)
        have hvl : vs.length = j + 1 := by rw [hpcW.1, hlen]
        obtain ⟨u, hu⟩ : ∃ u, vs[j]? = some u := ⟨vs[j]'(by omega), List.getElem?_eq_getElem (by omega)⟩
        obtain ⟨al, ll, cl, rfl, hrl, _⟩ := hpcW.2 j u lst hu (by rw [← hj]; simp)
        have hlc := (hrowW.cellAt j (by omega)).trans hu
        obtain rfl : ll = lst.length := hrl.size.symm
        have hll : lst.length ≤ 100000000 := by
          have h1 : lst ∈ outS n xs k := by rw [HOO.out]; simp
          have h2 := outS_part n xs k lst h1
          omega
        have hRL := hid hrl
        have hstep : stepS n (ys ++ [lst]) s = if ((lst.length : Int) + s.length) ≤ n then ys ++ [lst ++ s] else ys ++ [lst] ++ [s] := by
          unfold stepS; rw [List.getLast?_concat]; simp
        rw [hstep] at HO
        have w1' : IntKind.i64.wrap ((lst.length : Int) + s.length) = (lst.length : Int) + s.length := IntWalk.i64_in _ (by omega)
        clear hrl hstep hol h0
        by_cases hc : (lst.length : Int) + s.length ≤ n
        · rw [if_pos hc] at HO
          have HS2 := hid HO
          clear HO
          have hfz := hrowW.frozenAt j
          have hx3 := (HX.out.below hb1).below hbW
          go_wp2_with (first
            | (at_builtin; (refine wpList_more ST8 rfl _ _ rfl rfl rfl ho4 hb4 (hx3.below hb4) (by simp; omega) ?_); intro v5 w5 ho5 hb5; obtain ⟨a5, c5, rfl, _⟩ := ho5.reads; have hT5 : Turns (fun _ => False) W w5 := (Turns.refl _ _).below hb5; have hrow5 := hT5.row hrowW (fun _ _ h => h); have hc5 := (hrow5.cellAt j (by omega)).trans hu; have hf5 := hrow5.frozenAt j)
            | (at_builtin; go_must (refine wpList_more ST8 rfl _ _ rfl rfl rfl (Own.nil _ _ _ _) (Below.refl _ _) hRL.out (by simp; omega) ?_); intro v4 w4 ho4 hb4))
          have hpc5 := hpcW.turns hT5 (fun _ h => h.elim) (fun _ _ _ h => h.elim)
          rw [List.nil_append, List.length_append] at ho5
          obtain ⟨z1, z2⟩ := rows_set hrow5 hpc5 (by decide) j ho5
          have hset : (ys ++ [lst]).set j (lst ++ s) = ys ++ [lst ++ s] := by rw [← hj]; simp
          rw [hset] at z2
          have HZ1 := hid z1
          have HZ2 := hid z2
          have HB := hid ((hbW.trans (hb5.mono hbW.size)).setCell (p := ⟨g, j, none⟩) hg1 (.slice a5 (lst.length + s.length) c5))
          clear z1 z2 hset hpc5 hrow5 hT5 hc5 hf5
          go_roundw
          case rel => exact ⟨k + 1, _, by omega, by go_num, by rw [HS2.out]; simpa [hj] using HZ1.out, by rw [HS2.out]; exact HZ2.out, HB.out⟩
          case measure => simp [intOf]; omega
        · rw [if_neg hc] at HO
          have HS2 := hid HO
          clear HO
          go_wp2_with (at_builtin; refine wpList_append_own _ rfl _ _ 28 rfl w1.heap.size 22 i0 (.slice none 0 0) 1 24 Try.underlying28 hiT hz0 hz1 hz2 rfl (by decide) _ (j + 1) vs rfl (hrowW.alloc _) ⟨W.heap.size, 0, none⟩ 1 1 [_] rfl rfl (cell_one_new _ _ _) (by simp [Value.oneCell']) (by unfold maxLen; omega) (by omega) (by have := hbW.size; simp; omega) ?_; intro v' w' hown' hgrow _)
          have hb3 : Below w1.heap.size w1 w' := (hbW.alloc hbW.size _).grown hgrow (by have := hbW.size; simp; omega) (fun j hj => (hrowW.lt j hj).1)
          have hpc3 := rows_push hrowW hpcW hgrow (by decide) (Piece.old HX.out hwb.out (hb1.trans (hb3.mono hb1.size)))
          have HB := hid hb3
          have HP := hid hpc3
          have HW := hid hown'
          clear hb3 hpc3 hown' hgrow hrowW hpcW
          go_roundw
          case rel => exact ⟨k + 1, _, by omega, by go_num, by rw [HS2.out]; simpa [hj] using HW.out, by rw [HS2.out]; exact HP.out, HB.out⟩
          case measure => simp [intOf]; omega
    · go_wp2_with fail
      obtain rfl : k = S := by omega
      rw [← HS.out, outS_all] at hrow hpc
      obtain ⟨a', c', rfl, hR⟩ := rows_read hrow hpc
      go_ret
      exact ⟨a', _, c', rfl, hR, hb1.trans (hbel.mono hb1.size)⟩

end Go.Proofs.Ytpdlnbomjknhiaa
