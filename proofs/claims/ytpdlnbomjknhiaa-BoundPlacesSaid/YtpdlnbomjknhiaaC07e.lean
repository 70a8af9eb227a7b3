/-
  Contracts of package bound's functions: pieces.
-/
import Derived.Deep.RegionHeld3
import Derived.Test.YtpdlnbomjknhiaaC07d
namespace Go.Proofs.Ytpdlnbomjknhiaa
open Go.RowKit Go.Shelf
set_option linter.unusedVariables false
attribute [local go_sem] Oper.semAt_some

theorem CTRR : SliceT Try.prog 22 5 .u8 1 := ⟨Try.underlying22, by kernel_rfl, by decide⟩
theorem below_from {B : Nat} {w A C : World} (h : Below B w A) (k : Below B w C) (hs : A.heap.size ≤ C.heap.size) : Below B A C :=
  ⟨k.os.trans h.os.symm, k.tape.trans h.tape.symm, k.output.trans h.output.symm, hs, fun i hi => (k.block i hi).trans (h.block i hi).symm⟩
theorem info_row : (Try.prog.info? 22).map (fun i => (i.zero, i.size, i.bytes)) = some (some (.slice none 0 0), 1, 24) := by kernel_rfl
set_option maxRecDepth 100000 in
set_option maxHeartbeats 4000000 in
theorem bound_Split (a : Option Addr) (len cap : Nat) (xs : List Int) (n : Int) (w : World) (hr : Reads .u8 w a len cap xs) (hN : len < 100000000) (hwn : (Lit.int .i64 n).wf = true) :
    Calls Try.prog 17 #[.slice a len cap, .int .i64 n] w fun e w' => ∃ a' m c', e = .returned (.slice a' m c') ∧ Rws w' a' m c' (spl n xs) ∧ Below w.heap.size w w' := by
  have hl := hr.len_le
  have hsz := hr.size
  have hroom := hr.room
  have hbd := plc_bd xs
  rw [hsz] at hbd
  refine (callsIn_wide (n := 4)).1 ?_
  refine callsIn_of_wp_marks Try.func17 rfl trivial ?_ rfl
  simp only [Try.ntmps17, List.size_toArray, List.length_cons, List.length_nil, Nat.reduceAdd, Nat.reduceSub, Array.replicate_succ, Array.replicate_zero, List.push_toArray, List.append_toArray, List.nil_append, List.cons_append]
  obtain ⟨b1, b2, b3, b4, b5, hB0⟩ := five_boxes w 22 3 28 3 3 (.slice a len cap) (.int .i64 n) (.slice none 0 0) (.int .i64 0) (.int .i64 0)
  have hP := bound_Places _ _ _ _ _ (hr.below hB0) hN
  have HR := hid hr
  clear hr hwn
  gi_wp2_with fail
  generalize hW0 : (((((w.alloc (.cells #[.slice a len cap] 22)).alloc (.cells #[.int .i64 n] 3)).alloc (.cells #[.slice none 0 0] 28)).alloc (.cells #[.int .i64 0] 3)).alloc (.cells #[.int .i64 0] 3)) = W0 at *
  have hsz0 : W0.heap.size = w.heap.size + 1 + 1 + 1 + 1 + 1 := by rw [← hW0]; simp
  clear hW0
  gi_wp2_with (first
    | (refine ⟨trivial, ?_⟩; gi_at_call 8; (with_reducible refine (callsIn_wide.2 hP).mono ?_); rintro e w1 ⟨g, c1, rfl, ho, hb⟩)
    | (refine ⟨trivial, ?_⟩; gi_at_call 26; (with_reducible refine (slices_Values _ _ _ _ _).mono ?_); rintro e w' ⟨rfl, rfl⟩))
  obtain ⟨W2, hW2, hb2, hB2, d6, hrd, hg1, hg2, hs1, hs2⟩ := loop_world hB0 hb ho
  have d1 := boxed_below b1 hb2
  have d2 := boxed_below b2 hb2
  have d3 := boxed_below b3 hb2
  have d4 := boxed_below b4 hb2
  have d5 := boxed_below b5 hb2
  rw [hW2]
  have hs3 : w.heap.size + 1 + 1 + 1 + 1 + 1 ≤ w1.heap.size := by omega
  refine wpIn_rangeFunc_ownG rfl (by omega) (gf := 34) (lb := #[.pointer (some ⟨w1.heap.size, 0, none⟩)]) rfl trivial (enters_of Try.func34 (by kernel_rfl) rfl)
    (values_stops 3 w1.heap.size w.heap.size (by omega) _ _ _ len _ hbd W2 hrd d6) keepsRow_t (keepsRow_b hB2.size) (Below.refl _ _) (fun _ => rfl)
    (fun pre W => Boxed W w.heap.size 22 (.slice a len cap) ∧ Boxed W (w.heap.size + 1) 3 (.int .i64 n) ∧ (∃ v vs, Boxed W (w.heap.size + 1 + 1) 28 v ∧ W.ownsRow W2.heap.size 22 1 v (runP n xs (valP pre)).1.length vs ∧ Pcs 0 5 W vs (runP n xs (valP pre)).1) ∧ Boxed W (w.heap.size + 1 + 1 + 1) 3 (.int .i64 (runP n xs (valP pre)).2.1) ∧ Boxed W (w.heap.size + 1 + 1 + 1 + 1) 3 (.int .i64 (runP n xs (valP pre)).2.2) ∧ Below w.heap.size W2 W)
    (fun _ _ _ => False)
    (OwnFrom.and (Go.Own.from (boxed_own _ _ (fun _ => .slice a len cap)) _) (OwnFrom.and (Go.Own.from (boxed_own _ _ (fun _ => .int .i64 n)) _) (OwnFrom.and (pieces_own _ _ _ _ _ _ (fun pre => (runP n xs (valP pre)).1)) (OwnFrom.and (Go.Own.from (boxed_own _ _ (fun pre => .int .i64 (runP n xs (valP pre)).2.1)) _) (own_box (w := W2) hB2.size hB2.size _ _ (fun pre => .int .i64 (runP n xs (valP pre)).2.2))))))
    (fun _ _ _ _ _ hs _ _ => hs)
    ⟨d1, d2, ⟨_, [], d3, World.ownsRow_nil _ _ _ _, Pcs.nil _ _ _⟩, d4, d5, Below.refl _ _⟩
    (fun x => { tmps := #[.slice a len cap, .int .i64 n, .pointer (some ⟨w.heap.size, 0, none⟩), .pointer (some ⟨w.heap.size + 1, 0, none⟩), .slice none 0 0, .pointer (some ⟨w.heap.size + 1 + 1, 0, none⟩), .pointer (some ⟨w.heap.size + 1 + 1 + 1, 0, none⟩), .pointer (some ⟨w.heap.size + 1 + 1 + 1 + 1, 0, none⟩), .int .i64 x.1, .slice a len cap, .slice (some ⟨g, 0, none⟩) ((segs xs).length + 1) c1, .func (.func 34) #[] #[.pointer (some ⟨w1.heap.size, 0, none⟩)], .int .i64 x.1, undef, undef, undef, undef, undef, undef, undef, undef, undef, undef, undef, undef, undef, undef, undef, undef, undef, undef, undef, undef, undef, undef, undef, undef, undef, undef, undef, undef, undef, undef, undef, undef], defers := [] }) ?assign ?body ?done ?stop
  case assign =>
    intro l x W K hK
    dsimp only [encP]
    gi_wp2
    exact hK
  case body =>
    rintro l pre ⟨x, hx0, hx1⟩ W ⟨hv1, hv2, ⟨v, vs, hv3, hrow, hpc⟩, hv4, hv5, hB'⟩ hlt
    have hB := hB2.trans hB'
    have hrb := runP_bd n xs len (valP pre) (fun p hp => by obtain ⟨y, _, rfl⟩ := List.mem_map.1 hp; exact y.2)
    have hsn := runP_snoc n xs (valP pre) x
    have hvl : (valP pre).length = pre.length := by simp [valP]
    rw [← valP_snoc pre ⟨x, hx0, hx1⟩] at hsn
    have hseg := segs_le xs
    generalize hQ : runP n xs (valP pre) = q at *
    obtain ⟨ps, f, t⟩ := q
    simp only at hv3 hrow hpc hv4 hv5 hrb
    have hpl : ps.length < 100000001 := by omega
    have hc1 := hv1.cell
    have hc2 := hv2.cell
    have hc4 := hv4.cell
    have hc5 := hv5.cell
    have hf5 := hv5.frozen
    have hf4 := hv4.frozen
    have hw19 : IntKind.i64.wrap (x - f) = x - f := IntWalk.i64_in _ (by omega)
    by_cases hp : f < t ∧ n < x - f
    · obtain ⟨hp1, hp2⟩ := hp
      gi_wp2_with fail
      have hmx : Try.prog.follows .mixedOrders = true := by kernel_rfl
      refine wpIn_region_any hmx ?_
      have hpp : f < t ∧ n < x - f := ⟨hp1, hp2⟩
      obtain ⟨f, rfl⟩ := Int.eq_ofNat_of_zero_le hrb.1.1
      obtain ⟨t, rfl⟩ := Int.eq_ofNat_of_zero_le hrb.2.1.1
      have hft : f < t := by omega
      have htl : t ≤ len := by omega
      have hfc : ¬ cap = f := by omega
      have hu : (Try.prog.info? 22).map (fun i => (i.zero, i.size, i.bytes)) = some (some (.slice none 0 0), 1, 24) := info_row
      obtain ⟨i0, hiT, hz0, hz1, hz2⟩ := info_parts hu
      have hpp := hid hpp
      clear hu hp1 hp2
      refine wpAnyIn_inv 9 pushStates rankOf preOf (fun L => bitOf L 8) (fun L a' W' => ∃ x0 x1 x2 x3 x4 x5 x6 x7 : Value, a' = { tmps := #[.slice a len cap, .int .i64 n, .pointer (some ⟨w.heap.size, 0, none⟩), .pointer (some ⟨w.heap.size + 1, 0, none⟩), .slice none 0 0, .pointer (some ⟨w.heap.size + 1 + 1, 0, none⟩), .pointer (some ⟨w.heap.size + 1 + 1 + 1, 0, none⟩), .pointer (some ⟨w.heap.size + 1 + 1 + 1 + 1, 0, none⟩), .int .i64 x, .slice a len cap, .slice (some ⟨g, 0, none⟩) ((segs xs).length + 1) c1, .func (.func 34) #[] #[.pointer (some ⟨w1.heap.size, 0, none⟩)], .int .i64 x, .int .i64 t, .int .i64 f, .bool true, .bool true, .int .i64 x, .int .i64 f, .int .i64 (x - f), .int .i64 n, .bool true, .bool true, x0, x1, x2, x3, x4, x5, x6, x7, undef, undef, undef, undef, undef, undef, undef, undef, undef, undef, undef, undef, undef, undef], defers := [] } ∧
          PushC w W W2.heap.size (w.heap.size + 1 + 1) v vs ps (.slice a len cap) (.slice (a.map (·.add f)) (t - f) (cap - f)) f t (t - f) ((xs.take t).drop f) L W' x0 x1 x2 x3 x4 x5 x6 x7) ?_ ?_ ?_ _ _ _ _ (by decide) (by decide) ⟨_, _, _, _, _, _, _, _, rfl, pushC_start hB⟩
      · decide +kernel
      · rintro L hL ho a' W' ⟨x0, x1, x2, x3, x4, x5, x6, x7, rfl, hC⟩
        obtain ⟨v7, hv7, vs', r1, r2, r3, r4, r5⟩ := hC.2.2.2.2.2.2.2.2.2 ho
        clear hC
        have hob : ∀ j, v.ownBlock = some j → W2.heap.size ≤ j := fun j hj => (hrow.lt j hj).1
        have k4 := r5.boxed hv4 (fun h => by rcases h with h | h; omega; have := hob _ h; omega)
        have k5 := r5.boxed hv5 (fun h => by rcases h with h | h; omega; have := hob _ h; omega)
        have kc5 := k5.cell
        have kf5 := k5.frozen
        have kc4 := k4.cell
        have kf4 := k4.frozen
        clear hc1 hc2 hc4 hc5 hf4 hf5
        gi_wp2
        have hst : stepP n xs (ps, (f : Int), (t : Int)) x = (ps ++ [(xs.take t).drop f], (t : Int), x) := by unfold stepP; rw [if_pos hpp.out]; rfl
        rw [hst] at hsn
        have hT : Turns (fun k => k = w.heap.size + 1 + 1 ∨ k = w.heap.size + 1 + 1 + 1 ∨ k = w.heap.size + 1 + 1 + 1 + 1 ∨ v.ownBlock = some k) W ((W'.setCell ⟨w.heap.size + 1 + 1 + 1, 0, none⟩ (.int .i64 (t : Int))).setCell ⟨w.heap.size + 1 + 1 + 1 + 1, 0, none⟩ (.int .i64 x)) :=
          ((Turns.mk r5.size (fun k hk hb => r5.block k hk (fun h => hb (by rcases h with h | h; exact .inl h; exact .inr (.inr (.inr h)))))).set _ 0 _ (.inr (.inl rfl))).set _ 0 _ (.inr (.inr (.inl rfl)))
        have hne : ∀ B, B < W2.heap.size → B ≠ w.heap.size + 1 + 1 → B ≠ w.heap.size + 1 + 1 + 1 → B ≠ w.heap.size + 1 + 1 + 1 + 1 → ¬ (B = w.heap.size + 1 + 1 ∨ B = w.heap.size + 1 + 1 + 1 ∨ B = w.heap.size + 1 + 1 + 1 + 1 ∨ v.ownBlock = some B) := by
          intro B h1 h2 h3 h4 h
          rcases h with h | h | h | h
          · exact h2 h
          · exact h3 h
          · exact h4 h
          · have := hob _ h; omega
        have hBW : Below w.heap.size W2 ((W'.setCell ⟨w.heap.size + 1 + 1 + 1, 0, none⟩ (.int .i64 (t : Int))).setCell ⟨w.heap.size + 1 + 1 + 1 + 1, 0, none⟩ (.int .i64 x)) := by
          refine Below.setCell (Below.setCell ?_ (by simp; omega) _) (by simp; omega) _
          exact below_from hB2 r4 (Nat.le_trans hB'.size r5.size)
        have k4' := (k4.set (.int .i64 (t : Int))).other (show w.heap.size + 1 + 1 + 1 ≠ w.heap.size + 1 + 1 + 1 + 1 by omega) (.int .i64 x)
        have k5' := (k5.other (show w.heap.size + 1 + 1 + 1 + 1 ≠ w.heap.size + 1 + 1 + 1 by omega) (.int .i64 (t : Int))).set (.int .i64 x)
        have k5'' := k5.other (show w.heap.size + 1 + 1 + 1 + 1 ≠ w.heap.size + 1 + 1 + 1 by omega) (.int .i64 (t : Int))
        have hv7' := (hv7.other (show w.heap.size + 1 + 1 ≠ w.heap.size + 1 + 1 + 1 by omega) (.int .i64 (t : Int))).other (show w.heap.size + 1 + 1 ≠ w.heap.size + 1 + 1 + 1 + 1 by omega) (.int .i64 x)
        have r1' := row_set (u' := .int .i64 x) k5'' (by decide) (row_set (u' := .int .i64 (t : Int)) k4 (by decide) r1)
        have r2' : Pcs 0 5 ((W'.setCell ⟨w.heap.size + 1 + 1 + 1, 0, none⟩ (.int .i64 (t : Int))).setCell ⟨w.heap.size + 1 + 1 + 1 + 1, 0, none⟩ (.int .i64 x)) vs' (ps ++ [(xs.take t).drop f]) := by
          refine r2.turns (bs := fun k => k = w.heap.size + 1 + 1 + 1 ∨ k = w.heap.size + 1 + 1 + 1 + 1) (((Turns.refl _ _).set _ 0 _ (.inl rfl)).set _ 0 _ (.inr rfl)) (fun _ _ => Nat.zero_le _) fun k C fz hk hc => ?_
          rcases hk with rfl | rfl
          · rw [show W'.heap[w.heap.size + 1 + 1 + 1]? = _ from k4] at hc; injection hc with hc; injection hc with _ he; exact absurd he (by decide)
          · rw [show W'.heap[w.heap.size + 1 + 1 + 1 + 1]? = _ from k5] at hc; injection hc with hc; injection hc with _ he; exact absurd he (by decide)
        refine ⟨((r3.trans (KeepsOthers.setCell _ _ _)).trans (KeepsOthers.setCell _ _ _)).from _, ⟨below_from hB' hBW hT.size, fun u hu => hT.boxed hu (hne _ hs1 (by omega) (by omega) (by omega)), fun hr => hr.blocks hT.size fun b off hl hb => ?_⟩, hT.boxed hv1 (hne _ (by omega) (by omega) (by omega) (by omega)), hT.boxed hv2 (hne _ (by omega) (by omega) (by omega) (by omega)), ⟨v7, vs', hv7', by rw [hsn]; simpa using r1', by rw [hsn]; exact r2'⟩, by rw [hsn]; exact k4', by rw [hsn]; exact k5', hBW⟩
        cases hb
        obtain ⟨b', off', hb', hbl, _⟩ := hr.cell hl
        cases hb'
        exact hT.block _ hbl (hne _ (by omega) (by omega) (by omega) (by omega))
      · rintro L hL i hi hp a' W' ⟨x0, x1, x2, x3, x4, x5, x6, x7, rfl, hC⟩
        rcases (show i = 0 ∨ i = 1 ∨ i = 2 ∨ i = 3 ∨ i = 4 ∨ i = 5 ∨ i = 6 ∨ i = 7 ∨ i = 8 by omega) with rfl | rfl | rfl | rfl | rfl | rfl | rfl | rfl | rfl
        · have hS := (hC.2.2.2.2.2.1) (by simp [preOf] at hp; exact hp.1.1)
          have hc3 := (hS.boxed hv3).cell
          have hC' := pushC_0 hL hp hC
          refine wpOpIn_step rfl (fun K hK => ?_)
          clear hC
          go_simp
          refine hK _ _ ?_
          exact ⟨_, _, _, _, _, _, _, _, rfl, hC'⟩
        · have hS := (hC.2.2.2.2.2.1) (by simp [preOf] at hp; exact hp.1.1.2)
          have hc3 := (hS.boxed hv1).cell
          have hC' := pushC_1 hL hp hC
          refine wpOpIn_step rfl (fun K hK => ?_)
          clear hC
          go_simp
          refine hK _ _ ?_
          exact ⟨_, _, _, _, _, _, _, _, rfl, hC'⟩
        · have hS := (hC.2.2.2.2.2.1) (by simp [preOf] at hp; exact hp.1.1.2)
          have hc3 := (hS.boxed hv4).cell
          have hC' := pushC_2 hL hp hC
          refine wpOpIn_step rfl (fun K hK => ?_)
          clear hC
          go_simp
          refine hK _ _ ?_
          exact ⟨_, _, _, _, _, _, _, _, rfl, hC'⟩
        · have hS := (hC.2.2.2.2.2.1) (by simp [preOf] at hp; exact hp.1.1.2)
          have hc3 := (hS.boxed hv5).cell
          have hC' := pushC_3 hL hp hC
          refine wpOpIn_step rfl (fun K hK => ?_)
          clear hC
          go_simp
          refine hK _ _ ?_
          exact ⟨_, _, _, _, _, _, _, _, rfl, hC'⟩
        · have hp' := hp
          simp [preOf] at hp'
          obtain rfl := hC.2.1 hp'.1.1.1.1.1.1.1
          obtain rfl := hC.2.2.1 hp'.1.1.1.1.1.1.2
          obtain rfl := hC.2.2.2.1 hp'.1.1.1.1.1.2
          have hC' := pushC_4 hL hp hC
          refine wpOpIn_step rfl (fun K hK => ?_)
          clear hC hp hp'
          have htc : t ≤ cap := by omega
          have hfl : f ≤ t := by omega
          go_simp
          refine hK _ _ ?_
          exact ⟨_, _, _, _, _, _, _, _, rfl, hC'⟩
        · have hp' := hp
          simp [preOf] at hp'
          obtain rfl := hC.2.2.2.2.1 hp'.1.1.1.1
          have hS := hC.2.2.2.2.2.1 hp'.1.1.2
          have hrp := (HR.out.below (hS.2.2)).piece (Nat.le_of_lt hft) htl
          rw [if_neg hfc] at hrp
          have hCl := bytes_Clone _ _ _ _ _ hrp (by omega)
          refine wpOpIn_step rfl (fun K hK => ?_)
          go_simp
          refine ⟨trivial, ?_⟩
          refine (CallsIn.inRound l (callsIn_wide.2 hCl)).mono ?_
          rintro e W5 ⟨a5, c5, rfl, ho5, hb5⟩
          refine hK _ _ ?_
          exact ⟨_, _, _, _, _, _, _, _, rfl, pushC_5 hL hp hC ho5 hb5⟩
        · have hp' := hp
          simp [preOf] at hp'
          obtain ⟨a5, c5, rfl, _⟩ := hC.2.2.2.2.2.2.1 hp'.1.1.1 hp'.2
          have hC' := pushC_6 hL hp hC
          refine wpOpIn_step rfl (fun K hK => ?_)
          clear hC
          go_simp
          refine hK _ _ ?_
          exact ⟨_, _, _, _, _, _, _, _, rfl, hC'⟩
        · obtain ⟨a5, c5, W5, rfl, rfl, rfl, hr7, hn7, hC'⟩ := pushC_7 hL hp hC hrow hpc hB'.size hB2.size
          refine wpOpIn_step rfl (fun K hK => ?_)
          clear hC
          refine opIn_append rfl _ _ 28 rfl W2.heap.size 22 i0 (.slice none 0 0) 24 Try.underlying28 hiT hz0 hz1 hz2 rfl _ ps.length vs rfl hr7 ⟨W5.heap.size, 0, none⟩ 1 (.slice a5 (t - f) c5) rfl (cell_one_new _ _ _) rfl (by unfold maxLen; omega) (by omega) hn7 ?_
          intro g7 c7 w7 ho7 hg7
          refine hK _ _ ?_
          exact ⟨_, _, _, _, _, _, _, _, rfl, hC' g7 c7 w7 ho7 hg7⟩
        · obtain ⟨g7, c7, rfl, hv8, hC'⟩ := pushC_8 hL hp hC hv3 hrow (by omega) (by omega)
          have hc8 := hv8.cell
          have hf8 := hv8.frozen
          refine wpOpIn_step rfl (fun K hK => ?_)
          clear hC
          go_simp
          refine hK _ _ ?_
          exact ⟨_, _, _, _, _, _, _, _, rfl, hC'⟩
    · have hst : stepP n xs (ps, f, t) x = (ps, f, x) := by unfold stepP; rw [if_neg hp]
      rw [hst] at hsn
      have hT : Turns (fun k => k = w.heap.size + 1 + 1 + 1 + 1) W (W.setCell ⟨w.heap.size + 1 + 1 + 1 + 1, 0, none⟩ (.int .i64 x)) := (Turns.refl _ _).set _ 0 _ rfl
      have hBW : Below w.heap.size W2 (W.setCell ⟨w.heap.size + 1 + 1 + 1 + 1, 0, none⟩ (.int .i64 x)) := hB'.setCell (by simp; omega) _
      have r2' : Pcs 0 5 (W.setCell ⟨w.heap.size + 1 + 1 + 1 + 1, 0, none⟩ (.int .i64 x)) vs ps := by
        refine hpc.turns hT (fun _ _ => Nat.zero_le _) fun k C fz hk hc => ?_
        subst hk
        rw [show W.heap[w.heap.size + 1 + 1 + 1 + 1]? = _ from hv5] at hc; injection hc with hc; injection hc with _ he; exact absurd he (by decide)
      have r1' := row_set (u' := .int .i64 x) hv5 (by decide) hrow
      have key : KeepsFrom W2.heap.size W (W.setCell ⟨w.heap.size + 1 + 1 + 1 + 1, 0, none⟩ (.int .i64 x)) ∧ KeepsRow w.heap.size w1.heap.size 24 (some ⟨g, 0, none⟩) ((segs xs).length + 1) c1 (plc xs) W (W.setCell ⟨w.heap.size + 1 + 1 + 1 + 1, 0, none⟩ (.int .i64 x)) := by
        refine ⟨(KeepsOthers.setCell _ _ _).from _, below_from hB' hBW hT.size, fun u hu => hT.boxed hu (by omega), fun hr => hr.blocks hT.size fun b off hl hb => ?_⟩
        cases hb
        obtain ⟨b', off', hb', hbl, _⟩ := hr.cell hl
        cases hb'
        exact hT.block _ hbl (by omega)
      have r3' : ∃ v vs, Boxed (W.setCell ⟨w.heap.size + 1 + 1 + 1 + 1, 0, none⟩ (.int .i64 x)) (w.heap.size + 1 + 1) 28 v ∧ (W.setCell ⟨w.heap.size + 1 + 1 + 1 + 1, 0, none⟩ (.int .i64 x)).ownsRow W2.heap.size 22 1 v ps.length vs ∧ Pcs 0 5 (W.setCell ⟨w.heap.size + 1 + 1 + 1 + 1, 0, none⟩ (.int .i64 x)) vs ps :=
        ⟨v, vs, hv3.other (show w.heap.size + 1 + 1 ≠ w.heap.size + 1 + 1 + 1 + 1 by omega) (.int .i64 x), r1', r2'⟩
      have key2 := And.intro key.1 (And.intro key.2 (And.intro (hT.boxed hv1 (by omega)) (And.intro (hT.boxed hv2 (by omega)) (And.intro r3' (And.intro (hv4.other (show w.heap.size + 1 + 1 + 1 ≠ w.heap.size + 1 + 1 + 1 + 1 by omega) (.int .i64 x)) (And.intro (hv5.set (.int .i64 x)) hBW))))))
      have KEY := hid key2
      clear key key2 r1' r2' r3' hst
      by_cases h1 : f < t
      · have h2 : ¬ n < x - f := fun h => hp ⟨h1, h⟩
        clear hp
        gi_wp2
        obtain ⟨z1, z2, z3, z4, ⟨v', vs', z5, z6, z7⟩, z8, z9, z10⟩ := KEY.out
        exact ⟨z1, z2, z3, z4, ⟨v', z5, vs', by rw [hsn]; exact z6, by rw [hsn]; exact z7⟩, by rw [hsn]; exact z8, by rw [hsn]; exact z9, z10⟩
      · clear hp
        gi_wp2
        obtain ⟨z1, z2, z3, z4, ⟨v', vs', z5, z6, z7⟩, z8, z9, z10⟩ := KEY.out
        exact ⟨z1, z2, z3, z4, ⟨v', z5, vs', by rw [hsn]; exact z6, by rw [hsn]; exact z7⟩, by rw [hsn]; exact z8, by rw [hsn]; exact z9, z10⟩
  case done =>
    rintro D ys W hD hys ⟨hv1, hv2, ⟨v, vs, hv3, hrow, hpc⟩, hv4, hv5, hB'⟩ hK
    have hB := hB2.trans hB'
    have hfin := run_spl n xs
    have hrb := runP_bd n xs len (plc xs) hbd
    have hseg := segs_le xs
    have hplc := plc_len xs
    rw [hys] at hrow hpc hv4 hv5
    generalize hQ : runP n xs (plc xs) = q at *
    obtain ⟨ps, f, t⟩ := q
    simp only at hrow hpc hv4 hv5 hrb
    have hpl : ps.length < 100000001 := by omega
    have hc1 := hv1.cell
    have hc2 := hv2.cell
    have hc4 := hv4.cell
    have hc5 := hv5.cell
    have hc3 := hv3.cell
    by_cases hp : f < t
    · have hmx : Try.prog.follows .mixedOrders = true := by kernel_rfl
      gi_wp2_with fail
      refine wpIn_region_any hmx ?_
      obtain ⟨f, rfl⟩ := Int.eq_ofNat_of_zero_le hrb.1.1
      obtain ⟨t, rfl⟩ := Int.eq_ofNat_of_zero_le hrb.2.1.1
      have hft : f < t := by omega
      have htl : t ≤ len := by omega
      have hfc : ¬ cap = f := by omega
      have hu : (Try.prog.info? 22).map (fun i => (i.zero, i.size, i.bytes)) = some (some (.slice none 0 0), 1, 24) := info_row
      obtain ⟨i0, hiT, hz0, hz1, hz2⟩ := info_parts hu
      clear hu
      refine wpAnyIn_inv 9 pushStates rankOf preOf (fun L => bitOf L 8) (fun L a' W' => ∃ x0 x1 x2 x3 x4 x5 x6 x7 : Value, a' = { tmps := #[.slice a len cap, .int .i64 n, .pointer (some ⟨w.heap.size, 0, none⟩), .pointer (some ⟨w.heap.size + 1, 0, none⟩), .slice none 0 0, .pointer (some ⟨w.heap.size + 1 + 1, 0, none⟩), .pointer (some ⟨w.heap.size + 1 + 1 + 1, 0, none⟩), .pointer (some ⟨w.heap.size + 1 + 1 + 1 + 1, 0, none⟩), undef, .slice a len cap, .slice (some ⟨g, 0, none⟩) ((segs xs).length + 1) c1, .func (.func 34) #[] #[.pointer (some ⟨w1.heap.size, 0, none⟩)], undef, undef, undef, undef, undef, undef, undef, undef, undef, undef, undef, undef, undef, undef, undef, undef, undef, undef, undef, undef, undef, .int .i64 t, .int .i64 f, .bool true, x0, x1, x2, x3, x4, x5, x6, x7, undef], defers := [{ target := .collected D, args := #[] }] } ∧
          PushC w W W2.heap.size (w.heap.size + 1 + 1) v vs ps (.slice a len cap) (.slice (a.map (·.add f)) (t - f) (cap - f)) f t (t - f) ((xs.take t).drop f) L W' x0 x1 x2 x3 x4 x5 x6 x7) ?_ ?_ ?_ _ _ _ _ (by decide) (by decide) ⟨_, _, _, _, _, _, _, _, rfl, pushC_start hB⟩
      · decide +kernel
      · rintro L hL ho a' W' ⟨x0, x1, x2, x3, x4, x5, x6, x7, rfl, hC⟩
        obtain ⟨v7, hv7, vs', r1, r2, r3, r4, r5⟩ := hC.2.2.2.2.2.2.2.2.2 ho
        clear hC
        have hfin' : Hid (ps ++ [(xs.take t).drop f] = spl n xs) := by
          rw [Hid, ← hfin]; unfold finP; rw [if_pos (by simpa using hft)]; rfl
        have kc7 := hv7.cell
        have hK' := r3.same D _ hK rfl
        clear hc1 hc2 hc3 hc4 hc5 hK
        gi_wp2
        refine ⟨by simp, .inl ⟨_, _, rfl, run_takeDeferred hK', ?_⟩⟩
        have hlen : ps.length + 1 = (ps ++ [(xs.take t).drop f]).length := by simp
        rw [hlen] at r1
        have q1 := ownsRow_putObj r1 (.deferred none) hK' rfl
        have q2 := r2.turns (bs := fun k => k = D) (W' := W'.putObj D (.deferred none)) ⟨(grownBy_putObj' W' D _).size, fun k hk hb => (grownBy_putObj' W' D _).block k hk (fun e => hb (by cases e; rfl))⟩ (fun _ _ => Nat.zero_le _) (fun k C fz hk hc => by subst hk; rw [hc] at hK'; cases hK')
        obtain ⟨a', c', rfl, hR⟩ := rows_read q1 q2
        exact ⟨_, results_tmp rfl _ _ _, a', _, c', rfl, by rw [← hfin'.out]; exact hR, r4.trans (belowK_b (w := w) (Nat.le_refl _) W' D _ _ (Nat.le_trans hB2.size hD) hK' rfl rfl)⟩
      · rintro L hL i hi hp a' W' ⟨x0, x1, x2, x3, x4, x5, x6, x7, rfl, hC⟩
        rcases (show i = 0 ∨ i = 1 ∨ i = 2 ∨ i = 3 ∨ i = 4 ∨ i = 5 ∨ i = 6 ∨ i = 7 ∨ i = 8 by omega) with rfl | rfl | rfl | rfl | rfl | rfl | rfl | rfl | rfl
        · have hS := (hC.2.2.2.2.2.1) (by simp [preOf] at hp; exact hp.1.1)
          have hc3 := (hS.boxed hv3).cell
          have hC' := pushC_0 hL hp hC
          refine wpOpIn_step rfl (fun K hK => ?_)
          clear hC
          go_simp
          refine hK _ _ ?_
          exact ⟨_, _, _, _, _, _, _, _, rfl, hC'⟩
        · have hS := (hC.2.2.2.2.2.1) (by simp [preOf] at hp; exact hp.1.1.2)
          have hc3 := (hS.boxed hv1).cell
          have hC' := pushC_1 hL hp hC
          refine wpOpIn_step rfl (fun K hK => ?_)
          clear hC
          go_simp
          refine hK _ _ ?_
          exact ⟨_, _, _, _, _, _, _, _, rfl, hC'⟩
        · have hS := (hC.2.2.2.2.2.1) (by simp [preOf] at hp; exact hp.1.1.2)
          have hc3 := (hS.boxed hv4).cell
          have hC' := pushC_2 hL hp hC
          refine wpOpIn_step rfl (fun K hK => ?_)
          clear hC
          go_simp
          refine hK _ _ ?_
          exact ⟨_, _, _, _, _, _, _, _, rfl, hC'⟩
        · have hS := (hC.2.2.2.2.2.1) (by simp [preOf] at hp; exact hp.1.1.2)
          have hc3 := (hS.boxed hv5).cell
          have hC' := pushC_3 hL hp hC
          refine wpOpIn_step rfl (fun K hK => ?_)
          clear hC
          go_simp
          refine hK _ _ ?_
          exact ⟨_, _, _, _, _, _, _, _, rfl, hC'⟩
        · have hp' := hp
          simp [preOf] at hp'
          obtain rfl := hC.2.1 hp'.1.1.1.1.1.1.1
          obtain rfl := hC.2.2.1 hp'.1.1.1.1.1.1.2
          obtain rfl := hC.2.2.2.1 hp'.1.1.1.1.1.2
          have hC' := pushC_4 hL hp hC
          refine wpOpIn_step rfl (fun K hK => ?_)
          clear hC hp hp'
          have htc : t ≤ cap := by omega
          have hfl : f ≤ t := by omega
          go_simp
          refine hK _ _ ?_
          exact ⟨_, _, _, _, _, _, _, _, rfl, hC'⟩
        · have hp' := hp
          simp [preOf] at hp'
          obtain rfl := hC.2.2.2.2.1 hp'.1.1.1.1
          have hS := hC.2.2.2.2.2.1 hp'.1.1.2
          have hrp := (HR.out.below (hS.2.2)).piece (Nat.le_of_lt hft) htl
          rw [if_neg hfc] at hrp
          have hCl := bytes_Clone _ _ _ _ _ hrp (by omega)
          refine wpOpIn_step rfl (fun K hK => ?_)
          go_simp
          refine ⟨trivial, ?_⟩
          refine (callsIn_wide.2 hCl).mono ?_
          rintro e W5 ⟨a5, c5, rfl, ho5, hb5⟩
          refine hK _ _ ?_
          exact ⟨_, _, _, _, _, _, _, _, rfl, pushC_5 hL hp hC ho5 hb5⟩
        · have hp' := hp
          simp [preOf] at hp'
          obtain ⟨a5, c5, rfl, _⟩ := hC.2.2.2.2.2.2.1 hp'.1.1.1 hp'.2
          have hC' := pushC_6 hL hp hC
          refine wpOpIn_step rfl (fun K hK => ?_)
          clear hC
          go_simp
          refine hK _ _ ?_
          exact ⟨_, _, _, _, _, _, _, _, rfl, hC'⟩
        · obtain ⟨a5, c5, W5, rfl, rfl, rfl, hr7, hn7, hC'⟩ := pushC_7 hL hp hC hrow hpc hB'.size hB2.size
          refine wpOpIn_step rfl (fun K hK => ?_)
          clear hC
          refine opIn_append rfl _ _ 28 rfl W2.heap.size 22 i0 (.slice none 0 0) 24 Try.underlying28 hiT hz0 hz1 hz2 rfl _ ps.length vs rfl hr7 ⟨W5.heap.size, 0, none⟩ 1 (.slice a5 (t - f) c5) rfl (cell_one_new _ _ _) rfl (by unfold maxLen; omega) (by omega) hn7 ?_
          intro g7 c7 w7 ho7 hg7
          refine hK _ _ ?_
          exact ⟨_, _, _, _, _, _, _, _, rfl, hC' g7 c7 w7 ho7 hg7⟩
        · obtain ⟨g7, c7, rfl, hv8, hC'⟩ := pushC_8 hL hp hC hv3 hrow (by omega) (by omega)
          have hc8 := hv8.cell
          have hf8 := hv8.frozen
          refine wpOpIn_step rfl (fun K hK => ?_)
          clear hC
          go_simp
          refine hK _ _ ?_
          exact ⟨_, _, _, _, _, _, _, _, rfl, hC'⟩
    · gi_wp2_with fail
      refine ⟨by simp, .inl ⟨_, _, rfl, run_takeDeferred hK, ?_⟩⟩
      have hfin' : ps = spl n xs := by
        rw [← hfin]; unfold finP; rw [if_neg (by simpa using hp)]
      have q1 := ownsRow_putObj hrow (.deferred none) hK rfl
      have q2 := hpc.turns (bs := fun k => k = D) (W' := W.putObj D (.deferred none)) ⟨(grownBy_putObj' W D _).size, fun k hk hb => (grownBy_putObj' W D _).block k hk (fun e => hb (by cases e; rfl))⟩ (fun _ _ => Nat.zero_le _) (fun k C fz hk hc => by subst hk; rw [hc] at hK; cases hK)
      obtain ⟨a', c', rfl, hR⟩ := rows_read q1 q2
      exact ⟨_, results_tmp rfl _ _ _, a', _, c', rfl, by rw [← hfin']; exact hR, hB.trans (belowK_b (w := w) (Nat.le_refl _) W D _ _ (Nat.le_trans hB2.size hD) hK rfl rfl)⟩
  case stop =>
    rintro D c pre W _ _ h _
    exact h.elim

end Go.Proofs.Ytpdlnbomjknhiaa
