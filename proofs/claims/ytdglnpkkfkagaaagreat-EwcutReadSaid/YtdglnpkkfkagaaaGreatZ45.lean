/-
  Texts of ours laid together: JoinB, C31.
-/
import Derived.Test.YtdglnpkkfkagaaaGreatRows
import Derived.Shelf.Bytes.SlJoin
import Derived.Test.YtdglnpkkfkagaaaGreatZ44

/-! JoinB -/
namespace Go.Proofs.YtdglnpkkfkagaaaGreat
open Go.RowKit
set_option linter.unusedVariables false

def joinRen : Go.Shelf.Ren :=
  ⟨fun | 14 => 33 | 15 => 55 | n => n,
   fun | 0 => 0 | 3 => 3 | 4 => 4 | 5 => 5 | 9 => 9 | 20 => 20 | 22 => 42 | 26 => 37 | n => n,
   fun | n => n⟩
theorem joinLays : SlLaysJ.n14 Tryz.prog joinRen := {
  mixed := by kernel_rfl
  f14 := Tryz.func33.trans (congrArg some (by kernel_rfl))
  f15 := Tryz.func55.trans (congrArg some (by kernel_rfl))
  t0 := Tryz.underlying0
  a0 := Tryz.isAgg0
  z0 := Tryz.sizeOf0
  v0 := Tryz.zeroValue0
  t3 := Tryz.underlying3
  a3 := Tryz.isAgg3
  z3 := Tryz.sizeOf3
  v3 := Tryz.zeroValue3
  t4 := Tryz.underlying4
  a4 := Tryz.isAgg4
  z4 := Tryz.sizeOf4
  v4 := Tryz.zeroValue4
  t9 := Tryz.underlying9
  a9 := Tryz.isAgg9
  z9 := Tryz.sizeOf9
  v9 := Tryz.zeroValue9
  t20 := Tryz.underlying20
  a20 := Tryz.isAgg20
  z20 := Tryz.sizeOf20
  v20 := Tryz.zeroValue20
  t22 := Tryz.underlying42
  a22 := Tryz.isAgg42
  z22 := Tryz.sizeOf42
  v22 := Tryz.zeroValue42
  t26 := Tryz.underlying37
  a26 := Tryz.isAgg37
  z26 := Tryz.sizeOf37
  v26 := Tryz.zeroValue37
  t5 := Tryz.underlying5
  z5 := Tryz.sizeOf5
  i5 := by kernel_rfl
}
theorem nums_of (ys : List Int) (h : ∀ y ∈ ys, (Lit.int .u8 y).wf = true) : Lib.numsL (Lib.bytesOf ys) = ys := by
  unfold Lib.numsL Lib.bytesOf
  rw [List.map_map]
  conv => rhs; rw [← List.map_id ys]
  apply List.map_congr_left
  intro y hy
  obtain ⟨h0, h1⟩ := wf_u8 (h y hy)
  simp
  omega
theorem Reads.holds {w : World} {a : Option Addr} {l c : Nat} {x : List Int} (h : Reads .u8 w a l c x) : Lib.HoldsBytes w (.slice a l c) (Lib.bytesOf x) := by
  have hl : (Lib.bytesOf x).length = l := by rw [Lib.bytesOf_length, h.size]
  refine ⟨a, c, by rw [hl], fun hn => ?_, fun b hb i y hy => ?_⟩
  · rcases Nat.eq_zero_or_pos l with h0 | h0
    · exact List.eq_nil_of_length_eq_zero (by omega)
    · obtain ⟨_, _, ha, _⟩ := h.cell h0
      rw [hn] at ha; cases ha
  · have hi : i < l := by rw [← hl]; exact (List.getElem?_eq_some_iff.1 hy).1
    have hix : i < x.length := by rw [h.size]; exact hi
    obtain ⟨b', off, ha, _, hc⟩ := h.cell (by omega)
    rw [hb] at ha; cases ha
    rw [Addr.add_lit, hc i hi, List.getD_eq_getElem?_getD, List.getElem?_eq_getElem hix, Option.getD_some]
    unfold Lib.bytesOf at hy
    rw [List.getElem?_map, List.getElem?_eq_getElem hix, Option.map_some] at hy
    cases hy
    obtain ⟨h0, h1⟩ := wf_u8 (h.wf _ (List.getElem_mem hix))
    simp
    omega
theorem fresh_reads {B : Nat} {w' : World} {v : Value} {ys : List Int} (h : Lib.FreshBytes B w' v (Lib.bytesOf ys)) (hw : ∀ y ∈ ys, (Lit.int .u8 y).wf = true) : ∃ a c, v = .slice a ys.length c ∧ Reads .u8 w' a ys.length c ys := by
  obtain ⟨g, cap, zs, rfl, _, hlc, hcm, hzl, hzr, hzb, hc, _⟩ := h
  rw [Lib.bytesOf_length] at hlc hzb ⊢
  have hz : zs.take ys.length = ys := by
    have e1 := nums_of (zs.take ys.length) (fun y hy => by
      have := hzr y (List.mem_of_mem_take hy)
      exact mk_u8 this.1 (by omega))
    rw [hzb, nums_of ys hw] at e1
    exact e1.symm
  refine ⟨_, _, rfl, rfl, hlc, hcm, hw, fun hl => ⟨g, 0, rfl, ?_, fun i hi => ?_⟩⟩
  · have := hc 0 (by omega)
    exact World.block_lt_of_cell? _ _ this
  · rw [Nat.zero_add, hc i (by omega)]
    have h1 : i < zs.length := by omega
    have h2 : zs[i]? = ys[i]? := by rw [← hz, List.getElem?_take, if_pos hi]
    rw [List.getD_eq_getElem?_getD, List.getD_eq_getElem?_getD, h2]
theorem jn_bytes (L : List (List Int)) : Lib.join (L.map Lib.bytesOf) (Lib.bytesOf [13, 10, 32]) = Lib.bytesOf (jnF L) := by
  cases L with
  | nil => rfl
  | cons x r =>
    rw [List.map_cons, Lib.join_cons]
    unfold jnF Lib.joinTail
    have happ : ∀ a b : List Int, Lib.bytesOf (a ++ b) = Lib.bytesOf a ++ Lib.bytesOf b := fun a b => by simp [Lib.bytesOf]
    rw [happ]
    congr 1
    induction r with
    | nil => rfl
    | cons y r ih => rw [List.map_cons, List.map_cons, List.flatten_cons, List.flatMap_cons, ih, happ, happ]
theorem bytes_Join (a : Option Addr) (n c : Nat) (L : List (List Int)) (w : World) (hr : RwsG (shRow .u8) w a n c L) (a2 : Option Addr) (c2 : Nat) (hs : Reads .u8 w a2 3 c2 [13, 10, 32]) (hN : n < 1000000) (hL : ∀ x ∈ L, x.length < 1000000) :
    Calls Tryz.prog 33 #[.slice a n c, .slice a2 3 c2] w fun e w' => ∃ a' l' c', e = .returned (.slice a' l' c') ∧ Reads .u8 w' a' l' c' (jnF L) ∧ Below w.heap.size w w' := by
  have hrm := hr.room
  have hsz := hr.size
  have hwf : ∀ x ∈ L, ∀ y ∈ x, (Lit.int .u8 y).wf = true := by
    intro x hx
    obtain ⟨i, hi, hxe⟩ := List.getElem_of_mem hx
    obtain ⟨b, off, x', ai, li, ci, _, _, _, h4, h5, _⟩ := hr.get1 (i := i) (by omega)
    rw [List.getElem?_eq_getElem hi, hxe] at h5
    cases h5
    exact h4.wf
  have hjw : ∀ y ∈ jnF L, (Lit.int .u8 y).wf = true := by
    intro y hy
    cases L with
    | nil => cases hy
    | cons x r =>
      unfold jnF at hy
      rcases List.mem_append.1 hy with h | h
      · exact hwf x (List.mem_cons_self ..) y h
      · obtain ⟨z, hz, hy⟩ := List.mem_flatMap.1 h
        rcases List.mem_append.1 hy with h | h
        · exact (show ∀ y ∈ ([13, 10, 32] : List Int), (Lit.int .u8 y).wf = true by decide) y h
        · exact hwf z (List.mem_cons_of_mem _ hz) y h
  by_cases h0 : n = 0
  · subst h0
    obtain rfl : L = [] := List.eq_nil_of_length_eq_zero hsz
    refine (Any.bytes_Join_none joinLays a c _ w).mono ?_
    rintro e w' ⟨rfl, rfl⟩
    exact ⟨_, _, _, rfl, Reads.nil _ _ _ _ (Nat.zero_le _), (Below.refl _ _).alloc (Nat.le_refl _) _⟩
  · by_cases h1 : n = 1
    · subst h1
      obtain ⟨x, rfl⟩ := List.length_eq_one_iff.1 hsz
      obtain ⟨b, off, x', ai, li, ci, rfl, hb, hc, hx, hg, _⟩ := hr.get1 (i := 0) (by omega)
      obtain rfl : x = x' := Option.some.inj hg
      rw [Nat.add_zero] at hc
      have hj : jnF [x] = x := by simp [jnF]
      rw [hj] at hjw ⊢
      by_cases hx0 : x = []
      · subst hx0
        obtain rfl : 0 = li := hx.size
        refine (Any.bytes_Join_one_empty joinLays b off c ai ci _ w hc).mono ?_
        rintro e w' ⟨rfl, rfl⟩
        exact ⟨_, _, _, rfl, Reads.nil _ _ _ _ (Nat.zero_le _), Below.refl _ _⟩
      · have hpos : 0 < li := by have := List.length_pos_iff.2 hx0; have := hx.size; omega
        obtain ⟨b0, off0, rfl, hb0, hc0⟩ := hx.cell hpos
        obtain ⟨p, c', hv, _, hp⟩ := hx.holds
        cases hv
        have hl := hx.size
        have hxl := hL x (List.mem_singleton.2 rfl)
        refine (Any.bytes_Join_one joinLays b off c ⟨b0, off0, none⟩ ci (Lib.bytesOf x) _ w hc (hp _ rfl) hpos (by omega)).mono ?_
        rintro e w' ⟨v', rfl, hf, hbb⟩
        obtain ⟨a', c', rfl, hrd⟩ := fresh_reads hf hjw
        exact ⟨_, _, _, rfl, hrd, hbb⟩
    · obtain ⟨b, off, rfl, hb, hc⟩ := hr.cell (by omega)
      obtain ⟨vs, hvl, hvs⟩ : ∃ vs : List Value, vs.length = L.length ∧ ∀ (i : Nat) (x : List Int), L[i]? = some x → ∃ ai li ci, vs[i]? = some (.slice ai li ci) ∧ w.cell? ⟨b, off + i, none⟩ = some (.slice ai li ci) ∧ Reads .u8 w ai li ci x := by
        refine ⟨(List.range L.length).map fun i => (w.cell? ⟨b, off + i, none⟩).getD undef, by simp, fun i x hx => ?_⟩
        obtain ⟨ai, li, ci, q1, q2⟩ := hc i x hx
        have q3 := q1 0 _ rfl
        rw [show off + ((shRow .u8).sz * i + 0) = off + i by show off + (1 * i + 0) = off + i; omega] at q3
        have hi := (List.getElem?_eq_some_iff.1 hx).1
        refine ⟨ai, li, ci, ?_, q3, q2⟩
        rw [List.getElem?_map, List.getElem?_range hi, Option.map_some, q3]
        rfl
      have hP : Lib.PartsAt w ⟨b, off, none⟩ vs (L.map Lib.bytesOf) := by
        refine ⟨by rw [hvl, List.length_map], fun i v hv => ?_, fun i v l hv hl => ?_⟩
        · have hi : i < L.length := by rw [← hvl]; exact (List.getElem?_eq_some_iff.1 hv).1
          obtain ⟨ai, li, ci, q1, q2, _⟩ := hvs i _ (List.getElem?_eq_getElem hi)
          rw [q1] at hv; cases hv
          rw [Addr.add_lit]; exact q2
        · have hi : i < L.length := by rw [← hvl]; exact (List.getElem?_eq_some_iff.1 hv).1
          obtain ⟨ai, li, ci, q1, _, q3⟩ := hvs i _ (List.getElem?_eq_getElem hi)
          rw [q1] at hv; cases hv
          rw [List.getElem?_map, List.getElem?_eq_getElem hi, Option.map_some] at hl
          cases hl
          exact q3.holds
      have hlens : ∀ M : List (List Int), (∀ x ∈ M, x.length < 1000000) → Lib.lens (M.map Lib.bytesOf) ≤ M.length * 1000000 := by
        intro M
        induction M with
        | nil => intro _; simp [Lib.lens]
        | cons x M ih =>
          intro h
          have h1 := h x (List.mem_cons_self ..)
          have h2 := ih (fun y hy => h y (List.mem_cons_of_mem _ hy))
          rw [List.map_cons, Lib.lens_cons, Lib.bytesOf_length, List.length_cons]
          omega
      have hll := hlens L hL
      have hls : (Lib.bytesOf [13, 10, 32]).length = 3 := rfl
      have hll2 : L.length * 1000000 ≤ 1000000 * 1000000 := Nat.mul_le_mul_right _ (by omega)
      refine (Any.bytes_Join_many joinLays b off n c vs (L.map Lib.bytesOf) (.slice a2 3 c2) (Lib.bytesOf [13, 10, 32]) w (by rw [List.length_map, hsz]) (by omega) hP hrm hs.holds (by omega) (by rw [hls]; omega)).mono ?_
      rintro e w' ⟨v', rfl, hf, hbb⟩
      rw [jn_bytes] at hf
      obtain ⟨a', c', rfl, hrd⟩ := fresh_reads hf hjw
      exact ⟨_, _, _, rfl, hrd, hbb⟩
end Go.Proofs.YtdglnpkkfkagaaaGreat

/-! C31 -/
namespace Go.Proofs.YtdglnpkkfkagaaaGreat
open Go.RowKit
set_option linter.unusedVariables false

theorem sel_wf (t : List Int) : (Lit.int .i64 (selN t)).wf = true := by
  by_cases h : selN t = 0
  · rw [h]; decide
  · obtain ⟨⟨h1, h2⟩, _⟩ := sel_all h
    exact WalkArith.wf_i64 (by omega)
theorem hw_wf (t : List Int) : (Lit.int .i64 (hwC t)).wf = true := by
  unfold hwC ewcB
  (repeat' split) <;> decide
set_option maxHeartbeats 1000000 in
theorem ewcut_How (a : Option Addr) (len cap : Nat) (xs : List Int) (w : World) (hr : Reads .i32 w a len cap xs) (hN : len < 100000) :
    Calls Tryz.prog 9 #[.slice a len cap] w fun e w' => e = .returned (.tuple #[.int .i64 (selN xs), .int .i64 (hwC xs), .int .i64 (selE xs)]) ∧ Below w.heap.size w w' := by
  have H1 := reper_Select a len cap xs w hr
  have H2 := hid (fun W (hW : Below w.heap.size w W) => ewcost_Better (selN xs) a len cap xs W (hr.below hW) hN (sel_wf xs))
  unfold hwC
  clear hr
  by_cases hE : selE xs = 0
  · rw [if_pos hE]
    rw [hE] at H1 ⊢
    have HE := hid H1
    generalize selN xs = N at *
    generalize ewcB N xs = B at *
    generalize ewcE N 1 xs = E1 at *
    clear H1 hE
    go_enter Tryz.func9, Tryz.ntmps9
    go_wp2_with (first
      | (go_at_call 26; (with_reducible refine HE.out.mono ?_); rintro e w1 ⟨rfl, hb1⟩)
      | (go_at_call 27; (with_reducible refine (H2.out _ hb1).mono ?_); rintro e w2 ⟨rfl, hb2⟩))
    go_ret3
    exact ⟨rfl, below_then hb1 hb2⟩
  · rw [if_neg hE]
    have hn : selN xs = 0 := by
      unfold selE at hE
      by_cases h : selN xs = 0
      · exact h
      · rw [if_neg h] at hE; exact absurd rfl hE
    rw [hn] at H1 ⊢
    have hE' : (selE xs != 0) = true := by simpa using hE
    have HE := hid H1
    generalize selE xs = E at *
    clear H1 H2 hE hn
    go_enter Tryz.func9, Tryz.ntmps9
    go_wp2_with (go_at_call 26; (with_reducible refine HE.out.mono ?_); rintro e w1 ⟨rfl, hb1⟩)
    go_ret3
    exact ⟨rfl, hb1⟩
set_option maxHeartbeats 1000000 in
theorem ewcut_word (n k : Int) (a : Option Addr) (len cap : Nat) (xs : List Int) (w : World) (hr : Reads .i32 w a len cap xs) (hN : len < 1000000) (hL : (layL n xs).length < 100000) (hn : (Lit.int .i64 n).wf = true) (hk : (Lit.int .i64 k).wf = true) :
    Calls Tryz.prog 30 #[.int .i64 n, .int .i64 k, .slice a len cap] w fun e w' => ∃ a' l' c', e = .returned (.slice a' l' c') ∧ Reads .u8 w' a' l' c' (ewL n k (layL n xs)) ∧ Below w.heap.size w w' := by
  have H1 := hid (codec_Lay n a len cap xs w hr (by omega))
  have H2 := hid (fun a' l' c' W (h : Reads .u8 W a' l' c' (layL n xs)) => ewform_Lay n k a' l' c' (layL n xs) W h (by have := h.size; omega) hn hk)
  clear hr
  generalize layE n xs = E at *
  generalize layL n xs = L at *
  generalize ewLE n k L = E2 at *
  generalize ewL n k L = L2 at *
  go_enter Tryz.func30, Tryz.ntmps30
  go_wp2_with (first
    | (go_at_call 51; (with_reducible refine H1.out.mono ?_); rintro e w1 ⟨a1, l1, c1, rfl, r1, hb1⟩)
    | (go_at_call 52; (with_reducible refine (H2.out _ _ _ _ r1).mono ?_); rintro e w2 ⟨a2, l2, c2, rfl, r2, hb2⟩))
  go_ret
  exact ⟨_, _, _, rfl, r2, below_then hb1 hb2⟩
theorem infB31c : (Tryz.prog.info? 42).map (fun i => (i.zero, i.size, i.bytes)) = some (some (.slice none 0 0), 1, 24) := by kernel_rfl
theorem ct_len {n k : Int} {t : List Int} {r : Int} : ∀ p ∈ ctL n k t r, p.length ≤ t.length := by
  intro p hp
  by_cases h : cutE n k t r = 0
  · have h1 := (cutP_all n k _ t r _ (Nat.le_refl _) (cut_ok h).2).1
    conv => rhs; rw [← h1]
    exact (List.sublist_flatten_of_mem hp).length_le
  · rw [ct_no h] at hp; cases hp
set_option maxRecDepth 100000 in
set_option maxHeartbeats 2000000 in
theorem ewcut_Words (a : Option Addr) (len cap : Nat) (xs : List Int) (first : Int) (w : World) (hr : Reads .i32 w a len cap xs) (hN : len < 100000) (hf : (Lit.int .i64 first).wf = true) :
    Calls Tryz.prog 12 #[.slice a len cap, .int .i64 first] w fun e w' => ∃ a' m c', e = .returned (.tuple #[.slice a' m c', .int .i64 (wrdE xs first)]) ∧ RwsG (shRow .u8) w' a' m c' (wrdL xs first) ∧ Below w.heap.size w w' := by
  have hsz := hr.size
  have H1 := ewcut_How a len cap xs w hr hN
  have H2 := hid (fun W (hW : Below w.heap.size w W) => ewcut_Cut (selN xs) (hwC xs) a len cap xs first W (hr.below hW) hN (sel_wf xs) (hw_wf xs) hf)
  have hcl := cutL_len (selN xs) (hwC xs) xs first
  have hcm := hid (fun x (hx : x ∈ ctL (selN xs) (hwC xs) xs first) => ct_len x hx)
  have hcs := hid (fun x (hx : x ∈ ctL (selN xs) (hwC xs) xs first) => ct_short x hx)
  have hsw := hid (sel_wf xs)
  have hhw := hid (hw_wf xs)
  unfold wrdL wrdE
  clear hr
  by_cases hE : selE xs = 0
  · rw [if_pos hE]
    rw [hE] at H1
    have HE := hid H1
    rw [hsz] at hcl hcm
    generalize selN xs = N at *
    generalize hwC xs = C at *
    clear H1 hE
    by_cases hC : cutE N C xs first = 0
    · rw [if_pos hC, hC]
      rw [hC] at H2
      generalize ctL N C xs first = L at *
      clear hC hsz
      have HW := hid (fun a' l' c' x W (h : Reads .i32 W a' l' c' x) (hl : l' < 1000000) (hx : (layL N x).length < 100000) => ewcut_word N C a' l' c' x W h hl hx hsw.out hhw.out)
      go_enter Tryz.func12, Tryz.ntmps12
      go_wp2_with (first
        | (go_at_call 9; (with_reducible refine HE.out.mono ?_); rintro e w1 ⟨rfl, hb1⟩)
        | (go_at_call 7; (with_reducible refine (H2.out _ hb1).mono ?_); rintro e w2 ⟨a2, m2, c2, rfl, hR2, hb2⟩; obtain rfl : L.length = m2 := hR2.size)
        | (at_make; refine wpList_zerosG .u8 rfl _ _ rfl Tryz.underlying37 infB31c (by decide) (w0 := w2) rfl rfl (Below.refl _ _) (by omega) ?_; intro g w3 ho3 hb3))
      have HR2 := hid hR2
      have t2 := below_then hb1 hb2
      have T2 := hid t2
      have HO3 := hid ho3
      clear hR2 ho3
      go_loopw [38] (fun iv wr => ∃ j : Nat, j ≤ L.length ∧ iv = .int .i64 j ∧ Hid (OwnG (shRow .u8) 42 w2.heap.size wr (.slice (some ⟨g, 0, none⟩) L.length L.length) ((L.take j).map (fun p => ewL N C (layL N p)) ++ List.replicate (L.length - j) [])) ∧ Below w2.heap.size w2 wr) (fun iv _ => L.length - (intOf iv).toNat)
      case atStart => exact ⟨0, Nat.zero_le _, rfl, by rw [Hid, List.take_zero]; exact HO3.out, hb3⟩
      case round =>
        obtain ⟨j, hj, rfl, hO, hbel⟩ := hrel
        by_cases hlt : j < L.length
        · obtain ⟨b, off, x, ai, li, ci, rfl, hbw, hcx, hrx, hg, ht⟩ := (HR2.out.below hbel).get1 hlt
          have hxs := hrx.size
          have hxl := hcm.out x (List.mem_of_getElem? hg)
          have hxy := hcs.out x (List.mem_of_getElem? hg)
          have HX := hid (HW.out ai li ci x wr hrx (by omega) (by omega))
          have hfr := fill_rows (fun p => ewL N C (layL N p)) L hg ht
          generalize ((L.take j).map (fun p => ewL N C (layL N p)) ++ List.replicate (L.length - j) []) = O at *
          have HF := hid hfr
          have q1 : (j : Int) < (L.length : Int) := by omega
          clear hrx hg ht hfr hxs hxl hxy
          generalize ewL N C (layL N x) = Y at *
          go_wp2_with (go_at_call 30; (with_reducible refine HX.out.mono ?_); rintro e w4 ⟨a4, l4, c4, rfl, r4, hb4⟩; have O4 := hO.out.below hb4; (obtain ⟨⟨a5, l5, c5, k5⟩, k6⟩ := O4.at1 hlt); have t4 := below_then hbel hb4; have O5 := hid (O4.store1 j hlt r4 (O4.full_off r4)); have hgl := (O4.lt g rfl).1; have hb5 := hid (t4.setCell (p := ⟨g, j, none⟩) hgl (.slice a4 l4 c4)); clear O4 hgl r4)
          rw [HF.out] at O5
          go_roundw
          case rel => exact ⟨j + 1, by omega, by go_num, O5, hb5.out⟩
          case measure => simp [intOf]; omega
        · obtain rfl : j = L.length := by omega
          have hO' := hO.out
          rw [List.take_length, Nat.sub_self, List.replicate_zero, List.append_nil] at hO'
          clear hO
          go_wp2_with fail
          go_ret2
          obtain ⟨a6, c6, hv6, h6⟩ := hO'.rows
          have hlm : (L.map fun p => ewL N C (layL N p)).length = L.length := List.length_map ..
          rw [hlm] at hv6 h6
          cases hv6
          exact ⟨_, _, _, rfl, h6, T2.out.trans (hbel.mono T2.out.size)⟩
    · rw [if_neg hC]
      have hC' : (cutE N C xs first != 0) = true := by simpa using hC
      generalize cutE N C xs first = E2 at *
      generalize ctL N C xs first = L at *
      clear hC hcm hcl hcs
      go_enter Tryz.func12, Tryz.ntmps12
      go_wp2_with (first
        | (go_at_call 9; (with_reducible refine HE.out.mono ?_); rintro e w1 ⟨rfl, hb1⟩)
        | (go_at_call 7; (with_reducible refine (H2.out _ hb1).mono ?_); rintro e w2 ⟨a2, m2, c2, rfl, hR2, hb2⟩))
      go_ret2
      exact ⟨none, 0, 0, rfl, RwsG.nil _ _, below_then hb1 hb2⟩
  · rw [if_neg hE, if_neg hE]
    have hE' : (selE xs != 0) = true := by simpa using hE
    have HE := hid H1
    generalize selE xs = E at *
    generalize selN xs = N at *
    generalize hwC xs = C at *
    clear H1 H2 hE hcl hcm hcs
    go_enter Tryz.func12, Tryz.ntmps12
    go_wp2_with (go_at_call 9; (with_reducible refine HE.out.mono ?_); rintro e w1 ⟨rfl, hb1⟩)
    go_ret2
    exact ⟨none, 0, 0, rfl, RwsG.nil _ _, hb1⟩
theorem wrd_short {t : List Int} {r : Int} : ∀ x ∈ wrdL t r, x.length ≤ 75 := by
  intro x hx
  by_cases h : wrdE t r = 0
  · exact ((wrd_all h).1 x hx).2.2.2
  · rw [wrd_no h] at hx; cases hx
set_option maxRecDepth 100000 in
set_option maxHeartbeats 1000000 in
theorem ewcut_Fold (a : Option Addr) (len cap : Nat) (xs : List Int) (first : Int) (w : World) (hr : Reads .i32 w a len cap xs) (hN : len < 100000) (hf : (Lit.int .i64 first).wf = true) :
    Calls Tryz.prog 14 #[.slice a len cap, .int .i64 first] w fun e w' => ∃ a' l' c', e = .returned (.tuple #[.slice a' l' c', .int .i64 (wrdE xs first)]) ∧ Reads .u8 w' a' l' c' (jnF (wrdL xs first)) ∧ Below w.heap.size w w' := by
  have hsz := hr.size
  have H1 := hid (ewcut_Words a len cap xs first w hr hN hf)
  have hcl := wrdL_len xs first
  have hcm := hid (wrd_short (t := xs) (r := first))
  rw [hsz] at hcl
  have hz : wrdE xs first ≠ 0 → jnF (wrdL xs first) = [] := fun h => by rw [wrd_no h]; rfl
  clear hr hsz
  generalize wrdE xs first = E at *
  generalize wrdL xs first = L at *
  by_cases hE : E = 0
  · subst hE
    have HJ := hid (fun a' c' W (h : RwsG (shRow .u8) W a' L.length c' L) a2 c2 (hs : Reads .u8 W a2 3 c2 [13, 10, 32]) => bytes_Join a' L.length c' L W h a2 c2 hs (by omega) (fun x hx => by have := hcm.out x hx; omega))
    go_enter Tryz.func14, Tryz.ntmps14
    go_wp2_with (first
      | (go_at_call 12; (with_reducible refine H1.out.mono ?_); rintro e w1 ⟨a1, m1, c1, rfl, hR1, hb1⟩; obtain rfl : L.length = m1 := hR1.size; have kc := convB (P := Tryz.prog) (t := 42) (e := 5) Tryz.underlying42 Tryz.underlying5 w1 w1.heap.size rfl; have r3 : Reads .u8 (w1.alloc (.cells #[.int .u8 13, .int .u8 10, .int .u8 32] 5 (3, 4))) (some ⟨w1.heap.size, 0, none⟩) 3 3 [13, 10, 32] := Reads_litB .u8 5 (3, 4) w1 _ rfl [13, 10, 32] (by decide) (by decide); have q3 : RwsG (shRow .u8) (w1.alloc (.cells #[.int .u8 13, .int .u8 10, .int .u8 32] 5 (3, 4))) a1 L.length c1 L := hR1.below ((Below.refl _ w1).alloc (Nat.le_refl _) _); have h3 : Below w.heap.size w (w1.alloc (.cells #[.int .u8 13, .int .u8 10, .int .u8 32] 5 (3, 4))) := hb1.alloc hb1.size _)
      | (go_at_call 33; (with_reducible refine (HJ.out _ _ _ q3 _ _ r3).mono ?_); rintro e w2 ⟨a2, l2, c2, rfl, r2, hb2⟩))
    go_ret2
    exact ⟨_, _, _, rfl, r2, below_then h3 hb2⟩
  · have hE' : (E != 0) = true := by simpa using hE
    rw [hz hE]
    clear hz hE
    go_enter Tryz.func14, Tryz.ntmps14
    go_wp2_with (go_at_call 12; (with_reducible refine H1.out.mono ?_); rintro e w1 ⟨a1, m1, c1, rfl, hR1, hb1⟩)
    go_ret2
    exact ⟨none, 0, 0, rfl, Reads.nil _ _ _ _ (Nat.zero_le _), hb1⟩
set_option maxHeartbeats 1000000 in
theorem ewcut_Count (a : Option Addr) (len cap : Nat) (xs : List Int) (first : Int) (w : World) (hr : Reads .i32 w a len cap xs) (hN : len < 100000) (hf : (Lit.int .i64 first).wf = true) :
    Calls Tryz.prog 17 #[.slice a len cap, .int .i64 first] w fun e w' => e = .returned (.int .i64 (wrdL xs first).length) ∧ Below w.heap.size w w' := by
  have H1 := hid (ewcut_Words a len cap xs first w hr hN hf)
  clear hr
  generalize wrdE xs first = E at *
  generalize wrdL xs first = L at *
  go_enter Tryz.func17, Tryz.ntmps17
  go_wp2_with (go_at_call 12; (with_reducible refine H1.out.mono ?_); rintro e w1 ⟨a1, m1, c1, rfl, hR1, hb1⟩; obtain rfl : L.length = m1 := hR1.size)
  go_ret
  exact ⟨rfl, hb1⟩
end Go.Proofs.YtdglnpkkfkagaaaGreat
