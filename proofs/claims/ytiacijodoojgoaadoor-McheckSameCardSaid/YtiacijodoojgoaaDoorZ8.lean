/-
  Texts of ours laid together: Rep, D15.
-/
import Derived.Laws.CopyOwn
import Derived.Shelf.Bytes.SlCountOne
import Derived.Test.YtiacijodoojgoaaDoorZ7

/-! Rep -/
namespace Go.Proofs.YtiacijodoojgoaaDoor
open Go.RowKit
set_option linter.unusedVariables false

def replI (p q x : Int) : Int := if x = p then q else x
def replL (p q : Int) (xs : List Int) : List Int := xs.map (replI p q)
/-- How many are c. -/
def cntO (c : Int) (xs : List Int) : Nat := xs.count c

theorem lib_cnt (c : Int) (h0 : 0 ≤ c) (h1 : c ≤ 255) : ∀ xs : List Int, (∀ x ∈ xs, (Lit.int .u8 x).wf = true) → Lib.countByte (Lib.bytesOf xs) c.toNat.toUInt8 = cntO c xs
  | [], _ => rfl
  | x :: t, h => by
    have hx := wf_u8 (h x (List.mem_cons_self ..))
    have ih := lib_cnt c h0 h1 t (fun y hy => h y (List.mem_cons_of_mem _ hy))
    have he : (x.toNat.toUInt8 == c.toNat.toUInt8) = (x == c) := by
      rw [u8_eq _ _ h0 h1]
      have : (x.toNat.toUInt8.toNat : Int) = x := by simp; omega
      rw [this]
    unfold cntO Lib.countByte at ih ⊢
    show List.count _ (x.toNat.toUInt8 :: Lib.bytesOf t) = _
    rw [List.count_cons, List.count_cons, ih, he]
theorem cnt_zero {p : Int} (q : Int) {xs : List Int} (h : cntO p xs = 0) : replL p q xs = xs := by
  unfold cntO at h
  have hn := List.count_eq_zero.1 h
  unfold replL
  conv => rhs; rw [← List.map_id xs]
  refine List.map_congr_left fun x hx => ?_
  have : x ≠ p := fun e => hn (e ▸ hx)
  simp [replI, this]
theorem cnt_step (p q : Int) : ∀ xs : List Int, 0 < cntO p xs → ∃ k : Nat, idxO p xs = k ∧ k < xs.length ∧ cntO p (xs.drop (k + 1)) + 1 = cntO p xs ∧ replL p q (xs.take (k + 1)) = xs.take k ++ [q]
  | [], h => by simp [cntO] at h
  | x :: t, h => by
    unfold idxO
    rw [idx_cons]
    by_cases hx : x = p
    · subst hx
      refine ⟨0, by simp, by simp, by simp [cntO], by simp [replL, replI]⟩
    · have h' : 0 < cntO p t := by unfold cntO at h ⊢; rwa [List.count_cons_of_ne (by simpa using hx)] at h
      obtain ⟨k, e, hk, hc, hr⟩ := cnt_step p q t h'
      unfold idxO at e
      have hne : ¬ ((k : Int) = -1) := by omega
      refine ⟨k + 1, by rw [e]; simp [hx, hne], by simpa using hk, ?_, ?_⟩
      · have e2 : cntO p (x :: t) = cntO p t := by unfold cntO; rw [List.count_cons_of_ne (by simpa using hx)]
        rw [e2]; simpa using hc
      · rw [List.take_succ_cons, List.take_succ_cons]
        unfold replL at hr ⊢
        rw [List.map_cons, hr]
        simp [replI, hx]

theorem Own.ofHeap {k : IntKind} {e : TypeId} {base : Nat} {w : World} {g : Nat} {xs : List Int} (hg : w.heap[g]? = some (.cells (xs.map (Value.int k)).toArray e (0, 0))) (hb : base ≤ g) (hm : xs.length ≤ maxLen) (hwf : ∀ x ∈ xs, (Lit.int k x).wf = true) :
    Own k e base w (.slice (some ⟨g, 0, none⟩) xs.length xs.length) xs := by
  refine ⟨⟨by simp, .inr ⟨g, xs.length, (xs.map (Value.int k)).toArray, rfl, hb, hg, Nat.le_refl _, hm, by simp, ?_⟩⟩, hwf⟩
  rw [List.toList_toArray, Nat.mul_one]
  exact List.take_of_length_le (by simp)

theorem splice_next {α : Type} (A Z Y : List α) (n : Nat) (h : A.length = n) : splice (A ++ Z) n Y = (A ++ Y) ++ Z.drop Y.length := by
  subst h
  unfold splice
  rw [List.take_left, List.drop_append, List.drop_of_length_le (by omega), show A.length + Y.length - A.length = Y.length by omega]
  simp
/-- One more is turned: what was copied of the rest, and the new octet behind it. -/
theorem rep_row {p q : Int} {xs : List Int} {st k len : Nat} (hsz : xs.length = len) (h : st + k < len) (hrep : replL p q ((xs.drop st).take (k + 1)) = (xs.drop st).take k ++ [q]) :
    splice (splice ((replL p q (xs.take st) ++ List.replicate (len - st) 0).map (Value.int .u8)) st (((xs.drop st).take k).map (Value.int .u8))) (st + k) [.int .u8 q] = (replL p q (xs.take (st + k + 1)) ++ List.replicate (len - (st + k + 1)) 0).map (Value.int .u8) := by
  have e : xs.take (st + k + 1) = xs.take st ++ (xs.drop st).take (k + 1) := by rw [show st + k + 1 = st + (k + 1) by omega, List.take_add]
  have e2 : replL p q (xs.take (st + k + 1)) = replL p q (xs.take st) ++ ((xs.drop st).take k ++ [q]) := by rw [e, ← hrep]; unfold replL; rw [List.map_append]
  rw [e2, List.map_append, splice_next _ _ _ _ (by simp [replL]; omega), splice_next _ _ _ _ (by simp [replL]; omega)]
  simp
  rw [show len - st - min k (xs.length - st) - 1 = len - (st + k + 1) by omega]
/-- None is left: the rest is copied. -/
theorem rep_end {p q : Int} {xs : List Int} {st len : Nat} (hsz : xs.length = len) (h : st ≤ len) (hc : cntO p (xs.drop st) = 0) :
    splice ((replL p q (xs.take st) ++ List.replicate (len - st) 0).map (Value.int .u8)) st ((xs.drop st).map (Value.int .u8)) = (replL p q xs).map (Value.int .u8) := by
  have e : replL p q xs = replL p q (xs.take st) ++ xs.drop st := by
    conv => rhs; rw [← cnt_zero q hc]
    unfold replL
    rw [← List.map_append, List.take_append_drop]
  have e3 : ((List.replicate (len - st) (0 : Int)).map (Value.int .u8)).drop (((xs.drop st).map (Value.int .u8)).length) = [] := by
    apply List.drop_eq_nil_of_le
    simp
    omega
  rw [e, List.map_append, splice_next _ _ _ _ (by simp [replL]; omega), e3, List.map_append]
  simp

theorem cn8 {a : Option Addr} {len cap : Nat} {xs : List Int} {w : World} (hr : Reads .u8 w a len cap xs) (c : Int) (h0 : 0 ≤ c) (h1 : c ≤ 255) {K : Nat} (hK : cntO c xs = K) :
    (callFunc 95 #[.slice a len cap, .int .u8 c]).run Tryd.prog w = .ok (.value (.int .i64 (K : Int))) w := by
  rw [run_callFunc_extern (fn := Tryd.f95) (e := Extern.BytealgCount.count) (by kernel_rfl) (by kernel_rfl) (by kernel_rfl) (by kernel_rfl) (by kernel_rfl)]
  by_cases hl : 0 < len
  · obtain ⟨b, off, rfl, _, hc⟩ := hr.cell hl
    rw [Lib.run_countSlice w b off len cap xs hr.size hc c, lib_cnt c h0 h1 xs hr.wf, hK]
    rfl
  · obtain rfl : len = 0 := by omega
    obtain rfl : xs = [] := List.eq_nil_of_length_eq_zero hr.size
    obtain rfl : K = 0 := by rw [← hK]; rfl
    have hn := Lib.run_countNil (P := Tryd.prog) w 0 cap c
    cases a with
    | none => rw [hn]; rfl
    | some p =>
      have he : (Extern.BytealgCount.count #[.slice (some p) 0 cap, .int .u8 c]).run Tryd.prog w = (Extern.BytealgCount.count #[.slice none 0 cap, .int .u8 c]).run Tryd.prog w := rfl
      rw [he, hn]; rfl
set_option maxRecDepth 100000 in
theorem bytes_Count1 {a a2 : Option Addr} {len cap cap2 : Nat} {xs : List Int} {c : Int} {w : World} (hr : Reads .u8 w a len cap xs) (hr2 : Reads .u8 w a2 1 cap2 [c]) {K : Nat} (hK : cntO c xs = K) :
    Calls Tryd.prog 88 #[.slice a len cap, .slice a2 1 cap2] w fun e w' => e = .returned (.int .i64 (K : Int)) ∧ w = w' := by
  obtain ⟨b2, off2, y, rfl, _, hc2, h0, h1, hy⟩ := hr2.get8 (i := 0) (by omega)
  obtain rfl : c = y := by simpa using hy.out.1
  rw [Nat.add_zero] at hc2
  have HC := cn8 hr c h0 h1 hK
  clear hr hr2 hy hK
  go_enter Tryd.func88, Tryd.ntmps88
  go_wp2
  go_ret
  exact ⟨rfl, rfl⟩
set_option maxHeartbeats 4000000 in
set_option maxRecDepth 100000 in
/-- All that are p as q. -/
theorem bytes_Replace1 (a : Option Addr) (len cap : Nat) (xs : List Int) (a1 a2 : Option Addr) (c1 c2 : Nat) (p q : Int) (w : World) (hr : Reads .u8 w a len cap xs) (hr1 : Reads .u8 w a1 1 c1 [p]) (hr2 : Reads .u8 w a2 1 c2 [q]) (hN : len < 100000000) :
    Calls Tryd.prog 77 #[.slice a len cap, .slice a1 1 c1, .slice a2 1 c2, .int .i64 (-1)] w fun e w' => ∃ v, e = .returned v ∧ Own .u8 5 w.heap.size w' v (replL p q xs) ∧ Below w.heap.size w w' := by
  have HR := hid hr
  have HR1 := hid hr1
  have HR2 := hid hr2
  have hsz := hr.size
  have hrm := hr.room
  obtain ⟨K, hK⟩ : ∃ K, cntO p xs = K := ⟨_, rfl⟩
  clear hr hr1 hr2
  by_cases hz : K = 0
  · subst hz
    have hx := cnt_zero q hK
    rw [hx]
    have HK := hid hK
    clear hK hx
    go_enter Tryd.func77, Tryd.ntmps77
    go_wp2_with (first
      | (go_at_call 88; (with_reducible refine (bytes_Count1 HR.out HR1.out HK.out).mono ?_); rintro e w1 ⟨rfl, rfl⟩)
      | (at_builtin; go_must (refine wpList_more CT8 rfl _ _ rfl rfl rfl (Own.nil _ _ _ _) (Below.refl _ _) HR.out (by simp; omega) ?_); intro v1 w1 ho1 hb1))
    go_ret
    exact ⟨_, rfl, ho1, hb1⟩
  · have hk0 : ((K : Int) == 0) = false := by simpa using hz
    have hlen : 0 < len := by
      rcases Nat.eq_zero_or_pos len with h | h
      · exfalso
        rw [h] at hsz
        rw [List.eq_nil_of_length_eq_zero hsz] at hK
        exact hz hK.symm
      · exact h
    have HK := hid hK
    have hKl : K ≤ len := by rw [← hK, ← hsz]; exact List.count_le_length
    go_enter Tryd.func77, Tryd.ntmps77
    go_wp2_with (first
      | (go_at_call 88; (with_reducible refine (bytes_Count1 HR.out HR1.out HK.out).mono ?_); rintro e w1 ⟨rfl, rfl⟩)
      | (at_make; (refine wpList_zeros (n := len) CT8 rfl _ _ rfl rfl rfl (Below.refl _ _) (by omega) (by decide) ?_); intro g w1 ho1 hb1))
    have hG1 := hid ((ho1.whole hlen).trans (by rw [show List.replicate len (0 : Int) = replL p q (xs.take 0) ++ List.replicate (len - 0) 0 by simp [replL]]))
    have hg := (ho1.1.lt g rfl).1
    clear ho1
    go_loopw [11, 12, 49] (fun s11 s12 s49 wr => ∃ st i : Nat, s11 = .int .i64 st ∧ s12 = .int .i64 st ∧ s49 = .int .i64 i ∧ i + cntO p (xs.drop st) = K ∧ st ≤ len ∧ Hid (wr.heap[g]? = some (.cells ((replL p q (xs.take st) ++ List.replicate (len - st) 0).map (Value.int .u8)).toArray 5 (0, 0))) ∧ Below w.heap.size w wr) (fun _ _ i _ => K - (intOf i).toNat)
    case atStart => exact ⟨0, 0, rfl, rfl, rfl, by rw [List.drop_zero]; omega, Nat.zero_le _, hG1, hb1⟩
    case round =>
      obtain ⟨st, i, rfl, rfl, rfl, hi, hst, hG, hbel⟩ := hrel
      by_cases hlt : i < K
      · obtain ⟨k, hk, hkl, hc2, hrep⟩ := cnt_step p q (xs.drop st) (by omega)
        have hkn : st + k < len := by rw [List.length_drop, hsz] at hkl; omega
        have hsl : st < len := by omega
        have hsc : st < cap := by omega
        have hP := hid ((HR.out.below hbel).piece (l := st) (r := len) hst (Nat.le_refl _))
        rw [if_neg (by omega), List.take_of_length_le (by omega)] at hP
        have HI := hid hk
        have HREP := hid hrep
        have HC2 := hid hc2
        clear hk hrep hc2 hkl
        obtain ⟨J, hJ⟩ : ∃ J, J = st + k := ⟨_, rfl⟩
        have hJi : (st : Int) + (k : Int) = (J : Int) := by omega
        have hJc : J ≤ cap := by omega
        have hsJ : st ≤ J := by omega
        have hJl : J < len := by omega
        have hne1 : (cap = st) = False := by simp; omega
        have hne2 : (len = st) = False := by simp; omega
        have HJ := hid hJ
        clear hJ
        go_wp2_with (go_at_call 89; (with_reducible refine (bytes_Index1 hP.out (HR1.out.below hbel)).mono ?_); rintro e w' ⟨rfl, rfl⟩; rw [HI.out])
        obtain ⟨b, off, rfl, hb, hc⟩ := (HR.out.below hbel).cell hlen
        obtain ⟨cur, hcur⟩ : ∃ cur, cur = (replL p q (xs.take st) ++ List.replicate (len - st) 0).map (Value.int .u8) := ⟨_, rfl⟩
        obtain ⟨cs1, hcs1⟩ : ∃ cs1, cs1 = ((xs.drop st).take k).map (Value.int .u8) := ⟨_, rfl⟩
        have hcl := hid (show cs1.length = k by rw [hcs1]; simp; omega)
        have hclen := hid (show cur.length = len by rw [hcur]; simp [replL]; omega)
        have hone := hid (show ∀ v ∈ cs1, v.oneCell' = true by rw [hcs1]; exact ints_oneCell _ _)
        have hsrc := hid (show ∀ j v, cs1[j]? = some v → wr.cell? ⟨b, off + st + j, none⟩ = some v by
          intro j v hv
          rw [hcs1] at hv
          rw [List.getElem?_map, List.getElem?_take] at hv
          by_cases hj : j < k
          · rw [if_pos hj, List.getElem?_drop, List.getElem?_eq_getElem (by omega)] at hv
            rw [Nat.add_assoc, hc (st + j) (by omega), ← hv]
            simp [show st + j < xs.length by omega]
          · rw [if_neg hj] at hv; cases hv)
        rw [← hcur] at hG
        clear hc
        have hGd : Hid (wr.drew.heap[g]? = some (.cells cur.toArray 5 (0, 0))) := hG
        go_region_law (refine step_copy_splice (w := wr.drew) rfl (.tmp 61) (.tmp 65) 22 22 rfl 5 Tryd.underlying22 (by kernel_rfl) (some ⟨g, st, none⟩) (some ⟨b, off + st, none⟩) (len - st) (len - st) (J - st) (cap - st) (by kernel_rfl) (by kernel_rfl) g st cur 5 hGd.out cs1 (by rw [hcl.out]; have := HJ.out; show k = min (J - st) (len - st); omega) (fun _ => ⟨rfl, _, rfl, by simpa [Addr.add_lit] using hsrc.out⟩) (by rw [hcl.out, hclen.out]; omega) hone.out w.heap.size w (below_drew hbel) hg ?_; intro w2 HG2 hB2; rw [hcl.out])
        obtain ⟨b2, off2, y, rfl, hb2, hc2, hq0, hq1, hy⟩ := (HR2.out.below hB2).get8 (i := 0) (by omega)
        obtain rfl : q = y := by simpa using hy.out.1
        have hl2 := hid (show (splice cur st cs1).length = len by rw [length_splice _ _ _ (by rw [hcl.out, hclen.out]; omega), hclen.out])
        have hne3 : (len = J) = False := by simp; omega
        have hsrc2 := hid (show ∀ j v, [Value.int .u8 q][j]? = some v → w2.cell? ⟨b2, off2 + j, none⟩ = some v by
          intro j v hv
          match j, hv with
          | 0, hv => simp only [List.getElem?_cons_zero, Option.some.injEq] at hv; rw [hc2, hv]
          | j + 1, hv => simp at hv)
        have hrow := hid (rep_row (p := p) (q := q) hsz (show st + k < len by omega) HREP.out)
        rw [← hcur, ← hcs1, ← HJ.out] at hrow
        clear hc2 hy hcur hcs1 hsrc hone hG1 hGd hG
        go_wp2_with (refine wpList_copy_splice rfl (.tmp 71) (.tmp 72) 22 22 rfl 5 Tryd.underlying22 (by kernel_rfl) (some ⟨g, J, none⟩) (some ⟨b2, off2, none⟩) (len - J) (len - J) 1 c2 (by kernel_rfl) (by kernel_rfl) g J (splice cur st cs1) 5 HG2.out [.int .u8 q] (by show 1 = min 1 (len - J); omega) (fun _ => ⟨rfl, _, rfl, by simpa [Addr.add_lit] using hsrc2.out⟩) (by rw [hl2.out]; show J + 1 ≤ len; omega) (by simp [Value.oneCell']) w.heap.size w hB2 hg ?_; intro w3 HG3 hB3)
        rw [hrow.out] at HG3
        go_roundw
        case rel => exact ⟨J + 1, i + 1, by go_num, by go_num, by go_num, by have h1 := HC2.out; have h2 := HJ.out; rw [List.drop_drop] at h1; rw [show J + 1 = st + (k + 1) by omega]; omega, by omega, HG3, hB3⟩
        case measure => simp [intOf]; omega
      · have hc0 : cntO p (xs.drop st) = 0 := by omega
        have HEND := hid (rep_end (q := q) hsz hst hc0)
        have hsi : (st : Int) + ((len - st : Nat) : Int) = (len : Int) := by omega
        obtain ⟨b, off, rfl, hb, hc⟩ := (HR.out.below hbel).cell hlen
        obtain ⟨cur, hcur⟩ : ∃ cur, cur = (replL p q (xs.take st) ++ List.replicate (len - st) 0).map (Value.int .u8) := ⟨_, rfl⟩
        obtain ⟨cs1, hcs1⟩ : ∃ cs1, cs1 = (xs.drop st).map (Value.int .u8) := ⟨_, rfl⟩
        have hcl := hid (show cs1.length = len - st by rw [hcs1]; simp; omega)
        have hclen := hid (show cur.length = len by rw [hcur]; simp [replL]; omega)
        have hone := hid (show ∀ v ∈ cs1, v.oneCell' = true by rw [hcs1]; exact ints_oneCell _ _)
        have hsrc := hid (show ∀ j v, cs1[j]? = some v → wr.cell? ⟨b, off + st + j, none⟩ = some v by
          intro j v hv
          rw [hcs1, List.getElem?_map, List.getElem?_drop] at hv
          by_cases hj : st + j < len
          · rw [List.getElem?_eq_getElem (by omega)] at hv
            rw [Nat.add_assoc, hc (st + j) hj, ← hv]
            simp [show st + j < xs.length by omega]
          · rw [List.getElem?_eq_none (by omega)] at hv; cases hv)
        rw [← hcur, ← hcs1] at HEND
        rw [← hcur] at hG
        have hGd : Hid (wr.drew.heap[g]? = some (.cells cur.toArray 5 (0, 0))) := hG
        have hwfR := hid (show ∀ x ∈ replL p q xs, (Lit.int .u8 x).wf = true by
          intro x hx
          obtain ⟨y, hy, rfl⟩ := List.mem_map.1 hx
          unfold replI
          split
          · exact HR2.out.wf q (List.mem_singleton.2 rfl)
          · exact HR.out.wf y hy)
        have hlR := hid (show (replL p q xs).length = len by unfold replL; rw [List.length_map, hsz])
        clear hc hG1
        have hcapc : st ≤ cap := by omega
        by_cases hlast : st = len
        · subst hlast
          rw [Nat.sub_self] at hcl hsi
          by_cases hcap : cap = st
          · have hci : (cap = st) = True := by simpa using hcap
            go_wp2_with fail
            go_region_law (refine step_copy_splice (w := wr.drew) rfl (.tmp 123) (.tmp 126) 22 22 rfl 5 Tryd.underlying22 (by kernel_rfl) (some ⟨g, 0, none⟩) (some ⟨b, off, none⟩) 0 0 0 0 (by kernel_rfl) (by kernel_rfl) g st cur 5 hGd.out cs1 (by rw [hcl.out]; rfl) (fun h => absurd h (by rw [hcl.out]; omega)) (by rw [hcl.out, hclen.out]; omega) hone.out w.heap.size w (below_drew hbel) hg ?_; intro w2 HG2 hB2; rw [hcl.out])
            all_goals
              rw [HEND.out] at HG2
              go_wp2_with fail
              go_ret
              exact ⟨_, rfl, by have := Own.ofHeap HG2.out hg (by rw [hlR.out]; unfold maxLen; omega) hwfR.out; rwa [hlR.out] at this, hB2⟩
          · have hne1 : (cap = st) = False := by simpa using hcap
            go_wp2_with fail
            go_region_law (refine step_copy_splice (w := wr.drew) rfl (.tmp 123) (.tmp 126) 22 22 rfl 5 Tryd.underlying22 (by kernel_rfl) (some ⟨g, 0, none⟩) (some ⟨b, off + st, none⟩) 0 0 0 (cap - st) (by kernel_rfl) (by kernel_rfl) g st cur 5 hGd.out cs1 (by rw [hcl.out]; rfl) (fun h => absurd h (by rw [hcl.out]; omega)) (by rw [hcl.out, hclen.out]; omega) hone.out w.heap.size w (below_drew hbel) hg ?_; intro w2 HG2 hB2; rw [hcl.out])
            all_goals
              rw [HEND.out] at HG2
              go_wp2_with fail
              go_ret
              exact ⟨_, rfl, by have := Own.ofHeap HG2.out hg (by rw [hlR.out]; unfold maxLen; omega) hwfR.out; rwa [hlR.out] at this, hB2⟩
        · have hne1 : (cap = st) = False := by simp; omega
          have hne2 : (len = st) = False := by simp; omega
          go_wp2_with fail
          go_region_law (refine step_copy_splice (w := wr.drew) rfl (.tmp 123) (.tmp 126) 22 22 rfl 5 Tryd.underlying22 (by kernel_rfl) (some ⟨g, st, none⟩) (some ⟨b, off + st, none⟩) (len - st) (len - st) (len - st) (cap - st) (by kernel_rfl) (by kernel_rfl) g st cur 5 hGd.out cs1 (by rw [hcl.out]; exact (Nat.min_self _).symm) (fun _ => ⟨rfl, _, rfl, by simpa [Addr.add_lit] using hsrc.out⟩) (by rw [hcl.out, hclen.out]; omega) hone.out w.heap.size w (below_drew hbel) hg ?_; intro w2 HG2 hB2; rw [hcl.out])
          all_goals
            rw [HEND.out] at HG2
            go_wp2_with fail
            go_ret
            exact ⟨_, rfl, by have := Own.ofHeap HG2.out hg (by rw [hlR.out]; unfold maxLen; omega) hwfR.out; rwa [hlR.out] at this, hB2⟩
theorem bytes_ReplaceAll1 (a : Option Addr) (len cap : Nat) (xs : List Int) (a1 a2 : Option Addr) (c1 c2 : Nat) (p q : Int) (w : World) (hr : Reads .u8 w a len cap xs) (hr1 : Reads .u8 w a1 1 c1 [p]) (hr2 : Reads .u8 w a2 1 c2 [q]) (hN : len < 100000000) :
    Calls Tryd.prog 62 #[.slice a len cap, .slice a1 1 c1, .slice a2 1 c2] w fun e w' => ∃ v, e = .returned v ∧ Own .u8 5 w.heap.size w' v (replL p q xs) ∧ Below w.heap.size w w' := by
  have HC := hid (bytes_Replace1 a len cap xs a1 a2 c1 c2 p q w hr hr1 hr2 hN)
  clear hr hr1 hr2
  go_enter Tryd.func62, Tryd.ntmps62
  go_wp2_with (go_at_call 77; (with_reducible refine HC.out.mono ?_); rintro e w1 ⟨v1, rfl, ho1, hb1⟩)
  go_ret
  exact ⟨_, rfl, ho1, hb1⟩
end Go.Proofs.YtiacijodoojgoaaDoor

/-! D15 -/
namespace Go.Proofs.YtiacijodoojgoaaDoor
open Go.RowKit
set_option linter.unusedVariables false

def noEq (x : Int) : Bool := decide (x ≠ 61)
/-- Up to the first =; the digits there, in order; how many others. -/
def cutEq (xs : List Int) : List Int := xs.takeWhile noEq
def digL (xs : List Int) : List Int := (cutEq xs).filter isDig
def strQ (xs : List Int) : Nat := ((cutEq xs).filter (fun c => !isDig c)).length
/-- What is read; how many bits are left over; the strict code of it. -/
def looL (xs : List Int) : List Int := rd64 ((digL xs).map valI)
def drpN (xs : List Int) : Nat := 6 * (digL xs).length % 8
def clnL (xs : List Int) : List Int := layB (looL xs)

theorem cut_at {f : Int → Bool} {xs : List Int} {k : Nat} (hn : (xs.take k).all f = true) (h : xs.length ≤ k ∨ ∃ x, xs[k]? = some x ∧ f x = false) : xs.takeWhile f = xs.take k := by
  induction xs generalizing k with
  | nil => simp
  | cons y xs ih =>
    cases k with
    | zero =>
      rcases h with h | ⟨x, h1, h2⟩
      · simp at h
      · simp only [List.getElem?_cons_zero, Option.some.injEq] at h1
        subst h1
        rw [List.takeWhile_cons, h2]; rfl
    | succ k =>
      simp only [List.take_succ_cons, List.all_cons, Bool.and_eq_true] at hn
      rw [List.takeWhile_cons, hn.1, List.take_succ_cons]
      simp only [if_true]
      rw [ih hn.2 (by
        rcases h with h | ⟨x, h1, h2⟩
        · simp only [List.length_cons] at h; exact .inl (by omega)
        · exact .inr ⟨x, by simpa using h1, h2⟩)]
theorem digL_dig (xs : List Int) : (digL xs).all isDig = true := by
  rw [List.all_eq_true]
  intro x hx
  exact (List.mem_filter.1 hx).2
theorem digL_le (xs : List Int) : (digL xs).length ≤ xs.length := Nat.le_trans (List.length_filter_le _ _) (List.takeWhile_sublist _).length_le
theorem digL_v6 (xs : List Int) : ∀ v ∈ (digL xs).map valI, V6 v := by
  intro v hv
  obtain ⟨c, _, rfl⟩ := List.mem_map.1 hv
  exact val_bd c
theorem looL_le (xs : List Int) : (looL xs).length ≤ xs.length := by
  unfold looL
  rw [rd64_len, List.length_map]
  have := digL_le xs
  omega
theorem bits_drop (xs : List Int) : (bits6 ((digL xs).map valI)).length % 8 = drpN xs := by
  rw [bits6_len, List.length_map]; rfl
end Go.Proofs.YtiacijodoojgoaaDoor
