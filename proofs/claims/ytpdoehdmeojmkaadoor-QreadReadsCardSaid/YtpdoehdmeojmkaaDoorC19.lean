/-
  Contracts of package qread's functions: what is read; how many signs are none of an escape; strictly; laid again (those that the translation has).
-/
import Derived.Test.YtpdoehdmeojmkaaDoorC19b
import Derived.Test.YtpdoehdmeojmkaaDoorC18c
import Derived.Test.YtpdoehdmeojmkaaDoorC18d
import Derived.Test.YtpdoehdmeojmkaaDoorR19b
namespace Go.Proofs.YtpdoehdmeojmkaaDoor
open Go.RowKit Go.Shelf
set_option linter.unusedVariables false
attribute [local go_sem] Oper.semAt_some

/-- What some lines are read as. -/
def outL (xs : List Int) (P : List (Nat × Nat × Nat)) : List Int := P.flatMap (fun x => lnR (linePc xs x) (brkPc xs x))
theorem outL_snoc (xs : List Int) (P : List (Nat × Nat × Nat)) (x : Nat × Nat × Nat) : outL xs (P ++ [x]) = outL xs P ++ lnR (linePc xs x) (brkPc xs x) := by simp [outL]
theorem lnR_le (xs : List Int) {L : Nat} (x : LPc L) (hL : L = xs.length) : (lineR (linePc xs x.1)).length + (brkPc xs x.1).length ≤ L := by
  have h1 := lineR_le (linePc xs x.1)
  have h2 : (linePc xs x.1).length ≤ x.1.2.1 := by unfold linePc; rw [List.length_take]; omega
  have h3 : (brkPc xs x.1).length ≤ x.1.2.2 := by unfold brkPc; rw [List.length_take]; omega
  have h4 := x.2.1
  omega
theorem outL_len (xs : List Int) {L : Nat} (hL : L = xs.length) : ∀ pre : List (LPc L), (outL xs (valL pre)).length ≤ pre.length * L
  | [] => by simp [outL, valL]
  | x :: pre => by
    have ih := outL_len xs hL pre
    have hx := lnR_le xs x hL
    have e : outL xs (valL (x :: pre)) = lnR (linePc xs x.1) (brkPc xs x.1) ++ outL xs (valL pre) := by simp [outL, valL]
    rw [e, List.length_append, List.length_cons, Nat.add_mul]
    have : (lnR (linePc xs x.1) (brkPc xs x.1)).length ≤ L := by
      unfold lnR
      rw [List.length_append]
      split
      · simp; omega
      · omega
    omega
theorem outL_all (xs : List Int) : outL xs (pcsN xs xs.length 0) = readS xs := by
  have := (pcs_read xs xs.length 0 (by omega)).1
  rwa [List.drop_zero] at this
theorem outL_wf {xs : List Int} (hw : ∀ x ∈ xs, (Lit.int .u8 x).wf = true) (P : List (Nat × Nat × Nat)) : ∀ y ∈ outL xs P, (Lit.int .u8 y).wf = true := by
  have hb : ∀ x ∈ xs, 0 ≤ x ∧ x ≤ 255 := fun x hx => wf_u8 (hw x hx)
  intro y hy
  obtain ⟨x, _, hx⟩ := List.mem_flatMap.1 hy
  unfold lnR at hx
  rcases List.mem_append.1 hx with h | h
  · unfold lineR at h
    have hl : ∀ z ∈ lineB (linePc xs x), 0 ≤ z ∧ z ≤ 255 := by
      intro z hz
      rw [lineB_pre] at hz
      exact hb z (List.mem_of_mem_drop (List.mem_of_mem_take (List.mem_of_mem_take hz)))
    have := rdE_bd 61 idI (fun x h => h) _ 0 hl y h
    exact mk_u8 this.1 this.2
  · split at h
    · cases h
    · exact hw y (List.mem_of_mem_drop (List.mem_of_mem_take h))
theorem lin_some {a : Option Addr} {len cap : Nat} {xs : List Int} {w : World} (hr : Reads .u8 w a len cap xs) : ∃ b off, 0 < len → a = some ⟨b, off, none⟩ := by
  by_cases h : 0 < len
  · obtain ⟨b, off, ha, _⟩ := hr.cell h
    exact ⟨b, off, fun _ => ha⟩
  · exact ⟨0, 0, fun h' => absurd h' h⟩
set_option maxRecDepth 100000 in
set_option maxHeartbeats 4000000 in
theorem qread_ReadO (a : Option Addr) (len cap : Nat) (xs : List Int) (w : World) (hr : Reads .u8 w a len cap xs) (hN : len < 1000000) (hT : Tabs w) (hm : Mx w) :
    Calls Tryd.prog 12 #[.slice a len cap] w fun e w' => ∃ v, e = .returned v ∧ Own .u8 5 w.heap.size w' v (readS xs) ∧ Below w.heap.size w w' := by
  have hl := hr.len_le
  have hsz := hr.size
  obtain ⟨b, off, ha⟩ := lin_some hr
  have HWF := hid (outL_wf hr.wf (pcsN xs xs.length 0))
  have HLL := hid (fun pre : List (LPc len) => outL_len xs hsz.symm pre)
  refine (callsIn_wide (n := 4)).1 ?_
  refine callsIn_of_wp_marks Tryd.func12 rfl trivial ?_ rfl
  simp only [Tryd.ntmps12, List.size_toArray, List.length_cons, List.length_nil, Nat.reduceAdd, Nat.reduceSub, Array.replicate_succ, Array.replicate_zero, List.push_toArray, List.append_toArray, List.nil_append, List.cons_append]
  gi_wp2_with (first
    | (gi_at_make; refine wpListIn_make0 (m := len) CT8 rfl _ _ rfl (w0 := w) rfl rfl (Below.refl _ _) (by omega) ?_; intro g w2 ho2 hb2)
    | (refine ⟨trivial, ?_⟩; gi_at_call 21; (with_reducible refine (qread_lines _ _ _ _ _).mono ?_); rintro e w' ⟨rfl, rfl⟩))
  obtain ⟨b1, b2, hB0⟩ := two_boxes w2 22 22 (.slice (some ⟨g, 0, none⟩) 0 len) (.slice a len cap)
  have hB := below_then hb2 hB0
  have hw2 := hb2.size
  have ho3 := ho2.below hB0
  refine wpIn_rangeFunc_ownG rfl (by omega) (gf := 34) (lb := #[.pointer (some ⟨w2.heap.size + 1, 0, none⟩)]) rfl trivial (enters_of Tryd.func34 (by kernel_rfl) rfl)
    (lines_stops 3 (w2.heap.size + 1) w.heap.size (by omega) b off a len cap xs ha w _ hr hN hT hm (Nat.le_refl _) hB.size hB (by simp) b2) (fun h k => h.trans k) (belowK_b hB.size) (Below.refl _ _) (fun _ => rfl)
    (fun pre W => (∃ v, Boxed W w2.heap.size 22 v ∧ Row .u8 5 w.heap.size W v (outL xs (valL pre))) ∧ Below w.heap.size w W)
    (fun _ _ _ => False)
    (OwnFrom.and (own_rowO _ _ _ _ _ _ (fun pre : List (LPc len) => outL xs (valL pre))) (ownFrom_below (Nat.le_refl _) hB.size)) (fun _ _ _ _ _ hs _ _ => hs)
    ⟨⟨_, b1, ho3.1⟩, hB⟩
    (fun x => { tmps := #[.slice a len cap, undef, .slice none 0 0, .pointer (some ⟨w2.heap.size, 0, none⟩), .slice (some ⟨b, off + x.1.1, none⟩) x.1.2.1 (cap - x.1.1), .slice (if cap - x.1.1 = x.1.2.1 then some ⟨b, off + x.1.1, none⟩ else some ⟨b, off + x.1.1 + x.1.2.1, none⟩) x.1.2.2 (cap - x.1.1 - x.1.2.1), undef, undef, .slice a len cap, .int .i64 len, .slice (some ⟨g, 0, none⟩) 0 len, .slice a len cap, .func (.func 34) #[] #[.pointer (some ⟨w2.heap.size + 1, 0, none⟩)], .slice (some ⟨b, off + x.1.1, none⟩) x.1.2.1 (cap - x.1.1), .slice (if cap - x.1.1 = x.1.2.1 then some ⟨b, off + x.1.1, none⟩ else some ⟨b, off + x.1.1 + x.1.2.1, none⟩) x.1.2.2 (cap - x.1.1 - x.1.2.1), undef, undef, undef, undef, undef, undef, undef, undef, undef, undef, undef, undef, undef, undef], defers := [] }) ?assign ?body ?done ?stop
  case assign =>
    intro l x W K hK
    dsimp only [encL]
    generalize (if cap - x.1.1 = x.1.2.1 then (some ⟨b, off + x.1.1, none⟩ : Option Addr) else some ⟨b, off + x.1.1 + x.1.2.1, none⟩) = P2 at *
    gi_wp2
    exact hK
  case body =>
    rintro l pre x W ⟨⟨v, hv, hown⟩, hBW⟩ hlt
    have h1 := lpc_line hr ha x
    have h2 := lpc_brk hr ha x
    have hx := lnR_le xs x hsz.symm
    have hlo := HLL.out pre
    have hmul : pre.length * len + len ≤ len * len := by
      have h := Nat.mul_le_mul_right len (show pre.length + 1 ≤ len by omega)
      rw [Nat.add_mul] at h
      omega
    have hsq : len * len ≤ 999999 * 999999 := Nat.mul_le_mul (by omega) (by omega)
    have hsn := outL_snoc xs (valL pre) x.1
    rw [← valL_snoc] at hsn
    generalize (if cap - x.1.1 = x.1.2.1 then (some ⟨b, off + x.1.1, none⟩ : Option Addr) else some ⟨b, off + x.1.1 + x.1.2.1, none⟩) = P2 at *
    have hxl := x.2.1
    have e2 := h2.size
    have HL := fun W1 (hW : Below w.heap.size w W1) => qread_LineO _ _ _ _ W1 (h1.below hW) (by omega)
    have HLn := hid (HL W hBW)
    have hWs := hBW.size
    have hc := hv.cell
    have h2W := h2.below hBW
    obtain ⟨O, hO⟩ : ∃ O, O = outL xs (valL pre) := ⟨_, rfl⟩
    rw [← hO] at hsn hown hlo
    unfold lnR at hsn
    cases hs : softB (linePc xs x.1)
    · rw [hs] at HLn hsn
      simp only [Bool.false_eq_true, if_false, ← List.append_assoc] at hsn
      have HS := hid hsn
      clear hsn HL h1 hO hs HLL HWF
      gi_wp2_with (first
        | (refine ⟨trivial, ?_⟩; gi_at_call 16; (with_reducible refine (CallsIn.inRound l (callsIn_wide.2 HLn.out)).mono ?_); rintro e w3 ⟨u3, rfl, ho3, hb3⟩; obtain ⟨a3, c3, rfl, hr3⟩ := ho3.reads; have hv3 := Boxed.below hv hb3; have hown3 := Row.below hown hb3; have hc3 := hv3.cell; have hs3 := Nat.le_trans hWs hb3.size; have hk3 := keeps_below hb3)
        | (gi_at_builtin; refine wpListIn_more1 CT8 rfl _ _ rfl rfl rfl hp4.put (by decide) hp4.own (Nat.le_trans hs3 hp4.below.size) (by omega) h25 (by simp only [List.length_append]; omega) ?_; intro a6 l6 c6 w6 hp6; have hc6 := hp6.box.cell; have hf6 := hp6.box.frozen)
        | (gi_at_builtin; refine wpListIn_more1 CT8 rfl _ _ rfl rfl rfl hv3 (by decide) hown3 hs3 (by omega) hr3 (by omega) ?_; intro a4 l4 c4 w4 hp4; have hc4 := hp4.box.cell; have hf4 := hp4.box.frozen; have hc5 := hp4.put.cell; have hb5 := (hb3.mono hWs).trans hp4.below; have h25 := h2.below (hBW.trans hb5)))
      refine ⟨(hk3.trans (hp4.keeps.trans hp6.keeps)).from _, hb5.trans hp6.below, ⟨_, hp6.put, ?_⟩, (hBW.trans hb5).trans hp6.below⟩
      rw [HS.out]
      exact hp6.own
    · rw [hs] at HLn hsn
      simp only [if_true, List.append_nil] at hsn
      have HS := hid hsn
      clear hsn HL h1 hO hs HLL HWF
      gi_wp2_with (first
        | (refine ⟨trivial, ?_⟩; gi_at_call 16; (with_reducible refine (CallsIn.inRound l (callsIn_wide.2 HLn.out)).mono ?_); rintro e w3 ⟨u3, rfl, ho3, hb3⟩; obtain ⟨a3, c3, rfl, hr3⟩ := ho3.reads; have hv3 := Boxed.below hv hb3; have hown3 := Row.below hown hb3; have hc3 := hv3.cell; have hs3 := Nat.le_trans hWs hb3.size; have hk3 := keeps_below hb3)
        | (gi_at_builtin; refine wpListIn_more1 CT8 rfl _ _ rfl rfl rfl hv3 (by decide) hown3 hs3 (by omega) hr3 (by omega) ?_; intro a4 l4 c4 w4 hp4; have hc4 := hp4.box.cell; have hf4 := hp4.box.frozen; have hb5 := (hb3.mono hWs).trans hp4.below))
      refine ⟨(hk3.trans hp4.keeps).from _, hb5, ⟨_, hp4.put, ?_⟩, hBW.trans hb5⟩
      rw [HS.out]
      exact hp4.own
  case done =>
    rintro D ys W hD hys ⟨⟨v, hv, hown⟩, hB⟩ hK
    have hc := hv.cell
    rw [hys, ← hsz, outL_all] at hown
    have hwf := HWF.out
    rw [outL_all] at hwf
    have HO := hid ((hown.putObj (.deferred none) hK rfl).own hwf)
    clear hown hwf
    gi_wp2
    refine ⟨by simp, .inl ⟨_, _, rfl, run_takeDeferred hK, ?_⟩⟩
    exact ⟨_, results_tmp rfl _ _ _, v, rfl, HO.out, hB.trans (belowK_b (w := w) (Nat.le_refl _) W D _ _ (by simp at hD; omega) hK rfl rfl)⟩
  case stop =>
    rintro D c pre W _ _ h _
    exact h.elim
/-- How many signs of some lines are none of an escape. -/
def strT (xs : List Int) (P : List (Nat × Nat × Nat)) : Nat := (P.map (fun x => lineN (linePc xs x))).sum
theorem strT_snoc (xs : List Int) (P : List (Nat × Nat × Nat)) (x : Nat × Nat × Nat) : strT xs (P ++ [x]) = strT xs P + lineN (linePc xs x) := by simp [strT]
theorem lineN_bd (xs : List Int) {L : Nat} (x : LPc L) : lineN (linePc xs x.1) ≤ L := by
  have h1 := lineN_le (linePc xs x.1)
  have h2 : (linePc xs x.1).length ≤ x.1.2.1 := by unfold linePc; rw [List.length_take]; omega
  have h4 := x.2.1
  omega
theorem strT_len (xs : List Int) {L : Nat} : ∀ pre : List (LPc L), strT xs (valL pre) ≤ pre.length * L
  | [] => by simp [strT, valL]
  | x :: pre => by
    have ih := strT_len xs pre
    have hx := lineN_bd xs x
    have e : strT xs (valL (x :: pre)) = lineN (linePc xs x.1) + strT xs (valL pre) := by simp [strT, valL]
    rw [e, List.length_cons, Nat.add_mul]
    omega
theorem strT_all (xs : List Int) : strT xs (pcsN xs xs.length 0) = strS xs := by
  have := (pcs_read xs xs.length 0 (by omega)).2
  rwa [List.drop_zero] at this
set_option maxRecDepth 100000 in
set_option maxHeartbeats 4000000 in
theorem qread_Strange (a : Option Addr) (len cap : Nat) (xs : List Int) (w : World) (hr : Reads .u8 w a len cap xs) (hN : len < 1000000) (hT : Tabs w) (hm : Mx w) :
    Calls Tryd.prog 13 #[.slice a len cap] w fun e w' => e = .returned (.int .i64 (strS xs)) ∧ Below w.heap.size w w' := by
  have hl := hr.len_le
  have hsz := hr.size
  obtain ⟨b, off, ha⟩ := lin_some hr
  have HLL := hid (fun pre : List (LPc len) => strT_len xs pre)
  refine (callsIn_wide (n := 4)).1 ?_
  refine callsIn_of_wp_marks Tryd.func13 rfl trivial ?_ rfl
  simp only [Tryd.ntmps13, List.size_toArray, List.length_cons, List.length_nil, Nat.reduceAdd, Nat.reduceSub, Array.replicate_succ, Array.replicate_zero, List.push_toArray, List.append_toArray, List.nil_append, List.cons_append]
  gi_wp2_with (refine ⟨trivial, ?_⟩; gi_at_call 21; (with_reducible refine (qread_lines _ _ _ _ _).mono ?_); rintro e w' ⟨rfl, rfl⟩)
  obtain ⟨b1, b2, hB0⟩ := two_boxes w 3 22 (.int .i64 0) (.slice a len cap)
  refine wpIn_rangeFunc_ownG rfl (by omega) (gf := 34) (lb := #[.pointer (some ⟨w.heap.size + 1, 0, none⟩)]) rfl trivial (enters_of Tryd.func34 (by kernel_rfl) rfl)
    (lines_stops 3 (w.heap.size + 1) w.heap.size (by omega) b off a len cap xs ha w _ hr hN hT hm (Nat.le_refl _) hB0.size hB0 (by simp) b2) (fun h k => h.trans k) (belowK_b hB0.size) (Below.refl _ _) (fun _ => rfl)
    (fun pre W => Boxed W w.heap.size 3 (.int .i64 (strT xs (valL pre))) ∧ Below w.heap.size w W)
    (fun _ _ _ => False)
    (own_box (Nat.le_refl _) hB0.size _ _ (fun pre : List (LPc len) => .int .i64 (strT xs (valL pre)))) (fun _ _ _ _ _ hs _ _ => hs)
    ⟨b1, hB0⟩
    (fun x => { tmps := #[.slice a len cap, undef, .int .i64 0, .pointer (some ⟨w.heap.size, 0, none⟩), .slice (some ⟨b, off + x.1.1, none⟩) x.1.2.1 (cap - x.1.1), undef, undef, .slice a len cap, .func (.func 34) #[] #[.pointer (some ⟨w.heap.size + 1, 0, none⟩)], .slice (some ⟨b, off + x.1.1, none⟩) x.1.2.1 (cap - x.1.1), .slice (if cap - x.1.1 = x.1.2.1 then some ⟨b, off + x.1.1, none⟩ else some ⟨b, off + x.1.1 + x.1.2.1, none⟩) x.1.2.2 (cap - x.1.1 - x.1.2.1), undef, undef, undef, undef, undef, undef, undef, undef, undef, undef, undef, undef, undef, undef], defers := [] }) ?assign ?body ?done ?stop
  case assign =>
    intro l x W K hK
    dsimp only [encL]
    generalize (if cap - x.1.1 = x.1.2.1 then (some ⟨b, off + x.1.1, none⟩ : Option Addr) else some ⟨b, off + x.1.1 + x.1.2.1, none⟩) = P2 at *
    gi_wp2
    exact hK
  case body =>
    rintro l pre x W ⟨hv, hBW⟩ hlt
    have h1 := lpc_line hr ha x
    have hx := lineN_bd xs x
    have hlo := HLL.out pre
    have hmul : pre.length * len + len ≤ len * len := by
      have h := Nat.mul_le_mul_right len (show pre.length + 1 ≤ len by omega)
      rw [Nat.add_mul] at h
      omega
    have hsq : len * len ≤ 999999 * 999999 := Nat.mul_le_mul (by omega) (by omega)
    have hsn := strT_snoc xs (valL pre) x.1
    rw [← valL_snoc] at hsn
    generalize (if cap - x.1.1 = x.1.2.1 then (some ⟨b, off + x.1.1, none⟩ : Option Addr) else some ⟨b, off + x.1.1 + x.1.2.1, none⟩) = P2 at *
    have hle := lineB_le (linePc xs x.1)
    have hsl := h1.size
    have hp := h1.pre (n := (lineB (linePc xs x.1)).length) (by omega)
    rw [← lineB_pre] at hp
    have hke := lineN_is (linePc xs x.1)
    have HKP := hid (qread_keep _ _ _ _ W (h1.below hBW))
    have hWs := hBW.size
    obtain ⟨M, hM⟩ : ∃ M, M = strT xs (valL pre) := ⟨_, rfl⟩
    rw [← hM] at hsn hlo hv
    obtain ⟨Nn, hNn⟩ : ∃ N, N = lineN (linePc xs x.1) := ⟨_, rfl⟩
    rw [← hNn] at hsn hx hke
    have hc := hv.cell
    have hf := hv.frozen
    gi_wp2_with (refine ⟨trivial, ?_⟩; gi_at_call 22; (with_reducible refine (CallsIn.inRound l (callsIn_wide.2 HKP.out)).mono ?_); rintro e w3 ⟨⟨m, rfl, hmm⟩, hb3⟩)
    rw [← hmm] at hp hle
    generalize lineB (linePc xs x.1) = LB at hp hke hmm
    rw [← hmm]
    have hpW := hp.below (hBW.trans (hb3.mono hWs))
    have hv3 := Boxed.below hv hb3
    have hs3 := Nat.le_trans hWs hb3.size
    have hk3 := keeps_below hb3
    obtain ⟨wl, hwl⟩ : ∃ wl, wl = w3.alloc (.cells #[.int .u8 61] 5) := ⟨_, rfl⟩
    have hba : Below w3.heap.size w3 wl.drew := by rw [hwl]; exact below_drew ((Below.refl w3.heap.size w3).alloc (Nat.le_refl _) (.cells #[.int .u8 61] 5))
    have hpa := hpW.below hba
    have hva : Boxed wl.drew w.heap.size 3 (.int .i64 M) := Boxed.below hv3 hba
    have hlit : Reads .u8 wl.drew (some ⟨w3.heap.size, 0, none⟩) 1 1 [61] := by
      have h : Reads .u8 (w3.alloc (.cells #[.int .u8 61] 5)) (some ⟨w3.heap.size, 0, none⟩) 1 1 [61] := Reads.lit .u8 5 w3 [61] (by simp [maxLen]) (by decide)
      rw [← hwl] at h
      exact h.below (below_drew (Below.refl _ _))
    obtain ⟨K0, hK0⟩ : ∃ K, cntO 61 LB = K := ⟨_, rfl⟩
    obtain ⟨E0, hE0⟩ : ∃ E, escN LB = E := ⟨_, rfl⟩
    have HCN := hid (bytes_Count1 hpa hlit hK0)
    have HES := hid (qread_escapes _ _ _ _ _ hpa)
    rw [hE0] at HES
    rw [hK0, hE0] at hke
    have hM1 : M + Nn ≤ 999999 * 999999 := by omega
    have g1 : IntKind.i64.wrap ((K0 : Int) - (E0 : Int)) = (Nn : Int) := by rw [hke]; exact IntWalk.i64_in _ (by omega)
    have g2 : IntKind.i64.wrap ((M : Int) + (Nn : Int)) = (M : Int) + (Nn : Int) := IntWalk.i64_in _ (by omega)
    have q0 : w3.drew.cell? ⟨w.heap.size, 0, none⟩ = some (.int .i64 M) := hv3.cell
    have q1 : wl.drew.cell? ⟨w.heap.size, 0, none⟩ = some (.int .i64 M) := hva.cell
    have q2 : ∀ n, (wl.drew.drewN n).cell? ⟨w.heap.size, 0, none⟩ = some (.int .i64 M) := fun n => hva.cell
    have q3 : ∀ n, (wl.drew.drewN n).frozen? ⟨w.heap.size, 0, none⟩ = false := fun n => hva.frozen
    have hbl : Below w3.heap.size w3 wl := by rw [hwl]; exact (Below.refl w3.heap.size w3).alloc (Nat.le_refl _) (.cells #[.int .u8 61] 5)
    have HEND : Hid (∀ n, KeepsOthers W ((wl.drewN n).setCell ⟨w.heap.size, 0, none⟩ (.int .i64 ((M : Int) + (Nn : Int)))) ∧ Below w.heap.size W ((wl.drewN n).setCell ⟨w.heap.size, 0, none⟩ (.int .i64 ((M : Int) + (Nn : Int)))) ∧ Boxed ((wl.drewN n).setCell ⟨w.heap.size, 0, none⟩ (.int .i64 ((M : Int) + (Nn : Int)))) w.heap.size 3 (.int .i64 (strT xs (valL (pre ++ [x]))))) := by
      intro n
      have hb : Below w.heap.size W (wl.drewN n) := Below.drewN ((hb3.mono hWs).trans (hbl.mono hs3)) n
      have hk : KeepsOthers W (wl.drewN n) := (hk3.trans (keeps_below hbl)).trans (keeps_below (Below.drewN (Below.refl _ _) n))
      have hbx : Boxed (wl.drewN n) w.heap.size 3 (.int .i64 M) := hva
      refine ⟨hk.trans (KeepsOthers.setCell _ _ _), hb.setCell (p := ⟨w.heap.size, 0, none⟩) (Nat.le_refl _) _, ?_⟩
      rw [hsn]
      have := hbx.set (.int .i64 ((M : Int) + (Nn : Int)))
      simpa using this
    clear hp hpW hv3 hk3 hpa hva hlit hba hv hsn hke hM hNn hmm hK0 hE0
    have hmix : Tryd.prog.follows .mixedOrders = true := by kernel_rfl
    have q4 : wl.frozen? ⟨w.heap.size, 0, none⟩ = false := q3 0
    have q5 : wl.cell? ⟨w.heap.size, 0, none⟩ = some (.int .i64 M) := q2 0
    have q6 : ∀ n, (wl.drewN n).drew.frozen? ⟨w.heap.size, 0, none⟩ = false := fun n => q4
    have q7 : ∀ n, (wl.drewN n).drew.cell? ⟨w.heap.size, 0, none⟩ = some (.int .i64 M) := fun n => q5
    have q8 : ∀ n, (wl.drewN n).frozen? ⟨w.heap.size, 0, none⟩ = false := fun n => q4
    have q9 : ∀ n, (wl.drewN n).cell? ⟨w.heap.size, 0, none⟩ = some (.int .i64 M) := fun n => q5
    subst hwl
    gi_region_with_o (first
      | (refine ⟨trivial, ?_⟩; (with_reducible refine (CallsIn.inRound l (callsIn_wide.2 HCN.out)).mono ?_); rintro e w' ⟨rfl, rfl⟩)
      | (refine ⟨trivial, ?_⟩; (with_reducible refine (CallsIn.inRound l (callsIn_wide.2 HES.out)).mono ?_); rintro e w' ⟨rfl, n, rfl⟩))
    all_goals
      have hE := HEND.out (1 + n)
      gi_wp2_with fail
      exact ⟨hE.1.from _, hE.2.1, hE.2.2, hBW.trans hE.2.1⟩
  case done =>
    rintro D ys W hD hys ⟨hv, hB⟩ hK
    have hc := hv.cell
    rw [hys, ← hsz, strT_all] at hc
    gi_wp2
    refine ⟨by simp, .inl ⟨_, _, rfl, run_takeDeferred hK, ?_⟩⟩
    exact ⟨_, results_tmp rfl _ _ _, rfl, hB.trans (belowK_b (w := w) (Nat.le_refl _) W D _ _ (by simp at hD; omega) hK rfl rfl)⟩
  case stop =>
    rintro D c pre W _ _ h _
    exact h.elim
set_option maxRecDepth 100000 in
theorem qread_Read (a : Option Addr) (len cap : Nat) (xs : List Int) (w : World) (hr : Reads .u8 w a len cap xs) (hN : len < 1000000) (hT : Tabs w) (hm : Mx w) :
    Calls Tryd.prog 12 #[.slice a len cap] w fun e w' => ∃ a' c', e = .returned (.slice a' (readS xs).length c') ∧ Reads .u8 w' a' (readS xs).length c' (readS xs) ∧ Below w.heap.size w w' := by
  refine (qread_ReadO a len cap xs w hr hN hT hm).mono ?_
  rintro e w' ⟨v, rfl, ho, hb⟩
  obtain ⟨a', c', rfl, h⟩ := ho.reads
  exact ⟨a', c', rfl, h, hb⟩
set_option maxRecDepth 100000 in
set_option maxHeartbeats 1000000 in
theorem qread_Strict (a : Option Addr) (len cap : Nat) (xs : List Int) (w : World) (hr : Reads .u8 w a len cap xs) (hN : len < 1000000) (hT : Tabs w) (hm : Mx w) :
    Calls Tryd.prog 9 #[.slice a len cap] w fun e w' => ∃ a' l' c', e = .returned (.tuple #[.slice a' l' c', .int .i64 (checkQ xs)]) ∧ Reads .u8 w' a' l' c' (stcL xs) ∧ Below w.heap.size w w' := by
  have HR := hid hr
  have HC := hid (qpage_Check a len cap xs w hr hN hm)
  have HT := hid hT
  have HM := hid hm
  unfold stcL
  obtain ⟨E, hE⟩ : ∃ E, E = checkQ xs := ⟨_, rfl⟩
  rw [← hE] at HC ⊢
  clear hr hE hT hm
  by_cases h0 : E = 0
  · subst h0
    rw [if_pos rfl]
    go_enter Tryd.func9, Tryd.ntmps9
    go_wp2_with (first
      | (go_at_call 19; (with_reducible refine HC.out.mono ?_); rintro e w1 ⟨rfl, hb1⟩; have HRD := hid (qread_Read a len cap xs w1 (HR.out.below hb1) hN (HT.out.below hb1) (HM.out.below hb1)))
      | (go_at_call 12; (with_reducible refine HRD.out.mono ?_); rintro e w2 ⟨a2, c2, rfl, hr2, hb2⟩; have hb2' := below_then hb1 hb2))
    go_ret2
    exact ⟨_, _, _, rfl, hr2, hb2'⟩
  · rw [if_neg h0]
    have hne : (E != 0) = true := by simpa using h0
    go_enter Tryd.func9, Tryd.ntmps9
    go_wp2_with (go_at_call 19; (with_reducible refine HC.out.mono ?_); rintro e w1 ⟨rfl, hb1⟩)
    go_ret2
    exact ⟨_, _, _, rfl, Reads.nil _ _ _ _ (Nat.zero_le _), hb1⟩
set_option maxRecDepth 100000 in
set_option maxHeartbeats 1000000 in
theorem qread_Again (a : Option Addr) (len cap : Nat) (xs : List Int) (w : World) (hr : Reads .u8 w a len cap xs) (hN : len < 1000000) (hT : Tabs w) (hm : Mx w) :
    Calls Tryd.prog 14 #[.slice a len cap] w fun e w' => ∃ a' l' c', e = .returned (.slice a' l' c') ∧ Reads .u8 w' a' l' c' (layQ (readS xs)) ∧ Below w.heap.size w w' := by
  have hsh := readS_short xs
  rw [hr.size] at hsh
  have HRD := hid (qread_Read a len cap xs w hr hN hT hm)
  obtain ⟨L, hL⟩ : ∃ L, L = (readS xs).length := ⟨_, rfl⟩
  rw [← hL] at hsh HRD
  clear hr hL
  go_enter Tryd.func14, Tryd.ntmps14
  go_wp2_with (first
    | (go_at_call 12; (with_reducible refine HRD.out.mono ?_); rintro e w1 ⟨a1, c1, rfl, hr1, hb1⟩)
    | (go_at_call 25; (with_reducible refine (qpage_Lay _ _ _ _ _ hr1 (by omega)).mono ?_); rintro e w2 ⟨a2, l2, c2, rfl, hr2, hb2⟩; have hb2' := below_then hb1 hb2))
  go_ret
  exact ⟨_, _, _, rfl, hr2, hb2'⟩
end Go.Proofs.YtpdoehdmeojmkaaDoor
