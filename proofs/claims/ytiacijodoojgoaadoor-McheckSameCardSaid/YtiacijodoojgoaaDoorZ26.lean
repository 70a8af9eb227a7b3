/-
  Texts of ours laid together: C25a, C24.
-/
import Derived.Test.YtiacijodoojgoaaDoorZ25

/-! C25a -/
namespace Go.Proofs.YtiacijodoojgoaaDoor
open Go.RowKit
set_option linter.unusedVariables false

theorem mcY_true (xs : List Int) : mcY xs true = if mcY xs false = 0 ∧ mcH xs = true then 6 else mcY xs false := by
  cases xs with
  | nil => rfl
  | cons x r =>
    rw [mcY_cons, mcY_cons, mcH_cons]
    cases hp : mbPrt x
    · simp
    · simp only [Bool.true_eq_false, if_false]
      by_cases h38 : x ≠ 38
      · simp [h38]
      · obtain rfl : x = 38 := by omega
        simp only [ne_eq, not_true_eq_false, if_false, decide_true, Bool.true_and]
        cases h45 : hdB is45 r
        · simp only [Bool.false_eq_true, if_false]
          cases hm : hdB isM r
          · simp
          · simp only [Bool.true_eq_false, if_false]
            cases h5 : hdB is45 (r.drop (mbD r))
            · simp
            · simp only [Bool.true_eq_false, if_false]
              unfold mcRun
              by_cases h1 : mbK (r.takeWhile isM) = false ∨ mbT (r.takeWhile isM) = []
              · simp only [if_pos h1]; simp
              · simp only [if_neg h1]
                cases ha : (mbT (r.takeWhile isM)).any mbPrt
                · simp
                · simp
        · have hm : hdB isM r = false := by
            obtain ⟨s, rfl⟩ := hd45 h45
            simp [hdB, isM_45]
          simp [hm]
/-- What stands at a piece's front: of an '&', by how many digits stand behind it, and what stands behind these. -/
theorem mcY_amp0 {r : List Int} (h : mbD r = 0) : mcY (38 :: r) false = (if hdB is45 r = true then 0 else 2) ∧ mcH (38 :: r) = false ∧ (hdB is45 r = true → mbN (38 :: r) = 2) := by
  have hd := ms_at r 0 (Nat.zero_le _)
  rw [List.drop_zero, h, decide_eq_false (Nat.lt_irrefl 0)] at hd
  refine ⟨?_, ?_, fun h5 => ?_⟩
  · rw [mcY_cons, if_neg (by decide), if_neg (by decide), hd]
    split
    · rfl
    · rw [if_pos rfl]
  · rw [mcH_cons, hd]; rfl
  · rw [mbN_amp, h, List.drop_zero, h5]; rfl
theorem mcY_amp1 {r : List Int} (h : 0 < mbD r) : mcY (38 :: r) false = (if hdB is45 (r.drop (mbD r)) = true then mcRun (r.take (mbD r)) false else 3) ∧ mcH (38 :: r) = true ∧ (hdB is45 (r.drop (mbD r)) = true → mbN (38 :: r) = mbD r + 2) := by
  have hd := ms_at r 0 (Nat.zero_le _)
  rw [List.drop_zero, decide_eq_true h] at hd
  refine ⟨?_, ?_, fun h5 => ?_⟩
  · have h45 : hdB is45 r = false := by
      cases hh : hdB is45 r
      · rfl
      · obtain ⟨s, rfl⟩ := hd45 hh
        simp [hdB, isM_45] at hd
    rw [mcY_cons, if_neg (by decide), if_neg (by decide), hd, h45, if_neg (by decide), if_neg (by decide), take_mbD]
    cases hdB is45 (r.drop (mbD r))
    · rw [if_pos rfl, if_neg (by decide)]
    · rw [if_neg (by decide), if_pos rfl]
  · rw [mcH_cons, hd]; rfl
  · rw [mbN_amp, h5, if_pos rfl]; omega

theorem mcheck_isOther (c : Int) (w : World) (h0 : 0 ≤ c) (h1 : c ≤ 255) :
    Calls Tryd.prog 68 #[.int .u8 c] w fun e w' => e = .returned (.bool (notM c)) ∧ w = w' := by
  have hV := bmod_Value c w h0 h1
  unfold notM
  generalize isM c = D at *
  generalize valM c = V at *
  have HV := hid hV
  clear hV
  go_enter Tryd.func68, Tryd.ntmps68
  go_wp2_with (go_at_call 78; (with_reducible refine HV.out.mono ?_); rintro e w' ⟨rfl, rfl⟩)
  go_ret
  exact ⟨rfl, rfl⟩
set_option maxHeartbeats 1000000 in
theorem idx_otherC (a : Option Addr) (len cap : Nat) (xs : List Int) (w : World) (hr : Reads .u8 w a len cap xs) :
    Calls Tryd.prog 67 #[.slice a len cap, .func (.func 68) #[] #[]] w fun e w' => e = .returned (.int .i64 (idxI notM xs)) ∧ w = w' := by
  have hl := hr.len_le
  have HR := hid hr
  clear hr
  go_enter Tryd.func67, Tryd.ntmps67
  go_wp2
  go_loop [8] (fun i => ∃ k : Nat, k ≤ len ∧ i = .int .i64 k ∧ Hid ((xs.take k).any notM = false)) (fun i => len - (intOf i).toNat)
  case atStart => exact ⟨0, Nat.zero_le _, rfl, rfl⟩
  case round =>
    obtain ⟨k, hk, rfl, hn⟩ := hrel
    by_cases hlt : k < len
    · obtain ⟨b, off, x, rfl, _, hc, h0, h1, hx⟩ := HR.out.get8 hlt
      cases hs : notM x
      · have H := hid hs
        go_wp2_with (go_at_call 68; (with_reducible refine (mcheck_isOther _ _ h0 h1).mono ?_); rintro e w' ⟨rfl, rfl⟩; rw [hs])
        go_round
        case rel => exact ⟨k + 1, by omega, by go_num, none_yes hx.out.2 hn.out H.out⟩
        case measure => simp [intOf]; omega
      · have H := hid hs
        go_wp2_with (go_at_call 68; (with_reducible refine (mcheck_isOther _ _ h0 h1).mono ?_); rintro e w' ⟨rfl, rfl⟩; rw [hs])
        go_ret
        exact ⟨ret_int (idx_hit hx.out.1 hn.out H.out).symm, rfl⟩
    · go_wp2
      go_ret
      exact ⟨ret_int (by rw [← HR.out.all (show len ≤ k by omega)]; exact (idx_none hn.out).symm), rfl⟩
theorem mcheck_needsNone (c : Int) (w : World) :
    Calls Tryd.prog 71 #[.int .i32 c] w fun e w' => e = .returned (.bool (mbPrt c)) ∧ Below w.heap.size w w' := by
  have HP := mseven_Direct c w
  unfold mbDir at HP
  cases hp : mbPrt c
  · rw [hp, Bool.false_and] at HP
    have h38 : (c == 38) = false := by
      have : ¬ c = 38 := fun h => by subst h; cases hp
      simpa using this
    have H := hid HP
    clear hp HP
    go_enter Tryd.func71, Tryd.ntmps71
    go_wp2_with (go_at_call 39; (with_reducible refine H.out.mono ?_); rintro e w' ⟨rfl, hb⟩)
    go_ret
    exact ⟨rfl, hb⟩
  · by_cases h : c = 38
    · subst h
      have H : Hid (Calls Tryd.prog 39 #[.int .i32 38] w fun e w' => e = .returned (.bool false) ∧ Below w.heap.size w w') := HP
      clear hp HP
      go_enter Tryd.func71, Tryd.ntmps71
      go_wp2_with (go_at_call 39; (with_reducible refine H.out.mono ?_); rintro e w' ⟨rfl, hb⟩)
      go_ret
      exact ⟨rfl, hb⟩
    · rw [hp, decide_eq_true h, Bool.true_and] at HP
      have H := hid HP
      clear hp HP
      go_enter Tryd.func71, Tryd.ntmps71
      go_wp2_with (go_at_call 39; (with_reducible refine H.out.mono ?_); rintro e w' ⟨rfl, hb⟩)
      go_ret
      exact ⟨rfl, hb⟩
set_option maxHeartbeats 1000000 in
theorem idx_needsNone (a : Option Addr) (len cap : Nat) (xs : List Int) (w : World) (hr : Reads .i32 w a len cap xs) :
    Calls Tryd.prog 81 #[.slice a len cap, .func (.func 71) #[] #[]] w fun e w' => e = .returned (.int .i64 (idxI mbPrt xs)) ∧ Below w.heap.size w w' := by
  have hl := hr.len_le
  have HR := hid hr
  clear hr
  go_enter Tryd.func81, Tryd.ntmps81
  go_wp2
  go_loopw [8] (fun i wr => ∃ k : Nat, k ≤ len ∧ i = .int .i64 k ∧ Hid ((xs.take k).any mbPrt = false) ∧ Below w.heap.size w wr) (fun i _ => len - (intOf i).toNat)
  case atStart => exact ⟨0, Nat.zero_le _, rfl, rfl, Below.refl _ _⟩
  case round =>
    obtain ⟨k, hk, rfl, hn, hbel⟩ := hrel
    by_cases hlt : k < len
    · obtain ⟨b, off, x, rfl, _, hc, h0, h1, hx⟩ := (HR.out.below hbel).getR hlt
      cases hs : mbPrt x
      · have H := hid hs
        go_wp2_with (go_at_call 71; (with_reducible refine (mcheck_needsNone _ _).mono ?_); rintro e w' ⟨rfl, hb⟩; rw [hs])
        go_roundw
        case rel => exact ⟨k + 1, by omega, by go_num, none_yes hx.out.2 hn.out H.out, below_then hbel hb⟩
        case measure => simp [intOf]; omega
      · have H := hid hs
        go_wp2_with (go_at_call 71; (with_reducible refine (mcheck_needsNone _ _).mono ?_); rintro e w' ⟨rfl, hb⟩; rw [hs])
        go_ret
        exact ⟨ret_int (idx_hit hx.out.1 hn.out H.out).symm, below_then hbel hb⟩
    · go_wp2
      go_ret
      exact ⟨ret_int (by rw [← HR.out.all (show len ≤ k by omega)]; exact (idx_none hn.out).symm), hbel⟩
theorem has_needsNone (a : Option Addr) (len cap : Nat) (xs : List Int) (w : World) (hr : Reads .i32 w a len cap xs) :
    Calls Tryd.prog 70 #[.slice a len cap, .func (.func 71) #[] #[]] w fun e w' => e = .returned (.bool (xs.any mbPrt)) ∧ Below w.heap.size w w' := by
  have hip := idx_pos mbPrt xs
  have HI := hid (idx_needsNone a len cap xs w hr)
  generalize idxI mbPrt xs = I at *
  have HP := hid hip
  clear hip hr
  go_enter Tryd.func70, Tryd.ntmps70
  go_wp2_with (go_at_call 81; (with_reducible refine HI.out.mono ?_); rintro e w' ⟨rfl, hb⟩)
  go_ret
  exact ⟨ret_bool HP.out, hb⟩
set_option maxHeartbeats 1000000 in
theorem mcheck_whyRun (a : Option Addr) (len cap : Nat) (xs : List Int) (w : World) (hr : Reads .u8 w a len cap xs) (hN : len < 100000) :
    Calls Tryd.prog 56 #[.slice a len cap] w fun e w' => e = .returned (.int .i64 (mcRun xs false)) ∧ Below w.heap.size w w' := by
  have HR := hid (mseven_Run a len cap xs w hr hN)
  have HC := hid (fun a2 l2 c2 W (h : Reads .i32 W a2 l2 c2 (mbT xs)) => has_needsNone a2 l2 c2 (mbT xs) W h)
  clear hr
  unfold mcRun
  cases hk : mbK xs
  · rw [if_pos (.inl rfl)]
    rw [hk] at HR
    clear hk
    go_enter Tryd.func56, Tryd.ntmps56
    go_wp2_with (go_at_call 69; (with_reducible refine HR.out.mono ?_); rintro e w1 ⟨a1, l1, c1, rfl, r1, hb1⟩)
    go_ret
    exact ⟨rfl, hb1⟩
  · rw [hk] at HR
    clear hk
    by_cases hT : mbT xs = []
    · rw [if_pos (.inr hT)]
      rw [hT] at HR
      clear hT
      go_enter Tryd.func56, Tryd.ntmps56
      go_wp2_with (go_at_call 69; (with_reducible refine HR.out.mono ?_); rintro e w1 ⟨a1, l1, c1, rfl, r1, hb1⟩; obtain rfl : 0 = l1 := r1.size)
      go_ret
      exact ⟨rfl, hb1⟩
    · rw [if_neg (by simp [hT])]
      have hp : 0 < (mbT xs).length := List.length_pos_iff.2 hT
      generalize mbT xs = T at *
      cases hy : T.any mbPrt
      all_goals
        rw [hy] at HC
        clear hy hT
        have HP := hid hp
        clear hp
        go_enter Tryd.func56, Tryd.ntmps56
        go_wp2_with (first
          | (go_at_call 69; (with_reducible refine HR.out.mono ?_); rintro e w1 ⟨a1, l1, c1, rfl, r1, hb1⟩; have hl1 : ((l1 : Int) == 0) = false := (by have h1 := r1.size; have h2 := HP.out; have : ¬ (l1 : Int) = 0 := (by omega); simpa using this))
          | (go_at_call 70; (with_reducible refine (HC.out _ _ _ _ r1).mono ?_); rintro e w2 ⟨rfl, hb2⟩))
        go_ret
        exact ⟨rfl, below_then hb1 hb2⟩
set_option maxHeartbeats 1000000 in
theorem mcheck_cutDigits (a : Option Addr) (len cap : Nat) (xs : List Int) (w : World) (hr : Reads .u8 w a len cap xs) :
    Calls Tryd.prog 55 #[.slice a len cap] w fun e w' => ∃ m c1 a2 c2, m = mbD xs ∧ m ≤ len ∧ e = .returned (.tuple #[.slice a m c1, .slice a2 (len - m) c2]) ∧ Reads .u8 w' a m c1 (xs.take m) ∧ Reads .u8 w' a2 (len - m) c2 (xs.drop m) ∧ Below w.heap.size w w' := by
  have hx := idx_cntF notM xs
  have HI := hid (idx_otherC a len cap xs w hr)
  have hrm := hr.room
  have htp := hr.len_le
  have hsz := hr.size
  rw [← cnt_noM]
  obtain ⟨m, hm⟩ : ∃ m, m = cntF notM xs := ⟨_, rfl⟩
  have hml : m ≤ len := by rw [hm, ← hsz]; exact cntF_le notM xs
  have hp1 := hid (hr.pre hml)
  have hp2 := hr.piece (l := m) (r := len) hml (Nat.le_refl _)
  rw [List.take_of_length_le (by omega)] at hp2
  have HM := hid hm
  have q0 : (0 : Int) ≤ (m : Int) := by omega
  have q1 : (m : Int) ≤ (len : Int) := by omega
  have q2 : (m : Int) ≤ (cap : Int) := by omega
  have q3 : (len : Int) ≤ (cap : Int) := by omega
  by_cases ha : xs.any notM = true
  · rw [if_pos ha, ← hm] at hx
    rw [hx] at HI
    have n0 : ¬ (m : Int) < 0 := by omega
    clear hx ha hm hr hsz
    by_cases hc : cap = m
    all_goals
      first | (rw [if_pos hc] at hp2; have r3 : (cap = m) = True := eq_true hc; clear hc) | (rw [if_neg hc] at hp2; have r3 : (cap = m) = False := eq_false hc; clear hc)
      have HP2 := hid hp2
      clear hp2
      go_enter Tryd.func55, Tryd.ntmps55
      go_wp2_with (go_at_call 67; (with_reducible refine HI.out.mono ?_); rintro e w' ⟨rfl, rfl⟩)
      go_quiet (fail)
      go_wp2_with fail
      go_ret2
      have hb := Below.drewN (Below.refl w.heap.size w)
      exact ⟨m, _, _, _, HM.out, hml, rfl, hp1.out.below (hb _), HP2.out.below (hb _), hb _⟩
  · rw [if_neg ha] at hx
    have ha' : xs.any notM = false := by simpa using ha
    obtain rfl : m = len := by rw [hm, cntF_all ha', hsz]
    rw [hx] at HI
    clear hx ha ha' hm hr hsz
    by_cases hc : cap = m
    all_goals
      first | (rw [if_pos hc] at hp2; have r3 : (cap = m) = True := eq_true hc; clear hc) | (rw [if_neg hc] at hp2; have r3 : (cap = m) = False := eq_false hc; clear hc)
      have HP2 := hid hp2
      clear hp2
      go_enter Tryd.func55, Tryd.ntmps55
      go_wp2_with (go_at_call 67; (with_reducible refine HI.out.mono ?_); rintro e w' ⟨rfl, rfl⟩)
      go_quiet (fail)
      go_wp2_with fail
      go_ret2
      have hb := Below.drewN (Below.refl w.heap.size w)
      exact ⟨m, _, _, _, HM.out, hml, by rw [Nat.sub_self]; rfl, hp1.out.below (hb _), HP2.out.below (hb _), hb _⟩
end Go.Proofs.YtiacijodoojgoaaDoor

/-! C24 -/
namespace Go.Proofs.YtiacijodoojgoaaDoor
open Go.RowKit Go.Shelf
set_option linter.unusedVariables false
attribute [local go_sem] Oper.semAt_some

theorem outS_len {w0 : World} {L : Nat} : ∀ pre : List (Rn w0 L), (outS (pre.map Rn.val)).length ≤ pre.length * (10 * L)
  | [] => by simp [outS]
  | x :: pre => by
    have ih := outS_len pre
    have hx := stL_len x.val
    have h1 : x.val.1.length = x.m := x.hp.size
    have h2 : x.val.2.length = x.j := x.hr.size
    have h3 := x.hl
    have e : outS ((x :: pre).map Rn.val) = stL x.val ++ outS (pre.map Rn.val) := by simp [outS]
    rw [e, List.length_append, List.length_cons, Nat.add_mul]
    omega
theorem outS_wf (P : List (List Int × List Int)) (h : ∀ p ∈ P, ∀ x ∈ p.1, mbPrt x = true) : ∀ y ∈ outS P, (Lit.int .u8 y).wf = true := by
  intro y hy
  obtain ⟨p, hp, hy⟩ := List.mem_flatMap.1 hy
  unfold stL at hy
  rcases List.mem_append.1 hy with hy | hy
  · obtain ⟨c, hc, hy⟩ := List.mem_flatMap.1 hy
    have := (mbPrt_iff c).1 (h p hp c hc)
    split at hy
    · simp at hy
      rcases hy with rfl | rfl <;> decide
    · simp at hy
      subst hy
      exact mk_u8 (by omega) (by omega)
  · exact layM_len8 _ y hy
theorem outM_len {w0 : World} {L : Nat} : ∀ pre : List (Pm w0 L), (outM pre).length ≤ pre.length * (L + 1)
  | [] => by simp [outM]
  | x :: pre => by
    have ih := outM_len pre
    have hl := x.hl
    have hs := x.hr.size
    have hx : x.val.length ≤ L + 1 := by
      have h := mbA_len x.d
      unfold Pm.val pcm
      split
      · simp
      · omega
    have e : outM (x :: pre) = x.val ++ outM pre := by simp [outM]
    rw [e, List.length_append, List.length_cons, Nat.add_mul]
    omega
section
variable {F : Fence} {n : Nat} {P : Program} {ops : Array Oper} {rest : List Oper} {o : Oper} {a : Act} {K : Act → World → Prop} {Q : Exit → Act → World → Prop} {E : Prop} {t e : TypeId} {k : IntKind} {by_ : Nat}
/-- 'append(v, ys...)' where v lies in a box, as an operation of a region that draws its order. -/
theorem opIn_more1 (ST : SliceT P t e k by_) {s x : Operand} (ho : o.op = .call { callee := .builtin .append, args := #[s, x], argTypes := #[t, t] }) (hgd : o.guard = none)
    {W : World} {v : Value} {xs ys : List Int} {n₀ B : Nat} {ad : Option Addr} {m c : Nat} (hs : a.eval s = v) (hx : a.eval x = .slice ad m c)
    (hv : Boxed W B t v) (hte : t ≠ e) (hown : Row k e n₀ W v xs) (hn₀ : n₀ ≤ W.heap.size) (hB : n₀ ≤ B) (hr : Reads k W ad m c ys) (hlen : xs.length + m < 1000000000000)
    (h : ∀ a' l' c' w1, More1 t e k n₀ B W w1 v (.slice a' l' c') (xs ++ ys) → K (a.put o.dst (.slice a' l' c')) w1) :
    if Region.wanted o (yielded ops a.tmps) = true then Oper.wpIn F n P o a W K Q else E := by
  have hw : Region.wanted o (yielded ops a.tmps) = true := by simp [Region.wanted, hgd]
  rw [if_pos hw]
  obtain ⟨v', w1, hrun, hp⟩ := run_more1 (P := P) ST o.type hv hte hown hn₀ hB hr hlen
  unfold Oper.wpIn
  refine ⟨?_, ?_⟩
  · simp [Oper.about, ho, resolve, Target.leads, Sem.run_pure]
  · rw [Oper.semAt_plain F _ _ (by rw [ho]; intro c hc'; cases hc')]
    simp [execOp, ho, resolve, invoke, builtin, hs, hx, hrun, Result.andThen]
    obtain ⟨a', c', rfl⟩ := hp.own.shape
    exact h _ _ _ _ hp
end
set_option maxRecDepth 100000 in
set_option maxHeartbeats 4000000 in
theorem mseven_Read (a : Option Addr) (len cap : Nat) (xs : List Int) (w : World) (hr : Reads .u8 w a len cap xs) (hN : len < 90000) :
    Calls Tryd.prog 20 #[.slice a len cap] w fun e w' => ∃ a' l' c', e = .returned (.slice a' l' c') ∧ Reads .i32 w' a' l' c' (mbRd xs) ∧ Below w.heap.size w w' := by
  have hl := hr.len_le
  have HLL := hid (fun pre : List (Pm w len) => outM_len pre)
  refine (callsIn_wide (n := 4)).1 ?_
  refine callsIn_of_wp_marks Tryd.func20 rfl trivial ?_ rfl
  simp only [Tryd.ntmps20, List.size_toArray, List.length_cons, List.length_nil, Nat.reduceAdd, Nat.reduceSub, Array.replicate_succ, Array.replicate_zero, List.push_toArray, List.append_toArray, List.nil_append, List.cons_append]
  gi_wp2_with (refine ⟨trivial, ?_⟩; gi_at_call 29; (with_reducible refine (mseven_pieces _ _ _ _ _).mono ?_); rintro e w' ⟨rfl, rfl⟩)
  obtain ⟨b1, b2, hB0⟩ := two_boxes w 30 22 (.slice none 0 0) (.slice a len cap)
  refine wpIn_rangeFunc_ownG rfl (by omega) (gf := 41) (lb := #[.pointer (some ⟨w.heap.size + 1, 0, none⟩)]) rfl trivial (enters_of Tryd.func41 (by kernel_rfl) rfl)
    (mpieces_stops 3 (w.heap.size + 1) w.heap.size (by omega) a len cap xs w _ hr (Nat.le_refl _) hB0.size hB0 (by simp) b2) (fun h k => h.trans k) (belowK_b hB0.size) (Below.refl _ _) (fun _ => rfl)
    (fun pre W => (∃ v, Boxed W w.heap.size 30 v ∧ Row .i32 21 w.heap.size W v (outM pre)) ∧ Below w.heap.size w W)
    (fun _ _ _ => False)
    (OwnFrom.and (own_rowO _ _ _ _ _ _ (fun pre : List (Pm w len) => outM pre)) (ownFrom_below (Nat.le_refl _) hB0.size)) (fun _ _ _ _ _ hs _ _ => hs)
    ⟨⟨_, b1, World.ownsRow_nil _ _ _ _⟩, hB0⟩
    (fun x => { tmps := #[.slice a len cap, undef, .slice none 0 0, .pointer (some ⟨w.heap.size, 0, none⟩), .slice x.a x.m x.c, .int .i32 x.s, .slice a len cap, .func (.func 41) #[] #[.pointer (some ⟨w.heap.size + 1, 0, none⟩)], .slice x.a x.m x.c, .int .i32 x.s, undef, undef, undef, undef, undef, undef, undef, undef, undef, undef, undef, undef], defers := [] }) ?assign ?body ?done ?stop
  case assign =>
    intro l x W K hK
    dsimp only [Pm.enc]
    gi_wp2
    exact hK
  case body =>
    rintro l pre x W ⟨⟨v, hv, hrow⟩, hB⟩ hlt
    have hlo := HLL.out pre
    have hmul : pre.length * (len + 1) ≤ 90000 * 90000 := Nat.mul_le_mul (by omega) (by omega)
    have hc := hv.cell
    have hsx := x.hr.size
    have hOs := hid (show outM (pre ++ [x]) = outM pre ++ x.val from outM_snoc _ _)
    by_cases hm : 0 < x.m
    · have hne : x.d ≠ [] := fun h => by rw [h, List.length_nil] at hsx; omega
      have hval : x.val = mbA x.d := by unfold Pm.val pcm; rw [if_neg hne]
      rw [hval] at hOs
      have hlx := x.hl
      have HS := hid (fun W2 (hb2 : Below w.heap.size w W2) => mseven_signs x.a x.m x.c x.d W2 (x.hr.below hb2) (by omega) x.hd hm)
      have hAl := mbA_len x.d
      rw [hsx] at hAl
      have HAL := hid hAl
      clear hval hAl hne
      gi_wp2_with fail
      refine wpIn_region_any (by kernel_rfl) ?_
      change wpAnyIn _ _ _ _ _ _ 5 _ _ (World.drew _)
      have q1 : W.drew.cell? ⟨w.heap.size, 0, none⟩ = some v := hc
      have hBd := below_drew hB
      repeat' (first
        | exact AllReadyIn.nil
        | with_reducible refine wpAnyIn_ready (rs := [0, 1]) (by decide +kernel) (by simp) ?_
        | with_reducible refine wpAnyIn_ready (rs := [0, 2]) (by decide +kernel) (by simp) ?_
        | with_reducible refine wpAnyIn_ready (rs := [0]) (by decide +kernel) (by simp) ?_
        | with_reducible refine wpAnyIn_ready (rs := [1]) (by decide +kernel) (by simp) ?_
        | with_reducible refine wpAnyIn_ready (rs := [2]) (by decide +kernel) (by simp) ?_
        | with_reducible refine wpAnyIn_ready (rs := [3]) (by decide +kernel) (by simp) ?_
        | with_reducible refine wpAnyIn_ready (rs := [4]) (by decide +kernel) (by simp) ?_
        | ((with_reducible change AllReadyIn _ _ _ _ _ _ _ _ _ _ _); apply ready_cons; exact rfl; intro K hK)
        | (refine opIn_more1 CTR rfl rfl rfl rfl hv3 (by decide) hrow3 hn3 (Nat.le_refl _) r3 (by have := HAL.out; have := r3.size; omega) ?_; intro a4 l4 c4 w4 hp4; have f4 := hp4.box.frozen; have e4 := hp4.box.cell; refine hK _ _ ?_; clear hK K)
        | (go_simp; refine ⟨trivial, ?_⟩; (with_reducible refine (CallsIn.inRound l (callsIn_wide.2 (HS.out _ hBd))).mono ?_); rintro e w3 ⟨a3, l3, c3, rfl, r3, hb3⟩; have hv3 : Boxed w3 w.heap.size 30 v := Boxed.below (W := W.drew) hv hb3; have q3 := hv3.cell; have hrow3 : Row .i32 21 w.heap.size w3 v (outM pre) := Row.below (w := W.drew) hrow hb3; have hb3' := below_then hBd hb3; have hn3 := hb3'.size; refine hK _ _ ?_; clear hK K)
        | (go_simp; refine hK _ _ ?_; clear hK K)
        | with_reducible refine wpAnyIn_done (by decide +kernel) ?_ _)
      all_goals
        have hbd : Below w.heap.size W W.drew := below_drew (Below.refl _ W)
        have hb3w : Below w.heap.size W.drew w3 := hb3.mono hB.size
        have hbW := (hbd.trans hb3w).trans hp4.below
        have hk0 : KeepsOthers W W.drew := keeps_below (below_drew (Below.refl _ W))
        exact ⟨((hk0.trans (keeps_below hb3)).trans hp4.keeps).from _, hbW, ⟨_, hp4.put, by rw [hOs.out]; exact hp4.own⟩, hB.trans hbW⟩
    · have hd : x.d = [] := List.eq_nil_of_length_eq_zero (by omega)
      have hval : x.val = [x.s] := by unfold Pm.val pcm; rw [if_pos hd]
      rw [hval] at hOs
      have h0 := x.h0
      have h1 := x.h1
      clear hval hd hsx
      gi_wp2_with (gi_at_builtin; refine wpListIn_push1 CTR rfl _ _ rfl rfl ⟨_, rfl⟩ hv (by decide) hrow hB.size (Nat.le_refl _) (by omega) ?_; intro g' cap' w3 hp; have hc1 := hp.box.cell; have hf1 := hp.box.frozen)
      exact ⟨hp.keeps.from _, hp.below, ⟨_, hp.put, by rw [hOs.out]; exact hp.own⟩, hB.trans hp.below⟩
  case done =>
    rintro D ys W hD hys ⟨⟨v, hv, hrow⟩, hB⟩ hK
    rw [hys] at hrow
    have hc := hv.cell
    gi_wp2
    refine ⟨by simp, .inl ⟨_, _, rfl, run_takeDeferred hK, ?_⟩⟩
    obtain ⟨a', cap', rfl, hrd⟩ := ((hrow.putObj (.deferred none) hK rfl).own (mbRd_wf xs)).reads
    exact ⟨_, results_tmp rfl _ _ _, a', _, cap', rfl, hrd, hB.trans (belowK_b (w := w) (Nat.le_refl _) W D _ _ (by simp at hD; omega) hK rfl rfl)⟩
  case stop =>
    rintro D c pre W _ _ h _
    exact h.elim
end Go.Proofs.YtiacijodoojgoaaDoor
