/-
  Texts of ours laid together: D24b, Pre, C24a.
-/
import Derived.Test.YtiacijodoojgoaaDoorRows
import Derived.Test.YtiacijodoojgoaaDoorZ15

/-! D24b -/
namespace Go.Proofs.YtiacijodoojgoaaDoor
open Go.RowKit
set_option linter.unusedVariables false

def notP (c : Int) : Bool := !mbPrt c
def notM (c : Int) : Bool := !isM c
/-- What is laid of signs that are in no run. -/
def plP (t : List Int) : List Int := t.flatMap fun c => if c = 38 then [38, 45] else [c]
theorem plP_nil : plP [] = [] := rfl
theorem plP_cons (c : Int) (t : List Int) : plP (c :: t) = (if c = 38 then [38, 45] else [c]) ++ plP t := rfl
theorem plP_snoc (t : List Int) (c : Int) : plP (t ++ [c]) = plP t ++ (if c = 38 then [38, 45] else [c]) := by simp [plP, List.flatMap_append]
theorem plP_len : ∀ t : List Int, (plP t).length ≤ 2 * t.length
  | [] => Nat.le_refl _
  | c :: t => by
    have := plP_len t
    rw [plP_cons, List.length_append, List.length_cons]
    split <;> simp only [List.length_cons, List.length_nil] <;> omega
theorem ahead_mb : ∀ (p r : List Int), (∀ c ∈ p, mbPrt c = true) → mbLay (p ++ r) [] = plP p ++ mbLay r [] ∧ mbRuns (p ++ r) false = mbRuns r false
  | [], r, _ => ⟨rfl, rfl⟩
  | c :: p, r, h => by
    obtain ⟨i1, i2⟩ := ahead_mb p r (fun x hx => h x (List.mem_cons_of_mem _ hx))
    have hc := h c (List.mem_cons_self ..)
    refine ⟨?_, ?_⟩
    · by_cases h38 : c = 38
      · subst h38
        rw [List.cons_append, mbLay_amp, plP_cons, if_pos rfl, i1]; rfl
      · rw [List.cons_append, mbLay_dir hc h38, plP_cons, if_neg h38, i1]; rfl
    · rw [List.cons_append, mbRuns, if_pos hc, i2]
theorem mbRuns_on : ∀ (u r : List Int), (∀ c ∈ u, mbPrt c = false) → mbRuns (u ++ r) true = mbRuns r true
  | [], r, _ => rfl
  | c :: u, r, h => by
    rw [List.cons_append, mbRuns, if_neg (by rw [h c (List.mem_cons_self ..)]; decide), if_pos rfl, Nat.zero_add, mbRuns_on u r (fun x hx => h x (List.mem_cons_of_mem _ hx))]
theorem mbRuns_stop {r : List Int} (h : mbStop r) : mbRuns r true = mbRuns r false := by
  rcases h with rfl | ⟨c, s, rfl, hc⟩
  · rfl
  · rw [mbRuns, mbRuns, if_pos hc, if_pos hc]
/-- What is laid of one step; is there a run in it? -/
def stL (p : List Int × List Int) : List Int := plP p.1 ++ mbClose p.2
def stR (p : List Int × List Int) : Bool := decide (0 < p.2.length)
def outS (P : List (List Int × List Int)) : List Int := P.flatMap stL
def cntS (P : List (List Int × List Int)) : Nat := P.countP stR
theorem outS_snoc (P : List (List Int × List Int)) (p : List Int × List Int) : outS (P ++ [p]) = outS P ++ stL p := by simp [outS]
theorem cntS_snoc (P : List (List Int × List Int)) (p : List Int × List Int) : cntS (P ++ [p]) = cntS P + if 0 < p.2.length then 1 else 0 := by
  unfold cntS
  rw [List.countP_append]
  simp [List.countP_cons, stR]
/-- One step: what stands ahead of a run, the run, the rest. -/
theorem mb_step (xs : List Int) : ∃ m j, m = cntF notP xs ∧ j = cntF mbPrt (xs.drop m) ∧ m ≤ xs.length ∧ m + j ≤ xs.length ∧ (xs ≠ [] → 0 < m + j) ∧
    (∀ c ∈ xs.take m, mbPrt c = true) ∧
    mbLay xs [] = stL (xs.take m, (xs.drop m).take j) ++ mbLay (xs.drop (m + j)) [] ∧
    mbRuns xs false = (if 0 < j then 1 else 0) + mbRuns (xs.drop (m + j)) false := by
  obtain ⟨m, hm⟩ : ∃ m, m = cntF notP xs := ⟨_, rfl⟩
  obtain ⟨j, hj⟩ : ∃ j, j = cntF mbPrt (xs.drop m) := ⟨_, rfl⟩
  have t1 := take_tw (fun c => !notP c) xs
  have t2 := take_tw (fun c => !mbPrt c) (xs.drop m)
  have hle1 := cntF_le notP xs
  have hle2 := cntF_le mbPrt (xs.drop m)
  have hd1 := dropWhile_head (fun c => !notP c) xs
  have hd2 := dropWhile_head (fun c => !mbPrt c) (xs.drop m)
  unfold cntF at hm hj hle1 hle2
  rw [← hm] at t1 hle1
  rw [← hj] at t2 hle2
  rw [← t1.2] at hd1
  rw [← t2.2, List.drop_drop] at hd2
  rw [List.length_drop] at hle2
  have ha : ∀ c ∈ xs.take m, mbPrt c = true := fun c hc => by
    rw [t1.1] at hc
    have := List.all_eq_true.1 (List.all_takeWhile (p := fun c => !notP c) (l := xs)) c hc
    simpa [notP] using this
  have hu : ∀ c ∈ (xs.drop m).take j, mbPrt c = false := fun c hc => by
    rw [t2.1] at hc
    have := List.all_eq_true.1 (List.all_takeWhile (p := fun c => !mbPrt c) (l := xs.drop m)) c hc
    simpa using this
  have hst : mbStop (xs.drop (m + j)) := by
    rcases hd2 with h | ⟨c, s, h, hc⟩
    · exact .inl h
    · exact .inr ⟨c, s, h, by simpa using hc⟩
  have hA := ahead_mb (xs.take m) (xs.drop m) ha
  rw [List.take_append_drop] at hA
  have hpos : xs ≠ [] → 0 < m + j := fun hne => by
    rcases Nat.eq_zero_or_pos (m + j) with h | h
    · exfalso
      have m0 : m = 0 := by omega
      have j0 : j = 0 := by omega
      subst m0
      rw [j0] at hd2
      simp only [List.drop_zero, Nat.add_zero] at hd1 hd2
      rcases hd1 with h1 | ⟨c, s, h1, hc⟩
      · exact hne h1
      · rcases hd2 with h2 | ⟨c2, s2, h2, hc2⟩
        · exact hne h2
        · rw [h1] at h2
          cases h2
          simp [notP] at hc hc2
          rw [hc] at hc2; cases hc2
    · exact h
  refine ⟨m, j, hm, hj, by omega, by omega, hpos, ha, ?_, ?_⟩
  · rw [hA.1]
    unfold stL
    rw [List.append_assoc]
    congr 1
    cases hq : (xs.drop m).take j with
    | nil =>
      have e := List.take_append_drop j (xs.drop m)
      rw [hq, List.nil_append, List.drop_drop] at e
      simp only [mbClose, if_true, List.nil_append]
      rw [e]
    | cons x u =>
      have e := List.take_append_drop j (xs.drop m)
      rw [hq, List.drop_drop, List.cons_append] at e
      rw [hq] at hu
      rw [← e, mbLay_one (hu x (List.mem_cons_self ..)) (fun y hy => hu y (List.mem_cons_of_mem _ hy)) hst]
      unfold mbClose
      rw [if_neg (by simp)]
      simp
  · rw [hA.2]
    cases hq : (xs.drop m).take j with
    | nil =>
      have e := List.take_append_drop j (xs.drop m)
      rw [hq, List.nil_append, List.drop_drop] at e
      have hl := congrArg List.length hq
      rw [List.length_take, List.length_drop, List.length_nil] at hl
      have j0 : ¬ 0 < j := by omega
      rw [if_neg j0, Nat.zero_add, e]
    | cons x u =>
      have e := List.take_append_drop j (xs.drop m)
      rw [hq, List.drop_drop, List.cons_append] at e
      rw [hq] at hu
      have hl := congrArg List.length hq
      rw [List.length_take, List.length_cons] at hl
      have j0 : 0 < j := by omega
      rw [if_pos j0, ← e, mbRuns, if_neg (by rw [hu x (List.mem_cons_self ..)]; decide), if_neg (by decide), mbRuns_on u _ (fun y hy => hu y (List.mem_cons_of_mem _ hy)), mbRuns_stop hst]
theorem stL_len (p : List Int × List Int) : (stL p).length ≤ 10 * (p.1.length + p.2.length) := by
  have h1 := plP_len p.1
  have h2 := mbClose_le p.2
  unfold stL
  rw [List.length_append]
  omega
theorem layM_len8 (t : List Int) : ∀ x ∈ mbClose t, (Lit.int .u8 x).wf = true := by
  intro x hx
  have := (mbPrt_iff x).1 (List.all_eq_true.1 (mbClose_prt t) x hx)
  exact mk_u8 (by omega) (by omega)

/-! ### a piece of what is read -/
theorem cnt_noM (r : List Int) : cntF notM r = mbD r := by
  unfold cntF mbD notM
  simp
/-- A piece as the program has it: a run's digits, or a sign. -/
def pcm (d : List Int) (s : Int) : List Int := if d = [] then [s] else mbA d
theorem mbN_amp (r : List Int) : mbN (38 :: r) = 1 + mbD r + (if hdB is45 (r.drop (mbD r)) = true then 1 else 0) := by
  have hd := ms_at r 0 (Nat.zero_le _)
  rw [List.drop_zero] at hd
  rw [mbN, if_neg (by decide), hd]
  by_cases h : 0 < mbD r
  · rw [decide_eq_true h, if_pos rfl]
  · have h0 : mbD r = 0 := by omega
    rw [decide_eq_false h, if_neg Bool.false_ne_true, h0, List.drop_zero]
    split <;> rfl
theorem mbU_amp (r : List Int) : (mbU (38 :: r)).1 = if 0 < mbD r then mbA (r.take (mbD r)) else if hdB is45 (r.drop (mbD r)) = true then [38] else [65533] := by
  have hd := ms_at r 0 (Nat.zero_le _)
  rw [List.drop_zero] at hd
  rw [mbU, if_neg (by rw [mbDir_38]; decide), if_neg (by decide), hd]
  by_cases h : 0 < mbD r
  · rw [decide_eq_true h, if_pos rfl, if_pos h, take_mbD]
  · have h0 : mbD r = 0 := by omega
    rw [decide_eq_false h, if_neg Bool.false_ne_true, if_neg h, h0, List.drop_zero]
    split <;> rfl
theorem mbU_else {x : Int} (h : x ≠ 38) (r : List Int) : mbN (x :: r) = 1 ∧ (mbU (x :: r)).1 = if mbPrt x = true then [x] else [65533] := by
  refine ⟨by rw [mbN, if_pos h], ?_⟩
  rw [mbU]
  cases hp : mbPrt x
  · have hd : mbDir x = false := by unfold mbDir; rw [hp]; rfl
    rw [if_neg (by rw [hd]; decide), if_pos h, if_neg (by decide)]
  · rw [if_pos (mbDir_of hp h), if_pos rfl]
theorem rd7_digs' {X : List Int} (h : X.all isDig = true) (hne : X ≠ []) : rd7 (43 :: X) = runT X ++ lftT X := by
  have e := take_digs (rest := []) h rfl
  rw [List.append_nil] at e
  have hh : hdB isDig X = true := by
    cases X with
    | nil => exact absurd rfl hne
    | cons x d => rw [List.all_cons, Bool.and_eq_true] at h; exact h.1
  have hd : digN X = X.length := by unfold digN; rw [e]
  have e1 : u7 (43 :: X) = (runT X ++ lftT X, runOk X, true) := by rw [u7, if_neg (by decide), if_neg (by decide), if_pos hh, e]
  have e2 : nx7 (43 :: X) = 1 + X.length := by
    rw [nx7, if_neg (by decide), if_pos hh, hd, List.drop_of_length_le (Nat.le_refl _)]; rfl
  rw [rd7_cons, e1, e2, List.drop_of_length_le (by rw [List.length_cons]; omega), rd7_nil.1, List.append_nil]
theorem mbX_dig {d : List Int} (h : d.all isM = true) : (mbX d).all isDig = true := by
  unfold mbX turnL
  rw [List.all_map, List.all_eq_true]
  exact fun c hc => (isM_dig (List.all_eq_true.1 h c hc)).1
theorem take1_45 (xs : List Int) : decide (xs.take 1 = [45]) = hdB is45 xs := by
  cases xs with
  | nil => simp [hdB]
  | cons x r => simp [hdB, is45]
/-- A run's digits behind a plus, read as layer 23 does. -/
theorem mbA_rd7 {d : List Int} (h : d.all isM = true) (hne : d ≠ []) : mbA d = rd7 (43 :: mbX d) := by
  have hX : mbX d ≠ [] := fun h0 => by
    have := mbX_len d
    rw [h0, List.length_nil] at this
    exact hne (List.eq_nil_of_length_eq_zero this.symm)
  rw [rd7_digs' (mbX_dig h) hX]
  unfold mbA
  rw [if_pos h]
end Go.Proofs.YtiacijodoojgoaaDoor

/-! Pre -/
namespace Go.Proofs.YtiacijodoojgoaaDoor
open Go.RowKit
set_option linter.unusedVariables false

theorem bytes_HasPrefix (a : Option Addr) (len cap : Nat) (xs : List Int) (a2 : Option Addr) (m cap2 : Nat) (ys : List Int) (w : World) (hr : Reads .u8 w a len cap xs) (hr2 : Reads .u8 w a2 m cap2 ys) :
    Calls Tryd.prog 82 #[.slice a len cap, .slice a2 m cap2] w fun e w' => e = .returned (.bool (decide (xs.take m = ys))) ∧ w = w' := by
  have hl := hr.len_le
  have hrm := hr.room
  have hsz := hr.size
  have hm := hr2.size
  by_cases h : m ≤ len
  · have hq := bytes_Equal _ _ _ _ _ _ _ _ w (hr.pre h) hr2
    generalize decide (xs.take m = ys) = F at hq ⊢
    have HQ := hid hq
    clear hq hr hr2 hsz hm
    go_enter Tryd.func82, Tryd.ntmps82
    go_wp2_with (go_at_call 26; (with_reducible refine HQ.out.mono ?_); rintro e w' ⟨rfl, rfl⟩)
    go_ret
    exact ⟨rfl, rfl⟩
  · have hF : decide (xs.take m = ys) = false := decide_eq_false (by intro h; have := congrArg List.length h; rw [List.length_take] at this; omega)
    rw [hF]
    have h' : len < m := by omega
    clear hr hr2 hF hsz hm h
    go_enter Tryd.func82, Tryd.ntmps82
    go_wp2_with fail
    go_ret
    exact ⟨rfl, rfl⟩
/-- bytes.CutPrefix at one octet: what is left reads as it did in w0. -/
theorem bytes_CutPrefix1 (a : Option Addr) (len cap : Nat) (xs : List Int) (a2 : Option Addr) (cap2 : Nat) (c : Int) (w0 w : World) (hr : Reads .u8 w0 a len cap xs) (hb : Below w0.heap.size w0 w) (hr2 : Reads .u8 w a2 1 cap2 [c]) :
    Calls Tryd.prog 74 #[.slice a len cap, .slice a2 1 cap2] w fun e w' => ∃ a' l' c', e = .returned (.tuple #[.slice a' l' c', .bool (decide (xs.take 1 = [c]))]) ∧ Reads .u8 w0 a' l' c' (if decide (xs.take 1 = [c]) = true then xs.drop 1 else xs) ∧ w = w' := by
  have hq := bytes_HasPrefix a len cap xs a2 1 cap2 [c] w (hr.below hb) hr2
  have hl := hr.len_le
  have hrm := hr.room
  have hsz := hr.size
  cases hh : decide (xs.take 1 = [c])
  · rw [hh] at hq
    rw [if_neg (by decide)]
    have HQ := hid hq
    have HR := hid hr
    clear hq hr hr2 hh
    go_enter Tryd.func74, Tryd.ntmps74
    go_wp2_with (go_at_call 82; (with_reducible refine HQ.out.mono ?_); rintro e w' ⟨rfl, rfl⟩)
    go_ret2
    exact ⟨_, _, _, rfl, HR.out, rfl⟩
  · rw [hh] at hq
    rw [if_pos rfl]
    have hpos : 1 ≤ len := by
      have := congrArg List.length (of_decide_eq_true hh)
      rw [List.length_take, List.length_cons, List.length_nil] at this
      omega
    have hp := hr.piece (l := 1) (r := len) hpos (Nat.le_refl _)
    rw [List.take_of_length_le (by omega)] at hp
    have HQ := hid hq
    have q1 : (1 : Int) ≤ (len : Int) := by omega
    have q3 : (1 : Int) ≤ (cap : Int) := by omega
    have q4 : (len : Int) ≤ (cap : Int) := by omega
    clear hq hr hr2 hh hsz
    by_cases hc : cap = 1
    all_goals
      first | (rw [if_pos hc] at hp; have r3 : (cap = 1) = True := eq_true hc; clear hc) | (rw [if_neg hc] at hp; have r3 : (cap = 1) = False := eq_false hc; clear hc)
      have HP := hid hp
      clear hp
      go_enter Tryd.func74, Tryd.ntmps74
      go_wp2_with (go_at_call 82; (with_reducible refine HQ.out.mono ?_); rintro e w' ⟨rfl, rfl⟩)
      go_ret2
      exact ⟨_, _, _, rfl, HP.out, rfl⟩
end Go.Proofs.YtiacijodoojgoaaDoor

/-! C24a -/
namespace Go.Proofs.YtiacijodoojgoaaDoor
open Go.RowKit
set_option linter.unusedVariables false

theorem mseven_isPlain (c : Int) (w : World) :
    Calls Tryd.prog 57 #[.int .i32 c] w fun e w' => e = .returned (.bool (mbPrt c)) ∧ w = w' := by
  by_cases h1 : 32 ≤ c
  · by_cases h2 : c ≤ 126
    · have hd : mbPrt c = true := (mbPrt_iff c).2 ⟨h1, h2⟩
      rw [hd]
      clear hd
      go_enter Tryd.func57, Tryd.ntmps57
      go_wp2_with fail
      go_ret
      exact ⟨rfl, rfl⟩
    · have hd : mbPrt c = false := by unfold mbPrt; exact decide_eq_false (fun h => h2 h.2)
      rw [hd]
      clear hd
      go_enter Tryd.func57, Tryd.ntmps57
      go_wp2_with fail
      go_ret
      exact ⟨rfl, rfl⟩
  · have hd : mbPrt c = false := by unfold mbPrt; exact decide_eq_false (fun h => h1 h.1)
    rw [hd]
    clear hd
    go_enter Tryd.func57, Tryd.ntmps57
    go_wp2_with fail
    go_ret
    exact ⟨rfl, rfl⟩
theorem mseven_Direct (c : Int) (w : World) :
    Calls Tryd.prog 39 #[.int .i32 c] w fun e w' => e = .returned (.bool (mbDir c)) ∧ Below w.heap.size w w' := by
  unfold mbDir
  have HP := hid (mseven_isPlain c w)
  cases hp : mbPrt c
  all_goals
    rw [hp] at HP
    clear hp
    by_cases h : c = 38
    · rw [decide_eq_false (by omega : ¬ c ≠ 38)]
      subst h
      go_enter Tryd.func39, Tryd.ntmps39
      go_wp2_with (go_at_call 57; (with_reducible refine HP.out.mono ?_); rintro e w' ⟨rfl, rfl⟩)
      go_ret
      exact ⟨rfl, Below.refl _ _⟩
    · have e3 : (c != 38) = true := by simpa using h
      rw [decide_eq_true h]
      clear h
      go_enter Tryd.func39, Tryd.ntmps39
      go_wp2_with (go_at_call 57; (with_reducible refine HP.out.mono ?_); rintro e w' ⟨rfl, rfl⟩)
      go_ret
      exact ⟨rfl, Below.refl _ _⟩
theorem mseven_isOther (c : Int) (w : World) (h0 : 0 ≤ c) (h1 : c ≤ 255) :
    Calls Tryd.prog 73 #[.int .u8 c] w fun e w' => e = .returned (.bool (notM c)) ∧ w = w' := by
  have hV := bmod_Value c w h0 h1
  unfold notM
  generalize isM c = D at *
  generalize valM c = V at *
  have HV := hid hV
  clear hV
  go_enter Tryd.func73, Tryd.ntmps73
  go_wp2_with (go_at_call 78; (with_reducible refine HV.out.mono ?_); rintro e w' ⟨rfl, rfl⟩)
  go_ret
  exact ⟨rfl, rfl⟩
set_option maxHeartbeats 1000000 in
theorem idx_notM (a : Option Addr) (len cap : Nat) (xs : List Int) (w : World) (hr : Reads .u8 w a len cap xs) :
    Calls Tryd.prog 67 #[.slice a len cap, .func (.func 73) #[] #[]] w fun e w' => e = .returned (.int .i64 (idxI notM xs)) ∧ w = w' := by
  have hl := hr.len_le
  have HR := hid hr
  clear hr
  go_enter Tryd.func67, Tryd.ntmps67
  go_wp2
  go_loop [8] (fun i => ∃ k : Nat, k ≤ len ∧ i = .int .i64 k ∧ Hid ((xs.take k).any notM = false)) (fun i => len - (intOf i).toNat)
  case atStart => exact ⟨0, Nat.zero_le _, rfl, rfl⟩
  case round =>
    obtain ⟨k, hk, rfl, hn⟩ := hrel
    by_cases hlt : k < len
    · obtain ⟨b, off, x, rfl, _, hc, h0, h1, hx⟩ := HR.out.get8 hlt
      cases hs : notM x
      · have H := hid hs
        go_wp2_with (go_at_call 73; (with_reducible refine (mseven_isOther _ _ h0 h1).mono ?_); rintro e w' ⟨rfl, rfl⟩; rw [hs])
        go_round
        case rel => exact ⟨k + 1, by omega, by go_num, none_yes hx.out.2 hn.out H.out⟩
        case measure => simp [intOf]; omega
      · have H := hid hs
        go_wp2_with (go_at_call 73; (with_reducible refine (mseven_isOther _ _ h0 h1).mono ?_); rintro e w' ⟨rfl, rfl⟩; rw [hs])
        go_ret
        exact ⟨ret_int (idx_hit hx.out.1 hn.out H.out).symm, rfl⟩
    · go_wp2
      go_ret
      exact ⟨ret_int (by rw [← HR.out.all (show len ≤ k by omega)]; exact (idx_none hn.out).symm), rfl⟩
theorem has_notM (a : Option Addr) (len cap : Nat) (xs : List Int) (w : World) (hr : Reads .u8 w a len cap xs) :
    Calls Tryd.prog 79 #[.slice a len cap, .func (.func 73) #[] #[]] w fun e w' => e = .returned (.bool (xs.any notM)) ∧ w = w' := by
  have hip := idx_pos notM xs
  have HI := hid (idx_notM a len cap xs w hr)
  generalize idxI notM xs = I at *
  have HP := hid hip
  clear hip hr
  go_enter Tryd.func79, Tryd.ntmps79
  go_wp2_with (go_at_call 67; (with_reducible refine HI.out.mono ?_); rintro e w' ⟨rfl, rfl⟩)
  go_ret
  exact ⟨ret_bool HP.out, rfl⟩
set_option maxHeartbeats 1000000 in
theorem mseven_cutB (fv : Value) (f : Int → Bool) (hI : ∀ a len cap xs w, Reads .u8 w a len cap xs → Calls Tryd.prog 67 #[.slice a len cap, fv] w fun e w' => e = .returned (.int .i64 (idxI f xs)) ∧ w = w')
    (a : Option Addr) (len cap : Nat) (xs : List Int) (w0 w : World) (hr : Reads .u8 w0 a len cap xs) (hb : Below w0.heap.size w0 w) :
    Calls Tryd.prog 72 #[.slice a len cap, fv] w fun e w' => ∃ m c1 a2 c2, m = cntF f xs ∧ m ≤ len ∧ e = .returned (.tuple #[.slice a m c1, .slice a2 (len - m) c2]) ∧ Reads .u8 w0 a m c1 (xs.take m) ∧ Reads .u8 w0 a2 (len - m) c2 (xs.drop m) ∧ Below w.heap.size w w' := by
  have hx := idx_cntF f xs
  have HI := hid (hI a len cap xs w (hr.below hb))
  have hrm := hr.room
  have htp := hr.len_le
  have hsz := hr.size
  obtain ⟨m, hm⟩ : ∃ m, m = cntF f xs := ⟨_, rfl⟩
  have hml : m ≤ len := by rw [hm, ← hsz]; exact cntF_le f xs
  have hp1 := hid (hr.pre hml)
  have hp2 := hr.piece (l := m) (r := len) hml (Nat.le_refl _)
  rw [List.take_of_length_le (by omega)] at hp2
  have HM := hid hm
  have q0 : (0 : Int) ≤ (m : Int) := by omega
  have q1 : (m : Int) ≤ (len : Int) := by omega
  have q2 : (m : Int) ≤ (cap : Int) := by omega
  have q3 : (len : Int) ≤ (cap : Int) := by omega
  by_cases ha : xs.any f = true
  · rw [if_pos ha, ← hm] at hx
    rw [hx] at HI
    have n0 : ¬ (m : Int) < 0 := by omega
    clear hx ha hm hI hr hsz
    by_cases hc : cap = m
    all_goals
      first | (rw [if_pos hc] at hp2; have r3 : (cap = m) = True := eq_true hc; clear hc) | (rw [if_neg hc] at hp2; have r3 : (cap = m) = False := eq_false hc; clear hc)
      have HP2 := hid hp2
      clear hp2
      go_enter Tryd.func72, Tryd.ntmps72
      go_wp2_with (go_at_call 67; (with_reducible refine HI.out.mono ?_); rintro e w' ⟨rfl, rfl⟩)
      go_quiet (fail)
      go_wp2_with fail
      go_ret2
      exact ⟨m, _, _, _, HM.out, hml, rfl, hp1.out, HP2.out, Below.drewN (Below.refl _ _) _⟩
  · rw [if_neg ha] at hx
    have ha' : xs.any f = false := by simpa using ha
    obtain rfl : m = len := by rw [hm, cntF_all ha', hsz]
    rw [hx] at HI
    clear hx ha ha' hm hI hr hsz
    by_cases hc : cap = m
    all_goals
      first | (rw [if_pos hc] at hp2; have r3 : (cap = m) = True := eq_true hc; clear hc) | (rw [if_neg hc] at hp2; have r3 : (cap = m) = False := eq_false hc; clear hc)
      have HP2 := hid hp2
      clear hp2
      go_enter Tryd.func72, Tryd.ntmps72
      go_wp2_with (go_at_call 67; (with_reducible refine HI.out.mono ?_); rintro e w' ⟨rfl, rfl⟩)
      go_quiet (fail)
      go_wp2_with fail
      go_ret2
      exact ⟨m, _, _, _, HM.out, hml, by rw [Nat.sub_self]; rfl, hp1.out, HP2.out, Below.drewN (Below.refl _ _) _⟩
end Go.Proofs.YtiacijodoojgoaaDoor
