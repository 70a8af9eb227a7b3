/-
  Texts of ours laid together: Byt, D29b.
-/
import Derived.Test.YtplceogclmgnnaaGreatRows
import Derived.Lib.BytesEntry
import Derived.Test.YtplceogclmgnnaaGreatZ10

/-! Byt -/
namespace Go.Proofs.YtplceogclmgnnaaGreat
open Go.RowKit
set_option linter.unusedVariables false

/-- The place of the first c, or -1. -/
def idxO (c : Int) (xs : List Int) : Int := idxI (fun x => decide (x = c)) xs
def notO (c : Int) (x : Int) : Bool := decide (x ≠ c)

theorem idx_cons (f : Int → Bool) (x : Int) (t : List Int) : idxI f (x :: t) = if f x then 0 else if idxI f t = -1 then -1 else idxI f t + 1 := by
  unfold idxI
  rw [List.findIdx?_cons]
  by_cases hf : f x = true
  · rw [if_pos hf, if_pos hf]; rfl
  · rw [if_neg hf, if_neg hf]
    cases h : t.findIdx? f with
    | none => rfl
    | some i =>
      have : ¬ ((i : Int) = -1) := by omega
      simp [this]
theorem lib_idx (c : Int) (h0 : 0 ≤ c) (h1 : c ≤ 255) : ∀ xs : List Int, (∀ x ∈ xs, (Lit.int .u8 x).wf = true) → Lib.indexByte (Lib.bytesOf xs) c.toNat.toUInt8 = idxO c xs
  | [], _ => rfl
  | x :: t, h => by
    have hx := wf_u8 (h x (List.mem_cons_self ..))
    have ih := lib_idx c h0 h1 t (fun y hy => h y (List.mem_cons_of_mem _ hy))
    unfold idxO at ih ⊢
    rw [idx_cons, ← ih]
    have he : (x.toNat.toUInt8 == c.toNat.toUInt8) = decide (x = c) := by
      rw [u8_eq _ _ h0 h1, Bool.eq_iff_iff, beq_iff_eq, decide_eq_true_iff]
      have : (x.toNat.toUInt8.toNat : Int) = x := by simp; omega
      rw [this]
    show Lib.indexByte (x.toNat.toUInt8 :: Lib.bytesOf t) c.toNat.toUInt8 = _
    rw [Lib.indexByte, he]
    simp only [beq_iff_eq]
theorem idxO_bd (c : Int) (xs : List Int) : -1 ≤ idxO c xs ∧ idxO c xs ≤ xs.length := idx_bd _ _
/-- None: all stays; one: what is ahead of it, and that it lies inside. -/
theorem idxO_none {c : Int} {xs : List Int} (h : ¬ 0 ≤ idxO c xs) : xs.takeWhile (notO c) = xs := by
  have key : ∀ l : List Int, (∀ x ∈ l, notO c x = true) → l.takeWhile (notO c) = l := by
    intro l
    induction l with
    | nil => intro _; rfl
    | cons y l ih => intro hl; rw [List.takeWhile_cons_of_pos (hl y (List.mem_cons_self ..)), ih (fun x hx => hl x (List.mem_cons_of_mem _ hx))]
  refine key xs fun x hx => ?_
  have h2 := idx_pos (fun x => decide (x = c)) xs
  rw [decide_eq_false (by exact h)] at h2
  have := List.any_eq_false.1 h2.symm x hx
  simpa [notO] using this
theorem idxO_some {c : Int} : ∀ {xs : List Int}, 0 ≤ idxO c xs → ∃ k : Nat, idxO c xs = k ∧ k < xs.length ∧ xs.takeWhile (notO c) = xs.take k
  | [], h => by
    have : idxO c [] = -1 := rfl
    omega
  | x :: t, h => by
    unfold idxO at h ⊢
    rw [idx_cons] at h ⊢
    by_cases hx : x = c
    · exact ⟨0, by rw [if_pos (decide_eq_true hx)]; rfl, by simp, by simp [notO, hx]⟩
    · rw [if_neg (by simpa using hx)] at h ⊢
      by_cases ht : idxI (fun x => decide (x = c)) t = -1
      · rw [if_pos ht] at h; omega
      · rw [if_neg ht] at h ⊢
        obtain ⟨k, e, hk, hw⟩ := idxO_some (c := c) (xs := t) (by have := (idxO_bd c t).1; unfold idxO at this ⊢; omega)
        unfold idxO at e
        refine ⟨k + 1, by rw [e]; rfl, by simpa using hk, ?_⟩
        rw [List.takeWhile_cons_of_pos (by simpa [notO] using hx), hw, List.take_succ_cons]

theorem ib8 {a : Option Addr} {len cap : Nat} {xs : List Int} {w : World} (hr : Reads .u8 w a len cap xs) (c : Int) (h0 : 0 ≤ c) (h1 : c ≤ 255) :
    (callFunc 150 #[.slice a len cap, .int .u8 c]).run Tryz.prog w = .ok (.value (.int .i64 (idxO c xs))) w := by
  rw [run_callFunc_extern (fn := Tryz.f150) (e := Extern.BytealgIndexByte.indexByte) (by kernel_rfl) (by kernel_rfl) (by kernel_rfl) (by kernel_rfl) (by kernel_rfl)]
  by_cases hl : 0 < len
  · obtain ⟨b, off, rfl, _, hc⟩ := hr.cell hl
    rw [Lib.run_indexByteSlice w b off len cap xs hr.size hc c, lib_idx c h0 h1 xs hr.wf]
    rfl
  · obtain rfl : len = 0 := by omega
    obtain rfl : xs = [] := List.eq_nil_of_length_eq_zero hr.size
    have hn := Lib.run_indexByteNil (P := Tryz.prog) w 0 cap c
    cases a with
    | none => rw [hn]; rfl
    | some p =>
      have he : (Extern.BytealgIndexByte.indexByte #[.slice (some p) 0 cap, .int .u8 c]).run Tryz.prog w = (Extern.BytealgIndexByte.indexByte #[.slice none 0 cap, .int .u8 c]).run Tryz.prog w := rfl
      rw [he, hn]; rfl
theorem bytes_IndexByte {a : Option Addr} {len cap : Nat} {xs : List Int} {w : World} (hr : Reads .u8 w a len cap xs) (c : Int) (h0 : 0 ≤ c) (h1 : c ≤ 255) :
    Calls Tryz.prog 122 #[.slice a len cap, .int .u8 c] w fun e w' => e = .returned (.int .i64 (idxO c xs)) ∧ w = w' := by
  have hx := ib8 hr c h0 h1
  clear hr
  go_enter Tryz.func122, Tryz.ntmps122
  go_wp2
  go_ret
  exact ⟨rfl, rfl⟩
set_option maxRecDepth 100000 in
theorem bytes_Index1 {a a2 : Option Addr} {len cap cap2 : Nat} {xs : List Int} {c : Int} {w : World} (hr : Reads .u8 w a len cap xs) (hr2 : Reads .u8 w a2 1 cap2 [c]) :
    Calls Tryz.prog 92 #[.slice a len cap, .slice a2 1 cap2] w fun e w' => e = .returned (.int .i64 (idxO c xs)) ∧ w = w' := by
  obtain ⟨b2, off2, y, rfl, _, hc2, h0, h1, hy⟩ := hr2.get8 (i := 0) (by omega)
  obtain rfl : c = y := by simpa using hy.out.1
  rw [Nat.add_zero] at hc2
  have HR := hid hr
  clear hr hr2 hy
  go_enter Tryz.func92, Tryz.ntmps92
  go_wp2_with (go_at_call 122; (with_reducible refine (bytes_IndexByte HR.out _ h0 h1).mono ?_); rintro e w' ⟨rfl, rfl⟩)
  go_ret
  exact ⟨rfl, rfl⟩
set_option maxRecDepth 100000 in
/-- bytes.Cut at one octet: what is ahead of it, and whether it is there (the rest is not told). -/
theorem bytes_Cut1 {a a2 : Option Addr} {len cap cap2 : Nat} {xs : List Int} {c : Int} {w : World} (hr : Reads .u8 w a len cap xs) (hr2 : Reads .u8 w a2 1 cap2 [c]) :
    Calls Tryz.prog 56 #[.slice a len cap, .slice a2 1 cap2] w fun e w' => ∃ l' v, e = .returned (.tuple #[.slice a l' cap, v, .bool (decide (0 ≤ idxO c xs))]) ∧ Reads .u8 w a l' cap (xs.takeWhile (notO c)) ∧ ∃ n, w' = w.drewN n := by
  have hl := hr.len_le
  have hsz := hr.size
  have hrm := hr.room
  obtain ⟨F, hF⟩ : ∃ F, F = decide (0 ≤ idxO c xs) := ⟨_, rfl⟩
  rw [← hF]
  have HR := hid hr
  have HR2 := hid hr2
  clear hr hr2
  by_cases hi : 0 ≤ idxO c xs
  · obtain ⟨k, hk, hkl, htw⟩ := idxO_some hi
    have hp : Reads .u8 w a k cap (xs.takeWhile (notO c)) := by
      rw [htw]
      have := HR.out
      refine ⟨by simp; omega, by omega, this.top, fun x hx => this.wf x (List.mem_of_mem_take hx), fun hk0 => ?_⟩
      obtain ⟨b, off, ha, hb, hc⟩ := this.cell (by omega)
      refine ⟨b, off, ha, hb, fun i hik => ?_⟩
      rw [hc i (by omega)]
      simp [hik]
    rw [decide_eq_true hi] at hF
    have HK := hid hk
    have HP := hid hp
    clear hk htw hp hi
    have hkl2 : k + 1 ≤ len := by omega
    clear hkl
    subst hF
    go_enter Tryz.func56, Tryz.ntmps56
    go_wp2_with (go_at_call 92; (with_reducible refine (bytes_Index1 HR.out HR2.out).mono ?_); rintro e w' ⟨rfl, rfl⟩; rw [HK.out])
    go_quiet (fail)
    go_wp2
    all_goals
      go_ret3
      exact ⟨_, ⟨_, rfl⟩, (by first | exact HP.out | (rename_i h; have := HP.out; rwa [h] at this)), _, rfl⟩
  · have ht := idxO_none hi
    have hx : (idxO c xs ≥ 0) = False := by simpa using hi
    have hp := HR.out
    rw [← ht] at hp
    rw [decide_eq_false hi] at hF
    have HI := hid hi
    have HP := hid hp
    clear hi ht hp
    subst hF
    go_enter Tryz.func56, Tryz.ntmps56
    go_wp2_with (go_at_call 92; (with_reducible refine (bytes_Index1 HR.out HR2.out).mono ?_); rintro e w' ⟨rfl, rfl⟩)
    go_ret3
    exact ⟨_, _, rfl, HP.out, 0, rfl⟩
/-- What stands behind the first one. -/
theorem idxO_rest {c : Int} : ∀ {xs : List Int} {k : Nat}, idxO c xs = k → (xs.dropWhile (notO c)).drop 1 = xs.drop (k + 1)
  | [], k, h => by
    have : idxO c [] = -1 := rfl
    omega
  | x :: t, k, h => by
    unfold idxO at h
    rw [idx_cons] at h
    by_cases hx : x = c
    · rw [if_pos (decide_eq_true hx)] at h
      obtain rfl : k = 0 := by omega
      rw [List.dropWhile_cons_of_neg (by unfold notO; simp [hx])]
    · rw [if_neg (by simpa using hx)] at h
      have hn := idx_bd (fun x => decide (x = c)) t
      split at h
      · omega
      · obtain ⟨j, rfl⟩ : ∃ j, k = j + 1 := ⟨k - 1, by omega⟩
        rw [List.dropWhile_cons_of_pos (by unfold notO; exact decide_eq_true hx), List.drop_succ_cons]
        exact idxO_rest (by unfold idxO; omega)
theorem idxO_restN {c : Int} {xs : List Int} (h : ¬ 0 ≤ idxO c xs) : (xs.dropWhile (notO c)).drop 1 = [] := by
  have h1 := idxO_none h
  have h2 := congrArg List.length (List.takeWhile_append_dropWhile (p := notO c) (l := xs))
  rw [List.length_append, h1] at h2
  have : xs.dropWhile (notO c) = [] := List.eq_nil_of_length_eq_zero (by omega)
  rw [this]
  rfl
set_option maxRecDepth 100000 in
/-- bytes.Cut at one octet: what is ahead of it, what is behind it, and whether it is there. -/
theorem bytes_CutR {a a2 : Option Addr} {len cap cap2 : Nat} {xs : List Int} {c : Int} {w : World} (hr : Reads .u8 w a len cap xs) (hr2 : Reads .u8 w a2 1 cap2 [c]) :
    Calls Tryz.prog 56 #[.slice a len cap, .slice a2 1 cap2] w fun e w' => ∃ l' a3 l3 c3, e = .returned (.tuple #[.slice a l' cap, .slice a3 l3 c3, .bool (decide (0 ≤ idxO c xs))]) ∧ Reads .u8 w a l' cap (xs.takeWhile (notO c)) ∧ Reads .u8 w a3 l3 c3 ((xs.dropWhile (notO c)).drop 1) ∧ ∃ n, w' = w.drewN n := by
  have hl := hr.len_le
  have hsz := hr.size
  have hrm := hr.room
  obtain ⟨F, hF⟩ : ∃ F, F = decide (0 ≤ idxO c xs) := ⟨_, rfl⟩
  rw [← hF]
  have HR := hid hr
  have HR2 := hid hr2
  by_cases hi : 0 ≤ idxO c xs
  · obtain ⟨k, hk, hkl, htw⟩ := idxO_some hi
    have hp : Reads .u8 w a k cap (xs.takeWhile (notO c)) := by
      rw [htw]
      exact hr.pre (by omega)
    have hp3 := hr.piece (l := k + 1) (r := len) (by omega) (Nat.le_refl _)
    rw [List.take_of_length_le (by omega), ← idxO_rest hk] at hp3
    clear hr hr2
    rw [decide_eq_true hi] at hF
    have HK := hid hk
    have HP := hid hp
    have hkl2 : k + 1 ≤ len := by omega
    clear hk htw hp hi hkl
    subst hF
    by_cases hc : cap = k + 1
    all_goals
      first | (rw [if_pos hc] at hp3; have r3 : (cap = k + 1) = True := eq_true hc; have r4 : ((cap : Int) = (k : Int) + 1) = True := eq_true (by omega); clear hc) | (rw [if_neg hc] at hp3; have r3 : (cap = k + 1) = False := eq_false hc; have r4 : ((cap : Int) = (k : Int) + 1) = False := eq_false (by omega); clear hc)
      have HP3 := hid hp3
      clear hp3
      go_enter Tryz.func56, Tryz.ntmps56
      go_wp2_with (go_at_call 92; (with_reducible refine (bytes_Index1 HR.out HR2.out).mono ?_); rintro e w' ⟨rfl, rfl⟩; rw [HK.out])
      go_quiet (fail)
      go_wp2
      go_ret3
      exact ⟨_, _, _, _, rfl, HP.out, HP3.out, _, rfl⟩
  · have ht := idxO_none hi
    have ht3 := idxO_restN hi
    have hx : (idxO c xs ≥ 0) = False := by simpa using hi
    have hp := HR.out
    rw [← ht] at hp
    rw [decide_eq_false hi] at hF
    have HI := hid hi
    have HP := hid hp
    have HT := hid ht3
    clear hi ht hp ht3 hr hr2
    subst hF
    go_enter Tryz.func56, Tryz.ntmps56
    go_wp2_with (go_at_call 92; (with_reducible refine (bytes_Index1 HR.out HR2.out).mono ?_); rintro e w' ⟨rfl, rfl⟩)
    go_ret3
    exact ⟨_, _, _, _, rfl, HP.out, by rw [HT.out]; exact Reads.nil _ _ _ _ (Nat.zero_le _), 0, rfl⟩
end Go.Proofs.YtplceogclmgnnaaGreat

/-! D29b -/
namespace Go.Proofs.YtplceogclmgnnaaGreat
open Go.RowKit
set_option linter.unusedVariables false

/-- What stands ahead of a question mark, and behind it. -/
def qA (s : List Int) : List Int := s.takeWhile (notO 63)
def qB (s : List Int) : List Int := (s.dropWhile (notO 63)).drop 1
/-- Is the frame there? What does it hold? -/
def ewFr (s : List Int) : Bool := decide (s.take 2 = [61, 63]) && decide (2 ≤ (s.drop 2).length ∧ (s.drop 2).drop ((s.drop 2).length - 2) = [63, 61])
def ewIn (s : List Int) : List Int := (s.drop 2).take ((s.drop 2).length - 2)
def ew1 (s : List Int) : List Int := if ewFr s = true then qA (ewIn s) else []
def ew2 (s : List Int) : List Int := if ewFr s = true then qA (qB (ewIn s)) else []
def ew3 (s : List Int) : List Int := if ewFr s = true then qB (qB (ewIn s)) else []
/-- The code of a letter. -/
def cdL (l : List Int) : Int := if l = [66] ∨ l = [98] then 1 else if l = [81] ∨ l = [113] then 2 else 0
def nmOk (l : List Int) : Bool := decide (l ≠ []) && l.all (isB 64)
def txOk (l : List Int) : Bool := (decide (l ≠ []) && l.all (isB 4)) && !decide (63 ∈ l)
def ewOk (s : List Int) : Bool := (nmOk (ew1 s) && decide (cdL (ew2 s) ≠ 0)) && txOk (ew3 s)

theorem qB_some : ∀ {s : List Int}, qB s ≠ [] → s = qA s ++ 63 :: qB s
  | [], h => absurd rfl h
  | x :: s, h => by
    by_cases hx : x = 63
    · subst hx
      rfl
    · have e : notO 63 x = true := by unfold notO; exact decide_eq_true hx
      have eB : qB (x :: s) = qB s := by unfold qB; rw [List.dropWhile_cons_of_pos e]
      have eA : qA (x :: s) = x :: qA s := by unfold qA; rw [List.takeWhile_cons_of_pos e]
      rw [eB] at h ⊢
      rw [eA, List.cons_append, ← qB_some h]
theorem qA_no : ∀ (s : List Int), ∀ x ∈ qA s, x ≠ 63
  | [], x, h => by cases h
  | y :: s, x, h => by
    by_cases hy : y = 63
    · subst hy
      cases h
    · have e : notO 63 y = true := by unfold notO; exact decide_eq_true hy
      have eA : qA (y :: s) = y :: qA s := by unfold qA; rw [List.takeWhile_cons_of_pos e]
      rw [eA] at h
      rcases List.mem_cons.1 h with rfl | h
      · exact hy
      · exact qA_no s x h
theorem q_at : ∀ (p r : List Int), (∀ x ∈ p, x ≠ 63) → qA (p ++ 63 :: r) = p ∧ qB (p ++ 63 :: r) = r
  | [], r, _ => ⟨rfl, rfl⟩
  | x :: p, r, h => by
    have e : notO 63 x = true := by unfold notO; exact decide_eq_true (h x (List.mem_cons_self ..))
    obtain ⟨h1, h2⟩ := q_at p r (fun y hy => h y (List.mem_cons_of_mem _ hy))
    refine ⟨?_, ?_⟩
    · unfold qA at h1 ⊢; rw [List.cons_append, List.takeWhile_cons_of_pos e, h1]
    · unfold qB at h2 ⊢; rw [List.cons_append, List.dropWhile_cons_of_pos e, h2]
theorem qA_le (s : List Int) : (qA s).length ≤ s.length := by
  unfold qA
  exact (List.takeWhile_prefix _).sublist.length_le
theorem qB_le (s : List Int) : (qB s).length ≤ s.length := by
  unfold qB
  have : (s.dropWhile (notO 63)).length ≤ s.length := (List.dropWhile_sublist _).length_le
  rw [List.length_drop]
  omega
/-- The parts, joined again. -/
def joinQ : List (List Int) → List Int
  | [] => []
  | [p] => p
  | p :: q :: r => p ++ 63 :: joinQ (q :: r)
theorem cut_ne : ∀ (s acc : List Int), ∃ p r, cutS s acc = p :: r
  | [], acc => ⟨acc, [], by rw [cutS]⟩
  | x :: s, acc => by
    rw [cutS]
    split
    · exact ⟨_, _, rfl⟩
    · exact cut_ne s _
theorem cut_join : ∀ (s acc : List Int), joinQ (cutS s acc) = acc ++ s
  | [], acc => by rw [cutS, joinQ, List.append_nil]
  | x :: s, acc => by
    rw [cutS]
    split
    · rename_i hx
      subst hx
      obtain ⟨p, r, h⟩ := cut_ne s []
      have := cut_join s []
      rw [h] at this ⊢
      rw [joinQ, this, List.nil_append]
    · rw [cut_join s _, List.append_assoc]; rfl
theorem cut_none : ∀ (s acc : List Int), (∀ x ∈ acc, x ≠ 63) → ∀ p ∈ cutS s acc, ∀ x ∈ p, x ≠ 63
  | [], acc, h, p, hp => by
    rw [cutS] at hp
    obtain rfl := List.mem_singleton.1 hp
    exact h
  | y :: s, acc, h, p, hp => by
    rw [cutS] at hp
    split at hp
    · rcases List.mem_cons.1 hp with rfl | hp
      · exact h
      · exact cut_none s [] (fun x hx => by cases hx) p hp
    · rename_i hy
      refine cut_none s _ (fun x hx => ?_) p hp
      rcases List.mem_append.1 hx with hx | hx
      · exact h x hx
      · rcases List.mem_singleton.1 hx with rfl
        exact hy
theorem cdL_one {l : List Int} (h : cdL l ≠ 0) : ∃ c, l = [c] ∧ ewCd c = cdL l ∧ c ≠ 63 := by
  unfold cdL at h ⊢
  by_cases h1 : l = [66] ∨ l = [98]
  · rw [if_pos h1]
    rcases h1 with rfl | rfl
    · exact ⟨66, rfl, by decide +kernel, by decide⟩
    · exact ⟨98, rfl, by decide +kernel, by decide⟩
  · rw [if_neg h1] at h ⊢
    by_cases h2 : l = [81] ∨ l = [113]
    · rw [if_pos h2]
      rcases h2 with rfl | rfl
      · exact ⟨81, rfl, by decide +kernel, by decide⟩
      · exact ⟨113, rfl, by decide +kernel, by decide⟩
    · rw [if_neg h2] at h
      exact absurd rfl h
theorem cdL_of (c : Int) : cdL [c] = ewCd c := by
  unfold cdL ewCd lowI
  simp only [List.cons.injEq, and_true]
  repeat' split
  all_goals omega
theorem fr_some {s : List Int} (h : ewFr s = true) : s = 61 :: 63 :: (ewIn s ++ [63, 61]) := by
  unfold ewFr at h
  rw [Bool.and_eq_true, decide_eq_true_iff, decide_eq_true_iff] at h
  have h1 : s = s.take 2 ++ s.drop 2 := (List.take_append_drop 2 s).symm
  have h2 : s.drop 2 = ewIn s ++ [63, 61] := by
    rw [← h.2.2]
    exact (List.take_append_drop _ _).symm
  rw [h.1, h2] at h1
  exact h1
theorem fr_of (m : List Int) : ewFr (61 :: 63 :: (m ++ [63, 61])) = true ∧ ewIn (61 :: 63 :: (m ++ [63, 61])) = m := by
  have e : (61 :: 63 :: (m ++ [63, 61])).drop 2 = m ++ [63, 61] := rfl
  have el : (m ++ [63, 61]).length - 2 = m.length := by simp
  unfold ewFr ewIn
  rw [e, el]
  refine ⟨?_, by simp⟩
  rw [Bool.and_eq_true, decide_eq_true_iff, decide_eq_true_iff]
  exact ⟨rfl, by simp, by simp⟩
/-- What the program sees is what the document sees. -/
theorem ewOk_cut {s : List Int} (h : ewOk s = true) : ∃ c, ew2 s = [c] ∧ ewCd c = cdL (ew2 s) ∧ cutA s = [[61], ew1 s, [c], ew3 s, [61]] := by
  unfold ewOk nmOk txOk at h
  simp only [Bool.and_eq_true, decide_eq_true_iff, Bool.not_eq_true', decide_eq_false_iff_not] at h
  obtain ⟨⟨⟨h1, _⟩, h2⟩, ⟨h3, _⟩, h4⟩ := h
  obtain ⟨c, hc, hcd, hc63⟩ := cdL_one h2
  refine ⟨c, hc, hcd, ?_⟩
  have hF : ewFr s = true := by
    by_cases hf : ewFr s = true
    · exact hf
    · unfold ew1 at h1; rw [if_neg hf] at h1; exact absurd rfl h1
  have hs := fr_some hF
  unfold ew1 ew2 ew3 at *
  rw [if_pos hF] at h1 h2 h3 h4 hc hcd ⊢
  rw [if_pos hF]
  have e2 := qB_some h3
  have hne : qB (ewIn s) ≠ [] := by intro h; rw [h] at h3; exact h3 rfl
  have e1 := qB_some hne
  have hall : s = [61] ++ 63 :: (qA (ewIn s) ++ 63 :: ([c] ++ 63 :: (qB (qB (ewIn s)) ++ 63 :: [61]))) := by
    rw [hc] at e2
    calc s = 61 :: 63 :: (ewIn s ++ [63, 61]) := hs
      _ = 61 :: 63 :: ((qA (ewIn s) ++ 63 :: qB (ewIn s)) ++ [63, 61]) := by rw [← e1]
      _ = 61 :: 63 :: ((qA (ewIn s) ++ 63 :: ([c] ++ 63 :: qB (qB (ewIn s)))) ++ [63, 61]) := by rw [← e2]
      _ = _ := by simp
  have hN := qA_no (ewIn s)
  have key : ∀ N T : List Int, (∀ x ∈ N, x ≠ 63) → ¬ 63 ∈ T → cutS ([61] ++ 63 :: (N ++ 63 :: ([c] ++ 63 :: (T ++ 63 :: [61])))) [] = [[61], N, [c], T, [61]] := by
    intro N T hN hT
    rw [cut_part _ _ _ (by decide), cut_part _ _ _ hN, cut_part _ _ _ (by simpa using hc63), cut_part _ _ _ (fun x hx => by rintro rfl; exact hT hx), cut_last _ _ (by decide)]
    simp
  have h5 := key _ _ hN h4
  rw [← hall] at h5
  exact h5
theorem form_ok {s : List Int} (h : ewForm (cutA s) = true) : ewOk s = true := by
  have hj := cut_join s []
  have hn := cut_none s [] (fun x hx => by cases hx)
  change joinQ (cutA s) = [] ++ s at hj
  change ∀ p ∈ cutA s, ∀ x ∈ p, x ≠ 63 at hn
  generalize cutA s = L at *
  unfold ewForm at h
  split at h
  · rename_i a n k t z
    simp only [Bool.and_eq_true, decide_eq_true_iff] at h
    obtain ⟨rfl, rfl, ⟨hk, hkc⟩, ⟨hn0, hn1⟩, ht0, ht1⟩ := h
    obtain ⟨c, rfl⟩ : ∃ c, k = [c] := by
      match k, hk with
      | [c], _ => exact ⟨c, rfl⟩
    have hs : s = 61 :: 63 :: ((n ++ 63 :: ([c] ++ 63 :: t)) ++ [63, 61]) := by
      rw [List.nil_append] at hj
      rw [← hj]
      simp [joinQ]
    have hN := hn n (by simp)
    have hT := hn t (by simp)
    have hC := hn [c] (by simp)
    obtain ⟨f1, f2⟩ := fr_of (n ++ 63 :: ([c] ++ 63 :: t))
    rw [← hs] at f1 f2
    obtain ⟨a1, b1⟩ := q_at n ([c] ++ 63 :: t) hN
    obtain ⟨a2, b2⟩ := q_at [c] t hC
    have e1 : ew1 s = n := by unfold ew1; rw [if_pos f1, f2, a1]
    have e2 : ew2 s = [c] := by unfold ew2; rw [if_pos f1, f2, b1, a2]
    have e3 : ew3 s = t := by unfold ew3; rw [if_pos f1, f2, b1, b2]
    unfold ewOk nmOk txOk
    rw [e1, e2, e3, cdL_of]
    simp only [Bool.and_eq_true, decide_eq_true_iff, Bool.not_eq_true', decide_eq_false_iff_not]
    exact ⟨⟨⟨hn0, hn1⟩, hkc⟩, ⟨ht0, ht1⟩, fun h => hT 63 h rfl⟩
  · cases h
theorem ok_form {s : List Int} (h : ewOk s = true) : ewForm (cutA s) = true := by
  obtain ⟨c, h2, hcd, hc⟩ := ewOk_cut h
  rw [hc]
  unfold ewOk nmOk txOk at h
  rw [h2, cdL_of] at h
  unfold ewForm
  simp only [Bool.and_eq_true, decide_eq_true_iff, Bool.not_eq_true', decide_eq_false_iff_not] at h ⊢
  exact ⟨trivial, trivial, ⟨rfl, h.1.2⟩, h.1.1, h.2.1⟩
/-- What Parse answers, in the program's words. -/
theorem par_no {s : List Int} (h : ewOk s = false) : ewE s = 3 ∧ ewN s = [] ∧ ewK s = 0 ∧ ewT s = [] := by
  have hF : ewForm (cutA s) = false := by
    cases hf : ewForm (cutA s)
    · rfl
    · rw [form_ok hf] at h; cases h
  have hE : ewE s = 3 := by unfold ewE; rw [hF]; rfl
  exact ⟨hE, ewE_no (by rw [hE]; decide)⟩
theorem par_long {s : List Int} (h : ewOk s = true) (hl : 75 < s.length) : ewE s = 12 ∧ ewN s = [] ∧ ewK s = 0 ∧ ewT s = [] := by
  have hE : ewE s = 12 := by unfold ewE; rw [if_pos (ok_form h), if_pos hl]
  exact ⟨hE, ewE_no (by rw [hE]; decide)⟩
theorem par_yes {s : List Int} (h : ewOk s = true) (hl : ¬ 75 < s.length) : ewE s = 0 ∧ ewN s = ew1 s ∧ ewK s = cdL (ew2 s) ∧ ewT s = ew3 s := by
  have hE : ewE s = 0 := by unfold ewE; rw [if_pos (ok_form h), if_neg hl]
  obtain ⟨c, h2, hcd, hc⟩ := ewOk_cut h
  refine ⟨hE, ?_, ?_, ?_⟩
  · unfold ewN; rw [if_pos hE, hc]; rfl
  · unfold ewK; rw [if_pos hE, hc, ← hcd]; rfl
  · unfold ewT; rw [if_pos hE, hc]; rfl
end Go.Proofs.YtplceogclmgnnaaGreat
