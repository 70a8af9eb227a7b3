/-
  Texts of ours laid together: D32b, C01, Byt, D32c.
-/
import Derived.Test.YtefhddbbiheadaaGreatRows
import Derived.Lib.BytesEntry
import Derived.Test.YtefhddbbiheadaaGreatZ11

/-! D32b -/
namespace Go.Proofs.YtefhddbbiheadaaGreat
open Go.RowKit
set_option linter.unusedVariables false

theorem kd_gap {s : List Int} {x : Int} (h : s.head? = some x) : kdW (s.take (turnN s)) = 1 ↔ gp x = true := by
  have hne : s ≠ [] := fun hh => by rw [hh] at h; cases h
  have hp := turn_pos hne
  have hs := turn_same s
  have htn : s.take (turnN s) ≠ [] := by
    intro hh
    have h1 := congrArg List.length hh
    rw [List.length_take, List.length_nil] at h1
    have := List.length_pos_iff.2 hne
    omega
  have hx : x ∈ s.take (turnN s) := by
    cases s with
    | nil => cases h
    | cons y r =>
      cases h
      obtain ⟨m, hm⟩ : ∃ m, turnN (x :: r) = m + 1 := ⟨turnN (x :: r) - 1, by omega⟩
      rw [hm, List.take_succ_cons]
      exact List.mem_cons_self ..
  unfold kdW
  constructor
  · intro hk
    by_cases ha : s.take (turnN s) ≠ [] ∧ (s.take (turnN s)).all gp = true
    · exact List.all_eq_true.1 ha.2 x hx
    · rw [if_neg ha] at hk
      split at hk
      · exact absurd hk (by decide)
      · exact absurd hk (by decide)
  · intro hg
    rw [if_pos ⟨htn, List.all_eq_true.2 fun c hc => by rw [hs c hc x h]; exact hg⟩]
theorem alt_pcs : ∀ s : List Int, ∀ (i : Nat) (t u : List Int), (pcsT s)[i]? = some t → (pcsT s)[i + 1]? = some u → (kdW t = 1 ↔ ¬ kdW u = 1) := by
  refine pcsT_ind (fun i t u h => by rw [pcsT_nil] at h; cases h) fun s hs ih i t u h1 h2 => ?_
  rw [pcsT_on hs] at h1 h2
  cases i with
  | succ i => exact ih i t u (by simpa using h1) (by simpa using h2)
  | zero =>
    rw [List.getElem?_cons_zero] at h1
    cases h1
    have h2 : (pcsT (s.drop (turnN s)))[0]? = some u := by simpa using h2
    by_cases hd : s.drop (turnN s) = []
    · rw [hd, pcsT_nil] at h2; cases h2
    · rw [pcsT_on hd, List.getElem?_cons_zero] at h2
      cases h2
      obtain ⟨x, hx⟩ : ∃ x, s.head? = some x := by
        cases s with
        | nil => exact absurd rfl hs
        | cons x r => exact ⟨x, rfl⟩
      obtain ⟨y, hy⟩ : ∃ y, (s.drop (turnN s)).head? = some y := by
        cases hh : s.drop (turnN s) with
        | nil => exact absurd hh hd
        | cons y r => exact ⟨y, rfl⟩
      have hn := turn_next s x y hx hy
      rw [kd_gap hx, kd_gap hy]
      cases h3 : gp x <;> cases h4 : gp y <;> simp_all
theorem pcsP_at {s : List Int} {i : Nat} {k : Int} {x : List Int} (h : (pcsP s)[i]? = some (k, x)) : k = kdW x ∧ x ≠ [] ∧ (pcsT s)[i]? = some x ∧ x.length ≤ s.length := by
  unfold pcsP at h
  rw [List.getElem?_map, Option.map_eq_some_iff] at h
  obtain ⟨t, ht, he⟩ := h
  cases he
  have hm := List.mem_of_getElem? ht
  refine ⟨rfl, (pcsT_whole s).2.1 _ hm, ht, ?_⟩
  have h1 : x.length ≤ (pcsT s).flatten.length := by
    have key : ∀ L : List (List Int), x ∈ L → x.length ≤ L.flatten.length := by
      intro L
      induction L with
      | nil => intro h; cases h
      | cons y L ih =>
        intro h
        rw [List.flatten_cons, List.length_append]
        rcases List.mem_cons.1 h with rfl | h
        · omega
        · have := ih h; omega
    exact key _ hm
  rwa [(pcsT_whole s).1] at h1
/-- A gap and a run by turns (P32.3). -/
theorem alt_kinds {s : List Int} {i : Nat} {k1 k2 : Int} {x y : List Int} (h1 : (pcsP s)[i]? = some (k1, x)) (h2 : (pcsP s)[i + 1]? = some (k2, y)) : ((k1 == 1) == (k2 == 1)) = false := by
  obtain ⟨e1, _, q1, _⟩ := pcsP_at h1
  obtain ⟨e2, _, q2, _⟩ := pcsP_at h2
  have := alt_pcs s i x y q1 q2
  rw [← e1, ← e2] at this
  by_cases a : k1 = 1 <;> by_cases b : k2 = 1 <;> simp_all
def ngP (p : Int × List Int) : Bool := decide (p.1 ≠ 1)
theorem hid_gap {ks : List Int} {i : Nat} (h : hidP ks i = true) : ks.getD i 0 = 1 := by
  unfold hidP at h
  rw [Bool.and_eq_true, decide_eq_true_eq] at h
  exact h.1
/-- At most the gaps are hidden. -/
theorem shw_count (l : List (Int × List Int)) : ∀ m : Nat, m ≤ l.length → (shwN l m).countP ngP = (l.take m).countP ngP
  | 0, _ => by unfold shwN; simp
  | m + 1, hm => by
    have ih := shw_count l m (by omega)
    have hg : l[m]? = some l[m] := List.getElem?_eq_getElem (by omega)
    have e : shwN l (m + 1) = shwN l m ++ (if hidP (l.map Prod.fst) m = true then [] else [l[m]]) := by
      unfold shwN
      rw [List.range_succ, List.filterMap_append, List.filterMap_cons, List.filterMap_nil]
      cases hidP (l.map Prod.fst) m
      · rw [if_neg Bool.false_ne_true, if_neg Bool.false_ne_true, hg]
      · rw [if_pos rfl, if_pos rfl]
    rw [e, List.take_add_one, hg, List.countP_append, List.countP_append, ih]
    cases hh : hidP (l.map Prod.fst) m
    · rw [if_neg Bool.false_ne_true]; rfl
    · have h1 := hid_gap hh
      rw [List.getD_eq_getElem?_getD, List.getElem?_map, hg] at h1
      have h2 : ngP l[m] = false := by
        unfold ngP
        rw [decide_eq_false (fun h => h (by simpa using h1))]
      rw [if_pos rfl]
      simp [h2]
theorem ng_snoc {L : List (Int × List Int)} {j : Nat} {k : Int} {x : List Int} (ht : L.take (j + 1) = L.take j ++ [(k, x)]) : (L.take (j + 1)).countP ngP = (L.take j).countP ngP + if k = 1 then 0 else 1 := by
  rw [ht, List.countP_append, List.countP_cons, List.countP_nil]
  unfold ngP
  by_cases h : k = 1 <;> simp [h]
end Go.Proofs.YtefhddbbiheadaaGreat

/-! C01 -/
namespace Go.Proofs.YtefhddbbiheadaaGreat
open Go.RowKit
set_option linter.unusedVariables false

theorem CT8 : SliceT Tryz.prog 22 5 .u8 1 := ⟨Tryz.underlying22, by kernel_rfl, by decide⟩

theorem lower_c (c : Int) (w : World) (h0 : 0 ≤ c) (h1 : c ≤ 255) :
    Calls Tryz.prog 111 #[.int .u8 c] w fun e w' => e = .returned (.int .u8 (lowI c)) ∧ w = w' := by
  go_enter Tryz.func111, Tryz.ntmps111
  go_wp2
  all_goals (go_ret; exact ⟨ret_int (by unfold lowI; split <;> omega), rfl⟩)

end Go.Proofs.YtefhddbbiheadaaGreat

/-! Byt -/
namespace Go.Proofs.YtefhddbbiheadaaGreat
open Go.RowKit
set_option linter.unusedVariables false

/-- The place of the first c, or -1. -/
def idxO (c : Int) (xs : List Int) : Int := idxI (fun x => decide (x = c)) xs
def notO (c : Int) (x : Int) : Bool := decide (x ≠ c)

theorem idx_cons (f : Int → Bool) (x : Int) (t : List Int) : idxI f (x :: t) = if f x then 0 else if idxI f t = -1 then -1 else idxI f t + 1 := by
  unfold idxI
  rw [List.findIdx?_cons]
  by_cases hf : f x = true
  · rw [if_pos hf, if_pos hf]; rfl
  · rw [if_neg hf, if_neg hf]
    cases h : t.findIdx? f with
    | none => rfl
    | some i =>
      have : ¬ ((i : Int) = -1) := by omega
      simp [this]
theorem lib_idx (c : Int) (h0 : 0 ≤ c) (h1 : c ≤ 255) : ∀ xs : List Int, (∀ x ∈ xs, (Lit.int .u8 x).wf = true) → Lib.indexByte (Lib.bytesOf xs) c.toNat.toUInt8 = idxO c xs
  | [], _ => rfl
  | x :: t, h => by
    have hx := wf_u8 (h x (List.mem_cons_self ..))
    have ih := lib_idx c h0 h1 t (fun y hy => h y (List.mem_cons_of_mem _ hy))
    unfold idxO at ih ⊢
    rw [idx_cons, ← ih]
    have he : (x.toNat.toUInt8 == c.toNat.toUInt8) = decide (x = c) := by
      rw [u8_eq _ _ h0 h1, Bool.eq_iff_iff, beq_iff_eq, decide_eq_true_iff]
      have : (x.toNat.toUInt8.toNat : Int) = x := by simp; omega
      rw [this]
    show Lib.indexByte (x.toNat.toUInt8 :: Lib.bytesOf t) c.toNat.toUInt8 = _
    rw [Lib.indexByte, he]
    simp only [beq_iff_eq]
theorem idxO_bd (c : Int) (xs : List Int) : -1 ≤ idxO c xs ∧ idxO c xs ≤ xs.length := idx_bd _ _
/-- None: all stays; one: what is ahead of it, and that it lies inside. -/
theorem idxO_none {c : Int} {xs : List Int} (h : ¬ 0 ≤ idxO c xs) : xs.takeWhile (notO c) = xs := by
  have key : ∀ l : List Int, (∀ x ∈ l, notO c x = true) → l.takeWhile (notO c) = l := by
    intro l
    induction l with
    | nil => intro _; rfl
    | cons y l ih => intro hl; rw [List.takeWhile_cons_of_pos (hl y (List.mem_cons_self ..)), ih (fun x hx => hl x (List.mem_cons_of_mem _ hx))]
  refine key xs fun x hx => ?_
  have h2 := idx_pos (fun x => decide (x = c)) xs
  rw [decide_eq_false (by exact h)] at h2
  have := List.any_eq_false.1 h2.symm x hx
  simpa [notO] using this
theorem idxO_some {c : Int} : ∀ {xs : List Int}, 0 ≤ idxO c xs → ∃ k : Nat, idxO c xs = k ∧ k < xs.length ∧ xs.takeWhile (notO c) = xs.take k
  | [], h => by
    have : idxO c [] = -1 := rfl
    omega
  | x :: t, h => by
    unfold idxO at h ⊢
    rw [idx_cons] at h ⊢
    by_cases hx : x = c
    · exact ⟨0, by rw [if_pos (decide_eq_true hx)]; rfl, by simp, by simp [notO, hx]⟩
    · rw [if_neg (by simpa using hx)] at h ⊢
      by_cases ht : idxI (fun x => decide (x = c)) t = -1
      · rw [if_pos ht] at h; omega
      · rw [if_neg ht] at h ⊢
        obtain ⟨k, e, hk, hw⟩ := idxO_some (c := c) (xs := t) (by have := (idxO_bd c t).1; unfold idxO at this ⊢; omega)
        unfold idxO at e
        refine ⟨k + 1, by rw [e]; rfl, by simpa using hk, ?_⟩
        rw [List.takeWhile_cons_of_pos (by simpa [notO] using hx), hw, List.take_succ_cons]

theorem ib8 {a : Option Addr} {len cap : Nat} {xs : List Int} {w : World} (hr : Reads .u8 w a len cap xs) (c : Int) (h0 : 0 ≤ c) (h1 : c ≤ 255) :
    (callFunc 168 #[.slice a len cap, .int .u8 c]).run Tryz.prog w = .ok (.value (.int .i64 (idxO c xs))) w := by
  rw [run_callFunc_extern (fn := Tryz.f168) (e := Extern.BytealgIndexByte.indexByte) (by kernel_rfl) (by kernel_rfl) (by kernel_rfl) (by kernel_rfl) (by kernel_rfl)]
  by_cases hl : 0 < len
  · obtain ⟨b, off, rfl, _, hc⟩ := hr.cell hl
    rw [Lib.run_indexByteSlice w b off len cap xs hr.size hc c, lib_idx c h0 h1 xs hr.wf]
    rfl
  · obtain rfl : len = 0 := by omega
    obtain rfl : xs = [] := List.eq_nil_of_length_eq_zero hr.size
    have hn := Lib.run_indexByteNil (P := Tryz.prog) w 0 cap c
    cases a with
    | none => rw [hn]; rfl
    | some p =>
      have he : (Extern.BytealgIndexByte.indexByte #[.slice (some p) 0 cap, .int .u8 c]).run Tryz.prog w = (Extern.BytealgIndexByte.indexByte #[.slice none 0 cap, .int .u8 c]).run Tryz.prog w := rfl
      rw [he, hn]; rfl
theorem bytes_IndexByte {a : Option Addr} {len cap : Nat} {xs : List Int} {w : World} (hr : Reads .u8 w a len cap xs) (c : Int) (h0 : 0 ≤ c) (h1 : c ≤ 255) :
    Calls Tryz.prog 145 #[.slice a len cap, .int .u8 c] w fun e w' => e = .returned (.int .i64 (idxO c xs)) ∧ w = w' := by
  have hx := ib8 hr c h0 h1
  clear hr
  go_enter Tryz.func145, Tryz.ntmps145
  go_wp2
  go_ret
  exact ⟨rfl, rfl⟩
set_option maxRecDepth 100000 in
theorem bytes_Index1 {a a2 : Option Addr} {len cap cap2 : Nat} {xs : List Int} {c : Int} {w : World} (hr : Reads .u8 w a len cap xs) (hr2 : Reads .u8 w a2 1 cap2 [c]) :
    Calls Tryz.prog 131 #[.slice a len cap, .slice a2 1 cap2] w fun e w' => e = .returned (.int .i64 (idxO c xs)) ∧ w = w' := by
  obtain ⟨b2, off2, y, rfl, _, hc2, h0, h1, hy⟩ := hr2.get8 (i := 0) (by omega)
  obtain rfl : c = y := by simpa using hy.out.1
  rw [Nat.add_zero] at hc2
  have HR := hid hr
  clear hr hr2 hy
  go_enter Tryz.func131, Tryz.ntmps131
  go_wp2_with (go_at_call 145; (with_reducible refine (bytes_IndexByte HR.out _ h0 h1).mono ?_); rintro e w' ⟨rfl, rfl⟩)
  go_ret
  exact ⟨rfl, rfl⟩
set_option maxRecDepth 100000 in
/-- bytes.Cut at one octet: what is ahead of it, and whether it is there (the rest is not told). -/
theorem bytes_Cut1 {a a2 : Option Addr} {len cap cap2 : Nat} {xs : List Int} {c : Int} {w : World} (hr : Reads .u8 w a len cap xs) (hr2 : Reads .u8 w a2 1 cap2 [c]) :
    Calls Tryz.prog 106 #[.slice a len cap, .slice a2 1 cap2] w fun e w' => ∃ l' v, e = .returned (.tuple #[.slice a l' cap, v, .bool (decide (0 ≤ idxO c xs))]) ∧ Reads .u8 w a l' cap (xs.takeWhile (notO c)) ∧ ∃ n, w' = w.drewN n := by
  have hl := hr.len_le
  have hsz := hr.size
  have hrm := hr.room
  obtain ⟨F, hF⟩ : ∃ F, F = decide (0 ≤ idxO c xs) := ⟨_, rfl⟩
  rw [← hF]
  have HR := hid hr
  have HR2 := hid hr2
  clear hr hr2
  by_cases hi : 0 ≤ idxO c xs
  · obtain ⟨k, hk, hkl, htw⟩ := idxO_some hi
    have hp : Reads .u8 w a k cap (xs.takeWhile (notO c)) := by
      rw [htw]
      have := HR.out
      refine ⟨by simp; omega, by omega, this.top, fun x hx => this.wf x (List.mem_of_mem_take hx), fun hk0 => ?_⟩
      obtain ⟨b, off, ha, hb, hc⟩ := this.cell (by omega)
      refine ⟨b, off, ha, hb, fun i hik => ?_⟩
      rw [hc i (by omega)]
      simp [hik]
    rw [decide_eq_true hi] at hF
    have HK := hid hk
    have HP := hid hp
    clear hk htw hp hi
    have hkl2 : k + 1 ≤ len := by omega
    clear hkl
    subst hF
    go_enter Tryz.func106, Tryz.ntmps106
    go_wp2_with (go_at_call 131; (with_reducible refine (bytes_Index1 HR.out HR2.out).mono ?_); rintro e w' ⟨rfl, rfl⟩; rw [HK.out])
    go_quiet (fail)
    go_wp2
    all_goals
      go_ret3
      exact ⟨_, ⟨_, rfl⟩, (by first | exact HP.out | (rename_i h; have := HP.out; rwa [h] at this)), _, rfl⟩
  · have ht := idxO_none hi
    have hx : (idxO c xs ≥ 0) = False := by simpa using hi
    have hp := HR.out
    rw [← ht] at hp
    rw [decide_eq_false hi] at hF
    have HI := hid hi
    have HP := hid hp
    clear hi ht hp
    subst hF
    go_enter Tryz.func106, Tryz.ntmps106
    go_wp2_with (go_at_call 131; (with_reducible refine (bytes_Index1 HR.out HR2.out).mono ?_); rintro e w' ⟨rfl, rfl⟩)
    go_ret3
    exact ⟨_, _, rfl, HP.out, 0, rfl⟩
/-- What stands behind the first one. -/
theorem idxO_rest {c : Int} : ∀ {xs : List Int} {k : Nat}, idxO c xs = k → (xs.dropWhile (notO c)).drop 1 = xs.drop (k + 1)
  | [], k, h => by
    have : idxO c [] = -1 := rfl
    omega
  | x :: t, k, h => by
    unfold idxO at h
    rw [idx_cons] at h
    by_cases hx : x = c
    · rw [if_pos (decide_eq_true hx)] at h
      obtain rfl : k = 0 := by omega
      rw [List.dropWhile_cons_of_neg (by unfold notO; simp [hx])]
    · rw [if_neg (by simpa using hx)] at h
      have hn := idx_bd (fun x => decide (x = c)) t
      split at h
      · omega
      · obtain ⟨j, rfl⟩ : ∃ j, k = j + 1 := ⟨k - 1, by omega⟩
        rw [List.dropWhile_cons_of_pos (by unfold notO; exact decide_eq_true hx), List.drop_succ_cons]
        exact idxO_rest (by unfold idxO; omega)
theorem idxO_restN {c : Int} {xs : List Int} (h : ¬ 0 ≤ idxO c xs) : (xs.dropWhile (notO c)).drop 1 = [] := by
  have h1 := idxO_none h
  have h2 := congrArg List.length (List.takeWhile_append_dropWhile (p := notO c) (l := xs))
  rw [List.length_append, h1] at h2
  have : xs.dropWhile (notO c) = [] := List.eq_nil_of_length_eq_zero (by omega)
  rw [this]
  rfl
set_option maxRecDepth 100000 in
/-- bytes.Cut at one octet: what is ahead of it, what is behind it, and whether it is there. -/
theorem bytes_CutR {a a2 : Option Addr} {len cap cap2 : Nat} {xs : List Int} {c : Int} {w : World} (hr : Reads .u8 w a len cap xs) (hr2 : Reads .u8 w a2 1 cap2 [c]) :
    Calls Tryz.prog 106 #[.slice a len cap, .slice a2 1 cap2] w fun e w' => ∃ l' a3 l3 c3, e = .returned (.tuple #[.slice a l' cap, .slice a3 l3 c3, .bool (decide (0 ≤ idxO c xs))]) ∧ Reads .u8 w a l' cap (xs.takeWhile (notO c)) ∧ Reads .u8 w a3 l3 c3 ((xs.dropWhile (notO c)).drop 1) ∧ ∃ n, w' = w.drewN n := by
  have hl := hr.len_le
  have hsz := hr.size
  have hrm := hr.room
  obtain ⟨F, hF⟩ : ∃ F, F = decide (0 ≤ idxO c xs) := ⟨_, rfl⟩
  rw [← hF]
  have HR := hid hr
  have HR2 := hid hr2
  by_cases hi : 0 ≤ idxO c xs
  · obtain ⟨k, hk, hkl, htw⟩ := idxO_some hi
    have hp : Reads .u8 w a k cap (xs.takeWhile (notO c)) := by
      rw [htw]
      exact hr.pre (by omega)
    have hp3 := hr.piece (l := k + 1) (r := len) (by omega) (Nat.le_refl _)
    rw [List.take_of_length_le (by omega), ← idxO_rest hk] at hp3
    clear hr hr2
    rw [decide_eq_true hi] at hF
    have HK := hid hk
    have HP := hid hp
    have hkl2 : k + 1 ≤ len := by omega
    clear hk htw hp hi hkl
    subst hF
    by_cases hc : cap = k + 1
    all_goals
      first | (rw [if_pos hc] at hp3; have r3 : (cap = k + 1) = True := eq_true hc; have r4 : ((cap : Int) = (k : Int) + 1) = True := eq_true (by omega); clear hc) | (rw [if_neg hc] at hp3; have r3 : (cap = k + 1) = False := eq_false hc; have r4 : ((cap : Int) = (k : Int) + 1) = False := eq_false (by omega); clear hc)
      have HP3 := hid hp3
      clear hp3
      go_enter Tryz.func106, Tryz.ntmps106
      go_wp2_with (go_at_call 131; (with_reducible refine (bytes_Index1 HR.out HR2.out).mono ?_); rintro e w' ⟨rfl, rfl⟩; rw [HK.out])
      go_quiet (fail)
      go_wp2
      go_ret3
      exact ⟨_, _, _, _, rfl, HP.out, HP3.out, _, rfl⟩
  · have ht := idxO_none hi
    have ht3 := idxO_restN hi
    have hx : (idxO c xs ≥ 0) = False := by simpa using hi
    have hp := HR.out
    rw [← ht] at hp
    rw [decide_eq_false hi] at hF
    have HI := hid hi
    have HP := hid hp
    have HT := hid ht3
    clear hi ht hp ht3 hr hr2
    subst hF
    go_enter Tryz.func106, Tryz.ntmps106
    go_wp2_with (go_at_call 131; (with_reducible refine (bytes_Index1 HR.out HR2.out).mono ?_); rintro e w' ⟨rfl, rfl⟩)
    go_ret3
    exact ⟨_, _, _, _, rfl, HP.out, by rw [HT.out]; exact Reads.nil _ _ _ _ (Nat.zero_le _), 0, rfl⟩
end Go.Proofs.YtefhddbbiheadaaGreat

/-! D32c -/
namespace Go.Proofs.YtefhddbbiheadaaGreat
open Go.RowKit
set_option linter.unusedVariables false

theorem tw_idx (f : Int → Bool) : ∀ r : List Int, (idxI f r = -1 ∧ (r.takeWhile fun c => !f c).length = r.length) ∨ (0 ≤ idxI f r ∧ idxI f r = ((r.takeWhile fun c => !f c).length : Int))
  | [] => .inl ⟨rfl, rfl⟩
  | x :: r => by
    have ih := tw_idx f r
    rw [idx_cons, List.takeWhile_cons]
    cases hx : f x
    · simp only [Bool.false_eq_true, if_false, Bool.not_false, if_true, List.length_cons]
      rcases ih with ⟨h1, h2⟩ | ⟨h1, h2⟩
      · exact .inl ⟨by rw [if_pos h1], by rw [h2]⟩
      · exact .inr ⟨by rw [if_neg (by omega)]; omega, by rw [if_neg (by omega)]; omega⟩
    · exact .inr ⟨by simp, by simp⟩
/-- Octets of the other kind than the first one. -/
def otK (g : Bool) (c : Int) : Bool := gp c != g
theorem turn_idx {s : List Int} {x : Int} (h : s[0]? = some x) : (idxI (otK (gp x)) s = -1 ∧ turnN s = s.length) ∨ (0 ≤ idxI (otK (gp x)) s ∧ idxI (otK (gp x)) s = (turnN s : Int)) := by
  cases s with
  | nil => cases h
  | cons y r =>
    cases h
    have e : (fun c => !otK (gp x) c) = fun c => gp c == gp x := by
      funext c
      unfold otK
      cases gp c <;> cases gp x <;> rfl
    have hx : otK (gp x) x = false := by unfold otK; cases gp x <;> rfl
    have k := tw_idx (otK (gp x)) r
    rw [e] at k
    rw [idx_cons, hx, turn_cons, List.length_cons]
    simp only [Bool.false_eq_true, if_false]
    rcases k with ⟨h1, h2⟩ | ⟨h1, h2⟩
    · exact .inl ⟨by rw [if_pos h1], by omega⟩
    · exact .inr ⟨by rw [if_neg (by omega)]; omega, by rw [if_neg (by omega)]; omega⟩
theorem kd_nil : kdW [] = 2 := by decide +kernel
/-- Is an octet none of a gap? -/
def noG (c : Int) : Bool := !gp c
/-- A kind, as the program tells it. -/
theorem kd_cases {s : List Int} (h : s ≠ []) : kdW s = if s.any noG = true then (if ewE s = 0 then 3 else 2) else 1 := by
  unfold kdW
  have e : s.all gp = !s.any noG := by rw [List.not_any_eq_all_not]; congr 1; funext c; unfold noG; rw [Bool.not_not]
  rw [e]
  cases s.any noG
  · rw [if_pos ⟨h, rfl⟩, if_neg Bool.false_ne_true]
  · rw [if_neg (fun hh => by cases hh.2), if_pos rfl]
/-- Of any list: the first m, hidden or not. -/
theorem hidA_len (ks : List Int) : (hidA ks).length = ks.length := by unfold hidA; rw [List.length_map, List.length_range]
theorem hidA_at (ks : List Int) (i : Nat) (hi : i < ks.length) : (hidA ks).getD i false = hidP ks i := by
  unfold hidA
  rw [List.getD_eq_getElem?_getD, List.getElem?_map, List.getElem?_range hi]
  rfl
theorem hidP_edge {ks : List Int} {j : Nat} (h : ¬ (0 < j ∧ j + 1 < ks.length)) : hidP ks j = false := by
  unfold hidP
  by_cases h1 : 0 < j
  · rw [decide_eq_false (fun h2 : j + 1 < ks.length => h ⟨h1, h2⟩)]; simp
  · rw [decide_eq_false h1]; simp
theorem hidP_in {ks : List Int} {j : Nat} (h1 : 0 < j) (h2 : j + 1 < ks.length) : hidP ks j = (decide (ks.getD j 0 = 1) && (decide (ks.getD (j - 1) 0 = 3) && decide (ks.getD (j + 1) 0 = 3))) := by
  unfold hidP
  rw [decide_eq_true h1, decide_eq_true h2, Bool.true_and, Bool.true_and]
theorem kind_at {ps : List (Int × List Int)} {j : Nat} {k : Int} {x : List Int} (h : ps[j]? = some (k, x)) : (ps.map Prod.fst).getD j 0 = k := by
  rw [List.getD_eq_getElem?_getD, List.getElem?_map, h]; rfl
theorem shw_snoc (l : List (Int × List Int)) (m : Nat) : shwN l (m + 1) = shwN l m ++ (if hidP (l.map Prod.fst) m = true then [] else (l[m]?).toList) := by
  unfold shwN
  rw [List.range_succ, List.filterMap_append, List.filterMap_cons, List.filterMap_nil]
  cases hidP (l.map Prod.fst) m
  · rw [if_neg Bool.false_ne_true, if_neg Bool.false_ne_true]
    cases l[m]? <;> rfl
  · rw [if_pos rfl, if_pos rfl]
theorem shw_len (l : List (Int × List Int)) (m : Nat) : (shwN l m).length ≤ m := by
  unfold shwN
  exact Nat.le_trans (List.length_filterMap_le _ _) (by rw [List.length_range]; exact Nat.le_refl _)
theorem wrdN_snoc {L : List (Int × List Int)} {j : Nat} {k : Int} {x : List Int} (ht : L.take (j + 1) = L.take j ++ [(k, x)]) : (L.take (j + 1)).countP (fun p => decide (p.1 = 3)) = (L.take j).countP (fun p => decide (p.1 = 3)) + if k = 3 then 1 else 0 := by
  rw [ht, List.countP_append, List.countP_cons, List.countP_nil]
  simp
theorem pcsP_on {s : List Int} (h : s ≠ []) : pcsP s = (kdW (s.take (turnN s)), s.take (turnN s)) :: pcsP (s.drop (turnN s)) := by
  unfold pcsP
  rw [pcsT_on h, List.map_cons]
theorem pcsP_nil : pcsP [] = [] := by unfold pcsP; rw [pcsT_nil]; rfl
theorem pcsP_len (s : List Int) : (pcsP s).length ≤ s.length := by
  unfold pcsP
  rw [List.length_map]
  exact (pcsT_whole s).2.2
end Go.Proofs.YtefhddbbiheadaaGreat
