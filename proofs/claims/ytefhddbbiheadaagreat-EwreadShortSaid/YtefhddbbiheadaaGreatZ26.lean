/-
  Texts of ours laid together: C08, C09a.
-/
import Derived.Test.YtefhddbbiheadaaGreatRows
import Derived.Test.YtefhddbbiheadaaGreatZ25

/-! C08 -/
namespace Go.Proofs.YtefhddbbiheadaaGreat
open Go.RowKit
set_option linter.unusedVariables false

theorem latin_Has (c : Int) (w : World) :
    Calls Tryz.prog 157 #[.int .i32 c] w fun e w' => e = .returned (.bool (hasI sg08 c)) ∧ w = w' := by
  have H := hid (has08 c)
  go_enter Tryz.func157, Tryz.ntmps157
  go_wp2
  all_goals (go_ret; exact ⟨ret_bool (by rw [H.out]; simp; omega), rfl⟩)
theorem latin_Sign (x : Int) (w : World) (h0 : 0 ≤ x) (h1 : x ≤ 255) :
    Calls Tryz.prog 141 #[.int .u8 x] w fun e w' => e = .returned (.int .i32 (sg08 x)) ∧ w = w' := by
  go_enter Tryz.func141, Tryz.ntmps141
  go_wp2
  all_goals (go_ret; exact ⟨ret_int rfl, rfl⟩)
set_option maxHeartbeats 1000000 in
theorem latin_Read (a : Option Addr) (len cap : Nat) (xs : List Int) (w : World) (hr : Reads .u8 w a len cap xs) (hN : len < 100000000000) :
    Calls Tryz.prog 120 #[.slice a len cap] w fun e w' => ∃ a' cap', e = .returned (.slice a' len cap') ∧ Reads .i32 w' a' len cap' (xs.map sg08) ∧ Below w.heap.size w w' := by
  have HR := hid hr
  have hsz := hr.size
  clear hr
  go_enter Tryz.func120, Tryz.ntmps120
  go_wp2_with (at_make; refine wpList_zeros CTR rfl _ _ rfl (w0 := w) rfl rfl (Below.refl _ _) (by omega) (by decide) ?_; intro g w1 hown hbel)
  obtain ⟨w1, rfl⟩ : ∃ x : World, x = w1 := ⟨_, rfl⟩
  go_loopw [10] (fun i wr => ∃ k : Nat, k ≤ len ∧ i = .int .i64 k ∧ Own .i32 21 w.heap.size wr (.slice (some ⟨g, 0, none⟩) len len) (fill sg08 xs k) ∧ Below w.heap.size w wr) (fun i _ => len - (intOf i).toNat)
  case atStart => exact ⟨0, Nat.zero_le _, rfl, by rw [fill_zero, hsz]; exact hown, hbel⟩
  case round =>
    obtain ⟨k, hk, rfl, hown', hbel'⟩ := hrel
    by_cases hlt : k < len
    · obtain ⟨b, off, x, rfl, _, hc, h0, h1, hx⟩ := (HR.out.below hbel').get8 hlt
      obtain ⟨hcell, hfz⟩ := hown'.at (j := k) (by rw [fill_len] <;> omega)
      obtain ⟨ho2, hb2⟩ := hown'.store hbel' k (sg08_wf x h0 h1)
      rw [fill_set sg08 (by omega) hx.out.2] at ho2
      have HO := hid ho2
      have HB := hid hb2
      clear ho2 hb2 hown' hbel'
      go_wp2_with (go_at_call 141; (with_reducible refine (latin_Sign _ _ h0 h1).mono ?_); rintro e w' ⟨rfl, rfl⟩)
      go_roundw
      case rel => exact ⟨k + 1, by omega, by go_num, HO.out, HB.out⟩
      case measure => simp [intOf]; omega
    · go_wp2
      go_ret
      obtain ⟨a', cap', hv, hrd⟩ := hown'.reads
      rw [fill_all sg08 xs k (by omega)] at hv hrd
      simp only [List.length_map, hsz] at hv hrd
      exact ⟨a', cap', by rw [← hv]; rfl, hrd, hbel'⟩

end Go.Proofs.YtefhddbbiheadaaGreat

/-! C09a -/
namespace Go.Proofs.YtefhddbbiheadaaGreat
open Go.RowKit
set_option linter.unusedVariables false

/-- The eight octets at which the charset parts from ISO-8859-1, their signs; c is none of the first k of them. -/
def o9 : List Int := [164, 166, 168, 180, 184, 188, 189, 190]
def s9 : List Int := [8364, 352, 353, 381, 382, 338, 339, 376]
def Free (l : List Int) (c : Int) (k : Nat) : Prop := ∀ j, j < k → c ≠ l.getD j 0
theorem free_none (l : List Int) (c : Int) : Free l c 0 := fun j hj => by omega
theorem free_on {l : List Int} {c : Int} {k : Nat} (h : Free l c k) (x : Int) (hx : l.getD k 0 = x) (ho : ¬ c = x) : Free l c (k + 1) := by
  intro j hj
  by_cases hjk : j < k
  · exact h j hjk
  · have : j = k := by omega
    subst this
    rw [hx]
    exact ho
theorem free_o {c : Int} (h : Free o9 c 8) : c ≠ 164 ∧ c ≠ 166 ∧ c ≠ 168 ∧ c ≠ 180 ∧ c ≠ 184 ∧ c ≠ 188 ∧ c ≠ 189 ∧ c ≠ 190 :=
  ⟨h 0 (by decide), h 1 (by decide), h 2 (by decide), h 3 (by decide), h 4 (by decide), h 5 (by decide), h 6 (by decide), h 7 (by decide)⟩
theorem free_s {c : Int} (h : Free s9 c 8) : c ≠ 8364 ∧ c ≠ 352 ∧ c ≠ 353 ∧ c ≠ 381 ∧ c ≠ 382 ∧ c ≠ 338 ∧ c ≠ 339 ∧ c ≠ 376 :=
  ⟨h 0 (by decide), h 1 (by decide), h 2 (by decide), h 3 (by decide), h 4 (by decide), h 5 (by decide), h 6 (by decide), h 7 (by decide)⟩
theorem sg09_free {c : Int} (h : Free o9 c 8) : sg09 c = c := by
  have h' := free_o h
  unfold sg09
  repeat' split
  all_goals omega
theorem free_has {c : Int} (ho : Free o9 c 8) (h0 : 0 ≤ c) (h1 : c < 256) : putI sg09 c = c ∧ hasI sg09 c = true := by
  have h := once_put once09 (x := c) h0 (by omega) (by rw [sg09_free ho]; omega)
  rwa [sg09_free ho] at h
theorem free_no {c : Int} (hs : Free s9 c 8) (h : ¬ (0 ≤ c ∧ c < 256)) : putI sg09 c = 0 ∧ hasI sg09 c = false := by
  refine put_no (put_none fun j hj h2 => ?_)
  have h3 := h2.1
  have h' := free_s hs
  unfold sg09 at h3
  revert h3
  repeat' split
  all_goals omega

theorem at9_0 (w : World) : (Instr.index 134 (.agg #[.int .u8 164, .int .i32 8364, .int .u8 166, .int .i32 352, .int .u8 168, .int .i32 353, .int .u8 180, .int .i32 381, .int .u8 184, .int .i32 382, .int .u8 188, .int .i32 338, .int .u8 189, .int .i32 339, .int .u8 190, .int .i32 376]) (.int .i64 0)).run Tryz.prog w = .ok (.agg #[.int .u8 164, .int .i32 8364]) w := by kernel_rfl
theorem at9_1 (w : World) : (Instr.index 134 (.agg #[.int .u8 164, .int .i32 8364, .int .u8 166, .int .i32 352, .int .u8 168, .int .i32 353, .int .u8 180, .int .i32 381, .int .u8 184, .int .i32 382, .int .u8 188, .int .i32 338, .int .u8 189, .int .i32 339, .int .u8 190, .int .i32 376]) (.int .i64 1)).run Tryz.prog w = .ok (.agg #[.int .u8 166, .int .i32 352]) w := by kernel_rfl
theorem at9_2 (w : World) : (Instr.index 134 (.agg #[.int .u8 164, .int .i32 8364, .int .u8 166, .int .i32 352, .int .u8 168, .int .i32 353, .int .u8 180, .int .i32 381, .int .u8 184, .int .i32 382, .int .u8 188, .int .i32 338, .int .u8 189, .int .i32 339, .int .u8 190, .int .i32 376]) (.int .i64 2)).run Tryz.prog w = .ok (.agg #[.int .u8 168, .int .i32 353]) w := by kernel_rfl
theorem at9_3 (w : World) : (Instr.index 134 (.agg #[.int .u8 164, .int .i32 8364, .int .u8 166, .int .i32 352, .int .u8 168, .int .i32 353, .int .u8 180, .int .i32 381, .int .u8 184, .int .i32 382, .int .u8 188, .int .i32 338, .int .u8 189, .int .i32 339, .int .u8 190, .int .i32 376]) (.int .i64 3)).run Tryz.prog w = .ok (.agg #[.int .u8 180, .int .i32 381]) w := by kernel_rfl
theorem at9_4 (w : World) : (Instr.index 134 (.agg #[.int .u8 164, .int .i32 8364, .int .u8 166, .int .i32 352, .int .u8 168, .int .i32 353, .int .u8 180, .int .i32 381, .int .u8 184, .int .i32 382, .int .u8 188, .int .i32 338, .int .u8 189, .int .i32 339, .int .u8 190, .int .i32 376]) (.int .i64 4)).run Tryz.prog w = .ok (.agg #[.int .u8 184, .int .i32 382]) w := by kernel_rfl
theorem at9_5 (w : World) : (Instr.index 134 (.agg #[.int .u8 164, .int .i32 8364, .int .u8 166, .int .i32 352, .int .u8 168, .int .i32 353, .int .u8 180, .int .i32 381, .int .u8 184, .int .i32 382, .int .u8 188, .int .i32 338, .int .u8 189, .int .i32 339, .int .u8 190, .int .i32 376]) (.int .i64 5)).run Tryz.prog w = .ok (.agg #[.int .u8 188, .int .i32 338]) w := by kernel_rfl
theorem at9_6 (w : World) : (Instr.index 134 (.agg #[.int .u8 164, .int .i32 8364, .int .u8 166, .int .i32 352, .int .u8 168, .int .i32 353, .int .u8 180, .int .i32 381, .int .u8 184, .int .i32 382, .int .u8 188, .int .i32 338, .int .u8 189, .int .i32 339, .int .u8 190, .int .i32 376]) (.int .i64 6)).run Tryz.prog w = .ok (.agg #[.int .u8 189, .int .i32 339]) w := by kernel_rfl
theorem at9_7 (w : World) : (Instr.index 134 (.agg #[.int .u8 164, .int .i32 8364, .int .u8 166, .int .i32 352, .int .u8 168, .int .i32 353, .int .u8 180, .int .i32 381, .int .u8 184, .int .i32 382, .int .u8 188, .int .i32 338, .int .u8 189, .int .i32 339, .int .u8 190, .int .i32 376]) (.int .i64 7)).run Tryz.prog w = .ok (.agg #[.int .u8 190, .int .i32 376]) w := by kernel_rfl

theorem latnine_others (w : World) :
    Calls Tryz.prog 161 #[] w fun e w' => e = .returned (.agg #[.int .u8 164, .int .i32 8364, .int .u8 166, .int .i32 352, .int .u8 168, .int .i32 353, .int .u8 180, .int .i32 381, .int .u8 184, .int .i32 382, .int .u8 188, .int .i32 338, .int .u8 189, .int .i32 339, .int .u8 190, .int .i32 376]) ∧ Below w.heap.size w w' := by
  go_enter Tryz.func161, Tryz.ntmps161
  go_wp2
  exact bodyPost_ret (v := .agg #[.int .u8 164, .int .i32 8364, .int .u8 166, .int .i32 352, .int .u8 168, .int .i32 353, .int .u8 180, .int .i32 381, .int .u8 184, .int .i32 382, .int .u8 188, .int .i32 338, .int .u8 189, .int .i32 339, .int .u8 190, .int .i32 376]) (by simp [results, Tryz.results161, go_sem]) rfl ⟨rfl, (Below.refl _ _).alloc (Nat.le_refl _) _⟩

set_option maxHeartbeats 4000000 in
theorem latnine_Put (c : Int) (w : World) :
    Calls Tryz.prog 172 #[.int .i32 c] w fun e w' => e = .returned (.tuple #[.int .u8 (putI sg09 c), .bool (hasI sg09 c)]) ∧ Below w.heap.size w w' := by
  go_enter Tryz.func172, Tryz.ntmps172
  go_wp2_with (go_at_call 161; (with_reducible refine (latnine_others _).mono ?_); rintro e w1 ⟨rfl, hb1⟩)
  go_loopw [7] (fun i wr => ∃ k : Nat, k ≤ 8 ∧ i = .int .i64 k ∧ Hid (Free o9 c k ∧ Free s9 c k) ∧ Below w.heap.size w wr) (fun i _ => 8 - (intOf i).toNat)
  case atStart => exact ⟨0, Nat.zero_le _, rfl, hid ⟨free_none _ _, free_none _ _⟩, hb1⟩
  case round =>
    obtain ⟨k, hk, rfl, hn, hbel'⟩ := hrel
    by_cases hlt : k < 8
    · have hc : k = 0 ∨ k = 1 ∨ k = 2 ∨ k = 3 ∨ k = 4 ∨ k = 5 ∨ k = 6 ∨ k = 7 := by omega
      rcases hc with rfl | rfl | rfl | rfl | rfl | rfl | rfl | rfl
      · have hx := at9_0
        by_cases hs : c = 8364
        · subst hs
          go_wp2
          go_ret2
          exact ⟨ret_ib (by decide +kernel) (by decide +kernel), hbel'.alloc hbel'.size _⟩
        · by_cases ho : c = 164
          · subst ho
            go_wp2
            go_ret2
            exact ⟨ret_ib (by decide +kernel) (by decide +kernel), hbel'.alloc hbel'.size _⟩
          · have hn' : Hid (Free o9 c 1 ∧ Free s9 c 1) := hid (⟨free_on hn.out.1 164 rfl ho, free_on hn.out.2 8364 rfl hs⟩)
            go_wp2
            go_roundw
            case rel => exact ⟨1, by omega, by go_num, hn', hbel'.alloc hbel'.size _⟩
            case measure => decide
      · have hx := at9_1
        by_cases hs : c = 352
        · subst hs
          go_wp2
          go_ret2
          exact ⟨ret_ib (by decide +kernel) (by decide +kernel), hbel'.alloc hbel'.size _⟩
        · by_cases ho : c = 166
          · subst ho
            go_wp2
            go_ret2
            exact ⟨ret_ib (by decide +kernel) (by decide +kernel), hbel'.alloc hbel'.size _⟩
          · have hn' : Hid (Free o9 c 2 ∧ Free s9 c 2) := hid (⟨free_on hn.out.1 166 rfl ho, free_on hn.out.2 352 rfl hs⟩)
            go_wp2
            go_roundw
            case rel => exact ⟨2, by omega, by go_num, hn', hbel'.alloc hbel'.size _⟩
            case measure => decide
      · have hx := at9_2
        by_cases hs : c = 353
        · subst hs
          go_wp2
          go_ret2
          exact ⟨ret_ib (by decide +kernel) (by decide +kernel), hbel'.alloc hbel'.size _⟩
        · by_cases ho : c = 168
          · subst ho
            go_wp2
            go_ret2
            exact ⟨ret_ib (by decide +kernel) (by decide +kernel), hbel'.alloc hbel'.size _⟩
          · have hn' : Hid (Free o9 c 3 ∧ Free s9 c 3) := hid (⟨free_on hn.out.1 168 rfl ho, free_on hn.out.2 353 rfl hs⟩)
            go_wp2
            go_roundw
            case rel => exact ⟨3, by omega, by go_num, hn', hbel'.alloc hbel'.size _⟩
            case measure => decide
      · have hx := at9_3
        by_cases hs : c = 381
        · subst hs
          go_wp2
          go_ret2
          exact ⟨ret_ib (by decide +kernel) (by decide +kernel), hbel'.alloc hbel'.size _⟩
        · by_cases ho : c = 180
          · subst ho
            go_wp2
            go_ret2
            exact ⟨ret_ib (by decide +kernel) (by decide +kernel), hbel'.alloc hbel'.size _⟩
          · have hn' : Hid (Free o9 c 4 ∧ Free s9 c 4) := hid (⟨free_on hn.out.1 180 rfl ho, free_on hn.out.2 381 rfl hs⟩)
            go_wp2
            go_roundw
            case rel => exact ⟨4, by omega, by go_num, hn', hbel'.alloc hbel'.size _⟩
            case measure => decide
      · have hx := at9_4
        by_cases hs : c = 382
        · subst hs
          go_wp2
          go_ret2
          exact ⟨ret_ib (by decide +kernel) (by decide +kernel), hbel'.alloc hbel'.size _⟩
        · by_cases ho : c = 184
          · subst ho
            go_wp2
            go_ret2
            exact ⟨ret_ib (by decide +kernel) (by decide +kernel), hbel'.alloc hbel'.size _⟩
          · have hn' : Hid (Free o9 c 5 ∧ Free s9 c 5) := hid (⟨free_on hn.out.1 184 rfl ho, free_on hn.out.2 382 rfl hs⟩)
            go_wp2
            go_roundw
            case rel => exact ⟨5, by omega, by go_num, hn', hbel'.alloc hbel'.size _⟩
            case measure => decide
      · have hx := at9_5
        by_cases hs : c = 338
        · subst hs
          go_wp2
          go_ret2
          exact ⟨ret_ib (by decide +kernel) (by decide +kernel), hbel'.alloc hbel'.size _⟩
        · by_cases ho : c = 188
          · subst ho
            go_wp2
            go_ret2
            exact ⟨ret_ib (by decide +kernel) (by decide +kernel), hbel'.alloc hbel'.size _⟩
          · have hn' : Hid (Free o9 c 6 ∧ Free s9 c 6) := hid (⟨free_on hn.out.1 188 rfl ho, free_on hn.out.2 338 rfl hs⟩)
            go_wp2
            go_roundw
            case rel => exact ⟨6, by omega, by go_num, hn', hbel'.alloc hbel'.size _⟩
            case measure => decide
      · have hx := at9_6
        by_cases hs : c = 339
        · subst hs
          go_wp2
          go_ret2
          exact ⟨ret_ib (by decide +kernel) (by decide +kernel), hbel'.alloc hbel'.size _⟩
        · by_cases ho : c = 189
          · subst ho
            go_wp2
            go_ret2
            exact ⟨ret_ib (by decide +kernel) (by decide +kernel), hbel'.alloc hbel'.size _⟩
          · have hn' : Hid (Free o9 c 7 ∧ Free s9 c 7) := hid (⟨free_on hn.out.1 189 rfl ho, free_on hn.out.2 339 rfl hs⟩)
            go_wp2
            go_roundw
            case rel => exact ⟨7, by omega, by go_num, hn', hbel'.alloc hbel'.size _⟩
            case measure => decide
      · have hx := at9_7
        by_cases hs : c = 376
        · subst hs
          go_wp2
          go_ret2
          exact ⟨ret_ib (by decide +kernel) (by decide +kernel), hbel'.alloc hbel'.size _⟩
        · by_cases ho : c = 190
          · subst ho
            go_wp2
            go_ret2
            exact ⟨ret_ib (by decide +kernel) (by decide +kernel), hbel'.alloc hbel'.size _⟩
          · have hn' : Hid (Free o9 c 8 ∧ Free s9 c 8) := hid (⟨free_on hn.out.1 190 rfl ho, free_on hn.out.2 376 rfl hs⟩)
            go_wp2
            go_roundw
            case rel => exact ⟨8, by omega, by go_num, hn', hbel'.alloc hbel'.size _⟩
            case measure => decide
    · have hk8 : k = 8 := by omega
      subst hk8
      by_cases hr : 0 ≤ c ∧ c < 256
      · have H := hid (free_has hn.out.1 hr.1 hr.2)
        obtain ⟨h0, h1⟩ := hr
        have hmod : c % 256 = c := by omega
        go_wp2
        go_ret2
        exact ⟨ret_ib H.out.1.symm H.out.2.symm, hbel'⟩
      · have H := hid (free_no hn.out.2 hr)
        by_cases h0 : c < 0
        · go_wp2
          go_ret2
          exact ⟨ret_ib H.out.1.symm H.out.2.symm, hbel'⟩
        · have h1 : ¬ c < 256 := by omega
          go_wp2
          go_ret2
          exact ⟨ret_ib H.out.1.symm H.out.2.symm, hbel'⟩

set_option maxHeartbeats 4000000 in
theorem latnine_Sign (x : Int) (w : World) (h0 : 0 ≤ x) (h1 : x ≤ 255) :
    Calls Tryz.prog 139 #[.int .u8 x] w fun e w' => e = .returned (.int .i32 (sg09 x)) ∧ Below w.heap.size w w' := by
  go_enter Tryz.func139, Tryz.ntmps139
  go_wp2_with (go_at_call 161; (with_reducible refine (latnine_others _).mono ?_); rintro e w1 ⟨rfl, hb1⟩)
  go_loopw [6] (fun i wr => ∃ k : Nat, k ≤ 8 ∧ i = .int .i64 k ∧ Hid (Free o9 x k) ∧ Below w.heap.size w wr) (fun i _ => 8 - (intOf i).toNat)
  case atStart => exact ⟨0, Nat.zero_le _, rfl, hid (free_none _ _), hb1⟩
  case round =>
    obtain ⟨k, hk, rfl, hn, hbel'⟩ := hrel
    by_cases hlt : k < 8
    · have hc : k = 0 ∨ k = 1 ∨ k = 2 ∨ k = 3 ∨ k = 4 ∨ k = 5 ∨ k = 6 ∨ k = 7 := by omega
      rcases hc with rfl | rfl | rfl | rfl | rfl | rfl | rfl | rfl
      · have hx := at9_0
        by_cases ho : x = 164
        · subst ho
          go_wp2
          go_ret
          exact ⟨ret_int (by decide +kernel), hbel'.alloc hbel'.size _⟩
        · have hn' := hid (free_on hn.out 164 rfl ho)
          go_wp2
          go_roundw
          case rel => exact ⟨1, by omega, by go_num, hn', hbel'.alloc hbel'.size _⟩
          case measure => decide
      · have hx := at9_1
        by_cases ho : x = 166
        · subst ho
          go_wp2
          go_ret
          exact ⟨ret_int (by decide +kernel), hbel'.alloc hbel'.size _⟩
        · have hn' := hid (free_on hn.out 166 rfl ho)
          go_wp2
          go_roundw
          case rel => exact ⟨2, by omega, by go_num, hn', hbel'.alloc hbel'.size _⟩
          case measure => decide
      · have hx := at9_2
        by_cases ho : x = 168
        · subst ho
          go_wp2
          go_ret
          exact ⟨ret_int (by decide +kernel), hbel'.alloc hbel'.size _⟩
        · have hn' := hid (free_on hn.out 168 rfl ho)
          go_wp2
          go_roundw
          case rel => exact ⟨3, by omega, by go_num, hn', hbel'.alloc hbel'.size _⟩
          case measure => decide
      · have hx := at9_3
        by_cases ho : x = 180
        · subst ho
          go_wp2
          go_ret
          exact ⟨ret_int (by decide +kernel), hbel'.alloc hbel'.size _⟩
        · have hn' := hid (free_on hn.out 180 rfl ho)
          go_wp2
          go_roundw
          case rel => exact ⟨4, by omega, by go_num, hn', hbel'.alloc hbel'.size _⟩
          case measure => decide
      · have hx := at9_4
        by_cases ho : x = 184
        · subst ho
          go_wp2
          go_ret
          exact ⟨ret_int (by decide +kernel), hbel'.alloc hbel'.size _⟩
        · have hn' := hid (free_on hn.out 184 rfl ho)
          go_wp2
          go_roundw
          case rel => exact ⟨5, by omega, by go_num, hn', hbel'.alloc hbel'.size _⟩
          case measure => decide
      · have hx := at9_5
        by_cases ho : x = 188
        · subst ho
          go_wp2
          go_ret
          exact ⟨ret_int (by decide +kernel), hbel'.alloc hbel'.size _⟩
        · have hn' := hid (free_on hn.out 188 rfl ho)
          go_wp2
          go_roundw
          case rel => exact ⟨6, by omega, by go_num, hn', hbel'.alloc hbel'.size _⟩
          case measure => decide
      · have hx := at9_6
        by_cases ho : x = 189
        · subst ho
          go_wp2
          go_ret
          exact ⟨ret_int (by decide +kernel), hbel'.alloc hbel'.size _⟩
        · have hn' := hid (free_on hn.out 189 rfl ho)
          go_wp2
          go_roundw
          case rel => exact ⟨7, by omega, by go_num, hn', hbel'.alloc hbel'.size _⟩
          case measure => decide
      · have hx := at9_7
        by_cases ho : x = 190
        · subst ho
          go_wp2
          go_ret
          exact ⟨ret_int (by decide +kernel), hbel'.alloc hbel'.size _⟩
        · have hn' := hid (free_on hn.out 190 rfl ho)
          go_wp2
          go_roundw
          case rel => exact ⟨8, by omega, by go_num, hn', hbel'.alloc hbel'.size _⟩
          case measure => decide
    · have hk8 : k = 8 := by omega
      subst hk8
      go_wp2
      go_ret
      exact ⟨ret_int (sg09_free hn.out).symm, hbel'⟩
theorem latnine_Has (c : Int) (w : World) :
    Calls Tryz.prog 158 #[.int .i32 c] w fun e w' => e = .returned (.bool (hasI sg09 c)) ∧ Below w.heap.size w w' := by
  go_enter Tryz.func158, Tryz.ntmps158
  go_wp2_with (go_at_call 172; (with_reducible refine (latnine_Put _ _).mono ?_); rintro e w1 ⟨rfl, hb1⟩)
  go_ret
  exact ⟨rfl, hb1⟩
end Go.Proofs.YtefhddbbiheadaaGreat
