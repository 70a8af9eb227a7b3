/-
  Texts of ours laid together: C01k, Lit0, Cln, StrB, Pre.
-/
import Derived.Test.YtefhddbbiheadaaGreatRows
import Derived.Deep.CutBlock
import Derived.Test.YtefhddbbiheadaaGreatZ15

/-! C01k -/
namespace Go.Proofs.YtefhddbbiheadaaGreat
open Go.RowKit
set_option linter.unusedVariables false

theorem alnum_c (c : Int) (w : World) (h0 : 0 ≤ c) (h1 : c ≤ 255) :
    Calls Tryz.prog 127 #[.int .u8 c] w fun e w' => e = .returned (.int .i64 (alnumI c)) ∧ w = w' := by
  have hb := low_bd c h0 h1
  go_enter Tryz.func127, Tryz.ntmps127
  go_wp2_with (go_at_call 111; refine (lower_c _ _ h0 h1).mono ?_; rintro e w' ⟨rfl, rfl⟩)
  all_goals (go_ret; exact ⟨ret_int (by unfold alnumI; (repeat' split) <;> first | rfl | omega), rfl⟩)
theorem ibs (s : ByteArray) (c : Int) (w : World) : (callFunc 177 #[.string s, .int .u8 c]).run Tryz.prog w = .ok (.value (.int .i64 (firstIdx s c.toNat.toUInt8))) w := by
  rw [run_callFunc_extern (fn := Tryz.f177) (e := Extern.BytealgIndexByte.indexByte) (by kernel_rfl) (by kernel_rfl) (by kernel_rfl) (by kernel_rfl) (by kernel_rfl), run_indexByte_string]
  rfl
theorem among_c (s : ByteArray) (c : Int) (w : World) :
    Calls Tryz.prog 144 #[.string s, .int .u8 c] w fun e w' => e = .returned (.bool (hasB s c)) ∧ w = w' := by
  have hx := ibs s c w
  go_enter Tryz.func144, Tryz.ntmps144
  go_wp2
  go_ret
  exact ⟨ret_bool (firstIdx_nonneg _ _), rfl⟩
theorem syn_c (c : Int) (w : World) :
    Calls Tryz.prog 128 #[.int .u8 c] w fun e w' => e = .returned (.int .i64 (synI c)) ∧ w = w' := by
  go_enter Tryz.func128, Tryz.ntmps128
  go_wp2_with (go_at_call 144; refine (among_c _ _ _).mono ?_; rintro e w' ⟨rfl, rfl⟩)
  all_goals (go_ret; exact ⟨ret_int (by unfold synI; simp [*]), rfl⟩)
theorem cod_c (c : Int) (w : World) (h0 : 0 ≤ c) (h1 : c ≤ 255) :
    Calls Tryz.prog 129 #[.int .u8 c] w fun e w' => e = .returned (.int .i64 (codI c)) ∧ w = w' := by
  go_enter Tryz.func129, Tryz.ntmps129
  go_wp2_with (first | (go_at_call 144; refine (among_c _ _ _).mono ?_; rintro e w' ⟨rfl, rfl⟩) | (go_at_call 127; refine (alnum_c _ _ h0 h1).mono ?_; rintro e w' ⟨rfl, rfl⟩))
  all_goals (go_ret; exact ⟨ret_int (by unfold codI; simp only [*, if_true, if_false, Bool.false_eq_true]; try rfl), rfl⟩)
theorem kinds_c (c : Int) (w : World) (h0 : 0 ≤ c) (h1 : c ≤ 255) :
    Calls Tryz.prog 98 #[.int .u8 c] w fun e w' => e = .returned (.int .i64 (kindI c)) ∧ w = w' := by
  go_enter Tryz.func98, Tryz.ntmps98
  go_wp2_with (first | (go_at_call 127; refine (alnum_c _ _ h0 h1).mono ?_; rintro e w' ⟨rfl, rfl⟩) | (go_at_call 128; refine (syn_c _ _).mono ?_; rintro e w' ⟨rfl, rfl⟩) | (go_at_call 129; refine (cod_c _ _ h0 h1).mono ?_; rintro e w' ⟨rfl, rfl⟩))
  all_goals (go_ret; exact ⟨ret_int (by simp only [beq_iff_eq, beq_eq_false_iff_ne] at *; unfold kindI; (repeat' split) <;> first | rfl | omega), rfl⟩)
theorem is_c (c kinds : Int) (w : World) (h0 : 0 ≤ c) (h1 : c ≤ 255) :
    Calls Tryz.prog 73 #[.int .u8 c, .int .i64 kinds] w fun e w' => e = .returned (.bool (isB kinds c)) ∧ w = w' := by
  go_enter Tryz.func73, Tryz.ntmps73
  go_wp2_with (go_at_call 98; refine (kinds_c _ _ h0 h1).mono ?_; rintro e w' ⟨rfl, rfl⟩)
  go_ret
  exact ⟨rfl, rfl⟩
set_option maxHeartbeats 1000000 in
theorem all_c (a : Option Addr) (len cap : Nat) (xs : List Int) (kinds : Int) (w : World) (hr : Reads .u8 w a len cap xs) :
    Calls Tryz.prog 107 #[.slice a len cap, .int .i64 kinds] w fun e w' => e = .returned (.bool (xs.all (isB kinds))) ∧ w = w' := by
  have hl := hr.len_le
  have HR := hid hr
  clear hr
  go_enter Tryz.func107, Tryz.ntmps107
  go_wp2
  go_loop [9] (fun i => ∃ k : Nat, k ≤ len ∧ i = .int .i64 k ∧ Hid ((xs.take k).all (isB kinds) = true)) (fun i => len - (intOf i).toNat)
  case atStart => exact ⟨0, Nat.zero_le _, rfl, rfl⟩
  case round =>
    obtain ⟨k, hk, rfl, hn⟩ := hrel
    by_cases hlt : k < len
    · obtain ⟨b, off, x, rfl, _, hc, h0, h1, hx⟩ := HR.out.get8 hlt
      go_wp2_with (go_at_call 73; refine (is_c _ _ _ h0 h1).mono ?_; rintro e w' ⟨rfl, rfl⟩)
      · go_ret
        exact ⟨ret_bool (all_no hx.out.1 (by simpa using ‹(!isB kinds x) = true›)).symm, rfl⟩
      · go_round
        case rel => exact ⟨k + 1, by omega, by go_num, all_yes hx.out.2 hn.out (by simpa using ‹(!isB kinds x) = false›)⟩
        case measure => simp [intOf]; omega
    · go_wp2
      go_ret
      exact ⟨ret_bool (by rw [← HR.out.all (show len ≤ k by omega)]; exact hn.out.symm), rfl⟩
set_option maxHeartbeats 1000000 in
theorem fold_c (a : Option Addr) (len cap : Nat) (xs : List Int) (w : World) (hr : Reads .u8 w a len cap xs) (hN : len < 1000000000000) :
    Calls Tryz.prog 83 #[.slice a len cap] w fun e w' => ∃ a' cap', e = .returned (.slice a' len cap') ∧ Reads .u8 w' a' len cap' (xs.map lowI) ∧ Below w.heap.size w w' := by
  have HR := hid hr
  have hs := hr.size
  clear hr
  go_enter Tryz.func83, Tryz.ntmps83
  go_wp2_with (at_make; refine wpList_zeros CT8 rfl _ _ rfl (w0 := w) rfl rfl (Below.refl _ _) hN (by decide) ?_; intro g w1 hown hbel)
  obtain ⟨w1, rfl⟩ : ∃ x : World, x = w1 := ⟨_, rfl⟩
  go_loopw [11] (fun i wr => ∃ k : Nat, k ≤ len ∧ i = .int .i64 k ∧ Own .u8 5 w.heap.size wr (.slice (some ⟨g, 0, none⟩) len len) (fill lowI xs k) ∧ Below w.heap.size w wr) (fun i _ => len - (intOf i).toNat)
  case atStart => exact ⟨0, Nat.zero_le _, rfl, by rw [fill_zero, hs]; exact hown, hbel⟩
  case round =>
    obtain ⟨k, hk, rfl, hown', hbel'⟩ := hrel
    by_cases hlt : k < len
    · obtain ⟨b, off, x, rfl, _, hc, h0, h1, hx⟩ := (HR.out.below hbel').get8 hlt
      obtain ⟨hcell, hfz⟩ := hown'.at (j := k) (by rw [fill_len] <;> omega)
      obtain ⟨ho2, hb2⟩ := hown'.store hbel' k (low_wf x h0 h1)
      rw [fill_set lowI (by omega) hx.out.2] at ho2
      have HO := hid ho2
      have HB := hid hb2
      clear ho2 hb2 hown' hbel'
      go_wp2_with (go_at_call 111; refine (lower_c _ _ h0 h1).mono ?_; rintro e w' ⟨rfl, rfl⟩)
      go_roundw
      case rel => exact ⟨k + 1, by omega, by go_num, HO.out, HB.out⟩
      case measure => simp [intOf]; omega
    · go_wp2
      go_ret
      obtain ⟨a', cap', hv, hrd⟩ := hown'.reads
      rw [fill_all lowI xs k (by omega)] at hv hrd
      simp only [List.length_map, hs] at hv hrd
      exact ⟨a', cap', by rw [← hv]; rfl, hrd, hbel'⟩
set_option maxHeartbeats 1000000 in
theorem trim_c (a : Option Addr) (len cap : Nat) (xs : List Int) (w : World) (hr : Reads .u8 w a len cap xs) (hN : len < 1000000000000) :
    Calls Tryz.prog 112 #[.slice a len cap] w fun e w' => ∃ a' len' cap', e = .returned (.slice a' len' cap') ∧ Reads .u8 w' a' len' cap' (trimL (isB 2) xs) ∧ Below w.heap.size w w' := by
  have HR := hid hr
  have hs := hr.size
  clear hr
  go_enter Tryz.func112, Tryz.ntmps112
  go_upto_block 0 with fail
  go_cut [3] (fun s wx => s = .int .i64 (frontN (isB 2) xs) ∧ w = wx)
  case first =>
    go_wp2_with fail
    go_loop [3] (fun i => ∃ k : Nat, k ≤ len ∧ i = .int .i64 k ∧ Hid (k + ((xs.drop k).takeWhile (isB 2)).length = frontN (isB 2) xs)) (fun i => len - (intOf i).toNat)
    case atStart => exact ⟨0, Nat.zero_le _, rfl, by simp [Hid, frontN]⟩
    case round =>
      obtain ⟨k, hk, rfl, hn⟩ := hrel
      by_cases hlt : k < len
      · obtain ⟨b, off, x, rfl, _, hc, h0, h1, hx⟩ := HR.out.get8 hlt
        by_cases hb : isB 2 x = true
        · go_wp2_with (go_at_call 73; refine (is_c _ _ _ h0 h1).mono ?_; rintro e w' ⟨rfl, rfl⟩)
          go_round
          case rel => exact ⟨k + 1, by omega, by go_num, by have := hn.out; rw [front_step hx.out.1 hb] at this; unfold Hid; omega⟩
          case measure => simp [intOf]; omega
        · have hb' : isB 2 x = false := by simpa using hb
          clear hb
          go_wp2_with (go_at_call 73; refine (is_c _ _ _ h0 h1).mono ?_; rintro e w' ⟨rfl, rfl⟩)
          go_meet
          exact ⟨by have := hn.out; rw [front_stop hx.out.1 hb'] at this; rw [← this]; rfl, rfl⟩
      · have hlt' : len ≤ k := by omega
        go_wp2
        go_meet
        exact ⟨by have := hn.out; rw [front_end (by omega)] at this; rw [← this]; rfl, rfl⟩
  case rest =>
  obtain ⟨rfl, rfl⟩ := hcut
  obtain ⟨fr, hfr⟩ : ∃ n, n = frontN (isB 2) xs := ⟨_, rfl⟩
  have hle : fr ≤ len := by rw [hfr, ← hs]; exact List.Sublist.length_le (List.takeWhile_sublist _)
  rw [← hfr]
  have HF := hid hfr
  clear hfr
  go_upto_block 2 with fail
  go_cut [4] (fun s wx => (∃ m : Nat, s = .int .i64 m ∧ fr ≤ m ∧ m ≤ len ∧ Hid (m = backN (isB 2) xs fr len)) ∧ w = wx)
  case first =>
    go_wp2_with fail
    go_loop [4] (fun i => ∃ m : Nat, fr ≤ m ∧ m ≤ len ∧ i = .int .i64 m ∧ Hid (backN (isB 2) xs fr len = backN (isB 2) xs fr m)) (fun i => (intOf i).toNat)
    case atStart => exact ⟨len, hle, Nat.le_refl _, rfl, rfl⟩
    case round =>
      obtain ⟨m, hm1, hm2, rfl, hn⟩ := hrel
      by_cases hlt : fr < m
      · obtain ⟨m, rfl⟩ : ∃ j, m = j + 1 := ⟨m - 1, by omega⟩
        obtain ⟨b, off, x, rfl, _, hc, h0, h1, hx⟩ := HR.out.get8 (i := m) (by omega)
        by_cases hb : isB 2 x = true
        · go_wp2_with (go_at_call 73; refine (is_c _ _ _ h0 h1).mono ?_; rintro e w' ⟨rfl, rfl⟩)
          go_round
          case rel => exact ⟨m, by omega, by omega, by go_num, by rw [Hid, hn.out, back_step hlt hx.out.1 hb]; rfl⟩
          case measure => simp [intOf]
        · have hb' : isB 2 x = false := by simpa using hb
          clear hb
          go_wp2_with (go_at_call 73; refine (is_c _ _ _ h0 h1).mono ?_; rintro e w' ⟨rfl, rfl⟩)
          go_meet
          exact ⟨⟨m + 1, by go_num, by omega, by omega, by rw [Hid, hn.out, back_stop hlt hx.out.1 hb']⟩, rfl⟩
      · have hlt' : m ≤ fr := by omega
        go_wp2
        go_meet
        exact ⟨⟨m, rfl, hm1, hm2, by rw [Hid, hn.out, back_end hlt']⟩, rfl⟩
  case rest =>
  obtain ⟨⟨m, rfl, hm1, hm2, hm⟩, rfl⟩ := hcut
  have hroom := HR.out.room
  have hp := HR.out.piece hm1 hm2
  have e1 : (xs.take m).drop fr = trimL (isB 2) xs := by rw [trimL, ← HF.out, hs, ← hm.out]
  rw [e1] at hp
  have HP := hid hp
  clear hp e1
  go_wp2_with (at_builtin; go_must (refine wpList_more CT8 rfl _ _ rfl rfl rfl (Own.nil _ _ _ _) (Below.refl _ _) HP.out (by simp; omega) ?_); intro v' w' ho2 hb2)
  all_goals
    go_ret
    obtain ⟨a', cap', hv, hrd⟩ := ho2.reads
    exact ⟨a', _, cap', by rw [← hv]; rfl, hrd, hb2⟩
end Go.Proofs.YtefhddbbiheadaaGreat

/-! Lit0 -/
namespace Go.Proofs.YtefhddbbiheadaaGreat
open Go.RowKit

/-- A literal of the call's own may be written on. -/
theorem Own.lit (k : IntKind) (e : TypeId) (w : World) (xs : List Int) (hm : xs.length ≤ maxLen) (hwf : ∀ x ∈ xs, (Lit.int k x).wf = true) :
    Own k e w.heap.size (w.alloc (.cells (xs.map (Value.int k)).toArray e)) (.slice (some ⟨w.heap.size, 0, none⟩) xs.length xs.length) xs := by
  refine ⟨⟨by simp, .inr ⟨w.heap.size, xs.length, (xs.map (Value.int k)).toArray, rfl, Nat.le_refl _, heap_alloc_new w _, Nat.le_refl _, hm, by simp, ?_⟩⟩, hwf⟩
  rw [List.toList_toArray, Nat.mul_one]
  exact List.take_of_length_le (by simp)
end Go.Proofs.YtefhddbbiheadaaGreat

/-! Cln -/
namespace Go.Proofs.YtefhddbbiheadaaGreat
open Go.RowKit
set_option linter.unusedVariables false

set_option maxHeartbeats 1000000 in
theorem bytes_Clone (a : Option Addr) (len cap : Nat) (xs : List Int) (w : World) (hr : Reads .u8 w a len cap xs) (hN : len < 100000000000) :
    Calls Tryz.prog 75 #[.slice a len cap] w fun e w' => ∃ a' c', e = .returned (.slice a' len c') ∧ Own .u8 5 w.heap.size w' (.slice a' len c') xs ∧ Below w.heap.size w w' := by
  have q22 : ∀ (w : World) (a : Option Addr) (n c n' c' : Nat), (binOp .eql 22 (.slice a n c) (.slice none n' c')).run Tryz.prog w = .ok (.bool a.isNone) w := fun w a n c n' c' => Lib.run_eql_slice_nil w _ _ a n c n' c' Tryz.underlying22
  cases a with
  | none =>
    have h0 : len = 0 := by
      rcases Nat.eq_zero_or_pos len with h0 | h0
      · exact h0
      · obtain ⟨_, _, ha, _⟩ := hr.cell h0; cases ha
    subst h0
    obtain rfl : xs = [] := List.eq_nil_of_length_eq_zero hr.size
    clear hr
    go_enter Tryz.func75, Tryz.ntmps75
    go_wp2
    go_ret
    exact ⟨_, _, rfl, Own.nil _ _ _ _, Below.refl _ _⟩
  | some p =>
    have h1 : Own .u8 5 w.heap.size (w.alloc (.cells #[] 5)) (.slice (some ⟨w.heap.size, 0, none⟩) 0 0) [] := by
      have := Own.lit .u8 5 w [] (by simp [maxLen]) (by decide)
      simpa using this
    have hb : Below w.heap.size w (w.alloc (.cells #[] 5)) := (Below.refl _ _).alloc (Nat.le_refl _) _
    have HR := hid (hr.below hb)
    have hsz := hr.size
    clear hr
    go_enter Tryz.func75, Tryz.ntmps75
    go_wp2_with (at_builtin; go_must (refine wpList_more CT8 rfl _ _ rfl rfl rfl h1 hb HR.out (by simp; omega) ?_); intro v3 w3 ho3 hb3)
    rw [List.nil_append] at ho3
    obtain ⟨a', c', rfl, _⟩ := ho3.reads
    rw [hsz] at ho3
    go_ret
    exact ⟨a', c', by rw [← hsz]; rfl, ho3, hb3⟩
end Go.Proofs.YtefhddbbiheadaaGreat

/-! StrB -/
namespace Go.Proofs.YtefhddbbiheadaaGreat
open Go.RowKit
set_option linter.unusedVariables false

theorem strB_size (xs : List Int) : (strB xs).size = xs.length := by
  show ((xs.map fun x => UInt8.ofNat x.toNat).toArray).size = _
  simp
/-- Texts of octets are the same just if the octets are. -/
theorem strB_inj {xs ys : List Int} (hx : ∀ x ∈ xs, 0 ≤ x ∧ x ≤ 255) (hy : ∀ y ∈ ys, 0 ≤ y ∧ y ≤ 255) (h : strB xs = strB ys) : xs = ys := by
  have e : (xs.map fun x => UInt8.ofNat x.toNat) = ys.map fun x => UInt8.ofNat x.toNat := by
    have h' : (xs.map fun x => UInt8.ofNat x.toNat).toArray = (ys.map fun x => UInt8.ofNat x.toNat).toArray := congrArg ByteArray.data h
    simpa using h'
  clear h
  induction xs generalizing ys with
  | nil => cases ys with
    | nil => rfl
    | cons y ys => simp at e
  | cons x xs ih => cases ys with
    | nil => simp at e
    | cons y ys =>
      simp only [List.map_cons, List.cons.injEq] at e
      have hx1 := hx x (by simp)
      have hy1 := hy y (by simp)
      have e1 : x = y := by
        have := congrArg UInt8.toNat e.1
        simp at this
        omega
      rw [e1, ih (fun z hz => hx z (by simp [hz])) (fun z hz => hy z (by simp [hz])) e.2]
theorem strB_eq {xs ys : List Int} (hx : ∀ x ∈ xs, 0 ≤ x ∧ x ≤ 255) (hy : ∀ y ∈ ys, 0 ≤ y ∧ y ≤ 255) : ((strB xs).toList == (strB ys).toList) = decide (xs = ys) := by
  by_cases h : xs = ys
  · rw [h]; simp
  · rw [decide_eq_false h, beq_eq_false_iff_ne]
    intro he
    rw [Go.ByteArray.toList_eq, Go.ByteArray.toList_eq] at he
    exact h (strB_inj hx hy (ByteArray.ext (Array.toList_inj.1 he)))

theorem bytes_Equal (a : Option Addr) (len cap : Nat) (xs : List Int) (b : Option Addr) (len' cap' : Nat) (ys : List Int) (w : World) (hr : Reads .u8 w a len cap xs) (hr' : Reads .u8 w b len' cap' ys) :
    Calls Tryz.prog 126 #[.slice a len cap, .slice b len' cap'] w fun e w' => e = .returned (.bool (decide (xs = ys))) ∧ w = w' := by
  have s1 := hr.string (P := Tryz.prog) Tryz.underlying22 Tryz.underlying5 Tryz.underlying9
  have s2 := hr'.string (P := Tryz.prog) Tryz.underlying22 Tryz.underlying5 Tryz.underlying9
  have e := hid (strB_eq (fun x hx => wf_u8 (hr.wf x hx)) (fun x hx => wf_u8 (hr'.wf x hx)))
  clear hr hr'
  go_enter Tryz.func126, Tryz.ntmps126
  go_wp2
  go_ret
  exact ⟨ret_bool e.out, rfl⟩
end Go.Proofs.YtefhddbbiheadaaGreat

/-! Pre -/
namespace Go.Proofs.YtefhddbbiheadaaGreat
open Go.RowKit
set_option linter.unusedVariables false

theorem bytes_HasPrefix (a : Option Addr) (len cap : Nat) (xs : List Int) (a2 : Option Addr) (m cap2 : Nat) (ys : List Int) (w : World) (hr : Reads .u8 w a len cap xs) (hr2 : Reads .u8 w a2 m cap2 ys) :
    Calls Tryz.prog 97 #[.slice a len cap, .slice a2 m cap2] w fun e w' => e = .returned (.bool (decide (xs.take m = ys))) ∧ w = w' := by
  have hl := hr.len_le
  have hrm := hr.room
  have hsz := hr.size
  have hm := hr2.size
  by_cases h : m ≤ len
  · have hq := bytes_Equal _ _ _ _ _ _ _ _ w (hr.pre h) hr2
    generalize decide (xs.take m = ys) = F at hq ⊢
    have HQ := hid hq
    clear hq hr hr2 hsz hm
    go_enter Tryz.func97, Tryz.ntmps97
    go_wp2_with (go_at_call 126; (with_reducible refine HQ.out.mono ?_); rintro e w' ⟨rfl, rfl⟩)
    go_ret
    exact ⟨rfl, rfl⟩
  · have hF : decide (xs.take m = ys) = false := decide_eq_false (by intro h; have := congrArg List.length h; rw [List.length_take] at this; omega)
    rw [hF]
    have h' : len < m := by omega
    clear hr hr2 hF hsz hm h
    go_enter Tryz.func97, Tryz.ntmps97
    go_wp2_with fail
    go_ret
    exact ⟨rfl, rfl⟩
/-- bytes.CutPrefix at one octet: what is left reads as it did in w0. -/
theorem bytes_CutPrefix1 (a : Option Addr) (len cap : Nat) (xs : List Int) (a2 : Option Addr) (cap2 : Nat) (c : Int) (w0 w : World) (hr : Reads .u8 w0 a len cap xs) (hb : Below w0.heap.size w0 w) (hr2 : Reads .u8 w a2 1 cap2 [c]) :
    Calls Tryz.prog 72 #[.slice a len cap, .slice a2 1 cap2] w fun e w' => ∃ a' l' c', e = .returned (.tuple #[.slice a' l' c', .bool (decide (xs.take 1 = [c]))]) ∧ Reads .u8 w0 a' l' c' (if decide (xs.take 1 = [c]) = true then xs.drop 1 else xs) ∧ w = w' := by
  have hq := bytes_HasPrefix a len cap xs a2 1 cap2 [c] w (hr.below hb) hr2
  have hl := hr.len_le
  have hrm := hr.room
  have hsz := hr.size
  cases hh : decide (xs.take 1 = [c])
  · rw [hh] at hq
    rw [if_neg (by decide)]
    have HQ := hid hq
    have HR := hid hr
    clear hq hr hr2 hh
    go_enter Tryz.func72, Tryz.ntmps72
    go_wp2_with (go_at_call 97; (with_reducible refine HQ.out.mono ?_); rintro e w' ⟨rfl, rfl⟩)
    go_ret2
    exact ⟨_, _, _, rfl, HR.out, rfl⟩
  · rw [hh] at hq
    rw [if_pos rfl]
    have hpos : 1 ≤ len := by
      have := congrArg List.length (of_decide_eq_true hh)
      rw [List.length_take, List.length_cons, List.length_nil] at this
      omega
    have hp := hr.piece (l := 1) (r := len) hpos (Nat.le_refl _)
    rw [List.take_of_length_le (by omega)] at hp
    have HQ := hid hq
    have q1 : (1 : Int) ≤ (len : Int) := by omega
    have q3 : (1 : Int) ≤ (cap : Int) := by omega
    have q4 : (len : Int) ≤ (cap : Int) := by omega
    clear hq hr hr2 hh hsz
    by_cases hc : cap = 1
    all_goals
      first | (rw [if_pos hc] at hp; have r3 : (cap = 1) = True := eq_true hc; clear hc) | (rw [if_neg hc] at hp; have r3 : (cap = 1) = False := eq_false hc; clear hc)
      have HP := hid hp
      clear hp
      go_enter Tryz.func72, Tryz.ntmps72
      go_wp2_with (go_at_call 97; (with_reducible refine HQ.out.mono ?_); rintro e w' ⟨rfl, rfl⟩)
      go_ret2
      exact ⟨_, _, _, rfl, HP.out, rfl⟩
/-- bytes.CutPrefix at a beginning of any length: what is left reads as it did in w0. -/
theorem bytes_CutPrefixN (a : Option Addr) (len cap : Nat) (xs : List Int) (a2 : Option Addr) (m cap2 : Nat) (ys : List Int) (w0 w : World) (hr : Reads .u8 w0 a len cap xs) (hb : Below w0.heap.size w0 w) (hr2 : Reads .u8 w a2 m cap2 ys) :
    Calls Tryz.prog 72 #[.slice a len cap, .slice a2 m cap2] w fun e w' => ∃ a' l' c', e = .returned (.tuple #[.slice a' l' c', .bool (decide (xs.take m = ys))]) ∧ Reads .u8 w0 a' l' c' (if decide (xs.take m = ys) = true then xs.drop m else xs) ∧ w = w' := by
  have hq := bytes_HasPrefix a len cap xs a2 m cap2 ys w (hr.below hb) hr2
  have hl := hr.len_le
  have hrm := hr.room
  have hsz := hr.size
  have hm := hr2.size
  cases hh : decide (xs.take m = ys)
  · rw [hh] at hq
    rw [if_neg (by decide)]
    have HQ := hid hq
    have HR := hid hr
    clear hq hr hr2 hh
    go_enter Tryz.func72, Tryz.ntmps72
    go_wp2_with (go_at_call 97; (with_reducible refine HQ.out.mono ?_); rintro e w' ⟨rfl, rfl⟩)
    go_ret2
    exact ⟨_, _, _, rfl, HR.out, rfl⟩
  · rw [hh] at hq
    rw [if_pos rfl]
    have hpos : m ≤ len := by
      have := congrArg List.length (of_decide_eq_true hh)
      rw [List.length_take] at this
      omega
    have hp := hr.piece (l := m) (r := len) hpos (Nat.le_refl _)
    rw [List.take_of_length_le (by omega)] at hp
    have HQ := hid hq
    have q1 : (m : Int) ≤ (len : Int) := by omega
    have q3 : (m : Int) ≤ (cap : Int) := by omega
    have q4 : (len : Int) ≤ (cap : Int) := by omega
    have q5 : ((len : Int) - (m : Int)).toNat = len - m := by omega
    have q6 : ((cap : Int) - (m : Int)).toNat = cap - m := by omega
    clear hq hr hr2 hh hsz hm
    by_cases hc : cap = m
    all_goals
      first | (rw [if_pos hc] at hp; have r3 : (cap = m) = True := eq_true hc; clear hc) | (rw [if_neg hc] at hp; have r3 : (cap = m) = False := eq_false hc; clear hc)
      have HP := hid hp
      clear hp
      go_enter Tryz.func72, Tryz.ntmps72
      go_wp2_with (go_at_call 97; (with_reducible refine HQ.out.mono ?_); rintro e w' ⟨rfl, rfl⟩)
      go_ret2
      exact ⟨_, _, _, rfl, HP.out, rfl⟩
end Go.Proofs.YtefhddbbiheadaaGreat
