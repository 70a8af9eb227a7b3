/-
  Contracts of package octet's functions of texts, and of the document's own.
-/
import Derived.Test.YtjmjljhicfaalaaOct1
namespace Go.Proofs.Ytjmjljhicfaalaa
open Go.RowKit

/-- Is an octet of one of some kinds? -/
def isB (kinds c : Int) : Bool := bits BinOp.and IntKind.i64 (kindI c) kinds != 0

theorem is_c (c kinds : Int) (w : World) (h0 : 0 ≤ c) (h1 : c ≤ 255) :
    Calls Try.prog 9 #[.int .u8 c, .int .i64 kinds] w fun e w' => e = .returned (.bool (isB kinds c)) ∧ w = w' := by
  go_enter Try.func9, Try.ntmps9
  go_wp2_with (go_at_call 7; refine (kinds_c _ _ h0 h1).mono ?_; rintro e w' ⟨rfl, rfl⟩)
  go_ret
  exact ⟨rfl, rfl⟩
theorem is_r (c kinds : Int) (w : World) (h0 : 0 ≤ c) (h1 : c ≤ 255) :
    Calls Try.prog 10 #[.int .u8 c, .int .i64 kinds] w fun e w' => e = .returned (.bool (isB kinds c)) ∧ w = w' := by
  go_enter Try.func10, Try.ntmps10
  go_wp2_with (go_at_call 8; refine (kinds_r _ _ h0 h1).mono ?_; rintro e w' ⟨rfl, rfl⟩)
  go_ret
  exact ⟨rfl, rfl⟩

def cntI (f : Int → Bool) (xs : List Int) : Int := ((xs.filter f).length : Nat)
theorem cnt_nil (f : Int → Bool) : cntI f [] = 0 := rfl
theorem cnt_bd (f : Int → Bool) (xs : List Int) (k : Nat) : 0 ≤ cntI f (xs.take k) ∧ cntI f (xs.take k) ≤ k := by
  unfold cntI
  have h1 := List.length_filter_le f (xs.take k)
  have h2 := List.length_take_le k xs
  omega
theorem cnt_yes {f : Int → Bool} {xs : List Int} {k : Nat} {x : Int} (h : xs.take (k + 1) = xs.take k ++ [x]) (hf : f x = true) : cntI f (xs.take (k + 1)) = cntI f (xs.take k) + 1 := by
  rw [h]; simp [cntI, List.filter_append, hf]
theorem cnt_no {f : Int → Bool} {xs : List Int} {k : Nat} {x : Int} (h : xs.take (k + 1) = xs.take k ++ [x]) (hf : f x = false) : cntI f (xs.take (k + 1)) = cntI f (xs.take k) := by
  rw [h]; simp [cntI, List.filter_append, hf]

set_option maxHeartbeats 1000000 in
theorem count_r (a : Option Addr) (len cap : Nat) (xs : List Int) (kinds : Int) (w : World) (hr : Reads .u8 w a len cap xs) :
    Calls Try.prog 14 #[.slice a len cap, .int .i64 kinds] w fun e w' => e = .returned (.int .i64 (cntI (isB kinds) xs)) ∧ w = w' := by
  have hl := hr.len_le
  have HR := hid hr
  clear hr
  go_enter Try.func14, Try.ntmps14
  go_wp2
  go_loop [5, 6] (fun n i => ∃ k : Nat, k ≤ len ∧ i = .int .i64 k ∧ n = .int .i64 (cntI (isB kinds) (xs.take k))) (fun _ i => len - (intOf i).toNat)
  case atStart => exact ⟨0, Nat.zero_le _, rfl, rfl⟩
  case round =>
    obtain ⟨k, hk, rfl, rfl⟩ := hrel
    have hb := cnt_bd (isB kinds) xs k
    by_cases hlt : k < len
    · obtain ⟨b, off, x, rfl, _, hc, h0, h1, hx⟩ := HR.out.get8 hlt
      go_wp2_with (go_at_call 10; refine (is_r _ _ _ h0 h1).mono ?_; rintro e w' ⟨rfl, rfl⟩)
      all_goals
        go_round
        case rel => exact ⟨k + 1, by omega, by go_num, by first | rw [cnt_yes hx.out.2 ‹_›] | rw [cnt_no hx.out.2 ‹_›]⟩
        case measure => simp [intOf]; omega
    · go_wp2
      go_ret
      exact ⟨ret_int (by rw [HR.out.all (by omega)]), rfl⟩

set_option maxHeartbeats 1000000 in
theorem count_c (a : Option Addr) (len cap : Nat) (xs : List Int) (kinds : Int) (w : World) (hr : Reads .u8 w a len cap xs) :
    Calls Try.prog 15 #[.slice a len cap, .int .i64 kinds] w fun e w' => e = .returned (.int .i64 (cntI (isB kinds) xs)) ∧ w = w' := by
  have hl := hr.len_le
  have HR := hid hr
  clear hr
  go_enter Try.func15, Try.ntmps15
  go_wp2
  go_loop [5, 10] (fun n i => ∃ k : Nat, k ≤ len ∧ i = .int .i64 k ∧ n = .int .i64 (cntI (isB kinds) (xs.take k))) (fun _ i => len - (intOf i).toNat)
  case atStart => exact ⟨0, Nat.zero_le _, rfl, rfl⟩
  case round =>
    obtain ⟨k, hk, rfl, rfl⟩ := hrel
    have hb := cnt_bd (isB kinds) xs k
    by_cases hlt : k < len
    · obtain ⟨b, off, x, rfl, _, hc, h0, h1, hx⟩ := HR.out.get8 hlt
      go_wp2_with (go_at_call 9; refine (is_c _ _ _ h0 h1).mono ?_; rintro e w' ⟨rfl, rfl⟩)
      all_goals
        go_round
        case rel => exact ⟨k + 1, by omega, by go_num, by first | rw [cnt_yes hx.out.2 ‹_›] | rw [cnt_no hx.out.2 ‹_›]⟩
        case measure => simp [intOf]; omega
    · go_wp2
      go_ret
      exact ⟨ret_int (by rw [HR.out.all (by omega)]), rfl⟩

theorem all_yes {f : Int → Bool} {xs : List Int} {k : Nat} {x : Int} (h : xs.take (k + 1) = xs.take k ++ [x]) (hn : (xs.take k).all f = true) (hf : f x = true) : (xs.take (k + 1)).all f = true := by
  rw [h, List.all_append, hn]; simp [hf]
theorem all_no {f : Int → Bool} {xs : List Int} {k : Nat} {x : Int} (h : xs[k]? = some x) (hf : f x = false) : xs.all f = false := by
  rw [List.all_eq_false]; exact ⟨x, List.mem_of_getElem? h, by simp [hf]⟩

set_option maxHeartbeats 1000000 in
theorem all_c (a : Option Addr) (len cap : Nat) (xs : List Int) (kinds : Int) (w : World) (hr : Reads .u8 w a len cap xs) :
    Calls Try.prog 16 #[.slice a len cap, .int .i64 kinds] w fun e w' => e = .returned (.bool (xs.all (isB kinds))) ∧ w = w' := by
  have hl := hr.len_le
  have HR := hid hr
  clear hr
  go_enter Try.func16, Try.ntmps16
  go_wp2
  go_loop [9] (fun i => ∃ k : Nat, k ≤ len ∧ i = .int .i64 k ∧ Hid ((xs.take k).all (isB kinds) = true)) (fun i => len - (intOf i).toNat)
  case atStart => exact ⟨0, Nat.zero_le _, rfl, rfl⟩
  case round =>
    obtain ⟨k, hk, rfl, hn⟩ := hrel
    by_cases hlt : k < len
    · obtain ⟨b, off, x, rfl, _, hc, h0, h1, hx⟩ := HR.out.get8 hlt
      go_wp2_with (go_at_call 9; refine (is_c _ _ _ h0 h1).mono ?_; rintro e w' ⟨rfl, rfl⟩)
      · go_ret
        exact ⟨ret_bool (all_no hx.out.1 (by simpa using ‹(!isB kinds x) = true›)).symm, rfl⟩
      · go_round
        case rel => exact ⟨k + 1, by omega, by go_num, all_yes hx.out.2 hn.out (by simpa using ‹(!isB kinds x) = false›)⟩
        case measure => simp [intOf]; omega
    · go_wp2
      go_ret
      exact ⟨ret_bool (by rw [← HR.out.all (show len ≤ k by omega)]; exact hn.out.symm), rfl⟩

/-! ### two texts -/
theorem eq_no {xs ys : List Int} {k : Nat} {x y : Int} (hx : xs[k]? = some x) (hy : ys[k]? = some y) (h : (x != y) = true) : decide (xs = ys) = false := by
  rw [decide_eq_false_iff_not]
  rintro rfl
  rw [hx] at hy
  cases hy
  simp at h
theorem eq_len {xs ys : List Int} (h : xs.length ≠ ys.length) : decide (xs = ys) = false := by
  rw [decide_eq_false_iff_not]
  rintro rfl
  exact h rfl
theorem eq_yes {xs ys : List Int} {k : Nat} {x y : Int} (hx : xs.take (k + 1) = xs.take k ++ [x]) (hy : ys.take (k + 1) = ys.take k ++ [y]) (hn : xs.take k = ys.take k) (h : (x != y) = false) : xs.take (k + 1) = ys.take (k + 1) := by
  rw [hx, hy, hn, show x = y by simpa using h]

set_option maxHeartbeats 1000000 in
theorem like_r (a : Option Addr) (len cap : Nat) (xs : List Int) (a2 : Option Addr) (len2 cap2 : Nat) (ys : List Int) (w : World) (hr : Reads .u8 w a len cap xs) (hr2 : Reads .u8 w a2 len2 cap2 ys) :
    Calls Try.prog 17 #[.slice a len cap, .slice a2 len2 cap2] w fun e w' => e = .returned (.bool (decide (xs = ys))) ∧ ∃ n, w' = w.drewN n := by
  have hl := hr.len_le
  have hl2 := hr2.len_le
  have HR := hid hr
  have HR2 := hid hr2
  clear hr hr2
  by_cases he : len = len2
  · subst he
    go_enter Try.func17, Try.ntmps17
    go_wp2
    go_loopw [5] (fun i wr => ∃ k : Nat, k ≤ len ∧ i = .int .i64 k ∧ Hid (xs.take k = ys.take k) ∧ ∃ n, wr = w.drewN n) (fun i _ => len - (intOf i).toNat)
    case atStart => exact ⟨0, Nat.zero_le _, rfl, rfl, 0, rfl⟩
    case round =>
      obtain ⟨k, hk, rfl, hn, n, rfl⟩ := hrel
      by_cases hlt : k < len
      · obtain ⟨b, off, x, rfl, _, hc, h0, h1, hx⟩ := HR.out.get8 hlt
        obtain ⟨b2, off2, y, rfl, _, hc2, h02, h12, hy⟩ := HR2.out.get8 hlt
        go_wp2
        go_quiet (fail)
        go_wp2
        · go_ret
          exact ⟨ret_bool (eq_no hx.out.1 hy.out.1 ‹_›).symm, by simp only [World.drewN_drewN]; exact ⟨_, rfl⟩⟩
        · go_roundw
          case rel => exact ⟨k + 1, by omega, by go_num, eq_yes hx.out.2 hy.out.2 hn.out ‹_›, _, rfl⟩
          case measure => simp [intOf]; omega
      · go_wp2
        go_ret
        exact ⟨ret_bool (by rw [← HR.out.all (show len ≤ k by omega), ← HR2.out.all (show len ≤ k by omega)]; exact (decide_eq_true hn.out).symm), _, rfl⟩
  · have hne : ((len : Int) != len2) = true := by simp; omega
    go_enter Try.func17, Try.ntmps17
    go_wp2
    go_ret
    exact ⟨ret_bool (eq_len (by rw [HR.out.size, HR2.out.size]; exact he)).symm, 0, rfl⟩

theorem map_take_wf {xs : List Int} (f : Int → Int) (hf : ∀ x, 0 ≤ x → x ≤ 255 → (Lit.int .u8 (f x)).wf = true) (h : ∀ x ∈ xs, (Lit.int .u8 x).wf = true) (x : Int) (hx : x ∈ xs.map f) : (Lit.int .u8 x).wf = true := by
  obtain ⟨y, hy, rfl⟩ := List.mem_map.1 hx
  exact hf y (wf_u8 (h y hy)).1 (wf_u8 (h y hy)).2
theorem low_wf (x : Int) (h0 : 0 ≤ x) (h1 : x ≤ 255) : (Lit.int .u8 (lowI x)).wf = true := mk_u8 (low_bd x h0 h1).1 (low_bd x h0 h1).2

/-- A row that is filled from the front. -/
def fill (f : Int → Int) (xs : List Int) (k : Nat) : List Int := (xs.take k).map f ++ List.replicate (xs.length - k) 0
theorem fill_len (f : Int → Int) (xs : List Int) (k : Nat) (h : k ≤ xs.length) : (fill f xs k).length = xs.length := by simp [fill]; omega
theorem fill_zero (f : Int → Int) (xs : List Int) : fill f xs 0 = List.replicate xs.length 0 := by simp [fill]
theorem fill_all (f : Int → Int) (xs : List Int) (k : Nat) (h : xs.length ≤ k) : fill f xs k = xs.map f := by simp [fill, List.take_of_length_le h, show xs.length - k = 0 by omega]
theorem fill_set (f : Int → Int) {xs : List Int} {k : Nat} {x : Int} (hk : k < xs.length) (h : xs.take (k + 1) = xs.take k ++ [x]) : (fill f xs k).set k (f x) = fill f xs (k + 1) := by
  unfold fill
  rw [h, List.set_append_right _ _ (by simp; omega)]
  have e : xs.length - k = (xs.length - (k + 1)) + 1 := by omega
  rw [e, List.replicate_succ]
  simp [show k - min k xs.length = 0 by omega]

theorem ST8 : SliceT Try.prog 26 5 .u8 1 := ⟨Try.underlying26, by kernel_rfl, by decide⟩

set_option maxHeartbeats 1000000 in
theorem fold_c (a : Option Addr) (len cap : Nat) (xs : List Int) (w : World) (hr : Reads .u8 w a len cap xs) (hN : len < 1000000000000) :
    Calls Try.prog 18 #[.slice a len cap] w fun e w' => ∃ a' cap', e = .returned (.slice a' len cap') ∧ Reads .u8 w' a' len cap' (xs.map lowI) ∧ Below w.heap.size w w' := by
  have HR := hid hr
  have hs := hr.size
  clear hr
  go_enter Try.func18, Try.ntmps18
  go_wp2_with (at_make; refine wpList_zeros ST8 rfl _ _ rfl (w0 := w) rfl rfl (Below.refl _ _) hN (by decide) ?_; intro g w1 hown hbel)
  obtain ⟨w1, rfl⟩ : ∃ x : World, x = w1 := ⟨_, rfl⟩
  go_loopw [11] (fun i wr => ∃ k : Nat, k ≤ len ∧ i = .int .i64 k ∧ Own .u8 5 w.heap.size wr (.slice (some ⟨g, 0, none⟩) len len) (fill lowI xs k) ∧ Below w.heap.size w wr) (fun i _ => len - (intOf i).toNat)
  case atStart => exact ⟨0, Nat.zero_le _, rfl, by rw [fill_zero, hs]; exact hown, hbel⟩
  case round =>
    obtain ⟨k, hk, rfl, hown', hbel'⟩ := hrel
    by_cases hlt : k < len
    · obtain ⟨b, off, x, rfl, _, hc, h0, h1, hx⟩ := (HR.out.below hbel').get8 hlt
      obtain ⟨hcell, hfz⟩ := hown'.at (j := k) (by rw [fill_len] <;> omega)
      obtain ⟨ho2, hb2⟩ := hown'.store hbel' k (low_wf x h0 h1)
      rw [fill_set lowI (by omega) hx.out.2] at ho2
      have HO := hid ho2
      have HB := hid hb2
      clear ho2 hb2 hown' hbel'
      go_wp2_with (go_at_call 11; refine (lower_c _ _ h0 h1).mono ?_; rintro e w' ⟨rfl, rfl⟩)
      go_roundw
      case rel => exact ⟨k + 1, by omega, by go_num, HO.out, HB.out⟩
      case measure => simp [intOf]; omega
    · go_wp2
      go_ret
      obtain ⟨a', cap', hv, hrd⟩ := hown'.reads
      rw [fill_all lowI xs k (by omega)] at hv hrd
      simp only [List.length_map, hs] at hv hrd
      exact ⟨a', cap', by rw [← hv]; rfl, hrd, hbel'⟩

set_option maxHeartbeats 1000000 in
theorem fold_r (a : Option Addr) (len cap : Nat) (xs : List Int) (w : World) (hr : Reads .u8 w a len cap xs) (hN : len < 1000000000000) :
    Calls Try.prog 19 #[.slice a len cap] w fun e w' => ∃ a' cap', e = .returned (.slice a' len cap') ∧ Reads .u8 w' a' len cap' (xs.map lowI) ∧ Below w.heap.size w w' := by
  have HR := hid hr
  have hs := hr.size
  clear hr
  go_enter Try.func19, Try.ntmps19
  go_wp2
  go_loopw [3, 4] (fun v i wr => ∃ k : Nat, k ≤ len ∧ i = .int .i64 k ∧ Own .u8 5 w.heap.size wr v ((xs.take k).map lowI) ∧ Below w.heap.size w wr) (fun _ i _ => len - (intOf i).toNat)
  case atStart => exact ⟨0, Nat.zero_le _, rfl, Own.nil _ _ _ _, Below.refl _ _⟩
  case round =>
    obtain ⟨k, hk, rfl, hown', hbel'⟩ := hrel
    by_cases hlt : k < len
    · obtain ⟨b, off, x, rfl, _, hc, h0, h1, hx⟩ := (HR.out.below hbel').get8 hlt
      go_wp2_with (first
        | (go_at_call 12; refine (lower_r _ _ h0 h1).mono ?_; rintro e w' ⟨rfl, rfl⟩)
        | (at_builtin; go_must (refine wpList_push ST8 rfl _ _ rfl rfl ⟨_, rfl⟩ hown' hbel' (by simp; omega) (low_wf x h0 h1) ?_); intro v' w' ho2 hb2))
      have e1 : (xs.take k).map lowI ++ [lowI x] = (xs.take (k + 1)).map lowI := by rw [hx.out.2]; simp
      rw [e1] at ho2
      clear e1 hown' hbel'
      go_wp2
      go_roundw
      case rel => exact ⟨k + 1, by omega, by go_num, ho2, hb2⟩
      case measure => simp [intOf]; omega
    · go_wp2
      go_ret
      obtain ⟨a', cap', hv, hrd⟩ := hown'.reads
      rw [HR.out.all (show len ≤ k by omega)] at hv hrd
      simp only [List.length_map, hs] at hv hrd
      exact ⟨a', cap', by rw [← hv]; rfl, hrd, hbel'⟩
end Go.Proofs.Ytjmjljhicfaalaa
