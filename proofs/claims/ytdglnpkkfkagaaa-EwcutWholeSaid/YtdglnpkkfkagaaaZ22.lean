/-
  Texts of ours laid together: D02b, C02, R02, R20, C20.
-/
import Derived.IntWalk
import Derived.StillTailTactics
import Derived.Test.YtdglnpkkfkagaaaRows
import Derived.Deep.LoopGhost
import Derived.Test.YtdglnpkkfkagaaaZ21

/-! D02b -/
namespace Go.Proofs.Ytdglnpkkfkagaaa
open Go.RowKit
set_option linter.unusedVariables false

theorem digM_low (k c : Int) (hk0 : 0 ≤ k) (hk1 : k ≤ 15) (h0 : 0 ≤ c) (h1 : c ≤ 255) : (lowI (digI k) == lowI c) = digM k c := by
  rw [Bool.eq_iff_iff]
  unfold digM digI lowI
  simp only [Bool.or_eq_true, beq_iff_eq, Bool.and_eq_true, decide_eq_true_eq]
  constructor <;> (intro h; (repeat' split at h) <;> (repeat' split) <;> omega)
/-- The low four bits. -/
theorem and15 (n : Int) : bits .and .i64 n 15 = n % 16 := by
  show IntKind.i64.wrap ((BitVec.ofInt 64 n &&& BitVec.ofInt 64 15).toNat : Int) = _
  rw [BitVec.toNat_and, BitVec.toNat_ofInt, BitVec.toNat_ofInt]
  rw [show ((15 : Int) % (2 ^ 64 : Nat)).toNat = 2 ^ 4 - 1 by decide, Nat.and_two_pow_sub_one_eq_mod]
  rw [IntWalk.i64_in _ (by omega)]
  omega
/-- Two digits together. -/
theorem join_fin : ∀ a b : Fin 16, bits .or .i64 ((16 * a.val : Nat) : Int) (b.val : Int) = ((16 * a.val + b.val : Nat) : Int) := by decide +kernel
theorem join16 (a b : Int) (ha0 : 0 ≤ a) (ha1 : a ≤ 15) (hb0 : 0 ≤ b) (hb1 : b ≤ 15) : bits .or .i64 (16 * a) b = 16 * a + b := by
  have := join_fin ⟨a.toNat, by omega⟩ ⟨b.toNat, by omega⟩
  simp only at this
  rwa [show ((16 * a.toNat : Nat) : Int) = 16 * a by omega, show ((b.toNat : Nat) : Int) = b by omega, show ((16 * a.toNat + b.toNat : Nat) : Int) = 16 * a + b by omega] at this

abbrev digS : ByteArray := { data := #[48, 49, 50, 51, 52, 53, 54, 55, 56, 57, 65, 66, 67, 68, 69, 70] }
theorem digS_fin : ∀ k : Fin 16, ((digS.data[k.val]'(by have := k.isLt; simp)).toNat : Int) = digI (k.val : Int) := by decide +kernel
theorem digS_get (k : Nat) (h : k < digS.size) : ((digS[k]'h).toNat : Int) = digI k := digS_fin ⟨k, h⟩

/-- Has a text no small digits above nine? -/
def capB (x : Int) : Bool := !(decide (97 ≤ x) && decide (x ≤ 102))
/-- A row of octets that is filled out of pairs of digits. -/
def fillP (xs : List Int) (n j : Nat) : List Int := pairs (xs.take (2 * j)) ++ List.replicate (n - j) 0
theorem fillP_zero (xs : List Int) (n : Nat) : fillP xs n 0 = List.replicate n 0 := by simp [fillP, pairs]
theorem fillP_len {xs : List Int} {n j : Nat} (h : 2 * j ≤ xs.length) (hj : j ≤ n) : (fillP xs n j).length = n := by
  unfold fillP
  rw [List.length_append, pairs_len j _ (by rw [List.length_take]; omega), List.length_replicate]; omega
theorem fillP_all {xs : List Int} {n j : Nat} (hj : n ≤ j) (h : xs.length ≤ 2 * j) : fillP xs n j = pairs xs := by
  unfold fillP
  rw [List.take_of_length_le h, show n - j = 0 by omega]; simp
theorem fillP_set {xs : List Int} {n j : Nat} {x y : Int} (hj : j < n) (h : 2 * j ≤ xs.length) (hx : xs.take (2 * j + 1) = xs.take (2 * j) ++ [x]) (hy : xs.take (2 * j + 1 + 1) = xs.take (2 * j + 1) ++ [y]) :
    (fillP xs n j).set j (16 * hexV x + hexV y) = fillP xs n (j + 1) := by
  unfold fillP
  rw [pairs_next h hx hy]
  have hl : (pairs (xs.take (2 * j))).length = j := pairs_len j _ (by rw [List.length_take]; omega)
  rw [List.set_append_right _ _ (by omega), hl, Nat.sub_self, show n - j = (n - (j + 1)) + 1 by omega, List.replicate_succ]
  simp

end Go.Proofs.Ytdglnpkkfkagaaa

/-! C02 -/
namespace Go.Proofs.Ytdglnpkkfkagaaa
open Go.RowKit
set_option linter.unusedVariables false

set_option maxHeartbeats 1000000 in
theorem digit_c (n : Int) (w : World) :
    Calls Try.prog 81 #[.int .i64 n] w fun e w' => e = .returned (.int .u8 (digI (n % 16))) ∧ w = w' := by
  obtain ⟨m, hm⟩ : ∃ m : Nat, n % 16 = (m : Int) := ⟨(n % 16).toNat, by omega⟩
  have ha : bits .and .i64 n 15 = (m : Int) := by rw [and15, hm]
  have hlt : m < 16 := by omega
  rw [hm]
  clear hm
  go_enter Try.func81, Try.ntmps81
  go_wp2
  go_ret
  exact ⟨ret_int (digS_get m _), rfl⟩
theorem digit_lo_c (x : Int) (w : World) : Calls Try.prog 81 #[.int .i64 x] w fun e w' => e = .returned (.int .u8 (digI (x % 16))) ∧ w = w' := digit_c x w
theorem digit_hi_c (x : Int) (w : World) (h0 : 0 ≤ x) (h1 : x ≤ 255) : Calls Try.prog 81 #[.int .i64 (x / 16)] w fun e w' => e = .returned (.int .u8 (digI (x / 16))) ∧ w = w' := by
  have := digit_c (x / 16) w
  rwa [show x / 16 % 16 = x / 16 by omega] at this

set_option maxHeartbeats 1000000 in
theorem lay1_c (w0 w : World) (v : Value) (xs : List Int) (c : Int) (hown : Own .u8 5 w0.heap.size w v xs) (hb : Below w0.heap.size w0 w) (hl : xs.length < 100000000000) (h0 : 0 ≤ c) (h1 : c ≤ 255) :
    Calls Try.prog 75 #[v, .int .u8 c] w fun e w' => ∃ v', e = .returned v' ∧ Own .u8 5 w0.heap.size w' v' (xs ++ [digI (c / 16), digI (c % 16)]) ∧ Below w0.heap.size w0 w' := by
  have hwf := hid (dig2_wf c h0 h1)
  go_enter Try.func75, Try.ntmps75
  go_wp2_with (first
    | (go_at_call 81; (with_reducible refine (digit_hi_c _ _ h0 h1).mono ?_); rintro e w' ⟨rfl, rfl⟩)
    | (go_at_call 81; (with_reducible refine (digit_lo_c _ _).mono ?_); rintro e w' ⟨rfl, rfl⟩)
    | (at_builtin; go_must (refine wpList_pushs CT8 [digI (c / 16), digI (c % 16)] rfl _ _ rfl rfl ⟨_, rfl⟩ hown hb (by simp; omega) hwf.out ?_); intro v3 w3 ho3 hb3))
  go_ret
  exact ⟨_, rfl, ho3, hb3⟩

set_option maxHeartbeats 1000000 in
theorem put_c (a : Option Addr) (len cap : Nat) (xs : List Int) (s c : Int) (w : World) (hr : Reads .u8 w a len cap xs) (hN : len < 1000000000) (h0 : 0 ≤ c) (h1 : c ≤ 255) (hs : (Lit.int .u8 s).wf = true) :
    Calls Try.prog 61 #[.slice a len cap, .int .u8 s, .int .u8 c] w fun e w' => ∃ a' len' cap', e = .returned (.slice a' len' cap') ∧ Reads .u8 w' a' len' cap' (escI xs s c) ∧ Below w.heap.size w w' := by
  have HR := hid hr
  have hsz := hr.size
  clear hr
  go_enter Try.func61, Try.ntmps61
  go_wp2_with (first
    | (at_make; (refine wpList_make0 (n := len + 3) CT8 rfl _ _ rfl rfl (by go_num) (Below.refl _ _) (by omega) ?_); intro v1 w1 ho1 hb1)
    | (go_at_call 75; go_must (refine (lay1_c w _ _ _ c ho3 hb3 (by simp; omega) h0 h1).mono ?_); rintro e w4 ⟨v4, rfl, ho4, hb4⟩)
    | (at_builtin; (refine wpList_push CT8 rfl _ _ rfl rfl ⟨_, rfl⟩ ho2 hb2 (by simp; omega) hs ?_); intro v3 w3 ho3 hb3)
    | (at_builtin; go_must (refine wpList_more CT8 rfl _ _ rfl rfl rfl ho1 hb1 (HR.out.below hb1) (by simp; omega) ?_); intro v2 w2 ho2 hb2))
  obtain ⟨a', len', cap', rfl, hrd⟩ := ho4.back
  go_ret
  exact ⟨a', len', cap', rfl, by simpa [escI] using hrd, hb4⟩


end Go.Proofs.Ytdglnpkkfkagaaa

/-! R02 -/
namespace Go.Proofs.Ytdglnpkkfkagaaa
open Go.RowKit
set_option linter.unusedVariables false


theorem dig_mod (n : Int) : (n.tmod 16 + 16).tmod 16 = n % 16 := by
  have h1 : -15 ≤ n.tmod 16 ∧ n.tmod 16 ≤ 15 := by
    rcases Int.le_total 0 n with h | h
    · rw [Int.tmod_eq_emod_of_nonneg h]; omega
    · obtain ⟨m, rfl⟩ : ∃ m, n = -m := ⟨-n, by omega⟩
      rw [Int.neg_tmod, Int.tmod_eq_emod_of_nonneg (by omega)]; omega
  rw [Int.tmod_eq_emod_of_nonneg (by omega)]
  rcases Int.le_total 0 n with h | h
  · rw [Int.tmod_eq_emod_of_nonneg h]; omega
  · obtain ⟨m, rfl⟩ : ∃ m, n = -m := ⟨-n, by omega⟩
    rw [Int.neg_tmod, Int.tmod_eq_emod_of_nonneg (by omega)]; omega



/-- The walk's spellings of an octet's two digits. -/
theorem spell (x : Int) (h0 : 0 ≤ x) (h1 : x ≤ 255) : IntKind.i64.wrap x = x ∧ x.tdiv 16 = x / 16 ∧ x.tmod 16 = x % 16 ∧ IntKind.i64.wrap (x / 16) = x / 16 ∧ IntKind.i64.wrap (x % 16) = x % 16 :=
  ⟨IntWalk.i64_in _ (by omega), Int.tdiv_eq_ediv_of_nonneg h0, Int.tmod_eq_emod_of_nonneg h0, IntWalk.i64_in _ (by omega), IntWalk.i64_in _ (by omega)⟩


end Go.Proofs.Ytdglnpkkfkagaaa

/-! R20 -/
namespace Go.Proofs.Ytdglnpkkfkagaaa
open Go.RowKit
set_option linter.unusedVariables false

theorem drop1 {xs : List Int} {k : Nat} {x : Int} (h : xs[k]? = some x) : xs.drop k = x :: xs.drop (k + 1) := by
  have hk : k < xs.length := (List.getElem?_eq_some_iff.1 h).1
  have e : xs[k] = x := (List.getElem?_eq_some_iff.1 h).2
  rw [List.drop_eq_getElem_cons hk, e]
end Go.Proofs.Ytdglnpkkfkagaaa

/-! C20 -/
namespace Go.Proofs.Ytdglnpkkfkagaaa
open Go.RowKit
set_option linter.unusedVariables false

/-- The one octet that an octet is laid as, if there is such. -/
def aloV (c : Int) : Int := if c = 32 then 95 else if isB 128 c = true then c else 0
def aloB (c : Int) : Bool := decide (c = 32) || isB 128 c
theorem alo_yes {c : Int} (h0 : 0 ≤ c) (h1 : c ≤ 255) (h : aloB c = true) : oneQ c = [aloV c] ∧ 0 ≤ aloV c ∧ aloV c ≤ 255 := by
  unfold aloB at h
  unfold oneQ aloV
  by_cases h32 : c = 32
  · rw [if_pos h32, if_pos h32]; exact ⟨rfl, by decide, by decide⟩
  · rw [decide_eq_false h32, Bool.false_or] at h
    rw [if_neg h32, if_neg h32, if_pos h, if_pos h]; exact ⟨rfl, h0, h1⟩
theorem alo_no {c : Int} (h : aloB c = false) : oneQ c = escI [] 61 c := by
  unfold aloB at h
  rw [Bool.or_eq_false_iff] at h
  unfold oneQ
  rw [if_neg (by simpa using h.1), if_neg (by rw [h.2]; decide)]
theorem qword_alone (c : Int) (w : World) (h0 : 0 ≤ c) (h1 : c ≤ 255) :
    Calls Try.prog 60 #[.int .u8 c] w fun e w' => e = .returned (.tuple #[.int .u8 (aloV c), .bool (aloB c)]) ∧ w = w' := by
  by_cases h32 : c = 32
  · subst h32
    go_enter Try.func60, Try.ntmps60
    go_wp2_with fail
    go_ret2
    exact ⟨rfl, rfl⟩
  · have b32 : (c == 32) = false := by simpa using h32
    have e1 : aloB c = isB 128 c := by unfold aloB; rw [decide_eq_false h32, Bool.false_or]
    have e2 : aloV c = if isB 128 c = true then c else 0 := by unfold aloV; rw [if_neg h32]
    rw [e1, e2]
    clear e1 e2 h32
    cases hk : isB 128 c
    all_goals
      go_enter Try.func60, Try.ntmps60
      go_wp2_with (go_at_call 74; (with_reducible refine (is_c _ _ _ h0 h1).mono ?_); rintro e w' ⟨rfl, rfl⟩; rw [hk])
      go_ret2
      exact ⟨rfl, rfl⟩
theorem qword_OneI (c : Int) (w : World) (h0 : 0 ≤ c) (h1 : c ≤ 255) :
    Calls Try.prog 58 #[.int .u8 c] w fun e w' => e = .returned (.int .i64 ((oneQ c).length)) ∧ w = w' := by
  have HA := hid (qword_alone c w h0 h1)
  cases hb : aloB c
  · rw [hb] at HA
    have hl : (oneQ c).length = 3 := by rw [alo_no hb]; rfl
    rw [hl]
    go_enter Try.func58, Try.ntmps58
    go_wp2_with (go_at_call 60; (with_reducible refine HA.out.mono ?_); rintro e w' ⟨rfl, rfl⟩)
    go_ret
    exact ⟨rfl, rfl⟩
  · rw [hb] at HA
    have hl : (oneQ c).length = 1 := by rw [(alo_yes h0 h1 hb).1]; rfl
    rw [hl]
    go_enter Try.func58, Try.ntmps58
    go_wp2_with (go_at_call 60; (with_reducible refine HA.out.mono ?_); rintro e w' ⟨rfl, rfl⟩)
    go_ret
    exact ⟨rfl, rfl⟩
theorem qword_One (c : Int) (w : World) (h0 : 0 ≤ c) (h1 : c ≤ 255) :
    Calls Try.prog 58 #[.int .u8 c] w fun e w' => e = .returned (.int .i64 ((oneQ c).length)) ∧ Below w.heap.size w w' := by
  refine (qword_OneI c w h0 h1).mono ?_
  rintro e w' ⟨rfl, rfl⟩
  exact ⟨rfl, Below.refl _ _⟩
theorem qword_Len (a : Option Addr) (len cap : Nat) (xs : List Int) (w : World) (hr : Reads .u8 w a len cap xs) (hN : len < 10000000) :
    Calls Try.prog 46 #[.slice a len cap] w fun e w' => e = .returned (.int .i64 ((layW xs).length)) ∧ Below w.heap.size w w' := by
  have HR := hid hr
  have hsz := hid hr.size
  clear hr
  go_enter Try.func46, Try.ntmps46
  go_wp2_with fail
  go_loop [3, 8] (fun m i => ∃ k j : Nat, k ≤ len ∧ i = .int .i64 k ∧ m = .int .i64 j ∧ j ≤ 3 * k ∧ Hid (j = (layW (xs.take k)).length)) (fun _ i => len - (intOf i).toNat)
  case atStart => exact ⟨0, 0, Nat.zero_le _, rfl, rfl, Nat.le_refl _, rfl⟩
  case round =>
    obtain ⟨k, j, hk, rfl, rfl, hj, hn⟩ := hrel
    by_cases hlt : k < len
    · obtain ⟨b, off, x, rfl, _, hc, h0, h1, hx⟩ := HR.out.get8 hlt
      have h3 := oneQ_len x
      have e1 := congrArg List.length (layW_snoc hx.out.2)
      rw [List.length_append, ← hn.out] at e1
      obtain ⟨q, hq⟩ : ∃ q, q = (oneQ x).length := ⟨_, rfl⟩
      have HO := qword_OneI x w h0 h1
      rw [← hq] at HO h3 e1
      have HO := hid HO
      have HE : Hid (j + q = (layW (xs.take (k + 1))).length) := e1.symm
      clear e1 hq
      go_wp2_with (go_at_call 58; (with_reducible refine HO.out.mono ?_); rintro e w' ⟨rfl, rfl⟩)
      go_round
      case rel => exact ⟨k + 1, j + q, by omega, by go_num, by go_num, by omega, HE⟩
      case measure => simp [intOf]; omega
    · have hE := hn.out
      rw [HR.out.all (show len ≤ k by omega)] at hE
      go_wp2_with fail
      go_ret
      exact ⟨ret_int (by first | rfl | rw [hE]), Below.refl _ _⟩
set_option maxHeartbeats 1000000 in
theorem qword_LayO (a : Option Addr) (len cap : Nat) (xs : List Int) (w : World) (hr : Reads .u8 w a len cap xs) (hN : len < 10000000) :
    Calls Try.prog 49 #[.slice a len cap] w fun e w' => ∃ v, e = .returned v ∧ Own .u8 5 w.heap.size w' v (layW xs) ∧ Below w.heap.size w w' := by
  have HR := hid hr
  have hsz := hid hr.size
  clear hr
  go_enter Try.func49, Try.ntmps49
  go_wp2_with (at_make; go_must (refine wpList_make0 (n := len) CT8 rfl _ _ rfl rfl rfl (Below.refl _ _) (by omega) ?_); intro v1 w1 ho1 hb1)
  go_loopw [3, 13] (fun v i wr => ∃ k : Nat, k ≤ len ∧ i = .int .i64 k ∧ Own .u8 5 w.heap.size wr v (layW (xs.take k)) ∧ Below w.heap.size w wr) (fun _ i _ => len - (intOf i).toNat)
  case atStart => exact ⟨0, Nat.zero_le _, rfl, ho1, hb1⟩
  case round =>
    obtain ⟨k, hk, rfl, hown, hbel⟩ := hrel
    by_cases hlt : k < len
    · obtain ⟨b, off, x, rfl, _, hcx, h0, h1, hx⟩ := (HR.out.below hbel).get8 hlt
      have hll := layW_len (xs.take k)
      rw [List.length_take] at hll
      have e1 := layW_snoc hx.out.2
      have HA := qword_alone x wr h0 h1
      cases hb : aloB x
      · rw [hb] at HA
        rw [alo_no hb] at e1
        have HA := hid HA
        have e1 := hid e1
        clear hb
        go_wp2_with (first
          | (go_at_call 60; (with_reducible refine HA.out.mono ?_); rintro e w' ⟨rfl, rfl⟩)
          | (go_at_call 61; (with_reducible refine (put_c none 0 0 [] 61 x _ (Reads.nil _ _ _ _ (Nat.zero_le _)) (by decide) h0 h1 (by decide)).mono ?_); rintro e w1 ⟨a1, l1, c1, rfl, r1, hb1'⟩; have ho2 := hown.below hb1'; have hb2 := below_then' hbel hb1' (Nat.le_refl _))
          | (at_builtin; go_must (refine wpList_more CT8 rfl _ _ rfl rfl rfl ho2 hb2 r1 (by have h3 := r1.size; rw [show (escI [] 61 x).length = 3 from rfl] at h3; omega) ?_); intro v3 w3 ho3 hb3))
        rw [← e1.out] at ho3
        go_roundw
        case rel => exact ⟨k + 1, by omega, by go_num, ho3, hb3⟩
        case measure => simp [intOf]; omega
      · rw [hb] at HA
        obtain ⟨y1, y2, y3⟩ := alo_yes h0 h1 hb
        rw [y1] at e1
        have hw := mk_u8 y2 y3
        generalize aloV x = y at HA e1 hw
        have HA := hid HA
        have e1 := hid e1
        clear hb y1 y2 y3
        go_wp2_with (first
          | (go_at_call 60; (with_reducible refine HA.out.mono ?_); rintro e w' ⟨rfl, rfl⟩)
          | (at_builtin; (refine wpList_push CT8 rfl _ _ rfl rfl ⟨_, rfl⟩ hown hbel (by omega) hw ?_); intro v3 w3 ho3 hb3))
        rw [← e1.out] at ho3
        go_roundw
        case rel => exact ⟨k + 1, by omega, by go_num, ho3, hb3⟩
        case measure => simp [intOf]; omega
    · go_wp2_with fail
      go_ret
      exact ⟨_, rfl, by rw [HR.out.all (show len ≤ k by omega)] at hown; exact hown, hbel⟩
theorem qword_Lay (a : Option Addr) (len cap : Nat) (xs : List Int) (w : World) (hr : Reads .u8 w a len cap xs) (hN : len < 10000000) :
    Calls Try.prog 49 #[.slice a len cap] w fun e w' => ∃ a' len' cap', e = .returned (.slice a' len' cap') ∧ Reads .u8 w' a' len' cap' (layW xs) ∧ Below w.heap.size w w' := by
  refine (qword_LayO a len cap xs w hr hN).mono ?_
  rintro e w' ⟨v, rfl, ho, hb⟩
  obtain ⟨a', c', rfl, h⟩ := ho.reads
  exact ⟨_, _, _, rfl, h, hb⟩

/-! ### signs that are none of an escape -/
/-- How many there are, place by place. -/
def cntW : List Int → Nat
  | [] => 0
  | x :: r => (if x = 61 ∧ escP 61 (x :: r) = none then 1 else 0) + cntW r
theorem hexO_no : hexO 61 = false := by decide +kernel
theorem cnt_st : ∀ (n : Nat) (xs : List Int), xs.length ≤ n → cntW xs = stE 61 xs 0 := by
  intro n
  induction n with
  | zero => intro xs h; obtain rfl := List.eq_nil_of_length_eq_zero (Nat.le_zero.1 h); rfl
  | succ n ih =>
    intro xs h
    match xs, h with
    | [], _ => rfl
    | x :: r, h =>
      simp only [List.length_cons] at h
      cases he : escP 61 (x :: r) with
      | none =>
        rw [stE_on he, ← ih r (by omega), cntW, he]
        by_cases hx : x = 61
        · rw [if_pos ⟨hx, rfl⟩, if_pos hx]
        · rw [if_neg (fun hh => hx hh.1), if_neg hx]
      | some v =>
        rw [stE_esc he, cntW, if_neg (by rw [he]; simp), Nat.zero_add]
        match r, h, he with
        | a :: b :: q, h, he =>
          simp only [List.length_cons] at h
          rw [escP] at he
          split at he
          · rename_i hh
            have ha : a ≠ 61 := fun e => by have := hh.2.1; rw [e, hexO_no] at this; cases this
            have hb : b ≠ 61 := fun e => by have := hh.2.2; rw [e, hexO_no] at this; cases this
            rw [cntW, if_neg (fun hh => ha hh.1), cntW, if_neg (fun hh => hb hh.1), ih q (by omega)]
            simp
          · cases he
        | [_], _, he => rw [escP] at he; cases he; all_goals (intros; contradiction)
        | [], _, he => rw [escP] at he; cases he; all_goals (intros; contradiction)
theorem cntW_all (xs : List Int) : cntW xs = strW xs := cnt_st xs.length xs (Nat.le_refl _)
theorem cnt_le : ∀ xs : List Int, cntW xs ≤ xs.length
  | [] => Nat.le_refl _
  | x :: r => by have := cnt_le r; rw [cntW, List.length_cons]; split <;> omega

/-! ### what is read -/
/-- Where the loop stands: what is left, what is read so far. -/
def QrI (w0 : World) (e : TypeId) (len g : Nat) (F : List Int) (s v : Value) (wr : World) : Prop :=
  ∃ a' m c' ys O, s = .slice a' m c' ∧ m ≤ g ∧ Reads .u8 w0 a' m c' ys ∧ Own .u8 e w0.heap.size wr v O ∧ Below w0.heap.size w0 wr ∧ O.length + m ≤ len ∧ Hid (O ++ rdE 61 unQ ys 0 = F)
theorem QrI.mk {w0 : World} {e : TypeId} {len g : Nat} {F : List Int} {v : Value} {wr : World} {a' : Option Addr} {m c' : Nat} {ys O : List Int} (h1 : m ≤ g) (h2 : Reads .u8 w0 a' m c' ys) (h3 : Own .u8 e w0.heap.size wr v O) (h4 : Below w0.heap.size w0 wr) (h5 : O.length + m ≤ len) (h6 : Hid (O ++ rdE 61 unQ ys 0 = F)) : QrI w0 e len g F (.slice a' m c') v wr :=
  ⟨a', m, c', ys, O, rfl, h1, h2, h3, h4, h5, h6⟩
theorem QrI.one {w0 : World} {e : TypeId} {len g : Nat} {F : List Int} {v : Value} {wr : World} {a' : Option Addr} {m c' : Nat} {ys O : List Int} {x : Int} {j : Nat} (h1 : j ≤ m) (h1' : m ≤ g + 1) (hj : 1 ≤ j) (h2 : Reads .u8 w0 a' (m - j) c' ys) (h3 : Own .u8 e w0.heap.size wr v (O ++ [x])) (h4 : Below w0.heap.size w0 wr) (h5 : O.length + m ≤ len) (h6 : Hid (O ++ [x] ++ rdE 61 unQ ys 0 = F)) : QrI w0 e len g F (.slice a' ((m - j : Nat) : Nat) c') v wr :=
  QrI.mk (by omega) h2 h3 h4 (by rw [List.length_append, List.length_singleton]; omega) h6
end Go.Proofs.Ytdglnpkkfkagaaa
