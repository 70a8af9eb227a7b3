/-
  Texts of ours laid together: C20, Cat, Stm.
-/
import Derived.Test.YtdglnpkkfkagaaaGreatRows
import Derived.Deep.LoopGhost
import Derived.Lib.AppendZerosOnto
import Derived.Test.YtdglnpkkfkagaaaGreatZ31

/-! C20 -/
namespace Go.Proofs.YtdglnpkkfkagaaaGreat
open Go.RowKit
set_option linter.unusedVariables false

/-- The one octet that an octet is laid as, if there is such. -/
def aloV (c : Int) : Int := if c = 32 then 95 else if isB 128 c = true then c else 0
def aloB (c : Int) : Bool := decide (c = 32) || isB 128 c
theorem alo_yes {c : Int} (h0 : 0 ≤ c) (h1 : c ≤ 255) (h : aloB c = true) : oneQ c = [aloV c] ∧ 0 ≤ aloV c ∧ aloV c ≤ 255 := by
  unfold aloB at h
  unfold oneQ aloV
  by_cases h32 : c = 32
  · rw [if_pos h32, if_pos h32]; exact ⟨rfl, by decide, by decide⟩
  · rw [decide_eq_false h32, Bool.false_or] at h
    rw [if_neg h32, if_neg h32, if_pos h, if_pos h]; exact ⟨rfl, h0, h1⟩
theorem alo_no {c : Int} (h : aloB c = false) : oneQ c = escI [] 61 c := by
  unfold aloB at h
  rw [Bool.or_eq_false_iff] at h
  unfold oneQ
  rw [if_neg (by simpa using h.1), if_neg (by rw [h.2]; decide)]
theorem qword_alone (c : Int) (w : World) (h0 : 0 ≤ c) (h1 : c ≤ 255) :
    Calls Tryz.prog 132 #[.int .u8 c] w fun e w' => e = .returned (.tuple #[.int .u8 (aloV c), .bool (aloB c)]) ∧ w = w' := by
  by_cases h32 : c = 32
  · subst h32
    go_enter Tryz.func132, Tryz.ntmps132
    go_wp2_with fail
    go_ret2
    exact ⟨rfl, rfl⟩
  · have b32 : (c == 32) = false := by simpa using h32
    have e1 : aloB c = isB 128 c := by unfold aloB; rw [decide_eq_false h32, Bool.false_or]
    have e2 : aloV c = if isB 128 c = true then c else 0 := by unfold aloV; rw [if_neg h32]
    rw [e1, e2]
    clear e1 e2 h32
    cases hk : isB 128 c
    all_goals
      go_enter Tryz.func132, Tryz.ntmps132
      go_wp2_with (go_at_call 145; (with_reducible refine (is_c _ _ _ h0 h1).mono ?_); rintro e w' ⟨rfl, rfl⟩; rw [hk])
      go_ret2
      exact ⟨rfl, rfl⟩
theorem qword_OneI (c : Int) (w : World) (h0 : 0 ≤ c) (h1 : c ≤ 255) :
    Calls Tryz.prog 130 #[.int .u8 c] w fun e w' => e = .returned (.int .i64 ((oneQ c).length)) ∧ w = w' := by
  have HA := hid (qword_alone c w h0 h1)
  cases hb : aloB c
  · rw [hb] at HA
    have hl : (oneQ c).length = 3 := by rw [alo_no hb]; rfl
    rw [hl]
    go_enter Tryz.func130, Tryz.ntmps130
    go_wp2_with (go_at_call 132; (with_reducible refine HA.out.mono ?_); rintro e w' ⟨rfl, rfl⟩)
    go_ret
    exact ⟨rfl, rfl⟩
  · rw [hb] at HA
    have hl : (oneQ c).length = 1 := by rw [(alo_yes h0 h1 hb).1]; rfl
    rw [hl]
    go_enter Tryz.func130, Tryz.ntmps130
    go_wp2_with (go_at_call 132; (with_reducible refine HA.out.mono ?_); rintro e w' ⟨rfl, rfl⟩)
    go_ret
    exact ⟨rfl, rfl⟩
theorem qword_One (c : Int) (w : World) (h0 : 0 ≤ c) (h1 : c ≤ 255) :
    Calls Tryz.prog 130 #[.int .u8 c] w fun e w' => e = .returned (.int .i64 ((oneQ c).length)) ∧ Below w.heap.size w w' := by
  refine (qword_OneI c w h0 h1).mono ?_
  rintro e w' ⟨rfl, rfl⟩
  exact ⟨rfl, Below.refl _ _⟩
theorem qword_Len (a : Option Addr) (len cap : Nat) (xs : List Int) (w : World) (hr : Reads .u8 w a len cap xs) (hN : len < 10000000) :
    Calls Tryz.prog 109 #[.slice a len cap] w fun e w' => e = .returned (.int .i64 ((layW xs).length)) ∧ Below w.heap.size w w' := by
  have HR := hid hr
  have hsz := hid hr.size
  clear hr
  go_enter Tryz.func109, Tryz.ntmps109
  go_wp2_with fail
  go_loop [3, 8] (fun m i => ∃ k j : Nat, k ≤ len ∧ i = .int .i64 k ∧ m = .int .i64 j ∧ j ≤ 3 * k ∧ Hid (j = (layW (xs.take k)).length)) (fun _ i => len - (intOf i).toNat)
  case atStart => exact ⟨0, 0, Nat.zero_le _, rfl, rfl, Nat.le_refl _, rfl⟩
  case round =>
    obtain ⟨k, j, hk, rfl, rfl, hj, hn⟩ := hrel
    by_cases hlt : k < len
    · obtain ⟨b, off, x, rfl, _, hc, h0, h1, hx⟩ := HR.out.get8 hlt
      have h3 := oneQ_len x
      have e1 := congrArg List.length (layW_snoc hx.out.2)
      rw [List.length_append, ← hn.out] at e1
      obtain ⟨q, hq⟩ : ∃ q, q = (oneQ x).length := ⟨_, rfl⟩
      have HO := qword_OneI x w h0 h1
      rw [← hq] at HO h3 e1
      have HO := hid HO
      have HE : Hid (j + q = (layW (xs.take (k + 1))).length) := e1.symm
      clear e1 hq
      go_wp2_with (go_at_call 130; (with_reducible refine HO.out.mono ?_); rintro e w' ⟨rfl, rfl⟩)
      go_round
      case rel => exact ⟨k + 1, j + q, by omega, by go_num, by go_num, by omega, HE⟩
      case measure => simp [intOf]; omega
    · have hE := hn.out
      rw [HR.out.all (show len ≤ k by omega)] at hE
      go_wp2_with fail
      go_ret
      exact ⟨ret_int (by first | rfl | rw [hE]), Below.refl _ _⟩
set_option maxHeartbeats 1000000 in
theorem qword_LayO (a : Option Addr) (len cap : Nat) (xs : List Int) (w : World) (hr : Reads .u8 w a len cap xs) (hN : len < 10000000) :
    Calls Tryz.prog 112 #[.slice a len cap] w fun e w' => ∃ v, e = .returned v ∧ Own .u8 5 w.heap.size w' v (layW xs) ∧ Below w.heap.size w w' := by
  have HR := hid hr
  have hsz := hid hr.size
  clear hr
  go_enter Tryz.func112, Tryz.ntmps112
  go_wp2_with (at_make; go_must (refine wpList_make0 (n := len) CT8 rfl _ _ rfl rfl rfl (Below.refl _ _) (by omega) ?_); intro v1 w1 ho1 hb1)
  go_loopw [3, 13] (fun v i wr => ∃ k : Nat, k ≤ len ∧ i = .int .i64 k ∧ Own .u8 5 w.heap.size wr v (layW (xs.take k)) ∧ Below w.heap.size w wr) (fun _ i _ => len - (intOf i).toNat)
  case atStart => exact ⟨0, Nat.zero_le _, rfl, ho1, hb1⟩
  case round =>
    obtain ⟨k, hk, rfl, hown, hbel⟩ := hrel
    by_cases hlt : k < len
    · obtain ⟨b, off, x, rfl, _, hcx, h0, h1, hx⟩ := (HR.out.below hbel).get8 hlt
      have hll := layW_len (xs.take k)
      rw [List.length_take] at hll
      have e1 := layW_snoc hx.out.2
      have HA := qword_alone x wr h0 h1
      cases hb : aloB x
      · rw [hb] at HA
        rw [alo_no hb] at e1
        have HA := hid HA
        have e1 := hid e1
        clear hb
        go_wp2_with (first
          | (go_at_call 132; (with_reducible refine HA.out.mono ?_); rintro e w' ⟨rfl, rfl⟩)
          | (go_at_call 133; (with_reducible refine (put_c none 0 0 [] 61 x _ (Reads.nil _ _ _ _ (Nat.zero_le _)) (by decide) h0 h1 (by decide)).mono ?_); rintro e w1 ⟨a1, l1, c1, rfl, r1, hb1'⟩; have ho2 := hown.below hb1'; have hb2 := below_then' hbel hb1' (Nat.le_refl _))
          | (at_builtin; go_must (refine wpList_more CT8 rfl _ _ rfl rfl rfl ho2 hb2 r1 (by have h3 := r1.size; rw [show (escI [] 61 x).length = 3 from rfl] at h3; omega) ?_); intro v3 w3 ho3 hb3))
        rw [← e1.out] at ho3
        go_roundw
        case rel => exact ⟨k + 1, by omega, by go_num, ho3, hb3⟩
        case measure => simp [intOf]; omega
      · rw [hb] at HA
        obtain ⟨y1, y2, y3⟩ := alo_yes h0 h1 hb
        rw [y1] at e1
        have hw := mk_u8 y2 y3
        generalize aloV x = y at HA e1 hw
        have HA := hid HA
        have e1 := hid e1
        clear hb y1 y2 y3
        go_wp2_with (first
          | (go_at_call 132; (with_reducible refine HA.out.mono ?_); rintro e w' ⟨rfl, rfl⟩)
          | (at_builtin; (refine wpList_push CT8 rfl _ _ rfl rfl ⟨_, rfl⟩ hown hbel (by omega) hw ?_); intro v3 w3 ho3 hb3))
        rw [← e1.out] at ho3
        go_roundw
        case rel => exact ⟨k + 1, by omega, by go_num, ho3, hb3⟩
        case measure => simp [intOf]; omega
    · go_wp2_with fail
      go_ret
      exact ⟨_, rfl, by rw [HR.out.all (show len ≤ k by omega)] at hown; exact hown, hbel⟩
theorem qword_Lay (a : Option Addr) (len cap : Nat) (xs : List Int) (w : World) (hr : Reads .u8 w a len cap xs) (hN : len < 10000000) :
    Calls Tryz.prog 112 #[.slice a len cap] w fun e w' => ∃ a' len' cap', e = .returned (.slice a' len' cap') ∧ Reads .u8 w' a' len' cap' (layW xs) ∧ Below w.heap.size w w' := by
  refine (qword_LayO a len cap xs w hr hN).mono ?_
  rintro e w' ⟨v, rfl, ho, hb⟩
  obtain ⟨a', c', rfl, h⟩ := ho.reads
  exact ⟨_, _, _, rfl, h, hb⟩

/-! ### signs that are none of an escape -/
/-- How many there are, place by place. -/
def cntW : List Int → Nat
  | [] => 0
  | x :: r => (if x = 61 ∧ escP 61 (x :: r) = none then 1 else 0) + cntW r
theorem hexO_no : hexO 61 = false := by decide +kernel
theorem cnt_st : ∀ (n : Nat) (xs : List Int), xs.length ≤ n → cntW xs = stE 61 xs 0 := by
  intro n
  induction n with
  | zero => intro xs h; obtain rfl := List.eq_nil_of_length_eq_zero (Nat.le_zero.1 h); rfl
  | succ n ih =>
    intro xs h
    match xs, h with
    | [], _ => rfl
    | x :: r, h =>
      simp only [List.length_cons] at h
      cases he : escP 61 (x :: r) with
      | none =>
        rw [stE_on he, ← ih r (by omega), cntW, he]
        by_cases hx : x = 61
        · rw [if_pos ⟨hx, rfl⟩, if_pos hx]
        · rw [if_neg (fun hh => hx hh.1), if_neg hx]
      | some v =>
        rw [stE_esc he, cntW, if_neg (by rw [he]; simp), Nat.zero_add]
        match r, h, he with
        | a :: b :: q, h, he =>
          simp only [List.length_cons] at h
          rw [escP] at he
          split at he
          · rename_i hh
            have ha : a ≠ 61 := fun e => by have := hh.2.1; rw [e, hexO_no] at this; cases this
            have hb : b ≠ 61 := fun e => by have := hh.2.2; rw [e, hexO_no] at this; cases this
            rw [cntW, if_neg (fun hh => ha hh.1), cntW, if_neg (fun hh => hb hh.1), ih q (by omega)]
            simp
          · cases he
        | [_], _, he => rw [escP] at he; cases he; all_goals (intros; contradiction)
        | [], _, he => rw [escP] at he; cases he; all_goals (intros; contradiction)
theorem cntW_all (xs : List Int) : cntW xs = strW xs := cnt_st xs.length xs (Nat.le_refl _)
theorem cnt_le : ∀ xs : List Int, cntW xs ≤ xs.length
  | [] => Nat.le_refl _
  | x :: r => by have := cnt_le r; rw [cntW, List.length_cons]; split <;> omega

/-! ### what is read -/
/-- Where the loop stands: what is left, what is read so far. -/
def QrI (w0 : World) (e : TypeId) (len g : Nat) (F : List Int) (s v : Value) (wr : World) : Prop :=
  ∃ a' m c' ys O, s = .slice a' m c' ∧ m ≤ g ∧ Reads .u8 w0 a' m c' ys ∧ Own .u8 e w0.heap.size wr v O ∧ Below w0.heap.size w0 wr ∧ O.length + m ≤ len ∧ Hid (O ++ rdE 61 unQ ys 0 = F)
theorem QrI.mk {w0 : World} {e : TypeId} {len g : Nat} {F : List Int} {v : Value} {wr : World} {a' : Option Addr} {m c' : Nat} {ys O : List Int} (h1 : m ≤ g) (h2 : Reads .u8 w0 a' m c' ys) (h3 : Own .u8 e w0.heap.size wr v O) (h4 : Below w0.heap.size w0 wr) (h5 : O.length + m ≤ len) (h6 : Hid (O ++ rdE 61 unQ ys 0 = F)) : QrI w0 e len g F (.slice a' m c') v wr :=
  ⟨a', m, c', ys, O, rfl, h1, h2, h3, h4, h5, h6⟩
theorem QrI.one {w0 : World} {e : TypeId} {len g : Nat} {F : List Int} {v : Value} {wr : World} {a' : Option Addr} {m c' : Nat} {ys O : List Int} {x : Int} {j : Nat} (h1 : j ≤ m) (h1' : m ≤ g + 1) (hj : 1 ≤ j) (h2 : Reads .u8 w0 a' (m - j) c' ys) (h3 : Own .u8 e w0.heap.size wr v (O ++ [x])) (h4 : Below w0.heap.size w0 wr) (h5 : O.length + m ≤ len) (h6 : Hid (O ++ [x] ++ rdE 61 unQ ys 0 = F)) : QrI w0 e len g F (.slice a' ((m - j : Nat) : Nat) c') v wr :=
  QrI.mk (by omega) h2 h3 h4 (by rw [List.length_append, List.length_singleton]; omega) h6
end Go.Proofs.YtdglnpkkfkagaaaGreat

/-! Cat -/
namespace Go.Proofs.YtdglnpkkfkagaaaGreat
open Go.RowKit
set_option linter.unusedVariables false

set_option maxHeartbeats 1000000 in
theorem slices_GrowNil (n : Nat) (w : World) (hN : n < 1000000000000) :
    Calls Tryz.prog 110 #[.slice none 0 0, .int .i64 n] w fun e w' => ∃ v, e = .returned v ∧ Own .u8 5 w.heap.size w' v [] ∧ Below w.heap.size w w' := by
  by_cases h0 : n = 0
  · subst h0
    go_enter Tryz.func110, Tryz.ntmps110
    go_wp2
    go_ret
    exact ⟨_, rfl, Own.nil _ _ _ _, Below.refl _ _⟩
  · have hpos : 0 < n := by omega
    obtain ⟨i, hi, hz0, hz1, hz2⟩ := info_parts CT8.info
    have hrz : ∀ ty, (Builtin.append_ #[42, 3] ty #[.slice none 0 0, .int .i64 n]).run Tryz.prog w =
        .ok (.slice (some ⟨w.heap.size, 0, none⟩) n (grownCap w n 0 5)) (w.drew.alloc (.cells (Builtin.zeroCells (Value.int .u8 0).cells n ++ Builtin.zeroCells (Value.int .u8 0).cells (grownCap w n 0 5 - n)) 5)) := fun ty =>
      Lib.run_append_nil_zeros w 42 3 ty 5 i (.int .u8 0) .i64 .i64 Tryz.underlying42 Tryz.underlying3 hi hz0 n hpos (by omega) (by omega) (by rw [hz2]; omega)
    have hGn : n ≤ grownCap w n 0 5 := grownCap_ge w _ _ _
    have hGm : grownCap w n 0 5 ≤ maxLen := grownCap_le_maxLen w n 0 5 (by unfold maxLen; omega)
    obtain ⟨G, hG⟩ : ∃ G, G = grownCap w n 0 5 := ⟨_, rfl⟩
    rw [← hG] at hrz hGn hGm
    have hcs : (Builtin.zeroCells (Value.int .u8 0).cells n ++ Builtin.zeroCells (Value.int .u8 0).cells (G - n)).size = G := by
      simp [Builtin.zeroCells, Value.cells]
      omega
    generalize (Builtin.zeroCells (Value.int .u8 0).cells n ++ Builtin.zeroCells (Value.int .u8 0).cells (G - n)) = C at *
    have HO : Hid (Own .u8 5 w.heap.size (w.drew.alloc (.cells C 5)) (.slice (some ⟨w.heap.size, 0, none⟩) 0 G) []) := by
      refine ⟨⟨by simp, .inr ⟨w.heap.size, G, C, rfl, Nat.le_refl _, heap_alloc_new w.drew _, Nat.zero_le _, hGm, by rw [hcs, Nat.mul_one], by simp⟩⟩, fun x hx => by cases hx⟩
    have HB : Hid (Below w.heap.size w (w.drew.alloc (.cells C 5))) := (below_drew (Below.refl _ _)).alloc (Nat.le_refl _) _
    unfold maxLen at hGm
    clear hG hcs hz0 hz1 hz2 hi
    go_enter Tryz.func110, Tryz.ntmps110
    go_wp2_with (at_builtin; refine Lib.wpList_append_run _ rfl _ _ _ _ rfl _ _ rfl rfl _ _ (hrz _) ?_)
    go_ret
    exact ⟨_, rfl, HO.out, HB.out⟩
theorem flat_snoc {l : List (List Int)} {k : Nat} {x : List Int} (h : l.take (k + 1) = l.take k ++ [x]) : (l.take (k + 1)).flatten = (l.take k).flatten ++ x := by rw [h]; simp
theorem flat_take (l : List (List Int)) (k : Nat) : (l.take k).flatten.length ≤ l.flatten.length := by
  have h : l.flatten = (l.take k).flatten ++ (l.drop k).flatten := by rw [← List.flatten_append, List.take_append_drop]
  rw [h, List.length_append]
  omega
set_option maxHeartbeats 2000000 in
theorem slices_Concat (a : Option Addr) (len cap : Nat) (xss : List (List Int)) (w : World) (hr : Rws w a len cap xss) (hN : xss.flatten.length < 100000000) (hM : len < 100000000) :
    Calls Tryz.prog 84 #[.slice a len cap] w fun e w' => ∃ v, e = .returned v ∧ Own .u8 5 w.heap.size w' v xss.flatten ∧ Below w.heap.size w w' := by
  have HR := hid hr
  have hsz := hr.size
  have HJ := hid (fun k => flat_take xss k)
  clear hr
  go_enter Tryz.func84, Tryz.ntmps84
  go_wp2_with fail
  go_loop [3, 11] (fun n i => ∃ k m : Nat, k ≤ len ∧ i = .int .i64 k ∧ n = .int .i64 m ∧ m < 100000000 ∧ Hid (m = (xss.take k).flatten.length)) (fun _ i => len - (intOf i).toNat)
  case atStart => exact ⟨0, 0, Nat.zero_le _, rfl, rfl, by omega, by rw [Hid]; simp⟩
  case round =>
    obtain ⟨k, m, hk, rfl, rfl, hmb, hm⟩ := hrel
    by_cases hlt : k < len
    · obtain ⟨b, off, x, ai, li, ci, rfl, hbw, hc, hx, hg, ht⟩ := HR.out.get hlt
      have hs := congrArg List.length (flat_snoc ht)
      rw [List.length_append, ← hm.out, hx.size] at hs
      have hjk := HJ.out (k + 1)
      rw [hs] at hjk
      have hml : m + li < 100000000 := by omega
      have HS := hid hs.symm
      clear hs hg ht hjk hx hm
      go_wp2_with fail
      go_round
      case rel => exact ⟨k + 1, m + li, by omega, by go_num, by go_num, hml, HS⟩
      case measure => simp [intOf]; omega
    · go_wp2_with (go_at_call 110; (with_reducible refine (slices_GrowNil m w (by omega)).mono ?_); rintro e w1 ⟨v1, rfl, ho1, hb1⟩)
      go_loopw [6, 27] (fun v i wr => ∃ k : Nat, k ≤ len ∧ i = .int .i64 k ∧ Own .u8 5 w.heap.size wr v (xss.take k).flatten ∧ Below w.heap.size w wr) (fun _ i _ => len - (intOf i).toNat)
      case atStart => exact ⟨0, Nat.zero_le _, rfl, ho1, hb1⟩
      case round =>
        clear hk hm hmb
        obtain ⟨k, hk, rfl, hown, hbel⟩ := hrel
        by_cases hlt : k < len
        · obtain ⟨b, off, x, ai, li, ci, rfl, hbw, hc, hx, hg, ht⟩ := (HR.out.below hbel).get hlt
          have hs := flat_snoc ht
          have hjk := HJ.out (k + 1)
          rw [hs, List.length_append, hx.size] at hjk
          have HX := hid hx
          have HS := hid hs
          have HL := hid (show (xss.take k).flatten.length + li < 1000000000000 by omega)
          clear hx hs hg ht hjk
          go_wp2_with (at_builtin; go_must (refine wpList_more CT8 rfl _ _ rfl rfl rfl hown hbel HX.out HL.out ?_); intro v3 w3 ho3 hb3)
          rw [← HS.out] at ho3
          go_roundw
          case rel => exact ⟨k + 1, by omega, by go_num, ho3, hb3⟩
          case measure => simp [intOf]; omega
        · obtain rfl : k = len := by omega
          rw [List.take_of_length_le (by omega)] at hown
          go_wp2_with fail
          go_ret
          exact ⟨_, rfl, hown, hbel⟩
end Go.Proofs.YtdglnpkkfkagaaaGreat

/-! Stm -/
namespace Go.Proofs.YtdglnpkkfkagaaaGreat
open Go.RowKit

section
variable {P : Program} {ops : Array Oper} {o : Oper} {a : Act} {K : Act → World → Prop} {Q : Exit → Act → World → Prop} {E : Prop} {t e : TypeId} {k : IntKind} {by_ : Nat}

theorem step_more (ST : SliceT P t e k by_) (hgd : o.guard = none) (s x : Operand) (ho : o.op = .call { callee := .builtin .append, args := #[s, x], argTypes := #[t, t] })
    {w0 wr : World} {v : Value} {xs ys : List Int} {ao : Option Addr} {m c : Nat} (hs : a.eval s = v) (hx : a.eval x = .slice ao m c)
    (hown : Own k e w0.heap.size wr v xs) (hbel : Below w0.heap.size w0 wr) (hr : Reads k wr ao m c ys) (hlen : xs.length + m < 1000000000000)
    (h : ∀ v' w', Own k e w0.heap.size w' v' (xs ++ ys) → Below w0.heap.size w0 w' → K (a.put o.dst v') w') :
    if Region.wanted o (yielded ops a.tmps) = true then Oper.wp P o a wr K Q else E := by
  obtain ⟨i, hi, hz0, hz1, hz2⟩ := info_parts ST.info
  have hsm := ST.small
  have hsz := hr.size
  have hw : Region.wanted o (yielded ops a.tmps) = true := by simp [Region.wanted, hgd]
  rw [if_pos hw]
  by_cases hm : m = 0
  · subst hm
    obtain rfl : ys = [] := List.eq_nil_of_length_eq_zero hsz
    have hrun : (Builtin.append_ #[t, t] o.type #[v, .slice ao 0 c]).run P wr = .ok v wr := by
      rcases hown.1.2 with ⟨rfl, _⟩ | ⟨g, cap, cur, rfl, _, _, hnc, _⟩
      · cases ao <;> simp [Builtin.append_, run_underlying ST.under, sizeOf, typeInfo, hi, Builtin.lenOf, Builtin.firstCells, loadCells, loadCellsFrom]
      · cases ao <;> simp [Builtin.append_, run_underlying ST.under, sizeOf, typeInfo, hi, Builtin.lenOf, Builtin.firstCells, hnc, storeCells, loadCells, loadCellsFrom]
    unfold Oper.wp
    simp [execOp, ho, resolve, invoke, builtin, hs, hx, hrun, Result.andThen]
    exact h v wr (by simpa using hown) hbel
  · obtain ⟨b, off, rfl, hb, hc⟩ := hr.cell (by omega)
    have hmul : (xs.length + m) * by_ ≤ (xs.length + m) * 8 := Nat.mul_le_mul_left _ hsm
    refine wp_append_lies _ s x t ho w0.heap.size e i (.int k 0) 1 by_ ST.under hi hz0 hz1 hz2 rfl (by decide) v xs.length (xs.map (Value.int k)) hs hown.1 ⟨b, off, none⟩ m c (ys.map (Value.int k)) hx (by simp [hsz]) ?_ (ints_oneCell _ _) (by omega) (by unfold maxLen; omega) (by omega)
      hbel.size _ rfl ?_
    · intro j u hj
      have hjl : j < ys.length := by
        have := (List.getElem?_eq_some_iff.1 hj).1
        simpa using this
      rw [Addr.add_lit, hc j (by omega)]
      simp only [List.getElem?_map, List.getElem?_eq_getElem hjl, Option.map_some, Option.some.injEq] at hj
      subst hj
      simp [hjl]
    · intro g cap w' hown' hgrow _ _
      refine h _ w' ⟨by simpa [hsz] using hown', ?_⟩ (hbel.grown hgrow hbel.size (fun j hj => (hown.1.lt j hj).1))
      intro z hz
      rcases List.mem_append.1 hz with hz | hz
      · exact hown.2 z hz
      · exact hr.wf z hz
end
end Go.Proofs.YtdglnpkkfkagaaaGreat
