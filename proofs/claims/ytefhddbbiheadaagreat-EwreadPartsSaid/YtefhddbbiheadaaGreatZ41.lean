/-
  Texts of ours laid together: C20, Cat.
-/
import Derived.Test.YtefhddbbiheadaaGreatRows
import Derived.Deep.LoopGhost
import Derived.Lib.AppendZerosOnto
import Derived.Test.YtefhddbbiheadaaGreatZ40

/-! C20 -/
namespace Go.Proofs.YtefhddbbiheadaaGreat
open Go.RowKit
set_option linter.unusedVariables false

/-- The one octet that an octet is laid as, if there is such. -/
def aloV (c : Int) : Int := if c = 32 then 95 else if isB 128 c = true then c else 0
def aloB (c : Int) : Bool := decide (c = 32) || isB 128 c
theorem alo_yes {c : Int} (h0 : 0 ≤ c) (h1 : c ≤ 255) (h : aloB c = true) : oneQ c = [aloV c] ∧ 0 ≤ aloV c ∧ aloV c ≤ 255 := by
  unfold aloB at h
  unfold oneQ aloV
  by_cases h32 : c = 32
  · rw [if_pos h32, if_pos h32]; exact ⟨rfl, by decide, by decide⟩
  · rw [decide_eq_false h32, Bool.false_or] at h
    rw [if_neg h32, if_neg h32, if_pos h, if_pos h]; exact ⟨rfl, h0, h1⟩
theorem alo_no {c : Int} (h : aloB c = false) : oneQ c = escI [] 61 c := by
  unfold aloB at h
  rw [Bool.or_eq_false_iff] at h
  unfold oneQ
  rw [if_neg (by simpa using h.1), if_neg (by rw [h.2]; decide)]

/-! ### signs that are none of an escape -/
/-- How many there are, place by place. -/
def cntW : List Int → Nat
  | [] => 0
  | x :: r => (if x = 61 ∧ escP 61 (x :: r) = none then 1 else 0) + cntW r
theorem hexO_no : hexO 61 = false := by decide +kernel
theorem cnt_st : ∀ (n : Nat) (xs : List Int), xs.length ≤ n → cntW xs = stE 61 xs 0 := by
  intro n
  induction n with
  | zero => intro xs h; obtain rfl := List.eq_nil_of_length_eq_zero (Nat.le_zero.1 h); rfl
  | succ n ih =>
    intro xs h
    match xs, h with
    | [], _ => rfl
    | x :: r, h =>
      simp only [List.length_cons] at h
      cases he : escP 61 (x :: r) with
      | none =>
        rw [stE_on he, ← ih r (by omega), cntW, he]
        by_cases hx : x = 61
        · rw [if_pos ⟨hx, rfl⟩, if_pos hx]
        · rw [if_neg (fun hh => hx hh.1), if_neg hx]
      | some v =>
        rw [stE_esc he, cntW, if_neg (by rw [he]; simp), Nat.zero_add]
        match r, h, he with
        | a :: b :: q, h, he =>
          simp only [List.length_cons] at h
          rw [escP] at he
          split at he
          · rename_i hh
            have ha : a ≠ 61 := fun e => by have := hh.2.1; rw [e, hexO_no] at this; cases this
            have hb : b ≠ 61 := fun e => by have := hh.2.2; rw [e, hexO_no] at this; cases this
            rw [cntW, if_neg (fun hh => ha hh.1), cntW, if_neg (fun hh => hb hh.1), ih q (by omega)]
            simp
          · cases he
        | [_], _, he => rw [escP] at he; cases he; all_goals (intros; contradiction)
        | [], _, he => rw [escP] at he; cases he; all_goals (intros; contradiction)
theorem cntW_all (xs : List Int) : cntW xs = strW xs := cnt_st xs.length xs (Nat.le_refl _)
theorem cnt_le : ∀ xs : List Int, cntW xs ≤ xs.length
  | [] => Nat.le_refl _
  | x :: r => by have := cnt_le r; rw [cntW, List.length_cons]; split <;> omega
set_option maxHeartbeats 1000000 in
theorem qword_Strange (a : Option Addr) (len cap : Nat) (xs : List Int) (w : World) (hr : Reads .u8 w a len cap xs) (hN : len < 10000000) :
    Calls Tryz.prog 114 #[.slice a len cap] w fun e w' => e = .returned (.int .i64 ((strW xs : Int))) ∧ Below w.heap.size w w' := by
  have HR := hid hr
  have hsz := hid hr.size
  clear hr
  go_enter Tryz.func114, Tryz.ntmps114
  go_wp2_with fail
  go_loopw [3, 10] (fun s i wr => ∃ k j : Nat, k ≤ len ∧ i = .int .i64 k ∧ s = .int .i64 j ∧ j ≤ k ∧ Hid (j + cntW (xs.drop k) = strW xs) ∧ Below w.heap.size w wr) (fun _ i _ => len - (intOf i).toNat)
  case atStart => exact ⟨0, 0, Nat.zero_le _, rfl, rfl, Nat.le_refl _, by unfold Hid; rw [Nat.zero_add, List.drop_zero]; exact cntW_all xs, Below.refl _ _⟩
  case round =>
    obtain ⟨k, j, hk, rfl, rfl, hj, hn, hbel⟩ := hrel
    by_cases hlt : k < len
    · obtain ⟨b, off, x, rfl, _, hcx, h0, h1, hx⟩ := (HR.out.below hbel).get8 hlt
      have hd := drop1 hx.out.1
      have hn' := hn.out
      rw [hd, cntW, ← hd] at hn'
      by_cases h61 : x = 61
      · subst h61
        have ht := take_esc (xs := xs) (k := k) 61 (by rw [hsz.out]; exact hk)
        have hT := take_c _ len cap xs k 61 wr (HR.out.below hbel) (WalkArith.wf_i64 (by omega))
        rw [ht.1, ht.2] at hT
        cases he : escP 61 (xs.drop k) with
        | some v =>
          rw [he] at hT
          rw [if_neg (by rw [he]; simp), Nat.zero_add] at hn'
          have HT := hid hT
          have HN := hid hn'
          clear hT ht hn hn' hd he
          simp only [Option.isSome_some, Option.getD_some] at HT
          go_wp2_with (go_at_call 136; (with_reducible refine HT.out.mono ?_); rintro e w1 ⟨rfl, n, rfl⟩)
          go_roundw
          case rel => exact ⟨k + 1, j, by omega, by go_num, rfl, by omega, HN, Below.drewN hbel n⟩
          case measure => simp [intOf]; omega
        | none =>
          rw [he] at hT
          rw [if_pos ⟨rfl, he⟩, ← Nat.add_assoc] at hn'
          have HT := hid hT
          have HN := hid hn'
          clear hT ht hn hn' hd he
          simp only [Option.isSome_none, Option.getD_none] at HT
          go_wp2_with (go_at_call 136; (with_reducible refine HT.out.mono ?_); rintro e w1 ⟨rfl, n, rfl⟩)
          go_roundw
          case rel => exact ⟨k + 1, j + 1, by omega, by go_num, by go_num, by omega, HN, Below.drewN hbel n⟩
          case measure => simp [intOf]; omega
      · have b61 : (x != 61) = true := by simpa using h61
        rw [if_neg (fun hh => h61 hh.1), Nat.zero_add] at hn'
        have HN := hid hn'
        clear hn hn' hd h61
        go_wp2_with fail
        go_roundw
        case rel => exact ⟨k + 1, j, by omega, by go_num, rfl, by omega, HN, hbel⟩
        case measure => simp [intOf]; omega
    · have hn' := hn.out
      rw [List.drop_of_length_le (by rw [hsz.out]; omega), cntW, Nat.add_zero] at hn'
      go_wp2_with fail
      go_ret
      exact ⟨ret_int (by rw [hn']), hbel⟩
set_option maxHeartbeats 1000000 in
theorem qword_Check (a : Option Addr) (len cap : Nat) (xs : List Int) (w : World) (hr : Reads .u8 w a len cap xs) (hN : len < 10000000) :
    Calls Tryz.prog 86 #[.slice a len cap] w fun e w' => e = .returned (.int .i64 (chkW xs)) ∧ Below w.heap.size w w' := by
  have HR := hid hr
  have hsz := hid hr.size
  clear hr
  go_enter Tryz.func86, Tryz.ntmps86
  go_wp2_with fail
  go_loop [7] (fun i => ∃ k : Nat, k ≤ len ∧ i = .int .i64 k ∧ Hid ((xs.take k).all okW = true)) (fun i => len - (intOf i).toNat)
  case atStart => exact ⟨0, Nat.zero_le _, rfl, rfl⟩
  case round =>
    obtain ⟨k, hk, rfl, hn⟩ := hrel
    by_cases hlt : k < len
    · obtain ⟨b, off, x, rfl, _, hcx, h0, h1, hx⟩ := HR.out.get8 hlt
      cases hko : okW x
      · have HF : Hid (chkW xs = 3) := by unfold Hid chkW; rw [all_no hx.out.1 hko]; rfl
        by_cases h63 : x = 63
        · subst h63
          clear hko
          go_wp2_with fail
          go_ret
          exact ⟨ret_int HF.out.symm, Below.refl _ _⟩
        · have h4 : isB 4 x = false := by
            unfold okW at hko
            rw [decide_eq_true (show x ≠ 63 from h63), Bool.and_true] at hko
            exact hko
          have b63 : (x == 63) = false := by simpa using h63
          clear hko h63
          go_wp2_with (go_at_call 73; (with_reducible refine (is_c _ _ _ h0 h1).mono ?_); rintro e w' ⟨rfl, rfl⟩; rw [h4])
          go_ret
          exact ⟨ret_int HF.out.symm, Below.refl _ _⟩
      · have HY := hid (all_yes hx.out.2 hn.out hko)
        have hh : isB 4 x = true ∧ (x == 63) = false := by
          unfold okW at hko
          simp only [Bool.and_eq_true, decide_eq_true_eq] at hko
          exact ⟨hko.1, by simpa using hko.2⟩
        obtain ⟨h4, h63⟩ := hh
        clear hko
        go_wp2_with (go_at_call 73; (with_reducible refine (is_c _ _ _ h0 h1).mono ?_); rintro e w' ⟨rfl, rfl⟩; rw [h4])
        go_round
        case rel => exact ⟨k + 1, by omega, by go_num, HY⟩
        case measure => simp [intOf]; omega
    · have hall := hn.out
      rw [HR.out.all (show len ≤ k by omega)] at hall
      have hle : strW xs ≤ len := by rw [← hsz.out, ← cntW_all]; exact cnt_le xs
      have HQ := hid (qword_Strange a len cap xs w HR.out hN)
      have hc : chkW xs = if strW xs = 0 then 0 else 3 := by unfold chkW; rw [if_pos hall]
      obtain ⟨n, hq⟩ : ∃ n, n = strW xs := ⟨_, rfl⟩
      rw [← hq] at HQ hle hc
      clear hall hn hq
      by_cases hz : n = 0
      · subst hz
        rw [if_pos rfl] at hc
        have HF := hid hc
        clear hc
        go_wp2_with (go_at_call 114; (with_reducible refine HQ.out.mono ?_); rintro e w1 ⟨rfl, hb1⟩)
        go_ret
        exact ⟨ret_int HF.out.symm, hb1⟩
      · rw [if_neg hz] at hc
        have HF := hid hc
        clear hc
        have hp : (0 : Int) < (n : Int) := by omega
        go_wp2_with (go_at_call 114; (with_reducible refine HQ.out.mono ?_); rintro e w1 ⟨rfl, hb1⟩)
        go_ret
        exact ⟨ret_int HF.out.symm, hb1⟩

/-! ### what is read -/
/-- Where the loop stands: what is left, what is read so far. -/
def QrI (w0 : World) (e : TypeId) (len g : Nat) (F : List Int) (s v : Value) (wr : World) : Prop :=
  ∃ a' m c' ys O, s = .slice a' m c' ∧ m ≤ g ∧ Reads .u8 w0 a' m c' ys ∧ Own .u8 e w0.heap.size wr v O ∧ Below w0.heap.size w0 wr ∧ O.length + m ≤ len ∧ Hid (O ++ rdE 61 unQ ys 0 = F)
theorem QrI.mk {w0 : World} {e : TypeId} {len g : Nat} {F : List Int} {v : Value} {wr : World} {a' : Option Addr} {m c' : Nat} {ys O : List Int} (h1 : m ≤ g) (h2 : Reads .u8 w0 a' m c' ys) (h3 : Own .u8 e w0.heap.size wr v O) (h4 : Below w0.heap.size w0 wr) (h5 : O.length + m ≤ len) (h6 : Hid (O ++ rdE 61 unQ ys 0 = F)) : QrI w0 e len g F (.slice a' m c') v wr :=
  ⟨a', m, c', ys, O, rfl, h1, h2, h3, h4, h5, h6⟩
theorem QrI.one {w0 : World} {e : TypeId} {len g : Nat} {F : List Int} {v : Value} {wr : World} {a' : Option Addr} {m c' : Nat} {ys O : List Int} {x : Int} {j : Nat} (h1 : j ≤ m) (h1' : m ≤ g + 1) (hj : 1 ≤ j) (h2 : Reads .u8 w0 a' (m - j) c' ys) (h3 : Own .u8 e w0.heap.size wr v (O ++ [x])) (h4 : Below w0.heap.size w0 wr) (h5 : O.length + m ≤ len) (h6 : Hid (O ++ [x] ++ rdE 61 unQ ys 0 = F)) : QrI w0 e len g F (.slice a' ((m - j : Nat) : Nat) c') v wr :=
  QrI.mk (by omega) h2 h3 h4 (by rw [List.length_append, List.length_singleton]; omega) h6
set_option maxRecDepth 100000 in
set_option maxHeartbeats 4000000 in
theorem qword_ReadO (a : Option Addr) (len cap : Nat) (xs : List Int) (w : World) (hr : Reads .u8 w a len cap xs) (hN : len < 10000000) :
    Calls Tryz.prog 122 #[.slice a len cap] w fun e w' => ∃ v, e = .returned v ∧ Own .u8 5 w.heap.size w' v (readW xs) ∧ Below w.heap.size w w' := by
  have HR := hid hr
  clear hr
  go_enter Tryz.func122, Tryz.ntmps122
  go_wp2
  go_step3
  go_wp2_with (at_make; go_must (refine wpList_make0 (n := len) CT8 rfl _ _ rfl rfl rfl (Below.refl _ _) (by omega) ?_); intro v2 w2 ho2 hb2)
  go_step3
  go_wp2
  go_loopg [0, 3] len (fun g s v wr => QrI w 5 len g (readW xs) s v wr)
  case atStart => exact QrI.mk (Nat.le_refl _) HR.out ho2 hb2 (by simp) rfl
  case round =>
    obtain ⟨a', m, c', ys, O, rfl, hml, hry, hown, hbel, hOm, hE⟩ := hrel
    have hys := hry.size
    have hrm := hry.room
    by_cases h0 : 0 < m
    · obtain ⟨g, rfl⟩ : ∃ g, gk = g + 1 := ⟨gk - 1, by omega⟩
      obtain ⟨b, off, y, rfl, hbw, hcw, hy0, hy1, hy⟩ := hry.get8 h0
      rw [Nat.add_zero] at hcw
      have hcr := (hbel.cell (p := ⟨b, off, none⟩) hbw).trans hcw
      have hd := drop1 hy.out.1
      rw [List.drop_zero] at hd
      have hE' := hE.out
      have ht := take_esc (xs := ys) (k := 0) 61 (by omega)
      rw [List.drop_zero] at ht
      have hol : O.length + 1 < 1000000000000 := by omega
      have hT := fun W (hW : Below w.heap.size w W) => take_c (some ⟨b, off, none⟩) m c' ys 0 61 W (hry.below hW) (by decide)
      cases he : escP 61 ys with
      | some v =>
        have hv := escP_bd he
        have hm3 : 3 ≤ m ∧ y = 61 := by
          obtain ⟨_, _, x', a1, b1, r', hxs, hx'⟩ := hv
          refine ⟨by rw [← hys, hxs]; simp, ?_⟩
          rw [hd] at hxs
          have := (List.cons.inj hxs).1
          rw [this, hx']
        obtain ⟨hm3, rfl⟩ := hm3
        have hp := hry.piece (l := 3) (r := m) hm3 (Nat.le_refl _)
        rw [List.take_of_length_le (by omega), Option.map_some, Addr.add_lit] at hp
        rw [he] at ht
        have hE2 : O ++ [v] ++ rdE 61 unQ (ys.drop 3) 0 = readW xs := by
          have h3 := rdE_esc (s := 61) (f := unQ) (x := 61) (r := ys.drop (0 + 1)) (v := v) (by rw [← hd]; exact he)
          rw [← hd, List.drop_drop] at h3
          rw [← hE', h3, List.append_assoc]
          rfl
        have HT : Hid (∀ W, Below w.heap.size w W → Calls Tryz.prog 136 #[.slice (some ⟨b, off, none⟩) m c', .int .i64 0, .int .u8 61] W fun e w' => e = .returned (.tuple #[.int .u8 v, .bool true]) ∧ ∃ n, w' = W.drewN n) := by
          intro W hW
          have h := hT W hW
          have e1 : takeOk ys 0 61 = true := by have := ht.1; simpa using this
          have e2 : takeV ys 0 61 = v := by have := ht.2; simpa using this
          rwa [e1, e2] at h
        have hwf : Hid (∀ z ∈ [v], (Lit.int .u8 z).wf = true) := by intro z hz; simp at hz; subst hz; exact mk_u8 hv.1 hv.2.1
        have HE := hid hE2
        have HQ := hid hp
        have HO := hid hown
        have HB := hid hbel
        clear hT ht hd hE hE' he hv hE2 hp hy hys hown hbel hcw
        have q0 : (0 : Int) < (m : Int) := by omega
        have q1 : (3 : Int) ≤ (m : Int) := by omega
        have q2 : (m : Int) ≤ (c' : Int) := by omega
        have q3 : (3 : Int) ≤ (c' : Int) := by omega
        have q4 : 3 ≤ c' := by omega
        have q5 : ((m : Int) - 3).toNat = m - 3 := by omega
        have q6 : ((c' : Int) - 3).toNat = c' - 3 := by omega
        go_wp2_with (go_at_call 136; (with_reducible refine (HT.out _ HB.out).mono ?_); rintro e w3 ⟨rfl, n, hw3⟩; have hb3 : Below wr.heap.size wr w3 := (by rw [hw3]; exact Below.drewN (Below.refl _ _) n); have ho3 := HO.out.below hb3; have hbel3 := below_then HB.out hb3; clear hw3)
        go_region_law (refine step_pushs (w0 := w) (wr := w3.drew) CT8 [v] rfl (.tmp 30) (.tmp 32) rfl rfl ⟨_, rfl⟩ (Nat.zero_lt_succ _) ho3.drew' (below_drew hbel3) hol hwf.out ?_; intro v4 w4 ho4 hb4)
        all_goals
          go_wp2_with fail
          all_goals
            go_roundg g
            case rel =>
              have hq := HQ.out
              first
                | (rw [if_pos (by assumption), show c' - 3 = 0 by omega] at hq; exact QrI.one (by omega) hml (by decide) hq ho4 hb4 hOm HE)
                | (rw [if_neg (by assumption)] at hq; exact QrI.one (by omega) hml (by decide) hq ho4 hb4 hOm HE)
            case measure => omega
      | none =>
        have hp := hry.piece (l := 1) (r := m) (by omega) (Nat.le_refl _)
        rw [List.take_of_length_le (by omega), Option.map_some, Addr.add_lit] at hp
        rw [he] at ht
        have hE2 : O ++ [unQ y] ++ rdE 61 unQ (ys.drop 1) 0 = readW xs := by
          have h3 := rdE_on (s := 61) (f := unQ) (x := y) (r := ys.drop (0 + 1)) (by rw [← hd]; exact he)
          rw [← hd] at h3
          rw [← hE', h3, List.append_assoc]
          rfl
        have HQ := hid hp
        have HO := hid hown
        have HB := hid hbel
        have q0 : (0 : Int) < (m : Int) := by omega
        have q1 : (1 : Int) ≤ (m : Int) := by omega
        have q2 : (m : Int) ≤ (c' : Int) := by omega
        have q3 : (1 : Int) ≤ (c' : Int) := by omega
        have q4 : 1 ≤ c' := by omega
        have q5 : ((m : Int) - 1).toNat = m - 1 := by omega
        have q6 : ((c' : Int) - 1).toNat = c' - 1 := by omega
        by_cases h95 : y = 95
        · subst h95
          rw [show unQ 95 = 32 from rfl] at hE2
          have hwf : Hid (∀ z ∈ [(32 : Int)], (Lit.int .u8 z).wf = true) := by intro z hz; simp at hz; subst hz; decide
          have HE := hid hE2
          clear hT ht hd hE hE' he hE2 hp hy hys hown hbel hcw
          go_wp2_with fail
          go_region_law (refine step_pushs (w0 := w) (wr := wr.drew) CT8 [32] rfl (.tmp 17) (.tmp 18) rfl rfl ⟨_, rfl⟩ (Nat.zero_lt_succ _) HO.out.drew' (below_drew HB.out) hol hwf.out ?_; intro v4 w4 ho4 hb4)
          all_goals
            go_wp2_with fail
            all_goals
              go_roundg g
              case rel =>
                have hq := HQ.out
                first
                  | (rw [if_pos (by assumption), show c' - 1 = 0 by omega] at hq; exact QrI.one (by omega) hml (by decide) hq ho4 hb4 hOm HE)
                  | (rw [if_neg (by assumption)] at hq; exact QrI.one (by omega) hml (by decide) hq ho4 hb4 hOm HE)
              case measure => omega
        · rw [show unQ y = y by unfold unQ; rw [if_neg h95]] at hE2
          have b95 : (y == 95) = false := by simpa using h95
          have hwf : Hid (∀ z ∈ [y], (Lit.int .u8 z).wf = true) := by intro z hz; simp at hz; subst hz; exact mk_u8 hy0 hy1
          have HE := hid hE2
          by_cases h61 : y = 61
          · subst h61
            have HT : Hid (∀ W, Below w.heap.size w W → Calls Tryz.prog 136 #[.slice (some ⟨b, off, none⟩) m c', .int .i64 0, .int .u8 61] W fun e w' => e = .returned (.tuple #[.int .u8 0, .bool false]) ∧ ∃ n, w' = W.drewN n) := by
              intro W hW
              have h := hT W hW
              have e1 : takeOk ys 0 61 = false := by have := ht.1; simpa using this
              have e2 : takeV ys 0 61 = 0 := by have := ht.2; simpa using this
              rwa [e1, e2] at h
            clear hT ht hd hE hE' he hE2 hp hy hys hown hbel h95 b95
            go_wp2_with (go_at_call 136; (with_reducible refine (HT.out _ HB.out).mono ?_); rintro e w3 ⟨rfl, n, hw3⟩; have hb3 : Below wr.heap.size wr w3 := (by rw [hw3]; exact Below.drewN (Below.refl _ _) n); have ho3 := HO.out.below hb3; have hbel3 := below_then HB.out hb3; have hc3 := (hbel3.cell (p := ⟨b, off, none⟩) hbw).trans hcw; clear hw3)
            go_region_law (refine step_pushs (w0 := w) (wr := w3.drew) CT8 [61] rfl (.tmp 36) (.tmp 40) rfl rfl ⟨_, rfl⟩ (Nat.zero_lt_succ _) ho3.drew' (below_drew hbel3) hol hwf.out ?_; intro v4 w4 ho4 hb4)
            all_goals
              go_wp2_with fail
              all_goals
                go_roundg g
                case rel =>
                  have hq := HQ.out
                  first
                    | (rw [if_pos (by assumption), show c' - 1 = 0 by omega] at hq; exact QrI.one (by omega) hml (by decide) hq ho4 hb4 hOm HE)
                    | (rw [if_neg (by assumption)] at hq; exact QrI.one (by omega) hml (by decide) hq ho4 hb4 hOm HE)
                case measure => omega
          · have b61 : (y == 61) = false := by simpa using h61
            clear hT ht hd hE hE' he hE2 hp hy hys hown hbel hcw h95 h61
            go_wp2_with fail
            go_region_law (refine step_pushs (w0 := w) (wr := wr.drew) CT8 [y] rfl (.tmp 36) (.tmp 40) rfl rfl ⟨_, rfl⟩ (Nat.zero_lt_succ _) HO.out.drew' (below_drew HB.out) hol hwf.out ?_; intro v4 w4 ho4 hb4)
            all_goals
              go_wp2_with fail
              all_goals
                go_roundg g
                case rel =>
                  have hq := HQ.out
                  first
                    | (rw [if_pos (by assumption), show c' - 1 = 0 by omega] at hq; exact QrI.one (by omega) hml (by decide) hq ho4 hb4 hOm HE)
                    | (rw [if_neg (by assumption)] at hq; exact QrI.one (by omega) hml (by decide) hq ho4 hb4 hOm HE)
                case measure => omega
    · obtain rfl : m = 0 := by omega
      obtain rfl : ys = [] := List.eq_nil_of_length_eq_zero hys
      have hE' := hE.out
      rw [rdE, List.append_nil] at hE'
      go_wp2_with fail
      try rw [Exit.noGoto_ret]
      go_ret
      exact ⟨_, rfl, by rw [← hE']; exact hown, hbel⟩
theorem qword_Read (a : Option Addr) (len cap : Nat) (xs : List Int) (w : World) (hr : Reads .u8 w a len cap xs) (hN : len < 10000000) :
    Calls Tryz.prog 122 #[.slice a len cap] w fun e w' => ∃ a' len' cap', e = .returned (.slice a' len' cap') ∧ Reads .u8 w' a' len' cap' (readW xs) ∧ Below w.heap.size w w' := by
  refine (qword_ReadO a len cap xs w hr hN).mono ?_
  rintro e w' ⟨v, rfl, ho, hb⟩
  obtain ⟨a', c', rfl, h⟩ := ho.reads
  exact ⟨_, _, _, rfl, h, hb⟩
end Go.Proofs.YtefhddbbiheadaaGreat

/-! Cat -/
namespace Go.Proofs.YtefhddbbiheadaaGreat
open Go.RowKit
set_option linter.unusedVariables false

end Go.Proofs.YtefhddbbiheadaaGreat
