/-
  Contracts of package qread's functions: what a line keeps, its escapes, where a break lies, what a line is read as.
-/
import Derived.Test.YtpdoehdmeojmkaaDoorSuf
import Derived.Test.YtpdoehdmeojmkaaDoorTrm
import Derived.Test.YtpdoehdmeojmkaaDoorIdxA
import Derived.Test.YtpdoehdmeojmkaaDoorC02
import Derived.Test.YtpdoehdmeojmkaaDoorC18a
import Derived.Test.YtpdoehdmeojmkaaDoorFirst
namespace Go.Proofs.YtpdoehdmeojmkaaDoor
open Go.RowKit
set_option linter.unusedVariables false

/-! ### what a line keeps -/
theorem softB_at (l : List Int) : softB l = decide (0 < (trimE l).length ∧ (trimE l).getD ((trimE l).length - 1) 0 = 61) := by
  unfold softB
  rcases List.eq_nil_or_concat (trimE l) with h | ⟨v, x, h⟩
  · rw [h]; rfl
  · rw [List.concat_eq_append] at h
    rw [h, List.getLast?_concat, Bool.eq_iff_iff]
    simp
theorem lineB_len (l : List Int) : (lineB l).length = if 0 < (trimE l).length ∧ (trimE l).getD ((trimE l).length - 1) 0 = 61 then (trimE l).length - 1 else (trimE l).length := by
  have h := softB_at l
  unfold lineB
  by_cases hc : 0 < (trimE l).length ∧ (trimE l).getD ((trimE l).length - 1) 0 = 61
  · rw [decide_eq_true hc] at h
    rw [if_pos h, if_pos hc, List.length_dropLast]
  · rw [decide_eq_false hc] at h
    rw [if_neg (by rw [h]; decide), if_neg hc]
theorem keepq (a : Option Addr) (cap : Nat) (xs : List Int) (a2 : Option Addr) (W : World) (m : Nat) (hm : m = (trimE xs).length) (h1 : Reads .u8 W a m cap (trimE xs)) (h2 : Reads .u8 W a2 1 1 [61]) (M : Nat) (hM : M = (lineB xs).length) (S : Bool) (hS : S = softB xs) :
    Calls Tryd.prog 36 #[.slice a m cap, .slice a2 1 1] W fun e w' => e = .returned (.tuple #[.slice a M cap, .bool S]) ∧ W = w' := by
  have h := bytes_CutSuffix1 a m cap (trimE xs) a2 1 61 W h1 h2
  rw [hM, hS, lineB_len, softB_at, ← hm]
  exact h
theorem qread_keep (a : Option Addr) (len cap : Nat) (xs : List Int) (w : World) (hr : Reads .u8 w a len cap xs) :
    Calls Tryd.prog 22 #[.slice a len cap] w fun e w' => (∃ m, e = .returned (.tuple #[.slice a m cap, .bool (softB xs)]) ∧ m = (lineB xs).length) ∧ Below w.heap.size w w' := by
  have hsz := hr.size
  have hp := hr.pre (n := (trimE xs).length) (by have := trimE_le xs; omega)
  rw [← trimE_pre] at hp
  obtain ⟨T, hT⟩ : ∃ T, T = (trimE xs).length := ⟨_, rfl⟩
  obtain ⟨M, hM⟩ : ∃ M, M = (lineB xs).length := ⟨_, rfl⟩
  obtain ⟨S, hS⟩ : ∃ S, S = softB xs := ⟨_, rfl⟩
  rw [← hT] at hp
  have HP := hid hp
  have HTR := hid (bytes_TrimRightB a len cap xs w hr)
  have HQ := hid (fun a2 W h1 h2 => keepq a cap xs a2 W T hT h1 h2 M hM S hS)
  rw [← hS]
  have HT := hid hT
  have HM := hid hM
  clear hp hr hT hM hS hsz
  go_enter Tryd.func22, Tryd.ntmps22
  go_wp2_with (first
    | (go_at_call 37; (with_reducible refine HTR.out.mono ?_); rintro e w1 ⟨⟨m1, rfl, hm1⟩, hb1⟩; rw [← HT.out] at hm1; subst hm1; have hb1' := below_then hb1 ((Below.refl w1.heap.size w1).alloc (Nat.le_refl _) (.cells #[.int .u8 61] 5)); have HP1 := hid (HP.out.below hb1'); have h2 : Hid (Reads .u8 (w1.alloc (.cells #[.int .u8 61] 5)) (some ⟨w1.heap.size, 0, none⟩) 1 1 [61]) := hid (Reads.lit .u8 5 w1 [61] (by simp [maxLen]) (by decide)))
    | (go_at_call 36; (with_reducible refine (HQ.out _ _ HP1.out h2.out).mono ?_); rintro e w' ⟨rfl, rfl⟩))
  go_ret2
  exact ⟨⟨_, rfl, HM.out⟩, hb1'⟩

/-! ### its escapes -/
set_option maxRecDepth 100000 in
set_option maxHeartbeats 1000000 in
theorem qread_escapes (a : Option Addr) (len cap : Nat) (xs : List Int) (w : World) (hr : Reads .u8 w a len cap xs) :
    Calls Tryd.prog 24 #[.slice a len cap] w fun e w' => e = .returned (.int .i64 (escN xs)) ∧ ∃ n, w' = w.drewN n := by
  have HR := hid hr
  have hl := hr.len_le
  have hsz := hr.size
  have hle := escN_le xs
  obtain ⟨N, hN⟩ : ∃ N, N = escN xs := ⟨_, rfl⟩
  rw [← hN] at hle ⊢
  clear hr
  go_enter Tryd.func24, Tryd.ntmps24
  go_wp2
  go_loopw [3, 9] (fun s i wr => ∃ k j n : Nat, k ≤ len ∧ i = .int .i64 k ∧ s = .int .i64 j ∧ Hid (j + escN (xs.drop k) = N) ∧ j ≤ N ∧ wr = w.drewN n) (fun _ i _ => len - (intOf i).toNat)
  case atStart => exact ⟨0, 0, 0, Nat.zero_le _, rfl, rfl, by unfold Hid; rw [List.drop_zero, Nat.zero_add, hN], Nat.zero_le _, rfl⟩
  case round =>
    obtain ⟨k, j, n, hk, rfl, rfl, hn, hj, rfl⟩ := hrel
    by_cases hlt : k < len
    · have hT := take_c a len cap xs k 61 (w.drewN n) (HR.out.below (Below.drewN (Below.refl _ _) n)) (WalkArith.wf_i64 (by omega))
      have ht := take_esc (xs := xs) (k := k) 61 (by omega)
      have hd : xs.drop k = xs[k] :: xs.drop (k + 1) := List.drop_eq_getElem_cons (by omega)
      have hn' := hn.out
      rw [hd, escN] at hn'
      rw [← hd, ← ht.1] at hn'
      clear hn ht hd
      cases hok : takeOk xs k 61
      · rw [hok] at hT hn'
        have HT := hid hT
        have HN := hid (show j + escN (xs.drop (k + 1)) = N by simpa using hn')
        clear hT hn' hok
        go_wp2_with (go_at_call 27; (with_reducible refine HT.out.mono ?_); rintro e w' ⟨rfl, n2, rfl⟩)
        go_roundw
        case rel => exact ⟨k + 1, j, n + n2, by omega, by go_num, rfl, HN, hj, rfl⟩
        case measure => simp [intOf]; omega
      · rw [hok] at hT hn'
        have HT := hid hT
        have hn2 : (j + 1) + escN (xs.drop (k + 1)) = N := by simp at hn'; omega
        have HN := hid hn2
        clear hT hn' hok
        have hj2 : j + 1 ≤ N := by omega
        clear hn2
        go_wp2_with (go_at_call 27; (with_reducible refine HT.out.mono ?_); rintro e w' ⟨rfl, n2, rfl⟩)
        go_roundw
        case rel => exact ⟨k + 1, j + 1, n + n2, by omega, by go_num, by go_num, HN, hj2, rfl⟩
        case measure => simp [intOf]; omega
    · have hn' := hn.out
      rw [List.drop_of_length_le (by omega), escN, Nat.add_zero] at hn'
      go_wp2_with fail
      go_ret
      exact ⟨ret_int (by rw [hn']), n, rfl⟩

/-! ### where the first break lies -/
set_option maxRecDepth 100000 in
set_option maxHeartbeats 1000000 in
theorem qread_firstBreak (a : Option Addr) (len cap : Nat) (xs : List Int) (w : World) (hr : Reads .u8 w a len cap xs) (hN : len < 1000000) (hT : Tabs w) (hm : Mx w) :
    Calls Tryd.prog 35 #[.slice a len cap] w fun e w' => (∃ f g : Nat, e = .returned (.tuple #[.int .i64 f, .int .i64 g]) ∧ f = lnN xs ∧ g = lnN xs + brN xs) ∧ Below w.heap.size w w' := by
  have hI := bytes_IndexAny a len cap xs w hr hT hm
  have hl := hr.len_le
  have hrm := hr.room
  have hsz := hr.size
  rcases idx_brk xs with ⟨h1, h2⟩ | ⟨h1, hlt, c, r, hd, hcr⟩
  · rw [h1] at hI
    have HI := hid hI
    have hb : brN xs = 0 := by
      unfold brN
      rw [h2, List.drop_of_length_le (Nat.le_refl _)]; rfl
    rw [hb, h2, hsz]
    clear hI hr hb h2 h1
    go_enter Tryd.func35, Tryd.ntmps35
    go_wp2_with (go_at_call 49; (with_reducible refine HI.out.mono ?_); rintro e w1 ⟨rfl, hb1⟩)
    go_ret2
    exact ⟨⟨_, _, rfl, rfl, rfl⟩, hb1⟩
  · rw [h1] at hI
    have hp := hr.piece (l := lnN xs) (r := len) (by omega) (Nat.le_refl _)
    rw [List.take_of_length_le (by omega), if_neg (by omega)] at hp
    obtain ⟨b, off, x, rfl, _⟩ := hr.get8 (i := lnN xs) (by omega)
    rw [Option.map_some, Addr.add_lit] at hp
    have hbr : brN xs = if decide (brkN (xs.drop (lnN xs)) = 2) = true then 2 else 1 := by
      unfold brN
      rw [hd, brkN_cons]
      by_cases h5 : c = 13 ∧ r.head? = some 10
      · rw [if_pos h5]; rfl
      · rw [if_neg h5, if_pos hcr]; rfl
    have hfl : Hid (∀ W, Below w.heap.size w W → Calls Tryd.prog 50 #[.slice (some ⟨b, off + lnN xs, none⟩) (len - lnN xs) (cap - lnN xs), .slice (some ⟨W.heap.size, 0, none⟩) 2 2] (W.alloc (.cells #[.int .u8 13, .int .u8 10] 5 (2, 3))) fun e w' => e = .returned (.bool (decide (brkN (xs.drop (lnN xs)) = 2))) ∧ W.alloc (.cells #[.int .u8 13, .int .u8 10] 5 (2, 3)) = w') :=
      fun W hW => prefq _ _ _ _ W (hp.below hW) rfl
    rw [hbr]
    obtain ⟨k, hk⟩ : ∃ k, k = lnN xs := ⟨_, rfl⟩
    rw [← hk] at hI hfl hlt ⊢
    have HI := hid hI
    clear hI hp hr hbr hd hk h1
    generalize decide (brkN (xs.drop k) = 2) = F at hfl ⊢
    cases F
    all_goals
      go_enter Tryd.func35, Tryd.ntmps35
      go_wp2_with (first
        | (go_at_call 49; (with_reducible refine HI.out.mono ?_); rintro e w1 ⟨rfl, hb1⟩; have HH := hid (hfl.out w1 hb1); have kc := convB (P := Tryd.prog) (t := 22) (e := 5) Tryd.underlying22 Tryd.underlying5 w1 w1.heap.size rfl; have hb2 := below_then hb1 ((Below.refl w1.heap.size w1).alloc (Nat.le_refl _) (.cells #[.int .u8 13, .int .u8 10] 5 (2, 3))))
        | (go_at_call 50; (with_reducible refine HH.out.mono ?_); rintro e w' ⟨rfl, rfl⟩))
      go_ret2
      first
        | exact ⟨⟨_, _, rfl, rfl, rfl⟩, hb2⟩
        | exact ⟨rfl, hb2⟩

/-! ### what a line is read as -/
/-- Where the loop stands: what is left, what is read so far. -/
def LnI (w0 : World) (e : TypeId) (len : Nat) (F : List Int) (s v : Value) (wr : World) : Prop :=
  ∃ a' m c' ys O, s = .slice a' m c' ∧ m ≤ len ∧ Reads .u8 w0 a' m c' ys ∧ Own .u8 e w0.heap.size wr v O ∧ Below w0.heap.size w0 wr ∧ O.length + m ≤ len ∧ Hid (O ++ rdE 61 idI ys 0 = F)
theorem LnI.mk {w0 : World} {e : TypeId} {len : Nat} {F : List Int} {v : Value} {wr : World} {a' : Option Addr} {m c' : Nat} {ys O : List Int} (h1 : m ≤ len) (h2 : Reads .u8 w0 a' m c' ys) (h3 : Own .u8 e w0.heap.size wr v O) (h4 : Below w0.heap.size w0 wr) (h5 : O.length + m ≤ len) (h6 : Hid (O ++ rdE 61 idI ys 0 = F)) : LnI w0 e len F (.slice a' m c') v wr :=
  ⟨a', m, c', ys, O, rfl, h1, h2, h3, h4, h5, h6⟩
set_option maxRecDepth 100000 in
set_option maxHeartbeats 4000000 in
theorem qread_LineO (a : Option Addr) (len cap : Nat) (xs : List Int) (w : World) (hr : Reads .u8 w a len cap xs) (hN : len < 1000000) :
    Calls Tryd.prog 16 #[.slice a len cap] w fun e w' => ∃ v, e = .returned (.tuple #[v, .bool (softB xs)]) ∧ Own .u8 5 w.heap.size w' v (lineR xs) ∧ Below w.heap.size w w' := by
  have hsz := hr.size
  have hle := lineB_le xs
  have hlr := lineR_le xs
  have hp := hr.pre (n := (lineB xs).length) (by omega)
  rw [← lineB_pre] at hp
  have HK := hid (qread_keep a len cap xs w hr)
  obtain ⟨M, hM⟩ : ∃ M, M = (lineB xs).length := ⟨_, rfl⟩
  rw [← hM] at hp hle
  rw [hsz] at hle hlr
  have HP := hid hp
  have HM := hid hM
  obtain ⟨S, hS⟩ : ∃ S, S = softB xs := ⟨_, rfl⟩
  rw [← hS] at HK ⊢
  clear hr hp hM hS
  go_enter Tryd.func16, Tryd.ntmps16
  go_wp2_with (first
    | (go_at_call 22; (with_reducible refine HK.out.mono ?_); rintro e w1 ⟨⟨m1, rfl, hm1⟩, hb1⟩; rw [← HM.out] at hm1; subst hm1)
    | (at_make; go_must (refine wpList_make0 CT8 rfl _ _ rfl rfl rfl hb1 (by omega) ?_); intro v2 w2 ho2 hb2))
  go_loopw [4, 6] (fun s v wr => LnI w 5 len (lineR xs) s v wr) (fun s _ _ => lenV s)
  case atStart => exact LnI.mk hle HP.out ho2 hb2 (by simpa using hle) rfl
  case round =>
    obtain ⟨a', m, c', ys, O, rfl, hml, hry, hown, hbel, hOm, hE⟩ := hrel
    have hys := hry.size
    have hrm := hry.room
    by_cases h0 : 0 < m
    · obtain ⟨b, off, y, rfl, hbw, hcw, hy0, hy1, hy⟩ := hry.get8 h0
      rw [Nat.add_zero] at hcw
      have hd := drop_one hy.out.1
      rw [List.drop_zero] at hd
      have hE' := hE.out
      have hT := fun W (hW : Below w.heap.size w W) => take_c (some ⟨b, off, none⟩) m c' ys 0 61 W (hry.below hW) (by decide)
      have ht := take_esc (xs := ys) (k := 0) 61 (by omega)
      rw [List.drop_zero] at ht
      have hol : O.length + 1 < 1000000000000 := by omega
      cases he : escP 61 ys with
      | some v =>
        have hv := escP_bd he
        have hm3 : 3 ≤ m := by
          obtain ⟨_, _, x', a1, b1, r', hxs, _⟩ := hv
          rw [← hys, hxs]; simp
        have hp := hry.piece (l := 3) (r := m) hm3 (Nat.le_refl _)
        rw [List.take_of_length_le (by omega), Option.map_some, Addr.add_lit] at hp
        rw [he] at ht
        have hE2 : O ++ [v] ++ rdE 61 idI (ys.drop 3) 0 = lineR xs := by
          have h3 := rdE_esc (s := 61) (f := idI) (x := y) (r := ys.drop (0 + 1)) (v := v) (by rw [← hd]; exact he)
          rw [← hd, List.drop_drop] at h3
          rw [← hE', h3, List.append_assoc]
          rfl
        have HT : Hid (∀ W, Below w.heap.size w W → Calls Tryd.prog 27 #[.slice (some ⟨b, off, none⟩) m c', .int .i64 0, .int .u8 61] W fun e w' => e = .returned (.tuple #[.int .u8 v, .bool true]) ∧ ∃ n, w' = W.drewN n) := by
          intro W hW
          have h := hT W hW
          have e1 : takeOk ys 0 61 = true := by have := ht.1; simpa using this
          have e2 : takeV ys 0 61 = v := by have := ht.2; simpa using this
          rwa [e1, e2] at h
        have hwf : Hid (∀ z ∈ [v], (Lit.int .u8 z).wf = true) := by intro z hz; simp at hz; subst hz; exact mk_u8 hv.1 hv.2.1
        have HE := hid hE2
        have HQ := hid hp
        have HO := hid hown
        have HB := hid hbel
        clear hT ht hd hE hE' he hv hE2 hp hy hys hown hbel hcw
        have q1 : (3 : Int) ≤ (m : Int) := by omega
        have q2 : (m : Int) ≤ (c' : Int) := by omega
        have q3 : (3 : Int) ≤ (c' : Int) := by omega
        have q4 : 3 ≤ c' := by omega
        have q5 : ((m : Int) - 3).toNat = m - 3 := by omega
        have q6 : ((c' : Int) - 3).toNat = c' - 3 := by omega
        go_wp2_with (go_at_call 27; (with_reducible refine (HT.out _ HB.out).mono ?_); rintro e w3 ⟨rfl, n, hw3⟩; have hb3 : Below wr.heap.size wr w3 := (by rw [hw3]; exact Below.drewN (Below.refl _ _) n); have ho3 := HO.out.below hb3; have hbel3 := below_then HB.out hb3; clear hw3)
        go_region_law (refine step_pushs (w0 := w) (wr := w3.drew) CT8 [v] rfl (.tmp 26) (.tmp 28) rfl rfl ⟨_, rfl⟩ (Nat.zero_lt_succ _) ho3.drew' (below_drew hbel3) hol hwf.out ?_; intro v4 w4 ho4 hb4)
        all_goals
          go_wp2_with fail
          all_goals
            go_roundw
            case rel =>
              have hq := HQ.out
              first
                | (rw [if_pos (by assumption), show c' - 3 = 0 by omega] at hq; exact LnI.mk (by omega) hq ho4 hb4 (by simp; omega) HE)
                | (rw [if_neg (by assumption)] at hq; exact LnI.mk (by omega) hq ho4 hb4 (by simp; omega) HE)
            case measure => simp [lenV]; omega
      | none =>
        have hp := hry.piece (l := 1) (r := m) (by omega) (Nat.le_refl _)
        rw [List.take_of_length_le (by omega), Option.map_some, Addr.add_lit] at hp
        rw [he] at ht
        have hE2 : O ++ [y] ++ rdE 61 idI (ys.drop 1) 0 = lineR xs := by
          have h3 := rdE_on (s := 61) (f := idI) (x := y) (r := ys.drop (0 + 1)) (by rw [← hd]; exact he)
          rw [← hd] at h3
          rw [← hE', h3, List.append_assoc]
          rfl
        have HT : Hid (∀ W, Below w.heap.size w W → Calls Tryd.prog 27 #[.slice (some ⟨b, off, none⟩) m c', .int .i64 0, .int .u8 61] W fun e w' => e = .returned (.tuple #[.int .u8 0, .bool false]) ∧ ∃ n, w' = W.drewN n) := by
          intro W hW
          have h := hT W hW
          have e1 : takeOk ys 0 61 = false := by have := ht.1; simpa using this
          have e2 : takeV ys 0 61 = 0 := by have := ht.2; simpa using this
          rwa [e1, e2] at h
        have hwf : Hid (∀ z ∈ [y], (Lit.int .u8 z).wf = true) := by intro z hz; simp at hz; subst hz; exact mk_u8 hy0 hy1
        have HE := hid hE2
        have HQ := hid hp
        have HO := hid hown
        have HB := hid hbel
        clear hT ht hd hE hE' he hE2 hp hy hys hown hbel
        have q0 : (0 : Int) < (m : Int) := by omega
        have q1 : (1 : Int) ≤ (m : Int) := by omega
        have q2 : (m : Int) ≤ (c' : Int) := by omega
        have q3 : (1 : Int) ≤ (c' : Int) := by omega
        have q4 : 1 ≤ c' := by omega
        have q5 : ((m : Int) - 1).toNat = m - 1 := by omega
        have q6 : ((c' : Int) - 1).toNat = c' - 1 := by omega
        go_wp2_with (go_at_call 27; (with_reducible refine (HT.out _ HB.out).mono ?_); rintro e w3 ⟨rfl, n, hw3⟩; have hb3 : Below wr.heap.size wr w3 := (by rw [hw3]; exact Below.drewN (Below.refl _ _) n); have ho3 := HO.out.below hb3; have hbel3 := below_then HB.out hb3; have hc3 := (hbel3.cell (p := ⟨b, off, none⟩) hbw).trans hcw; clear hw3)
        go_region_law (refine step_pushs (w0 := w) (wr := w3.drew) CT8 [y] rfl (.tmp 32) (.tmp 36) rfl rfl ⟨_, rfl⟩ (Nat.zero_lt_succ _) ho3.drew' (below_drew hbel3) hol hwf.out ?_; intro v4 w4 ho4 hb4)
        all_goals
          go_wp2_with fail
          all_goals
            go_roundw
            case rel =>
              have hq := HQ.out
              first
                | (rw [if_pos (by assumption), show c' - 1 = 0 by omega] at hq; exact LnI.mk (by omega) hq ho4 hb4 (by simp; omega) HE)
                | (rw [if_neg (by assumption)] at hq; exact LnI.mk (by omega) hq ho4 hb4 (by simp; omega) HE)
            case measure => simp [lenV]; omega
    · obtain rfl : m = 0 := by omega
      obtain rfl : ys = [] := List.eq_nil_of_length_eq_zero hys
      have hE' := hE.out
      rw [rdE, List.append_nil] at hE'
      go_wp2_with fail
      go_ret2
      exact ⟨_, rfl, by rw [← hE']; exact hown, hbel⟩
end Go.Proofs.YtpdoehdmeojmkaaDoor
