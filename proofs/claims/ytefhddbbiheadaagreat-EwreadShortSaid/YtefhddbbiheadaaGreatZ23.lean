/-
  Texts of ours laid together: C29i, C32a, Bol.
-/
import Derived.Test.YtefhddbbiheadaaGreatZ22

/-! C29i -/
namespace Go.Proofs.YtefhddbbiheadaaGreat
open Go.RowKit
set_option linter.unusedVariables false

theorem ewform_Is (a : Option Addr) (len cap : Nat) (xs : List Int) (w : World) (hr : Reads .u8 w a len cap xs) (hN : len < 100000) :
    Calls Tryz.prog 104 #[.slice a len cap] w fun e w' => e = .returned (.bool (decide (ewE xs = 0))) ∧ Below w.heap.size w w' := by
  have HP := hid (ewform_Parse a len cap xs w hr hN)
  clear hr
  generalize ewN xs = N at *
  generalize ewT xs = T at *
  generalize ewK xs = K at *
  generalize ewE xs = E at *
  go_enter Tryz.func104, Tryz.ntmps104
  go_wp2_with (go_at_call 47; (with_reducible refine HP.out.mono ?_); rintro e w1 ⟨a1, l1, c1, a2, l2, c2, rfl, r1, r2, hb1⟩; have hw := hb1.alloc hb1.size (.cells #[.slice a1 l1 c1, .int .i64 K, .slice a2 l2 c2] 67))
  go_ret
  exact ⟨ret_bool (by first | rfl | simp), hw⟩
end Go.Proofs.YtefhddbbiheadaaGreat

/-! C32a -/
namespace Go.Proofs.YtefhddbbiheadaaGreat
open Go.RowKit
set_option linter.unusedVariables false

theorem ewtok_isSpace (c : Int) (w : World) : Calls Tryz.prog 99 #[.int .u8 c] w fun e w' => e = .returned (.bool (gp c)) ∧ w = w' := by
  unfold gp
  by_cases h1 : c = 32
  · subst h1
    go_enter Tryz.func99, Tryz.ntmps99
    go_wp2_with fail
    go_ret
    exact ⟨rfl, rfl⟩
  · by_cases h2 : c = 9
    · subst h2
      go_enter Tryz.func99, Tryz.ntmps99
      go_wp2_with fail
      go_ret
      exact ⟨rfl, rfl⟩
    · by_cases h3 : c = 13
      · subst h3
        go_enter Tryz.func99, Tryz.ntmps99
        go_wp2_with fail
        go_ret
        exact ⟨rfl, rfl⟩
      · have e1 : (c == 32) = false := by simpa using h1
        have e2 : (c == 9) = false := by simpa using h2
        have e3 : (c == 13) = false := by simpa using h3
        have e4 : Hid ((c == 10) = decide (c = 32 ∨ c = 9 ∨ c = 13 ∨ c = 10)) := by rw [Hid, Bool.eq_iff_iff]; simp [h1, h2, h3]
        clear h1 h2 h3
        go_enter Tryz.func99, Tryz.ntmps99
        go_wp2_with fail
        go_ret
        exact ⟨ret_bool e4.out, rfl⟩
theorem space_draws (c : Int) (g : Bool) (hg : gp c = g) (w : World) (q : Nat) : Calls Tryz.prog 99 #[.int .u8 c] (w.drewN q) fun e w' => e = .returned (.bool g) ∧ ∃ m, w' = (w.drewN q).drewN m := by
  subst hg
  refine (ewtok_isSpace c (w.drewN q)).mono ?_
  rintro e w' ⟨rfl, rfl⟩
  exact ⟨rfl, 0, rfl⟩
theorem ewtok_isOther (c : Int) (w : World) : Calls Tryz.prog 103 #[.int .u8 c] w fun e w' => e = .returned (.bool (noG c)) ∧ w = w' := by
  have H := hid (ewtok_isSpace c w)
  unfold noG
  generalize gp c = g at *
  cases g
  all_goals
    go_enter Tryz.func103, Tryz.ntmps103
    go_wp2_with (go_at_call 99; (with_reducible refine H.out.mono ?_); rintro e w' ⟨rfl, rfl⟩)
    go_ret
    exact ⟨rfl, rfl⟩
set_option maxHeartbeats 1000000 in
theorem idx_noG (a : Option Addr) (len cap : Nat) (xs : List Int) (w : World) (hr : Reads .u8 w a len cap xs) :
    Calls Tryz.prog 100 #[.slice a len cap, .func (.func 103) #[] #[]] w fun e w' => e = .returned (.int .i64 (idxI noG xs)) ∧ w = w' := by
  have hl := hr.len_le
  have HR := hid hr
  clear hr
  go_enter Tryz.func100, Tryz.ntmps100
  go_wp2
  go_loop [8] (fun i => ∃ k : Nat, k ≤ len ∧ i = .int .i64 k ∧ Hid ((xs.take k).any noG = false)) (fun i => len - (intOf i).toNat)
  case atStart => exact ⟨0, Nat.zero_le _, rfl, rfl⟩
  case round =>
    obtain ⟨k, hk, rfl, hn⟩ := hrel
    by_cases hlt : k < len
    · obtain ⟨b, off, x, rfl, _, hc, h0, h1, hx⟩ := HR.out.get8 hlt
      cases hs : noG x
      · have H := hid hs
        go_wp2_with (go_at_call 103; (with_reducible refine (ewtok_isOther _ _).mono ?_); rintro e w' ⟨rfl, rfl⟩; rw [hs])
        go_round
        case rel => exact ⟨k + 1, by omega, by go_num, none_yes hx.out.2 hn.out H.out⟩
        case measure => simp [intOf]; omega
      · have H := hid hs
        go_wp2_with (go_at_call 103; (with_reducible refine (ewtok_isOther _ _).mono ?_); rintro e w' ⟨rfl, rfl⟩; rw [hs])
        go_ret
        exact ⟨ret_int (idx_hit hx.out.1 hn.out H.out).symm, rfl⟩
    · go_wp2
      go_ret
      exact ⟨ret_int (by rw [← HR.out.all (show len ≤ k by omega)]; exact (idx_none hn.out).symm), rfl⟩
theorem has_noG (a : Option Addr) (len cap : Nat) (xs : List Int) (w : World) (hr : Reads .u8 w a len cap xs) :
    Calls Tryz.prog 102 #[.slice a len cap, .func (.func 103) #[] #[]] w fun e w' => e = .returned (.bool (xs.any noG)) ∧ w = w' := by
  have hip := idx_pos noG xs
  have HI := hid (idx_noG a len cap xs w hr)
  generalize idxI noG xs = I at *
  have HP := hid hip
  clear hip hr
  go_enter Tryz.func102, Tryz.ntmps102
  go_wp2_with (go_at_call 100; (with_reducible refine HI.out.mono ?_); rintro e w' ⟨rfl, rfl⟩)
  go_ret
  exact ⟨ret_bool HP.out, rfl⟩
set_option maxHeartbeats 1000000 in
theorem ewtok_oneLen1 (c : Int) (g : Bool) (B : Nat) (w : World) (hB : w.cell? ⟨B, 0, none⟩ = some (.bool g)) :
    Calls Tryz.prog 101 #[.int .u8 c, .pointer (some ⟨B, 0, none⟩)] w fun e w' => e = .returned (.bool (otK g c)) ∧ ∃ n, w' = w.drewN n := by
  obtain ⟨z, hz⟩ : ∃ z, gp c = z := ⟨_, rfl⟩
  have K1 := hid (fun n => space_draws c z hz w n)
  unfold otK
  rw [hz]
  clear hz
  go_enter Tryz.func101, Tryz.ntmps101
  cases z <;> cases g
  all_goals
    go_wp2_with fail
    go_quiet ((go_at_call 99; with_reducible exact Calls.quiet_of (K1.out _)))
    go_wp2_with fail
    go_ret
    exact ⟨rfl, _, rfl⟩
set_option maxHeartbeats 1000000 in
theorem idx_turn (g : Bool) (B : Nat) (a : Option Addr) (len cap : Nat) (xs : List Int) (w : World) (hr : Reads .u8 w a len cap xs) (hB : w.cell? ⟨B, 0, none⟩ = some (.bool g)) :
    Calls Tryz.prog 100 #[.slice a len cap, .func (.func 101) #[] #[.pointer (some ⟨B, 0, none⟩)]] w fun e w' => e = .returned (.int .i64 (idxI (otK g) xs)) ∧ ∃ n, w' = w.drewN n := by
  have hl := hr.len_le
  have HR := hid hr
  have HO := hid (fun c m => ewtok_oneLen1 c g B (w.drewN m) hB)
  clear hr hB
  go_enter Tryz.func100, Tryz.ntmps100
  go_wp2
  go_loopw [8] (fun i wr => ∃ k m : Nat, k ≤ len ∧ i = .int .i64 k ∧ Hid ((xs.take k).any (otK g) = false) ∧ Hid (wr = w.drewN m)) (fun i _ => len - (intOf i).toNat)
  case atStart => exact ⟨0, 0, Nat.zero_le _, rfl, rfl, rfl⟩
  case round =>
    obtain ⟨k, m, hk, rfl, hn, hW⟩ := hrel
    have hb : Below w.heap.size w wr := by rw [hW.out]; exact Below.drewN (Below.refl _ _) m
    have hnx := hid (fun q => show wr.drewN q = w.drewN (m + q) by rw [hW.out, World.drewN_drewN])
    by_cases hlt : k < len
    · obtain ⟨b, off, x, rfl, _, hc, h0, h1, hx⟩ := (HR.out.below hb).get8 hlt
      have HX : Hid (Calls Tryz.prog 101 #[.int .u8 x, .pointer (some ⟨B, 0, none⟩)] wr fun e w' => e = .returned (.bool (otK g x)) ∧ ∃ n, w' = wr.drewN n) := by
        rw [hW.out]; exact HO.out x m
      clear hW hb
      cases hs : otK g x
      · have H := hid hs
        go_wp2_with (go_at_call 101; (with_reducible refine HX.out.mono ?_); rintro e w' ⟨rfl, q, rfl⟩; rw [hs])
        go_roundw
        case rel => exact ⟨k + 1, m + q, by omega, by go_num, none_yes hx.out.2 hn.out H.out, hnx.out q⟩
        case measure => simp [intOf]; omega
      · have H := hid hs
        go_wp2_with (go_at_call 101; (with_reducible refine HX.out.mono ?_); rintro e w' ⟨rfl, q, rfl⟩; rw [hs])
        go_ret
        exact ⟨ret_int (idx_hit hx.out.1 hn.out H.out).symm, _, hnx.out q⟩
    · have HE : Hid (∃ n, wr = w.drewN n) := ⟨m, hW.out⟩
      clear hb hnx hW
      go_wp2
      go_ret
      exact ⟨ret_int (by rw [← HR.out.all (show len ≤ k by omega)]; exact (idx_none hn.out).symm), HE.out⟩
set_option maxHeartbeats 1000000 in
theorem ewtok_oneLen (a : Option Addr) (len cap : Nat) (xs : List Int) (w : World) (hr : Reads .u8 w a len cap xs) (hl : 0 < len) :
    Calls Tryz.prog 74 #[.slice a len cap] w fun e w' => e = .returned (.int .i64 (turnN xs)) ∧ Below w.heap.size w w' := by
  have HR := hid hr
  have hsz := hr.size
  obtain ⟨b, off, x, rfl, hbw, hc, h0, h1, hx⟩ := hr.get8 hl
  have hti := turn_idx hx.out.1
  have HS0 := ewtok_isSpace x w
  rw [Nat.add_zero] at hc
  generalize gp x = g at *
  have HS := hid HS0
  have HI := hid (idx_turn g w.heap.size _ len cap xs (w.alloc (.cells #[.bool g] 4)) (HR.out.below ((Below.refl _ _).alloc (Nat.le_refl _) _)) ((Blk.new w 4 #[.bool g]).cell (i := 0) rfl))
  have HAL := hid ((Below.refl w.heap.size w).alloc (Nat.le_refl _) (.cells #[.bool g] 4))
  rw [hsz] at hti
  have z1 : (0 : Int) < (len : Int) := by omega
  clear hr hx HS0 hsz
  rcases hti with ⟨hI, hT⟩ | ⟨hI0, hI⟩
  · rw [hI] at HI
    rw [hT]
    clear hI hT
    go_enter Tryz.func74, Tryz.ntmps74
    go_wp2_with (first
      | (go_at_call 99; (with_reducible refine HS.out.mono ?_); rintro e w' ⟨rfl, rfl⟩)
      | (go_at_call 100; (with_reducible refine HI.out.mono ?_); rintro e w' ⟨rfl, q, rfl⟩))
    go_ret
    exact ⟨rfl, Below.drewN HAL.out _⟩
  · rw [hI] at HI hI0
    generalize turnN xs = T at *
    clear hI
    have z2 : ¬ (T : Int) < 0 := by omega
    go_enter Tryz.func74, Tryz.ntmps74
    go_wp2_with (first
      | (go_at_call 99; (with_reducible refine HS.out.mono ?_); rintro e w' ⟨rfl, rfl⟩)
      | (go_at_call 100; (with_reducible refine HI.out.mono ?_); rintro e w' ⟨rfl, q, rfl⟩))
    go_ret
    exact ⟨rfl, Below.drewN HAL.out _⟩
set_option maxHeartbeats 1000000 in
theorem ewtok_Kind (a : Option Addr) (len cap : Nat) (xs : List Int) (w : World) (hr : Reads .u8 w a len cap xs) (hN : len < 100000) :
    Calls Tryz.prog 76 #[.slice a len cap] w fun e w' => e = .returned (.int .i64 (kdW xs)) ∧ Below w.heap.size w w' := by
  by_cases h0 : len = 0
  · subst h0
    obtain rfl : xs = [] := List.eq_nil_of_length_eq_zero hr.size
    rw [kd_nil]
    clear hr
    go_enter Tryz.func76, Tryz.ntmps76
    go_wp2_with fail
    go_ret
    exact ⟨rfl, Below.refl _ _⟩
  · have hne : xs ≠ [] := fun h => h0 (by rw [← hr.size, h]; rfl)
    rw [kd_cases hne]
    have H1 := has_noG a len cap xs w hr
    have H2 := ewform_Is a len cap xs w hr hN
    have z0 : ((len : Int) == 0) = false := by simp; omega
    clear hr hne h0
    generalize ewE xs = E at *
    cases hn : xs.any noG
    · rw [hn] at H1
      have K1 := hid H1
      clear H1 H2 hn
      go_enter Tryz.func76, Tryz.ntmps76
      go_wp2_with (go_at_call 102; (with_reducible refine K1.out.mono ?_); rintro e w' ⟨rfl, rfl⟩)
      go_ret
      exact ⟨rfl, Below.refl _ _⟩
    · rw [hn] at H1
      have K1 := hid H1
      rw [if_pos rfl]
      by_cases hE : E = 0
      · rw [decide_eq_true hE] at H2
        rw [if_pos hE]
        have K2 := hid H2
        clear H1 H2 hn hE
        go_enter Tryz.func76, Tryz.ntmps76
        go_wp2_with (first
          | (go_at_call 102; (with_reducible refine K1.out.mono ?_); rintro e w' ⟨rfl, rfl⟩)
          | (go_at_call 104; (with_reducible refine K2.out.mono ?_); rintro e w2 ⟨rfl, hb2⟩))
        go_ret
        exact ⟨rfl, hb2⟩
      · rw [decide_eq_false hE] at H2
        rw [if_neg hE]
        have K2 := hid H2
        clear H1 H2 hn hE
        go_enter Tryz.func76, Tryz.ntmps76
        go_wp2_with (first
          | (go_at_call 102; (with_reducible refine K1.out.mono ?_); rintro e w' ⟨rfl, rfl⟩)
          | (go_at_call 104; (with_reducible refine K2.out.mono ?_); rintro e w2 ⟨rfl, hb2⟩))
        go_ret
        exact ⟨rfl, hb2⟩
end Go.Proofs.YtefhddbbiheadaaGreat

/-! Bol -/
namespace Go.Proofs.YtefhddbbiheadaaGreat
open Go.RowKit
set_option linter.unusedVariables false

/-- The slice value v holds these yes and no in a row of the call's own. -/
def OwnB (e : TypeId) (base : Nat) (w : World) (v : Value) (bs : List Bool) : Prop :=
  w.ownsRow base e 1 v bs.length (bs.map Value.bool)
theorem OwnB.shape {e : TypeId} {base : Nat} {w : World} {g n cap : Nat} {bs : List Bool} (h : OwnB e base w (.slice (some ⟨g, 0, none⟩) n cap) bs) : bs.length = n := by
  rcases h.2 with ⟨h', _⟩ | ⟨_, _, _, h', _⟩
  · simp at h'
  · simp only [Value.slice.injEq] at h'; exact h'.2.1.symm
theorem OwnB.lt {e : TypeId} {base : Nat} {w : World} {v : Value} {bs : List Bool} (h : OwnB e base w v bs) : ∀ j, v.ownBlock = some j → base ≤ j ∧ j < w.heap.size := World.ownsRow.lt h
theorem OwnB.below {e : TypeId} {base : Nat} {w w' : World} {v : Value} {bs : List Bool} (h : OwnB e base w v bs) (hb : Below w.heap.size w w') : OwnB e base w' v bs :=
  World.ownsRow.kept (row := none) h ⟨hb.os, hb.tape, hb.output, hb.size, fun k hk _ => hb.block k hk⟩ (by
    cases hv : v.ownBlock with
    | none => exact .inl rfl
    | some g => exact .inr (by simp))
theorem OwnB.store {e : TypeId} {base : Nat} {w : World} {g n cap : Nat} {bs : List Bool} (h : OwnB e base w (.slice (some ⟨g, 0, none⟩) n cap) bs) (j : Nat) (y : Bool) :
    OwnB e base (w.setCell ⟨g, j, none⟩ (.bool y)) (.slice (some ⟨g, 0, none⟩) n cap) (bs.set j y) := by
  have hn := h.shape
  subst hn
  have := (World.ownsRow.stored h j (.bool y)).1
  rw [← List.map_set] at this
  unfold OwnB
  simpa using this
theorem OwnB.at {e : TypeId} {base : Nat} {w : World} {g n cap : Nat} {bs : List Bool} (h : OwnB e base w (.slice (some ⟨g, 0, none⟩) n cap) bs) {j : Nat} (hj : j < n) :
    (∃ y, w.cell? ⟨g, j, none⟩ = some (.bool y)) ∧ w.frozen? ⟨g, j, none⟩ = false := by
  have hn := h.shape
  subst hn
  refine ⟨⟨bs[j], ?_⟩, World.ownsRow.frozenAt h j⟩
  rw [World.ownsRow.cellAt h j (by omega)]
  simp [hj]
theorem OwnB.rdB {e : TypeId} {base : Nat} {w : World} {v : Value} {bs : List Bool} (h : OwnB e base w v bs) : ∃ a c, v = .slice a bs.length c ∧ RdB w a bs.length c bs := by
  rcases h.2 with ⟨rfl, hn⟩ | ⟨g, cap, cur, rfl, hg, hb, hnc, hcm, hcs, htk⟩
  · exact ⟨none, 0, by rw [hn], rfl, by omega, Nat.zero_le _, fun hl => absurd hl (by omega)⟩
  · refine ⟨_, _, rfl, rfl, hnc, hcm, fun hl => ⟨g, 0, rfl, (World.ownsRow.lt h g rfl).2, fun i hi => ?_⟩⟩
    rw [Nat.zero_add, World.ownsRow.cellAt h i (by omega)]
    simp [hi]
section
variable {P : Program} {ops : Array Oper} {rest : List Oper} {o : Oper} {a : Act} {Q : Exit → Act → World → Prop}
/-- 'make([]bool, n)'. -/
theorem wpList_zerosB (hgd : o.guard = none) {t e : TypeId} (l c : Operand) (ho : o.op = Op.makeSlice t l c)
    {by_ : Nat} (ht : P.underlying t = some (.slice e)) (hinf : (P.info? e).map (fun i => (i.zero, i.size, i.bytes)) = some (some (.bool false), 1, by_)) (hby : by_ ≤ 1000)
    {w0 wr : World} {kl kc : IntKind} {n : Nat} (hl : a.eval l = .int kl n) (hc : a.eval c = .int kc n) (hbel : Below w0.heap.size w0 wr) (hlen : n < 100000000000)
    (h : ∀ g w', OwnB e w0.heap.size w' (.slice (some ⟨g, 0, none⟩) n n) (List.replicate n false) → Below w0.heap.size w0 w' → wpList P ops Q rest (a.put o.dst (.slice (some ⟨g, 0, none⟩) n n)) w') :
    wpList P ops Q (o :: rest) a wr := by
  obtain ⟨i0, hi, hz0, hz1, hz2⟩ : ∃ i, P.info? e = some i ∧ i.zero = some (.bool false) ∧ i.size = 1 ∧ i.bytes = by_ := by
    cases hh : P.info? e with
    | none => rw [hh] at hinf; cases hinf
    | some i =>
      rw [hh] at hinf
      simp only [Option.map_some, Option.some.injEq, Prod.mk.injEq] at hinf
      exact ⟨i, rfl, hinf.1, hinf.2.1, hinf.2.2⟩
  have hmul : i0.bytes * n ≤ 1000 * n := Nat.mul_le_mul_right _ (by omega)
  refine wpList_make_full _ hgd l c t ho w0.heap.size e i0 (.bool false) 1 ht hi hz0 hz1 kl kc n n n hl hc rfl rfl (by omega) (by unfold maxLen; omega) hbel.size ?_
  intro w' hown hgrow
  refine h _ w' ?_ (hbel.grown hgrow hbel.size (fun j hj => by cases hj))
  have e1 : (madeCells (Value.bool false).cells (n * 1)).toList = (List.replicate n false).map Value.bool := by
    rw [Nat.mul_one, List.map_replicate]
    exact toList_madeCells_one _ _
  rw [e1] at hown
  unfold OwnB
  simpa using hown
end
/-- A list that is filled from the front. -/
theorem fill_bools (f : Nat → Bool) (n j : Nat) (hj : j < n) :
    ((List.range j).map f ++ List.replicate (n - j) false).set j (f j) = (List.range (j + 1)).map f ++ List.replicate (n - (j + 1)) false := by
  have h1 : ((List.range j).map f).length = j := by rw [List.length_map, List.length_range]
  rw [List.set_append_right j _ (by omega), h1, Nat.sub_self, List.range_succ, List.map_append, List.append_assoc]
  congr 1
  obtain ⟨m, hm⟩ : ∃ m, n - j = m + 1 := ⟨n - j - 1, by omega⟩
  rw [hm, show n - (j + 1) = m by omega, List.replicate_succ]
  rfl
theorem fill_no (f : Nat → Bool) (n j : Nat) (hj : j < n) (hf : f j = false) :
    (List.range j).map f ++ List.replicate (n - j) false = (List.range (j + 1)).map f ++ List.replicate (n - (j + 1)) false := by
  rw [List.range_succ, List.map_append, List.append_assoc]
  congr 1
  obtain ⟨m, hm⟩ : ∃ m, n - j = m + 1 := ⟨n - j - 1, by omega⟩
  rw [hm, show n - (j + 1) = m by omega, List.replicate_succ, List.map_cons, List.map_nil, hf]
  rfl
end Go.Proofs.YtefhddbbiheadaaGreat
