/-
  Texts of ours laid together: Loo, R29c, R32.
-/
import Derived.ArgAppend
import Derived.Test.YtkaldjekjgecbaaZ25

/-! Loo -/
namespace Go.Proofs.Ytkaldjekjgecbaa
open Go.RowKit
set_option linter.unusedVariables false

theorem below_setCells {D : Nat} {w : World} (b : Nat) (hb : D ≤ b) : ∀ (vs : List Value) (o : Nat) (W : World), Below D w W → Below D w (W.setCells b o vs)
  | [], _, _, h => h
  | v :: r, o, W, h => below_setCells b hb r (o + 1) _ (h.setCell (p := ⟨b, o, none⟩) hb v)
theorem size_setCells' (b : Nat) : ∀ (vs : List Value) (o : Nat) (W : World), (W.setCells b o vs).heap.size = W.heap.size
  | [], _, _ => rfl
  | v :: r, o, W => (size_setCells' b r (o + 1) _).trans (size_set W b o v)
theorem some_setCells (b : Nat) (vs : List Value) (o : Nat) (w : World) (hh : ∀ j, j < vs.length → (w.cell? ⟨b, o + j, none⟩).isSome = true) (x : Nat) (hx : (w.cell? ⟨b, x, none⟩).isSome = true) : ((w.setCells b o vs).cell? ⟨b, x, none⟩).isSome = true := by
  by_cases h : o ≤ x ∧ x < o + vs.length
  · obtain ⟨j, rfl⟩ : ∃ j, x = o + j := ⟨x - o, by omega⟩
    rw [World.cell?_setCells_in b vs o w hh j (by omega)]; rfl
  · rw [World.cell?_setCells_out b vs o w _ (fun _ _ => by dsimp only; omega)]; exact hx
/-- A row in a block of the call's own, whatever that is: its cells are there, and may be written. -/
structure Lw (k : IntKind) (base : Nat) (w : World) (g n c : Nat) (xs : List Int) : Prop where
  lo : base ≤ g
  lt : g < w.heap.size
  len : xs.length = n
  room : n ≤ c
  top : c ≤ maxLen
  wf : ∀ x ∈ xs, (Lit.int k x).wf = true
  here : ∀ i, i < c → (w.cell? ⟨g, i, none⟩).isSome = true
  free : ∀ i, i < c → w.frozen? ⟨g, i, none⟩ = false
  cell : ∀ i, i < n → w.cell? ⟨g, i, none⟩ = some (.int k (xs.getD i 0))
theorem Lw.reads {k : IntKind} {base : Nat} {w : World} {g n c : Nat} {xs : List Int} (h : Lw k base w g n c xs) : Reads k w (some ⟨g, 0, none⟩) n c xs :=
  ⟨h.len, h.room, h.top, h.wf, fun hl => ⟨g, 0, rfl, h.lt, fun i hi => by rw [Nat.zero_add]; exact h.cell i hi⟩⟩
theorem Lw.below {k : IntKind} {base : Nat} {w w' : World} {g n c : Nat} {xs : List Int} (h : Lw k base w g n c xs) (hb : Below w.heap.size w w') : Lw k base w' g n c xs :=
  ⟨h.lo, Nat.lt_of_lt_of_le h.lt hb.size, h.len, h.room, h.top, h.wf, fun i hi => by rw [World.cell?_of_block (hb.block g h.lt)]; exact h.here i hi, fun i hi => by rw [World.frozen?_of_block (hb.block g h.lt)]; exact h.free i hi, fun i hi => by rw [World.cell?_of_block (hb.block g h.lt)]; exact h.cell i hi⟩
/-- The call's own row, of either make. -/
def LO (k : IntKind) (e : TypeId) (base : Nat) (w : World) (v : Value) (xs : List Int) : Prop :=
  Own k e base w v xs ∨ ∃ g n c, v = .slice (some ⟨g, 0, none⟩) n c ∧ Lw k base w g n c xs
theorem LO.reads {k : IntKind} {e : TypeId} {base : Nat} {w : World} {v : Value} {xs : List Int} (h : LO k e base w v xs) : ∃ a n c, v = .slice a n c ∧ Reads k w a n c xs := by
  rcases h with h | ⟨g, n, c, rfl, h⟩
  · obtain ⟨a, c, rfl, r⟩ := h.reads
    exact ⟨_, _, _, rfl, r⟩
  · exact ⟨_, _, _, rfl, h.reads⟩
theorem LO.below {k : IntKind} {e : TypeId} {base : Nat} {w w' : World} {v : Value} {xs : List Int} (h : LO k e base w v xs) (hb : Below w.heap.size w w') : LO k e base w' v xs := by
  rcases h with h | ⟨g, n, c, rfl, h⟩
  · exact .inl (h.below hb)
  · exact .inr ⟨g, n, c, rfl, h.below hb⟩
section
variable {P : Program} {ops : Array Oper} {rest : List Oper} {o : Oper} {a : Act} {Q : Exit → Act → World → Prop} {t e : TypeId} {k : IntKind} {by_ : Nat}
theorem run_moreL (ST : SliceT P t e k by_) (ty : TypeId) {W : World} {v : Value} {xs ys : List Int} {ao : Option Addr} {m c : Nat} {B0 : Nat}
    (hown : LO k e B0 W v xs) (hB : B0 ≤ W.heap.size) (hr : Reads k W ao m c ys) (hlen : xs.length + m < 1000000000000) :
    ∃ a' n' c' w', (Builtin.append_ #[t, t] ty #[v, .slice ao m c]).run P W = .ok (.slice a' n' c') w' ∧ LO k e B0 w' (.slice a' n' c') (xs ++ ys) ∧ Below B0 W w' := by
  rcases hown with hown | ⟨g, n, cg, rfl, h⟩
  · obtain ⟨a', n', c', w', hrun, h1, h2, _⟩ := run_moreO (P := P) ST ty hown hB hr hlen
    exact ⟨a', n', c', w', hrun, .inl h1, (Below.refl B0 W).grown h2 hB (fun j hj => (hown.1.lt j hj).1)⟩
  · obtain ⟨i, hi, hz0, hz1, hz2⟩ := info_parts ST.info
    have hsm := ST.small
    have hsz := hr.size
    have hln := h.len
    by_cases hm : m = 0
    · subst hm
      obtain rfl : ys = [] := List.eq_nil_of_length_eq_zero hsz
      refine ⟨some ⟨g, 0, none⟩, n, cg, W, ?_, .inr ⟨g, n, cg, rfl, by rw [List.append_nil]; exact h⟩, Below.refl _ _⟩
      have hroom := h.room
      cases ao <;> simp [Builtin.append_, run_underlying ST.under, sizeOf, typeInfo, hi, Builtin.lenOf, Builtin.firstCells, hroom, storeCells, loadCells, loadCellsFrom]
    · obtain ⟨b, off, rfl, hb, hc⟩ := hr.cell (by omega)
      have hnews : ∀ (j : Nat) (u : Value), (ys.map (Value.int k))[j]? = some u → W.cell? ((⟨b, off, none⟩ : Addr).add j) = some u := by
        intro j u hj
        have hjl : j < ys.length := by
          have := (List.getElem?_eq_some_iff.1 hj).1
          simpa using this
        rw [Addr.add_lit, hc j (by omega)]
        simp only [List.getElem?_map, List.getElem?_eq_getElem hjl, Option.map_some, Option.some.injEq] at hj
        subst hj
        simp [hjl]
      have hwf : ∀ z ∈ xs ++ ys, (Lit.int k z).wf = true := fun z hz => by
        rcases List.mem_append.1 hz with hz | hz
        · exact h.wf z hz
        · exact hr.wf z hz
      by_cases hroom : n + m ≤ cg
      · have hrun := run_append_room_cells (P := P) W t ty e i ST.under hi g 0 n cg ⟨b, off, none⟩ m c (ys.map (Value.int k)) (by simp [hsz, hz1]) hnews (ints_oneCell _ _) hroom
          (fun j hj => h.here _ (by simp [hz1] at hj ⊢; omega)) (fun j hj => h.free _ (by simp [hz1] at hj ⊢; omega))
        refine ⟨_, _, _, _, hrun, .inr ⟨g, n + m, cg, rfl, h.lo, by rw [size_setCells']; exact h.lt, by rw [List.length_append, hln, hsz], hroom, h.top, hwf, fun i hi => ?_, fun i hi => ?_, fun i hi => ?_⟩, below_setCells g h.lo _ _ _ (Below.refl _ _)⟩
        · exact some_setCells g _ _ _ (fun j hj => h.here _ (by simp [hz1] at hj ⊢; omega)) i (h.here i hi)
        · rw [World.frozen?_setCells]; exact h.free i hi
        · rw [hz1, Nat.zero_add, Nat.mul_one]
          by_cases hin : i < n
          · rw [World.cell?_setCells_out g _ _ _ _ (fun _ _ => .inl hin), h.cell i hin, List.getD_eq_getElem?_getD, List.getD_eq_getElem?_getD, List.getElem?_append_left (by omega)]
          · obtain ⟨j, rfl⟩ : ∃ j, i = n + j := ⟨i - n, by omega⟩
            rw [World.cell?_setCells_in g _ _ _ (fun j hj => h.here _ (by simp at hj; omega)) j (by simp; omega), List.getD_eq_getElem?_getD, List.getElem?_append_right (by omega)]
            simp [hln, show j < ys.length by omega]
      · have hmul : (n + m) * by_ ≤ (n + m) * 8 := Nat.mul_le_mul_left _ hsm
        obtain ⟨v', w', hrun, r1, r2⟩ := run_append_arg_grows (P := P) W t ty e i (.int k 0) 1 by_ ST.under hi hz0 hz1 hz2 rfl (by decide) ⟨g, 0, none⟩ n cg (xs.map (Value.int k)) (by simp [hln]) (fun j u hj => by
            have hjl : j < xs.length := by
              have := (List.getElem?_eq_some_iff.1 hj).1
              simpa using this
            rw [Addr.add_lit, Nat.zero_add, h.cell j (by omega)]
            simp only [List.getElem?_map, List.getElem?_eq_getElem hjl, Option.map_some, Option.some.injEq] at hj
            subst hj
            simp [hjl]) ⟨b, off, none⟩ m c (ys.map (Value.int k)) (by simp [hsz]) hnews (by omega) (by unfold maxLen; omega) (by omega)
        have hO : Own k e W.heap.size w' v' (xs ++ ys) := ⟨by simpa [hsz, hln] using r1, hwf⟩
        obtain ⟨a', n', c', rfl⟩ := hO.shape
        exact ⟨a', n', c', w', hrun, .inl (own_mono hO hB), (Below.refl B0 W).grown r2 hB (fun j hj => by cases hj)⟩
theorem wpList_moreL (ST : SliceT P t e k by_) (hgd : o.guard = none) (s x : Operand) (ho : o.op = .call { callee := .builtin .append, args := #[s, x], argTypes := #[t, t] })
    {W : World} {v : Value} {xs ys : List Int} {ao : Option Addr} {m c : Nat} {B0 : Nat} (hs : a.eval s = v) (hx : a.eval x = .slice ao m c)
    (hown : LO k e B0 W v xs) (hB : B0 ≤ W.heap.size) (hr : Reads k W ao m c ys) (hlen : xs.length + m < 1000000000000)
    (h : ∀ a' n' c' w', LO k e B0 w' (.slice a' n' c') (xs ++ ys) → Below B0 W w' → wpList P ops Q rest (a.put o.dst (.slice a' n' c')) w') : wpList P ops Q (o :: rest) a W := by
  obtain ⟨a', n', c', w', hrun, h1, h2⟩ := run_moreL (P := P) ST o.type hown hB hr hlen
  refine wpList_plain hgd fun K hK => ?_
  unfold Oper.wp
  simp [execOp, ho, resolve, invoke, builtin, hs, hx, hrun, Result.andThen]
  exact hK _ _ (h _ _ _ _ h1 h2)
end
/-- '[]byte(s)'. -/
theorem conv_strL {P : Program} {src dst e : TypeId} (hs : P.underlying src = some .string) (hd : P.underlying dst = some (.slice e)) (he : P.underlying e = some (.int .u8)) (w : World) (s : ByteArray) (hl : s.size ≤ 1000000000000) :
    ∃ w' C, (convert src dst (.string s)).run P w = .ok (.slice (some ⟨w.heap.size, 0, none⟩) s.size C) w' ∧ Lw .u8 w.heap.size w' w.heap.size s.size C (octB' s) ∧ Below w.heap.size w w' := by
  have hge := grownCap_ge w s.size 0 e
  have hle := grownCap_le_maxLen w s.size 0 e (by unfold maxLen; omega)
  generalize hC : grownCap w s.size 0 e = C at *
  have hrun := run_bytes_of_string w src dst e s hs hd he
  rw [hC] at hrun
  have hsize : (bytesRow s C).size = C := by
    simp only [bytesRow, Array.size_append, Array.size_map, Array.size_replicate]
    show s.data.size + (C - s.size) = C
    have : s.data.size = s.size := rfl
    omega
  have hN : (w.drew.alloc (.cells (bytesRow s C) e ((bytesRow s C).size, (bytesRow s C).size + 1))).heap[w.heap.size]? = some (.cells (bytesRow s C) e ((bytesRow s C).size, (bytesRow s C).size + 1)) := heap_alloc_new w.drew _
  have hlen : (octB' s).length = s.size := by unfold octB'; rw [List.length_map, Array.length_toList]; rfl
  refine ⟨_, _, hrun, ⟨Nat.le_refl _, by simp, hlen, hge, hle, fun z hz => ?_, fun i hi => ?_, fun i hi => ?_, fun i hi => ?_⟩, (Below.refl _ _).drew.alloc (Nat.le_refl _) _⟩
  · obtain ⟨b, _, rfl⟩ := List.mem_map.1 hz
    exact mk_u8 (by omega) (by have := b.toNat_lt; omega)
  · rw [cell_of_row _ _ _ _ _ _ hN, Array.getElem?_eq_getElem (by omega)]; rfl
  · generalize bytesRow s C = cur at hN hsize ⊢
    unfold World.frozen?
    dsimp only
    rw [hN]
    simp
    omega
  · have hbs : i < s.data.size := hi
    have hj' : i < (s.data.map fun b => Value.int .u8 b.toNat).size := by simpa using hbs
    rw [cell_of_row _ _ _ _ _ _ hN]
    unfold bytesRow
    rw [Array.getElem?_append_left hj', Array.getElem?_map, Array.getElem?_eq_getElem hbs, List.getD_eq_getElem?_getD]
    simp only [octB', List.getElem?_map, Array.getElem?_toList, Array.getElem?_eq_getElem hbs, Option.map_some, Option.getD_some]
end Go.Proofs.Ytkaldjekjgecbaa

/-! R29c -/
namespace Go.Proofs.Ytkaldjekjgecbaa
open Go.RowKit
set_option linter.unusedVariables false

end Go.Proofs.Ytkaldjekjgecbaa

/-! R32 -/
namespace Go.Proofs.Ytkaldjekjgecbaa
open Go.RowKit
set_option linter.unusedVariables false

theorem tw_at (p : Int → Bool) : ∀ (r : List Int) (m : Nat) (c : Int), m ≤ (r.takeWhile p).length → r[m]? = some c → p c = decide (m < (r.takeWhile p).length)
  | [], m, c, _, h => by simp at h
  | x :: r, m, c, hm, h => by
    rw [List.takeWhile_cons] at hm ⊢
    cases hx : p x
    · rw [hx] at hm
      simp only [Bool.false_eq_true, if_false, List.length_nil] at hm ⊢
      obtain rfl : m = 0 := by omega
      simp at h
      subst h
      simpa using hx
    · rw [hx] at hm
      simp only [if_true, List.length_cons] at hm ⊢
      cases m with
      | zero => simp at h; subst h; simpa using hx
      | succ m =>
        have := tw_at p r m c (by omega) (by simpa using h)
        rw [this, decide_eq_decide]
        omega
theorem turn_at {s : List Int} {m : Nat} {x c : Int} (hx : s[0]? = some x) (hm : m ≤ turnN s) (hc : s[m]? = some c) : (gp c == gp x) = decide (m < turnN s) := by
  cases s with
  | nil => simp at hx
  | cons y r =>
    simp at hx
    subst hx
    rw [turn_cons] at hm ⊢
    cases m with
    | zero =>
      simp at hc
      subst hc
      simp
      omega
    | succ m =>
      have := tw_at (fun c => gp c == gp y) r m c (by omega) (by simpa using hc)
      rw [this, decide_eq_decide]
      omega
theorem ref32_gap (c : Int) (w : World) : Calls Try.prog 19 #[.int .u8 c] w fun e w' => e = .returned (.bool (gp c)) ∧ w = w' := by
  unfold gp
  by_cases h1 : c = 32
  · subst h1
    go_enter Try.func19, Try.ntmps19
    go_wp2_with fail
    go_ret
    exact ⟨rfl, rfl⟩
  · by_cases h2 : c = 9
    · subst h2
      go_enter Try.func19, Try.ntmps19
      go_wp2_with fail
      go_ret
      exact ⟨rfl, rfl⟩
    · by_cases h3 : c = 13
      · subst h3
        go_enter Try.func19, Try.ntmps19
        go_wp2_with fail
        go_ret
        exact ⟨rfl, rfl⟩
      · have e1 : (c == 32) = false := by simpa using h1
        have e2 : (c == 9) = false := by simpa using h2
        have e3 : (c == 13) = false := by simpa using h3
        have e4 : Hid ((c == 10) = decide (c = 32 ∨ c = 9 ∨ c = 13 ∨ c = 10)) := by rw [Hid, Bool.eq_iff_iff]; simp [h1, h2, h3]
        clear h1 h2 h3
        go_enter Try.func19, Try.ntmps19
        go_wp2_with fail
        go_ret
        exact ⟨ret_bool e4.out, rfl⟩
set_option maxRecDepth 100000 in
set_option maxHeartbeats 2000000 in
theorem ref32_Kind (a : Option Addr) (len cap : Nat) (xs : List Int) (w : World) (hr : Reads .u8 w a len cap xs) (hN : len < 1000000) :
    Calls Try.prog 13 #[.slice a len cap] w fun e w' => e = .returned (.int .i64 (kdW xs)) ∧ Below w.heap.size w w' := by
  have hl := hr.len_le
  have hP0 := ref29_Parse a len cap xs w hr (by omega)
  unfold ParP at hP0
  have HP := hid hP0
  have HR := hid hr
  have hsz := hr.size
  have hkd : kdW xs = if (decide (0 < len) && xs.all gp) = true then 1 else if ewE xs = 0 then 3 else 2 := by
    unfold kdW
    have : (xs ≠ [] ∧ xs.all gp = true) ↔ (decide (0 < len) && xs.all gp) = true := by
      rw [Bool.and_eq_true, decide_eq_true_eq, ← hsz, List.length_pos_iff]
    by_cases h : xs ≠ [] ∧ xs.all gp = true
    · rw [if_pos h, if_pos (this.1 h)]
    · rw [if_neg h, if_neg (fun hh => h (this.2 hh))]
  obtain ⟨D, hD⟩ : ∃ D, D = kdW xs := ⟨_, rfl⟩
  rw [← hD] at hkd ⊢
  have HD := hid hkd
  clear hr hP0 hkd hsz hD
  generalize ewN xs = N at *
  generalize ewT xs = T at *
  generalize ewK xs = K at *
  generalize ewE xs = E at *
  go_enter Try.func13, Try.ntmps13
  go_wp2_with fail
  go_loop [3, 4] (fun v i => ∃ (k : Nat) (b : Bool), k ≤ len ∧ i = .int .i64 k ∧ v = .bool b ∧ Hid (b = (decide (0 < len) && (xs.take k).all gp))) (fun _ i => len - (intOf i).toNat)
  case atStart => exact ⟨0, decide (0 < len), Nat.zero_le _, rfl, by simp, by simp [Hid]⟩
  case round =>
    obtain ⟨k, b, hk, rfl, rfl, hb⟩ := hrel
    by_cases hlt : k < len
    · obtain ⟨b', off, x, rfl, _, hc, h0, h1, hx⟩ := HR.out.get8 hlt
      have z1 : (k : Int) < (len : Int) := by omega
      cases b
      · have HB : Hid (false = (decide (0 < len) && (xs.take (k + 1)).all gp)) := by
          rw [Hid, hx.out.2, List.all_append, ← Bool.and_assoc, ← hb.out]; rfl
        clear hx hb
        go_wp2_with fail
        go_round
        case rel => exact ⟨k + 1, false, by omega, by go_num, rfl, HB⟩
        case measure => simp [intOf]; omega
      · have HB : Hid (gp x = (decide (0 < len) && (xs.take (k + 1)).all gp)) := by
          rw [Hid, hx.out.2, List.all_append, ← Bool.and_assoc, ← hb.out]; simp
        clear hx hb
        go_wp2_with (go_at_call 19; (with_reducible refine (ref32_gap _ _).mono ?_); rintro e w' ⟨rfl, rfl⟩)
        go_round
        case rel => exact ⟨k + 1, gp x, by omega, by go_num, rfl, HB⟩
        case measure => simp [intOf]; omega
    · obtain rfl : k = len := by omega
      have z1 : ¬ (k : Int) < (k : Int) := by omega
      have hb' := hb.out
      rw [HR.out.all (Nat.le_refl _)] at hb'
      have HB := hid hb'
      clear hb hb'
      cases b
      · by_cases hE : E = 0
        · subst hE
          go_wp2_with (go_at_call 25; (with_reducible refine HP.out.mono ?_); rintro e w1 ⟨a1, l1, c1, a2, l2, c2, rfl, r1, r2, hb1⟩)
          go_ret
          exact ⟨ret_int (by rw [HD.out, ← HB.out]; rfl), hb1.alloc hb1.size _⟩
        · have hE' : (E == 0) = false := by simpa using hE
          have HE := hid hE
          clear hE
          go_wp2_with (go_at_call 25; (with_reducible refine HP.out.mono ?_); rintro e w1 ⟨a1, l1, c1, a2, l2, c2, rfl, r1, r2, hb1⟩)
          go_ret
          exact ⟨ret_int (by rw [HD.out, ← HB.out, if_neg Bool.false_ne_true, if_neg HE.out]), hb1.alloc hb1.size _⟩
      · go_wp2_with fail
        go_ret
        exact ⟨ret_int (by rw [HD.out, ← HB.out]; rfl), Below.refl _ _⟩
set_option maxRecDepth 100000 in
set_option maxHeartbeats 1000000 in
theorem ref32_Hidden (a : Option Addr) (n c : Nat) (ps : List (Int × List Int)) (i : Nat) (w : World) (hr : RwsG shPc w a n c ps) (hi : i < n) (hN : n < 1000000) :
    Calls Try.prog 16 #[.slice a n c, .int .i64 i] w fun e w' => e = .returned (.bool (hidP (ps.map Prod.fst) i)) ∧ w = w' := by
  have hsz := hr.size
  have hrm := hr.room
  have key : ∀ (j : Nat) (k : Int) (x : List Int), ps[j]? = some (k, x) → (ps.map Prod.fst).getD j 0 = k := by
    intro j k x h
    rw [List.getD_eq_getElem?_getD, List.getElem?_map, h]; rfl
  obtain ⟨b, off, k0, x0, ai, li, ci, rfl, hbw, hc0, _, _, hg0, _⟩ := hr.get2 hi
  have e0 := key _ _ _ hg0
  obtain ⟨R, hR⟩ : ∃ R, R = hidP (ps.map Prod.fst) i := ⟨_, rfl⟩
  have hR2 := hR
  unfold hidP at hR2
  rw [e0, List.length_map, hsz] at hR2
  rw [← hR]
  have q0 : (0 : Int) ≤ (i : Int) := by omega
  have q1 : (i : Int) < (n : Int) := by omega
  by_cases h1 : k0 = 1
  · subst h1
    by_cases h2 : 0 < i
    · by_cases h3 : i + 1 < n
      · obtain ⟨b', off', k1, x1, ai1, li1, ci1, hb', _, hc1, _, _, hg1, _⟩ := hr.get2 (i := i - 1) (by omega)
        cases hb'
        obtain ⟨b', off', k2, x2, ai2, li2, ci2, hb', _, hc2, _, _, hg2, _⟩ := hr.get2 (i := i + 1) h3
        cases hb'
        rw [key _ _ _ hg1, key _ _ _ hg2] at hR2
        have p0 : (0 : Int) < (i : Int) := by omega
        have p1 : (i : Int) + 1 < (n : Int) := by omega
        have p2 : IntKind.i64.wrap ((i : Int) + 1) = (i : Int) + 1 := IntWalk.i64_in _ (by omega)
        have p3 : (0 : Int) ≤ (i : Int) - 1 := by omega
        have p4 : (i : Int) - 1 < (n : Int) := by omega
        have p5 : ((i : Int) - 1).toNat = i - 1 := by omega
        have p6 : ((i : Int) + 1).toNat = i + 1 := by omega
        have p7 : (0 : Int) ≤ (i : Int) + 1 := by omega
        have HRR := hid hR2
        clear hR hR2 hg0 hg1 hg2 hr key e0 hsz
        by_cases h4 : k1 = 3
        · subst h4
          have HV : Hid ((k2 == 3) = R) := by
            rw [Hid, HRR.out, decide_eq_true (rfl : (1 : Int) = 1), decide_eq_true h2, decide_eq_true h3, decide_eq_true (rfl : (3 : Int) = 3), Bool.eq_iff_iff]; simp
          go_enter Try.func16, Try.ntmps16
          go_wp2_with fail
          go_ret
          exact ⟨ret_bool HV.out, rfl⟩
        · have h4' : (k1 == 3) = false := by simpa using h4
          have HV : Hid (false = R) := by
            rw [Hid, HRR.out, decide_eq_false h4]; simp
          clear h4
          go_enter Try.func16, Try.ntmps16
          go_wp2_with fail
          go_ret
          exact ⟨ret_bool HV.out, rfl⟩
      · have HV : Hid (false = R) := by
          rw [Hid, hR2, decide_eq_false h3]; simp
        have p0 : (0 : Int) < (i : Int) := by omega
        have p1 : ¬ (i : Int) + 1 < (n : Int) := by omega
        have p2 : IntKind.i64.wrap ((i : Int) + 1) = (i : Int) + 1 := IntWalk.i64_in _ (by omega)
        clear hR hR2 hg0 hr key e0 hsz
        go_enter Try.func16, Try.ntmps16
        go_wp2_with fail
        go_ret
        exact ⟨ret_bool HV.out, rfl⟩
    · obtain rfl : i = 0 := by omega
      have HV : Hid (false = R) := by
        rw [Hid, hR2, decide_eq_false h2]; simp
      rw [Nat.zero_mul, Nat.add_zero] at hc0
      clear hR hR2 hg0 hr key e0 hsz
      go_enter Try.func16, Try.ntmps16
      go_wp2_with fail
      go_ret
      exact ⟨ret_bool HV.out, rfl⟩
  · have h1' : (k0 == 1) = false := by simpa using h1
    have HV : Hid (false = R) := by
      rw [Hid, hR2, decide_eq_false h1]; simp
    clear hR hR2 hg0 hr key e0 hsz h1
    go_enter Try.func16, Try.ntmps16
    go_wp2_with fail
    go_ret
    exact ⟨ret_bool HV.out, rfl⟩
end Go.Proofs.Ytkaldjekjgecbaa
