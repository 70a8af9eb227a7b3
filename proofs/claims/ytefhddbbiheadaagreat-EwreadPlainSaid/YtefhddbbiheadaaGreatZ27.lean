/-
  Texts of ours laid together: Sto, C10a, C12.
-/
import Derived.Deep.WholeRow
import Derived.Test.YtefhddbbiheadaaGreatRows
import Derived.Test.YtefhddbbiheadaaGreatZ26

/-! Sto -/
namespace Go.Proofs.YtefhddbbiheadaaGreat
open Go.RowKit
set_option linter.unusedVariables false

theorem ints_one (k : IntKind) (xs : List Int) : ((xs.map (Value.int k)).toArray).all (·.oneCell') = true := by
  rw [Array.all_eq_true_iff_forall_mem]
  intro v hv
  simp only [List.mem_toArray, List.mem_map] at hv
  obtain ⟨x, _, rfl⟩ := hv
  rfl
theorem wpList_storeNew {P : Program} {ops : Array Oper} {rest : List Oper} {op : Oper} {a : Act} {w0 w : World} {Q : Exit → Act → World → Prop} (k : IntKind) (xs : List Int) (ty : TypeId) (x y : Operand) (hgd : op.guard = none) (ho : op.op = .store ty x y)
    (c : Array Value) (hw : w = w0.alloc (.cells c ty)) (hx : a.eval x = .pointer (some ⟨w0.heap.size, 0, none⟩)) (hy : a.eval y = .agg (xs.map (Value.int k)).toArray)
    (hi : (P.info? ty).map (·.size) = some xs.length) (hs : c.size = xs.length)
    (h : wpList P ops Q rest (a.put op.dst undef) (w0.alloc (.cells (xs.map (Value.int k)).toArray ty))) : wpList P ops Q (op :: rest) a w := by
  subst hw
  refine wpList_plain hgd fun K hK => ?_
  have hrun := run_storeVar_new (P := P) w0 ty c (xs.map (Value.int k)).toArray (by simpa using hi) (by simpa using hs) (ints_one k xs)
  unfold Oper.wp execOp
  simp only [ho, hx, hy, Instr.storeAt, Instr.sureAddr, Sem.run_bind, Sem.run_pure, Result.andThen_ok, hrun]
  exact hK _ _ h
/-- A literal of the call's own may be written on. -/
theorem Own.ofLit (k : IntKind) (e : TypeId) (w : World) (xs : List Int) (hm : xs.length ≤ maxLen) (hwf : ∀ x ∈ xs, (Lit.int k x).wf = true) :
    Own k e w.heap.size (w.alloc (.cells (xs.map (Value.int k)).toArray e)) (.slice (some ⟨w.heap.size, 0, none⟩) xs.length xs.length) xs := by
  refine ⟨⟨by simp, .inr ⟨w.heap.size, xs.length, (xs.map (Value.int k)).toArray, rfl, Nat.le_refl _, heap_alloc_last w _, Nat.le_refl _, hm, by simp, ?_⟩⟩, hwf⟩
  rw [List.toList_toArray, Nat.mul_one]
  exact List.take_of_length_le (by simp)
/-- A row of the call's own that is full: the block's cells. -/
theorem Own.whole {k : IntKind} {e : TypeId} {base : Nat} {w : World} {g n : Nat} {xs : List Int} (h : Own k e base w (.slice (some ⟨g, 0, none⟩) n n) xs) (hn : 0 < n) : w.heap[g]? = some (.cells (xs.map (Value.int k)).toArray e (0, 0)) := by
  obtain ⟨⟨hl, h1⟩, _⟩ := h
  rcases h1 with ⟨h', _⟩ | ⟨g', cap, cur, hv, _, hg, _, _, hcs, htk⟩
  · simp at h'
  · simp only [Value.slice.injEq, Option.some.injEq, Addr.mk.injEq, and_true] at hv
    obtain ⟨rfl, hnx, hcap⟩ := hv
    have : cur.toList = xs.map (Value.int k) := by
      rw [← htk, List.take_of_length_le]
      rw [Array.length_toList, hcs, ← hcap, hnx]; exact Nat.le_refl _
    rw [hg, ← this]
/-- A whole array out of a block: one step of a walk. -/
theorem wpList_load_row {P : Program} {ops : Array Oper} {rest : List Oper} {o : Oper} {a : Act} {w : World} {Q : Exit → Act → World → Prop} (hgd : o.guard = none) (ty : TypeId) (x : Operand) (ho : o.op = .load ty x)
    (g : Nat) (cs : Array Value) (hx : a.eval x = .pointer (some ⟨g, 0, none⟩)) (t : TypeId) (fr : Nat × Nat) (hg : w.heap[g]? = some (.cells cs t fr)) (n : Nat) (e : TypeId) (hu : P.underlying ty = some (.array n e)) (hi : (P.info? ty).map (·.size) = some cs.size)
    (h : wpList P ops Q rest (a.put o.dst (.agg cs)) w) : wpList P ops Q (o :: rest) a w := by
  refine wpList_plain hgd fun K hK => ?_
  have hrun := run_loadVar_row (P := P) w g t ty cs fr _ hg hu rfl hi
  unfold Oper.wp execOp
  simp only [ho, hx, Instr.loadAt, Instr.sureAddr, Sem.run_bind, Sem.run_pure, Result.andThen_ok, hrun]
  exact hK _ _ h
/-- A function's result that is an array: it lies in a block. -/
theorem results_cell {fn : Func} {s : Tmp} {ty : TypeId} (h : fn.results = #[.cell s ty]) (tmps : Array Value) (P : Program) (w : World) (g : Nat) (cs : Array Value) (t : TypeId) (fr : Nat × Nat)
    (hx : tmps.getD s undef = .pointer (some ⟨g, 0, none⟩)) (hg : w.heap[g]? = some (.cells cs t fr)) (n : Nat) (e : TypeId) (hu : P.underlying ty = some (.array n e)) (hi : (P.info? ty).map (·.size) = some cs.size) :
    (results fn tmps).run P w = .ok (.agg cs) w := by
  have hrun := run_loadVar_row (P := P) w g t ty cs fr _ hg hu rfl hi
  have hx' : tmps[s]?.getD undef = .pointer (some ⟨g, 0, none⟩) := by simpa using hx
  simp [results, h, hx', asAddr, hrun]
end Go.Proofs.YtefhddbbiheadaaGreat

/-! C10a -/
namespace Go.Proofs.YtefhddbbiheadaaGreat
open Go.RowKit
set_option linter.unusedVariables false

set_option maxHeartbeats 1000000 in
theorem sl_Index (a : Option Addr) (len cap : Nat) (xs : List Int) (c : Int) (w : World) (hr : Reads .i32 w a len cap xs) :
    Calls Tryz.prog 176 #[.slice a len cap, .int .i32 c] w fun e w' => e = .returned (.int .i64 (idxI (fun x => decide (c = x)) xs)) ∧ w = w' := by
  have hl := hr.len_le
  have HR := hid hr
  clear hr
  go_enter Tryz.func176, Tryz.ntmps176
  go_wp2
  go_loop [8] (fun i => ∃ k : Nat, k ≤ len ∧ i = .int .i64 k ∧ Hid ((xs.take k).any (fun x => decide (c = x)) = false)) (fun i => len - (intOf i).toNat)
  case atStart => exact ⟨0, Nat.zero_le _, rfl, rfl⟩
  case round =>
    obtain ⟨k, hk, rfl, hn⟩ := hrel
    by_cases hlt : k < len
    · obtain ⟨b, off, x, rfl, _, hc, h0, h1, hx⟩ := HR.out.getR hlt
      by_cases hs : c = x
      · have H := hid hs
        have hb : (c == x) = true := by simpa using hs
        clear hs
        go_wp2
        go_ret
        exact ⟨ret_int (idx_hit hx.out.1 hn.out (by simp [H.out])).symm, rfl⟩
      · have H := hid hs
        have hb : (c == x) = false := by simpa using hs
        clear hs
        go_wp2
        go_round
        case rel => exact ⟨k + 1, by omega, by go_num, none_yes hx.out.2 hn.out (decide_eq_false H.out)⟩
        case measure => simp [intOf]; omega
    · go_wp2
      go_ret
      exact ⟨ret_int (by rw [← HR.out.all (show len ≤ k by omega)]; exact (idx_none hn.out).symm), rfl⟩

theorem winone_isOther (c : Int) (w : World) :
    Calls Tryz.prog 162 #[.int .i32 c] w fun e w' => e = .returned (.bool (decide (128 ≤ c ∧ c < 160))) ∧ w = w' := by
  by_cases h0 : 128 ≤ c
  · by_cases h1 : c < 160
    · go_enter Tryz.func162, Tryz.ntmps162
      go_wp2
      go_ret
      exact ⟨ret_bool (by simp [*]), rfl⟩
    · go_enter Tryz.func162, Tryz.ntmps162
      go_wp2
      go_ret
      exact ⟨ret_bool (by simp [*]), rfl⟩
  · go_enter Tryz.func162, Tryz.ntmps162
    go_wp2
    go_ret
    exact ⟨ret_bool (by have : ¬ 128 ≤ c := by omega
                        simp [this]), rfl⟩

theorem winone_others (w : World) :
    Calls Tryz.prog 163 #[] w fun e w' => ∃ b, e = .returned (.slice (some ⟨b, 0, none⟩) 32 32) ∧ Reads .i32 w' (some ⟨b, 0, none⟩) 32 32 tab10 ∧ Below w.heap.size w w' := by
  go_enter Tryz.func163, Tryz.ntmps163
  go_wp2_with (refine wpList_storeNew (w0 := w) .i32 tab10 _ _ _ rfl rfl _ rfl rfl rfl (by kernel_rfl) rfl ?_)
  have hL := Reads.lit .i32 143 w tab10 (by decide) (by decide)
  exact bodyPost_ret (v := .slice (some ⟨w.heap.size, 0, none⟩) 32 32) (by simp [results, Tryz.results163, go_sem]) rfl ⟨w.heap.size, rfl, hL, (Below.refl _ _).alloc (Nat.le_refl _) _⟩

theorem idx_get {f : Int → Bool} {xs : List Int} (h : 0 ≤ idxI f xs) : ∃ k : Nat, ∃ hk : k < xs.length, idxI f xs = k ∧ f xs[k] = true := by
  unfold idxI at h ⊢
  cases hf : xs.findIdx? f with
  | none => rw [hf] at h; simp at h
  | some k =>
    rw [List.findIdx?_eq_some_iff_getElem] at hf
    obtain ⟨hk, h1, _⟩ := hf
    exact ⟨k, hk, rfl, h1⟩
theorem idx_low {f : Int → Bool} {xs : List Int} (h : ¬ 0 ≤ idxI f xs) : idxI f xs = -1 := by
  have := (idx_bd f xs).1
  omega

theorem sg10_mid : ∀ n : Fin 256, ¬ (128 ≤ sg10 (n.val : Int) ∧ sg10 (n.val : Int) < 160) ∧ 0 ≤ sg10 (n.val : Int) := by decide +kernel
theorem sg10_tab (k : Nat) (hk : k < 32) : sg10 ((k : Int) + 128) = tab10[k]'(by simpa [tab10] using hk) := by
  unfold sg10
  rw [if_neg (by omega), show ((k : Int) + 128 - 128).toNat = k by omega, List.getD_eq_getElem?_getD, List.getElem?_eq_getElem (by simpa [tab10] using hk)]
  rfl
theorem out10_no {c : Int} (h : c < 0 ∨ c = 65533 ∨ (128 ≤ c ∧ c < 160)) : putI sg10 c = 0 ∧ hasI sg10 c = false := by
  refine put_no (put_none fun j hj h2 => ?_)
  have hm := sg10_mid ⟨j, hj⟩
  simp only [h2.1] at hm
  have h5 := h2.2
  omega
theorem out10_low {c : Int} (h0 : 0 ≤ c) (h1 : c < 256) (h : ¬ (128 ≤ c ∧ c < 160)) : putI sg10 c = c ∧ hasI sg10 c = true := by
  have hs : sg10 c = c := by unfold sg10; rw [if_pos (by omega)]
  have hp := once_put once10 (x := c) h0 (by omega) (by rw [hs]; omega)
  rwa [hs] at hp
theorem out10_hit {c : Int} {k : Nat} (hk : k < 32) (h : c = tab10[k]'(by simpa [tab10] using hk)) (h5 : c ≠ 65533) : putI sg10 c = (k : Int) + 128 ∧ hasI sg10 c = true := by
  have hs := sg10_tab k hk
  rw [← h] at hs
  have hp := once_put once10 (x := (k : Int) + 128) (by omega) (by omega) (by rw [hs]; exact h5)
  rwa [hs] at hp
theorem out10_miss {c : Int} (hc : 256 ≤ c) (h : idxI (fun x => decide (c = x)) tab10 = -1) : putI sg10 c = 0 ∧ hasI sg10 c = false := by
  refine put_no (put_none fun j hj h2 => ?_)
  have h3 := h2.1
  unfold sg10 at h3
  split at h3
  · omega
  · have hk : (((j : Int) - 128).toNat) < tab10.length := by simp [tab10]; omega
    rw [List.getD_eq_getElem?_getD, List.getElem?_eq_getElem hk] at h3
    have hp := idx_pos (fun x => decide (c = x)) tab10
    rw [h, decide_eq_false (by omega)] at hp
    have hp' := List.any_eq_false.1 hp.symm c (by rw [← h3]; exact List.getElem_mem hk)
    simp at hp'
theorem sl_IndexI (a : Option Addr) (len cap : Nat) (xs : List Int) (c i : Int) (w : World) (hr : Reads .i32 w a len cap xs) (hi : idxI (fun x => decide (c = x)) xs = i) :
    Calls Tryz.prog 176 #[.slice a len cap, .int .i32 c] w fun e w' => e = .returned (.int .i64 i) ∧ w = w' := by
  have := sl_Index a len cap xs c w hr
  rwa [hi] at this

set_option maxHeartbeats 1000000 in
theorem winone_Put (c : Int) (w : World) :
    Calls Tryz.prog 173 #[.int .i32 c] w fun e w' => e = .returned (.tuple #[.int .u8 (putI sg10 c), .bool (hasI sg10 c)]) ∧ Below w.heap.size w w' := by
  by_cases h0 : c < 0
  · have H := hid (out10_no (.inl h0))
    go_enter Tryz.func173, Tryz.ntmps173
    go_wp2
    go_ret2
    exact ⟨ret_ib H.out.1.symm H.out.2.symm, Below.refl _ _⟩
  · by_cases h5 : c = 65533
    · have H := hid (out10_no (.inr (.inl h5)))
      have hb : (c == 65533) = true := by simpa using h5
      clear h5
      go_enter Tryz.func173, Tryz.ntmps173
      go_wp2
      go_ret2
      exact ⟨ret_ib H.out.1.symm H.out.2.symm, Below.refl _ _⟩
    · have hb : (c == 65533) = false := by simpa using h5
      by_cases hm : 128 ≤ c ∧ c < 160
      · have H := hid (out10_no (.inr (.inr hm)))
        clear h5
        go_enter Tryz.func173, Tryz.ntmps173
        go_wp2_with (go_at_call 162; (with_reducible refine (winone_isOther _ _).mono ?_); rintro e w1 ⟨rfl, rfl⟩)
        go_ret2
        exact ⟨ret_ib H.out.1.symm H.out.2.symm, Below.refl _ _⟩
      · by_cases h1 : c < 256
        · have H := hid (out10_low (by omega) h1 hm)
          have hmod : c % 256 = c := by omega
          clear h5
          go_enter Tryz.func173, Tryz.ntmps173
          go_wp2_with (go_at_call 162; (with_reducible refine (winone_isOther _ _).mono ?_); rintro e w1 ⟨rfl, rfl⟩)
          go_ret2
          exact ⟨ret_ib H.out.1.symm H.out.2.symm, Below.refl _ _⟩
        · by_cases hi : 0 ≤ idxI (fun x => decide (c = x)) tab10
          · obtain ⟨k, hk, hI, hf⟩ := idx_get hi
            have hk' : k < 32 := by simpa [tab10] using hk
            have H := hid (out10_hit hk' (of_decide_eq_true hf) h5)
            have HI := hid hI
            clear h5 hf hI hi hk
            have hmod : (128 + (k : Int)) % 256 = (k : Int) + 128 := by omega
            have hk0 : (0 : Int) ≤ k := by omega
            go_enter Tryz.func173, Tryz.ntmps173
            go_wp2_with (first
              | (go_at_call 162; (with_reducible refine (winone_isOther _ _).mono ?_); rintro e w1 ⟨rfl, rfl⟩)
              | (go_at_call 163; (with_reducible refine (winone_others _).mono ?_); rintro e w2 ⟨b2, rfl, hR2, hb2⟩)
              | (go_at_call 176; (with_reducible refine (sl_IndexI _ _ _ _ _ _ _ hR2 HI.out).mono ?_); rintro e w3 ⟨rfl, rfl⟩))
            go_ret2
            exact ⟨ret_ib (by have := H.out.1; omega) H.out.2.symm, hb2⟩
          · have hI := idx_low hi
            have H := hid (out10_miss (by omega) hI)
            have HI := hid hI
            clear h5 hI hi
            go_enter Tryz.func173, Tryz.ntmps173
            go_wp2_with (first
              | (go_at_call 162; (with_reducible refine (winone_isOther _ _).mono ?_); rintro e w1 ⟨rfl, rfl⟩)
              | (go_at_call 163; (with_reducible refine (winone_others _).mono ?_); rintro e w2 ⟨b2, rfl, hR2, hb2⟩)
              | (go_at_call 176; (with_reducible refine (sl_IndexI _ _ _ _ _ _ _ hR2 HI.out).mono ?_); rintro e w3 ⟨rfl, rfl⟩))
            go_ret2
            exact ⟨ret_ib H.out.1.symm H.out.2.symm, hb2⟩

theorem winone_Has (c : Int) (w : World) :
    Calls Tryz.prog 159 #[.int .i32 c] w fun e w' => e = .returned (.bool (hasI sg10 c)) ∧ Below w.heap.size w w' := by
  go_enter Tryz.func159, Tryz.ntmps159
  go_wp2_with (go_at_call 173; (with_reducible refine (winone_Put _ _).mono ?_); rintro e w1 ⟨rfl, hb1⟩)
  go_ret
  exact ⟨rfl, hb1⟩
theorem others_at (w : World) (n : Nat) (hn : n < 32) :
    Calls Tryz.prog 163 #[] w fun e w' => ∃ b, e = .returned (.slice (some ⟨b, 0, none⟩) 32 32) ∧ w'.cell? ⟨b, n, none⟩ = some (.int .i32 (sg10 ((n : Int) + 128))) ∧ Below w.heap.size w w' := by
  refine (winone_others w).mono ?_
  rintro e w' ⟨b, rfl, hR, hb⟩
  refine ⟨b, rfl, ?_, hb⟩
  obtain ⟨b', off, y, hA, _, hc, _, _, hx⟩ := hR.getR hn
  cases hA
  have h1 := hx.out.1
  rw [List.getElem?_eq_getElem (by simpa [tab10] using hn), ← sg10_tab n hn] at h1
  rw [Option.some.inj h1]
  simpa using hc
set_option maxHeartbeats 1000000 in
theorem winone_Sign (x : Int) (w : World) (h0 : 0 ≤ x) (h1 : x ≤ 255) :
    Calls Tryz.prog 140 #[.int .u8 x] w fun e w' => e = .returned (.int .i32 (sg10 x)) ∧ Below w.heap.size w w' := by
  by_cases hm : 128 ≤ x ∧ x < 160
  · obtain ⟨n, hn, rfl⟩ : ∃ n : Nat, n < 32 ∧ x = (n : Int) + 128 := ⟨(x - 128).toNat, by omega, by omega⟩
    have hs : (n : Int) + 128 - 128 = n := by omega
    have hmod : ((n : Int) + 128) % 4294967296 = (n : Int) + 128 := by omega
    go_enter Tryz.func140, Tryz.ntmps140
    go_wp2_with (first
      | (go_at_call 162; (with_reducible refine (winone_isOther _ _).mono ?_); rintro e w1 ⟨rfl, rfl⟩)
      | (go_at_call 163; (with_reducible refine (others_at _ n hn).mono ?_); rintro e w2 ⟨b2, rfl, hc2, hb2⟩))
    go_ret
    exact ⟨rfl, hb2⟩
  · have hE : Hid (sg10 x = x) := by unfold Hid sg10; rw [if_pos (by omega)]
    go_enter Tryz.func140, Tryz.ntmps140
    go_wp2_with (go_at_call 162; (with_reducible refine (winone_isOther _ _).mono ?_); rintro e w1 ⟨rfl, rfl⟩)
    go_ret
    exact ⟨ret_int hE.out.symm, Below.refl _ _⟩
end Go.Proofs.YtefhddbbiheadaaGreat

/-! C12 -/
namespace Go.Proofs.YtefhddbbiheadaaGreat
open Go.RowKit
set_option linter.unusedVariables false

/-- How many of the octets below k have a sign. -/
def cntS (sg : Int → Int) : Nat → Nat
  | 0 => 0
  | k + 1 => cntS sg k + if sg (k : Int) = 65533 then 0 else 1
set_option maxRecDepth 100000 in
theorem cnt_08 : cntS sg08 256 = 256 := by decide +kernel
set_option maxRecDepth 100000 in
theorem cnt_09 : cntS sg09 256 = 256 := by decide +kernel
set_option maxRecDepth 100000 in
theorem cnt_10 : cntS sg10 256 = 251 := by decide +kernel
/-- Counted from 0 on, where no charset has the number 0. -/
theorem all_0 (xs : List Int) : allR 0 xs = false := rfl
theorem all_1 {k : Nat} (h : k < 5) (xs : List Int) : allR ((k : Int) + 1) xs = xs.all (hasR ((k : Int) + 1)) := by
  unfold allR; rw [decide_eq_true (p := 1 ≤ (k : Int) + 1 ∧ (k : Int) + 1 ≤ 5) (by omega)]; rfl
theorem sel_hit0 {xs : List Int} {k : Nat} (hk : k < 6) (hb : allR (k : Int) xs = true) (hn : ∀ j : Nat, j < k → allR (j : Int) xs = false) : selN xs = (k : Int) ∧ selE xs = 0 := by
  cases k with
  | zero => cases hb
  | succ k =>
    rw [Int.natCast_succ] at hb ⊢
    refine sel_hit (by omega) (by rw [← all_1 (by omega)]; exact hb) fun j hj => ?_
    rw [← all_1 (by omega)]
    have := hn (j + 1) (by omega)
    rwa [Int.natCast_succ] at this
theorem sel_no0 {xs : List Int} (hn : ∀ j : Nat, j < 6 → allR (j : Int) xs = false) : selN xs = 0 ∧ selE xs = 7 := by
  refine sel_no fun j hj => ?_
  rw [← all_1 hj]
  have := hn (j + 1) (by omega)
  rwa [Int.natCast_succ] at this
theorem first_sel (c : Int) : selN [c] = first1 (fun n => hasR n c) 5 := by unfold selN; simp
theorem hasR_0 (c : Int) : hasR 0 c = false := hasR_none (by omega) c
theorem set_up (c : Int) (k : Nat) : setN c k = setN c (k - 1) + if hasR (k : Int) c = true then 2 ^ k else 0 := by
  cases k with
  | zero => rw [if_neg (by rw [show ((0 : Nat) : Int) = 0 from rfl, hasR_0]; simp)]; rfl
  | succ k => rfl
theorem set_lt (c : Int) (k : Nat) : 0 ≤ setN c (k - 1) ∧ setN c (k - 1) < 2 ^ k := by
  cases k with
  | zero => exact ⟨Int.le_refl _, (by decide : (0 : Int) < 2 ^ 0)⟩
  | succ k =>
    rw [Nat.add_sub_cancel]
    induction k with
    | zero => exact ⟨Int.le_refl _, (by decide : (0 : Int) < 2 ^ 1)⟩
    | succ k ih =>
      unfold setN
      have e : (2 : Int) ^ (k + 1 + 1) = 2 * 2 ^ (k + 1) := by rw [Int.pow_succ]; omega
      have p : (0 : Int) < 2 ^ (k + 1) := Int.pow_pos (by decide)
      split <;> omega
/-- A bit that lies above is put in. -/
theorem or_up (j : Nat) (a b : Int) (h0 : 0 ≤ a) (ha : a < 2 ^ j) (h1 : 0 ≤ b) (hb : b % 2 ^ j = 0) (h3 : a + b ≤ 9223372036854775807) : bits .or .i64 a b = a + b := by
  have h := or_i64 j b a h1 hb h0 ha (by omega)
  rw [Int.add_comm, ← h]
  show IntKind.i64.wrap ((BitVec.ofInt 64 a ||| BitVec.ofInt 64 b).toNat : Int) = IntKind.i64.wrap ((BitVec.ofInt 64 b ||| BitVec.ofInt 64 a).toNat : Int)
  rw [BitVec.or_comm]

set_option maxHeartbeats 1000000 in
theorem reper_Has (n c : Int) (w : World) :
    Calls Tryz.prog 138 #[.int .i64 n, .int .i32 c] w fun e w' => e = .returned (.bool (hasR n c)) ∧ Below w.heap.size w w' := by
  by_cases h1 : n = 1
  · subst h1
    have e : Hid (hasR 1 c = decide (0 ≤ c ∧ c < 128)) := by unfold Hid hasR; rw [if_pos rfl]
    by_cases c0 : 0 ≤ c
    · by_cases c1 : c < 128
      · go_enter Tryz.func138, Tryz.ntmps138
        go_wp2
        go_ret
        exact ⟨ret_bool (by rw [e.out]; simp [c0, c1]), Below.refl _ _⟩
      · go_enter Tryz.func138, Tryz.ntmps138
        go_wp2
        go_ret
        exact ⟨ret_bool (by rw [e.out]; exact (decide_eq_false (by omega)).symm), Below.refl _ _⟩
    · go_enter Tryz.func138, Tryz.ntmps138
      go_wp2
      go_ret
      exact ⟨ret_bool (by rw [e.out]; exact (decide_eq_false (by omega)).symm), Below.refl _ _⟩
  by_cases h2 : n = 2
  · subst h2
    have e : Hid (hasR 2 c = hasI sg08 c) := rfl
    go_enter Tryz.func138, Tryz.ntmps138
    go_wp2_with (go_at_call 157; (with_reducible refine (latin_Has _ _).mono ?_); rintro e w' ⟨rfl, rfl⟩)
    go_ret
    exact ⟨ret_bool e.out.symm, Below.refl _ _⟩
  by_cases h3 : n = 3
  · subst h3
    have e : Hid (hasR 3 c = hasI sg09 c) := rfl
    go_enter Tryz.func138, Tryz.ntmps138
    go_wp2_with (go_at_call 158; (with_reducible refine (latnine_Has _ _).mono ?_); rintro e w1 ⟨rfl, hb1⟩)
    go_ret
    exact ⟨ret_bool e.out.symm, hb1⟩
  by_cases h4 : n = 4
  · subst h4
    have e : Hid (hasR 4 c = hasI sg10 c) := rfl
    go_enter Tryz.func138, Tryz.ntmps138
    go_wp2_with (go_at_call 159; (with_reducible refine (winone_Has _ _).mono ?_); rintro e w1 ⟨rfl, hb1⟩)
    go_ret
    exact ⟨ret_bool e.out.symm, hb1⟩
  by_cases h5 : n = 5
  · subst h5
    have e : Hid (hasR 5 c = scB c) := rfl
    go_enter Tryz.func138, Tryz.ntmps138
    go_wp2_with (go_at_call 160; (with_reducible refine (scalar_Is _ _).mono ?_); rintro e w' ⟨rfl, rfl⟩)
    go_ret
    exact ⟨ret_bool e.out.symm, Below.refl _ _⟩
  have e := hid (hasR_none (n := n) (by omega) c)
  have b1 : (n == 1) = false := by simpa using h1
  have b2 : (n == 2) = false := by simpa using h2
  have b3 : (n == 3) = false := by simpa using h3
  have b4 : (n == 4) = false := by simpa using h4
  have b5 : (n == 5) = false := by simpa using h5
  clear h1 h2 h3 h4 h5
  go_enter Tryz.func138, Tryz.ntmps138
  go_wp2
  go_ret
  exact ⟨ret_bool e.out.symm, Below.refl _ _⟩
end Go.Proofs.YtefhddbbiheadaaGreat
