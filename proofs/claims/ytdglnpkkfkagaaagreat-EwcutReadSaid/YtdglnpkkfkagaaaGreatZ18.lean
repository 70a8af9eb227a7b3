/-
  Texts of ours laid together: C09a, Sto.
-/
import Derived.Test.YtdglnpkkfkagaaaGreatRows
import Derived.Deep.WholeRow
import Derived.Test.YtdglnpkkfkagaaaGreatZ17

/-! C09a -/
namespace Go.Proofs.YtdglnpkkfkagaaaGreat
open Go.RowKit
set_option linter.unusedVariables false

/-- The eight octets at which the charset parts from ISO-8859-1, their signs; c is none of the first k of them. -/
def o9 : List Int := [164, 166, 168, 180, 184, 188, 189, 190]
def s9 : List Int := [8364, 352, 353, 381, 382, 338, 339, 376]
def Free (l : List Int) (c : Int) (k : Nat) : Prop := ∀ j, j < k → c ≠ l.getD j 0
theorem free_none (l : List Int) (c : Int) : Free l c 0 := fun j hj => by omega
theorem free_on {l : List Int} {c : Int} {k : Nat} (h : Free l c k) (x : Int) (hx : l.getD k 0 = x) (ho : ¬ c = x) : Free l c (k + 1) := by
  intro j hj
  by_cases hjk : j < k
  · exact h j hjk
  · have : j = k := by omega
    subst this
    rw [hx]
    exact ho
theorem free_o {c : Int} (h : Free o9 c 8) : c ≠ 164 ∧ c ≠ 166 ∧ c ≠ 168 ∧ c ≠ 180 ∧ c ≠ 184 ∧ c ≠ 188 ∧ c ≠ 189 ∧ c ≠ 190 :=
  ⟨h 0 (by decide), h 1 (by decide), h 2 (by decide), h 3 (by decide), h 4 (by decide), h 5 (by decide), h 6 (by decide), h 7 (by decide)⟩
theorem free_s {c : Int} (h : Free s9 c 8) : c ≠ 8364 ∧ c ≠ 352 ∧ c ≠ 353 ∧ c ≠ 381 ∧ c ≠ 382 ∧ c ≠ 338 ∧ c ≠ 339 ∧ c ≠ 376 :=
  ⟨h 0 (by decide), h 1 (by decide), h 2 (by decide), h 3 (by decide), h 4 (by decide), h 5 (by decide), h 6 (by decide), h 7 (by decide)⟩
theorem sg09_free {c : Int} (h : Free o9 c 8) : sg09 c = c := by
  have h' := free_o h
  unfold sg09
  repeat' split
  all_goals omega
theorem free_has {c : Int} (ho : Free o9 c 8) (h0 : 0 ≤ c) (h1 : c < 256) : putI sg09 c = c ∧ hasI sg09 c = true := by
  have h := once_put once09 (x := c) h0 (by omega) (by rw [sg09_free ho]; omega)
  rwa [sg09_free ho] at h
theorem free_no {c : Int} (hs : Free s9 c 8) (h : ¬ (0 ≤ c ∧ c < 256)) : putI sg09 c = 0 ∧ hasI sg09 c = false := by
  refine put_no (put_none fun j hj h2 => ?_)
  have h3 := h2.1
  have h' := free_s hs
  unfold sg09 at h3
  revert h3
  repeat' split
  all_goals omega

theorem at9_0 (w : World) : (Instr.index 145 (.agg #[.int .u8 164, .int .i32 8364, .int .u8 166, .int .i32 352, .int .u8 168, .int .i32 353, .int .u8 180, .int .i32 381, .int .u8 184, .int .i32 382, .int .u8 188, .int .i32 338, .int .u8 189, .int .i32 339, .int .u8 190, .int .i32 376]) (.int .i64 0)).run Tryz.prog w = .ok (.agg #[.int .u8 164, .int .i32 8364]) w := by kernel_rfl
theorem at9_1 (w : World) : (Instr.index 145 (.agg #[.int .u8 164, .int .i32 8364, .int .u8 166, .int .i32 352, .int .u8 168, .int .i32 353, .int .u8 180, .int .i32 381, .int .u8 184, .int .i32 382, .int .u8 188, .int .i32 338, .int .u8 189, .int .i32 339, .int .u8 190, .int .i32 376]) (.int .i64 1)).run Tryz.prog w = .ok (.agg #[.int .u8 166, .int .i32 352]) w := by kernel_rfl
theorem at9_2 (w : World) : (Instr.index 145 (.agg #[.int .u8 164, .int .i32 8364, .int .u8 166, .int .i32 352, .int .u8 168, .int .i32 353, .int .u8 180, .int .i32 381, .int .u8 184, .int .i32 382, .int .u8 188, .int .i32 338, .int .u8 189, .int .i32 339, .int .u8 190, .int .i32 376]) (.int .i64 2)).run Tryz.prog w = .ok (.agg #[.int .u8 168, .int .i32 353]) w := by kernel_rfl
theorem at9_3 (w : World) : (Instr.index 145 (.agg #[.int .u8 164, .int .i32 8364, .int .u8 166, .int .i32 352, .int .u8 168, .int .i32 353, .int .u8 180, .int .i32 381, .int .u8 184, .int .i32 382, .int .u8 188, .int .i32 338, .int .u8 189, .int .i32 339, .int .u8 190, .int .i32 376]) (.int .i64 3)).run Tryz.prog w = .ok (.agg #[.int .u8 180, .int .i32 381]) w := by kernel_rfl
theorem at9_4 (w : World) : (Instr.index 145 (.agg #[.int .u8 164, .int .i32 8364, .int .u8 166, .int .i32 352, .int .u8 168, .int .i32 353, .int .u8 180, .int .i32 381, .int .u8 184, .int .i32 382, .int .u8 188, .int .i32 338, .int .u8 189, .int .i32 339, .int .u8 190, .int .i32 376]) (.int .i64 4)).run Tryz.prog w = .ok (.agg #[.int .u8 184, .int .i32 382]) w := by kernel_rfl
theorem at9_5 (w : World) : (Instr.index 145 (.agg #[.int .u8 164, .int .i32 8364, .int .u8 166, .int .i32 352, .int .u8 168, .int .i32 353, .int .u8 180, .int .i32 381, .int .u8 184, .int .i32 382, .int .u8 188, .int .i32 338, .int .u8 189, .int .i32 339, .int .u8 190, .int .i32 376]) (.int .i64 5)).run Tryz.prog w = .ok (.agg #[.int .u8 188, .int .i32 338]) w := by kernel_rfl
theorem at9_6 (w : World) : (Instr.index 145 (.agg #[.int .u8 164, .int .i32 8364, .int .u8 166, .int .i32 352, .int .u8 168, .int .i32 353, .int .u8 180, .int .i32 381, .int .u8 184, .int .i32 382, .int .u8 188, .int .i32 338, .int .u8 189, .int .i32 339, .int .u8 190, .int .i32 376]) (.int .i64 6)).run Tryz.prog w = .ok (.agg #[.int .u8 189, .int .i32 339]) w := by kernel_rfl
theorem at9_7 (w : World) : (Instr.index 145 (.agg #[.int .u8 164, .int .i32 8364, .int .u8 166, .int .i32 352, .int .u8 168, .int .i32 353, .int .u8 180, .int .i32 381, .int .u8 184, .int .i32 382, .int .u8 188, .int .i32 338, .int .u8 189, .int .i32 339, .int .u8 190, .int .i32 376]) (.int .i64 7)).run Tryz.prog w = .ok (.agg #[.int .u8 190, .int .i32 376]) w := by kernel_rfl

theorem latnine_others (w : World) :
    Calls Tryz.prog 137 #[] w fun e w' => e = .returned (.agg #[.int .u8 164, .int .i32 8364, .int .u8 166, .int .i32 352, .int .u8 168, .int .i32 353, .int .u8 180, .int .i32 381, .int .u8 184, .int .i32 382, .int .u8 188, .int .i32 338, .int .u8 189, .int .i32 339, .int .u8 190, .int .i32 376]) ∧ Below w.heap.size w w' := by
  go_enter Tryz.func137, Tryz.ntmps137
  go_wp2
  exact bodyPost_ret (v := .agg #[.int .u8 164, .int .i32 8364, .int .u8 166, .int .i32 352, .int .u8 168, .int .i32 353, .int .u8 180, .int .i32 381, .int .u8 184, .int .i32 382, .int .u8 188, .int .i32 338, .int .u8 189, .int .i32 339, .int .u8 190, .int .i32 376]) (by simp [results, Tryz.results137, go_sem]) rfl ⟨rfl, (Below.refl _ _).alloc (Nat.le_refl _) _⟩

set_option maxHeartbeats 4000000 in
theorem latnine_Put (c : Int) (w : World) :
    Calls Tryz.prog 125 #[.int .i32 c] w fun e w' => e = .returned (.tuple #[.int .u8 (putI sg09 c), .bool (hasI sg09 c)]) ∧ Below w.heap.size w w' := by
  go_enter Tryz.func125, Tryz.ntmps125
  go_wp2_with (go_at_call 137; (with_reducible refine (latnine_others _).mono ?_); rintro e w1 ⟨rfl, hb1⟩)
  go_loopw [7] (fun i wr => ∃ k : Nat, k ≤ 8 ∧ i = .int .i64 k ∧ Hid (Free o9 c k ∧ Free s9 c k) ∧ Below w.heap.size w wr) (fun i _ => 8 - (intOf i).toNat)
  case atStart => exact ⟨0, Nat.zero_le _, rfl, hid ⟨free_none _ _, free_none _ _⟩, hb1⟩
  case round =>
    obtain ⟨k, hk, rfl, hn, hbel'⟩ := hrel
    by_cases hlt : k < 8
    · have hc : k = 0 ∨ k = 1 ∨ k = 2 ∨ k = 3 ∨ k = 4 ∨ k = 5 ∨ k = 6 ∨ k = 7 := by omega
      rcases hc with rfl | rfl | rfl | rfl | rfl | rfl | rfl | rfl
      · have hx := at9_0
        by_cases hs : c = 8364
        · subst hs
          go_wp2
          go_ret2
          exact ⟨ret_ib (by decide +kernel) (by decide +kernel), hbel'.alloc hbel'.size _⟩
        · by_cases ho : c = 164
          · subst ho
            go_wp2
            go_ret2
            exact ⟨ret_ib (by decide +kernel) (by decide +kernel), hbel'.alloc hbel'.size _⟩
          · have hn' : Hid (Free o9 c 1 ∧ Free s9 c 1) := hid (⟨free_on hn.out.1 164 rfl ho, free_on hn.out.2 8364 rfl hs⟩)
            go_wp2
            go_roundw
            case rel => exact ⟨1, by omega, by go_num, hn', hbel'.alloc hbel'.size _⟩
            case measure => decide
      · have hx := at9_1
        by_cases hs : c = 352
        · subst hs
          go_wp2
          go_ret2
          exact ⟨ret_ib (by decide +kernel) (by decide +kernel), hbel'.alloc hbel'.size _⟩
        · by_cases ho : c = 166
          · subst ho
            go_wp2
            go_ret2
            exact ⟨ret_ib (by decide +kernel) (by decide +kernel), hbel'.alloc hbel'.size _⟩
          · have hn' : Hid (Free o9 c 2 ∧ Free s9 c 2) := hid (⟨free_on hn.out.1 166 rfl ho, free_on hn.out.2 352 rfl hs⟩)
            go_wp2
            go_roundw
            case rel => exact ⟨2, by omega, by go_num, hn', hbel'.alloc hbel'.size _⟩
            case measure => decide
      · have hx := at9_2
        by_cases hs : c = 353
        · subst hs
          go_wp2
          go_ret2
          exact ⟨ret_ib (by decide +kernel) (by decide +kernel), hbel'.alloc hbel'.size _⟩
        · by_cases ho : c = 168
          · subst ho
            go_wp2
            go_ret2
            exact ⟨ret_ib (by decide +kernel) (by decide +kernel), hbel'.alloc hbel'.size _⟩
          · have hn' : Hid (Free o9 c 3 ∧ Free s9 c 3) := hid (⟨free_on hn.out.1 168 rfl ho, free_on hn.out.2 353 rfl hs⟩)
            go_wp2
            go_roundw
            case rel => exact ⟨3, by omega, by go_num, hn', hbel'.alloc hbel'.size _⟩
            case measure => decide
      · have hx := at9_3
        by_cases hs : c = 381
        · subst hs
          go_wp2
          go_ret2
          exact ⟨ret_ib (by decide +kernel) (by decide +kernel), hbel'.alloc hbel'.size _⟩
        · by_cases ho : c = 180
          · subst ho
            go_wp2
            go_ret2
            exact ⟨ret_ib (by decide +kernel) (by decide +kernel), hbel'.alloc hbel'.size _⟩
          · have hn' : Hid (Free o9 c 4 ∧ Free s9 c 4) := hid (⟨free_on hn.out.1 180 rfl ho, free_on hn.out.2 381 rfl hs⟩)
            go_wp2
            go_roundw
            case rel => exact ⟨4, by omega, by go_num, hn', hbel'.alloc hbel'.size _⟩
            case measure => decide
      · have hx := at9_4
        by_cases hs : c = 382
        · subst hs
          go_wp2
          go_ret2
          exact ⟨ret_ib (by decide +kernel) (by decide +kernel), hbel'.alloc hbel'.size _⟩
        · by_cases ho : c = 184
          · subst ho
            go_wp2
            go_ret2
            exact ⟨ret_ib (by decide +kernel) (by decide +kernel), hbel'.alloc hbel'.size _⟩
          · have hn' : Hid (Free o9 c 5 ∧ Free s9 c 5) := hid (⟨free_on hn.out.1 184 rfl ho, free_on hn.out.2 382 rfl hs⟩)
            go_wp2
            go_roundw
            case rel => exact ⟨5, by omega, by go_num, hn', hbel'.alloc hbel'.size _⟩
            case measure => decide
      · have hx := at9_5
        by_cases hs : c = 338
        · subst hs
          go_wp2
          go_ret2
          exact ⟨ret_ib (by decide +kernel) (by decide +kernel), hbel'.alloc hbel'.size _⟩
        · by_cases ho : c = 188
          · subst ho
            go_wp2
            go_ret2
            exact ⟨ret_ib (by decide +kernel) (by decide +kernel), hbel'.alloc hbel'.size _⟩
          · have hn' : Hid (Free o9 c 6 ∧ Free s9 c 6) := hid (⟨free_on hn.out.1 188 rfl ho, free_on hn.out.2 338 rfl hs⟩)
            go_wp2
            go_roundw
            case rel => exact ⟨6, by omega, by go_num, hn', hbel'.alloc hbel'.size _⟩
            case measure => decide
      · have hx := at9_6
        by_cases hs : c = 339
        · subst hs
          go_wp2
          go_ret2
          exact ⟨ret_ib (by decide +kernel) (by decide +kernel), hbel'.alloc hbel'.size _⟩
        · by_cases ho : c = 189
          · subst ho
            go_wp2
            go_ret2
            exact ⟨ret_ib (by decide +kernel) (by decide +kernel), hbel'.alloc hbel'.size _⟩
          · have hn' : Hid (Free o9 c 7 ∧ Free s9 c 7) := hid (⟨free_on hn.out.1 189 rfl ho, free_on hn.out.2 339 rfl hs⟩)
            go_wp2
            go_roundw
            case rel => exact ⟨7, by omega, by go_num, hn', hbel'.alloc hbel'.size _⟩
            case measure => decide
      · have hx := at9_7
        by_cases hs : c = 376
        · subst hs
          go_wp2
          go_ret2
          exact ⟨ret_ib (by decide +kernel) (by decide +kernel), hbel'.alloc hbel'.size _⟩
        · by_cases ho : c = 190
          · subst ho
            go_wp2
            go_ret2
            exact ⟨ret_ib (by decide +kernel) (by decide +kernel), hbel'.alloc hbel'.size _⟩
          · have hn' : Hid (Free o9 c 8 ∧ Free s9 c 8) := hid (⟨free_on hn.out.1 190 rfl ho, free_on hn.out.2 376 rfl hs⟩)
            go_wp2
            go_roundw
            case rel => exact ⟨8, by omega, by go_num, hn', hbel'.alloc hbel'.size _⟩
            case measure => decide
    · have hk8 : k = 8 := by omega
      subst hk8
      by_cases hr : 0 ≤ c ∧ c < 256
      · have H := hid (free_has hn.out.1 hr.1 hr.2)
        obtain ⟨h0, h1⟩ := hr
        have hmod : c % 256 = c := by omega
        go_wp2
        go_ret2
        exact ⟨ret_ib H.out.1.symm H.out.2.symm, hbel'⟩
      · have H := hid (free_no hn.out.2 hr)
        by_cases h0 : c < 0
        · go_wp2
          go_ret2
          exact ⟨ret_ib H.out.1.symm H.out.2.symm, hbel'⟩
        · have h1 : ¬ c < 256 := by omega
          go_wp2
          go_ret2
          exact ⟨ret_ib H.out.1.symm H.out.2.symm, hbel'⟩

theorem latnine_Has (c : Int) (w : World) :
    Calls Tryz.prog 121 #[.int .i32 c] w fun e w' => e = .returned (.bool (hasI sg09 c)) ∧ Below w.heap.size w w' := by
  go_enter Tryz.func121, Tryz.ntmps121
  go_wp2_with (go_at_call 125; (with_reducible refine (latnine_Put _ _).mono ?_); rintro e w1 ⟨rfl, hb1⟩)
  go_ret
  exact ⟨rfl, hb1⟩
end Go.Proofs.YtdglnpkkfkagaaaGreat

/-! Sto -/
namespace Go.Proofs.YtdglnpkkfkagaaaGreat
open Go.RowKit
set_option linter.unusedVariables false

theorem ints_one (k : IntKind) (xs : List Int) : ((xs.map (Value.int k)).toArray).all (·.oneCell') = true := by
  rw [Array.all_eq_true_iff_forall_mem]
  intro v hv
  simp only [List.mem_toArray, List.mem_map] at hv
  obtain ⟨x, _, rfl⟩ := hv
  rfl
theorem wpList_storeNew {P : Program} {ops : Array Oper} {rest : List Oper} {op : Oper} {a : Act} {w0 w : World} {Q : Exit → Act → World → Prop} (k : IntKind) (xs : List Int) (ty : TypeId) (x y : Operand) (hgd : op.guard = none) (ho : op.op = .store ty x y)
    (c : Array Value) (hw : w = w0.alloc (.cells c ty)) (hx : a.eval x = .pointer (some ⟨w0.heap.size, 0, none⟩)) (hy : a.eval y = .agg (xs.map (Value.int k)).toArray)
    (hi : (P.info? ty).map (·.size) = some xs.length) (hs : c.size = xs.length)
    (h : wpList P ops Q rest (a.put op.dst undef) (w0.alloc (.cells (xs.map (Value.int k)).toArray ty))) : wpList P ops Q (op :: rest) a w := by
  subst hw
  refine wpList_plain hgd fun K hK => ?_
  have hrun := run_storeVar_new (P := P) w0 ty c (xs.map (Value.int k)).toArray (by simpa using hi) (by simpa using hs) (ints_one k xs)
  unfold Oper.wp execOp
  simp only [ho, hx, hy, Instr.storeAt, Instr.sureAddr, Sem.run_bind, Sem.run_pure, Result.andThen_ok, hrun]
  exact hK _ _ h
/-- A literal of the call's own may be written on. -/
theorem Own.ofLit (k : IntKind) (e : TypeId) (w : World) (xs : List Int) (hm : xs.length ≤ maxLen) (hwf : ∀ x ∈ xs, (Lit.int k x).wf = true) :
    Own k e w.heap.size (w.alloc (.cells (xs.map (Value.int k)).toArray e)) (.slice (some ⟨w.heap.size, 0, none⟩) xs.length xs.length) xs := by
  refine ⟨⟨by simp, .inr ⟨w.heap.size, xs.length, (xs.map (Value.int k)).toArray, rfl, Nat.le_refl _, heap_alloc_last w _, Nat.le_refl _, hm, by simp, ?_⟩⟩, hwf⟩
  rw [List.toList_toArray, Nat.mul_one]
  exact List.take_of_length_le (by simp)
/-- A row of the call's own that is full: the block's cells. -/
theorem Own.whole {k : IntKind} {e : TypeId} {base : Nat} {w : World} {g n : Nat} {xs : List Int} (h : Own k e base w (.slice (some ⟨g, 0, none⟩) n n) xs) (hn : 0 < n) : w.heap[g]? = some (.cells (xs.map (Value.int k)).toArray e (0, 0)) := by
  obtain ⟨⟨hl, h1⟩, _⟩ := h
  rcases h1 with ⟨h', _⟩ | ⟨g', cap, cur, hv, _, hg, _, _, hcs, htk⟩
  · simp at h'
  · simp only [Value.slice.injEq, Option.some.injEq, Addr.mk.injEq, and_true] at hv
    obtain ⟨rfl, hnx, hcap⟩ := hv
    have : cur.toList = xs.map (Value.int k) := by
      rw [← htk, List.take_of_length_le]
      rw [Array.length_toList, hcs, ← hcap, hnx]; exact Nat.le_refl _
    rw [hg, ← this]
/-- A whole array out of a block: one step of a walk. -/
theorem wpList_load_row {P : Program} {ops : Array Oper} {rest : List Oper} {o : Oper} {a : Act} {w : World} {Q : Exit → Act → World → Prop} (hgd : o.guard = none) (ty : TypeId) (x : Operand) (ho : o.op = .load ty x)
    (g : Nat) (cs : Array Value) (hx : a.eval x = .pointer (some ⟨g, 0, none⟩)) (t : TypeId) (fr : Nat × Nat) (hg : w.heap[g]? = some (.cells cs t fr)) (n : Nat) (e : TypeId) (hu : P.underlying ty = some (.array n e)) (hi : (P.info? ty).map (·.size) = some cs.size)
    (h : wpList P ops Q rest (a.put o.dst (.agg cs)) w) : wpList P ops Q (o :: rest) a w := by
  refine wpList_plain hgd fun K hK => ?_
  have hrun := run_loadVar_row (P := P) w g t ty cs fr _ hg hu rfl hi
  unfold Oper.wp execOp
  simp only [ho, hx, Instr.loadAt, Instr.sureAddr, Sem.run_bind, Sem.run_pure, Result.andThen_ok, hrun]
  exact hK _ _ h
/-- A function's result that is an array: it lies in a block. -/
theorem results_cell {fn : Func} {s : Tmp} {ty : TypeId} (h : fn.results = #[.cell s ty]) (tmps : Array Value) (P : Program) (w : World) (g : Nat) (cs : Array Value) (t : TypeId) (fr : Nat × Nat)
    (hx : tmps.getD s undef = .pointer (some ⟨g, 0, none⟩)) (hg : w.heap[g]? = some (.cells cs t fr)) (n : Nat) (e : TypeId) (hu : P.underlying ty = some (.array n e)) (hi : (P.info? ty).map (·.size) = some cs.size) :
    (results fn tmps).run P w = .ok (.agg cs) w := by
  have hrun := run_loadVar_row (P := P) w g t ty cs fr _ hg hu rfl hi
  have hx' : tmps[s]?.getD undef = .pointer (some ⟨g, 0, none⟩) := by simpa using hx
  simp [results, h, hx', asAddr, hrun]
end Go.Proofs.YtdglnpkkfkagaaaGreat
