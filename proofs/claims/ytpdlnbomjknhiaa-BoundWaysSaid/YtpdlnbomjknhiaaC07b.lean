/-
  Contracts of the library's functions that package bound calls: bytes.Clone, slices.Values, slices.Backward.
-/
import Derived.RangeFuncNested
import Derived.RangeFuncBox
import Derived.RangeFuncCalls
import Derived.RangeFuncLeaves
import Derived.Shelf.Abstract
import Derived.Shelf.RegionOpen
import Derived.OwnWalkIn
import Derived.TacticsInMore
import Derived.LoopNIn
import Derived.LoopIn
import Derived.Maps.AppendAt
import Derived.Lib.SliceRun
import Derived.Test.YtpdlnbomjknhiaaC05c
import Derived.Test.YtpdlnbomjknhiaaC07
namespace Go.Proofs.Ytpdlnbomjknhiaa
open Go.RowKit Go.Shelf
set_option linter.unusedVariables false
attribute [local go_sem] Oper.semAt_some

set_option maxHeartbeats 1000000 in
theorem bytes_Clone (a : Option Addr) (len cap : Nat) (xs : List Int) (w : World) (hr : Reads .u8 w a len cap xs) (hN : len < 100000000000) :
    Calls Try.prog 28 #[.slice a len cap] w fun e w' => ∃ a' c', e = .returned (.slice a' len c') ∧ Own .u8 5 w.heap.size w' (.slice a' len c') xs ∧ Below w.heap.size w w' := by
  have q22 : ∀ (w : World) (a : Option Addr) (n c n' c' : Nat), (binOp .eql 22 (.slice a n c) (.slice none n' c')).run Try.prog w = .ok (.bool a.isNone) w := fun w a n c n' c' => Lib.run_eql_slice_nil w _ _ a n c n' c' Try.underlying22
  cases a with
  | none =>
    have h0 : len = 0 := by
      rcases Nat.eq_zero_or_pos len with h0 | h0
      · exact h0
      · obtain ⟨_, _, ha, _⟩ := hr.cell h0; cases ha
    subst h0
    obtain rfl : xs = [] := List.eq_nil_of_length_eq_zero hr.size
    clear hr
    go_enter Try.func28, Try.ntmps28
    go_wp2
    go_ret
    exact ⟨_, _, rfl, Own.nil _ _ _ _, Below.refl _ _⟩
  | some p =>
    have h1 : Own .u8 5 w.heap.size (w.alloc (.cells #[] 5)) (.slice (some ⟨w.heap.size, 0, none⟩) 0 0) [] := by
      have := Own.lit .u8 5 w [] (by simp [maxLen]) (by decide)
      simpa using this
    have hb : Below w.heap.size w (w.alloc (.cells #[] 5)) := (Below.refl _ _).alloc (Nat.le_refl _) _
    have HR := hid (hr.below hb)
    have hsz := hr.size
    clear hr
    go_enter Try.func28, Try.ntmps28
    go_wp2_with (at_builtin; go_must (refine wpList_more CT8 rfl _ _ rfl rfl rfl h1 hb HR.out (by simp; omega) ?_); intro v3 w3 ho3 hb3)
    rw [List.nil_append] at ho3
    obtain ⟨a', c', rfl, _⟩ := ho3.reads
    rw [hsz] at ho3
    go_ret
    exact ⟨a', c', by rw [← hsz]; rfl, ho3, hb3⟩

/-- A number that is a place. -/
abbrev Pl (B : Nat) := { x : Int // 0 ≤ x ∧ x ≤ (B : Int) }
def valP {B : Nat} (pre : List (Pl B)) : List Int := pre.map (fun x => x.1)
def valQ {B : Nat} (pre : List (Nat × Pl B)) : List Int := pre.map (fun x => x.2.1)
theorem valP_snoc {B : Nat} (pre : List (Pl B)) (x : Pl B) : valP (pre ++ [x]) = valP pre ++ [x.1] := by simp [valP]
theorem valQ_snoc {B : Nat} (pre : List (Nat × Pl B)) (x : Nat × Pl B) : valQ (pre ++ [x]) = valQ pre ++ [x.2.1] := by simp [valQ]
def encP {B : Nat} (x : Pl B) : Array Value := #[.int .i64 x.1]
def encQ {B : Nat} (x : Nat × Pl B) : Array Value := #[.int .i64 x.1, .int .i64 x.2.1]

/-- What a round keeps: what lay below n₀; the box Bs; the row that is gone through. -/
def KeepsRow (n₀ Bs : Nat) (t : TypeId) (a : Option Addr) (len cap : Nat) (zs : List Int) (W W' : World) : Prop :=
  Below n₀ W W' ∧ (∀ v, Boxed W Bs t v → Boxed W' Bs t v) ∧ (Reads .i64 W a len cap zs → Reads .i64 W' a len cap zs)
theorem KeepsRow.refl (n₀ Bs : Nat) (t : TypeId) (a : Option Addr) (len cap : Nat) (zs : List Int) (W : World) : KeepsRow n₀ Bs t a len cap zs W W := ⟨Below.refl _ _, fun _ h => h, fun h => h⟩
theorem keepsRow_t {n₀ Bs : Nat} {t : TypeId} {a : Option Addr} {len cap : Nat} {zs : List Int} {A B C : World} (h : KeepsRow n₀ Bs t a len cap zs A B) (k : KeepsRow n₀ Bs t a len cap zs B C) : KeepsRow n₀ Bs t a len cap zs A C :=
  ⟨h.1.trans k.1, fun v hv => k.2.1 v (h.2.1 v hv), fun hr => k.2.2 (h.2.2 hr)⟩
/-- A row reads as it did where its own block has not turned. -/
theorem Reads.blocks {k : IntKind} {w w' : World} {a : Option Addr} {len cap : Nat} {xs : List Int} (h : Reads k w a len cap xs) (hs : w.heap.size ≤ w'.heap.size)
    (hb : ∀ b off, 0 < len → a = some ⟨b, off, none⟩ → w'.heap[b]? = w.heap[b]?) : Reads k w' a len cap xs :=
  ⟨h.size, h.room, h.top, h.wf, fun hl => by
    obtain ⟨b, off, ha, hlt, hc⟩ := h.cell hl
    exact ⟨b, off, ha, Nat.lt_of_lt_of_le hlt hs, fun i hi => (World.cell?_of_block (hb b off hl ha)).trans (hc i hi)⟩⟩
theorem Reads.isCells {k : IntKind} {w : World} {b off : Nat} {len cap : Nat} {xs : List Int} (h : Reads k w (some ⟨b, off, none⟩) len cap xs) (hl : 0 < len) : ∃ C e fz, w.heap[b]? = some (.cells C e fz) := by
  obtain ⟨b', off', ha, hlt, hc⟩ := h.cell hl
  cases ha
  have h0 := hc 0 hl
  unfold World.cell? at h0
  cases hh : w.heap[b]? with
  | none => rw [hh] at h0; cases h0
  | some o =>
    rw [hh] at h0
    cases o with
    | cells C e fz => exact ⟨C, e, fz, rfl⟩
    | _ => simp at h0
theorem Reads.putObj {k : IntKind} {w : World} {a : Option Addr} {len cap : Nat} {xs : List Int} (h : Reads k w a len cap xs) {l : Nat} {o : Obj} (o' : Obj) (hl : w.heap[l]? = some o) (ho : o.isCells = false) : Reads k (w.putObj l o') a len cap xs := by
  refine h.blocks (grownBy_putObj' w l o').size fun b off hp ha => ?_
  subst ha
  obtain ⟨C, e, fz, hC⟩ := h.isCells hp
  refine (grownBy_putObj' w l o').block b (Array.getElem?_eq_some_iff.1 hC).1 ?_
  intro e
  cases e
  rw [hC] at hl; cases hl; cases ho
theorem keepsRow_b {n₀ Bs : Nat} {t : TypeId} {a : Option Addr} {len cap : Nat} {zs : List Int} {w : World} (hn : n₀ ≤ w.heap.size) (W : World) (l : Nat) (o o' : Obj) (hl : w.heap.size ≤ l) (h : W.heap[l]? = some o) (hc : o.isCells = false) (hw : o.isWalk = false) : KeepsRow n₀ Bs t a len cap zs W (W.putObj l o') :=
  ⟨belowK_b hn W l o o' hl h hc hw, fun v hv => hv.kept (grownBy_putObj' W l o') (by
    intro e
    cases e
    rw [show W.heap[Bs]? = _ from hv] at h
    cases h
    cases hc), fun hr => hr.putObj o' h hc⟩
theorem boxed_below {W W' : World} {B : Nat} {t : TypeId} {v : Value} (h : Boxed W B t v) (hb : Below W.heap.size W W') : Boxed W' B t v := (hb.block B h.lt).trans h

set_option maxRecDepth 100000 in
set_option maxHeartbeats 2000000 in
theorem values1_in (n l Bs n₀ : Nat) (hn : 1 ≤ n) (a : Option Addr) (len cap B : Nat) (zs : List Int) (hz : ∀ x ∈ zs, 0 ≤ x ∧ x ≤ (B : Int)) (J Jx : List (Pl B) → World → Prop) (W : World)
    (hr : Reads .i64 W a len cap zs) (hBs : Boxed W Bs 24 (.slice a len cap))
    (hY : ∀ pre x W, J pre W → pre.length < len → YieldAt Fence.wide (n - 1) Try.prog l (encP x) W fun e W' =>
      (e = .returned (.bool true) ∧ J (pre ++ [x]) W' ∧ KeepsRow n₀ Bs 24 a len cap zs W W') ∨ (e = .returned (.bool false) ∧ Jx (pre ++ [x]) W'))
    (h0 : J [] W) :
    CallsIn Fence.wide n Try.prog 34 #[.func (.yield l) #[] #[], .pointer (some ⟨Bs, 0, none⟩)] W fun e W' => (∃ v, e = .returned v) ∧
      ((∃ ys, valP ys = zs ∧ J ys W') ∨ (∃ pre, valP pre <+: zs ∧ Jx pre W')) := by
  have hl := hr.len_le
  have hsz := hr.size
  have hc0 := hBs.cell
  have HR := hid hr
  clear hr
  refine callsIn_of_wp Try.func34 rfl trivial ?_ rfl
  simp only [Try.ntmps34, List.size_toArray, List.length_cons, List.length_nil, Nat.reduceAdd, Nat.reduceSub, Array.replicate_succ, Array.replicate_zero, List.push_toArray, List.append_toArray, List.nil_append, List.cons_append]
  gi_wp2
  gi_loopw [7] (fun i wr => ∃ (k : Nat) (pre : List (Pl B)), k ≤ len ∧ pre.length = k ∧ i = .int .i64 k ∧ Hid (valP pre = zs.take k) ∧ J pre wr ∧ Hid (Reads .i64 wr a len cap zs)) (fun i _ => len - (intOf i).toNat)
  case atStart => exact ⟨0, [], Nat.zero_le _, rfl, rfl, rfl, h0, HR⟩
  case round =>
    obtain ⟨k, pre, hk, hpk, rfl, hps, hJs, hrd⟩ := hrel
    by_cases hlt : k < len
    · obtain ⟨b, off, x, rfl, _, hc, hx⟩ := hrd.out.getI hlt
      obtain ⟨fn, tmps, assign, body, hy, hR⟩ := hY pre ⟨x, hz x (List.mem_of_getElem? hx.out.1)⟩ wr hJs (by omega)
      dsimp only [encP] at hy
      gi_wp2
      refine hR.mono ?_
      rintro e W3 (⟨rfl, hJ3, hk3⟩ | ⟨rfl, hJx3⟩)
      · have hrd3 := hid (hk3.2.2 hrd.out)
        gi_wp2
        go_roundw
        case rel => exact ⟨k + 1, _, by omega, by simp; omega, by go_num, by rw [Hid, valP_snoc, hps.out]; exact hx.out.2.1.symm, hJ3, hrd3⟩
        case measure => simp [intOf]; omega
      · gi_wp2
        refine bodyPost_ret (results_none rfl _ _ _) rfl ?_
        exact ⟨⟨_, rfl⟩, .inr ⟨_, by rw [valP_snoc, hps.out]; dsimp only; rw [← hx.out.2.1]; exact List.take_prefix _ _, hJx3⟩⟩
    · gi_wp2
      go_end0
      exact ⟨⟨_, rfl⟩, .inl ⟨_, by rw [hps.out]; exact hrd.out.all (by omega), hJs⟩⟩
set_option maxHeartbeats 1000000 in
theorem slices_Values (n : Nat) (a : Option Addr) (len cap : Nat) (w : World) :
    CallsIn Fence.wide n Try.prog 26 #[.slice a len cap] w fun e w' => e = .returned (.func (.func 34) #[] #[.pointer (some ⟨w.heap.size, 0, none⟩)]) ∧ w' = w.alloc (.cells #[.slice a len cap] 24) := by
  refine callsIn_of_wp Try.func26 rfl trivial ?_ rfl
  simp only [Try.ntmps26, List.size_toArray, List.length_cons, List.length_nil, Nat.reduceAdd, Nat.reduceSub, Array.replicate_succ, Array.replicate_zero, List.push_toArray, List.append_toArray, List.nil_append, List.cons_append]
  gi_wp2
  go_ret
  exact ⟨rfl, rfl⟩
theorem values_stops (n Bs n₀ : Nat) (hn : 1 ≤ n) (a : Option Addr) (len cap B : Nat) (zs : List Int) (hz : ∀ x ∈ zs, 0 ≤ x ∧ x ≤ (B : Int)) (w : World) (hr : Reads .i64 w a len cap zs) (hBs : Boxed w Bs 24 (.slice a len cap)) :
    SeqStopsK Fence.wide n Try.prog 34 #[.pointer (some ⟨Bs, 0, none⟩)] (encP (B := B)) (KeepsRow n₀ Bs 24 a len cap zs) (fun ys => valP ys = zs) (fun pre => valP pre <+: zs) len w := fun l J Jx W hW hJ _ hY h0 =>
  values1_in n l Bs n₀ hn a len cap B zs hz J Jx W (hr.below hW) (boxed_below hBs hW) hY h0
theorem drop_rev {zs : List Int} {m : Nat} {x : Int} (hx : zs[m]? = some x) : (zs.drop m).reverse = (zs.drop (m + 1)).reverse ++ [x] := by
  have hk : m < zs.length := (List.getElem?_eq_some_iff.1 hx).1
  have e : zs[m] = x := (List.getElem?_eq_some_iff.1 hx).2
  rw [List.drop_eq_getElem_cons hk, e]; simp
theorem drop_rev_pre (zs : List Int) (m : Nat) : (zs.drop m).reverse <+: zs.reverse := by
  conv => rhs; rw [← List.take_append_drop m zs, List.reverse_append]
  exact List.prefix_append _ _
set_option maxRecDepth 100000 in
set_option maxHeartbeats 2000000 in
theorem backward1_in (n l Bs n₀ : Nat) (hn : 1 ≤ n) (a : Option Addr) (len cap B : Nat) (zs : List Int) (hz : ∀ x ∈ zs, 0 ≤ x ∧ x ≤ (B : Int)) (J Jx : List (Nat × Pl B) → World → Prop) (W : World)
    (hr : Reads .i64 W a len cap zs) (hBs : Boxed W Bs 24 (.slice a len cap))
    (hY : ∀ pre x W, J pre W → pre.length < len → YieldAt Fence.wide (n - 1) Try.prog l (encQ x) W fun e W' =>
      (e = .returned (.bool true) ∧ J (pre ++ [x]) W' ∧ KeepsRow n₀ Bs 24 a len cap zs W W') ∨ (e = .returned (.bool false) ∧ Jx (pre ++ [x]) W'))
    (h0 : J [] W) :
    CallsIn Fence.wide n Try.prog 35 #[.func (.yield l) #[] #[], .pointer (some ⟨Bs, 0, none⟩)] W fun e W' => (∃ v, e = .returned v) ∧
      ((∃ ys, valQ ys = zs.reverse ∧ J ys W') ∨ (∃ pre, valQ pre <+: zs.reverse ∧ Jx pre W')) := by
  have hl := hr.len_le
  have hsz := hr.size
  have hc0 := hBs.cell
  have HR := hid hr
  have HB := hid hBs
  clear hr hBs
  refine callsIn_of_wp Try.func35 rfl trivial ?_ rfl
  simp only [Try.ntmps35, List.size_toArray, List.length_cons, List.length_nil, Nat.reduceAdd, Nat.reduceSub, Array.replicate_succ, Array.replicate_zero, List.push_toArray, List.append_toArray, List.nil_append, List.cons_append]
  gi_wp2
  gi_loopw [3] (fun i wr => ∃ (m : Nat) (pre : List (Nat × Pl B)), m ≤ len ∧ pre.length = len - m ∧ i = .int .i64 ((m : Int) - 1) ∧ Hid (valQ pre = (zs.drop m).reverse) ∧ J pre wr ∧ Hid (Reads .i64 wr a len cap zs) ∧ Hid (Boxed wr Bs 24 (.slice a len cap))) (fun i _ => (intOf i + 1).toNat)
  case atStart => exact ⟨len, [], Nat.le_refl _, by simp, rfl, by rw [List.drop_of_length_le (by omega)]; rfl, h0, HR, HB⟩
  case round =>
    obtain ⟨m, pre, hm, hpk, rfl, hps, hJs, hrd, hB⟩ := hrel
    clear hc0
    have hc0 := hB.out.cell
    cases m with
    | succ m =>
      obtain ⟨b, off, x, rfl, _, hc, hx⟩ := hrd.out.getI (i := m) (by omega)
      obtain ⟨fn, tmps, assign, body, hy, hR⟩ := hY pre (m, ⟨x, hz x (List.mem_of_getElem? hx.out.1)⟩) wr hJs (by omega)
      dsimp only [encQ] at hy
      have e1 : ((m + 1 : Nat) : Int) - 1 = (m : Int) := by omega
      gi_wp2
      refine hR.mono ?_
      rintro e W3 (⟨rfl, hJ3, hk3⟩ | ⟨rfl, hJx3⟩)
      · have hrd3 := hid (hk3.2.2 hrd.out)
        have hB3 := hid (hk3.2.1 _ hB.out)
        gi_wp2
        go_roundw
        case rel => exact ⟨m, _, by omega, by simp; omega, by first | go_num | (congr 1; omega), by rw [Hid, valQ_snoc, hps.out]; exact (drop_rev hx.out.1).symm, hJ3, hrd3, hB3⟩
        case measure => simp [intOf]
      · gi_wp2
        refine bodyPost_ret (results_none rfl _ _ _) rfl ?_
        exact ⟨⟨_, rfl⟩, .inr ⟨_, by rw [valQ_snoc, hps.out]; dsimp only; rw [← drop_rev hx.out.1]; exact drop_rev_pre _ _, hJx3⟩⟩
    | zero =>
      gi_wp2
      go_end0
      exact ⟨⟨_, rfl⟩, .inl ⟨_, by rw [hps.out]; rfl, hJs⟩⟩
set_option maxHeartbeats 1000000 in
theorem slices_Backward (n : Nat) (a : Option Addr) (len cap : Nat) (w : World) :
    CallsIn Fence.wide n Try.prog 27 #[.slice a len cap] w fun e w' => e = .returned (.func (.func 35) #[] #[.pointer (some ⟨w.heap.size, 0, none⟩)]) ∧ w' = w.alloc (.cells #[.slice a len cap] 24) := by
  refine callsIn_of_wp Try.func27 rfl trivial ?_ rfl
  simp only [Try.ntmps27, List.size_toArray, List.length_cons, List.length_nil, Nat.reduceAdd, Nat.reduceSub, Array.replicate_succ, Array.replicate_zero, List.push_toArray, List.append_toArray, List.nil_append, List.cons_append]
  gi_wp2
  go_ret
  exact ⟨rfl, rfl⟩
theorem backward_stops (n Bs n₀ : Nat) (hn : 1 ≤ n) (a : Option Addr) (len cap B : Nat) (zs : List Int) (hz : ∀ x ∈ zs, 0 ≤ x ∧ x ≤ (B : Int)) (w : World) (hr : Reads .i64 w a len cap zs) (hBs : Boxed w Bs 24 (.slice a len cap)) :
    SeqStopsK Fence.wide n Try.prog 35 #[.pointer (some ⟨Bs, 0, none⟩)] (encQ (B := B)) (KeepsRow n₀ Bs 24 a len cap zs) (fun ys => valQ ys = zs.reverse) (fun pre => valQ pre <+: zs.reverse) len w := fun l J Jx W hW hJ _ hY h0 =>
  backward1_in n l Bs n₀ hn a len cap B zs hz J Jx W (hr.below hW) (boxed_below hBs hW) hY h0

end Go.Proofs.Ytpdlnbomjknhiaa
