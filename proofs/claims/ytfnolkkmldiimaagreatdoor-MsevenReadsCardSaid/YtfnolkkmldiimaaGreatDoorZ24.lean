/-
  Texts of ours laid together: Itm, C23b, C06c, C06d.
-/
import Derived.Test.YtfnolkkmldiimaaGreatDoorZ23

/-! Itm -/
namespace Go.Proofs.YtfnolkkmldiimaaGreatDoor
open Go.RowKit Go.Shelf
set_option linter.unusedVariables false

/-- What an iterator promises whose receiver (rv) is bound: for every invariant J of the rounds, if each round keeps what lies below n₀, J holds of all of the elements in the end. -/
def Gives {α : Type} (F : Fence) (n : Nat) (P : Program) (g : Nat) (rv : Array Value) (encs : α → Array Value) (n₀ : Nat) (S : List α → Prop) (N : Nat) (w : World) : Prop :=
  ∀ (l : Nat) (J : List α → World → Prop) (W : World), Below w.heap.size w W → AbidesFrom W.heap.size J →
    (∀ pre x W1, J pre W1 → pre.length < N → YieldAt F (n - 1) P l (encs x) W1 fun e W' => e = .returned (.bool true) ∧ J (pre ++ [x]) W' ∧ Below n₀ W1 W') → J [] W →
    CallsIn F n P g (rv ++ #[.func (.yield l) #[] #[]]) W fun e W' => (∃ v, e = .returned v) ∧ ∃ ys, S ys ∧ J ys W'

variable {F : Fence} {n : Nat} {P : Program}

theorem wpIn_rangeRecv {α : Type} {g : Operand} {ps : Array Tmp} {assign body : Code} {Q : Exit → Act → World → Prop} {a : Act} {w w0 : World} {gf n₀ N : Nat} {rv : Array Value} {encs : α → Array Value} {S : List α → Prop}
    (hro : F.round = none) (h1 : 1 ≤ n) (hg : a.eval g = .func (.func gf) rv #[]) (hF : F.fn gf) (eg : ∀ args w, (callFunc gf args).run P w = .ok (.enter gf args) w)
    (hseq : Gives F (n - 1) P gf rv encs n₀ S N w0) (hn : n₀ ≤ w.heap.size) (hb : Below w0.heap.size w0 w) (hps : ∀ x, (encs x).size = ps.size)
    (I : List α → World → Prop) (hI : OwnFrom w.heap.size I) (hI0 : I [] w)
    (X : α → Act → World → Prop) (hX : ∀ x a', OwnFrom w.heap.size (fun (_ : Unit) W => X x a' W))
    (hassign : ∀ (l : Nat) (pre : List α) (x : α) (W : World) (K : Act → World → Prop), I pre W → pre.length < N → (∀ a' W', KeepsFrom w.heap.size W W' → Below n₀ W W' → I pre W' → X x a' W' → K a' W') →
      assign.wpIn (F.inRound l) (n - 1 - 1) P (Exit.then K (fun _ _ _ => False)) { tmps := (ps.zip (encs x)).foldl (fun t (p, v) => t.setIfInBounds p v) a.tmps, defers := [] } W)
    (hbody : ∀ (l : Nat) (pre : List α) (x : α) (a' : Act) (W : World), I pre W → X x a' W → pre.length < N → body.wpIn (F.inRound l) (n - 1 - 1) P (fun e _ W' => e = .normal ∧ KeepsFrom w.heap.size W W' ∧ Below n₀ W W' ∧ I (pre ++ [x]) W') a' W)
    (hdone : ∀ (D : Nat) (ys : List α) (W : World), w.heap.size ≤ D → S ys → I ys W → W.heap[D]? = some (.deferred (some [])) → Q .normal { a with defers := { target := .collected D, args := #[] } :: a.defers } W) :
    (Code.rangeFunc g ps assign body).wpIn F n P Q a w := by
  have hnl : (w.alloc (.deferred (some []))).heap.size = w.heap.size + 1 := by simp
  refine wpIn_rangeFunc fun fn hfn => ?_
  rw [hro]
  -- the loop's record, ready (r), busy (u), done with (d)
  generalize hr : ({ state := .ready, pending := none, fn := fn, tmps := a.tmps, params := ps, assign := assign, body := body, defers := w.heap.size } : Loop) = r
  have r1 : r.fn = fn ∧ r.tmps = a.tmps ∧ r.params = ps ∧ r.assign = assign ∧ r.body = body ∧ r.state = .ready ∧ r.pending = none := by rw [← hr]; exact ⟨rfl, rfl, rfl, rfl, rfl, rfl, rfl⟩
  generalize hV : (w.alloc (.deferred (some []))).alloc (.loop r) = V
  have v1 : V.heap[w.heap.size + 1]? = some (.loop r) := by
    have h := World.alloc_heap_new (w.alloc (.deferred (some []))) (.loop r)
    rw [hnl] at h
    rw [← hV]
    exact h
  have v0 : V.heap[w.heap.size]? = some (.deferred (some [])) := by
    rw [← hV, Below.heap_alloc _ _ _ (by simp)]
    exact World.alloc_heap_new w _
  have vI : I [] V := by rw [← hV]; exact hI.alloc _ (hI.alloc _ hI0)
  have vb : Below w.heap.size w V := by rw [← hV]; exact ((Below.refl _ w).alloc (Nat.le_refl _) _).alloc (by simp) _
  have vs := vb.size
  refine ⟨w.heap.size + 1, [{ target := .collected w.heap.size, args := #[] }], V, { target := .fn (.func gf) #[], args := rv ++ #[.func (.yield (w.heap.size + 1)) #[] #[]] }, V, gf, rv ++ #[.func (.yield (w.heap.size + 1)) #[] #[]], V, ?_, ?_, ?_, ?_, fun _ => h1, ?_⟩
  · rw [run_enterLoop_outer, hr, hV]
  · simp only [resolve, hg]
    simp [go_sem]
  · intro f' hf'
    simp [Target.leads] at hf'
    exact hf' ▸ hF
  · simp [invoke, go_sem, eg]
  -- what the rounds keep beside I: the record and the block for deferred calls
  have key : ∀ {A B : World} {row : Option Nat}, (∀ k, row = some k → V.heap.size ≤ k ∧ ∃ o : Obj, A.heap[k]? = some o ∧ o.isWalk = true) → ∀ k, row = some k → w.heap.size ≤ k ∧ ∃ o : Obj, A.heap[k]? = some o ∧ o.isCells = false := by
    intro A B row hrow k hk
    obtain ⟨h2, o, ho, hw⟩ := hrow k hk
    exact ⟨Nat.le_trans vs h2, o, ho, Obj.not_cells_of_walk hw⟩
  refine (hseq (w.heap.size + 1) (fun pre W => I pre W ∧ W.heap[w.heap.size + 1]? = some (.loop r) ∧ W.heap[w.heap.size]? = some (.deferred (some []))) V (hb.trans (vb.mono hb.size)) ?_ ?_ ⟨vI, v1, v0⟩).mono ?_
  · rintro s A B row ⟨q1, q2, q3⟩ hgr hrow
    have hw := fun k hk => (hrow k hk).2
    exact ⟨hI s A B row q1 hgr (key (B := B) hrow), by rw [grownBy_keeps hgr hw q2 rfl, q2], by rw [grownBy_keeps hgr hw q3 rfl, q3]⟩
  · rintro pre x W ⟨q1, q2, q3⟩ hlen
    have hy := run_yield (P := P) (args := encs x) q2 (by rw [r1.2.2.1]; exact hps x)
    rw [r1.1, r1.2.1, r1.2.2.1, r1.2.2.2.1, r1.2.2.2.2.1] at hy
    refine ⟨fn, _, assign, body, hy, roundIn_of_wpIn hfn (hassign _ pre x W _ q1 hlen ?_)⟩
    intro a' W1 hk1 hb1 hi1 hx1
    have q4 := hk1.same _ _ (by omega) q2 rfl
    have q5 := hk1.same _ _ (Nat.le_refl _) q3 rfl
    have hlt := (Array.getElem?_eq_some_iff.1 q4).1
    refine ⟨_, run_beginRound q4 r1.2.2.2.2.2.1, ?_⟩
    have q6 : (W1.putObj (w.heap.size + 1) (.loop { r with state := .busy })).heap[w.heap.size + 1]? = some (.loop { r with state := .busy }) := World.putObj_heap_same hlt
    have q7 : (W1.putObj (w.heap.size + 1) (.loop { r with state := .busy })).heap[w.heap.size]? = some (.deferred (some [])) := (World.putObj_heap_other (by omega)).trans q5
    have b2 := belowK_b (n₀ := n₀) hn W1 (w.heap.size + 1) _ (.loop { r with state := .busy }) (by omega) q4 rfl rfl
    refine wpIn_mono (hbody _ pre x a' _ (hI.putObj _ hi1 (by omega) q4 rfl) ((hX x a').putObj (s := ()) _ hx1 (by omega) q4 rfl) hlen) ?_
    rintro e a3 W3 ⟨rfl, hk3, hb3, hi3⟩
    have q8 := hk3.same _ _ (by omega) q6 rfl
    have q9 := hk3.same _ _ (Nat.le_refl _) q7 rfl
    refine ⟨_, _, run_endRound none q8, rfl, ⟨hI.putObj _ hi3 (by omega) q8 rfl, ?_, (World.putObj_heap_other (by omega)).trans q9⟩, (hb1.trans b2).trans (hb3.trans (belowK_b hn W3 _ _ _ (by omega) q8 rfl rfl))⟩
    rw [World.putObj_heap_same (Array.getElem?_eq_some_iff.1 q8).1, ← hr]
    rfl
  · rintro e W2 ⟨⟨v, rfl⟩, ys, hS, q1, q2, q3⟩
    have he := run_endLoop (P := P) q2 (by rw [r1.2.2.2.2.2.1]; simp)
    rw [r1.2.2.2.2.2.2] at he
    exact ⟨none, _, he, hdone _ ys _ (Nat.le_refl _) hS (hI.putObj _ q1 (by omega) q2 rfl) ((World.putObj_heap_other (by omega)).trans q3)⟩
end Go.Proofs.YtfnolkkmldiimaaGreatDoor

/-! C23b -/
namespace Go.Proofs.YtfnolkkmldiimaaGreatDoor
open Go.RowKit Go.Shelf
set_option linter.unusedVariables false
attribute [local go_sem] Oper.semAt_some

def Pc.up {w0 : World} {m L : Nat} (p : Pc w0 m) (h : m ≤ L) : Pc w0 L := ⟨p.a, p.m, p.c, p.d, p.s, p.r, p.hr, Nat.le_trans p.hl h, p.h0, p.h1, p.hd⟩
theorem seg7_next {xs : List Int} (h : xs ≠ []) : seg7 xs = u7 xs :: seg7 (xs.drop (nx7 xs)) := by
  cases xs with
  | nil => exact absurd rfl h
  | cons x r => exact seg7_cons x r

set_option maxRecDepth 100000 in
set_option maxHeartbeats 2000000 in
theorem pieces_gives (n n₀ : Nat) (hn : 1 ≤ n) (a : Option Addr) (len cap : Nat) (xs : List Int) (w0 w : World) (hr : Reads .u8 w0 a len cap xs) (hN : len < 10000000000) (hw0 : w0.heap.size ≤ n₀) (hn₀ : n₀ ≤ w.heap.size) (hb0 : Below w0.heap.size w0 w) :
    Gives (α := Pc w0 len) Fence.wide n Tryz.prog 89 #[.slice a len cap] (fun x => #[x.enc]) n₀ (fun ys => ys.map Pc.val = seg7 xs) len w := by
  intro l J W hW hJ hY h0
  show CallsIn _ _ _ _ #[.slice a len cap, .func (.yield l) #[] #[]] W _
  have hbW := hb0.trans (hW.mono (Nat.le_trans hw0 hn₀))
  have hnW := Nat.le_trans hn₀ hW.size
  have HR := hid hr
  clear hr
  refine callsIn_of_wp Tryz.func89 rfl trivial ?_ rfl
  simp only [Tryz.ntmps89, List.size_toArray, List.length_cons, List.length_nil, Nat.reduceAdd, Nat.reduceSub, Array.replicate_succ, Array.replicate_zero, List.push_toArray, List.append_toArray, List.nil_append, List.cons_append]
  gi_wp2_with fail
  gi_loopw [0] (fun v wr => ∃ (m : Nat) (a' : Option Addr) (c' : Nat) (ys : List Int) (pre : List (Pc w0 len)), pre.length + m ≤ len ∧ v = .slice a' m c' ∧ Hid (pre.map Pc.val ++ seg7 ys = seg7 xs) ∧ J pre wr ∧ Hid (Reads .u8 w0 a' m c' ys) ∧ Below n₀ W wr) (fun v _ => lenV v)
  case atStart => exact ⟨len, a, cap, xs, [], by simp, rfl, rfl, h0, HR, Below.refl _ _⟩
  case round =>
    obtain ⟨m, a', c', ys, pre, hpm, rfl, hps, hJs, hR, hnx⟩ := hrel
    have hszy := hR.out.size
    have hroom := hR.out.room
    by_cases hlt : 0 < m
    · obtain ⟨b, off, rfl, _⟩ := hR.out.cell hlt
      have hne : ys ≠ [] := by intro h; subst h; simp at hszy; omega
      have hF := sread_first w0 wr _ m c' ys hR.out (hbW.trans (hnx.mono hw0)) (by omega) hlt
      have hsg := seg7_next hne
      have hp1 : nx7 ys ≤ m := by
        cases ys with
        | nil => exact absurd rfl hne
        | cons x r => have := nx7_le x r; omega
      have hp0 : 0 < nx7 ys := by
        cases ys with
        | nil => exact absurd rfl hne
        | cons x r => exact nx7_pos x r
      obtain ⟨k, hk⟩ : ∃ k, k = nx7 ys := ⟨_, rfl⟩
      rw [← hk] at hF hsg hp1 hp0
      have hpc := hR.out.piece (l := k) (r := m) hp1 (Nat.le_refl _)
      rw [List.take_of_length_le (by omega)] at hpc
      rw [Option.map_some, Addr.add_lit] at hpc
      have hnext : Hid (∀ X : Pc w0 len, X.val = Go.Proofs.YtfnolkkmldiimaaGreatDoor.u7 ys → (pre ++ [X]).map Pc.val ++ seg7 (ys.drop k) = seg7 xs) := fun X hX => by
        rw [← hps.out, hsg, List.map_append, List.append_assoc, ← hX]; rfl
      have hpl : pre.length < len := by omega
      clear hsg hne hps hk
      have q1 : (k : Int) ≤ (m : Int) := by omega
      have q2 : (0 : Int) ≤ (k : Int) := by omega
      have q3 : (k : Int) ≤ (c' : Int) := by omega
      by_cases hc : c' = k
      all_goals
        first | (rw [if_pos hc] at hpc; have r3 : (c' = k) = True := eq_true hc) | (rw [if_neg hc] at hpc; have r3 : (c' = k) = False := eq_false hc)
        have HPC := hid hpc
        clear hpc hc
        gi_wp2_with (refine ⟨trivial, ?_⟩; gi_at_call 106; (with_reducible refine (callsIn_wide.2 hF).mono ?_); rintro e w1 ⟨p, rfl, hpv, hb1⟩; have HV := hid (hnext.out (p.up (by omega)) hpv); clear hpv hnext; simp only [Pc.enc]; (obtain ⟨fn, tmps, assign, body, hy, hR2⟩ := hY pre (p.up (by omega)) _ (abides_below hJ hJs (hb1.alloc hb1.size (.cells #[.slice p.a p.m p.c, .int .i32 p.s, .bool p.r] 126))) hpl); simp only [Pc.enc, Pc.up] at hy)
        refine hR2.mono ?_
        rintro e W3 ⟨rfl, hJ3, hk3⟩
        have hnx3 := ((hnx.trans ((hb1.alloc hb1.size (.cells #[.slice p.a p.m p.c, .int .i32 p.s, .bool p.r] 126)).mono (Nat.le_trans hnW hnx.size)))).trans hk3
        gi_wp2_with fail
        go_roundw
        case rel => exact ⟨m - k, _, _, _, _, by simp; omega, rfl, HV, hJ3, HPC, hnx3⟩
        case measure => simp [lenV]; omega
    · obtain rfl : m = 0 := by omega
      obtain rfl : ys = [] := List.eq_nil_of_length_eq_zero hszy
      have hend : Hid (pre.map Pc.val = seg7 xs) := by
        have := hps.out
        rw [seg7_nil, List.append_nil] at this
        exact this
      gi_wp2_with fail
      go_end0
      exact ⟨⟨_, rfl⟩, _, hend.out, hJs⟩
end Go.Proofs.YtfnolkkmldiimaaGreatDoor

/-! C06c -/
namespace Go.Proofs.YtfnolkkmldiimaaGreatDoor
open Go.RowKit
set_option linter.unusedVariables false

end Go.Proofs.YtfnolkkmldiimaaGreatDoor

/-! C06d -/
namespace Go.Proofs.YtfnolkkmldiimaaGreatDoor
open Go.RowKit Go.Shelf
set_option linter.unusedVariables false
attribute [local go_sem] Oper.semAt_some

def lenOfV : Value → Nat
  | .slice _ n _ => n
  | _ => 0
set_option maxRecDepth 100000 in
set_option maxHeartbeats 2000000 in
theorem usigns1_in (n l Bs n₀ : Nat) (hn : 1 ≤ n) (a : Option Addr) (len cap : Nat) (xs : List Int) (J Jx : List (Int × Int) → World → Prop) (W : World)
    (hJa : AbidesFrom W.heap.size J) (hn₀ : n₀ ≤ W.heap.size) (w0 : World) (hw0 : w0.heap.size ≤ n₀) (hr : Reads .u16 w0 a len cap xs) (hb0 : Below w0.heap.size w0 W)
    (hY : ∀ pre x W, J pre W → pre.length < len → YieldAt Fence.wide (n - 1) Tryz.prog l (encS x) W fun e W' =>
      (e = .returned (.bool true) ∧ J (pre ++ [x]) W' ∧ KeepsBox n₀ Bs 46 W W') ∨ (e = .returned (.bool false) ∧ Jx (pre ++ [x]) W'))
    (hBs : Boxed W Bs 46 (.slice a len cap)) (h0 : J [] W) :
    CallsIn Fence.wide n Tryz.prog 98 #[.func (.yield l) #[] #[], .pointer (some ⟨Bs, 0, none⟩)] W fun e W' => (∃ v, e = .returned v) ∧
      ((∃ ys, ys = usigs xs ∧ J ys W') ∨ (∃ pre, pre <+: usigs xs ∧ Jx pre W')) := by
  have hl := hr.len_le
  have HR := hid hr
  have hc := hBs.cell
  clear hr
  refine callsIn_of_wp Tryz.func98 rfl trivial ?_ rfl
  simp only [Tryz.ntmps98, List.size_toArray, List.length_cons, List.length_nil, Nat.reduceAdd, Nat.reduceSub, Array.replicate_succ, Array.replicate_zero, List.push_toArray, List.append_toArray, List.nil_append, List.cons_append]
  gi_wp2
  gi_loopw [3] (fun v wr => ∃ (m : Nat) (a' : Option Addr) (c' : Nat) (ys : List Int) (pre : List (Int × Int)), pre.length + m ≤ len ∧ v = .slice a' m c' ∧ Hid (pre ++ usigs ys = usigs xs) ∧ J pre wr ∧ Hid (Reads .u16 w0 a' m c' ys) ∧ Below n₀ W wr) (fun v _ => lenOfV v)
  case atStart => exact ⟨len, a, cap, xs, [], by simp, rfl, rfl, h0, HR, Below.refl _ _⟩
  case round =>
    obtain ⟨m, a', c', ys, pre, hpm, rfl, hps, hJs, hR, hnx⟩ := hrel
    have hszy := hR.out.size
    have hroom := hR.out.room
    clear hc
    by_cases hlt : 0 < m
    · have hne : ys ≠ [] := by intro h; subst h; simp at hszy; omega
      have hrd := hR.out.below (hb0.trans (hnx.mono hw0))
      have hT := units_take _ _ _ _ _ hrd hne
      have hsg := usigs_cons hne
      have hp0 := utN_pos ys
      have hp1 := utN_le hne
      rw [hszy] at hp1
      have hpc := hid (hR.out.piece (l := utN ys) (r := m) hp1 (Nat.le_refl _))
      rw [List.take_of_length_le (by omega)] at hpc
      have hnext : Hid (pre ++ [ut1 ys] ++ usigs (ys.drop (utN ys)) = usigs xs) := by
        rw [Hid, ← hps.out, hsg, List.append_assoc]; rfl
      have hfs : Hid (pre ++ [ut1 ys] <+: usigs xs) := ⟨_, hnext.out⟩
      have hpl : pre.length < len := by omega
      clear hsg hne hps
      gi_wp2_with (refine ⟨trivial, ?_⟩; gi_at_call 99; (with_reducible refine (callsIn_wide.2 hT).mono ?_); rintro e w' ⟨rfl, n1, rfl⟩; obtain ⟨fn, tmps, assign, body, hy, hR⟩ := hY pre (ut1 ys) _ (abides_drewN hJa hJs n1) hpl; unfold encS at hy)
      refine hR.mono ?_
      rintro e W3 (⟨rfl, hJ3, hk3⟩ | ⟨rfl, hJx3⟩)
      · have hnx3 := (Below.drewN hnx n1).trans hk3.1
        gi_wp2_with fail
        trace_state
        all_goals
          go_roundw
          case rel => exact ⟨m - utN ys, _, _, _, _, by simp; omega, rfl, hnext, hJ3, by have := hpc.out; simp_all, hnx3⟩
          case measure => simp [lenOfV]; omega
      · gi_wp2_with fail
        refine bodyPost_ret (results_none rfl _ _ _) rfl ?_
        exact ⟨⟨_, rfl⟩, .inr ⟨_, hfs.out, hJx3⟩⟩
    · obtain rfl : m = 0 := by omega
      obtain rfl : ys = [] := List.eq_nil_of_length_eq_zero hszy
      have hend : Hid (pre = usigs xs) := by
        have := hps.out
        rw [usigs_nil, List.append_nil] at this
        exact this
      gi_wp2_with fail
      go_end0
      exact ⟨⟨_, rfl⟩, .inl ⟨_, hend.out, hJs⟩⟩
set_option maxHeartbeats 1000000 in
theorem units_signs (n : Nat) (a : Option Addr) (len cap : Nat) (w : World) :
    CallsIn Fence.wide n Tryz.prog 83 #[.slice a len cap] w fun e w' => e = .returned (.func (.func 98) #[] #[.pointer (some ⟨w.heap.size, 0, none⟩)]) ∧ w' = w.alloc (.cells #[.slice a len cap] 46) := by
  refine callsIn_of_wp Tryz.func83 rfl trivial ?_ rfl
  simp only [Tryz.ntmps83, List.size_toArray, List.length_cons, List.length_nil, Nat.reduceAdd, Nat.reduceSub, Array.replicate_succ, Array.replicate_zero, List.push_toArray, List.append_toArray, List.nil_append, List.cons_append]
  gi_wp2
  go_ret
  exact ⟨rfl, rfl⟩
/-- The value that signs hands back: all signs in their order; or a beginning, where a round has said 'no more'. -/
theorem usigns_stops (n Bs n₀ : Nat) (hn : 1 ≤ n) (a : Option Addr) (len cap : Nat) (xs : List Int) (w0 w : World) (hr : Reads .u16 w0 a len cap xs) (hw0 : w0.heap.size ≤ n₀) (hn₀ : n₀ ≤ w.heap.size) (hb0 : Below w0.heap.size w0 w)
    (hlt : Bs < w.heap.size) (hBs : Boxed w Bs 46 (.slice a len cap)) :
    SeqStopsK Fence.wide n Tryz.prog 98 #[.pointer (some ⟨Bs, 0, none⟩)] encS (KeepsBox n₀ Bs 46) (fun ys => ys = usigs xs) (fun pre => pre <+: usigs xs) len w := fun l J Jx W hW hJ _ hY h0 =>
  usigns1_in n l Bs n₀ hn a len cap xs J Jx W hJ (Nat.le_trans hn₀ hW.size) w0 hw0 hr (hb0.trans (hW.mono (Nat.le_trans hw0 hn₀))) hY ((hW.block Bs hlt).trans hBs) h0

end Go.Proofs.YtfnolkkmldiimaaGreatDoor
