/-
  bytes.IndexAny at 13 and 10.
-/
import Derived.Test.YtldmoopdffenfaaDoorDec
import Derived.Test.YtldmoopdffenfaaDoorCutB
import Derived.Test.YtldmoopdffenfaaDoorD19c
import Derived.Test.YtldmoopdffenfaaDoorR02
import Derived.Laws.RangeString
import Derived.Deep.WholeRow
import Derived.Deep.LoopGhost
namespace Go.Proofs.YtldmoopdffenfaaDoor
open Go.RowKit
set_option linter.unusedVariables false

/-- The cells of bytes.asciiSet's zero value (what the loader lays at a larger program by itself). -/
def zcSet : Array Value := Array.replicate 256 (.bool false)
@[simp] theorem zcSet_zero (w : World) : (zeroValue 49).run Tryd.prog w = .ok (.agg zcSet) w := (zero_of_info set_info).1 w
@[simp] theorem zcSet_ne : zcSet ≠ #[] := fun h => by have := congrArg Array.size h; revert this; unfold zcSet; simp
theorem zcSet_size : zcSet.size = 256 := by unfold zcSet; simp
theorem bytes_shouldUse (n : Nat) (w : World) :
    Calls Tryd.prog 30 #[.int .i64 n] w fun e w' => e = .returned (.bool (decide (8 < n))) ∧ w = w' := by
  go_enter Tryd.func30, Tryd.ntmps30
  go_wp2
  go_ret
  exact ⟨ret_bool (by rw [Bool.eq_iff_iff]; simp; omega), rfl⟩
theorem take_jump {xs : List Int} {i k : Nat} (hk : i + k ≤ xs.length) (hn : (xs.take i).any brkB = false) (h : ∀ j, j < k → 128 ≤ (xs.drop i).getD j 0) : (xs.take (i + k)).any brkB = false := by
  rw [List.take_add, List.any_append, hn, Bool.false_or, List.any_eq_false]
  intro x hx
  obtain ⟨j, hj, e⟩ := List.getElem_of_mem hx
  rw [List.length_take, List.length_drop] at hj
  have h1 := h j (by omega)
  rw [List.getD_eq_getElem?_getD, List.getElem?_eq_getElem (by rw [List.length_drop]; omega)] at h1
  rw [List.getElem_take] at e
  rw [e] at h1
  have : x ≠ 13 ∧ x ≠ 10 := ⟨by simp at h1; omega, by simp at h1; omega⟩
  simp [brkB, this.1, this.2]
theorem next_br0 (w : World) (ty : TypeId) : (Instr.next (.pointer (some ⟨w.heap.size, 0, none⟩)) true ty).run Tryd.prog (w.iter { data := #[13, 10] } 0) = .ok (.tuple #[.bool true, .int .i64 0, .int .i32 13]) (w.iter { data := #[13, 10] } 1) :=
  run_next_ascii w { data := #[13, 10] } 0 ty (by decide) (by decide)
theorem next_br1 (w : World) (ty : TypeId) : (Instr.next (.pointer (some ⟨w.heap.size, 0, none⟩)) true ty).run Tryd.prog (w.iter { data := #[13, 10] } 1) = .ok (.tuple #[.bool true, .int .i64 1, .int .i32 10]) (w.iter { data := #[13, 10] } 2) :=
  run_next_ascii w { data := #[13, 10] } 1 ty (by decide) (by decide)
theorem next_br2 (w : World) (ty : TypeId) : (Instr.next (.pointer (some ⟨w.heap.size, 0, none⟩)) true ty).run Tryd.prog (w.iter { data := #[13, 10] } 2) = .ok (.tuple #[.bool false]) (w.iter { data := #[13, 10] } 2) :=
  run_next_end w { data := #[13, 10] } 2 ty (by decide)
theorem iter_below {a w : World} (h : Below a.heap.size a w) (s : ByteArray) (i : Nat) : Below a.heap.size a (w.iter s i) := h.alloc h.size _
/-- A whole array, stored into the block just made. -/
theorem wpList_storeNewV {P : Program} {ops : Array Oper} {rest : List Oper} {op : Oper} {a : Act} {w0 w : World} {Q : Exit → Act → World → Prop} (c' : Array Value) (ty : TypeId) (x y : Operand) (hgd : op.guard = none) (ho : op.op = .store ty x y)
    (c : Array Value) (hw : w = w0.alloc (.cells c ty)) (hx : a.eval x = .pointer (some ⟨w0.heap.size, 0, none⟩)) (hy : a.eval y = .agg c')
    (hi : (P.info? ty).map (·.size) = some c'.size) (hs : c.size = c'.size) (h1 : c'.all (·.oneCell') = true)
    (h : wpList P ops Q rest (a.put op.dst undef) (w0.alloc (.cells c' ty))) : wpList P ops Q (op :: rest) a w := by
  subst hw
  refine wpList_plain hgd fun K hK => ?_
  have hrun := run_storeVar_new (P := P) w0 ty c c' hi hs h1
  unfold Oper.wp execOp
  simp only [ho, hx, hy, Instr.storeAt, Instr.sureAddr, Sem.run_bind, Sem.run_pure, Result.andThen_ok, hrun]
  exact hK _ _ h
set_option maxRecDepth 100000 in
set_option maxHeartbeats 8000000 in
theorem bytes_IndexAny (a : Option Addr) (len cap : Nat) (xs : List Int) (w : World) (hr : Reads .u8 w a len cap xs) (hT : Tabs w) (hm : Mx w) :
    Calls Tryd.prog 24 #[.slice a len cap, .string { data := #[13, 10] }] w fun e w' => e = .returned (.int .i64 (idxI brkB xs)) ∧ Below w.heap.size w w' := by
  have HR := hid hr
  have hl := hr.len_le
  have hsz := hr.size
  have hrm := hr.room
  clear hr
  by_cases h1 : len = 1
  · subst h1
    obtain ⟨b, off, x, rfl, _, hc, h0x, h1x, hx⟩ := HR.out.get8 (i := 0) (by omega)
    rw [Nat.add_zero] at hc
    have hxs : xs = [x] := by
      match xs, hsz with
      | [y], _ => have := hx.out.1; simp at this; rw [this]
    have hres : idxI brkB xs = if brkB x = true then 0 else -1 := by
      rw [hxs]
      cases hb : brkB x <;> simp [idxI, hb]
    have hib := ib_br h0x h1x
    have HE := ibsBr x
    by_cases h128 : 128 ≤ x
    · have hb : brkB x = false := decide_eq_false (by omega)
      rw [hb, if_neg (by decide)] at hres
      rw [hres]
      clear hib HE hx hxs hb hres
      go_enter Tryd.func24, Tryd.ntmps24
      go_wp2_with fail
      go_loopg [5] 2 (fun g _ wx => ∃ i : Nat, i + g = 2 ∧ wx = w.iter { data := #[13, 10] } i)
      case atStart => exact ⟨0, by omega, rfl⟩
      case round =>
        obtain ⟨i, hig, rfl⟩ := hrel
        match gk, hig with
        | 0, hig =>
          obtain rfl : i = 2 := by omega
          have hnx := next_br2 w
          go_wp2_with fail
          go_ret
          exact ⟨rfl, iter_below (Below.refl _ _) _ _⟩
        | 1, hig =>
          obtain rfl : i = 1 := by omega
          have hnx := next_br1 w
          go_wp2_with fail
          go_roundg 0
          case measure => omega
          case rel => exact ⟨2, by omega, rfl⟩
        | 2, hig =>
          obtain rfl : i = 0 := by omega
          have hnx := next_br0 w
          go_wp2_with fail
          go_roundg 1
          case measure => omega
          case rel => exact ⟨1, by omega, rfl⟩
        | g + 3, hig => exfalso; omega
    · rw [hres]
      have hb : brkB x = decide (0 ≤ Lib.indexByte [13, 10] x.toNat.toUInt8) := by rw [hib]; rfl
      rw [hb]
      clear hib hx hxs hb hres
      generalize Lib.indexByte [13, 10] x.toNat.toUInt8 = q at HE ⊢
      by_cases hq : 0 ≤ q
      · rw [decide_eq_true hq, if_pos rfl]
        go_enter Tryd.func24, Tryd.ntmps24
        go_wp2_with fail
        go_ret
        exact ⟨rfl, Below.refl _ _⟩
      · rw [decide_eq_false hq, if_neg (by decide)]
        go_enter Tryd.func24, Tryd.ntmps24
        go_wp2_with fail
        go_ret
        exact ⟨rfl, Below.refl _ _⟩
  · have hn1 : ((len : Int) == 1) = false := by rw [beq_eq_false_iff_ne]; omega
    by_cases h8 : 8 < len
    · have d8 : decide (8 < len) = true := decide_eq_true h8
      have HU := hid (bytes_shouldUse len w)
      rw [d8] at HU
      have hszs : setBr.size = 256 := Lib.setCells_size _
      have h1s : setBr.all (·.oneCell') = true := Lib.setCells_one _
      have hS0 : ∀ x : Int, 0 ≤ x → x ≤ 255 → setBr[x.toNat]? = some (.bool (decide (x = 13 ∨ x = 10))) := fun x h0 h1 => setBr_at h0 h1
      have HS := hid hS0
      clear hS0
      generalize hSS : setBr = SS at HS hszs h1s
      have HM := hid (bytes_makeSet w)
      rw [hSS] at HM
      have hsc := run_storeCells_new (P := Tryd.prog) (w.alloc (.cells SS 49)) 49 zcSet SS (by rw [hszs]; exact (zero_of_info set_info).2) (by rw [hszs]; exact zcSet_size) h1s
      rw [World.size_alloc] at hsc
      have HSC := hid hsc
      clear hsc h1s
      clear hSS
      go_enter Tryd.func24, Tryd.ntmps24
      go_wp2_with (first
        | (go_at_call 30; (with_reducible refine HU.out.mono ?_); rintro e w' ⟨rfl, rfl⟩)
        | (go_at_call 31; (with_reducible refine HM.out.mono ?_); rintro e w' ⟨rfl, rfl⟩))
      simp only [Result.andThen, HSC.out]
      rw [Oper.upon_skip]
      clear HM HU HSC
      have hB2 : Below w.heap.size w ((w.alloc (.cells SS 49)).alloc (.cells SS 49)) := ((Below.refl _ _).alloc (Nat.le_refl _) _).alloc (by simp) _
      have HR2 := hid (HR.out.below hB2)
      have HC : Hid (∀ x : Int, 0 ≤ x → x ≤ 255 → ((w.alloc (.cells SS 49)).alloc (.cells SS 49)).cell? ⟨w.heap.size + 1, x.toNat, none⟩ = some (.bool (brkB x))) := by
        intro x h0 h1
        rw [World.cell?_alloc_at _ _ _ _ (by simp), HS.out x h0 h1]
        rfl
      go_wp2_with fail
      generalize ((w.alloc (.cells SS 49)).alloc (.cells SS 49)) = W2 at *
      go_loopw [62] (fun i wr => ∃ k : Nat, k ≤ len ∧ i = .int .i64 k ∧ Hid ((xs.take k).any brkB = false) ∧ wr = W2) (fun i _ => len - (intOf i).toNat)
      case atStart => exact ⟨0, Nat.zero_le _, rfl, rfl, rfl⟩
      case round =>
        obtain ⟨k, hk, rfl, hno, rfl⟩ := hrel
        by_cases hlt : k < len
        · obtain ⟨b, off, x, rfl, _, hc, h0x, h1x, hx⟩ := HR2.out.get8 hlt
          have hcx := hid (HC.out x h0x h1x)
          cases hb : brkB x
          · rw [hb] at hcx
            have HN := hid (none_yes hx.out.2 hno.out hb)
            clear hno hb
            go_wp2_with (go_at_call 32; (with_reducible refine (bytes_contains _ _ _ _ h0x h1x hcx.out).mono ?_); rintro e w' ⟨rfl, rfl⟩)
            go_roundw
            case rel => exact ⟨k + 1, by omega, by go_num, HN, trivial⟩
            case measure => simp [intOf]; omega
          · rw [hb] at hcx
            have HN := hid (idx_hit hx.out.1 hno.out hb)
            clear hno hb
            go_wp2_with (go_at_call 32; (with_reducible refine (bytes_contains _ _ _ _ h0x h1x hcx.out).mono ?_); rintro e w' ⟨rfl, rfl⟩)
            go_ret
            exact ⟨ret_int HN.out.symm, hB2⟩
        · obtain rfl : k = len := by omega
          have hno' := hno.out
          rw [List.take_of_length_le (by omega)] at hno'
          have HN := hid (idx_none hno')
          clear hno hno'
          go_wp2_with fail
          go_ret
          exact ⟨ret_int HN.out.symm, hB2⟩
    · have d8 : decide (8 < len) = false := decide_eq_false h8
      have HU := hid (bytes_shouldUse len w)
      rw [d8] at HU
      go_enter Tryd.func24, Tryd.ntmps24
      go_wp2_with (go_at_call 30; (with_reducible refine HU.out.mono ?_); rintro e w' ⟨rfl, rfl⟩)
      go_loopw [11, 12] (fun wd i wr => ∃ k u : Nat, k ≤ len ∧ wd = .int .i64 u ∧ i = .int .i64 k ∧ Hid ((xs.take k).any brkB = false) ∧ Below w.heap.size w wr) (fun _ i _ => len - (intOf i).toNat)
      case atStart => exact ⟨0, 0, Nat.zero_le _, rfl, rfl, rfl, Below.refl _ _⟩
      case round =>
        obtain ⟨k, u, hk, rfl, rfl, hno, hbel⟩ := hrel
        by_cases hlt : k < len
        · obtain ⟨b, off, x, rfl, hbw, hcw, h0x, h1x, hx⟩ := HR.out.get8 hlt
          have hc := (hbel.cell (p := ⟨b, off + k, none⟩) hbw).trans hcw
          by_cases h128 : x < 128
          · have hib := ib_br h0x h1x
            have HE := fun W => ibsBr x W
            have hb : brkB x = decide (0 ≤ Lib.indexByte [13, 10] x.toNat.toUInt8) := by rw [hib]; rfl
            clear hib
            generalize Lib.indexByte [13, 10] x.toNat.toUInt8 = q at HE hb
            by_cases hq : 0 ≤ q
            · rw [decide_eq_true hq] at hb
              have HN := hid (idx_hit hx.out.1 hno.out hb)
              clear hno hb
              go_wp2_with fail
              go_ret
              exact ⟨ret_int HN.out.symm, hbel⟩
            · rw [decide_eq_false hq] at hb
              have HN := hid (none_yes hx.out.2 hno.out hb)
              clear hno hb
              go_wp2_with fail
              go_roundw
              case rel => exact ⟨k + 1, 1, by omega, rfl, by go_num, HN, hbel⟩
              case measure => simp [intOf]; omega
          · have hp := HR.out.piece (l := k) (r := len) (by omega) (Nat.le_refl _)
            obtain ⟨p', C, D, hp, hpz, hpc, hpd⟩ : ∃ p' C D, Reads .u8 w p' D C (xs.drop k) ∧ p' = some ⟨b, off + k, none⟩ ∧ C = cap - k ∧ D = len - k := by
              rw [List.take_of_length_le (by omega), if_neg (by omega), Option.map_some, Addr.add_lit] at hp
              exact ⟨_, _, _, hp, rfl, rfl, rfl⟩
            have hp' := hp.below hbel
            have hT' := hT.below hbel
            obtain ⟨m, hmx⟩ := hm.below hbel
            have hh0 : 128 ≤ (xs.drop k).getD 0 0 := by
              rw [List.getD_eq_getElem?_getD, List.getElem?_drop, Nat.add_zero, hx.out.1]; simp; omega
            obtain ⟨r, n, hsg, hnl, hall, hde⟩ := utf8_Decode p' D C (xs.drop k) wr hp' (by omega) hT' hh0
            subst hpz hpc hpd
            have HDE := hid hde
            have HJ := hid (take_jump (i := k) (k := n) (by omega) hno.out hall)
            have hn1 : 1 ≤ n := by unfold Sg at hsg; omega
            have hr0 : 128 ≤ r := by unfold Sg at hsg; omega
            have b13 : ((r : Int) == 13) = false := by rw [beq_eq_false_iff_ne]; omega
            have b10 : ((r : Int) == 10) = false := by rw [beq_eq_false_iff_ne]; omega
            clear hp hp' hh0 hT' hx hall hde hno
            by_cases hin : r = 65533 ∨ (n ≠ 2 ∧ m < n)
            · have hin' : (((r : Int) != 65533) = false) ∨ (((r : Int) != 65533) = true ∧ ((2 : Int) == (n : Int)) = false ∧ ¬ (n : Int) ≤ m) := by
                by_cases h : r = 65533
                · exact .inl (by rw [h]; rfl)
                · rcases hin with h' | ⟨h2, h3⟩
                  · exact absurd h' h
                  · exact .inr ⟨by rw [bne_iff_ne]; omega, by rw [beq_eq_false_iff_ne]; omega, by omega⟩
              clear hin
              rcases hin' with e1 | ⟨e1, e2, e3⟩
              all_goals
                go_wp2_with (go_at_call 33; (with_reducible refine HDE.out.mono ?_); rintro e w1 ⟨rfl, hb1⟩; first | have hm1 := (hb1.cell (p := ⟨0, 0, none⟩) (World.block_lt_of_cell? _ _ hmx)).trans hmx | skip)
                go_loopg [15] 2 (fun g _ wx => ∃ i : Nat, i + g = 2 ∧ wx = w1.iter { data := #[13, 10] } i)
                case atStart => exact ⟨0, by omega, rfl⟩
                case round =>
                  obtain ⟨i, hig, rfl⟩ := hrel
                  match gk, hig with
                  | 0, hig =>
                    obtain rfl : i = 2 := by omega
                    have hnx := next_br2 w1
                    have hb2 := iter_below (below_then hbel hb1) { data := #[13, 10] } 2
                    go_wp2_with fail
                    go_roundw
                    case rel => exact ⟨k + n, n, by omega, rfl, by go_num, HJ, hb2⟩
                    case measure => simp [intOf]; omega
                  | 1, hig =>
                    obtain rfl : i = 1 := by omega
                    have hnx := next_br1 w1
                    go_wp2_with fail
                    go_roundg 0
                    case measure => omega
                    case rel => exact ⟨2, by omega, rfl⟩
                  | 2, hig =>
                    obtain rfl : i = 0 := by omega
                    have hnx := next_br0 w1
                    go_wp2_with fail
                    go_roundg 1
                    case measure => omega
                    case rel => exact ⟨1, by omega, rfl⟩
                  | g + 3, hig => exfalso; omega
            · have e1 : ((r : Int) != 65533) = true := by rw [bne_iff_ne]; omega
              by_cases h2 : n = 2
              · subst h2
                have e2 := enc_two (r := r) hr0 (by unfold Sg at hsg; omega)
                go_wp2_with (go_at_call 33; (with_reducible refine HDE.out.mono ?_); rintro e w1 ⟨rfl, hb1⟩)
                go_roundw
                case rel => exact ⟨k + 2, 2, by omega, rfl, by go_num, HJ, below_then hbel hb1⟩
                case measure => simp [intOf]; omega
              · have e2 : ((2 : Int) == (n : Int)) = false := by rw [beq_eq_false_iff_ne]; omega
                have hmn : (n : Int) ≤ m := by omega
                have h3 : 3 ≤ n := by unfold Sg at hsg; omega
                go_wp2_with (go_at_call 33; (with_reducible refine HDE.out.mono ?_); rintro e w1 ⟨rfl, hb1⟩; have hm1 := (hb1.cell (p := ⟨0, 0, none⟩) (World.block_lt_of_cell? _ _ hmx)).trans hmx; have hIX := ixS hsg h3 w1 m hm1 hmn)
                go_roundw
                case rel => exact ⟨k + n, n, by omega, rfl, by go_num, HJ, below_then hbel hb1⟩
                case measure => simp [intOf]; omega
        · obtain rfl : k = len := by omega
          have hno' := hno.out
          rw [List.take_of_length_le (by omega)] at hno'
          have HN := hid (idx_none hno')
          clear hno hno'
          go_wp2_with fail
          go_ret
          exact ⟨ret_int HN.out.symm, hbel⟩
end Go.Proofs.YtldmoopdffenfaaDoor
