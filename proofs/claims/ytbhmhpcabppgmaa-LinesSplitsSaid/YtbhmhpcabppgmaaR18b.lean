/-
  Contracts of the document's own functions of layer 18: lines, and what is right (those that the translation has).
-/
import Derived.Test.YtbhmhpcabppgmaaRows
import Derived.Test.YtbhmhpcabppgmaaR01
import Derived.Test.YtbhmhpcabppgmaaR01k
import Derived.Test.YtbhmhpcabppgmaaR02
import Derived.Test.YtbhmhpcabppgmaaR18
import Derived.Test.YtbhmhpcabppgmaaD18b
import Derived.Test.YtbhmhpcabppgmaaGrw
namespace Go.Proofs.Ytbhmhpcabppgmaa
open Go.RowKit
set_option linter.unusedVariables false

theorem infoL : (Try.prog.info? 22).map (fun i => (i.zero, i.size, i.bytes)) = some (some (.slice none 0 0), 1, 24) := by kernel_rfl
theorem neL : (22 : TypeId) ≠ 5 := by decide
set_option maxHeartbeats 4000000 in
theorem ref18_Lines (a : Option Addr) (len cap : Nat) (xs : List Int) (w : World) (hr : Reads .u8 w a len cap xs) (hN : len < 10000000) :
    Calls Try.prog 27 #[.slice a len cap] w fun e w' => ∃ a' n c, e = .returned (.tuple #[.slice a' n c, .bool (linE xs)]) ∧ Rws w' a' n c (linL xs) ∧ Below w.heap.size w w' := by
  have HR := hid hr
  have hsz := hr.size
  clear hr
  go_enter Try.func27, Try.ntmps27
  go_wp2
  go_loopw [4, 5] (fun v i wr => ∃ k q : Nat, ∃ u : Value, ∃ O : List (List Int), ∃ L : List Int, k ≤ len + 1 ∧ i = .int .i64 k ∧ Hid (Grow 22 5 w.heap.size q wr v u O L) ∧ Below w.heap.size w wr ∧ O.length ≤ k ∧ L.length ≤ k ∧ Hid (O ++ linS (xs.drop k) L = linA xs)) (fun _ i _ => len + 1 - (intOf i).toNat)
  case atStart => exact ⟨0, _, _, [], [], Nat.zero_le _, rfl, Grow.start 22 5 w, (Below.refl _ _).alloc (Nat.le_refl _) _, Nat.le_refl _, Nat.le_refl _, rfl⟩
  case round =>
    obtain ⟨k, q, u, O, L, hk, rfl, hG, hbel, hO, hL, hn⟩ := hrel
    obtain ⟨g, c, rfl, hBg, hgq, hcell, hfz, au, cu, rfl⟩ := hG.out.shape
    by_cases hlt : k < len
    · obtain ⟨b, off, x, rfl, _, hcx, h0, h1, hx⟩ := (HR.out.below hbel).get8 hlt
      have hd := hn.out
      rw [drop_one hx.out.1] at hd
      by_cases hbr : x = 13 ∧ k + 1 < len ∧ xs[k + 1]? = some 10
      · obtain ⟨rfl, hk1, hy⟩ := hbr
        have hcy := (HR.out.below hbel).cellIs hy
        rw [drop_one hy, show k + 1 + 1 = k + 2 by omega, lin_line] at hd
        have e1 : Hid ((O ++ [L]) ++ linS (xs.drop (k + 2)) [] = linA xs) := by unfold Hid; rw [← hd, List.append_assoc]; rfl
        clear hd hn hy
        go_wp2_with (at_builtin; refine wpList_line (e8 := 5) Try.underlying23 infoL neL rfl _ _ rfl rfl ⟨_, rfl⟩ hG.out (by omega) ?_; intro v3 w3 hG3 hb3)
        go_roundw
        case rel => exact ⟨k + 2, _, _, _, _, by omega, by go_num, hG3, hbel.trans hb3, by simp; omega, Nat.zero_le _, e1.out⟩
        case measure => simp [intOf]; omega
      · have hnl : ¬ (x = 13 ∧ (xs.drop (k + 1)).head? = some 10) := by
          rintro ⟨h1, h2⟩
          rw [List.head?_drop] at h2
          have := (List.getElem?_eq_some_iff.1 h2).1
          exact hbr ⟨h1, by omega, h2⟩
        rw [lin_on L hnl] at hd
        have e1 : Hid (O ++ linS (xs.drop (k + 1)) (L ++ [x]) = linA xs) := hd
        have hwx := mk_u8 h0 h1
        have hsub : (x == 13) = false ∨ (x = 13 ∧ ¬ k + 1 < len) ∨ ∃ y, wr.cell? ⟨b, off + (k + 1), none⟩ = some (.int .u8 y) ∧ x = 13 ∧ k + 1 < len ∧ (y == 10) = false := by
          by_cases hx13 : x = 13
          · by_cases hk1 : k + 1 < len
            · obtain ⟨y, hy⟩ : ∃ y, xs[k + 1]? = some y := ⟨_, List.getElem?_eq_getElem (by omega)⟩
              refine .inr (.inr ⟨y, (HR.out.below hbel).cellIs hy, hx13, hk1, ?_⟩)
              rw [beq_eq_false_iff_ne]
              rintro rfl
              exact hbr ⟨hx13, hk1, hy⟩
            · exact .inr (.inl ⟨hx13, hk1⟩)
          · exact .inl (by simpa using hx13)
        have hqs := hG.out.hi
        have hl3 : Hid ((L ++ [x]).length = L.length + 1) := by unfold Hid; simp
        have q1 : (0 : Int) ≤ (k : Int) := by omega
        have q2 : (k : Int) < (len : Int) := by omega
        have q3 : (0 : Int) ≤ (O.length : Int) := by omega
        have q4 : (O.length : Int) < (O.length : Int) + 1 := by omega
        have q5 : (O.length : Int).toNat = O.length := by omega
        have q6 : (k : Int).toNat = k := by omega
        have hcD : wr.drew.cell? ⟨g, O.length, none⟩ = some (.slice au L.length cu) := hcell
        have hcA : (wr.alloc (.cells #[.int .u8 x] 5)).cell? ⟨g, O.length, none⟩ = some (.slice au L.length cu) := (((Below.refl wr.heap.size wr).alloc (Nat.le_refl _) _).cell (p := ⟨g, O.length, none⟩) (Nat.lt_of_lt_of_le hgq hqs)).trans hcell
        have hxD : wr.drew.cell? ⟨b, off + k, none⟩ = some (.int .u8 x) := hcx
        clear hd hn hnl hbr
        rcases hsub with hx13 | ⟨rfl, hk1⟩ | ⟨y, hcy, rfl, hk1, hy10⟩
        all_goals
          go_wp2_with fail
          go_region_law (refine step_pushQ (q := q) (wr := wr.drew) ST8 rfl (.tmp 48) (.tmp 53) rfl rfl ⟨_, rfl⟩ hG.out.last.drew' hqs (by omega) hwx ?_; intro v3 w3 ho3 hb3; obtain ⟨a3, c3, rfl, hr3⟩ := ho3.reads; rw [hl3.out] at ho3; have hb4 := (below_drew (Below.refl q wr)).trans hb3; have hG3 := hid (hG.out.put neL ho3 hb4); have hcell3 := (hb4.cell (p := ⟨g, O.length, none⟩) hgq).trans hcell; have hfz3 : w3.frozen? ⟨g, O.length, none⟩ = false := (World.frozen?_of_block (hb4.block g hgq)).trans hfz)
        all_goals
          have hb5 := Grow.putBelow (j := O.length) hbel hb4 hG.out.lo hBg (.slice a3 (L.length + 1) c3)
          clear hcell3 hfz3 hcD hcA hxD hb3 hr3 hcell hfz ho3
          go_wp2_with fail
          go_roundw
          case rel => exact ⟨k + 1, _, _, _, _, by omega, by go_num, hG3.out, hb5, by omega, by rw [hl3.out]; omega, e1⟩
          case measure => simp [intOf]; omega
    · have hd := hn.out
      rw [List.drop_of_length_le (by omega), linS] at hd
      obtain ⟨a', c', hv', hR1, hR2⟩ := hG.out.rows
      cases hv'
      have hoc := hR1.room
      have hoc2 : O.length ≤ c := by omega
      cases L with
      | nil =>
        have e1 : Hid (linL xs = O ∧ linE xs = true) := by
          have hE : linE xs = true := by unfold linE; rw [← hd, List.getLast?_concat]; rfl
          refine ⟨?_, hE⟩
          unfold linL
          rw [if_pos hE, ← hd, List.dropLast_concat]
        clear hd hn
        go_wp2
        go_ret2
        exact ⟨_, _, _, by rw [e1.out.2]; rfl, by rw [e1.out.1]; exact hR2, hbel⟩
      | cons y L =>
        have e1 : Hid (linL xs = O ++ [y :: L] ∧ linE xs = false) := by
          have hE : linE xs = false := by unfold linE; rw [← hd, List.getLast?_concat]; rfl
          refine ⟨?_, hE⟩
          unfold linL
          rw [if_neg (by rw [hE]; decide), ← hd]
        clear hd hn
        go_wp2
        go_ret2
        exact ⟨_, _, _, by rw [e1.out.2]; rfl, by rw [e1.out.1]; exact hR1, hbel⟩
end Go.Proofs.Ytbhmhpcabppgmaa
