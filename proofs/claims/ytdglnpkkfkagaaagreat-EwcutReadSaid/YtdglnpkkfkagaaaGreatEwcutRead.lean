/-
  Proved: for every []rune t (nil, empty, of any length and capacity) and every int first, in whatever memory and on every schedule, sheavelaw31.EwcutRead(t, first) returns true, without a panic or a race, and its arguments read as before. No condition.
-/
import Derived.Test.YtdglnpkkfkagaaaGreatRows
import Derived.Test.YtdglnpkkfkagaaaGreatZ47
import Derived.WalkKit
import Derived.ProofKit
import Derived.OpenShut
import Derived.ShutString
import Derived.ChangeOld
import Derived.Below
namespace Go.Proofs.YtdglnpkkfkagaaaGreat.ewcutRead
open Go.ChangeShapes Go.WideShapes Go.ChangeAt Go.RowKit
open Go.ChangeMaps (open_string shut_string)
set_option linter.unusedVariables false

theorem own : ownKnob Tryz.prog.godebug = none := by kernel_rfl
theorem laidOut : laidOutB Tryz.prog = true := by kernel_rfl
theorem like3_same (a : Option Addr) (len cap : Nat) (a2 : Option Addr) (len2 cap2 : Nat) (xs : List Int) (w : World) (hr : Reads .i32 w a len cap xs) (hr2 : Reads .i32 w a2 len2 cap2 xs) :
    Calls Tryz.prog 11 #[.slice a len cap, .slice a2 len2 cap2] w fun e w' => e = .returned (.bool true) ∧ Below w.heap.size w w' := by
  have := ref03_Like a len cap xs a2 len2 cap2 xs w hr hr2
  rw [decide_eq_true rfl] at this
  refine this.mono ?_
  rintro e w' ⟨rfl, n, rfl⟩
  exact ⟨rfl, Below.drewN (Below.refl _ _) n⟩
theorem flatR_take (L : List (List Int)) (j : Nat) : ((L.take j).flatMap ewR).length ≤ (L.flatMap ewR).length := by
  conv => rhs; rw [← List.take_append_drop j L, List.flatMap_append, List.length_append]
  omega
set_option maxHeartbeats 4000000 in
set_option maxRecDepth 100000 in
theorem walk (a0 : Option Addr) (len0 cap0 : Nat) (xs0 : List Int) (a1 : Int) (w : World) (r0 : Reads .i32 w a0 len0 cap0 xs0) (w1 : (Lit.int .i64 a1).wf = true) :
    Calls Tryz.prog 5 #[.slice a0 len0 cap0, .int .i64 a1] w fun e w' => e = .returned (.bool true) ∧ Below w.heap.size w w' := by
  by_cases hN : len0 ≤ 80
  · have R := hid r0
    have hsz := r0.size
    have F1 := hid (ewcut_Words a0 len0 cap0 xs0 a1 w r0 (by omega) w1)
    clear r0
    by_cases hE : wrdE xs0 a1 = 0
    · obtain ⟨p1, p2, p3, p4⟩ := wrd_all hE
      rw [hsz] at p4
      rw [hE] at F1
      generalize wrdL xs0 a1 = L at *
      generalize selN xs0 = N at *
      have P1 := hid p1
      have P2 := hid p2
      have P3 := hid p3
      have PF := hid (fun j => flatR_take L j)
      have HS := hid (show (L.flatMap ewR).length = len0 by rw [p3]; exact hsz)
      have GR := hid (fun W a' l' c' x (hr : Reads .u8 W a' l' c' x) (hl : l' ≤ 75) (h0 : ewE x = 0) => by
        have := ref29_Read a' l' c' x W hr (by omega)
        rwa [decide_eq_true h0] at this)
      have GS := hid (fun W a' l' c' x (hr : Reads .u8 W a' l' c' x) (hl : l' ≤ 75) (h0 : ewS x = true) => by
        have := ref29_Strict a' l' c' x W hr (by omega)
        rwa [h0] at this)
      have GH := hid (fun W a' l' c' x (hr : Reads .u8 W a' l' c' x) (hl : l' ≤ 75) (h0 : ewH x = N) => by
        have := ref29_Charset a' l' c' x W hr (by omega)
        rwa [h0] at this)
      clear p1 p2 p3 hE hsz
      go_enter Tryz.func5, Tryz.ntmps5
      go_wp2_with (go_at_call 12; (with_reducible refine F1.out.mono ?_); rintro e v1 ⟨a2, m2, k2, rfl, q1, y1⟩; obtain rfl : L.length = m2 := q1.size)
      have Q1 := hid q1
      clear q1
      go_loopw [7, 32] (fun ov i wr => ∃ j : Nat, j ≤ L.length ∧ i = .int .i64 j ∧ Own .i32 21 v1.heap.size wr ov ((L.take j).flatMap ewR) ∧ Below v1.heap.size v1 wr) (fun _ i _ => L.length - (intOf i).toNat)
      case atStart => exact ⟨0, Nat.zero_le _, rfl, Own.nil _ _ _ _, Below.refl _ _⟩
      case round =>
        obtain ⟨j, hj, rfl, hown, hb⟩ := hrel
        by_cases hlt : j < L.length
        · obtain ⟨b, off, x, ai, li, ci, rfl, hbw, hc0, hx, hg, ht⟩ := Q1.out.get1 hlt
          obtain ⟨b', off', x', aj, lj, cj, hbb, _, hd0, hx', hg', _⟩ := Q1.out.get1 (i := 0) (by omega)
          cases hbb
          have hm := P1.out x (List.mem_of_getElem? hg)
          have hm' := P1.out x' (List.mem_of_getElem? hg')
          have hxs := hx.size
          have hxs' := hx'.size
          have hl1 : li ≤ 75 := by have := hm.2.2.2; omega
          have hl2 : lj ≤ 75 := by have := hm'.2.2.2; omega
          have hfst : j = 0 → (li : Int) ≤ a1 := by
            rintro rfl
            rw [hg] at hg'
            cases hg'
            have := P2.out x (by rw [List.head?_eq_getElem?]; exact hg)
            omega
          have hc := (hb.cell (p := ⟨b, off + j, none⟩) hbw).trans hc0
          have hd := (hb.cell (p := ⟨b, off + 0, none⟩) hbw).trans hd0
          rw [Nat.add_zero] at hd
          have hfl := PF.out (j + 1)
          have hsn : Hid ((L.take (j + 1)).flatMap ewR = (L.take j).flatMap ewR ++ ewR x) := by rw [Hid, ht, List.flatMap_append]; simp
          rw [hsn.out, HS.out, List.length_append] at hfl
          have HL := hid (show ((L.take j).flatMap ewR).length + (ewR x).length < 1000000000000 by omega)
          have G1 := hid (GR.out wr ai li ci x (hx.below hb) hl1 hm.1)
          have G2 := hid (fun W (hW : Below v1.heap.size v1 W) => GS.out W ai li ci x (hx.below hW) hl1 hm.2.1)
          have G3 := hid (fun W (hW : Below v1.heap.size v1 W) => GH.out W ai li ci x (hx.below hW) hl1 hm.2.2.1)
          have G4 := hid (fun W (hW : Below v1.heap.size v1 W) => GH.out W aj lj cj x' (hx'.below hW) hl2 hm'.2.2.1)
          have z1 : (j : Int) < (L.length : Int) := by omega
          have z2 : ¬ (75 : Int) < (li : Int) := by omega
          have z3 : decide ((75 : Int) < (li : Int)) = false := decide_eq_false z2
          have z4 : decide ((li : Int) > 75) = false := decide_eq_false z2
          have z5 : ¬ 75 < li := by omega
          have hLp : (0 : Int) < (L.length : Int) := by omega
          have hLne : L ≠ [] := fun h => by rw [h] at hlt; exact absurd hlt (Nat.not_lt_zero _)
          clear hx hx' hg hg' ht hm hm' hxs hxs' hfl hc0 hd0
          go_wp2_with (go_at_call 18; (with_reducible refine G1.out.mono ?_); rintro e w3 ⟨a3, l3, c3, rfl, r3, h3⟩; have y3 := below_then hb h3; have hd3 := (h3.cell (p := ⟨b, off, none⟩) (Nat.lt_of_lt_of_le hbw hb.size)).trans hd; have ho3 := hown.below h3; have hrs3 := hid r3.size)
          have tD := below_drew y3
          have d0 : w3.drew.cell? ⟨b, off, none⟩ = some (.slice aj lj cj) := hd3
          have hbs := hid hbw
          clear hc hd hd3 h3 hbw
          by_cases hj0 : j = 0
          · have hf := hfst hj0
            have z6 : ¬ a1 < (li : Int) := by omega
            have z7 : decide (a1 < (li : Int)) = false := decide_eq_false z6
            have z8 : decide ((li : Int) > a1) = false := decide_eq_false z6
            clear hfst hf
            subst hj0
            go_region_held3 (fun w' => w'.cell? ⟨b, off, none⟩ = some (.slice aj lj cj)) (first | exact d0 | exact d1 | exact d2 | exact d3)
              (first
              | (go_at_call 19; (with_reducible refine (G2.out _ tD).mono ?_); rintro e w4 ⟨rfl, h4⟩; have t4 := below_then tD h4; have d1 := (h4.cell (p := ⟨b, off, none⟩) (Nat.lt_of_lt_of_le hbs.out tD.size)).trans d0)
              | (go_at_call 20; (with_reducible refine (G3.out _ t4).mono ?_); rintro e w5 ⟨rfl, h5⟩; have t5 := below_then t4 h5; have d2 := (h5.cell (p := ⟨b, off, none⟩) (Nat.lt_of_lt_of_le hbs.out t4.size)).trans d1)
              | (go_at_call 20; (with_reducible refine (G4.out _ t5).mono ?_); rintro e w6 ⟨rfl, h6⟩; have t6 := below_then t5 h6; have d3 := (h6.cell (p := ⟨b, off, none⟩) (Nat.lt_of_lt_of_le hbs.out t5.size)).trans d2))
            have hd3 : Below w3.heap.size w3 w6 := ((below_drew (Below.refl w3.heap.size w3)).trans (h4.mono (Nat.le_refl _))).trans ((h5.mono h4.size).trans (h6.mono (Nat.le_trans h4.size h5.size)))
            have HL3 : ((L.take 0).flatMap ewR).length + l3 < 1000000000000 := by have h1 := HL.out; have h2 := hrs3.out; omega
            have ho6 := ho3.below hd3
            have r6 := r3.below hd3
            go_wp2_with (at_builtin; go_must (refine wpList_more STR rfl _ _ rfl rfl rfl ho6 t6 r6 HL3 ?_); intro v7 w7 ho7 hb7)
            rw [← hsn.out] at ho7
            go_roundw
            case rel => exact ⟨1, by omega, by go_num, ho7, hb7⟩
            case measure => simp [intOf]; omega
          · have z6 : ((j : Int) == 0) = false := by
              have : ¬ (j : Int) = 0 := by omega
              simpa using this
            have z7 : (j == 0) = false := by simpa using hj0
            clear hfst
            refine wp_region_held_drew (S := fun w' => w'.cell? ⟨b, off, none⟩ = some (.slice aj lj cj)) (by kernel_rfl) d0 (fun hHeld => ?_)
            refine wpAnyH_take (i := 0) (v := .bool true) rfl (by kernel_rfl) (by kernel_rfl) (by kernel_rfl) (fun _ _ _ h => h) (Or.inl ⟨by rfl, fun w' hSw => by go_simp⟩) (by assumption) ?_
            try simp only [Act.put, List.getElem_toArray, List.getElem_cons_zero, List.setIfInBounds_toArray, List.set_cons_zero, List.set_cons_succ]
            refine wpAnyH_take (i := 1) (v := .bool false) rfl (by kernel_rfl) (by kernel_rfl) (by kernel_rfl) (fun _ _ _ h => h) (Or.inl ⟨by rfl, fun w' hSw => by go_simp⟩) (by assumption) ?_
            try simp only [Act.put, List.getElem_toArray, List.getElem_cons_succ, List.getElem_cons_zero, List.setIfInBounds_toArray, List.set_cons_zero, List.set_cons_succ]
            refine wpAnyH_take (i := 2) (v := .bool false) rfl (by kernel_rfl) (by kernel_rfl) (by kernel_rfl) (fun _ _ _ h => h) (Or.inl ⟨by rfl, fun w' hSw => by go_simp⟩) (by assumption) ?_
            try simp only [Act.put, List.getElem_toArray, List.getElem_cons_succ, List.getElem_cons_zero, List.setIfInBounds_toArray, List.set_cons_zero, List.set_cons_succ]
            refine wpAnyH_take (i := 3) (v := .slice ai li ci) rfl (by kernel_rfl) (by kernel_rfl) (by kernel_rfl) (fun _ _ _ h => h) (Or.inl ⟨by rfl, fun w' hSw => by go_simp⟩) (by assumption) ?_
            try simp only [Act.put, List.getElem_toArray, List.getElem_cons_succ, List.getElem_cons_zero, List.setIfInBounds_toArray, List.set_cons_zero, List.set_cons_succ]
            refine wpAnyH_ready (rs := [4]) (by kernel_rfl) (by simp) ?_
            refine AllReadyH.cons rfl (fun K hK => ?_) AllReadyH.nil
            go_simp
            (with_reducible refine (G2.out _ tD).mono ?_); rintro e w4 ⟨rfl, h4⟩; have t4 := below_then tD h4; have d1 := (h4.cell (p := ⟨b, off, none⟩) (Nat.lt_of_lt_of_le hbs.out tD.size)).trans d0
            refine hK.out _ _ d1 (fun hHeld => ?_)
            clear hK K
            try simp only [Act.put, List.getElem_toArray, List.getElem_cons_succ, List.getElem_cons_zero, List.setIfInBounds_toArray, List.set_cons_zero, List.set_cons_succ]
            refine wpAnyH_take (i := 5) (v := .bool false) rfl (by kernel_rfl) (by kernel_rfl) (by kernel_rfl) (fun _ _ _ h => h) (Or.inl ⟨by rfl, fun w' hSw => by go_simp⟩) (by assumption) ?_
            try simp only [Act.put, List.getElem_toArray, List.getElem_cons_succ, List.getElem_cons_zero, List.setIfInBounds_toArray, List.set_cons_zero, List.set_cons_succ]
            refine wpAnyH_take (i := 6) (v := .bool false) rfl (by kernel_rfl) (by kernel_rfl) (by kernel_rfl) (fun _ _ _ h => h) (Or.inl ⟨by rfl, fun w' hSw => by go_simp⟩) (by assumption) ?_
            try simp only [Act.put, List.getElem_toArray, List.getElem_cons_succ, List.getElem_cons_zero, List.setIfInBounds_toArray, List.set_cons_zero, List.set_cons_succ]
            refine wpAnyH_take (i := 7) (v := .bool false) rfl (by kernel_rfl) (by kernel_rfl) (by kernel_rfl) (fun _ _ _ h => h) (Or.inl ⟨by rfl, fun w' hSw => by go_simp⟩) (by assumption) ?_
            try simp only [Act.put, List.getElem_toArray, List.getElem_cons_succ, List.getElem_cons_zero, List.setIfInBounds_toArray, List.set_cons_zero, List.set_cons_succ]
            refine wpAnyH_take (i := 8) (v := .slice ai li ci) rfl (by kernel_rfl) (by kernel_rfl) (by kernel_rfl) (fun _ _ _ h => h) (Or.inl ⟨by rfl, fun w' hSw => by go_simp⟩) (by assumption) ?_
            try simp only [Act.put, List.getElem_toArray, List.getElem_cons_succ, List.getElem_cons_zero, List.setIfInBounds_toArray, List.set_cons_zero, List.set_cons_succ]
            refine wpAnyH_take (i := 9) (v := .int .i64 li) rfl (by kernel_rfl) (by kernel_rfl) (by kernel_rfl) (fun _ _ _ h => h) (Or.inl ⟨by rfl, fun w' hSw => by go_simp⟩) (by assumption) ?_
            try simp only [Act.put, List.getElem_toArray, List.getElem_cons_succ, List.getElem_cons_zero, List.setIfInBounds_toArray, List.set_cons_zero, List.set_cons_succ]
            refine wpAnyH_take (i := 10) (v := .bool false) rfl (by kernel_rfl) (by kernel_rfl) (by kernel_rfl) (fun _ _ _ h => h) (Or.inl ⟨by rfl, fun w' hSw => by go_simp⟩) (by assumption) ?_
            try simp only [Act.put, List.getElem_toArray, List.getElem_cons_succ, List.getElem_cons_zero, List.setIfInBounds_toArray, List.set_cons_zero, List.set_cons_succ]
            refine wpAnyH_take (i := 11) (v := .bool false) rfl (by kernel_rfl) (by kernel_rfl) (by kernel_rfl) (fun _ _ _ h => h) (Or.inl ⟨by rfl, fun w' hSw => by go_simp⟩) (by assumption) ?_
            try simp only [Act.put, List.getElem_toArray, List.getElem_cons_succ, List.getElem_cons_zero, List.setIfInBounds_toArray, List.set_cons_zero, List.set_cons_succ]
            refine wpAnyH_take (i := 12) (v := .bool false) rfl (by kernel_rfl) (by kernel_rfl) (by kernel_rfl) (fun _ _ _ h => h) (Or.inl ⟨by rfl, fun w' hSw => by go_simp⟩) (by assumption) ?_
            try simp only [Act.put, List.getElem_toArray, List.getElem_cons_succ, List.getElem_cons_zero, List.setIfInBounds_toArray, List.set_cons_zero, List.set_cons_succ]
            refine wpAnyH_take (i := 13) (v := .int .i64 j) rfl (by kernel_rfl) (by kernel_rfl) (by kernel_rfl) (fun _ _ _ h => h) (Or.inl ⟨by rfl, fun w' hSw => by go_simp⟩) (by assumption) ?_
            try simp only [Act.put, List.getElem_toArray, List.getElem_cons_succ, List.getElem_cons_zero, List.setIfInBounds_toArray, List.set_cons_zero, List.set_cons_succ]
            refine wpAnyH_take (i := 14) (v := .bool false) rfl (by kernel_rfl) (by kernel_rfl) (by kernel_rfl) (fun _ _ _ h => h) (Or.inl ⟨by rfl, fun w' hSw => by go_simp⟩) (by assumption) ?_
            try simp only [Act.put, List.getElem_toArray, List.getElem_cons_succ, List.getElem_cons_zero, List.setIfInBounds_toArray, List.set_cons_zero, List.set_cons_succ]
            refine wpAnyH_take (i := 15) (v := .bool false) rfl (by kernel_rfl) (by kernel_rfl) (by kernel_rfl) (fun _ _ _ h => h) (Or.inl ⟨by rfl, fun w' hSw => by go_simp⟩) (by assumption) ?_
            try simp only [Act.put, List.getElem_toArray, List.getElem_cons_succ, List.getElem_cons_zero, List.setIfInBounds_toArray, List.set_cons_zero, List.set_cons_succ]
            refine wpAnyH_take (i := 16) (v := undef) rfl (by kernel_rfl) (by kernel_rfl) (by kernel_rfl) (fun _ _ _ h => h) (Or.inr ⟨by rfl, rfl⟩) (by assumption) ?_
            try simp only [Act.put, List.getElem_toArray, List.getElem_cons_succ, List.getElem_cons_zero, List.setIfInBounds_toArray, List.set_cons_zero, List.set_cons_succ]
            refine wpAnyH_take (i := 17) (v := undef) rfl (by kernel_rfl) (by kernel_rfl) (by kernel_rfl) (fun _ _ _ h => h) (Or.inr ⟨by rfl, rfl⟩) (by assumption) ?_
            try simp only [Act.put, List.getElem_toArray, List.getElem_cons_succ, List.getElem_cons_zero, List.setIfInBounds_toArray, List.set_cons_zero, List.set_cons_succ]
            refine wpAnyH_take (i := 18) (v := undef) rfl (by kernel_rfl) (by kernel_rfl) (by kernel_rfl) (fun _ _ _ h => h) (Or.inr ⟨by rfl, rfl⟩) (by assumption) ?_
            try simp only [Act.put, List.getElem_toArray, List.getElem_cons_succ, List.getElem_cons_zero, List.setIfInBounds_toArray, List.set_cons_zero, List.set_cons_succ]
            refine wpAnyH_take (i := 19) (v := undef) rfl (by kernel_rfl) (by kernel_rfl) (by kernel_rfl) (fun _ _ _ h => h) (Or.inr ⟨by rfl, rfl⟩) (by assumption) ?_
            try simp only [Act.put, List.getElem_toArray, List.getElem_cons_succ, List.getElem_cons_zero, List.setIfInBounds_toArray, List.set_cons_zero, List.set_cons_succ]
            refine wpAnyH_take (i := 20) (v := .bool false) rfl (by kernel_rfl) (by kernel_rfl) (by kernel_rfl) (fun _ _ _ h => h) (Or.inl ⟨by rfl, fun w' hSw => by go_simp⟩) (by assumption) ?_
            try simp only [Act.put, List.getElem_toArray, List.getElem_cons_succ, List.getElem_cons_zero, List.setIfInBounds_toArray, List.set_cons_zero, List.set_cons_succ]
            refine wpAnyH_take (i := 21) (v := .bool false) rfl (by kernel_rfl) (by kernel_rfl) (by kernel_rfl) (fun _ _ _ h => h) (Or.inl ⟨by rfl, fun w' hSw => by go_simp⟩) (by assumption) ?_
            try simp only [Act.put, List.getElem_toArray, List.getElem_cons_succ, List.getElem_cons_zero, List.setIfInBounds_toArray, List.set_cons_zero, List.set_cons_succ]
            refine wpAnyH_take (i := 22) (v := .bool false) rfl (by kernel_rfl) (by kernel_rfl) (by kernel_rfl) (fun _ _ _ h => h) (Or.inl ⟨by rfl, fun w' hSw => by go_simp⟩) (by assumption) ?_
            try simp only [Act.put, List.getElem_toArray, List.getElem_cons_succ, List.getElem_cons_zero, List.setIfInBounds_toArray, List.set_cons_zero, List.set_cons_succ]
            refine wpAnyH_take (i := 23) (v := .slice ai li ci) rfl (by kernel_rfl) (by kernel_rfl) (by kernel_rfl) (fun _ _ _ h => h) (Or.inl ⟨by rfl, fun w' hSw => by go_simp⟩) (by assumption) ?_
            try simp only [Act.put, List.getElem_toArray, List.getElem_cons_succ, List.getElem_cons_zero, List.setIfInBounds_toArray, List.set_cons_zero, List.set_cons_succ]
            refine wpAnyH_take (i := 25) (v := .slice (some ⟨b, off, none⟩) L.length k2) rfl (by kernel_rfl) (by kernel_rfl) (by kernel_rfl) (fun _ _ _ h => h) (Or.inl ⟨by rfl, fun w' hSw => by go_simp⟩) (by assumption) ?_
            try simp only [Act.put, List.getElem_toArray, List.getElem_cons_succ, List.getElem_cons_zero, List.setIfInBounds_toArray, List.set_cons_zero, List.set_cons_succ]
            refine wpAnyH_take (i := 26) (v := .pointer (some ⟨b, off, none⟩)) rfl (by kernel_rfl) (by kernel_rfl) (by kernel_rfl) (fun _ _ _ h => h) (Or.inl ⟨by rfl, fun w' hSw => by go_simp⟩) (by assumption) ?_
            try simp only [Act.put, List.getElem_toArray, List.getElem_cons_succ, List.getElem_cons_zero, List.setIfInBounds_toArray, List.set_cons_zero, List.set_cons_succ]
            refine wpAnyH_take (i := 27) (v := .slice aj lj cj) rfl (by kernel_rfl) (by kernel_rfl) (by kernel_rfl) (fun _ _ _ h => h) (Or.inl ⟨by rfl, fun w' hSw => by go_simp⟩) (by assumption) ?_
            try simp only [Act.put, List.getElem_toArray, List.getElem_cons_succ, List.getElem_cons_zero, List.setIfInBounds_toArray, List.set_cons_zero, List.set_cons_succ]
            refine wpAnyH_ready (rs := [24]) (by kernel_rfl) (by simp) ?_
            refine AllReadyH.cons rfl (fun K hK => ?_) AllReadyH.nil
            go_simp
            (with_reducible refine (G3.out _ t4).mono ?_); rintro e w5 ⟨rfl, h5⟩; have t5 := below_then t4 h5; have d2 := (h5.cell (p := ⟨b, off, none⟩) (Nat.lt_of_lt_of_le hbs.out t4.size)).trans d1
            refine hK.out _ _ d2 (fun hHeld => ?_)
            clear hK K
            try simp only [Act.put, List.getElem_toArray, List.getElem_cons_succ, List.getElem_cons_zero, List.setIfInBounds_toArray, List.set_cons_zero, List.set_cons_succ]
            refine wpAnyH_ready (rs := [28]) (by kernel_rfl) (by simp) ?_
            refine AllReadyH.cons rfl (fun K hK => ?_) AllReadyH.nil
            go_simp
            (with_reducible refine (G4.out _ t5).mono ?_); rintro e w6 ⟨rfl, h6⟩; have t6 := below_then t5 h6; have d3 := (h6.cell (p := ⟨b, off, none⟩) (Nat.lt_of_lt_of_le hbs.out t5.size)).trans d2
            refine hK.out _ _ d3 (fun hHeld => ?_)
            clear hK K
            try simp only [Act.put, List.getElem_toArray, List.getElem_cons_succ, List.getElem_cons_zero, List.setIfInBounds_toArray, List.set_cons_zero, List.set_cons_succ]
            refine wpAnyH_take (i := 29) (v := .bool false) rfl (by kernel_rfl) (by kernel_rfl) (by kernel_rfl) (fun _ _ _ h => h) (Or.inl ⟨by rfl, fun w' hSw => by go_simp⟩) (by assumption) ?_
            try simp only [Act.put, List.getElem_toArray, List.getElem_cons_succ, List.getElem_cons_zero, List.setIfInBounds_toArray, List.set_cons_zero, List.set_cons_succ]
            refine wpAnyH_take (i := 30) (v := .bool false) rfl (by kernel_rfl) (by kernel_rfl) (by kernel_rfl) (fun _ _ _ h => h) (Or.inl ⟨by rfl, fun w' hSw => by go_simp⟩) (by assumption) ?_
            try simp only [Act.put, List.getElem_toArray, List.getElem_cons_succ, List.getElem_cons_zero, List.setIfInBounds_toArray, List.set_cons_zero, List.set_cons_succ]
            refine wpAnyH_done (by kernel_rfl) ?_ _
            have hd3 : Below w3.heap.size w3 w6 := ((below_drew (Below.refl w3.heap.size w3)).trans (h4.mono (Nat.le_refl _))).trans ((h5.mono h4.size).trans (h6.mono (Nat.le_trans h4.size h5.size)))
            have HL3 : ((L.take j).flatMap ewR).length + l3 < 1000000000000 := by have h1 := HL.out; have h2 := hrs3.out; omega
            have ho6 := ho3.below hd3
            have r6 := r3.below hd3
            go_wp2_with (at_builtin; go_must (refine wpList_more STR rfl _ _ rfl rfl rfl ho6 t6 r6 HL3 ?_); intro v7 w7 ho7 hb7)
            rw [← hsn.out] at ho7
            go_roundw
            case rel => exact ⟨j + 1, by omega, by go_num, ho7, hb7⟩
            case measure => simp [intOf]; omega
        · obtain rfl : j = L.length := by omega
          have z1 : ¬ (L.length : Int) < (L.length : Int) := by omega
          rw [List.take_length, P3.out] at hown
          obtain ⟨a6, k6, rfl, r6⟩ := hown.reads
          have y2 := below_then y1 hb
          have R2 := R.out.below y2
          go_wp2_with (first
            | (go_at_call 11; (with_reducible refine (like3_same _ _ _ _ _ _ _ _ r6 R2).mono ?_); rintro e v4 ⟨rfl, h4⟩; have y4 := below_then y2 h4)
            | (go_at_call 6; (with_reducible refine (alive31_any _).mono ?_); rintro e v5 ⟨rfl, h5⟩))
          go_ret
          exact ⟨rfl, below_then y4 h5⟩
    · rw [wrd_no hE] at F1
      have hE' : (wrdE xs0 a1 != 0) = true := by simpa using hE
      generalize wrdE xs0 a1 = E at *
      clear hE
      go_enter Tryz.func5, Tryz.ntmps5
      go_wp2_with (first
        | (go_at_call 12; (with_reducible refine F1.out.mono ?_); rintro e v1 ⟨a2, m2, k2, rfl, q1, y1⟩; obtain rfl : 0 = m2 := q1.size)
        | (go_at_call 6; (with_reducible refine (alive31_any _).mono ?_); rintro e v5 ⟨rfl, h5⟩))
      go_ret
      exact ⟨rfl, below_then y1 h5⟩
  · have hN' : 80 < len0 := by omega
    go_enter Tryz.func5, Tryz.ntmps5
    go_wp2_with (go_at_call 6; (with_reducible refine (alive31_any _).mono ?_); rintro e w' ⟨rfl, hb⟩)
    go_ret
    exact ⟨rfl, hb⟩

set_option maxRecDepth 100000 in
theorem lifted (os : Os) (started : os.Started) (H : Type) (enc : TypeId × Value → H) :
    ReturnsInHanded {} Tryz.checked os 5 .any (Rows.ewcutReadSpec.pre6 enc Tryz.prog Tryz.f5 Rows.ewcutReadRow.domain false) (Rows.ewcutReadSpec.post enc Tryz.prog Tryz.f5 false true false false) := by
  refine returnsInHanded_of_change (C := Tryz.checked) own started (by kernel_rfl) Tryz.func5
    (ChangeSpec.witness6 (enc := enc) (C := Tryz.checked) false ⟨#[], #[.slice none 0 0, .int .i64 0], []⟩ 8 (by kernel_rfl) (by kernel_rfl) (by kernel_rfl) (by kernel_rfl)) ?_
  intro W base args ds gs before hval0 hW hcnd _
  have hval : ∀ (j : Nat) t v, Tryz.f5.params[j]? = some t → args[j]? = some v → Value.okWide Tryz.prog W .any base t v := hval0
  have hW' := hW
  obtain ⟨p, q, hA0, hV, rfl, hfz, hnd⟩ := hW
  have hA : DataW.TrodAll enc Tryz.prog W 0 (fun _ => true) true Tryz.f5.params.toList args.toList ds p := hA0
  rw [Tryz.params5] at hA hval
  obtain ⟨v0, vs0, d0, ds0, p0, q0, hargs, rfl, rfl, h0, r_0⟩ := trodAll_cons hA
  obtain ⟨v1, vs1, d1, ds1, p1, q1, rfl, rfl, rfl, h1, r_1⟩ := trodAll_cons r_0
  obtain ⟨rfl, rfl, rfl⟩ := trodAll_nil r_1
  obtain rfl : args = #[v0, v1] := by cases args; simp_all
  obtain ⟨rfl, rfl⟩ := trodVars_none hV
  obtain ⟨a0, len0, cap0, rfl⟩ := okWide_slice Tryz.underlying23 (hval 0 23 v0 rfl rfl)
  have k0 := h0
  have lt0 : ∀ x ∈ p0, x.block < W.heap.size := by obtain ⟨m, hm⟩ := k0; exact DataW.trod_lt m _ _ _ hm
  obtain ⟨xs0, r0⟩ : ∃ xs, Reads .i32 W a0 len0 cap0 xs := by
    obtain ⟨fuel, hf⟩ := h0
    rcases open_ints Tryz.underlying23 Tryz.underlying21 (by kernel_rfl) hf with ⟨hcs, _⟩ | ⟨x, l, c, zs, hcs, _, hl, hm, hz, _, hcell, hwz⟩
    · simp [Value.cells] at hcs
      obtain ⟨rfl, rfl, rfl⟩ := hcs
      exact ⟨[], Reads.nil _ _ _ _ (Nat.zero_le _)⟩
    · simp [Value.cells] at hcs
      obtain ⟨rfl, rfl, rfl⟩ := hcs
      exact ⟨_, reads_of_ints hl hm (by simpa using hz) hcell hwz⟩
  obtain ⟨a1, rfl, rfl, rfl, w1⟩ := open_int Tryz.underlying3 (hval 1 3 v1 rfl rfl) h1
  clear hA0 hval0
  refine (walk a0 len0 cap0 xs0 a1 W r0 w1).mono fun e W' ⟨he, bel⟩ => ?_
  subst he
  exact ⟨_, rfl, _, _, _, [], _, [], hW', trodAll_mk1 (shut_bool Tryz.underlying4 _), (trodAll_cons_mk (Below.trod laidOut (by kernel_rfl) (of_decide_eq_true (by kernel_rfl)) k0 bel lt0) (trodAll_cons_mk (shut_int Tryz.underlying3 w1) trodAll_mk0)), rfl, bel.frame _, fun h => by cases h⟩

theorem over : Rows.ewcutReadRow.holds Tryz.pinned (OpenSpec.ofChange Rows.ewcutReadSpec) :=
  OpenClaim.holds_of_wide 5 Tryz.f5 rfl rfl rfl rfl rfl rfl rfl ⟨rfl, rfl, rfl, rfl, rfl⟩ rfl rfl rfl rfl rfl (by kernel_rfl) Tryz.func5 (by kernel_rfl)
    (of_decide_eq_true (by kernel_rfl)) (by unfold Func.isWrapper; first | (rw [if_pos (by decide +kernel)]; kernel_rfl) | (rw [if_neg (by decide +kernel)]; exact ⟨rfl, rfl⟩))
    (fun os started H enc _ => lifted os started H enc)

end Go.Proofs.YtdglnpkkfkagaaaGreat.ewcutRead
namespace Go.Proofs.YtdglnpkkfkagaaaGreat
theorem ewcutRead_holds : Rows.EwcutReadSaid := ewcutRead.over
#print axioms ewcutRead_holds
end Go.Proofs.YtdglnpkkfkagaaaGreat
