/-
  Proved: for every []byte s (nil, empty, of any length and capacity), in whatever memory and on every schedule, sheavelaw02.HexaBack(s) returns true, without a panic or a race, and its argument reads as before. No condition.
-/
import Derived.Test.YtkminadmcjbiaaaRows
import Derived.Test.YtkminadmcjbiaaaAlive02
import Derived.Test.YtkminadmcjbiaaaR02
import Derived.WalkKit
import Derived.ProofKit
import Derived.OpenShut
import Derived.ShutString
import Derived.ChangeOld
import Derived.Below
namespace Go.Proofs.Ytkminadmcjbiaaa.hexaBack
open Go.ChangeShapes Go.WideShapes Go.ChangeAt Go.RowKit
open Go.ChangeMaps (open_string shut_string)
set_option linter.unusedVariables false

theorem own : ownKnob Try.prog.godebug = none := by kernel_rfl
theorem laidOut : laidOutB Try.prog = true := by kernel_rfl
theorem layH_cons (x : Int) (xs : List Int) : layH (x :: xs) = digI (x / 16) :: digI (x % 16) :: layH xs := rfl
theorem lay_wf8 {w : World} {a : Option Addr} {l c : Nat} {xs : List Int} (h : Reads .u8 w a l c xs) (x : Int) (hx : x ∈ xs) : 0 ≤ x ∧ x ≤ 255 := wf_u8 (h.wf x hx)
theorem lay_hex : ∀ (xs : List Int), (∀ x ∈ xs, 0 ≤ x ∧ x ≤ 255) → (layH xs).all hexO = true ∧ (layH xs).all capB = true ∧ pairs (layH xs) = xs
  | [], _ => ⟨rfl, rfl, rfl⟩
  | x :: xs, h => by
    have hx := h x (List.mem_cons_self)
    obtain ⟨i1, i2, i3⟩ := lay_hex xs (fun y hy => h y (List.mem_cons_of_mem _ hy))
    have a1 := hexV_dig (x / 16) (by omega) (by omega)
    have a2 := hexV_dig (x % 16) (by omega) (by omega)
    have b1 := digI_bd (x / 16) (by omega) (by omega)
    have b2 := digI_bd (x % 16) (by omega) (by omega)
    rw [layH_cons]
    refine ⟨by simp [a1.2, a2.2, i1], ?_, ?_⟩
    · have c1 : capB (digI (x / 16)) = true := by unfold capB; simp; omega
      have c2 : capB (digI (x % 16)) = true := by unfold capB; simp; omega
      simp [c1, c2, i2]
    · simp only [pairs, a1.1, a2.1, i3]
      rw [show 16 * (x / 16) + x % 16 = x by omega]
theorem dig_low (x : Int) (h : hexO x = true) (h0 : 0 ≤ x) (h1 : x ≤ 255) : lowI (digI (hexV x)) = lowI x := by
  unfold hexO at h
  simp only [Bool.or_eq_true, Bool.and_eq_true, decide_eq_true_eq] at h
  unfold lowI digI hexV
  (repeat' split) <;> omega
theorem lay_pairs : ∀ (n : Nat) (xs : List Int), xs.length = 2 * n → xs.all hexO = true → (∀ x ∈ xs, 0 ≤ x ∧ x ≤ 255) → (layH (pairs xs)).map lowI = xs.map lowI
  | 0, xs, hl, _, _ => by
    obtain rfl : xs = [] := List.eq_nil_of_length_eq_zero (by omega)
    rfl
  | n + 1, xs, hl, ha, hb => by
    match xs, hl with
    | x :: y :: xs, hl =>
      simp only [List.all_cons, Bool.and_eq_true] at ha
      have hx := hb x (by simp)
      have hy := hb y (by simp)
      have ih := lay_pairs n xs (by simp at hl; omega) ha.2.2 (fun z hz => hb z (by simp [hz]))
      have b1 := hexV_bd x
      have b2 := hexV_bd y
      simp only [pairs]
      rw [layH_cons, List.map_cons, List.map_cons, List.map_cons, List.map_cons, ih]
      rw [show (16 * hexV x + hexV y) / 16 = hexV x by omega, show (16 * hexV x + hexV y) % 16 = hexV y by omega, dig_low x ha.1 hx.1 hx.2, dig_low y ha.2.1 hy.1 hy.2]
theorem lay_wf : ∀ (xs : List Int), (∀ x ∈ xs, 0 ≤ x ∧ x ≤ 255) → ∀ x ∈ layH xs, 0 ≤ x ∧ x ≤ 255 := by
  intro xs h x hx
  unfold layH at hx
  rw [List.mem_flatMap] at hx
  obtain ⟨y, hy, hx⟩ := hx
  have := wf_u8 (dig2_wf y (h y hy).1 (h y hy).2 x hx)
  exact this
theorem all_ok {w : World} {a : Option Addr} {l c : Nat} {xs : List Int} (h : Reads .u8 w a l c xs) : readE (layH xs) = 0 ∧ readV (layH xs) = xs ∧ (layH xs).all capB = true := by
  obtain ⟨i1, i2, i3⟩ := lay_hex xs (lay_wf8 h)
  have := read_ok i1 (by rw [layH_len]; omega)
  exact ⟨this.1, this.2.trans i3, i2⟩
theorem like_same (a : Option Addr) (len cap : Nat) (a2 : Option Addr) (len2 cap2 : Nat) (xs : List Int) (w : World) (hr : Reads .u8 w a len cap xs) (hr2 : Reads .u8 w a2 len2 cap2 xs) :
    Calls Try.prog 15 #[.slice a len cap, .slice a2 len2 cap2] w fun e w' => e = .returned (.bool true) ∧ ∃ n, w' = w.drewN n := by
  have := like_r a len cap xs a2 len2 cap2 xs w hr hr2
  rwa [decide_eq_true rfl] at this
theorem like_eq (a : Option Addr) (len cap : Nat) (a2 : Option Addr) (len2 cap2 : Nat) (xs ys : List Int) (w : World) (he : xs = ys) (hr : Reads .u8 w a len cap xs) (hr2 : Reads .u8 w a2 len2 cap2 ys) :
    Calls Try.prog 15 #[.slice a len cap, .slice a2 len2 cap2] w fun e w' => e = .returned (.bool true) ∧ ∃ n, w' = w.drewN n := by
  subst he; exact like_same _ _ _ _ _ _ _ _ hr hr2
theorem lay_len (a : Option Addr) (len cap : Nat) (xs : List Int) (w : World) (hr : Reads .u8 w a len cap xs) (hN : len < 100000000) :
    Calls Try.prog 19 #[.slice a len cap] w fun e w' => ∃ a' cap', e = .returned (.slice a' (2 * len) cap') ∧ Reads .u8 w' a' (2 * len) cap' (layH xs) ∧ Below w.heap.size w w' := by
  refine (lay_c a len cap xs w hr hN).mono ?_
  rintro e w' ⟨a', l', c', rfl, h1, h2⟩
  obtain rfl : 2 * len = l' := by rw [← h1.size, layH_len, hr.size]
  exact ⟨a', c', rfl, h1, h2⟩
theorem reads_back (a : Option Addr) (len cap : Nat) (xs : List Int) (w : World) (hr : Reads .u8 w a len cap (layH xs)) (hx : ∀ x ∈ xs, 0 ≤ x ∧ x ≤ 255) (hN : len < 1000000000) :
    Calls Try.prog 17 #[.slice a len cap] w fun e w' => ∃ a' l' c', e = .returned (.tuple #[.slice a' l' c', .int .i64 0]) ∧ Reads .u8 w' a' l' c' xs ∧ Below w.heap.size w w' := by
  have := reads_c a len cap _ w hr hN
  obtain ⟨i1, i2, i3⟩ := lay_hex xs hx
  have hh := read_ok i1 (by rw [layH_len]; omega)
  rw [hh.1, hh.2, i3] at this
  exact this
theorem cap_lay (a : Option Addr) (len cap : Nat) (xs : List Int) (w : World) (hr : Reads .u8 w a len cap (layH xs)) (hx : ∀ x ∈ xs, 0 ≤ x ∧ x ≤ 255) :
    Calls Try.prog 21 #[.slice a len cap] w fun e w' => e = .returned (.bool true) ∧ w = w' := by
  have := capital_c a len cap _ w hr
  rwa [(lay_hex xs hx).2.1] at this
theorem reads_good (a : Option Addr) (len cap : Nat) (xs : List Int) (w : World) (hr : Reads .u8 w a len cap xs) (hN : len < 1000000000) (ho : readE xs = 0) :
    Calls Try.prog 17 #[.slice a len cap] w fun e w' => ∃ a' l' c', e = .returned (.tuple #[.slice a' l' c', .int .i64 0]) ∧ Reads .u8 w' a' l' c' (readV xs) ∧ l' ≤ len ∧ Below w.heap.size w w' := by
  have := reads_c a len cap _ w hr hN
  rw [ho] at this
  refine this.mono ?_
  rintro e w' ⟨a', l', c', rfl, h1, h2⟩
  refine ⟨a', l', c', rfl, h1, ?_, h2⟩
  rw [← h1.size, ← hr.size]
  unfold readV
  split
  · split
    · rw [pairs_len (xs.length / 2) xs (by omega)]; omega
    · simp
  · simp
theorem reads_bad (a : Option Addr) (len cap : Nat) (xs : List Int) (w : World) (hr : Reads .u8 w a len cap xs) (hN : len < 1000000000) (ho : readV xs = []) :
    Calls Try.prog 17 #[.slice a len cap] w fun e w' => ∃ a' c', e = .returned (.tuple #[.slice a' 0 c', .int .i64 (readE xs)]) ∧ Below w.heap.size w w' := by
  have := reads_c a len cap _ w hr hN
  rw [ho] at this
  refine this.mono ?_
  rintro e w' ⟨a', l', c', rfl, h1, h2⟩
  obtain rfl : 0 = l' := h1.size
  exact ⟨a', c', rfl, h2⟩
theorem good_or (xs : List Int) : (readE xs = 0 ∧ readV xs = pairs xs ∧ xs.all hexO = true ∧ xs.length % 2 = 0) ∨ ((readE xs != 0) = true ∧ readV xs = []) := by
  unfold readE readV
  split
  · split
    · exact .inl ⟨rfl, rfl, by assumption, by assumption⟩
    · exact .inr ⟨rfl, rfl⟩
  · exact .inr ⟨rfl, rfl⟩
theorem good_map {xs : List Int} (h : xs.all hexO = true) (h2 : xs.length % 2 = 0) (hb : ∀ x ∈ xs, 0 ≤ x ∧ x ≤ 255) : (layH (pairs xs)).map lowI = xs.map lowI :=
  lay_pairs (xs.length / 2) xs (by omega) h hb
set_option maxHeartbeats 4000000 in
set_option maxRecDepth 100000 in
theorem walk (a0 : Option Addr) (len0 cap0 : Nat) (xs0 : List Int) (w : World) (r0 : Reads .u8 w a0 len0 cap0 xs0) :
    Calls Try.prog 6 #[.slice a0 len0 cap0] w fun e w' => e = .returned (.bool true) ∧ Below w.heap.size w w' := by
  by_cases hN : len0 ≤ 1000
  · have R := hid r0
    have HB := hid (lay_wf8 r0)
    clear r0
    rcases good_or xs0 with hg | hg
    · have hgE := hid hg.1
      have hgM : Hid ((layH (readV xs0)).map lowI = xs0.map lowI) := by rw [Hid, hg.2.1]; exact good_map hg.2.2.1 hg.2.2.2 HB.out
      clear hg
      go_enter Try.func6, Try.ntmps6
      go_wp2_with (first
        | (go_at_call 19; (with_reducible refine (lay_len _ _ _ _ _ R.out (by omega)).mono ?_); rintro e w1 ⟨b1, c1, rfl, hr1, hb1⟩)
        | (go_at_call 17; (with_reducible refine (reads_back _ _ _ _ _ hr1 HB.out (by omega)).mono ?_); rintro e w2 ⟨b2, l2, c2, rfl, hr2, hb2⟩; have hb2' := below_then hb1 hb2; have hr1' := hr1.below hb2; have R2 := R.out.below hb2')
        | (go_at_call 15; (with_reducible refine (like_same _ _ _ _ _ _ _ _ hr2 R2).mono ?_); rintro e w3 ⟨rfl, n3, rfl⟩; have hb3 := Below.drewN hb2' n3; have hr1'' := hr1'.below (Below.drewN (Below.refl _ _) n3); have R3 := R.out.below hb3)
        | (go_at_call 21; (with_reducible refine (cap_lay _ _ _ _ _ hr1'' HB.out).mono ?_); rintro e w' ⟨rfl, rfl⟩)
        | (go_at_call 17; (with_reducible refine (reads_good _ _ _ _ _ R3 (by omega) hgE.out).mono ?_); rintro e w4 ⟨b4, l4, c4, rfl, hr4, hl4, hb4⟩; have hb4' := below_then' hb3 hb4 (by simp))
        | (go_at_call 19; (with_reducible refine (lay_len _ _ _ _ _ hr4 (by omega)).mono ?_); rintro e w5 ⟨b5, c5, rfl, hr5, hb5⟩; have hb5' := below_then hb4' hb5)
        | (go_at_call 22; (with_reducible refine (fold_r _ _ _ _ _ hr5 (by omega)).mono ?_); rintro e w6 ⟨b6, c6, rfl, hr6, hb6⟩; have hb6' := below_then hb5' hb6)
        | (go_at_call 22; (with_reducible refine (fold_r _ _ _ _ _ (R.out.below hb6') (by omega)).mono ?_); rintro e w7 ⟨b7, c7, rfl, hr7, hb7⟩; have hb7' := below_then hb6' hb7; have hr6' := hr6.below hb7)
        | (go_at_call 15; (with_reducible refine (like_eq _ _ _ _ _ _ _ _ _ hgM.out hr6' hr7).mono ?_); rintro e w8 ⟨rfl, n8, rfl⟩)
        | (go_at_call 11; (with_reducible refine (alive_any _).mono ?_); rintro e w' ⟨rfl, hb⟩))
      go_ret
      exact ⟨rfl, below_then (Below.drewN hb7' n8) hb⟩
    · have hgE := hg.1
      have hgV := hid hg.2
      clear hg
      go_enter Try.func6, Try.ntmps6
      go_wp2_with (first
        | (go_at_call 19; (with_reducible refine (lay_len _ _ _ _ _ R.out (by omega)).mono ?_); rintro e w1 ⟨b1, c1, rfl, hr1, hb1⟩)
        | (go_at_call 17; (with_reducible refine (reads_back _ _ _ _ _ hr1 HB.out (by omega)).mono ?_); rintro e w2 ⟨b2, l2, c2, rfl, hr2, hb2⟩; have hb2' := below_then hb1 hb2; have hr1' := hr1.below hb2; have R2 := R.out.below hb2')
        | (go_at_call 15; (with_reducible refine (like_same _ _ _ _ _ _ _ _ hr2 R2).mono ?_); rintro e w3 ⟨rfl, n3, rfl⟩; have hb3 := Below.drewN hb2' n3; have hr1'' := hr1'.below (Below.drewN (Below.refl _ _) n3); have R3 := R.out.below hb3)
        | (go_at_call 21; (with_reducible refine (cap_lay _ _ _ _ _ hr1'' HB.out).mono ?_); rintro e w' ⟨rfl, rfl⟩)
        | (go_at_call 17; (with_reducible refine (reads_bad _ _ _ _ _ R3 (by omega) hgV.out).mono ?_); rintro e w4 ⟨b4, c4, rfl, hb4⟩; have hb4' := below_then' hb3 hb4 (by simp))
        | (go_at_call 11; (with_reducible refine (alive_any _).mono ?_); rintro e w' ⟨rfl, hb⟩))
      go_ret
      exact ⟨rfl, below_then hb4' hb⟩
  · have hN' : 1000 < len0 := by omega
    go_enter Try.func6, Try.ntmps6
    go_wp2_with (go_at_call 11; (with_reducible refine (alive_any _).mono ?_); rintro e w' ⟨rfl, hb⟩)
    go_ret
    exact ⟨rfl, hb⟩

set_option maxRecDepth 100000 in
theorem lifted (os : Os) (started : os.Started) (H : Type) (enc : TypeId × Value → H) :
    ReturnsInHanded {} Try.checked os 6 .any (Rows.hexaBackSpec.pre6 enc Try.prog Try.f6 Rows.hexaBackRow.domain false) (Rows.hexaBackSpec.post enc Try.prog Try.f6 false true false false) := by
  refine returnsInHanded_of_change (C := Try.checked) own started (by kernel_rfl) Try.func6
    (ChangeSpec.witness6 (enc := enc) (C := Try.checked) false ⟨#[], #[.slice none 0 0], []⟩ 8 (by kernel_rfl) (by kernel_rfl) (by kernel_rfl) (by kernel_rfl)) ?_
  intro W base args ds gs before hval0 hW hcnd _
  have hval : ∀ (j : Nat) t v, Try.f6.params[j]? = some t → args[j]? = some v → Value.okWide Try.prog W .any base t v := hval0
  have hW' := hW
  obtain ⟨p, q, hA0, hV, rfl, hfz, hnd⟩ := hW
  have hA : DataW.TrodAll enc Try.prog W 0 (fun _ => true) true Try.f6.params.toList args.toList ds p := hA0
  rw [Try.params6] at hA hval
  obtain ⟨v0, vs0, d0, ds0, p0, q0, hargs, rfl, rfl, h0, r_0⟩ := trodAll_cons hA
  obtain ⟨rfl, rfl, rfl⟩ := trodAll_nil r_0
  obtain rfl : args = #[v0] := by cases args; simp_all
  obtain ⟨rfl, rfl⟩ := trodVars_none hV
  obtain ⟨a0, len0, cap0, rfl⟩ := okWide_slice Try.underlying27 (hval 0 27 v0 rfl rfl)
  have k0 := h0
  have lt0 : ∀ x ∈ p0, x.block < W.heap.size := by obtain ⟨m, hm⟩ := k0; exact DataW.trod_lt m _ _ _ hm
  obtain ⟨xs0, r0⟩ : ∃ xs, Reads .u8 W a0 len0 cap0 xs := by
    obtain ⟨fuel, hf⟩ := h0
    rcases open_ints Try.underlying27 Try.underlying5 (by kernel_rfl) hf with ⟨hcs, _⟩ | ⟨x, l, c, zs, hcs, _, hl, hm, hz, _, hcell, hwz⟩
    · simp [Value.cells] at hcs
      obtain ⟨rfl, rfl, rfl⟩ := hcs
      exact ⟨[], Reads.nil _ _ _ _ (Nat.zero_le _)⟩
    · simp [Value.cells] at hcs
      obtain ⟨rfl, rfl, rfl⟩ := hcs
      exact ⟨_, reads_of_ints hl hm (by simpa using hz) hcell hwz⟩
  clear hA0 hval0
  refine (walk a0 len0 cap0 xs0 W r0).mono fun e W' ⟨he, bel⟩ => ?_
  subst he
  exact ⟨_, rfl, _, _, _, [], _, [], hW', trodAll_mk1 (shut_bool Try.underlying4 _), (trodAll_cons_mk (Below.trod laidOut (by kernel_rfl) (of_decide_eq_true (by kernel_rfl)) k0 bel lt0) trodAll_mk0), rfl, bel.frame _, fun h => by cases h⟩

theorem over : Rows.hexaBackRow.holds Try.pinned (OpenSpec.ofChange Rows.hexaBackSpec) :=
  OpenClaim.holds_of_wide 6 Try.f6 rfl rfl rfl rfl rfl rfl rfl ⟨rfl, rfl, rfl, rfl, rfl⟩ rfl rfl rfl rfl rfl (by kernel_rfl) Try.func6 (by kernel_rfl)
    (of_decide_eq_true (by kernel_rfl)) (by unfold Func.isWrapper; first | (rw [if_pos (by decide +kernel)]; kernel_rfl) | (rw [if_neg (by decide +kernel)]; exact ⟨rfl, rfl⟩))
    (fun os started H enc _ => lifted os started H enc)

end Go.Proofs.Ytkminadmcjbiaaa.hexaBack
namespace Go.Proofs.Ytkminadmcjbiaaa
theorem hexaBack_holds : Rows.HexaBackSaid := hexaBack.over
#print axioms hexaBack_holds
end Go.Proofs.Ytkminadmcjbiaaa
