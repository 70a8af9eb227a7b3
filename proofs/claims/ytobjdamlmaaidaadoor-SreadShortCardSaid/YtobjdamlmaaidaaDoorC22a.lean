/-
  Contracts of package useven: Direct, Seven, from run to run.
-/
import Derived.Test.YtobjdamlmaaidaaDoorRows
import Derived.Test.YtobjdamlmaaidaaDoorC01k
import Derived.Test.YtobjdamlmaaidaaDoorC03
import Derived.Test.YtobjdamlmaaidaaDoorC06b
import Derived.Test.YtobjdamlmaaidaaDoorC14d
import Derived.Test.YtobjdamlmaaidaaDoorD22b
import Derived.Test.YtobjdamlmaaidaaDoorRdr
import Derived.Test.YtobjdamlmaaidaaDoorStm
import Derived.Lib.Bytealg
namespace Go.Proofs.YtobjdamlmaaidaaDoor
open Go.RowKit
set_option linter.unusedVariables false

abbrev othS : ByteArray := { data := #[39, 40, 41, 44, 45, 46, 47, 58, 63, 32, 9, 13, 10] }
theorem oth_fin : ∀ c : Fin 128, decide (0 ≤ Lib.indexByte othS.data.toList (c.val.toUInt8)) = dirT.any (fun x => decide (x = (c.val : Int))) := by decide +kernel
theorem alnum_fin : ∀ c : Fin 128, (isB 24 (c.val : Int) || dirT.any (fun x => decide (x = (c.val : Int)))) = dirB (c.val : Int) := by decide +kernel
theorem oth_c (c : Int) (h0 : 0 ≤ c) (h1 : c ≤ 127) : decide (0 ≤ Lib.indexByte othS.data.toList c.toNat.toUInt8) = dirT.any (fun x => decide (x = c)) := by
  have := oth_fin ⟨c.toNat, by omega⟩
  simp only at this
  rwa [show ((c.toNat : Nat) : Int) = c by omega] at this
theorem alnum_dir (c : Int) (h0 : 0 ≤ c) (h1 : c ≤ 127) : (isB 24 c || dirT.any (fun x => decide (x = c))) = dirB c := by
  have := alnum_fin ⟨c.toNat, by omega⟩
  simp only at this
  rwa [show ((c.toNat : Nat) : Int) = c by omega] at this
theorem slite_oth (c : Int) (w : World) :
    Calls Tryd.prog 68 #[.string othS, .int .u8 c] w fun e w' => e = .returned (.int .i64 (Lib.indexByte othS.data.toList c.toNat.toUInt8)) ∧ w = w' := by
  have hx := ibS othS c w
  generalize Lib.indexByte othS.data.toList c.toNat.toUInt8 = I at *
  go_enter Tryd.func68, Tryd.ntmps68
  go_wp2
  go_ret
  exact ⟨rfl, rfl⟩
theorem strings_oth (c : Int) (w : World) :
    Calls Tryd.prog 57 #[.string othS, .int .u8 c] w fun e w' => e = .returned (.int .i64 (Lib.indexByte othS.data.toList c.toNat.toUInt8)) ∧ w = w' := by
  have hx := slite_oth c w
  generalize Lib.indexByte othS.data.toList c.toNat.toUInt8 = I at *
  have HX := hid hx
  clear hx
  go_enter Tryd.func57, Tryd.ntmps57
  go_wp2_with (go_at_call 68; (with_reducible refine HX.out.mono ?_); rintro e w' ⟨rfl, rfl⟩)
  go_ret
  exact ⟨rfl, rfl⟩
set_option maxRecDepth 100000 in
theorem rune_oth (c : Int) (w : World) (h0 : 0 ≤ c) (h1 : c ≤ 127) :
    Calls Tryd.prog 64 #[.string othS, .int .i32 c] w fun e w' => e = .returned (.int .i64 (Lib.indexByte othS.data.toList c.toNat.toUInt8)) ∧ w = w' := by
  have hx := strings_oth c w
  generalize Lib.indexByte othS.data.toList c.toNat.toUInt8 = I at *
  have HX := hid hx
  have hc : c < 128 := by omega
  clear hx
  go_enter Tryd.func64, Tryd.ntmps64
  go_wp2_with (go_at_call 57; (with_reducible refine HX.out.mono ?_); rintro e w' ⟨rfl, rfl⟩)
  go_ret
  exact ⟨rfl, rfl⟩
theorem has_oth (c : Int) (w : World) (h0 : 0 ≤ c) (h1 : c ≤ 127) :
    Calls Tryd.prog 53 #[.string othS, .int .i32 c] w fun e w' => e = .returned (.bool (dirT.any (fun x => decide (x = c)))) ∧ w = w' := by
  have hx := rune_oth c w h0 h1
  have hd := hid (oth_c c h0 h1)
  generalize Lib.indexByte othS.data.toList c.toNat.toUInt8 = I at *
  have HX := hid hx
  clear hx
  go_enter Tryd.func53, Tryd.ntmps53
  go_wp2_with (go_at_call 64; (with_reducible refine HX.out.mono ?_); rintro e w' ⟨rfl, rfl⟩)
  go_ret
  exact ⟨ret_bool hd.out, rfl⟩
theorem useven_Direct (c : Int) (w : World) :
    Calls Tryd.prog 44 #[.int .i32 c] w fun e w' => e = .returned (.bool (dirB c)) ∧ w = w' := by
  by_cases hb : 0 ≤ c ∧ c ≤ 127
  · obtain ⟨h0, h1⟩ := hb
    have hd := hid (alnum_dir c h0 h1)
    have hH := hid (has_oth c w h0 h1)
    have n0 : ¬ c < 0 := by omega
    have n1 : ¬ c > 127 := by omega
    generalize dirT.any (fun x => decide (x = c)) = D at *
    cases hi : isB 24 c
    all_goals
      have hd' := hd.out
      rw [hi] at hd'
      have HD := hid hd'
      clear hd hd'
      go_enter Tryd.func44, Tryd.ntmps44
      go_wp2_with (first
        | (go_at_call 52; (with_reducible refine (is_c _ _ _ h0 (by omega)).mono ?_); rintro e w' ⟨rfl, rfl⟩; rw [hi])
        | (go_at_call 53; (with_reducible refine hH.out.mono ?_); rintro e w' ⟨rfl, rfl⟩))
      go_ret
      exact ⟨ret_bool (by rw [← HD.out]; rfl), rfl⟩
  · have hd : dirB c = false := by
      cases h : dirB c
      · rfl
      · have := dir_bd h; omega
    rw [hd]
    have hK : c < 0 ∨ (¬ c < 0 ∧ 127 < c) := by omega
    clear hb hd
    rcases hK with h | ⟨h, h2⟩
    all_goals
      go_enter Tryd.func44, Tryd.ntmps44
      go_wp2_with fail
      go_ret
      exact ⟨rfl, rfl⟩
theorem useven_begins (c : Int) (w : World) :
    Calls Tryd.prog 43 #[.int .i32 c] w fun e w' => e = .returned (.bool (begB c)) ∧ w = w' := by
  cases hd : dirB c
  · have hb : begB c = (c != 43) := by unfold begB; rw [hd, Bool.eq_iff_iff]; simp
    rw [hb]
    go_enter Tryd.func43, Tryd.ntmps43
    go_wp2_with (go_at_call 44; (with_reducible refine (useven_Direct _ _).mono ?_); rintro e w' ⟨rfl, rfl⟩; rw [hd])
    go_ret
    exact ⟨rfl, rfl⟩
  · have hb : begB c = false := by unfold begB; rw [hd]; rfl
    rw [hb]
    go_enter Tryd.func43, Tryd.ntmps43
    go_wp2_with (go_at_call 44; (with_reducible refine (useven_Direct _ _).mono ?_); rintro e w' ⟨rfl, rfl⟩; rw [hd])
    go_ret
    exact ⟨rfl, rfl⟩
set_option maxHeartbeats 1000000 in
theorem idx_dirB (a : Option Addr) (len cap : Nat) (xs : List Int) (w : World) (hr : Reads .i32 w a len cap xs) :
    Calls Tryd.prog 49 #[.slice a len cap, .func (.func 44) #[] #[]] w fun e w' => e = .returned (.int .i64 (idxI dirB xs)) ∧ w = w' := by
  have hl := hr.len_le
  have HR := hid hr
  clear hr
  go_enter Tryd.func49, Tryd.ntmps49
  go_wp2
  go_loop [8] (fun i => ∃ k : Nat, k ≤ len ∧ i = .int .i64 k ∧ Hid ((xs.take k).any dirB = false)) (fun i => len - (intOf i).toNat)
  case atStart => exact ⟨0, Nat.zero_le _, rfl, rfl⟩
  case round =>
    obtain ⟨k, hk, rfl, hn⟩ := hrel
    by_cases hlt : k < len
    · obtain ⟨b, off, x, rfl, _, hc, h0, h1, hx⟩ := HR.out.getR hlt
      cases hs : dirB x
      · have H := hid hs
        go_wp2_with (go_at_call 44; (with_reducible refine (useven_Direct _ _).mono ?_); rintro e w' ⟨rfl, rfl⟩; rw [hs])
        go_round
        case rel => exact ⟨k + 1, by omega, by go_num, none_yes hx.out.2 hn.out H.out⟩
        case measure => simp [intOf]; omega
      · have H := hid hs
        go_wp2_with (go_at_call 44; (with_reducible refine (useven_Direct _ _).mono ?_); rintro e w' ⟨rfl, rfl⟩; rw [hs])
        go_ret
        exact ⟨ret_int (idx_hit hx.out.1 hn.out H.out).symm, rfl⟩
    · go_wp2
      go_ret
      exact ⟨ret_int (by rw [← HR.out.all (show len ≤ k by omega)]; exact (idx_none hn.out).symm), rfl⟩
set_option maxHeartbeats 1000000 in
theorem idx_begB (a : Option Addr) (len cap : Nat) (xs : List Int) (w : World) (hr : Reads .i32 w a len cap xs) :
    Calls Tryd.prog 49 #[.slice a len cap, .func (.func 43) #[] #[]] w fun e w' => e = .returned (.int .i64 (idxI begB xs)) ∧ w = w' := by
  have hl := hr.len_le
  have HR := hid hr
  clear hr
  go_enter Tryd.func49, Tryd.ntmps49
  go_wp2
  go_loop [8] (fun i => ∃ k : Nat, k ≤ len ∧ i = .int .i64 k ∧ Hid ((xs.take k).any begB = false)) (fun i => len - (intOf i).toNat)
  case atStart => exact ⟨0, Nat.zero_le _, rfl, rfl⟩
  case round =>
    obtain ⟨k, hk, rfl, hn⟩ := hrel
    by_cases hlt : k < len
    · obtain ⟨b, off, x, rfl, _, hc, h0, h1, hx⟩ := HR.out.getR hlt
      cases hs : begB x
      · have H := hid hs
        go_wp2_with (go_at_call 43; (with_reducible refine (useven_begins _ _).mono ?_); rintro e w' ⟨rfl, rfl⟩; rw [hs])
        go_round
        case rel => exact ⟨k + 1, by omega, by go_num, none_yes hx.out.2 hn.out H.out⟩
        case measure => simp [intOf]; omega
      · have H := hid hs
        go_wp2_with (go_at_call 43; (with_reducible refine (useven_begins _ _).mono ?_); rintro e w' ⟨rfl, rfl⟩; rw [hs])
        go_ret
        exact ⟨ret_int (idx_hit hx.out.1 hn.out H.out).symm, rfl⟩
    · go_wp2
      go_ret
      exact ⟨ret_int (by rw [← HR.out.all (show len ≤ k by omega)]; exact (idx_none hn.out).symm), rfl⟩
theorem runs_more (B : Nat) (T : TypeId) (g : Value → Array Value) (hg0 : ∀ v, (g v)[0]? = some v) (len cap : Nat) (a : Option Addr) (w : World) (hB : Blk w B T (g (.slice a len cap))) :
    Calls Tryd.prog 29 #[.pointer (some ⟨B, 0, none⟩)] w fun e w' => e = .returned (.bool (decide (0 < len))) ∧ w = w' := by
  have c0 := hB.cell (hg0 (.slice a len cap))
  clear hB hg0
  go_enter Tryd.func29, Tryd.ntmps29
  go_wp2_with fail
  go_ret
  exact ⟨ret_bool (by simp), rfl⟩
theorem Blk.put {W : World} {B : Nat} {T : TypeId} {g : Value → Array Value} {u : Value} (h : Blk W B T (g u)) (hgs : ∀ u v, (g u).setIfInBounds 0 v = g v) (v : Value) : Blk (W.setCell ⟨B, 0, none⟩ v) B T (g v) := by
  have := h.set 0 v
  rwa [hgs] at this
set_option maxHeartbeats 1000000 in
theorem runs_until (fv : Value) (f : Int → Bool) (hI : ∀ a len cap xs w, Reads .i32 w a len cap xs → Calls Tryd.prog 49 #[.slice a len cap, fv] w fun e w' => e = .returned (.int .i64 (idxI f xs)) ∧ w = w')
    (B : Nat) (T : TypeId) (g : Value → Array Value) (hg0 : ∀ v, (g v)[0]? = some v) (hgs : ∀ u v, (g u).setIfInBounds 0 v = g v) (a : Option Addr) (len cap : Nat) (xs : List Int) (w0 w : World) (hr : Reads .i32 w0 a len cap xs) (hb : Below w0.heap.size w0 w)
    (hB : Blk w B T (g (.slice a len cap))) (hN : len < 10000000000) :
    Calls Tryd.prog 42 #[.pointer (some ⟨B, 0, none⟩), fv] w fun e w' => ∃ m c1 a2 c2, m = cntF f xs ∧ e = .returned (.slice a m c1) ∧ Reads .i32 w0 a m c1 (xs.take m) ∧ Reads .i32 w0 a2 (len - m) c2 (xs.drop m) ∧ w.grownBy w' (some B) ∧ Blk w' B T (g (.slice a2 (len - m) c2)) := by
  have hlt := hB.lt
  have f0 := hB.frozen 0
  have c0 := hB.cell (hg0 (.slice a len cap))
  have hx := idx_cntF f xs
  have HI := hid (hI a len cap xs w (hr.below hb))
  have hrm := hr.room
  have htp := hr.len_le
  have hsz := hr.size
  obtain ⟨m, hm⟩ : ∃ m, m = cntF f xs := ⟨_, rfl⟩
  have hml : m ≤ len := by rw [hm, ← hsz]; exact cntF_le f xs
  have hp1 := hid (hr.pre hml)
  have hp2 := hr.piece (l := m) (r := len) hml (Nat.le_refl _)
  rw [List.take_of_length_le (by omega)] at hp2
  have HM := hid hm
  have HB := hid hB
  have HGS := hid hgs
  have q0 : (0 : Int) ≤ (m : Int) := by omega
  have q1 : (m : Int) ≤ (len : Int) := by omega
  have q2 : (m : Int) ≤ (cap : Int) := by omega
  have q3 : (len : Int) ≤ (cap : Int) := by omega
  by_cases ha : xs.any f = true
  · rw [if_pos ha, ← hm] at hx
    rw [hx] at HI
    have n0 : ¬ (m : Int) < 0 := by omega
    clear hx ha hm hI hg0 hgs hr hB hsz
    by_cases hc : cap = m
    all_goals
      first | (rw [if_pos hc] at hp2; have r3 : (cap = m) = True := eq_true hc; clear hc) | (rw [if_neg hc] at hp2; have r3 : (cap = m) = False := eq_false hc; clear hc)
      have HP2 := hid hp2
      clear hp2
      go_enter Tryd.func42, Tryd.ntmps42
      go_wp2_with (go_at_call 49; (with_reducible refine HI.out.mono ?_); rintro e w' ⟨rfl, rfl⟩)
      go_ret
      exact ⟨m, _, _, _, HM.out, rfl, hp1.out, HP2.out, grownBy_set _ _ _ _, HB.out.put HGS.out _⟩
  · rw [if_neg ha] at hx
    have ha' : xs.any f = false := by simpa using ha
    obtain rfl : m = len := by rw [hm, cntF_all ha', hsz]
    rw [hx] at HI
    clear hx ha ha' hm hI hg0 hgs hr hB hsz
    by_cases hc : cap = m
    all_goals
      first | (rw [if_pos hc] at hp2; have r3 : (cap = m) = True := eq_true hc; clear hc) | (rw [if_neg hc] at hp2; have r3 : (cap = m) = False := eq_false hc; clear hc)
      have HP2 := hid hp2
      clear hp2
      go_enter Tryd.func42, Tryd.ntmps42
      go_wp2_with (go_at_call 49; (with_reducible refine HI.out.mono ?_); rintro e w' ⟨rfl, rfl⟩)
      go_ret
      exact ⟨m, _, _, _, HM.out, rfl, hp1.out, HP2.out, grownBy_set _ _ _ _, by rw [Nat.sub_self]; exact HB.out.put HGS.out _⟩
set_option maxHeartbeats 1000000 in
theorem runs_next (B : Nat) (T : TypeId) (g : Value → Array Value) (hg0 : ∀ v, (g v)[0]? = some v) (hgs : ∀ u v, (g u).setIfInBounds 0 v = g v) (a : Option Addr) (len cap : Nat) (xs : List Int) (w0 w : World) (hr : Reads .i32 w0 a len cap xs) (hb : Below w0.heap.size w0 w)
    (hB : Blk w B T (g (.slice a len cap))) (hDB : w0.heap.size ≤ B) (hN : len < 10000000000) :
    Calls Tryd.prog 30 #[.pointer (some ⟨B, 0, none⟩)] w fun e w' => ∃ m j c1 a2 c2 a3 c3, m = cntF begB xs ∧ j = cntF dirB (xs.drop m) ∧ e = .returned (.tuple #[.slice a m c1, .slice a2 j c2]) ∧ Reads .i32 w0 a m c1 (xs.take m) ∧ Reads .i32 w0 a2 j c2 ((xs.drop m).take j) ∧ Reads .i32 w0 a3 (len - m - j) c3 ((xs.drop m).drop j) ∧ w.grownBy w' (some B) ∧ Blk w' B T (g (.slice a3 (len - m - j) c3)) := by
  have H1 := hid (runs_until _ begB idx_begB B T g hg0 hgs a len cap xs w0 w hr hb hB hN)
  have H2 := hid (fun a' len' cap' xs' w' hr' hb' hB' hN' => runs_until _ dirB idx_dirB B T g hg0 hgs a' len' cap' xs' w0 w' hr' hb' hB' hN')
  have hsz := hb.size
  have HB := hid hb
  clear hg0 hgs hr hb hB
  go_enter Tryd.func30, Tryd.ntmps30
  go_wp2_with (first
    | (go_at_call 42; (with_reducible refine H1.out.mono ?_); rintro e w1 ⟨m, c1, a2, c2, hm, rfl, r1, r2, g1, B1⟩; have HM := hid hm; clear hm; have b1 := below_beside HB.out g1 hsz hDB)
    | (go_at_call 42; (with_reducible refine (H2.out _ _ _ _ _ r2 b1 B1 (by omega)).mono ?_); rintro e w2 ⟨j, c3, a3, c4, hj, rfl, r3, r4, g2, B2⟩; have HJ := hid hj; clear hj))
  go_ret2
  exact ⟨m, j, _, _, _, _, _, HM.out, HJ.out, rfl, r1, r3, r4, grownBy_t g1 g2, B2⟩
end Go.Proofs.YtobjdamlmaaidaaDoor
