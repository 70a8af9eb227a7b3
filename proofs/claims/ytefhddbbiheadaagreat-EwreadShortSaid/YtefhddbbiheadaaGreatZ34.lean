/-
  Texts of ours laid together: R14b, C14.
-/
import Derived.Deep.CutBlock
import Derived.Test.YtefhddbbiheadaaGreatRows
import Derived.Lib.Bytealg
import Derived.Laws.CopyOwn
import Derived.IntWalk
import Derived.Test.YtefhddbbiheadaaGreatZ33

/-! R14b -/
namespace Go.Proofs.YtefhddbbiheadaaGreat
open Go.RowKit
set_option linter.unusedVariables false

theorem eqEnd_le (xs : List Int) : eqEnd xs ≤ xs.length := by unfold eqEnd; (repeat' split) <;> omega
theorem eq_getD {xs : List Int} {i : Nat} {x : Int} (h : xs[i]? = some x) : xs.getD i 0 = x := by rw [List.getD_eq_getElem?_getD, h]; rfl
set_option maxHeartbeats 4000000 in
theorem ref14_Read (a : Option Addr) (len cap : Nat) (xs : List Int) (w : World) (hr : Reads .u8 w a len cap xs) (hN : len < 10000000) :
    Calls Tryz.prog 42 #[.slice a len cap] w fun e w' => ∃ v, e = .returned (.tuple #[v, .int .i64 (codE xs)]) ∧ Own .u8 5 w.heap.size w' v (codL xs) ∧ Below w.heap.size w w' := by
  have HR := hid hr
  have hsz := hr.size
  have hll := hr.len_le
  clear hr
  obtain ⟨E, hE⟩ : ∃ E, E = eqEnd xs := ⟨_, rfl⟩
  have hEl : E ≤ len := by rw [hE, ← hsz]; exact eqEnd_le xs
  have hD : codD xs = xs.take E := by unfold codD; rw [hE]
  have HE := hid hE
  go_enter Tryz.func42, Tryz.ntmps42
  go_upto_block 0 with fail
  go_cut [4] (fun s wx => s = .int .i64 E ∧ w = wx)
  case first =>
    go_wp2_with fail
    go_loop [4, 5] (fun e i => ∃ k : Nat, k ≤ 2 ∧ k ≤ len ∧ i = .int .i64 k ∧ e = .int .i64 ((len - k : Nat) : Int) ∧ Hid (∀ t, t < k → xs.getD (len - 1 - t) 0 = 61)) (fun _ i => 2 - (intOf i).toNat)
    case atStart => exact ⟨0, by omega, by omega, rfl, rfl, fun t ht => by omega⟩
    case round =>
      obtain ⟨k, hk, hkl, rfl, rfl, hn⟩ := hrel
      have hs := HE.out
      unfold eqEnd at hs
      rw [hsz] at hs
      by_cases hk2 : k < 2
      · by_cases hlt : k < len
        · obtain ⟨b, off, x, rfl, _, hc, h0, h1, hx⟩ := HR.out.get8 (i := len - 1 - k) (by omega)
          have hg := eq_getD hx.out.1
          have hix : ((len - k : Nat) : Int) - 1 = ((len - 1 - k : Nat) : Int) := by omega
          have hpos : 0 < len - k := by omega
          by_cases hx6 : x = 61
          · subst hx6
            have hn' : Hid (∀ t, t < k + 1 → xs.getD (len - 1 - t) 0 = 61) := by
              intro t ht
              by_cases htk : t < k
              · exact hn.out t htk
              · obtain rfl : t = k := by omega
                exact hg
            clear hs hg
            go_wp2_with fail
            go_round
            case rel => exact ⟨k + 1, by omega, by omega, by go_num, by go_num, hn'⟩
            case measure => simp [intOf]; omega
          · have hb : (x == 61) = false := by simpa using hx6
            have hEk : E = len - k := by
              rw [hs]
              have hq : k = 0 ∨ k = 1 := by omega
              rcases hq with rfl | rfl
              · rw [if_neg (fun h => hx6 (by rw [← hg]; exact h.2))]; rfl
              · rw [if_pos ⟨by omega, hn.out 0 (by omega)⟩, if_neg (fun h => hx6 (by rw [← hg]; exact h.2))]
            clear hs hg hx6
            go_wp2_with fail
            go_meet
            exact ⟨by rw [hEk], rfl⟩
        · have hk0 : k = len := by omega
          have hEk : E = len - k := by
            rw [hs]
            have hq : k = 0 ∨ k = 1 := by omega
            rcases hq with rfl | rfl
            · rw [if_neg (by omega)]; rfl
            · rw [if_pos ⟨by omega, hn.out 0 (by omega)⟩, if_neg (by omega)]
          have h0 : ¬ 0 < len - k := by omega
          clear hs
          go_wp2_with fail
          go_meet
          exact ⟨by rw [hEk, show len - k = 0 by omega]; rfl, rfl⟩
      · obtain rfl : k = 2 := by omega
        have hEk : E = len - 2 := by
          rw [hs]
          rw [if_pos ⟨by omega, hn.out 0 (by omega)⟩, if_pos ⟨by omega, hn.out 1 (by omega)⟩]
        clear hs
        go_wp2_with fail
        go_meet
        exact ⟨by rw [hEk], rfl⟩
  case rest =>
  obtain ⟨rfl, rfl⟩ := hcut
  have hcap : E ≤ cap := Nat.le_trans hEl HR.out.room
  have hpre := HR.out.pre hEl
  rw [← hD] at hpre
  have HP := hid hpre
  have hp1 := hpre.size
  have hv6 : ∀ v ∈ (codD xs).map valI, V6 v := by
    intro v hv
    obtain ⟨c, _, rfl⟩ := List.mem_map.1 hv
    exact val_bd c
  have hrd := rd_bits _ hv6
  clear hpre hE hD
  cases hd : (codD xs).all isDig
  · have e : Hid (codE xs = 3) := by unfold Hid codE; rw [hd]; rfl
    have el : Hid (codL xs = []) := by unfold Hid codL; rw [e.out]; rfl
    have hV := ref14_Values a E cap (codD xs) w HP.out (by omega)
    rw [hd] at hV
    have HV := hid hV
    clear hV hd hrd
    go_wp2_with (go_at_call 61; (with_reducible refine HV.out.mono ?_); rintro e w1 ⟨v1, rfl, ho1, hb1⟩)
    go_ret2
    exact ⟨_, by rw [e.out]; rfl, by rw [el.out]; exact Own.nil _ _ _ _, hb1⟩
  · have hV := ref14_Values a E cap (codD xs) w HP.out (by omega)
    rw [hd] at hV
    have hvl : valsL (codD xs) = bits6 ((codD xs).map valI) := by unfold valsL; rw [if_pos hd]
    rw [hvl] at hV
    have HV := hid hV
    have hlen : (bits6 ((codD xs).map valI)).length = 6 * E := by rw [bits6_len, List.length_map, hp1]
    by_cases h4 : len % 4 = 0
    · have h4i : (len : Int) % 4 = 0 := by omega
      have hO1 : ∀ b ∈ bits6 ((codD xs).map valI), b = 0 ∨ b = 1 := by
        intro b hb
        unfold bits6 bit6 at hb
        rw [List.mem_flatMap] at hb
        obtain ⟨x, _, hb⟩ := hb
        simp only [List.mem_cons, List.not_mem_nil, or_false] at hb
        omega
      have HO1 := hid hO1
      rw [hlen] at hrd
      have HRD := hid hrd
      cases ho : ok64 ((codD xs).map valI)
      · have e : Hid (codE xs = 3) := by unfold Hid codE; rw [if_pos hd, hsz, if_pos h4, ho]; rfl
        have el : Hid (codL xs = []) := by unfold Hid codL; rw [e.out]; rfl
        have HO := hid ho
        clear hV hd hrd hvl hO1 ho h4
        go_wp2_with (first
          | (go_at_call 61; (with_reducible refine HV.out.mono ?_); rintro e w1 ⟨v1, rfl, ho1, hb1⟩; obtain ⟨a1, c1, rfl, hr1⟩ := ho1.reads; rw [hlen] at hr1; have hq := ref14_Octets a1 (6 * E) c1 _ w1 hr1 HO1.out (by omega); rw [HRD.out.2, HO.out] at hq; rw [hlen]; have HQ := hid hq; clear hq)
          | (go_at_call 62; (with_reducible refine HQ.out.mono ?_); rintro e w2 ⟨v2, rfl, ho2, hb2⟩))
        go_ret2
        exact ⟨_, by rw [e.out]; rfl, by rw [el.out]; exact Own.nil _ _ _ _, below_then hb1 hb2⟩
      · have e : Hid (codE xs = 0) := by unfold Hid codE; rw [if_pos hd, hsz, if_pos h4, if_pos ho]
        have el : Hid (codL xs = rd64 ((codD xs).map valI)) := by unfold Hid codL; rw [if_pos e.out]
        have HO := hid ho
        clear hV hd hrd hvl hO1 ho h4
        go_wp2_with (first
          | (go_at_call 61; (with_reducible refine HV.out.mono ?_); rintro e w1 ⟨v1, rfl, ho1, hb1⟩; obtain ⟨a1, c1, rfl, hr1⟩ := ho1.reads; rw [hlen] at hr1; have hq := ref14_Octets a1 (6 * E) c1 _ w1 hr1 HO1.out (by omega); rw [HRD.out.2, HO.out, HRD.out.1] at hq; rw [hlen]; have HQ := hid hq; clear hq)
          | (go_at_call 62; (with_reducible refine HQ.out.mono ?_); rintro e w2 ⟨v2, rfl, ho2, hb2⟩))
        go_ret2
        exact ⟨_, by rw [e.out]; rfl, by rw [el.out]; exact own_mono ho2 hb1.size, below_then hb1 hb2⟩
    · have h4i : ¬ (len : Int) % 4 = 0 := by omega
      have e : Hid (codE xs = 4) := by unfold Hid codE; rw [if_pos hd, hsz, if_neg h4]
      have el : Hid (codL xs = []) := by unfold Hid codL; rw [e.out]; rfl
      clear hV hd hrd hvl h4
      go_wp2_with (go_at_call 61; (with_reducible refine HV.out.mono ?_); rintro e w1 ⟨v1, rfl, ho1, hb1⟩)
      go_ret2
      exact ⟨_, by rw [e.out]; rfl, by rw [el.out]; exact Own.nil _ _ _ _, hb1⟩
end Go.Proofs.YtefhddbbiheadaaGreat

/-! C14 -/
namespace Go.Proofs.YtefhddbbiheadaaGreat
open Go.RowKit
set_option linter.unusedVariables false
set_option maxRecDepth 100000

abbrev digS64 : ByteArray := { data := #[65, 66, 67, 68, 69, 70, 71, 72, 73, 74, 75, 76, 77, 78, 79, 80, 81, 82, 83, 84, 85, 86, 87, 88, 89, 90, 97, 98, 99, 100, 101, 102, 103, 104, 105, 106, 107, 108, 109, 110, 111, 112, 113, 114, 115, 116, 117, 118, 119, 120, 121, 122, 48, 49, 50, 51, 52, 53, 54, 55, 56, 57, 43, 47] }
theorem digS64_fin : ∀ k : Fin 64, ((digS64.data[k.val]'(by have := k.isLt; simp)).toNat : Int) = dg64 (k.val : Int) := by decide +kernel
theorem digS64_get (k : Nat) (h : k < digS64.size) : ((digS64[k]'h).toNat : Int) = dg64 k := digS64_fin ⟨k, h⟩
theorem and63 (n : Int) : bits .and .i64 n 63 = n % 64 := by
  show IntKind.i64.wrap ((BitVec.ofInt 64 n &&& BitVec.ofInt 64 63).toNat : Int) = _
  rw [BitVec.toNat_and, BitVec.toNat_ofInt, BitVec.toNat_ofInt]
  rw [show ((63 : Int) % (2 ^ 64 : Nat)).toNat = 2 ^ 6 - 1 by decide, Nat.and_two_pow_sub_one_eq_mod]
  rw [IntWalk.i64_in _ (by omega)]
  omega
/-- The place of a digit in the alphabet, or -1. -/
def at64 (c : Int) : Int := if isDig c then valI c else -1
theorem idx64_fin : ∀ c : Fin 256, Lib.indexByte digS64.data.toList (c.val.toUInt8) = at64 (c.val : Int) := by decide +kernel
theorem idx64 (c : Int) (h0 : 0 ≤ c) (h1 : c ≤ 255) : Lib.indexByte digS64.data.toList c.toNat.toUInt8 = at64 c := by
  have := idx64_fin ⟨c.toNat, by omega⟩
  simp only at this
  rwa [show ((c.toNat : Nat) : Int) = c by omega] at this

theorem ibS (s : ByteArray) (c : Int) (w : World) : (callFunc 177 #[.string s, .int .u8 c]).run Tryz.prog w = .ok (.value (.int .i64 (Lib.indexByte s.data.toList c.toNat.toUInt8))) w := by
  rw [run_callFunc_extern (fn := Tryz.f177) (e := Extern.BytealgIndexByte.indexByte) (by kernel_rfl) (by kernel_rfl) (by kernel_rfl) (by kernel_rfl) (by kernel_rfl)]
  rw [Lib.run_indexByteString]; rfl
theorem slite64 (c : Int) (w : World) (h0 : 0 ≤ c) (h1 : c ≤ 255) :
    Calls Tryz.prog 175 #[.string digS64, .int .u8 c] w fun e w' => e = .returned (.int .i64 (at64 c)) ∧ w = w' := by
  have hx := ibS digS64 c w
  rw [idx64 c h0 h1] at hx
  go_enter Tryz.func175, Tryz.ntmps175
  go_wp2
  go_ret
  exact ⟨rfl, rfl⟩
theorem strings64 (c : Int) (w : World) (h0 : 0 ≤ c) (h1 : c ≤ 255) :
    Calls Tryz.prog 167 #[.string digS64, .int .u8 c] w fun e w' => e = .returned (.int .i64 (at64 c)) ∧ w = w' := by
  go_enter Tryz.func167, Tryz.ntmps167
  go_wp2_with (go_at_call 175; (with_reducible refine (slite64 _ _ h0 h1).mono ?_); rintro e w' ⟨rfl, rfl⟩)
  go_ret
  exact ⟨rfl, rfl⟩
theorem bcode_Value (c : Int) (w : World) (h0 : 0 ≤ c) (h1 : c ≤ 255) :
    Calls Tryz.prog 150 #[.int .u8 c] w fun e w' => e = .returned (.tuple #[.int .i64 (valI c), .bool (isDig c)]) ∧ w = w' := by
  have hs := strings64 c w h0 h1
  have hb := val_bd c
  obtain ⟨hb0, hb1⟩ := hb
  cases hd : isDig c
  · have hv : valI c = 0 := by unfold isDig at hd; unfold valI; cases h : valN c with | none => rfl | some n => rw [h] at hd; cases hd
    unfold at64 at hs
    rw [hd, if_neg (by decide)] at hs
    rw [hv]
    have HS := hid hs
    clear hs hd hv
    go_enter Tryz.func150, Tryz.ntmps150
    go_wp2_with (go_at_call 167; (with_reducible refine HS.out.mono ?_); rintro e w' ⟨rfl, rfl⟩)
    go_ret2
    exact ⟨rfl, rfl⟩
  · unfold at64 at hs
    rw [hd, if_pos rfl] at hs
    obtain ⟨v, hv⟩ : ∃ v, v = valI c := ⟨_, rfl⟩
    rw [← hv] at hs hb0 hb1 ⊢
    have HS := hid hs
    clear hs hd hv
    go_enter Tryz.func150, Tryz.ntmps150
    go_wp2_with (go_at_call 167; (with_reducible refine HS.out.mono ?_); rintro e w' ⟨rfl, rfl⟩)
    go_ret2
    exact ⟨rfl, rfl⟩
end Go.Proofs.YtefhddbbiheadaaGreat
