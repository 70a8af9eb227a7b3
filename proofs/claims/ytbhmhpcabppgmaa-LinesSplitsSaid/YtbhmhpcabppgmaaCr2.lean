/-
  Contracts of the library's functions at an end of a line, 13 and 10: bytes.HasSuffix, bytes.Count.
-/
import Derived.Test.YtbhmhpcabppgmaaCutB
import Derived.Test.YtbhmhpcabppgmaaCntB
import Derived.Test.YtbhmhpcabppgmaaStrB
import Derived.Test.YtbhmhpcabppgmaaD26b
namespace Go.Proofs.Ytbhmhpcabppgmaa
open Go.RowKit
set_option linter.unusedVariables false

/-- bytes.HasSuffix at n octets. -/
theorem bytes_HasSuffixN (a : Option Addr) (len cap : Nat) (xs : List Int) (a2 : Option Addr) (n cap2 : Nat) (ys : List Int) (w : World) (hr : Reads .u8 w a len cap xs) (hr2 : Reads .u8 w a2 n cap2 ys) (h0 : 0 < n) :
    Calls Try.prog 28 #[.slice a len cap, .slice a2 n cap2] w fun e w' => e = .returned (.bool (decide (n ≤ len ∧ xs.drop (len - n) = ys))) ∧ w = w' := by
  have hl := hr.len_le
  have hsz := hr.size
  have hrm := hr.room
  have hl2 := hr2.len_le
  have HR2 := hid hr2
  clear hr2
  by_cases h : n ≤ len
  · have hp := hr.piece (l := len - n) (r := len) (by omega) (by omega)
    rw [List.take_of_length_le (by omega), if_neg (show ¬ cap = len - n by omega), show len - (len - n) = n by omega] at hp
    obtain ⟨b, off, rfl, _, _⟩ := hr.cell (by omega)
    rw [Option.map_some, Addr.add_lit] at hp
    have hq := bytes_Equal _ _ _ _ _ _ _ _ w hp HR2.out
    have hd2 : decide (xs.drop (len - n) = ys) = decide (n ≤ len ∧ xs.drop (len - n) = ys) := by
      rw [Bool.eq_iff_iff, decide_eq_true_iff, decide_eq_true_iff]
      exact ⟨fun e => ⟨h, e⟩, fun e => e.2⟩
    rw [hd2] at hq
    obtain ⟨F, hF⟩ : ∃ F, F = decide (n ≤ len ∧ xs.drop (len - n) = ys) := ⟨_, rfl⟩
    rw [← hF] at hq ⊢
    clear hF
    have HQ := hid hq
    clear hq hd2 hp hr hsz
    have hix : ((len : Int) - (n : Int)) = ((len - n : Nat) : Int) := by omega
    have hlc : len - n ≤ cap := by omega
    have hll : len - n ≤ len := by omega
    have hln : len - (len - n) = n := by omega
    have hcn : (cap = len - n) = False := by simp; omega
    go_enter Try.func28, Try.ntmps28
    go_wp2_with (go_at_call 38; (with_reducible refine HQ.out.mono ?_); rintro e w' ⟨rfl, rfl⟩)
    go_ret
    exact ⟨rfl, rfl⟩
  · clear hr
    have hF : decide (n ≤ len ∧ xs.drop (len - n) = ys) = false := decide_eq_false (fun e => h e.1)
    rw [hF]
    have hlt : len < n := by omega
    clear hF h
    go_enter Try.func28, Try.ntmps28
    go_wp2_with fail
    go_ret
    exact ⟨rfl, rfl⟩
theorem cnt_cr : ∀ (n : Nat) (xs : List Int), xs.length ≤ n → (∀ x ∈ xs, (Lit.int .u8 x).wf = true) → Lib.count (Lib.bytesOf xs) [13, 10] = crN xs := by
  intro n
  induction n with
  | zero =>
    intro xs h _
    obtain rfl : xs = [] := List.eq_nil_of_length_eq_zero (by omega)
    rfl
  | succ n ih =>
    intro xs h hw
    rcases crI_cases hw with ⟨h1, h2⟩ | ⟨i, h1, hl, h3, h4, h5⟩
    · rw [Lib.count_miss h1, crN_none h2]
    · rw [Lib.count_hit (by simp) h1, show i + [(13 : UInt8), 10].length = i + 2 from rfl, ← Lib.bytesOf_drop, ih (xs.drop (i + 2)) (by rw [List.length_drop]; omega) (fun x hx => hw x (List.mem_of_mem_drop hx)), crN_hit h5 h3 h4]
theorem bytes_Count2 (a : Option Addr) (len cap : Nat) (xs : List Int) (a2 : Option Addr) (c2 : Nat) (w : World) (hr : Reads .u8 w a len cap xs) (hr2 : Reads .u8 w a2 2 c2 [13, 10]) (h0 : 0 < len) (hN : len < 4294967281) (hm : Mx w) :
    Calls Try.prog 24 #[.slice a len cap, .slice a2 2 c2] w fun e w' => e = .returned (.int .i64 (crN xs)) ∧ ∃ q, w' = w.drewN q := by
  obtain ⟨m, hm⟩ := hm
  have hw : ∀ x ∈ xs, 0 ≤ x ∧ x < 256 := fun x hx => by have := wf_u8 (hr.wf x hx); omega
  obtain ⟨b, off, rfl, _, hc⟩ := hr.cell h0
  obtain ⟨b2, off2, rfl, _, hc2⟩ := hr2.cell (by decide)
  have hcc : Lib.count (Lib.bytesOf xs) (Lib.bytesOf [13, 10]) = crN xs := cnt_cr _ xs (Nat.le_refl _) hr.wf
  rw [← hcc]
  exact Any.bytes_Count_at cntLays ⟨b, off, none⟩ ⟨b2, off2, none⟩ len cap 2 c2 xs [13, 10] m w hr.size rfl hw (by decide) (fun i hi => by rw [Addr.add_lit]; exact hc i hi) (fun i hi => by rw [Addr.add_lit]; exact hc2 i hi) hr.room hN (by decide) (by decide) hm
/-- .. of no octets, whatever the address. -/
theorem bytes_Count2z (a : Option Addr) (cap : Nat) (a2 : Option Addr) (c2 : Nat) (w : World) :
    Calls Try.prog 24 #[.slice a 0 cap, .slice a2 2 c2] w fun e w' => e = .returned (.int .i64 0) ∧ w = w' := by
  have hcon : Calls Try.prog 35 #[.slice a 0 cap, .slice a2 2 c2] w fun e w' => e = .returned (.int .i64 (-1)) ∧ w' = w := Any.bytes_Index_longer cntLays.index a a2 0 cap 2 c2 w (by decide) (by decide) (by decide)
  have HC := hid hcon
  clear hcon
  go_enter Try.func24, Try.ntmps24
  go_wp2
  refine wp_loop_rounds 1 ?_
  rw [rounds_succ]
  go_wp2_with (go_at_call 35; (refine HC.out.mono ?_); rintro e w' ⟨rfl, hw'⟩; have hw2 := hw'.symm; subst hw2)
  go_ret
  exact ⟨rfl, rfl⟩
/-- Of octets, with the end's literal in the newest block. -/
theorem cntCr (a : Option Addr) (len cap : Nat) (xs : List Int) (wr : World) (B : Nat) (hB : wr.heap.size = B) (hr : Reads .u8 wr a len cap xs) (hN : len < 4294967281) (hm : Mx wr) :
    Calls Try.prog 24 #[.slice a len cap, .slice (some ⟨B, 0, none⟩) 2 2] (wr.alloc (.cells #[.int .u8 13, .int .u8 10] 5 (2, 3))) fun e w' => e = .returned (.int .i64 (crN xs)) ∧ Below wr.heap.size wr w' := by
  have hb : Below wr.heap.size wr (wr.alloc (.cells #[.int .u8 13, .int .u8 10] 5 (2, 3))) := (Below.refl _ _).alloc (Nat.le_refl _) _
  by_cases h0 : 0 < len
  · refine (bytes_Count2 a len cap xs _ 2 _ (hr.below hb) (litCr wr B hB) h0 hN (hm.below hb)).mono ?_
    rintro e w' ⟨rfl, q, rfl⟩
    exact ⟨rfl, Below.drewN hb q⟩
  · obtain rfl : len = 0 := by omega
    obtain rfl : xs = [] := List.eq_nil_of_length_eq_zero hr.size
    refine (bytes_Count2z a cap _ 2 _).mono ?_
    rintro e w' ⟨rfl, rfl⟩
    exact ⟨rfl, hb⟩
end Go.Proofs.Ytbhmhpcabppgmaa
