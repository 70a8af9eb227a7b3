/-
  Contracts of the library's functions on octets that look for one octet: bytes.IndexByte, bytes.Index, bytes.Cut (those that the translation has).
-/
import Derived.Test.YtbhmhpcabppgmaaRows
import Derived.Test.YtbhmhpcabppgmaaD03
import Derived.Test.YtbhmhpcabppgmaaC01
import Derived.Lib.BytesEntry
namespace Go.Proofs.Ytbhmhpcabppgmaa
open Go.RowKit
set_option linter.unusedVariables false

/-- The place of the first c, or -1. -/
def idxO (c : Int) (xs : List Int) : Int := idxI (fun x => decide (x = c)) xs
def notO (c : Int) (x : Int) : Bool := decide (x ≠ c)

theorem idx_cons (f : Int → Bool) (x : Int) (t : List Int) : idxI f (x :: t) = if f x then 0 else if idxI f t = -1 then -1 else idxI f t + 1 := by
  unfold idxI
  rw [List.findIdx?_cons]
  by_cases hf : f x = true
  · rw [if_pos hf, if_pos hf]; rfl
  · rw [if_neg hf, if_neg hf]
    cases h : t.findIdx? f with
    | none => rfl
    | some i =>
      have : ¬ ((i : Int) = -1) := by omega
      simp [this]
theorem lib_idx (c : Int) (h0 : 0 ≤ c) (h1 : c ≤ 255) : ∀ xs : List Int, (∀ x ∈ xs, (Lit.int .u8 x).wf = true) → Lib.indexByte (Lib.bytesOf xs) c.toNat.toUInt8 = idxO c xs
  | [], _ => rfl
  | x :: t, h => by
    have hx := wf_u8 (h x (List.mem_cons_self ..))
    have ih := lib_idx c h0 h1 t (fun y hy => h y (List.mem_cons_of_mem _ hy))
    unfold idxO at ih ⊢
    rw [idx_cons, ← ih]
    have he : (x.toNat.toUInt8 == c.toNat.toUInt8) = decide (x = c) := by
      rw [u8_eq _ _ h0 h1, Bool.eq_iff_iff, beq_iff_eq, decide_eq_true_iff]
      have : (x.toNat.toUInt8.toNat : Int) = x := by simp; omega
      rw [this]
    show Lib.indexByte (x.toNat.toUInt8 :: Lib.bytesOf t) c.toNat.toUInt8 = _
    rw [Lib.indexByte, he]
    simp only [beq_iff_eq]
theorem idxO_bd (c : Int) (xs : List Int) : -1 ≤ idxO c xs ∧ idxO c xs ≤ xs.length := idx_bd _ _
/-- None: all stays; one: what is ahead of it, and that it lies inside. -/
theorem idxO_none {c : Int} {xs : List Int} (h : ¬ 0 ≤ idxO c xs) : xs.takeWhile (notO c) = xs := by
  have key : ∀ l : List Int, (∀ x ∈ l, notO c x = true) → l.takeWhile (notO c) = l := by
    intro l
    induction l with
    | nil => intro _; rfl
    | cons y l ih => intro hl; rw [List.takeWhile_cons_of_pos (hl y (List.mem_cons_self ..)), ih (fun x hx => hl x (List.mem_cons_of_mem _ hx))]
  refine key xs fun x hx => ?_
  have h2 := idx_pos (fun x => decide (x = c)) xs
  rw [decide_eq_false (by exact h)] at h2
  have := List.any_eq_false.1 h2.symm x hx
  simpa [notO] using this
theorem idxO_some {c : Int} : ∀ {xs : List Int}, 0 ≤ idxO c xs → ∃ k : Nat, idxO c xs = k ∧ k < xs.length ∧ xs.takeWhile (notO c) = xs.take k
  | [], h => by
    have : idxO c [] = -1 := rfl
    omega
  | x :: t, h => by
    unfold idxO at h ⊢
    rw [idx_cons] at h ⊢
    by_cases hx : x = c
    · exact ⟨0, by rw [if_pos (decide_eq_true hx)]; rfl, by simp, by simp [notO, hx]⟩
    · rw [if_neg (by simpa using hx)] at h ⊢
      by_cases ht : idxI (fun x => decide (x = c)) t = -1
      · rw [if_pos ht] at h; omega
      · rw [if_neg ht] at h ⊢
        obtain ⟨k, e, hk, hw⟩ := idxO_some (c := c) (xs := t) (by have := (idxO_bd c t).1; unfold idxO at this ⊢; omega)
        unfold idxO at e
        refine ⟨k + 1, by rw [e]; rfl, by simpa using hk, ?_⟩
        rw [List.takeWhile_cons_of_pos (by simpa [notO] using hx), hw, List.take_succ_cons]

theorem ib8 {a : Option Addr} {len cap : Nat} {xs : List Int} {w : World} (hr : Reads .u8 w a len cap xs) (c : Int) (h0 : 0 ≤ c) (h1 : c ≤ 255) :
    (callFunc 39 #[.slice a len cap, .int .u8 c]).run Try.prog w = .ok (.value (.int .i64 (idxO c xs))) w := by
  rw [run_callFunc_extern (fn := Try.f39) (e := Extern.BytealgIndexByte.indexByte) (by kernel_rfl) (by kernel_rfl) (by kernel_rfl) (by kernel_rfl) (by kernel_rfl)]
  by_cases hl : 0 < len
  · obtain ⟨b, off, rfl, _, hc⟩ := hr.cell hl
    rw [Lib.run_indexByteSlice w b off len cap xs hr.size hc c, lib_idx c h0 h1 xs hr.wf]
    rfl
  · obtain rfl : len = 0 := by omega
    obtain rfl : xs = [] := List.eq_nil_of_length_eq_zero hr.size
    have hn := Lib.run_indexByteNil (P := Try.prog) w 0 cap c
    cases a with
    | none => rw [hn]; rfl
    | some p =>
      have he : (Extern.BytealgIndexByte.indexByte #[.slice (some p) 0 cap, .int .u8 c]).run Try.prog w = (Extern.BytealgIndexByte.indexByte #[.slice none 0 cap, .int .u8 c]).run Try.prog w := rfl
      rw [he, hn]; rfl
theorem bytes_IndexByte {a : Option Addr} {len cap : Nat} {xs : List Int} {w : World} (hr : Reads .u8 w a len cap xs) (c : Int) (h0 : 0 ≤ c) (h1 : c ≤ 255) :
    Calls Try.prog 29 #[.slice a len cap, .int .u8 c] w fun e w' => e = .returned (.int .i64 (idxO c xs)) ∧ w = w' := by
  have hx := ib8 hr c h0 h1
  clear hr
  go_enter Try.func29, Try.ntmps29
  go_wp2
  go_ret
  exact ⟨rfl, rfl⟩
set_option maxRecDepth 100000 in
theorem bytes_Index1 {a a2 : Option Addr} {len cap cap2 : Nat} {xs : List Int} {c : Int} {w : World} (hr : Reads .u8 w a len cap xs) (hr2 : Reads .u8 w a2 1 cap2 [c]) :
    Calls Try.prog 35 #[.slice a len cap, .slice a2 1 cap2] w fun e w' => e = .returned (.int .i64 (idxO c xs)) ∧ w = w' := by
  obtain ⟨b2, off2, y, rfl, _, hc2, h0, h1, hy⟩ := hr2.get8 (i := 0) (by omega)
  obtain rfl : c = y := by simpa using hy.out.1
  rw [Nat.add_zero] at hc2
  have HR := hid hr
  clear hr hr2 hy
  go_enter Try.func35, Try.ntmps35
  go_wp2_with (go_at_call 29; (with_reducible refine (bytes_IndexByte HR.out _ h0 h1).mono ?_); rintro e w' ⟨rfl, rfl⟩)
  go_ret
  exact ⟨rfl, rfl⟩
set_option maxRecDepth 100000 in
/-- bytes.Cut at one octet: what is ahead of it, and whether it is there (the rest is not told). -/
theorem bytes_Cut1 {a a2 : Option Addr} {len cap cap2 : Nat} {xs : List Int} {c : Int} {w : World} (hr : Reads .u8 w a len cap xs) (hr2 : Reads .u8 w a2 1 cap2 [c]) :
    Calls Try.prog 37 #[.slice a len cap, .slice a2 1 cap2] w fun e w' => ∃ l' v, e = .returned (.tuple #[.slice a l' cap, v, .bool (decide (0 ≤ idxO c xs))]) ∧ Reads .u8 w a l' cap (xs.takeWhile (notO c)) ∧ ∃ n, w' = w.drewN n := by
  have hl := hr.len_le
  have hsz := hr.size
  have hrm := hr.room
  obtain ⟨F, hF⟩ : ∃ F, F = decide (0 ≤ idxO c xs) := ⟨_, rfl⟩
  rw [← hF]
  have HR := hid hr
  have HR2 := hid hr2
  clear hr hr2
  by_cases hi : 0 ≤ idxO c xs
  · obtain ⟨k, hk, hkl, htw⟩ := idxO_some hi
    have hp : Reads .u8 w a k cap (xs.takeWhile (notO c)) := by
      rw [htw]
      have := HR.out
      refine ⟨by simp; omega, by omega, this.top, fun x hx => this.wf x (List.mem_of_mem_take hx), fun hk0 => ?_⟩
      obtain ⟨b, off, ha, hb, hc⟩ := this.cell (by omega)
      refine ⟨b, off, ha, hb, fun i hik => ?_⟩
      rw [hc i (by omega)]
      simp [hik]
    rw [decide_eq_true hi] at hF
    have HK := hid hk
    have HP := hid hp
    clear hk htw hp hi
    have hkl2 : k + 1 ≤ len := by omega
    clear hkl
    subst hF
    go_enter Try.func37, Try.ntmps37
    go_wp2_with (go_at_call 35; (with_reducible refine (bytes_Index1 HR.out HR2.out).mono ?_); rintro e w' ⟨rfl, rfl⟩; rw [HK.out])
    go_quiet (fail)
    go_wp2
    all_goals
      go_ret3
      exact ⟨_, ⟨_, rfl⟩, (by first | exact HP.out | (rename_i h; have := HP.out; rwa [h] at this)), _, rfl⟩
  · have ht := idxO_none hi
    have hx : (idxO c xs ≥ 0) = False := by simpa using hi
    have hp := HR.out
    rw [← ht] at hp
    rw [decide_eq_false hi] at hF
    have HI := hid hi
    have HP := hid hp
    clear hi ht hp
    subst hF
    go_enter Try.func37, Try.ntmps37
    go_wp2_with (go_at_call 35; (with_reducible refine (bytes_Index1 HR.out HR2.out).mono ?_); rintro e w' ⟨rfl, rfl⟩)
    go_ret3
    exact ⟨_, _, rfl, HP.out, 0, rfl⟩
end Go.Proofs.Ytbhmhpcabppgmaa
