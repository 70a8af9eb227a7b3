/-
  Proved: for every rune c and every []byte s (nil, empty, of any length and capacity), in whatever memory and on every schedule, sheavelaw04.UtfoneBack(c, s) returns true, without a panic or a race, and its arguments read as before. No condition.
-/
import Derived.Test.YtfmbpcjmpggodaaRows
import Derived.Test.YtfmbpcjmpggodaaAlive04
import Derived.Test.YtfmbpcjmpggodaaR01
import Derived.Test.YtfmbpcjmpggodaaD04b
import Derived.Test.YtfmbpcjmpggodaaGuard
import Derived.WalkKit
import Derived.ProofKit
import Derived.OpenShut
import Derived.ShutString
import Derived.ChangeOld
import Derived.Below
namespace Go.Proofs.Ytfmbpcjmpggodaa.utfoneBack
open Go.ChangeShapes Go.WideShapes Go.ChangeAt Go.RowKit
open Go.ChangeMaps (open_string shut_string)
set_option linter.unusedVariables false

theorem own : ownKnob Try.prog.godebug = none := by kernel_rfl
theorem laidOut : laidOutB Try.prog = true := by kernel_rfl
theorem like4_eq (a : Option Addr) (len cap : Nat) (a2 : Option Addr) (len2 cap2 : Nat) (xs ys : List Int) (w : World) (he : xs = ys) (hr : Reads .u8 w a len cap xs) (hr2 : Reads .u8 w a2 len2 cap2 ys) :
    Calls Try.prog 10 #[.slice a len cap, .slice a2 len2 cap2] w fun e w' => e = .returned (.bool true) ∧ ∃ n, w' = w.drewN n := by
  have := like_r a len cap xs a2 len2 cap2 ys w hr hr2
  rwa [decide_eq_true he] at this
theorem put_nil (c : Int) (w : World) (hs : scB c = true) :
    Calls Try.prog 8 #[.slice none 0 0, .int .i32 c] w fun e w' => ∃ a' cap', e = .returned (.tuple #[.slice a' (lenI c) cap', .int .i64 0]) ∧ Reads .u8 w' a' (lenI c) cap' (octs c) ∧ Below w.heap.size w w' := by
  have := utfone_Put none 0 0 [] c w (Reads.nil _ _ _ _ (Nat.zero_le _)) (by decide) hs
  simpa only [Nat.zero_add, List.nil_append] using this
theorem take_back (c : Int) (t : List Int) (a : Option Addr) (len cap : Nat) (w : World) (hs : scB c = true) (hr : Reads .u8 w a len cap (octs c ++ t)) :
    Calls Try.prog 15 #[.slice a len cap] w fun e w' => e = .returned (.tuple #[.int .i32 c, .int .i64 (lenI c), .int .i64 0]) ∧ ∃ n, w' = w.drewN n := by
  have := utfone_Take a len cap _ w hr
  have h := take_octs c t hs
  rwa [h.1, h.2.1, h.2.2] at this
theorem bytes_of {w : World} {a : Option Addr} {len cap : Nat} {xs : List Int} (hr : Reads .u8 w a len cap xs) : ∀ x ∈ xs, 0 ≤ x ∧ x ≤ 255 := fun x hx => wf_u8 (hr.wf x hx)
/-- What is taken of octets: not a whole sign, or one. -/
theorem take_ways (a : Option Addr) (len cap : Nat) (xs : List Int) (w : World) (hr : Reads .u8 w a len cap xs) :
    (Calls Try.prog 15 #[.slice a len cap] w fun e w' => (∃ n E, e = .returned (.tuple #[.int .i32 0, .int .i64 ((n : Nat) : Int), .int .i64 E]) ∧ (E != 0) = true ∧ n ≤ len ∧ decide (0 < (n : Int)) = decide (0 < (len : Int))) ∧ ∃ n, w' = w.drewN n) ∨
    (∃ c n, (Calls Try.prog 15 #[.slice a len cap] w fun e w' => e = .returned (.tuple #[.int .i32 c, .int .i64 ((n : Nat) : Int), .int .i64 0]) ∧ ∃ n, w' = w.drewN n) ∧ scB c = true ∧ octs c = xs.take n ∧ n = lenI c ∧ n ≤ len) := by
  have h := utfone_Take a len cap xs w hr
  have hsz := hr.size
  by_cases he : takE xs = 0
  · obtain ⟨h1, h2, h3, h4⟩ := octs_take xs (bytes_of hr) he
    rw [he] at h
    exact .inr ⟨takC xs, takN xs, h, h1, h2, h3, by omega⟩
  · have hb := tak_bd xs he
    have hc : takC xs = 0 := by
      unfold takC
      split
      · rename_i hw; exact absurd (by unfold takE; rw [if_pos hw]) he
      · rfl
    rw [hc] at h
    refine .inl (h.mono ?_)
    rintro e w' ⟨rfl, hn⟩
    refine ⟨⟨takN xs, takE xs, rfl, by simpa using he, by omega, ?_⟩, hn⟩
    rw [Bool.eq_iff_iff]; simp; omega
set_option maxHeartbeats 4000000 in
set_option maxRecDepth 100000 in
theorem walk (a0 : Int) (a1 : Option Addr) (len1 cap1 : Nat) (xs1 : List Int) (w : World) (w0 : (Lit.int .i32 a0).wf = true) (r1 : Reads .u8 w a1 len1 cap1 xs1) :
    Calls Try.prog 5 #[.int .i32 a0, .slice a1 len1 cap1] w fun e w' => e = .returned (.bool true) ∧ Below w.heap.size w w' := by
  by_cases hN : len1 ≤ 1000
  · have R := hid r1
    have hsz := r1.size
    have hroom := r1.room
    have hl4 := lenI_le a0
    have hol := octs_len a0
    clear r1
    cases hs : scB a0
    · have HS := hid hs
      rcases take_ways _ _ _ _ _ R.out with hT | ⟨c, n, hT, hc, ho, hn, hnl⟩
      · go_enter Try.func5, Try.ntmps5
        go_wp2_with (first
          | (go_at_call 8; (with_reducible refine (utfone_PutNo _ _ _ _ _ HS.out).mono ?_); rintro e w' ⟨rfl, rfl⟩)
          | (go_at_call 15; (with_reducible refine hT.mono ?_); rintro e w1 ⟨⟨n, E, rfl, hE, hn, hnp⟩, n1, rfl⟩; have hb1 := Below.drewN (Below.refl w.heap.size w) n1)
          | (go_at_call 7; (with_reducible refine (alive4_any _).mono ?_); rintro e w' ⟨rfl, hb⟩))
        all_goals first
          | (go_ret
             exact ⟨rfl, below_then hb1 hb⟩)
          | (exfalso; simp only [decide_eq_decide] at hnp; omega)
      · subst hn
        have HC := hid hc
        have HO := hid ho
        clear ho
        go_enter Try.func5, Try.ntmps5
        go_wp2_with (first
          | (go_at_call 15; (with_reducible refine hT.mono ?_); rintro e w1 ⟨rfl, n1, rfl⟩; have hb1 := Below.drewN (Below.refl w.heap.size w) n1)
          | (go_at_call 8; (with_reducible refine (put_nil _ _ HC.out).mono ?_); rintro e w2 ⟨b2, c2, rfl, hr2, hb2⟩; have hb2' := below_then hb1 hb2; have R2 := (R.out.below hb2').pre hnl)
          | (go_at_call 8; (with_reducible refine (utfone_PutNo _ _ _ _ _ HS.out).mono ?_); rintro e w' ⟨rfl, rfl⟩)
          | (go_at_call 10; (with_reducible refine (like4_eq _ _ _ _ _ _ _ _ _ HO.out hr2 R2).mono ?_); rintro e w3 ⟨rfl, n3, rfl⟩; have hb3 := Below.drewN hb2' n3)
          | (go_at_call 7; (with_reducible refine (alive4_any _).mono ?_); rintro e w' ⟨rfl, hb⟩))
        go_ret
        exact ⟨rfl, below_then' hb3 hb (by simp)⟩
    · have HS := hid hs
      go_enter Try.func5, Try.ntmps5
      go_wp2_with (first
        | (go_at_call 8; (with_reducible refine (put_nil _ _ HS.out).mono ?_); rintro e w1 ⟨b1, c1, rfl, hr1, hb1⟩; have R1 := R.out.below hb1)
        | (at_builtin; (refine wpList_more CT8 rfl _ _ rfl rfl rfl ho2 hb2 (R1.below hb2) (by simp; omega) ?_); intro v3 w3 ho3 hb3; simp only [List.nil_append] at ho3; obtain ⟨b3, c3, rfl, hr3⟩ := ho3.reads; simp only [List.length_append, hsz, hol] at hr3 ⊢; have hb3' := below_then hb1 hb3)
        | (at_builtin; go_must (refine wpList_more (w0 := w1) CT8 rfl _ _ rfl rfl rfl (Own.nil _ _ _ _) (Below.refl _ _) hr1 (by simp; omega) ?_); intro v2 w2 ho2 hb2)
        | (go_at_call 15; (with_reducible refine (take_back _ _ _ _ _ _ HS.out hr3).mono ?_); rintro e w4 ⟨rfl, n4, rfl⟩; have hb4 := Below.drewN hb3' n4; have R4 := R.out.below hb4))
      rcases take_ways _ _ _ _ _ R4 with hT | ⟨c, n, hT, hc, ho, hn, hnl⟩
      · go_wp2_with (first
          | (go_at_call 15; (with_reducible refine hT.mono ?_); rintro e w5 ⟨⟨n, E, rfl, hE, hn, hnp⟩, n5, rfl⟩; have hb5 := Below.drewN hb3' (n4 + n5))
          | (go_at_call 7; (with_reducible refine (alive4_any _).mono ?_); rintro e w' ⟨rfl, hb⟩))
        all_goals first
          | (go_ret
             exact ⟨rfl, below_then' hb5 hb (by simp)⟩)
          | (exfalso; simp only [decide_eq_decide] at hnp; omega)
      · subst hn
        have HC := hid hc
        have HO := hid ho
        clear ho
        go_wp2_with (first
          | (go_at_call 15; (with_reducible refine hT.mono ?_); rintro e w5 ⟨rfl, n5, rfl⟩; have hb5 := Below.drewN hb3' (n4 + n5))
          | (go_at_call 8; (with_reducible refine (put_nil _ _ HC.out).mono ?_); rintro e w6 ⟨b6, c6, rfl, hr6, hb6⟩; have hb6' := below_then' hb5 hb6 (by simp); have R6 := (R.out.below hb6').pre hnl)
          | (go_at_call 10; (with_reducible refine (like4_eq _ _ _ _ _ _ _ _ _ HO.out hr6 R6).mono ?_); rintro e w7 ⟨rfl, n7, rfl⟩; have hb7 := Below.drewN hb6' n7)
          | (go_at_call 7; (with_reducible refine (alive4_any _).mono ?_); rintro e w' ⟨rfl, hb⟩))
        go_ret
        exact ⟨rfl, below_then' hb7 hb (by simp)⟩
  · have hN' : 1000 < len1 := by omega
    go_enter Try.func5, Try.ntmps5
    go_wp2_with (go_at_call 7; (with_reducible refine (alive4_any _).mono ?_); rintro e w' ⟨rfl, hb⟩)
    go_ret
    exact ⟨rfl, hb⟩

set_option maxRecDepth 100000 in
theorem lifted (os : Os) (started : os.Started) (H : Type) (enc : TypeId × Value → H) :
    ReturnsInHanded {} Try.checked os 5 .any (Rows.utfoneBackSpec.pre6 enc Try.prog Try.f5 Rows.utfoneBackRow.domain false) (Rows.utfoneBackSpec.post enc Try.prog Try.f5 false true false false) := by
  refine returnsInHanded_of_change (C := Try.checked) own started (by kernel_rfl) Try.func5
    (ChangeSpec.witness6 (enc := enc) (C := Try.checked) false ⟨#[], #[.int .i32 0, .slice none 0 0], []⟩ 8 (by kernel_rfl) (by kernel_rfl) (by kernel_rfl) (by kernel_rfl)) ?_
  intro W base args ds gs before hval0 hW hcnd _
  have hval : ∀ (j : Nat) t v, Try.f5.params[j]? = some t → args[j]? = some v → Value.okWide Try.prog W .any base t v := hval0
  have hW' := hW
  obtain ⟨p, q, hA0, hV, rfl, hfz, hnd⟩ := hW
  have hA : DataW.TrodAll enc Try.prog W 0 (fun _ => true) true Try.f5.params.toList args.toList ds p := hA0
  rw [Try.params5] at hA hval
  obtain ⟨v0, vs0, d0, ds0, p0, q0, hargs, rfl, rfl, h0, r_0⟩ := trodAll_cons hA
  obtain ⟨v1, vs1, d1, ds1, p1, q1, rfl, rfl, rfl, h1, r_1⟩ := trodAll_cons r_0
  obtain ⟨rfl, rfl, rfl⟩ := trodAll_nil r_1
  obtain rfl : args = #[v0, v1] := by cases args; simp_all
  obtain ⟨rfl, rfl⟩ := trodVars_none hV
  obtain ⟨a0, rfl, rfl, rfl, w0⟩ := open_int Try.underlying21 (hval 0 21 v0 rfl rfl) h0
  obtain ⟨a1, len1, cap1, rfl⟩ := okWide_slice Try.underlying22 (hval 1 22 v1 rfl rfl)
  have k1 := h1
  have lt1 : ∀ x ∈ p1, x.block < W.heap.size := by obtain ⟨m, hm⟩ := k1; exact DataW.trod_lt m _ _ _ hm
  obtain ⟨xs1, r1⟩ : ∃ xs, Reads .u8 W a1 len1 cap1 xs := by
    obtain ⟨fuel, hf⟩ := h1
    rcases open_ints Try.underlying22 Try.underlying5 (by kernel_rfl) hf with ⟨hcs, _⟩ | ⟨x, l, c, zs, hcs, _, hl, hm, hz, _, hcell, hwz⟩
    · simp [Value.cells] at hcs
      obtain ⟨rfl, rfl, rfl⟩ := hcs
      exact ⟨[], Reads.nil _ _ _ _ (Nat.zero_le _)⟩
    · simp [Value.cells] at hcs
      obtain ⟨rfl, rfl, rfl⟩ := hcs
      exact ⟨_, reads_of_ints hl hm (by simpa using hz) hcell hwz⟩
  clear hA0 hval0
  refine (walk a0 a1 len1 cap1 xs1 W w0 r1).mono fun e W' ⟨he, bel⟩ => ?_
  subst he
  exact ⟨_, rfl, _, _, _, [], _, [], hW', trodAll_mk1 (shut_bool Try.underlying4 _), (trodAll_cons_mk (shut_int Try.underlying21 w0) (trodAll_cons_mk (Below.trod laidOut (by kernel_rfl) (of_decide_eq_true (by kernel_rfl)) k1 bel lt1) trodAll_mk0)), rfl, bel.frame _, fun h => by cases h⟩

theorem over : Rows.utfoneBackRow.holds Try.pinned (OpenSpec.ofChange Rows.utfoneBackSpec) :=
  OpenClaim.holds_of_wide 5 Try.f5 rfl rfl rfl rfl rfl rfl rfl ⟨rfl, rfl, rfl, rfl, rfl⟩ rfl rfl rfl rfl rfl (by kernel_rfl) Try.func5 (by kernel_rfl)
    (of_decide_eq_true (by kernel_rfl)) (by unfold Func.isWrapper; first | (rw [if_pos (by decide +kernel)]; kernel_rfl) | (rw [if_neg (by decide +kernel)]; exact ⟨rfl, rfl⟩))
    (fun os started H enc _ => lifted os started H enc)

end Go.Proofs.Ytfmbpcjmpggodaa.utfoneBack
namespace Go.Proofs.Ytfmbpcjmpggodaa
theorem utfoneBack_holds : Rows.UtfoneBackSaid := utfoneBack.over
#print axioms utfoneBack_holds
end Go.Proofs.Ytfmbpcjmpggodaa
