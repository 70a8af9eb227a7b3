/-
  Contracts of package utfall's functions: those that hand back what is read.
-/
import Derived.Test.YtobjdamlmaaidaaDoorC05b
namespace Go.Proofs.YtobjdamlmaaidaaDoor
open Go.RowKit Go.Shelf
set_option linter.unusedVariables false
attribute [local go_sem] Oper.semAt_some

def encR (pre : List (Int × Int)) : List Value := pre.map (fun p => .int .i32 p.1)
theorem encR_snoc (pre : List (Int × Int)) (x : Int × Int) : encR (pre ++ [x]) = encR pre ++ [.int .i32 x.1] := by simp [encR]
theorem encR_txt (xs : List Int) : encR (sigs xs) = (txt xs).map (Value.int .i32) := by simp [encR, txt, Function.comp_def]
theorem reads_row {e : TypeId} {base : Nat} {w : World} {v : Value} {xs : List Int} (h : w.ownsRow base e 1 v (sigs xs).length (encR (sigs xs))) (hwf : ∀ x ∈ txt xs, (Lit.int .i32 x).wf = true) :
    ∃ a cap, v = .slice a (sigs xs).length cap ∧ Reads .i32 w a (sigs xs).length cap (txt xs) := by
  have hO : Own .i32 e base w v (txt xs) := ⟨by rw [txt_len, ← encR_txt]; exact h, hwf⟩
  obtain ⟨a, cap, hv, hr⟩ := hO.reads
  rw [txt_len] at hv hr
  exact ⟨a, cap, hv, hr⟩
theorem own_row {n₀ D : Nat} {w : World} (hn : n₀ ≤ w.heap.size) (hD : n₀ ≤ D) (B : Nat) (t e : TypeId) :
    OwnFrom D (fun (pre : List (Int × Int)) W => (∃ v, Boxed W B t v ∧ W.ownsRow n₀ e 1 v pre.length (encR pre) ∧ True) ∧ Below n₀ w W) :=
  OwnFrom.and (Go.Own.from (holdsRow_own n₀ B t e 1 (fun pre => pre.length) encR (fun _ _ => True)) _) (ownFrom_below hn hD)


end Go.Proofs.YtobjdamlmaaidaaDoor
