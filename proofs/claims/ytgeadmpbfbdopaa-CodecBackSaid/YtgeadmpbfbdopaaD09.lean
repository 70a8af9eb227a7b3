/-
  Layer 9, in plain words: ISO-8859-15.
-/
import Derived.Test.YtgeadmpbfbdopaaD08
namespace Go.Proofs.Ytgeadmpbfbdopaa
open Go.RowKit
set_option linter.unusedVariables false

def sg09 (x : Int) : Int := if x = 164 then 8364 else if x = 166 then 352 else if x = 168 then 353 else if x = 180 then 381 else if x = 184 then 382 else if x = 188 then 338 else if x = 189 then 339 else if x = 190 then 376 else x
theorem sg09_bd (x : Int) (h0 : 0 ≤ x) (h1 : x ≤ 255) : 0 ≤ sg09 x ∧ sg09 x ≤ 8364 := by
  unfold sg09
  repeat' split
  all_goals omega
theorem sg09_wf (x : Int) (h0 : 0 ≤ x) (h1 : x ≤ 255) : (Lit.int .i32 (sg09 x)).wf = true := mk_r (by have := sg09_bd x h0 h1; omega) (by have := sg09_bd x h0 h1; omega)
set_option maxRecDepth 100000 in
theorem once09 : Once sg09 := by
  have h : ∀ n : Fin 256, putN sg09 (sg09 (n.val : Int)) = some n.val := by decide +kernel
  intro n hn _
  exact h ⟨n, hn⟩

end Go.Proofs.Ytgeadmpbfbdopaa
