/-
  Layer 10, in plain words: windows-1252.
-/
import Derived.Test.YtgeadmpbfbdopaaD08
namespace Go.Proofs.Ytgeadmpbfbdopaa
open Go.RowKit
set_option linter.unusedVariables false

def tab10 : List Int := [8364, 65533, 8218, 402, 8222, 8230, 8224, 8225, 710, 8240, 352, 8249, 338, 65533, 381, 65533, 65533, 8216, 8217, 8220, 8221, 8226, 8211, 8212, 732, 8482, 353, 8250, 339, 65533, 382, 376]
def sg10 (x : Int) : Int := if x < 128 ∨ 159 < x then x else tab10.getD (x - 128).toNat 0
theorem tab10_bd : ∀ n : Fin 32, 0 ≤ tab10.getD n.val 0 ∧ tab10.getD n.val 0 ≤ 65533 := by decide
theorem sg10_bd (x : Int) (h0 : 0 ≤ x) (h1 : x ≤ 255) : 0 ≤ sg10 x ∧ sg10 x ≤ 65533 := by
  unfold sg10
  split
  · omega
  · exact tab10_bd ⟨(x - 128).toNat, by omega⟩
theorem sg10_wf (x : Int) (h0 : 0 ≤ x) (h1 : x ≤ 255) : (Lit.int .i32 (sg10 x)).wf = true := mk_r (by have := sg10_bd x h0 h1; omega) (by have := sg10_bd x h0 h1; omega)
set_option maxRecDepth 100000 in
theorem once10 : Once sg10 := by
  have h : ∀ n : Fin 256, sg10 (n.val : Int) = 65533 ∨ putN sg10 (sg10 (n.val : Int)) = some n.val := by decide +kernel
  intro n hn h5
  exact (h ⟨n, hn⟩).resolve_left h5

end Go.Proofs.Ytgeadmpbfbdopaa
