/-
  Bounds of a tree that is not too great.
-/
import Derived.Test.YtnnhdcohfabenaaNodesBase
namespace Go.Proofs.Ytnnhdcohfabenaa
set_option linter.unusedVariables false

theorem small_of_size {D : Nat → Nd} {n : Nat} (h : sizeTo D n ≤ 1048576) : ∀ i, i < n → (D i).nn ≤ 1048576 ∧ (D i).kn ≤ 1048576 := fun i hi => by
  have := size_le_sizeTo D n i hi
  unfold Nd.size at this
  omega
end Go.Proofs.Ytnnhdcohfabenaa
