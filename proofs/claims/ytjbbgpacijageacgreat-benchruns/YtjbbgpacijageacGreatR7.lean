/- The document's own functions: one instruction on a plain memory. -/
import Derived.Test.YtjbbgpacijageacGreatR6
namespace Go.Proofs.YtjbbgpacijageacGreat.M
open Go.RowKit
set_option linter.unusedVariables false
set_option linter.unusedSimpArgs false

theorem fetch_good (l : List instrT.D) (p : plainT.D) : goodI (fetchF l p) = true := by
  unfold fetchF
  split
  · rename_i h
    exact h.2
  · rfl
theorem fetch_regs (l : List instrT.D) (p : plainT.D) : (0 ≤ (fetchF l p).2.2.1 ∧ (fetchF l p).2.2.1 < 8) ∧ (0 ≤ (fetchF l p).2.2.2.1 ∧ (fetchF l p).2.2.2.1 < 8) ∧ (0 ≤ (fetchF l p).2.1 ∧ (fetchF l p).2.1 < 8) := goodI_regs (fetch_good l p)
end Go.Proofs.YtjbbgpacijageacGreat.M
