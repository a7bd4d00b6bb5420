/- One part of a function's text after the other: what comes behind is a letter meanwhile. No program is named here. -/
import Derived.Test.YtjbbgpacijageaaSym6
namespace Go.Proofs.Ytjbbgpacijageaa
open Go.RowKit
set_option linter.unusedVariables false

theorem seq_k {P : Program} {T : Tab} {w0 : World} {N : Nat} {a b : Code} {K : Exit → Fr → St → Prop} {f : Fr} {σ : St}
    (h : ∀ K' : Exit → Fr → St → Prop, (∀ f σ, swp P T w0 N b K f σ → K' .normal f σ) → (∀ f σ, K .ret f σ → K' .ret f σ) → (∀ i f σ, K (.exit i) f σ → K' (.exit i) f σ) → swp P T w0 N a K' f σ) : swp P T w0 N (.seq a b) K f σ :=
  h _ (fun _ _ h => h) (fun _ _ h => h) (fun _ _ _ h => h)

end Go.Proofs.Ytjbbgpacijageaa
