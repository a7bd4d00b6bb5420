/- The document's own copy of a desk. -/
import Derived.Test.YtjbbgpacijageacGreatR9
import Derived.Test.YtjbbgpacijageacGreatO1
namespace Go.Proofs.YtjbbgpacijageacGreat.M
open Go.RowKit
set_option linter.unusedVariables false
set_option linter.unusedSimpArgs false

def copyF (nn : Nat) (d : deskT.D) : deskT.D := (updA (updA d.1 0 ((d.1 0).1, (d.1 0).2.1, (d.1 0).2.2.1, (d.1 0).2.2.2.1, (.nm nn, (d.1 0).2.2.2.2.1.2), (d.1 0).2.2.2.2.2)) 1 ((d.1 1).1, (d.1 1).2.1, (d.1 1).2.2.1, (d.1 1).2.2.2.1, (.nm (nn + 1), (d.1 1).2.2.2.2.1.2), (d.1 1).2.2.2.2.2), d.2)
end Go.Proofs.YtjbbgpacijageacGreat.M
