/- The document's own functions on desks: alike. -/
import Derived.Test.YtjbbgpacijageacUD
namespace Go.Proofs.Ytjbbgpacijageac.M
open Go.RowKit
set_option linter.unusedVariables false
set_option linter.unusedSimpArgs false

def sameC (a b : coreT.D) : Bool := eqT plainT a.1 b.1 && (eqT (.arr 4 lineT) a.2.1 b.2.1 && (decide (a.2.2.1 = b.2.2.1) && (eqT plainT a.2.2.2.1 b.2.2.2.1 && (decide (a.2.2.2.2.2 = b.2.2.2.2.2) && (decide (a.2.2.2.2.1.2.length = b.2.2.2.2.1.2.length) && (List.range a.2.2.2.2.1.2.length).all fun k => eqT writeT (nthD writeT a.2.2.2.2.1.2 k) (nthD writeT b.2.2.2.2.1.2 k))))))
abbrev sameCoreS : Spec := pureS [coreT, coreT] [.bool] fun d => (sameC d.1 d.2.1, ())
def sameD (a b : deskT.D) : Bool := sameC (a.1 0) (b.1 0) && (sameC (a.1 1) (b.1 1) && eqT (.arr 32 .int) a.2 b.2)
abbrev sameDeskS : Spec := pureS [deskT, deskT] [.bool] fun d => (sameD d.1 d.2.1, ())
end Go.Proofs.Ytjbbgpacijageac.M
