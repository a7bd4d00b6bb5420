/- Several texts in one. -/
import Derived.Test.YtjbbgpacijageacGreatUF
/- Package plain: one instruction. -/
namespace Go.Proofs.YtjbbgpacijageacGreat.M
open Go.RowKit
set_option linter.unusedVariables false
set_option linter.unusedSimpArgs false

end Go.Proofs.YtjbbgpacijageacGreat.M

/- Package plain: transactions, records. -/
namespace Go.Proofs.YtjbbgpacijageacGreat.M
open Go.RowKit
set_option linter.unusedVariables false
set_option linter.unusedSimpArgs false

end Go.Proofs.YtjbbgpacijageacGreat.M

/- Cores and memories stay good. -/
namespace Go.Proofs.YtjbbgpacijageacGreat.M
open Go.RowKit
set_option linter.unusedVariables false
set_option linter.unusedSimpArgs false

end Go.Proofs.YtjbbgpacijageacGreat.M
