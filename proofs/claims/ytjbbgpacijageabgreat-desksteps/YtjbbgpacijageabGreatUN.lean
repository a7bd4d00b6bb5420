/- Several texts in one. -/
import Derived.Test.YtjbbgpacijageabGreatUF
/- Package plain: one instruction. -/
namespace Go.Proofs.YtjbbgpacijageabGreat.M
open Go.RowKit
set_option linter.unusedVariables false
set_option linter.unusedSimpArgs false

end Go.Proofs.YtjbbgpacijageabGreat.M

/- Package plain: transactions, records. -/
namespace Go.Proofs.YtjbbgpacijageabGreat.M
open Go.RowKit
set_option linter.unusedVariables false
set_option linter.unusedSimpArgs false

end Go.Proofs.YtjbbgpacijageabGreat.M

/- Cores and memories stay good. -/
namespace Go.Proofs.YtjbbgpacijageabGreat.M
open Go.RowKit
set_option linter.unusedVariables false
set_option linter.unusedSimpArgs false

end Go.Proofs.YtjbbgpacijageabGreat.M
