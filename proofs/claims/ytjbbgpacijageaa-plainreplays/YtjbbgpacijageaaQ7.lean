/- The law PlainReplays. -/
import Derived.Test.YtjbbgpacijageaaQ6
import Derived.Test.YtjbbgpacijageaaR8
namespace Go.Proofs.Ytjbbgpacijageaa.M
open Go.RowKit
theorem c_PlainReplays : Ctr Try.prog 9 (lawZ [progsT, memT, .lst recordT]) := c_PlainReplaysOf c_AllOf
end Go.Proofs.Ytjbbgpacijageaa.M
