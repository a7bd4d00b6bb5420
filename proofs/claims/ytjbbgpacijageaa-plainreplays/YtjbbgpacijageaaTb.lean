/- The types of the program. -/
import Derived.Test.YtjbbgpacijageaaT16
import Derived.Test.YtjbbgpacijageaaProg
namespace Go.Proofs.Ytjbbgpacijageaa.M
open Go.RowKit

abbrev plainT : Ty := .pair (.arr 8 .int) (.pair .int .bool)
abbrev instrT : Ty := .pair .int (.pair .int (.pair .int (.pair .int .int)))
abbrev lineT : Ty := .pair .int (.pair .int (.pair (.arr 2 .int) .bool))
abbrev writeT : Ty := .pair .int .int
abbrev coreT : Ty := .pair plainT (.pair (.arr 4 lineT) (.pair .int (.pair plainT (.pair (.lst writeT) .int))))
abbrev deskT : Ty := .pair (.arr 2 coreT) (.arr 32 .int)
abbrev recordT : Ty := .pair .int (.pair .int .int)
abbrev actT : Ty := .pair .int (.pair .int .int)
abbrev progsT : Ty := .arr 2 (.lst instrT)
abbrev replyT : Ty := .pair .int .int

def tab : Tab := { ty := [(2, .int, 0), (3, .int, 0), (4, .bool, 0), (22, (.lst instrT), 0), (23, (.arr 8 .int), 0), (24, (.pair (.arr 8 .int) (.pair .int .bool)), 3), (25, plainT, 3), (26, (.pair .int (.pair .int (.pair .int (.pair .int .int)))), 5), (27, instrT, 5), (37, .int, 0), (43, (.arr 32 .int), 0), (49, (.arr 2 (.lst instrT)), 0), (50, (.lst recordT), 0), (51, (.arr 2 plainT), 0), (57, (.pair .int (.pair .int .int)), 3), (58, recordT, 3), (60, (.arr 2 .int), 0), (61, (.pair .int (.pair .int (.pair (.arr 2 .int) .bool))), 4), (62, lineT, 4), (63, (.arr 4 lineT), 0), (64, (.lst writeT), 0), (65, (.pair plainT (.pair (.arr 4 lineT) (.pair .int (.pair plainT (.pair (.lst writeT) .int))))), 6), (66, coreT, 6), (67, (.arr 2 coreT), 0), (68, (.pair (.arr 2 coreT) (.arr 32 .int)), 2), (69, deskT, 2), (87, (.one (.arr 32 .int)), 1), (88, (.one (.arr 32 .int)), 1), (89, (.pair plainT (.one (.arr 32 .int))), 2), (90, (.pair plainT (.one (.arr 32 .int))), 2), (102, (.lst .int), 0), (104, (.lst lineT), 0), (109, (.pair .int .int), 2), (110, writeT, 2)], eq := [2, 3, 4, 23, 24, 25, 26, 27, 37, 43, 51, 57, 58, 60, 61, 62, 63, 87, 88, 89, 90, 109, 110], ptrs := [15, 16, 17, 94, 95, 106, 122] }
theorem tabOk : TabOk Try.prog tab := ⟨by unfold TysOk; kernel_rfl, by kernel_rfl, by kernel_rfl, by kernel_rfl⟩

end Go.Proofs.Ytjbbgpacijageaa.M
