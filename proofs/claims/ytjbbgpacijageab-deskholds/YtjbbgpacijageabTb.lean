/- The types of the program. -/
import Derived.Test.YtjbbgpacijageabT16
import Derived.Test.YtjbbgpacijageabProg
namespace Go.Proofs.Ytjbbgpacijageab.M
open Go.RowKit

abbrev plainT : Ty := .pair (.arr 8 .int) (.pair .int .bool)
abbrev instrT : Ty := .pair .int (.pair .int (.pair .int (.pair .int .int)))
abbrev lineT : Ty := .pair .int (.pair .int (.pair (.arr 2 .int) .bool))
abbrev writeT : Ty := .pair .int .int
abbrev coreT : Ty := .pair plainT (.pair (.arr 4 lineT) (.pair .int (.pair plainT (.pair (.lst writeT) .int))))
abbrev deskT : Ty := .pair (.arr 2 coreT) (.arr 32 .int)
abbrev recordT : Ty := .pair .int (.pair .int .int)
abbrev actT : Ty := .pair .int (.pair .int .int)
abbrev progsT : Ty := .arr 2 (.lst instrT)
abbrev replyT : Ty := .pair .int .int

def tab : Tab := { ty := [(2, .int, 0), (3, .int, 0), (4, .bool, 0), (22, (.arr 8 .int), 0), (23, (.pair (.arr 8 .int) (.pair .int .bool)), 3), (24, plainT, 3), (25, (.arr 2 .int), 0), (26, (.pair .int (.pair .int (.pair (.arr 2 .int) .bool))), 4), (27, lineT, 4), (28, (.arr 4 lineT), 0), (29, (.lst writeT), 0), (30, (.pair plainT (.pair (.arr 4 lineT) (.pair .int (.pair plainT (.pair (.lst writeT) .int))))), 6), (31, coreT, 6), (32, (.arr 2 coreT), 0), (33, (.arr 32 .int), 0), (34, (.pair (.arr 2 coreT) (.arr 32 .int)), 2), (35, deskT, 2), (40, (.lst deskT), 0), (47, (.lst instrT), 0), (48, (.arr 2 (.lst instrT)), 0), (49, (.lst recordT), 0), (50, .int, 0), (56, (.pair .int (.pair .int .int)), 3), (57, recordT, 3), (61, (.pair .int (.pair .int (.pair .int (.pair .int .int)))), 5), (62, instrT, 5), (65, actT, 3), (67, (.pair .int .int), 2), (68, replyT, 2), (74, (.lst .int), 0), (84, (.pair deskT (.pair (.arr 2 (.lst instrT)) (.pair .int (.lst recordT)))), 4), (85, (.pair deskT (.pair (.arr 2 (.lst instrT)) (.pair .int (.lst recordT)))), 4), (89, (.pair .int .int), 2), (90, writeT, 2), (96, (.pair (.arr 2 (.lst instrT)) (.pair deskT (.pair (.lst recordT) .int))), 4), (97, (.pair (.arr 2 (.lst instrT)) (.pair deskT (.pair (.lst recordT) .int))), 4), (118, (.lst lineT), 0)], eq := [2, 3, 4, 22, 23, 24, 25, 26, 27, 28, 33, 50, 56, 57, 61, 62, 65, 67, 68, 89, 90], ptrs := [15, 16, 17, 66, 79, 81, 91, 137] }
theorem tabOk : TabOk Try.prog tab := ⟨by unfold TysOk; kernel_rfl, by kernel_rfl, by kernel_rfl, by kernel_rfl⟩

end Go.Proofs.Ytjbbgpacijageab.M
