/- What is known of the types and functions of this program. -/
import Derived.Test.YtjbbgpacijageaaSym6
import Derived.Test.YtjbbgpacijageaaRows
namespace Go.Proofs.Ytjbbgpacijageaa
open Go.RowKit
set_option linter.unusedVariables false

def tab : Tab where
  ty := [(3, .sc), (4, .sc), (37, .sc), (25, .ag 10), (27, .ag 5), (43, .ag 32), (88, .ag 32), (90, .ag 42)]
  fo := [(25, 0, 0), (25, 1, 8), (25, 2, 9), (27, 0, 0), (27, 1, 1), (27, 2, 2), (27, 3, 3), (27, 4, 4), (88, 0, 0), (90, 0, 0), (90, 1, 10)]
  ze := [(25, [.pl ⟨fun _ => 0, 0, false⟩]), (27, [.ins ⟨0, 0, 0, 0, 0⟩]), (43, [.mem fun _ => 0]), (90, [.pl ⟨fun _ => 0, 0, false⟩, .mem fun _ => 0])]
  fn := [15, 17, 19, 21, 23, 25, 28, 66, 70, 42, 77, 73, 31, 74, 93, 78, 36, 33, 80, 38, 41, 35]
  ar := [(43, 32, 1)]

theorem tabOk : TabOk Try.prog tab := by
  refine ⟨by kernel_rfl, by kernel_rfl, ?_, by kernel_rfl, by kernel_rfl, by kernel_rfl⟩
  intro e he
  simp only [tab, List.mem_cons, List.not_mem_nil, or_false] at he
  rcases he with rfl | rfl | rfl | rfl
  all_goals (unfold zeroIs; kernel_rfl)

end Go.Proofs.Ytjbbgpacijageaa
