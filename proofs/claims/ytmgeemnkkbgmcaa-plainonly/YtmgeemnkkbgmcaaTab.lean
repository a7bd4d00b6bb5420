/- What is known of the types and functions of this program. -/
import Derived.Test.YtmgeemnkkbgmcaaSym6
import Derived.Test.YtmgeemnkkbgmcaaRows
namespace Go.Proofs.Ytmgeemnkkbgmcaa
open Go.RowKit
set_option linter.unusedVariables false

def tab : Tab where
  ty := [(3, .sc), (4, .sc), (37, .sc), (25, .ag 10), (27, .ag 5), (43, .ag 32), (67, .ag 32), (69, .ag 42)]
  fo := [(25, 0, 0), (25, 1, 8), (25, 2, 9), (27, 0, 0), (27, 1, 1), (27, 2, 2), (27, 3, 3), (27, 4, 4), (67, 0, 0), (69, 0, 0), (69, 1, 10)]
  ze := [(25, [.pl ⟨fun _ => 0, 0, false⟩]), (27, [.ins ⟨0, 0, 0, 0, 0⟩]), (43, [.mem fun _ => 0]), (69, [.pl ⟨fun _ => 0, 0, false⟩, .mem fun _ => 0])]
  fn := [13, 15, 17, 19, 21, 23, 26, 44, 48, 40, 55, 51, 29, 52, 59, 56, 34, 31, 58, 36, 39, 33]
  ar := [(43, 32, 1)]

theorem tabOk : TabOk Try.prog tab := by
  refine ⟨by kernel_rfl, by kernel_rfl, ?_, by kernel_rfl, by kernel_rfl, by kernel_rfl⟩
  intro e he
  simp only [tab, List.mem_cons, List.not_mem_nil, or_false] at he
  rcases he with rfl | rfl | rfl | rfl
  all_goals (unfold zeroIs; kernel_rfl)

end Go.Proofs.Ytmgeemnkkbgmcaa
