/- The small functions of package code and of the document's answer: what each call gives back. -/
import Derived.Test.YtjbbgpacijageaaRows
import Derived.Test.YtjbbgpacijageaaMath
import Derived.WalkKit
import Derived.WalkSpells
import Derived.WalkLawsBesides
import Derived.Deep.QuietTactic
import Derived.BigQuiet
import Derived.Handy
namespace Go.Proofs.Ytjbbgpacijageaa
open Go.RowKit
set_option linter.unusedSimpArgs false
set_option linter.unusedVariables false


set_option maxHeartbeats 400000 in
theorem c_toWord (n : Int) (w : World) :
    Calls Try.prog 63 #[.int .i64 n] w fun e w' => e = .returned (.int .i64 (wd n)) ∧ w' = w := by
  go_enter Try.func63, Try.ntmps63
  go_wp2
  go_ret
  exact ⟨ret_int (and_wd n), rfl⟩

set_option maxHeartbeats 400000 in
theorem c_rest (n : Int) (w : World) :
    Calls Try.prog 64 #[.int .i64 n] w fun e w' => e = .returned (.int .i64 (wd n)) ∧ w' = w := by
  go_enter Try.func64, Try.ntmps64
  go_wp2
  go_ret
  exact ⟨ret_int (rest_wd n), rfl⟩

set_option maxHeartbeats 400000 in
theorem c_isRegister (n : Int) (w : World) :
    Calls Try.prog 65 #[.int .i64 n] w fun e w' => e = .returned (.bool (isR n)) ∧ w' = w := by
  go_enter Try.func65, Try.ntmps65
  go_wp2
  all_goals go_ret
  all_goals refine ⟨ret_bool ?_, rfl⟩
  all_goals (unfold isR; rw [Bool.eq_iff_iff]; simp; try omega)

set_option maxHeartbeats 400000 in
theorem c_isReg (n : Int) (w : World) :
    Calls Try.prog 67 #[.int .i64 n] w fun e w' => e = .returned (.bool (isR n)) ∧ w' = w := by
  go_enter Try.func67, Try.ntmps67
  go_wp2
  all_goals go_ret
  all_goals refine ⟨ret_bool ?_, rfl⟩
  all_goals (unfold isR; rw [Bool.eq_iff_iff]; simp; try omega)

set_option maxHeartbeats 400000 in
theorem c_refWord (n : Int) (w : World) :
    Calls Try.prog 68 #[.int .i64 n] w fun e w' => e = .returned (.bool (isW n)) ∧ w' = w := by
  go_enter Try.func68, Try.ntmps68
  go_wp2
  all_goals go_ret
  all_goals refine ⟨ret_bool ?_, rfl⟩
  all_goals (unfold isW; rw [Bool.eq_iff_iff]; simp; try omega)

set_option maxHeartbeats 400000 in
theorem c_isWord (n : Int) (w : World) :
    Calls Try.prog 66 #[.int .i64 n] w fun e w' => e = .returned (.bool (isW n)) ∧ w' = w := by
  go_enter Try.func66, Try.ntmps66
  go_wp2_with (go_at_call 63; refine (c_toWord _ _).mono ?_; rintro e w' ⟨rfl, rfl⟩)
  go_ret
  exact ⟨ret_bool (isW_eq n), rfl⟩

set_option maxHeartbeats 400000 in
theorem c_Get (p : Pl) (r : Int) (w : World) :
    Calls Try.prog 23 #[pv p, .int .i64 r] w fun e w' => e = .returned (.int .i64 (get p r)) ∧ Below w.heap.size w w' := by
  by_cases h : isR r = true
  · rcases reg_cases r h with rfl | rfl | rfl | rfl | rfl | rfl | rfl | rfl
    all_goals
      go_enter Try.func23, Try.ntmps23
      go_wp2_with (go_at_call 65; refine (c_isRegister _ _).mono ?_; rintro e w' ⟨rfl, rfl⟩)
      go_ret
      exact ⟨by simp [get, h], by go_grown⟩
  · have h' : isR r = false := by simpa using h
    go_enter Try.func23, Try.ntmps23
    go_wp2_with (go_at_call 65; refine (c_isRegister _ _).mono ?_; rintro e w' ⟨rfl, rfl⟩)
    go_ret
    exact ⟨by simp [get, h], by go_grown⟩

set_option maxHeartbeats 400000 in
theorem c_Put (p : Pl) (r n : Int) (w : World) :
    Calls Try.prog 25 #[pv p, .int .i64 r, .int .i64 n] w fun e w' => e = .returned (pv (put p r n)) ∧ Below w.heap.size w w' := by
  by_cases h : isR r = true
  · rcases reg_cases r h with rfl | rfl | rfl | rfl | rfl | rfl | rfl | rfl
    all_goals
      go_enter Try.func25, Try.ntmps25
      go_wp2_with (first | (go_at_call 65; refine (c_isRegister _ _).mono ?_; rintro e w' ⟨rfl, rfl⟩) | (go_at_call 63; refine (c_toWord _ _).mono ?_; rintro e w' ⟨rfl, rfl⟩))
      go_returns
      exact ⟨by simp [put, h, pv], by go_grown⟩
  · have h' : isR r = false := by simpa using h
    have h0 : (r != 0) = true := by rw [isR_not] at h'; rw [bne_iff_ne]; omega
    go_enter Try.func25, Try.ntmps25
    go_wp2_with (first | (go_at_call 65; refine (c_isRegister _ _).mono ?_; rintro e w' ⟨rfl, rfl⟩) | (go_at_call 63; refine (c_toWord _ _).mono ?_; rintro e w' ⟨rfl, rfl⟩))
    go_returns
    exact ⟨by simp [put, h, pv], by go_grown⟩

set_option maxHeartbeats 400000 in
theorem c_next (p : Pl) (w : World) :
    Calls Try.prog 70 #[pv p] w fun e w' => e = .returned (pv (next p)) ∧ Below w.heap.size w w' := by
  go_enter Try.func70, Try.ntmps70
  go_wp2_with (first | (go_at_call 63; refine (c_toWord _ _).mono ?_; rintro e w' ⟨rfl, rfl⟩))
  go_returns
  exact ⟨by simp [next, pv, wd_wrap], by go_grown⟩

set_option maxHeartbeats 400000 in
theorem c_less (b c : Int) (w : World) :
    Calls Try.prog 71 #[.int .i64 b, .int .i64 c] w fun e w' => e = .returned (.int .i64 (if b < c then 1 else 0)) ∧ w' = w := by
  by_cases h : b < c
  all_goals
    go_enter Try.func71, Try.ntmps71
    go_wp2
    go_ret
    exact ⟨by simp [h], rfl⟩

end Go.Proofs.Ytjbbgpacijageaa
