/- Loops over the registers: what each call gives back. -/
import Derived.Test.YtjbbgpacijageaaW1o
namespace Go.Proofs.Ytjbbgpacijageaa
open Go.RowKit
set_option linter.unusedSimpArgs false
set_option linter.unusedVariables false

set_option maxHeartbeats 400000 in
theorem c_madeGood (p : Pl) (w : World) :
    Calls Try.prog 69 #[pv p] w fun e w' => e = .returned (pv (made p)) ∧ Below w.heap.size w w' := by
  go_enter Try.func69, Try.ntmps69
  go_wp2_with (first | (go_at_call 63; refine (c_toWord _ _).mono ?_; rintro e w' ⟨rfl, rfl⟩))
  refine wp_loop_rounds 9 ?_
  repeat (rw [rounds_succ]; go_wp2_with (first | (go_at_call 63; refine (c_toWord _ _).mono ?_; rintro e w' ⟨rfl, rfl⟩)))
  go_returns
  exact ⟨by simp [made, pv], by go_grown⟩

theorem ix8_0 (x0 x1 x2 x3 x4 x5 x6 x7 : Value) (w : World) : (Instr.index 23 (.agg #[x0, x1, x2, x3, x4, x5, x6, x7]) (.int .i64 0)).run Try.prog w = .ok x0 w := by kernel_rfl
theorem ix8_1 (x0 x1 x2 x3 x4 x5 x6 x7 : Value) (w : World) : (Instr.index 23 (.agg #[x0, x1, x2, x3, x4, x5, x6, x7]) (.int .i64 1)).run Try.prog w = .ok x1 w := by kernel_rfl
theorem ix8_2 (x0 x1 x2 x3 x4 x5 x6 x7 : Value) (w : World) : (Instr.index 23 (.agg #[x0, x1, x2, x3, x4, x5, x6, x7]) (.int .i64 2)).run Try.prog w = .ok x2 w := by kernel_rfl
theorem ix8_3 (x0 x1 x2 x3 x4 x5 x6 x7 : Value) (w : World) : (Instr.index 23 (.agg #[x0, x1, x2, x3, x4, x5, x6, x7]) (.int .i64 3)).run Try.prog w = .ok x3 w := by kernel_rfl
theorem ix8_4 (x0 x1 x2 x3 x4 x5 x6 x7 : Value) (w : World) : (Instr.index 23 (.agg #[x0, x1, x2, x3, x4, x5, x6, x7]) (.int .i64 4)).run Try.prog w = .ok x4 w := by kernel_rfl
theorem ix8_5 (x0 x1 x2 x3 x4 x5 x6 x7 : Value) (w : World) : (Instr.index 23 (.agg #[x0, x1, x2, x3, x4, x5, x6, x7]) (.int .i64 5)).run Try.prog w = .ok x5 w := by kernel_rfl
theorem ix8_6 (x0 x1 x2 x3 x4 x5 x6 x7 : Value) (w : World) : (Instr.index 23 (.agg #[x0, x1, x2, x3, x4, x5, x6, x7]) (.int .i64 6)).run Try.prog w = .ok x6 w := by kernel_rfl
theorem ix8_7 (x0 x1 x2 x3 x4 x5 x6 x7 : Value) (w : World) : (Instr.index 23 (.agg #[x0, x1, x2, x3, x4, x5, x6, x7]) (.int .i64 7)).run Try.prog w = .ok x7 w := by kernel_rfl

attribute [local go_sem] ix8_0 ix8_1 ix8_2 ix8_3 ix8_4 ix8_5 ix8_6 ix8_7

set_option maxHeartbeats 1000000 in
theorem c_IsPlain (p : Pl) (w : World) :
    Calls Try.prog 20 #[pv p] w fun e w' => e = .returned (.bool (goodP p)) ∧ Below w.heap.size w w' := by
  go_enter Try.func20, Try.ntmps20
  go_wp2_with (first | (go_at_call 68; refine (c_refWord _ _).mono ?_; rintro e w' ⟨rfl, rfl⟩))
  all_goals refine wp_loop_rounds 9 ?_
  repeat any_goals (rw [rounds_succ]; go_wp2_with (first | (go_at_call 68; refine (c_refWord _ _).mono ?_; rintro e w' ⟨rfl, rfl⟩)))
  all_goals go_ret
  all_goals refine ⟨ret_bool ?_, by go_grown⟩
  all_goals simp [goodP, *]

set_option maxHeartbeats 1000000 in
theorem c_GetReg (p : Pl) (r : Int) (w : World) :
    Calls Try.prog 24 #[pv p, .int .i64 r] w fun e w' => e = .returned (.int .i64 (get p r)) ∧ Below w.heap.size w w' := by
  by_cases h : isR r = true
  · rcases reg_cases r h with rfl | rfl | rfl | rfl | rfl | rfl | rfl | rfl
    all_goals
      go_enter Try.func24, Try.ntmps24
      go_wp2_with fail
      refine wp_loop_rounds 9 ?_
      repeat (rw [rounds_succ]; go_wp2_with fail)
      go_ret
      exact ⟨by simp [get, h], by go_grown⟩
  · have h' : isR r = false := by simpa using h
    rw [isR_not] at h'
    have hh : r < 0 ∨ 8 ≤ r := by omega
    rcases hh with hh | hh
    all_goals
      go_enter Try.func24, Try.ntmps24
      go_wp2_with fail
      refine wp_loop_rounds 9 ?_
      repeat (rw [rounds_succ]; go_wp2_with fail)
      go_ret
      exact ⟨by simp [get, h], by go_grown⟩

set_option maxHeartbeats 1000000 in
theorem c_PutReg (p : Pl) (r n : Int) (w : World) :
    Calls Try.prog 26 #[pv p, .int .i64 r, .int .i64 n] w fun e w' => e = .returned (pv (put p r n)) ∧ Below w.heap.size w w' := by
  by_cases h : isR r = true
  · rcases reg_cases r h with rfl | rfl | rfl | rfl | rfl | rfl | rfl | rfl
    all_goals
      go_enter Try.func26, Try.ntmps26
      go_wp2_with (first | (go_at_call 64; refine (c_rest _ _).mono ?_; rintro e w' ⟨rfl, rfl⟩))
      refine wp_loop_rounds 8 ?_
      repeat (rw [rounds_succ]; go_wp2_with (first | (go_at_call 64; refine (c_rest _ _).mono ?_; rintro e w' ⟨rfl, rfl⟩)))
      go_returns
      exact ⟨by simp [put, h, pv], by go_grown⟩
  · have h' : isR r = false := by simpa using h
    rw [isR_not] at h'
    have hh : r < 0 ∨ 8 ≤ r := by omega
    rcases hh with hh | hh
    all_goals
      go_enter Try.func26, Try.ntmps26
      go_wp2_with (first | (go_at_call 64; refine (c_rest _ _).mono ?_; rintro e w' ⟨rfl, rfl⟩))
      refine wp_loop_rounds 8 ?_
      repeat (rw [rounds_succ]; go_wp2_with (first | (go_at_call 64; refine (c_rest _ _).mono ?_; rintro e w' ⟨rfl, rfl⟩)))
      go_returns
      exact ⟨by simp [put, h, pv], by go_grown⟩

end Go.Proofs.Ytjbbgpacijageaa
