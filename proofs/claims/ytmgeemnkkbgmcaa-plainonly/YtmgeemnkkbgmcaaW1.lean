/- The small functions of package code and of the document's answer: what each call gives back. -/
import Derived.Test.YtmgeemnkkbgmcaaRows
import Derived.Test.YtmgeemnkkbgmcaaMath
import Derived.WalkKit
import Derived.WalkSpells
import Derived.WalkLawsBesides
import Derived.Deep.QuietTactic
import Derived.BigQuiet
import Derived.Handy
namespace Go.Proofs.Ytmgeemnkkbgmcaa
open Go.RowKit
set_option linter.unusedSimpArgs false
set_option linter.unusedVariables false


set_option maxHeartbeats 400000 in
theorem c_toWord (n : Int) (w : World) :
    Calls Try.prog 41 #[.int .i64 n] w fun e w' => e = .returned (.int .i64 (wd n)) ∧ w' = w := by
  go_enter Try.func41, Try.ntmps41
  go_wp2
  go_ret
  exact ⟨ret_int (and_wd n), rfl⟩

set_option maxHeartbeats 400000 in
theorem c_rest (n : Int) (w : World) :
    Calls Try.prog 42 #[.int .i64 n] w fun e w' => e = .returned (.int .i64 (wd n)) ∧ w' = w := by
  go_enter Try.func42, Try.ntmps42
  go_wp2
  go_ret
  exact ⟨ret_int (rest_wd n), rfl⟩

set_option maxHeartbeats 400000 in
theorem c_isRegister (n : Int) (w : World) :
    Calls Try.prog 43 #[.int .i64 n] w fun e w' => e = .returned (.bool (isR n)) ∧ w' = w := by
  go_enter Try.func43, Try.ntmps43
  go_wp2
  all_goals go_ret
  all_goals refine ⟨ret_bool ?_, rfl⟩
  all_goals (unfold isR; rw [Bool.eq_iff_iff]; simp; try omega)

set_option maxHeartbeats 400000 in
theorem c_isReg (n : Int) (w : World) :
    Calls Try.prog 45 #[.int .i64 n] w fun e w' => e = .returned (.bool (isR n)) ∧ w' = w := by
  go_enter Try.func45, Try.ntmps45
  go_wp2
  all_goals go_ret
  all_goals refine ⟨ret_bool ?_, rfl⟩
  all_goals (unfold isR; rw [Bool.eq_iff_iff]; simp; try omega)

set_option maxHeartbeats 400000 in
theorem c_refWord (n : Int) (w : World) :
    Calls Try.prog 46 #[.int .i64 n] w fun e w' => e = .returned (.bool (isW n)) ∧ w' = w := by
  go_enter Try.func46, Try.ntmps46
  go_wp2
  all_goals go_ret
  all_goals refine ⟨ret_bool ?_, rfl⟩
  all_goals (unfold isW; rw [Bool.eq_iff_iff]; simp; try omega)

set_option maxHeartbeats 400000 in
theorem c_isWord (n : Int) (w : World) :
    Calls Try.prog 44 #[.int .i64 n] w fun e w' => e = .returned (.bool (isW n)) ∧ w' = w := by
  go_enter Try.func44, Try.ntmps44
  go_wp2_with (go_at_call 41; refine (c_toWord _ _).mono ?_; rintro e w' ⟨rfl, rfl⟩)
  go_ret
  exact ⟨ret_bool (isW_eq n), rfl⟩

set_option maxHeartbeats 400000 in
theorem c_Get (p : Pl) (r : Int) (w : World) :
    Calls Try.prog 21 #[pv p, .int .i64 r] w fun e w' => e = .returned (.int .i64 (get p r)) ∧ Below w.heap.size w w' := by
  by_cases h : isR r = true
  · rcases reg_cases r h with rfl | rfl | rfl | rfl | rfl | rfl | rfl | rfl
    all_goals
      go_enter Try.func21, Try.ntmps21
      go_wp2_with (go_at_call 43; refine (c_isRegister _ _).mono ?_; rintro e w' ⟨rfl, rfl⟩)
      go_ret
      exact ⟨by simp [get, h], by go_grown⟩
  · have h' : isR r = false := by simpa using h
    go_enter Try.func21, Try.ntmps21
    go_wp2_with (go_at_call 43; refine (c_isRegister _ _).mono ?_; rintro e w' ⟨rfl, rfl⟩)
    go_ret
    exact ⟨by simp [get, h], by go_grown⟩

set_option maxHeartbeats 400000 in
theorem c_Put (p : Pl) (r n : Int) (w : World) :
    Calls Try.prog 23 #[pv p, .int .i64 r, .int .i64 n] w fun e w' => e = .returned (pv (put p r n)) ∧ Below w.heap.size w w' := by
  by_cases h : isR r = true
  · rcases reg_cases r h with rfl | rfl | rfl | rfl | rfl | rfl | rfl | rfl
    all_goals
      go_enter Try.func23, Try.ntmps23
      go_wp2_with (first | (go_at_call 43; refine (c_isRegister _ _).mono ?_; rintro e w' ⟨rfl, rfl⟩) | (go_at_call 41; refine (c_toWord _ _).mono ?_; rintro e w' ⟨rfl, rfl⟩))
      go_returns
      exact ⟨by simp [put, h, pv], by go_grown⟩
  · have h' : isR r = false := by simpa using h
    have h0 : (r != 0) = true := by rw [isR_not] at h'; rw [bne_iff_ne]; omega
    go_enter Try.func23, Try.ntmps23
    go_wp2_with (first | (go_at_call 43; refine (c_isRegister _ _).mono ?_; rintro e w' ⟨rfl, rfl⟩) | (go_at_call 41; refine (c_toWord _ _).mono ?_; rintro e w' ⟨rfl, rfl⟩))
    go_returns
    exact ⟨by simp [put, h, pv], by go_grown⟩

set_option maxHeartbeats 400000 in
theorem c_next (p : Pl) (w : World) :
    Calls Try.prog 48 #[pv p] w fun e w' => e = .returned (pv (next p)) ∧ Below w.heap.size w w' := by
  go_enter Try.func48, Try.ntmps48
  go_wp2_with (first | (go_at_call 41; refine (c_toWord _ _).mono ?_; rintro e w' ⟨rfl, rfl⟩))
  go_returns
  exact ⟨by simp [next, pv, wd_wrap], by go_grown⟩

set_option maxHeartbeats 400000 in
theorem c_less (b c : Int) (w : World) :
    Calls Try.prog 49 #[.int .i64 b, .int .i64 c] w fun e w' => e = .returned (.int .i64 (if b < c then 1 else 0)) ∧ w' = w := by
  by_cases h : b < c
  all_goals
    go_enter Try.func49, Try.ntmps49
    go_wp2
    go_ret
    exact ⟨by simp [h], rfl⟩

end Go.Proofs.Ytmgeemnkkbgmcaa
