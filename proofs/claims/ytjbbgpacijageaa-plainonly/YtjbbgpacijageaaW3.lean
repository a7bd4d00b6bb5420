/- GoodPlain, Good, IsInstr, Word, WordOf, jump. -/
import Derived.Test.YtjbbgpacijageaaW0
import Derived.Test.YtjbbgpacijageaaW2
namespace Go.Proofs.Ytjbbgpacijageaa
open Go.RowKit
set_option linter.unusedSimpArgs false
set_option linter.unusedVariables false
attribute [local go_sem ↓] eql_plain eql_instr

set_option maxHeartbeats 1000000 in
theorem c_GoodPlain (p : Pl) (w : World) :
    Calls Try.prog 19 #[pv p] w fun e w' => e = .returned (.bool (goodP p)) ∧ Below w.heap.size w w' := by
  go_enter Try.func19, Try.ntmps19
  go_wp2
  refine region_up (by kernel_rfl) (by kernel_rfl) ?_
  rintro ⟨hne, hc, hf, hs⟩
  repeat (go_big_quiet_step ((go_at_call 69; exact up_call (c_madeGood p _))))
  refine wpQuiet_nil ?_
  intro _ hw'
  obtain ⟨u, hw''⟩ := hw'
  subst hw''
  go_wp2
  go_ret
  refine ⟨ret_bool ?_, ?_⟩
  · rw [← sameP_made]; simp [sameP, made]
  · exact up_below (by go_grown) u

set_option maxHeartbeats 1000000 in
theorem c_Good (i : In) (w : World) :
    Calls Try.prog 17 #[iv i] w fun e w' => e = .returned (.bool (goodI i)) ∧ Below w.heap.size w w' := by
  go_enter Try.func17, Try.ntmps17
  go_wp2_with (first | (go_at_call 65; refine (c_isRegister _ _).mono ?_; rintro e w' ⟨rfl, rfl⟩) | (go_at_call 66; refine (c_isWord _ _).mono ?_; rintro e w' ⟨rfl, rfl⟩))
  all_goals go_ret
  all_goals refine ⟨ret_bool ?_, by go_grown⟩
  all_goals simp [goodI, *]
  all_goals (first | omega | (intros; omega))

set_option maxHeartbeats 1000000 in
theorem c_IsInstr (i : In) (w : World) :
    Calls Try.prog 18 #[iv i] w fun e w' => e = .returned (.bool (goodI i)) ∧ Below w.heap.size w w' := by
  go_enter Try.func18, Try.ntmps18
  go_wp2_with (first | (go_at_call 67; refine (c_isReg _ _).mono ?_; rintro e w' ⟨rfl, rfl⟩) | (go_at_call 68; refine (c_refWord _ _).mono ?_; rintro e w' ⟨rfl, rfl⟩))
  all_goals go_ret
  all_goals refine ⟨ret_bool ?_, by go_grown⟩
  all_goals simp [goodI, *]
  all_goals (first | omega | (intros; omega))

set_option maxHeartbeats 1000000 in
theorem c_Word (p : Pl) (i : In) (w : World) :
    Calls Try.prog 15 #[pv p, iv i] w fun e w' => e = .returned (.tuple #[.int .i64 (word p i), .bool (decide (word p i < 32))]) ∧ Below w.heap.size w w' := by
  go_enter Try.func15, Try.ntmps15
  go_wp2
  refine region_up (by kernel_rfl) (by kernel_rfl) ?_
  rintro ⟨hne, hc, hf, hs⟩
  repeat (go_big_quiet_step (first | (go_at_call 23; exact up_call (c_Get p _ _)) | (go_at_call 63; exact up_same (c_toWord _ _))))
  refine wpQuiet_nil ?_
  intro _ hw'
  obtain ⟨u, hw''⟩ := hw'
  subst hw''
  go_wp2
  go_ret2
  exact ⟨ret_int_bool (by simp [word, wd_wrap]) (by rw [Bool.eq_iff_iff, decide_eq_true_iff, decide_eq_true_iff]; simp [word, wd_wrap]), up_below (by go_grown) u⟩

set_option maxHeartbeats 1000000 in
theorem c_WordOf (p : Pl) (i : In) (w : World) :
    Calls Try.prog 16 #[pv p, iv i] w fun e w' => e = .returned (.tuple #[.int .i64 (word p i), .bool (decide (word p i < 32))]) ∧ Below w.heap.size w w' := by
  go_enter Try.func16, Try.ntmps16
  go_wp2
  refine region_up (by kernel_rfl) (by kernel_rfl) ?_
  rintro ⟨hne, hc, hf, hs⟩
  repeat (go_big_quiet_step (first | (go_at_call 24; exact up_call (c_GetReg p _ _)) | (go_at_call 64; exact up_same (c_rest _ _))))
  refine wpQuiet_nil ?_
  intro _ hw'
  obtain ⟨u, hw''⟩ := hw'
  subst hw''
  go_wp2
  go_ret2
  exact ⟨ret_int_bool (by simp [word, wd_wrap]) (by rw [Bool.eq_iff_iff, decide_eq_true_iff, decide_eq_true_iff]; simp [word, wd_wrap]), up_below (by go_grown) u⟩

end Go.Proofs.Ytjbbgpacijageaa
