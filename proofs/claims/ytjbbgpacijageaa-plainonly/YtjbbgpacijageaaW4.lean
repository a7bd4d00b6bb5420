/- jump. -/
import Derived.Test.YtjbbgpacijageaaW3
import Derived.Test.YtjbbgpacijageaaMath2
namespace Go.Proofs.Ytjbbgpacijageaa
open Go.RowKit
set_option linter.unusedSimpArgs false
set_option linter.unusedVariables false
attribute [local go_sem ↓] eql_plain eql_instr

set_option maxHeartbeats 1000000 in
theorem c_jump (p : Pl) (i : In) (w : World) :
    Calls Try.prog 72 #[pv p, iv i] w fun e w' => e = .returned (pv (jump p i)) ∧ Below w.heap.size w w' := by
  by_cases h : get p i.a = 0
  · have h0 : (get p i.a != 0) = false := by simp [h]
    go_enter Try.func72, Try.ntmps72
    go_wp2_with fail
    refine (c_Get p _ _).mono ?_
    rintro e w1 ⟨rfl, hb⟩
    obtain ⟨u, rfl⟩ := to_up hb
    obtain ⟨hne, hc0, hf0, hs0, hc1, hf1, hs1, hc2, hf2, hs2, hbl⟩ := u.f3
    have hB := up_below (w := w) (by go_grown) u
    clear hb
    go_wp2
    refine bodyPost_ret (v := pv { p with a := i.n }) (by simp [results, Try.results72, go_sem, hc0, hc1, hc2]) rfl ?_
    exact ⟨by simp [jump, h, pv], by go_grown⟩
  · have h0 : (get p i.a != 0) = true := by simp [h]
    go_enter Try.func72, Try.ntmps72
    go_wp2_with fail
    refine (c_Get p _ _).mono ?_
    rintro e w1 ⟨rfl, hb⟩
    obtain ⟨u, rfl⟩ := to_up hb
    obtain ⟨hne, hc0, hf0, hs0, hc1, hf1, hs1, hc2, hf2, hs2, hbl⟩ := u.f3
    have hB := up_below (w := w) (by go_grown) u
    clear hb
    go_wp2_with (first | (go_at_call 70; refine (up_call (c_next p _)).mono ?_; rintro e w1 ⟨rfl, u2, rfl⟩; have hB2 := up_below (w := w) (by go_grown) u2))
    refine bodyPost_ret (v := pv (next p)) (by simp [results, Try.results72, go_sem, hc0, hc1, hc2]) rfl ?_
    exact ⟨by simp [jump, h, pv], by go_grown⟩

end Go.Proofs.Ytjbbgpacijageaa
