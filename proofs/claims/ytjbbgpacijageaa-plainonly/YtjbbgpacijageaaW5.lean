/- Alone: the ways on which it refuses. -/
import Derived.Test.YtjbbgpacijageaaW4
namespace Go.Proofs.Ytjbbgpacijageaa
open Go.RowKit
set_option linter.unusedSimpArgs false
set_option linter.unusedVariables false
attribute [local go_sem ↓] eql_plain eql_instr

set_option maxHeartbeats 1000000 in
theorem c_Alone_bad1 (p : Pl) (i : In) (w : World) (h1 : goodI i = false) :
    Calls Try.prog 28 #[pv p, iv i] w fun e w' => e = .returned (.tuple #[pv p, .int .i64 1]) ∧ Below w.heap.size w w' := by
  go_enter Try.func28, Try.ntmps28
  go_wp2_with fail
  refine (c_Good i _).mono ?_
  rintro e w1 ⟨rfl, hb⟩
  obtain ⟨u, rfl⟩ := to_up hb
  obtain ⟨hne, hc0, hf0, hs0, hc1, hf1, hs1, hc2, hf2, hs2, hbl⟩ := u.f3
  clear hb
  go_wp2
  refine bodyPost_ret (v := .tuple #[pv p, .int .i64 1]) (by simp [results, Try.results28, go_sem, hc0, hc1, hc2]) rfl ?_
  exact ⟨rfl, by go_grown; exact hbl u⟩

set_option maxHeartbeats 1000000 in
theorem c_Alone_bad2 (p : Pl) (i : In) (w : World) (h1 : goodI i = true) (h2 : goodP p = false) :
    Calls Try.prog 28 #[pv p, iv i] w fun e w' => e = .returned (.tuple #[pv p, .int .i64 1]) ∧ Below w.heap.size w w' := by
  go_enter Try.func28, Try.ntmps28
  go_wp2_with fail
  refine (c_Good i _).mono ?_
  rintro e w1 ⟨rfl, hb⟩
  obtain ⟨u, rfl⟩ := to_up hb
  obtain ⟨hne, hc0, hf0, hs0, hc1, hf1, hs1, hc2, hf2, hs2, hbl⟩ := u.f3
  clear hb
  go_wp2_with (go_at_call 19; refine (up_call (c_GoodPlain p _)).mono ?_; rintro e w1 ⟨rfl, u2, rfl⟩)
  refine bodyPost_ret (v := .tuple #[pv p, .int .i64 1]) (by simp [results, Try.results28, go_sem, hc0, hc1, hc2]) rfl ?_
  exact ⟨rfl, by go_grown; exact hbl _⟩

set_option maxHeartbeats 1000000 in
theorem c_Alone_off (r : Nat → Int) (a : Int) (i : In) (w : World) (h1 : goodI i = true) (h2 : goodP ⟨r, a, true⟩ = true) :
    Calls Try.prog 28 #[pv ⟨r, a, true⟩, iv i] w fun e w' => e = .returned (.tuple #[pv ⟨r, a, true⟩, .int .i64 4]) ∧ Below w.heap.size w w' := by
  go_enter Try.func28, Try.ntmps28
  go_wp2_with fail
  refine (c_Good i _).mono ?_
  rintro e w1 ⟨rfl, hb⟩
  obtain ⟨u, rfl⟩ := to_up hb
  obtain ⟨hne, hc0, hf0, hs0, hc1, hf1, hs1, hc2, hf2, hs2, hbl⟩ := u.f3
  clear hb
  go_wp2_with (go_at_call 19; refine (up_call (c_GoodPlain ⟨r, a, true⟩ _)).mono ?_; rintro e w1 ⟨rfl, u2, rfl⟩)
  refine bodyPost_ret (v := .tuple #[pv ⟨r, a, true⟩, .int .i64 4]) (by simp [results, Try.results28, go_sem, hc0, hc1, hc2]) rfl ?_
  exact ⟨rfl, by go_grown; exact hbl _⟩

end Go.Proofs.Ytjbbgpacijageaa
