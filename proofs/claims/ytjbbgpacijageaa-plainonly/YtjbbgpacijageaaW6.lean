/- Alone: the ways on which it goes on. -/
import Derived.Test.YtjbbgpacijageaaW5
namespace Go.Proofs.Ytjbbgpacijageaa
open Go.RowKit
set_option linter.unusedSimpArgs false
set_option linter.unusedVariables false
attribute [local go_sem ↓] eql_plain eql_instr

set_option maxHeartbeats 1000000 in
theorem c_Alone_set (r : Nat → Int) (a x y z n : Int) (w : World) (h1 : goodI ⟨1, x, y, z, n⟩ = true) (h2 : goodP ⟨r, a, false⟩ = true) :
    Calls Try.prog 28 #[pv ⟨r, a, false⟩, iv ⟨1, x, y, z, n⟩] w fun e w' => e = .returned (.tuple #[pv (next (put ⟨r, a, false⟩ x n)), .int .i64 0]) ∧ Below w.heap.size w w' := by
  go_enter Try.func28, Try.ntmps28
  go_wp2_with fail
  refine (c_Good ⟨1, x, y, z, n⟩ _).mono ?_
  rintro e w1 ⟨rfl, hb⟩
  obtain ⟨u, rfl⟩ := to_up hb
  obtain ⟨hne, hc0, hf0, hs0, hc1, hf1, hs1, hc2, hf2, hs2, hbl⟩ := u.f3
  clear hb
  go_wp2_with (go_at_call 19; refine (up_call (c_GoodPlain ⟨r, a, false⟩ _)).mono ?_; rintro e w1 ⟨rfl, u2, rfl⟩)
  refine region_up_at (by kernel_rfl) (by kernel_rfl) ?_
  repeat (go_big_quiet_step ((go_at_call 23; exact up_call (c_Get ⟨r, a, false⟩ _ _))))
  refine wpQuiet_nil ?_
  intro _ hw'
  obtain ⟨u3, hw''⟩ := hw'
  subst hw''
  go_wp2_with (first | (go_at_call 25; refine (up_call (c_Put ⟨r, a, false⟩ _ _ _)).mono ?_; rintro e w1 ⟨rfl, u4, rfl⟩) | (go_at_call 70; refine (up_call (c_next (put ⟨r, a, false⟩ _ _) _)).mono ?_; rintro e w1 ⟨rfl, u4, rfl⟩))
  refine bodyPost_ret (v := .tuple #[pv (next (put ⟨r, a, false⟩ x n)), .int .i64 0]) (by simp [results, Try.results28, go_sem, hc0, hc1, hc2]) rfl ?_
  exact ⟨rfl, by go_grown; exact hbl _⟩

set_option maxHeartbeats 1000000 in
theorem c_Alone_add (r : Nat → Int) (a x y z n : Int) (w : World) (h1 : goodI ⟨2, x, y, z, n⟩ = true) (h2 : goodP ⟨r, a, false⟩ = true) :
    Calls Try.prog 28 #[pv ⟨r, a, false⟩, iv ⟨2, x, y, z, n⟩] w fun e w' => e = .returned (.tuple #[pv (next (put ⟨r, a, false⟩ x (get ⟨r, a, false⟩ y + get ⟨r, a, false⟩ z))), .int .i64 0]) ∧ Below w.heap.size w w' := by
  go_enter Try.func28, Try.ntmps28
  go_wp2_with fail
  refine (c_Good ⟨2, x, y, z, n⟩ _).mono ?_
  rintro e w1 ⟨rfl, hb⟩
  obtain ⟨u, rfl⟩ := to_up hb
  obtain ⟨hne, hc0, hf0, hs0, hc1, hf1, hs1, hc2, hf2, hs2, hbl⟩ := u.f3
  clear hb
  go_wp2_with (go_at_call 19; refine (up_call (c_GoodPlain ⟨r, a, false⟩ _)).mono ?_; rintro e w1 ⟨rfl, u2, rfl⟩)
  refine region_up_at (by kernel_rfl) (by kernel_rfl) ?_
  repeat (go_big_quiet_step ((go_at_call 23; exact up_call (c_Get ⟨r, a, false⟩ _ _))))
  refine wpQuiet_nil ?_
  intro _ hw'
  obtain ⟨u3, hw''⟩ := hw'
  subst hw''
  go_wp2_with (first | (go_at_call 25; refine (up_call (c_Put ⟨r, a, false⟩ _ _ _)).mono ?_; rintro e w1 ⟨rfl, u4, rfl⟩) | (go_at_call 70; refine (up_call (c_next (put ⟨r, a, false⟩ _ _) _)).mono ?_; rintro e w1 ⟨rfl, u4, rfl⟩))
  refine bodyPost_ret (v := .tuple #[pv (next (put ⟨r, a, false⟩ x (wrap64 (get ⟨r, a, false⟩ y + get ⟨r, a, false⟩ z)))), .int .i64 0]) (by simp [results, Try.results28, go_sem, hc0, hc1, hc2]) rfl ?_
  exact ⟨by rw [put_wrap], by go_grown; exact hbl _⟩

set_option maxHeartbeats 1000000 in
theorem c_Alone_sub (r : Nat → Int) (a x y z n : Int) (w : World) (h1 : goodI ⟨3, x, y, z, n⟩ = true) (h2 : goodP ⟨r, a, false⟩ = true) :
    Calls Try.prog 28 #[pv ⟨r, a, false⟩, iv ⟨3, x, y, z, n⟩] w fun e w' => e = .returned (.tuple #[pv (next (put ⟨r, a, false⟩ x (get ⟨r, a, false⟩ y - get ⟨r, a, false⟩ z))), .int .i64 0]) ∧ Below w.heap.size w w' := by
  go_enter Try.func28, Try.ntmps28
  go_wp2_with fail
  refine (c_Good ⟨3, x, y, z, n⟩ _).mono ?_
  rintro e w1 ⟨rfl, hb⟩
  obtain ⟨u, rfl⟩ := to_up hb
  obtain ⟨hne, hc0, hf0, hs0, hc1, hf1, hs1, hc2, hf2, hs2, hbl⟩ := u.f3
  clear hb
  go_wp2_with (go_at_call 19; refine (up_call (c_GoodPlain ⟨r, a, false⟩ _)).mono ?_; rintro e w1 ⟨rfl, u2, rfl⟩)
  refine region_up_at (by kernel_rfl) (by kernel_rfl) ?_
  repeat (go_big_quiet_step ((go_at_call 23; exact up_call (c_Get ⟨r, a, false⟩ _ _))))
  refine wpQuiet_nil ?_
  intro _ hw'
  obtain ⟨u3, hw''⟩ := hw'
  subst hw''
  go_wp2_with (first | (go_at_call 25; refine (up_call (c_Put ⟨r, a, false⟩ _ _ _)).mono ?_; rintro e w1 ⟨rfl, u4, rfl⟩) | (go_at_call 70; refine (up_call (c_next (put ⟨r, a, false⟩ _ _) _)).mono ?_; rintro e w1 ⟨rfl, u4, rfl⟩))
  refine bodyPost_ret (v := .tuple #[pv (next (put ⟨r, a, false⟩ x (wrap64 (get ⟨r, a, false⟩ y - get ⟨r, a, false⟩ z)))), .int .i64 0]) (by simp [results, Try.results28, go_sem, hc0, hc1, hc2]) rfl ?_
  exact ⟨by rw [put_wrap], by go_grown; exact hbl _⟩

set_option maxHeartbeats 1000000 in
theorem c_Alone_jump (r : Nat → Int) (a x y z n : Int) (w : World) (h1 : goodI ⟨8, x, y, z, n⟩ = true) (h2 : goodP ⟨r, a, false⟩ = true) :
    Calls Try.prog 28 #[pv ⟨r, a, false⟩, iv ⟨8, x, y, z, n⟩] w fun e w' => e = .returned (.tuple #[pv (jump ⟨r, a, false⟩ ⟨8, x, y, z, n⟩), .int .i64 0]) ∧ Below w.heap.size w w' := by
  go_enter Try.func28, Try.ntmps28
  go_wp2_with fail
  refine (c_Good ⟨8, x, y, z, n⟩ _).mono ?_
  rintro e w1 ⟨rfl, hb⟩
  obtain ⟨u, rfl⟩ := to_up hb
  obtain ⟨hne, hc0, hf0, hs0, hc1, hf1, hs1, hc2, hf2, hs2, hbl⟩ := u.f3
  clear hb
  go_wp2_with (go_at_call 19; refine (up_call (c_GoodPlain ⟨r, a, false⟩ _)).mono ?_; rintro e w1 ⟨rfl, u2, rfl⟩)
  refine region_up_at (by kernel_rfl) (by kernel_rfl) ?_
  repeat (go_big_quiet_step ((go_at_call 23; exact up_call (c_Get ⟨r, a, false⟩ _ _))))
  refine wpQuiet_nil ?_
  intro _ hw'
  obtain ⟨u3, hw''⟩ := hw'
  subst hw''
  go_wp2_with (go_at_call 72; refine (up_call (c_jump ⟨r, a, false⟩ ⟨8, x, y, z, n⟩ _)).mono ?_; rintro e w1 ⟨rfl, u4, rfl⟩)
  refine bodyPost_ret (v := .tuple #[pv (jump ⟨r, a, false⟩ ⟨8, x, y, z, n⟩), .int .i64 0]) (by simp [results, Try.results28, go_sem, hc0, hc1, hc2]) rfl ?_
  exact ⟨rfl, by go_grown; exact hbl _⟩

set_option maxHeartbeats 1000000 in
theorem c_Alone_halt (r : Nat → Int) (a x y z n : Int) (w : World) (h1 : goodI ⟨12, x, y, z, n⟩ = true) (h2 : goodP ⟨r, a, false⟩ = true) :
    Calls Try.prog 28 #[pv ⟨r, a, false⟩, iv ⟨12, x, y, z, n⟩] w fun e w' => e = .returned (.tuple #[pv ⟨r, a, true⟩, .int .i64 0]) ∧ Below w.heap.size w w' := by
  go_enter Try.func28, Try.ntmps28
  go_wp2_with fail
  refine (c_Good ⟨12, x, y, z, n⟩ _).mono ?_
  rintro e w1 ⟨rfl, hb⟩
  obtain ⟨u, rfl⟩ := to_up hb
  obtain ⟨hne, hc0, hf0, hs0, hc1, hf1, hs1, hc2, hf2, hs2, hbl⟩ := u.f3
  clear hb
  go_wp2_with (go_at_call 19; refine (up_call (c_GoodPlain ⟨r, a, false⟩ _)).mono ?_; rintro e w1 ⟨rfl, u2, rfl⟩)
  refine region_up_at (by kernel_rfl) (by kernel_rfl) ?_
  repeat (go_big_quiet_step ((go_at_call 23; exact up_call (c_Get ⟨r, a, false⟩ _ _))))
  refine wpQuiet_nil ?_
  intro _ hw'
  obtain ⟨u3, hw''⟩ := hw'
  subst hw''
  go_wp2_with (fail)
  refine bodyPost_ret (v := .tuple #[pv ⟨r, a, true⟩, .int .i64 0]) (by simp [results, Try.results28, go_sem, hc0, hc1, hc2]) rfl ?_
  exact ⟨rfl, by go_grown; exact hbl _⟩

set_option maxHeartbeats 1000000 in
theorem c_Alone_other5 (r : Nat → Int) (a x y z n : Int) (w : World) (h1 : goodI ⟨5, x, y, z, n⟩ = true) (h2 : goodP ⟨r, a, false⟩ = true) :
    Calls Try.prog 28 #[pv ⟨r, a, false⟩, iv ⟨5, x, y, z, n⟩] w fun e w' => e = .returned (.tuple #[pv ⟨r, a, false⟩, .int .i64 3]) ∧ Below w.heap.size w w' := by
  go_enter Try.func28, Try.ntmps28
  go_wp2_with fail
  refine (c_Good ⟨5, x, y, z, n⟩ _).mono ?_
  rintro e w1 ⟨rfl, hb⟩
  obtain ⟨u, rfl⟩ := to_up hb
  obtain ⟨hne, hc0, hf0, hs0, hc1, hf1, hs1, hc2, hf2, hs2, hbl⟩ := u.f3
  clear hb
  go_wp2_with (go_at_call 19; refine (up_call (c_GoodPlain ⟨r, a, false⟩ _)).mono ?_; rintro e w1 ⟨rfl, u2, rfl⟩)
  refine region_up_at (by kernel_rfl) (by kernel_rfl) ?_
  repeat (go_big_quiet_step ((go_at_call 23; exact up_call (c_Get ⟨r, a, false⟩ _ _))))
  refine wpQuiet_nil ?_
  intro _ hw'
  obtain ⟨u3, hw''⟩ := hw'
  subst hw''
  go_wp2_with (fail)
  refine bodyPost_ret (v := .tuple #[pv ⟨r, a, false⟩, .int .i64 3]) (by simp [results, Try.results28, go_sem, hc0, hc1, hc2]) rfl ?_
  exact ⟨rfl, by go_grown; exact hbl _⟩

set_option maxHeartbeats 1000000 in
theorem c_Alone_other6 (r : Nat → Int) (a x y z n : Int) (w : World) (h1 : goodI ⟨6, x, y, z, n⟩ = true) (h2 : goodP ⟨r, a, false⟩ = true) :
    Calls Try.prog 28 #[pv ⟨r, a, false⟩, iv ⟨6, x, y, z, n⟩] w fun e w' => e = .returned (.tuple #[pv ⟨r, a, false⟩, .int .i64 3]) ∧ Below w.heap.size w w' := by
  go_enter Try.func28, Try.ntmps28
  go_wp2_with fail
  refine (c_Good ⟨6, x, y, z, n⟩ _).mono ?_
  rintro e w1 ⟨rfl, hb⟩
  obtain ⟨u, rfl⟩ := to_up hb
  obtain ⟨hne, hc0, hf0, hs0, hc1, hf1, hs1, hc2, hf2, hs2, hbl⟩ := u.f3
  clear hb
  go_wp2_with (go_at_call 19; refine (up_call (c_GoodPlain ⟨r, a, false⟩ _)).mono ?_; rintro e w1 ⟨rfl, u2, rfl⟩)
  refine region_up_at (by kernel_rfl) (by kernel_rfl) ?_
  repeat (go_big_quiet_step ((go_at_call 23; exact up_call (c_Get ⟨r, a, false⟩ _ _))))
  refine wpQuiet_nil ?_
  intro _ hw'
  obtain ⟨u3, hw''⟩ := hw'
  subst hw''
  go_wp2_with (fail)
  refine bodyPost_ret (v := .tuple #[pv ⟨r, a, false⟩, .int .i64 3]) (by simp [results, Try.results28, go_sem, hc0, hc1, hc2]) rfl ?_
  exact ⟨rfl, by go_grown; exact hbl _⟩

set_option maxHeartbeats 1000000 in
theorem c_Alone_other7 (r : Nat → Int) (a x y z n : Int) (w : World) (h1 : goodI ⟨7, x, y, z, n⟩ = true) (h2 : goodP ⟨r, a, false⟩ = true) :
    Calls Try.prog 28 #[pv ⟨r, a, false⟩, iv ⟨7, x, y, z, n⟩] w fun e w' => e = .returned (.tuple #[pv ⟨r, a, false⟩, .int .i64 3]) ∧ Below w.heap.size w w' := by
  go_enter Try.func28, Try.ntmps28
  go_wp2_with fail
  refine (c_Good ⟨7, x, y, z, n⟩ _).mono ?_
  rintro e w1 ⟨rfl, hb⟩
  obtain ⟨u, rfl⟩ := to_up hb
  obtain ⟨hne, hc0, hf0, hs0, hc1, hf1, hs1, hc2, hf2, hs2, hbl⟩ := u.f3
  clear hb
  go_wp2_with (go_at_call 19; refine (up_call (c_GoodPlain ⟨r, a, false⟩ _)).mono ?_; rintro e w1 ⟨rfl, u2, rfl⟩)
  refine region_up_at (by kernel_rfl) (by kernel_rfl) ?_
  repeat (go_big_quiet_step ((go_at_call 23; exact up_call (c_Get ⟨r, a, false⟩ _ _))))
  refine wpQuiet_nil ?_
  intro _ hw'
  obtain ⟨u3, hw''⟩ := hw'
  subst hw''
  go_wp2_with (fail)
  refine bodyPost_ret (v := .tuple #[pv ⟨r, a, false⟩, .int .i64 3]) (by simp [results, Try.results28, go_sem, hc0, hc1, hc2]) rfl ?_
  exact ⟨rfl, by go_grown; exact hbl _⟩

set_option maxHeartbeats 1000000 in
theorem c_Alone_other9 (r : Nat → Int) (a x y z n : Int) (w : World) (h1 : goodI ⟨9, x, y, z, n⟩ = true) (h2 : goodP ⟨r, a, false⟩ = true) :
    Calls Try.prog 28 #[pv ⟨r, a, false⟩, iv ⟨9, x, y, z, n⟩] w fun e w' => e = .returned (.tuple #[pv ⟨r, a, false⟩, .int .i64 3]) ∧ Below w.heap.size w w' := by
  go_enter Try.func28, Try.ntmps28
  go_wp2_with fail
  refine (c_Good ⟨9, x, y, z, n⟩ _).mono ?_
  rintro e w1 ⟨rfl, hb⟩
  obtain ⟨u, rfl⟩ := to_up hb
  obtain ⟨hne, hc0, hf0, hs0, hc1, hf1, hs1, hc2, hf2, hs2, hbl⟩ := u.f3
  clear hb
  go_wp2_with (go_at_call 19; refine (up_call (c_GoodPlain ⟨r, a, false⟩ _)).mono ?_; rintro e w1 ⟨rfl, u2, rfl⟩)
  refine region_up_at (by kernel_rfl) (by kernel_rfl) ?_
  repeat (go_big_quiet_step ((go_at_call 23; exact up_call (c_Get ⟨r, a, false⟩ _ _))))
  refine wpQuiet_nil ?_
  intro _ hw'
  obtain ⟨u3, hw''⟩ := hw'
  subst hw''
  go_wp2_with (fail)
  refine bodyPost_ret (v := .tuple #[pv ⟨r, a, false⟩, .int .i64 3]) (by simp [results, Try.results28, go_sem, hc0, hc1, hc2]) rfl ?_
  exact ⟨rfl, by go_grown; exact hbl _⟩

set_option maxHeartbeats 1000000 in
theorem c_Alone_other10 (r : Nat → Int) (a x y z n : Int) (w : World) (h1 : goodI ⟨10, x, y, z, n⟩ = true) (h2 : goodP ⟨r, a, false⟩ = true) :
    Calls Try.prog 28 #[pv ⟨r, a, false⟩, iv ⟨10, x, y, z, n⟩] w fun e w' => e = .returned (.tuple #[pv ⟨r, a, false⟩, .int .i64 3]) ∧ Below w.heap.size w w' := by
  go_enter Try.func28, Try.ntmps28
  go_wp2_with fail
  refine (c_Good ⟨10, x, y, z, n⟩ _).mono ?_
  rintro e w1 ⟨rfl, hb⟩
  obtain ⟨u, rfl⟩ := to_up hb
  obtain ⟨hne, hc0, hf0, hs0, hc1, hf1, hs1, hc2, hf2, hs2, hbl⟩ := u.f3
  clear hb
  go_wp2_with (go_at_call 19; refine (up_call (c_GoodPlain ⟨r, a, false⟩ _)).mono ?_; rintro e w1 ⟨rfl, u2, rfl⟩)
  refine region_up_at (by kernel_rfl) (by kernel_rfl) ?_
  repeat (go_big_quiet_step ((go_at_call 23; exact up_call (c_Get ⟨r, a, false⟩ _ _))))
  refine wpQuiet_nil ?_
  intro _ hw'
  obtain ⟨u3, hw''⟩ := hw'
  subst hw''
  go_wp2_with (fail)
  refine bodyPost_ret (v := .tuple #[pv ⟨r, a, false⟩, .int .i64 3]) (by simp [results, Try.results28, go_sem, hc0, hc1, hc2]) rfl ?_
  exact ⟨rfl, by go_grown; exact hbl _⟩

set_option maxHeartbeats 1000000 in
theorem c_Alone_other11 (r : Nat → Int) (a x y z n : Int) (w : World) (h1 : goodI ⟨11, x, y, z, n⟩ = true) (h2 : goodP ⟨r, a, false⟩ = true) :
    Calls Try.prog 28 #[pv ⟨r, a, false⟩, iv ⟨11, x, y, z, n⟩] w fun e w' => e = .returned (.tuple #[pv ⟨r, a, false⟩, .int .i64 3]) ∧ Below w.heap.size w w' := by
  go_enter Try.func28, Try.ntmps28
  go_wp2_with fail
  refine (c_Good ⟨11, x, y, z, n⟩ _).mono ?_
  rintro e w1 ⟨rfl, hb⟩
  obtain ⟨u, rfl⟩ := to_up hb
  obtain ⟨hne, hc0, hf0, hs0, hc1, hf1, hs1, hc2, hf2, hs2, hbl⟩ := u.f3
  clear hb
  go_wp2_with (go_at_call 19; refine (up_call (c_GoodPlain ⟨r, a, false⟩ _)).mono ?_; rintro e w1 ⟨rfl, u2, rfl⟩)
  refine region_up_at (by kernel_rfl) (by kernel_rfl) ?_
  repeat (go_big_quiet_step ((go_at_call 23; exact up_call (c_Get ⟨r, a, false⟩ _ _))))
  refine wpQuiet_nil ?_
  intro _ hw'
  obtain ⟨u3, hw''⟩ := hw'
  subst hw''
  go_wp2_with (fail)
  refine bodyPost_ret (v := .tuple #[pv ⟨r, a, false⟩, .int .i64 3]) (by simp [results, Try.results28, go_sem, hc0, hc1, hc2]) rfl ?_
  exact ⟨rfl, by go_grown; exact hbl _⟩

end Go.Proofs.Ytjbbgpacijageaa
