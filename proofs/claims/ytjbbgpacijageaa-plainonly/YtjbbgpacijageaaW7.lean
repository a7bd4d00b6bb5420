/- Alone: Less, whose statement draws its order and stores. -/
import Derived.Test.YtjbbgpacijageaaW6
import Derived.Deep.RegionWith
import Derived.Deep.DrawnRows
namespace Go.Proofs.Ytjbbgpacijageaa
open Go.RowKit
set_option linter.unusedSimpArgs false
set_option linter.unusedVariables false
attribute [local go_sem ↓] eql_plain eql_instr

attribute [local go_sem ↓] Go.wp_at_zero Go.wp_at_succ

theorem up_call_drew {P : Program} {f : FuncId} {args : Array Value} {w : World} {u : Up w} {v : Value}
    (h : Calls P f args u.x.drew fun e w' => e = .returned v ∧ Below u.x.drew.heap.size u.x.drew w') : Calls P f args u.x.drew fun e w'' => e = .returned v ∧ ∃ y : Up w, w'' = y.x :=
  h.mono fun _ w' ⟨he, hb⟩ => ⟨he, ⟨w', below_trans u.h.drew hb⟩, rfl⟩

/-- 1, if the one is less than the other, else 0. -/
def ltv (b c : Int) : Int := if b < c then 1 else 0
theorem c_less' (b c : Int) (w : World) :
    Calls Try.prog 71 #[.int .i64 b, .int .i64 c] w fun e w' => e = .returned (.int .i64 (ltv b c)) ∧ w' = w := c_less b c w

set_option maxHeartbeats 1000000 in
theorem c_Alone_less (r : Nat → Int) (a x y z n : Int) (w : World) (h1 : goodI ⟨4, x, y, z, n⟩ = true) (h2 : goodP ⟨r, a, false⟩ = true) :
    Calls Try.prog 28 #[pv ⟨r, a, false⟩, iv ⟨4, x, y, z, n⟩] w fun e w' => e = .returned (.tuple #[pv (next (put ⟨r, a, false⟩ x (ltv (get ⟨r, a, false⟩ y) (get ⟨r, a, false⟩ z)))), .int .i64 0]) ∧ Below w.heap.size w w' := by
  go_enter Try.func28, Try.ntmps28
  go_wp2_with fail
  refine (c_Good ⟨4, x, y, z, n⟩ _).mono ?_
  rintro e w1 ⟨rfl, hb⟩
  obtain ⟨u, rfl⟩ := to_up hb
  obtain ⟨hne, hc0, hf0, hs0, hc1, hf1, hs1, hc2, hf2, hs2, hbl⟩ := u.f3
  clear hb
  go_wp2_with (go_at_call 19; refine (up_call (c_GoodPlain ⟨r, a, false⟩ _)).mono ?_; rintro e w1 ⟨rfl, u2, rfl⟩)
  refine region_up_at (by kernel_rfl) (by kernel_rfl) ?_
  repeat (go_big_quiet_step ((go_at_call 23; exact up_call (c_Get ⟨r, a, false⟩ _ _))))
  refine wpQuiet_nil ?_
  intro _ hw'
  obtain ⟨u3, hw''⟩ := hw'
  subst hw''
  go_wp2_with fail
  go_region_with (first | (go_at_call 71; refine (c_less' _ _ _).mono ?_; rintro e w1 ⟨rfl, rfl⟩) | (go_at_call 25; refine (up_call_drew (c_Put ⟨r, a, false⟩ _ _ _)).mono ?_; rintro e w1 ⟨rfl, u4, rfl⟩) | (go_at_call 70; refine (up_call (c_next (put ⟨r, a, false⟩ _ _) _)).mono ?_; rintro e w1 ⟨rfl, u5, rfl⟩))
  all_goals go_wp2
  all_goals refine bodyPost_ret (v := .tuple #[pv (next (put ⟨r, a, false⟩ x (ltv (get ⟨r, a, false⟩ y) (get ⟨r, a, false⟩ z)))), .int .i64 0]) (by simp [results, Try.results28, go_sem, hc0, hc1, hc2]) rfl ?_
  all_goals exact ⟨rfl, by go_grown; exact hbl _⟩

end Go.Proofs.Ytjbbgpacijageaa
