/- What Put leaves of a core: the statement CodePuts, walked. -/
import Derived.Test.YtjbbgpacijageaaW8
namespace Go.Proofs.Ytjbbgpacijageaa
open Go.RowKit
set_option linter.unusedSimpArgs false
set_option linter.unusedVariables false
attribute [local go_sem ↓] eql_plain eql_instr

theorem put_a (p : Pl) (r n : Int) : (put p r n).a = p.a := by unfold put; split <;> rfl
theorem put_o (p : Pl) (r n : Int) : (put p r n).o = p.o := by unfold put; split <;> rfl
/-- No other register is other than it was. -/
theorem get_put_other (p : Pl) (r s n : Int) (h : ¬ (r = s ∧ 0 < r ∧ r < 8)) : get (put p r n) s = get p s := by
  unfold put
  split
  · rename_i hr
    rw [isR_iff] at hr
    unfold get
    split
    · rename_i hs
      rw [isR_iff] at hs
      have : ¬ s.toNat = r.toNat := by omega
      simp [this]
    · rfl
  · rfl

set_option maxHeartbeats 1000000 in
theorem w_CodePuts_same (p : Pl) (r s n : Int) (w : World) (h1 : r = s) (h2 : 0 < r) (h3 : r < 8) :
    Calls Try.prog 6 #[pv p, .int .i64 r, .int .i64 s, .int .i64 n] w fun e w' => e = .returned (.bool true) ∧ Below w.heap.size w w' := by
  have g1 : (r == s) = true := by simp [h1]
  clear h1
  have ha := put_a p r n
  have ho := put_o p r n
  generalize hq : put p r n = q at *
  have HQ : Hid (put p r n = q) := hq
  clear hq
  have hA : (q.a == p.a) = true := by simp [ha]
  have hO : (q.o == p.o) = true := by simp [ho]
  clear ha ho
  go_enter Try.func6, Try.ntmps6
  go_wp2_with fail
  refine (c_Put p r n _).mono ?_
  rw [HQ.out]
  rintro e w1 ⟨rfl, hb⟩
  obtain ⟨u, rfl⟩ := to_up hb
  obtain ⟨hne, hc0, hf0, hs0, hbl⟩ := u.f1
  clear hb
  go_wp2_with fail
  refine region_up (by kernel_rfl) (by kernel_rfl) ?_
  rintro ⟨hne2, hc, hf, hs⟩
  have hk := fun v j => (hc v w.heap.size j (by simp; have := hs0 u; omega)).trans ((World.cell?_alloc_lt _ _ _ (hs0 u)).trans (hc0 u j))
  have hv := fun v j => hc v u.x.heap.size j (by simp)
  simp only [World.cell?_alloc_new] at hv
  clear hc hf hs
  repeat (go_big_quiet_step (first | (go_at_call 30; exact up_call (c_does_keep _))))
  refine wpQuiet_nil ?_
  intro _ hw'
  obtain ⟨u3, hw''⟩ := hw'
  subst hw''
  go_wp2
  go_ret
  exact ⟨rfl, up_below ((hbl u).alloc (by have := hs0 u; omega) _) u3⟩

set_option maxHeartbeats 1000000 in
theorem w_CodePuts_other (p : Pl) (r s n : Int) (w : World) (h1 : r ≠ s) :
    Calls Try.prog 6 #[pv p, .int .i64 r, .int .i64 s, .int .i64 n] w fun e w' => e = .returned (.bool true) ∧ Below w.heap.size w w' := by
  have g1 : (r == s) = false := by simp [h1]
  have hg := get_put_other p r s n (by omega)
  clear h1
  have ha := put_a p r n
  have ho := put_o p r n
  generalize hq : put p r n = q at *
  have HQ : Hid (put p r n = q) := hq
  clear hq
  have hA : (q.a == p.a) = true := by simp [ha]
  have hO : (q.o == p.o) = true := by simp [ho]
  have hG : (get q s == get p s) = true := by simp [hg]
  clear ha ho hg
  go_enter Try.func6, Try.ntmps6
  go_wp2_with fail
  refine (c_Put p r n _).mono ?_
  rw [HQ.out]
  rintro e w1 ⟨rfl, hb⟩
  obtain ⟨u, rfl⟩ := to_up hb
  obtain ⟨hne, hc0, hf0, hs0, hbl⟩ := u.f1
  clear hb
  go_wp2_with fail
  refine region_up (by kernel_rfl) (by kernel_rfl) ?_
  rintro ⟨hne2, hc, hf, hs⟩
  have hk := fun v j => (hc v w.heap.size j (by simp; have := hs0 u; omega)).trans ((World.cell?_alloc_lt _ _ _ (hs0 u)).trans (hc0 u j))
  have hv := fun v j => hc v u.x.heap.size j (by simp)
  simp only [World.cell?_alloc_new] at hv
  clear hc hf hs
  repeat (go_big_quiet_step (first | (go_at_call 30; exact up_call (c_does_keep _)) | (go_at_call_of 23 (q.r 0); exact up_call (c_Get q s _)) | (go_at_call 23; exact up_call (c_Get p s _))))
  refine wpQuiet_nil ?_
  intro _ hw'
  obtain ⟨u3, hw''⟩ := hw'
  subst hw''
  go_wp2
  go_ret
  exact ⟨rfl, up_below ((hbl u).alloc (by have := hs0 u; omega) _) u3⟩

set_option maxHeartbeats 1000000 in
theorem w_CodePuts_low (p : Pl) (r s n : Int) (w : World) (h1 : r = s) (h2 : r ≤ 0) :
    Calls Try.prog 6 #[pv p, .int .i64 r, .int .i64 s, .int .i64 n] w fun e w' => e = .returned (.bool true) ∧ Below w.heap.size w w' := by
  have g1 : (r == s) = true := by simp [h1]
  have g2 : decide (0 < r) = false := by simp; omega
  have hg := get_put_other p r s n (by omega)
  clear h1
  have ha := put_a p r n
  have ho := put_o p r n
  generalize hq : put p r n = q at *
  have HQ : Hid (put p r n = q) := hq
  clear hq
  have hA : (q.a == p.a) = true := by simp [ha]
  have hO : (q.o == p.o) = true := by simp [ho]
  have hG : (get q s == get p s) = true := by simp [hg]
  clear ha ho hg
  go_enter Try.func6, Try.ntmps6
  go_wp2_with fail
  refine (c_Put p r n _).mono ?_
  rw [HQ.out]
  rintro e w1 ⟨rfl, hb⟩
  obtain ⟨u, rfl⟩ := to_up hb
  obtain ⟨hne, hc0, hf0, hs0, hbl⟩ := u.f1
  clear hb
  go_wp2_with fail
  refine region_up (by kernel_rfl) (by kernel_rfl) ?_
  rintro ⟨hne2, hc, hf, hs⟩
  have hk := fun v j => (hc v w.heap.size j (by simp; have := hs0 u; omega)).trans ((World.cell?_alloc_lt _ _ _ (hs0 u)).trans (hc0 u j))
  have hv := fun v j => hc v u.x.heap.size j (by simp)
  simp only [World.cell?_alloc_new] at hv
  clear hc hf hs
  repeat (go_big_quiet_step (first | (go_at_call 30; exact up_call (c_does_keep _)) | (go_at_call_of 23 (q.r 0); exact up_call (c_Get q s _)) | (go_at_call 23; exact up_call (c_Get p s _))))
  refine wpQuiet_nil ?_
  intro _ hw'
  obtain ⟨u3, hw''⟩ := hw'
  subst hw''
  go_wp2
  go_ret
  exact ⟨rfl, up_below ((hbl u).alloc (by have := hs0 u; omega) _) u3⟩

set_option maxHeartbeats 1000000 in
theorem w_CodePuts_high (p : Pl) (r s n : Int) (w : World) (h1 : r = s) (h2 : 0 < r) (h3 : 8 ≤ r) :
    Calls Try.prog 6 #[pv p, .int .i64 r, .int .i64 s, .int .i64 n] w fun e w' => e = .returned (.bool true) ∧ Below w.heap.size w w' := by
  have g1 : (r == s) = true := by simp [h1]
  have g2 : decide (r < 8) = false := by simp; omega
  have hg := get_put_other p r s n (by omega)
  clear h1
  have ha := put_a p r n
  have ho := put_o p r n
  generalize hq : put p r n = q at *
  have HQ : Hid (put p r n = q) := hq
  clear hq
  have hA : (q.a == p.a) = true := by simp [ha]
  have hO : (q.o == p.o) = true := by simp [ho]
  have hG : (get q s == get p s) = true := by simp [hg]
  clear ha ho hg
  go_enter Try.func6, Try.ntmps6
  go_wp2_with fail
  refine (c_Put p r n _).mono ?_
  rw [HQ.out]
  rintro e w1 ⟨rfl, hb⟩
  obtain ⟨u, rfl⟩ := to_up hb
  obtain ⟨hne, hc0, hf0, hs0, hbl⟩ := u.f1
  clear hb
  go_wp2_with fail
  refine region_up (by kernel_rfl) (by kernel_rfl) ?_
  rintro ⟨hne2, hc, hf, hs⟩
  have hk := fun v j => (hc v w.heap.size j (by simp; have := hs0 u; omega)).trans ((World.cell?_alloc_lt _ _ _ (hs0 u)).trans (hc0 u j))
  have hv := fun v j => hc v u.x.heap.size j (by simp)
  simp only [World.cell?_alloc_new] at hv
  clear hc hf hs
  repeat (go_big_quiet_step (first | (go_at_call 30; exact up_call (c_does_keep _)) | (go_at_call_of 23 (q.r 0); exact up_call (c_Get q s _)) | (go_at_call 23; exact up_call (c_Get p s _))))
  refine wpQuiet_nil ?_
  intro _ hw'
  obtain ⟨u3, hw''⟩ := hw'
  subst hw''
  go_wp2
  go_ret
  exact ⟨rfl, up_below ((hbl u).alloc (by have := hs0 u; omega) _) u3⟩

theorem w_CodePuts (p : Pl) (r s n : Int) (w : World) :
    Calls Try.prog 6 #[pv p, .int .i64 r, .int .i64 s, .int .i64 n] w fun e w' => e = .returned (.bool true) ∧ Below w.heap.size w w' := by
  by_cases h1 : r = s
  · by_cases h2 : 0 < r
    · by_cases h3 : r < 8
      · exact w_CodePuts_same p r s n w h1 h2 h3
      · exact w_CodePuts_high p r s n w h1 h2 (by omega)
    · exact w_CodePuts_low p r s n w h1 (by omega)
  · exact w_CodePuts_other p r s n w h1

end Go.Proofs.Ytjbbgpacijageaa
