/- AloneOf: its ways. -/
import Derived.Test.YtjbbgpacijageaaW4
import Derived.Test.YtjbbgpacijageaaMath3
namespace Go.Proofs.Ytjbbgpacijageaa
open Go.RowKit
set_option linter.unusedSimpArgs false
set_option linter.unusedVariables false
attribute [local go_sem ↓] eql_plain eql_instr

set_option maxHeartbeats 1000000 in
theorem c_AloneOf_bad1 (p : Pl) (i : In) (w : World) (h1 : goodI i = false) :
    Calls Try.prog 29 #[pv p, iv i] w fun e w' => e = .returned (.tuple #[pv p, .int .i64 1]) ∧ Below w.heap.size w w' := by
  go_enter Try.func29, Try.ntmps29
  go_wp2_with fail
  refine (c_IsInstr i _).mono ?_
  rintro e w1 ⟨rfl, hb⟩
  obtain ⟨u, rfl⟩ := to_up hb
  obtain ⟨hne, hc0, hf0, hs0, hc1, hf1, hs1, hc2, hf2, hs2, hbl⟩ := u.f3
  clear hb
  go_wp2
  refine bodyPost_ret (v := .tuple #[pv p, .int .i64 1]) (by simp [results, Try.results29, go_sem, hc0, hc1, hc2]) rfl ?_
  exact ⟨rfl, by go_grown; exact hbl u⟩

set_option maxHeartbeats 1000000 in
theorem c_AloneOf_bad2 (p : Pl) (i : In) (w : World) (h1 : goodI i = true) (h2 : goodP p = false) :
    Calls Try.prog 29 #[pv p, iv i] w fun e w' => e = .returned (.tuple #[pv p, .int .i64 1]) ∧ Below w.heap.size w w' := by
  go_enter Try.func29, Try.ntmps29
  go_wp2_with fail
  refine (c_IsInstr i _).mono ?_
  rintro e w1 ⟨rfl, hb⟩
  obtain ⟨u, rfl⟩ := to_up hb
  obtain ⟨hne, hc0, hf0, hs0, hc1, hf1, hs1, hc2, hf2, hs2, hbl⟩ := u.f3
  clear hb
  go_wp2_with (go_at_call 20; refine (up_call (c_IsPlain p _)).mono ?_; rintro e w1 ⟨rfl, u2, rfl⟩)
  refine bodyPost_ret (v := .tuple #[pv p, .int .i64 1]) (by simp [results, Try.results29, go_sem, hc0, hc1, hc2]) rfl ?_
  exact ⟨rfl, by go_grown; exact hbl _⟩

set_option maxHeartbeats 1000000 in
theorem c_AloneOf_off (r : Nat → Int) (a : Int) (i : In) (w : World) (h1 : goodI i = true) (h2 : goodP ⟨r, a, true⟩ = true) :
    Calls Try.prog 29 #[pv ⟨r, a, true⟩, iv i] w fun e w' => e = .returned (.tuple #[pv ⟨r, a, true⟩, .int .i64 4]) ∧ Below w.heap.size w w' := by
  go_enter Try.func29, Try.ntmps29
  go_wp2_with fail
  refine (c_IsInstr i _).mono ?_
  rintro e w1 ⟨rfl, hb⟩
  obtain ⟨u, rfl⟩ := to_up hb
  obtain ⟨hne, hc0, hf0, hs0, hc1, hf1, hs1, hc2, hf2, hs2, hbl⟩ := u.f3
  clear hb
  go_wp2_with (go_at_call 20; refine (up_call (c_IsPlain ⟨r, a, true⟩ _)).mono ?_; rintro e w1 ⟨rfl, u2, rfl⟩)
  refine bodyPost_ret (v := .tuple #[pv ⟨r, a, true⟩, .int .i64 4]) (by simp [results, Try.results29, go_sem, hc0, hc1, hc2]) rfl ?_
  exact ⟨rfl, by go_grown; exact hbl _⟩

theorem regs_of {op x y z n : Int} (h : goodI ⟨op, x, y, z, n⟩ = true) : 0 ≤ x ∧ x < 8 ∧ 0 ≤ y ∧ y < 8 ∧ 0 ≤ z ∧ z < 8 := by
  simp only [goodI, Bool.and_eq_true, isR_iff] at h
  obtain ⟨⟨⟨⟨_, h1, h2⟩, h3, h4⟩, h5, h6⟩, _⟩ := h
  exact ⟨h1, h2, h3, h4, h5, h6⟩
theorem get_of {p : Pl} {r : Int} (h0 : 0 ≤ r) (h1 : r < 8) : get p r = p.r r.toNat := by
  unfold get; rw [if_pos ((isR_iff r).2 ⟨h0, h1⟩)]
theorem reg_at (r : Nat → Int) (a : Int) (o : Bool) {y : Int} (h0 : 0 ≤ y) (h1 : y < 8) :
    (#[.int .i64 (r 0), .int .i64 (r 1), .int .i64 (r 2), .int .i64 (r 3), .int .i64 (r 4), .int .i64 (r 5), .int .i64 (r 6), .int .i64 (r 7), .int .i64 a, .bool o] : Array Value)[y.toNat]? = some (.int .i64 (r y.toNat)) := by
  rcases reg_cases y ((isR_iff y).2 ⟨h0, h1⟩) with rfl | rfl | rfl | rfl | rfl | rfl | rfl | rfl <;> rfl
theorem put_congr (p : Pl) (r : Int) {n m : Int} (h : wd n = wd m) : put p r n = put p r m := by unfold put; rw [h]
theorem wd_top (m : Int) : wd (wrap64 (wrap64 m + 4294967296)) = wd m := by unfold wd wrap64; omega

set_option maxHeartbeats 1000000 in
theorem c_AloneOf_set (r : Nat → Int) (a x y z n : Int) (w : World) (h1 : goodI ⟨1, x, y, z, n⟩ = true) (h2 : goodP ⟨r, a, false⟩ = true) :
    Calls Try.prog 29 #[pv ⟨r, a, false⟩, iv ⟨1, x, y, z, n⟩] w fun e w' => e = .returned (.tuple #[pv (next (put ⟨r, a, false⟩ x n)), .int .i64 0]) ∧ Below w.heap.size w w' := by
  obtain ⟨hx0, hx1, hy0, hy1, hz0, hz1⟩ := regs_of h1
  go_enter Try.func29, Try.ntmps29
  go_wp2_with fail
  refine (c_IsInstr ⟨1, x, y, z, n⟩ _).mono ?_
  rintro e w1 ⟨rfl, hb⟩
  obtain ⟨u, rfl⟩ := to_up hb
  obtain ⟨hne, hc0, hf0, hs0, hc1, hf1, hs1, hc2, hf2, hs2, hbl⟩ := u.f3
  clear hb
  have rx : ∀ v : Up _, v.x.cell? ⟨w.heap.size, x.toNat, none⟩ = some (.int .i64 (r x.toNat)) := fun v => (hc0 v _).trans (reg_at r a false hx0 hx1)
  have ry : ∀ v : Up _, v.x.cell? ⟨w.heap.size, y.toNat, none⟩ = some (.int .i64 (r y.toNat)) := fun v => (hc0 v _).trans (reg_at r a false hy0 hy1)
  have rz : ∀ v : Up _, v.x.cell? ⟨w.heap.size, z.toNat, none⟩ = some (.int .i64 (r z.toNat)) := fun v => (hc0 v _).trans (reg_at r a false hz0 hz1)
  have q0 : ∀ v : Up _, v.x.cell? ⟨w.heap.size, 0, none⟩ = some (.int .i64 (r 0)) := fun v => hc0 v 0
  have q1 : ∀ v : Up _, v.x.cell? ⟨w.heap.size, 1, none⟩ = some (.int .i64 (r 1)) := fun v => hc0 v 1
  have q2 : ∀ v : Up _, v.x.cell? ⟨w.heap.size, 2, none⟩ = some (.int .i64 (r 2)) := fun v => hc0 v 2
  have q3 : ∀ v : Up _, v.x.cell? ⟨w.heap.size, 3, none⟩ = some (.int .i64 (r 3)) := fun v => hc0 v 3
  have q4 : ∀ v : Up _, v.x.cell? ⟨w.heap.size, 4, none⟩ = some (.int .i64 (r 4)) := fun v => hc0 v 4
  have q5 : ∀ v : Up _, v.x.cell? ⟨w.heap.size, 5, none⟩ = some (.int .i64 (r 5)) := fun v => hc0 v 5
  have q6 : ∀ v : Up _, v.x.cell? ⟨w.heap.size, 6, none⟩ = some (.int .i64 (r 6)) := fun v => hc0 v 6
  have q7 : ∀ v : Up _, v.x.cell? ⟨w.heap.size, 7, none⟩ = some (.int .i64 (r 7)) := fun v => hc0 v 7
  have q8 : ∀ v : Up _, v.x.cell? ⟨w.heap.size, 8, none⟩ = some (.int .i64 a) := fun v => hc0 v 8
  have q9 : ∀ v : Up _, v.x.cell? ⟨w.heap.size, 9, none⟩ = some (.bool false) := fun v => hc0 v 9
  clear hc0
  go_wp2_with (go_at_call 20; refine (up_call (c_IsPlain ⟨r, a, false⟩ _)).mono ?_; rintro e w1 ⟨rfl, u2, rfl⟩)
  refine region_up_at (by kernel_rfl) (by kernel_rfl) ?_
  repeat (go_big_quiet_step (fail))
  refine wpQuiet_nil ?_
  intro _ hw'
  obtain ⟨u3, hw''⟩ := hw'
  subst hw''
  go_wp2_with fail
  refine (up_call (c_PutReg ⟨r, a, false⟩ x n _)).mono ?_
  rintro e w1 ⟨rfl, u4, rfl⟩
  generalize hg : put ⟨r, a, false⟩ x n = g
  have HG : Hid (put ⟨r, a, false⟩ x n = g) := hg
  clear hg
  go_wp2_with fail
  refine calls_set10 _ (by simp [go_sem]; rfl) ?_
  intro v4
  clear q0 q1 q2 q3 q4 q5 q6 q7 q8 q9 rx ry rz hc1 hc2 hf0 hf1 hf2 hs0 hs1 hs2 hbl hne
  obtain ⟨hne, hc0, hf0, hs0, hc1, hf1, hs1, hc2, hf2, hs2, hbl⟩ := v4.f3
  refine (c_rest _ _).mono ?_
  rintro e w1 ⟨rfl, rfl⟩
  go_wp2_with fail
  refine bodyPost_ret (v := .tuple #[pv ⟨g.r, wd (wrap64 (g.a + 1)), g.o⟩, .int .i64 0]) (by simp [results, Try.results29, go_sem, hc0, hc1, hc2]) rfl ?_
  exact ⟨by rw [wd_wrap, HG.out]; rfl, by go_grown; exact hbl _⟩

set_option maxHeartbeats 1000000 in
theorem c_AloneOf_add (r : Nat → Int) (a x y z n : Int) (w : World) (h1 : goodI ⟨2, x, y, z, n⟩ = true) (h2 : goodP ⟨r, a, false⟩ = true) :
    Calls Try.prog 29 #[pv ⟨r, a, false⟩, iv ⟨2, x, y, z, n⟩] w fun e w' => e = .returned (.tuple #[pv (next (put ⟨r, a, false⟩ x (r y.toNat + r z.toNat))), .int .i64 0]) ∧ Below w.heap.size w w' := by
  obtain ⟨hx0, hx1, hy0, hy1, hz0, hz1⟩ := regs_of h1
  go_enter Try.func29, Try.ntmps29
  go_wp2_with fail
  refine (c_IsInstr ⟨2, x, y, z, n⟩ _).mono ?_
  rintro e w1 ⟨rfl, hb⟩
  obtain ⟨u, rfl⟩ := to_up hb
  obtain ⟨hne, hc0, hf0, hs0, hc1, hf1, hs1, hc2, hf2, hs2, hbl⟩ := u.f3
  clear hb
  have rx : ∀ v : Up _, v.x.cell? ⟨w.heap.size, x.toNat, none⟩ = some (.int .i64 (r x.toNat)) := fun v => (hc0 v _).trans (reg_at r a false hx0 hx1)
  have ry : ∀ v : Up _, v.x.cell? ⟨w.heap.size, y.toNat, none⟩ = some (.int .i64 (r y.toNat)) := fun v => (hc0 v _).trans (reg_at r a false hy0 hy1)
  have rz : ∀ v : Up _, v.x.cell? ⟨w.heap.size, z.toNat, none⟩ = some (.int .i64 (r z.toNat)) := fun v => (hc0 v _).trans (reg_at r a false hz0 hz1)
  have q0 : ∀ v : Up _, v.x.cell? ⟨w.heap.size, 0, none⟩ = some (.int .i64 (r 0)) := fun v => hc0 v 0
  have q1 : ∀ v : Up _, v.x.cell? ⟨w.heap.size, 1, none⟩ = some (.int .i64 (r 1)) := fun v => hc0 v 1
  have q2 : ∀ v : Up _, v.x.cell? ⟨w.heap.size, 2, none⟩ = some (.int .i64 (r 2)) := fun v => hc0 v 2
  have q3 : ∀ v : Up _, v.x.cell? ⟨w.heap.size, 3, none⟩ = some (.int .i64 (r 3)) := fun v => hc0 v 3
  have q4 : ∀ v : Up _, v.x.cell? ⟨w.heap.size, 4, none⟩ = some (.int .i64 (r 4)) := fun v => hc0 v 4
  have q5 : ∀ v : Up _, v.x.cell? ⟨w.heap.size, 5, none⟩ = some (.int .i64 (r 5)) := fun v => hc0 v 5
  have q6 : ∀ v : Up _, v.x.cell? ⟨w.heap.size, 6, none⟩ = some (.int .i64 (r 6)) := fun v => hc0 v 6
  have q7 : ∀ v : Up _, v.x.cell? ⟨w.heap.size, 7, none⟩ = some (.int .i64 (r 7)) := fun v => hc0 v 7
  have q8 : ∀ v : Up _, v.x.cell? ⟨w.heap.size, 8, none⟩ = some (.int .i64 a) := fun v => hc0 v 8
  have q9 : ∀ v : Up _, v.x.cell? ⟨w.heap.size, 9, none⟩ = some (.bool false) := fun v => hc0 v 9
  clear hc0
  go_wp2_with (go_at_call 20; refine (up_call (c_IsPlain ⟨r, a, false⟩ _)).mono ?_; rintro e w1 ⟨rfl, u2, rfl⟩)
  refine region_up_at (by kernel_rfl) (by kernel_rfl) ?_
  repeat (go_big_quiet_step (fail))
  refine wpQuiet_nil ?_
  intro _ hw'
  obtain ⟨u3, hw''⟩ := hw'
  subst hw''
  go_wp2_with fail
  refine (up_call (c_PutReg ⟨r, a, false⟩ x (wrap64 (r y.toNat + r z.toNat)) _)).mono ?_
  rintro e w1 ⟨rfl, u4, rfl⟩
  generalize hg : put ⟨r, a, false⟩ x (wrap64 (r y.toNat + r z.toNat)) = g
  have HG : Hid (put ⟨r, a, false⟩ x (wrap64 (r y.toNat + r z.toNat)) = g) := hg
  clear hg
  go_wp2_with fail
  refine calls_set10 _ (by simp [go_sem]; rfl) ?_
  intro v4
  clear q0 q1 q2 q3 q4 q5 q6 q7 q8 q9 rx ry rz hc1 hc2 hf0 hf1 hf2 hs0 hs1 hs2 hbl hne
  obtain ⟨hne, hc0, hf0, hs0, hc1, hf1, hs1, hc2, hf2, hs2, hbl⟩ := v4.f3
  refine (c_rest _ _).mono ?_
  rintro e w1 ⟨rfl, rfl⟩
  go_wp2_with fail
  refine bodyPost_ret (v := .tuple #[pv ⟨g.r, wd (wrap64 (g.a + 1)), g.o⟩, .int .i64 0]) (by simp [results, Try.results29, go_sem, hc0, hc1, hc2]) rfl ?_
  exact ⟨by rw [wd_wrap, ← put_wrap, HG.out]; rfl, by go_grown; exact hbl _⟩

set_option maxHeartbeats 1000000 in
theorem c_AloneOf_sub (r : Nat → Int) (a x y z n : Int) (w : World) (h1 : goodI ⟨3, x, y, z, n⟩ = true) (h2 : goodP ⟨r, a, false⟩ = true) :
    Calls Try.prog 29 #[pv ⟨r, a, false⟩, iv ⟨3, x, y, z, n⟩] w fun e w' => e = .returned (.tuple #[pv (next (put ⟨r, a, false⟩ x (r y.toNat - r z.toNat))), .int .i64 0]) ∧ Below w.heap.size w w' := by
  obtain ⟨hx0, hx1, hy0, hy1, hz0, hz1⟩ := regs_of h1
  go_enter Try.func29, Try.ntmps29
  go_wp2_with fail
  refine (c_IsInstr ⟨3, x, y, z, n⟩ _).mono ?_
  rintro e w1 ⟨rfl, hb⟩
  obtain ⟨u, rfl⟩ := to_up hb
  obtain ⟨hne, hc0, hf0, hs0, hc1, hf1, hs1, hc2, hf2, hs2, hbl⟩ := u.f3
  clear hb
  have rx : ∀ v : Up _, v.x.cell? ⟨w.heap.size, x.toNat, none⟩ = some (.int .i64 (r x.toNat)) := fun v => (hc0 v _).trans (reg_at r a false hx0 hx1)
  have ry : ∀ v : Up _, v.x.cell? ⟨w.heap.size, y.toNat, none⟩ = some (.int .i64 (r y.toNat)) := fun v => (hc0 v _).trans (reg_at r a false hy0 hy1)
  have rz : ∀ v : Up _, v.x.cell? ⟨w.heap.size, z.toNat, none⟩ = some (.int .i64 (r z.toNat)) := fun v => (hc0 v _).trans (reg_at r a false hz0 hz1)
  have q0 : ∀ v : Up _, v.x.cell? ⟨w.heap.size, 0, none⟩ = some (.int .i64 (r 0)) := fun v => hc0 v 0
  have q1 : ∀ v : Up _, v.x.cell? ⟨w.heap.size, 1, none⟩ = some (.int .i64 (r 1)) := fun v => hc0 v 1
  have q2 : ∀ v : Up _, v.x.cell? ⟨w.heap.size, 2, none⟩ = some (.int .i64 (r 2)) := fun v => hc0 v 2
  have q3 : ∀ v : Up _, v.x.cell? ⟨w.heap.size, 3, none⟩ = some (.int .i64 (r 3)) := fun v => hc0 v 3
  have q4 : ∀ v : Up _, v.x.cell? ⟨w.heap.size, 4, none⟩ = some (.int .i64 (r 4)) := fun v => hc0 v 4
  have q5 : ∀ v : Up _, v.x.cell? ⟨w.heap.size, 5, none⟩ = some (.int .i64 (r 5)) := fun v => hc0 v 5
  have q6 : ∀ v : Up _, v.x.cell? ⟨w.heap.size, 6, none⟩ = some (.int .i64 (r 6)) := fun v => hc0 v 6
  have q7 : ∀ v : Up _, v.x.cell? ⟨w.heap.size, 7, none⟩ = some (.int .i64 (r 7)) := fun v => hc0 v 7
  have q8 : ∀ v : Up _, v.x.cell? ⟨w.heap.size, 8, none⟩ = some (.int .i64 a) := fun v => hc0 v 8
  have q9 : ∀ v : Up _, v.x.cell? ⟨w.heap.size, 9, none⟩ = some (.bool false) := fun v => hc0 v 9
  clear hc0
  go_wp2_with (go_at_call 20; refine (up_call (c_IsPlain ⟨r, a, false⟩ _)).mono ?_; rintro e w1 ⟨rfl, u2, rfl⟩)
  refine region_up_at (by kernel_rfl) (by kernel_rfl) ?_
  repeat (go_big_quiet_step (fail))
  refine wpQuiet_nil ?_
  intro _ hw'
  obtain ⟨u3, hw''⟩ := hw'
  subst hw''
  go_wp2_with fail
  refine (up_call (c_PutReg ⟨r, a, false⟩ x (wrap64 (wrap64 (r y.toNat - r z.toNat) + 4294967296)) _)).mono ?_
  rintro e w1 ⟨rfl, u4, rfl⟩
  generalize hg : put ⟨r, a, false⟩ x (wrap64 (wrap64 (r y.toNat - r z.toNat) + 4294967296)) = g
  have HG : Hid (put ⟨r, a, false⟩ x (wrap64 (wrap64 (r y.toNat - r z.toNat) + 4294967296)) = g) := hg
  clear hg
  go_wp2_with fail
  refine calls_set10 _ (by simp [go_sem]; rfl) ?_
  intro v4
  clear q0 q1 q2 q3 q4 q5 q6 q7 q8 q9 rx ry rz hc1 hc2 hf0 hf1 hf2 hs0 hs1 hs2 hbl hne
  obtain ⟨hne, hc0, hf0, hs0, hc1, hf1, hs1, hc2, hf2, hs2, hbl⟩ := v4.f3
  refine (c_rest _ _).mono ?_
  rintro e w1 ⟨rfl, rfl⟩
  go_wp2_with fail
  refine bodyPost_ret (v := .tuple #[pv ⟨g.r, wd (wrap64 (g.a + 1)), g.o⟩, .int .i64 0]) (by simp [results, Try.results29, go_sem, hc0, hc1, hc2]) rfl ?_
  exact ⟨by rw [wd_wrap, ← put_congr _ _ (wd_top _), HG.out]; rfl, by go_grown; exact hbl _⟩

set_option maxHeartbeats 1000000 in
theorem c_AloneOf_less1 (r : Nat → Int) (a x y z n : Int) (w : World) (h1 : goodI ⟨4, x, y, z, n⟩ = true) (h2 : goodP ⟨r, a, false⟩ = true) (h3 : r y.toNat < r z.toNat) :
    Calls Try.prog 29 #[pv ⟨r, a, false⟩, iv ⟨4, x, y, z, n⟩] w fun e w' => e = .returned (.tuple #[pv (next (put ⟨r, a, false⟩ x 1)), .int .i64 0]) ∧ Below w.heap.size w w' := by
  obtain ⟨hx0, hx1, hy0, hy1, hz0, hz1⟩ := regs_of h1
  go_enter Try.func29, Try.ntmps29
  go_wp2_with fail
  refine (c_IsInstr ⟨4, x, y, z, n⟩ _).mono ?_
  rintro e w1 ⟨rfl, hb⟩
  obtain ⟨u, rfl⟩ := to_up hb
  obtain ⟨hne, hc0, hf0, hs0, hc1, hf1, hs1, hc2, hf2, hs2, hbl⟩ := u.f3
  clear hb
  have rx : ∀ v : Up _, v.x.cell? ⟨w.heap.size, x.toNat, none⟩ = some (.int .i64 (r x.toNat)) := fun v => (hc0 v _).trans (reg_at r a false hx0 hx1)
  have ry : ∀ v : Up _, v.x.cell? ⟨w.heap.size, y.toNat, none⟩ = some (.int .i64 (r y.toNat)) := fun v => (hc0 v _).trans (reg_at r a false hy0 hy1)
  have rz : ∀ v : Up _, v.x.cell? ⟨w.heap.size, z.toNat, none⟩ = some (.int .i64 (r z.toNat)) := fun v => (hc0 v _).trans (reg_at r a false hz0 hz1)
  have q0 : ∀ v : Up _, v.x.cell? ⟨w.heap.size, 0, none⟩ = some (.int .i64 (r 0)) := fun v => hc0 v 0
  have q1 : ∀ v : Up _, v.x.cell? ⟨w.heap.size, 1, none⟩ = some (.int .i64 (r 1)) := fun v => hc0 v 1
  have q2 : ∀ v : Up _, v.x.cell? ⟨w.heap.size, 2, none⟩ = some (.int .i64 (r 2)) := fun v => hc0 v 2
  have q3 : ∀ v : Up _, v.x.cell? ⟨w.heap.size, 3, none⟩ = some (.int .i64 (r 3)) := fun v => hc0 v 3
  have q4 : ∀ v : Up _, v.x.cell? ⟨w.heap.size, 4, none⟩ = some (.int .i64 (r 4)) := fun v => hc0 v 4
  have q5 : ∀ v : Up _, v.x.cell? ⟨w.heap.size, 5, none⟩ = some (.int .i64 (r 5)) := fun v => hc0 v 5
  have q6 : ∀ v : Up _, v.x.cell? ⟨w.heap.size, 6, none⟩ = some (.int .i64 (r 6)) := fun v => hc0 v 6
  have q7 : ∀ v : Up _, v.x.cell? ⟨w.heap.size, 7, none⟩ = some (.int .i64 (r 7)) := fun v => hc0 v 7
  have q8 : ∀ v : Up _, v.x.cell? ⟨w.heap.size, 8, none⟩ = some (.int .i64 a) := fun v => hc0 v 8
  have q9 : ∀ v : Up _, v.x.cell? ⟨w.heap.size, 9, none⟩ = some (.bool false) := fun v => hc0 v 9
  clear hc0
  go_wp2_with (go_at_call 20; refine (up_call (c_IsPlain ⟨r, a, false⟩ _)).mono ?_; rintro e w1 ⟨rfl, u2, rfl⟩)
  refine region_up_at (by kernel_rfl) (by kernel_rfl) ?_
  repeat (go_big_quiet_step (fail))
  refine wpQuiet_nil ?_
  intro _ hw'
  obtain ⟨u3, hw''⟩ := hw'
  subst hw''
  go_wp2_with fail
  refine (up_call (c_PutReg ⟨r, a, false⟩ x 1 _)).mono ?_
  rintro e w1 ⟨rfl, u4, rfl⟩
  generalize hg : put ⟨r, a, false⟩ x 1 = g
  have HG : Hid (put ⟨r, a, false⟩ x 1 = g) := hg
  clear hg
  go_wp2_with fail
  refine calls_set10 _ (by simp [go_sem]; rfl) ?_
  intro v4
  clear q0 q1 q2 q3 q4 q5 q6 q7 q8 q9 rx ry rz hc1 hc2 hf0 hf1 hf2 hs0 hs1 hs2 hbl hne
  obtain ⟨hne, hc0, hf0, hs0, hc1, hf1, hs1, hc2, hf2, hs2, hbl⟩ := v4.f3
  refine (c_rest _ _).mono ?_
  rintro e w1 ⟨rfl, rfl⟩
  go_wp2_with fail
  refine bodyPost_ret (v := .tuple #[pv ⟨g.r, wd (wrap64 (g.a + 1)), g.o⟩, .int .i64 0]) (by simp [results, Try.results29, go_sem, hc0, hc1, hc2]) rfl ?_
  exact ⟨by rw [wd_wrap, HG.out]; rfl, by go_grown; exact hbl _⟩

set_option maxHeartbeats 1000000 in
theorem c_AloneOf_less0 (r : Nat → Int) (a x y z n : Int) (w : World) (h1 : goodI ⟨4, x, y, z, n⟩ = true) (h2 : goodP ⟨r, a, false⟩ = true) (h3 : ¬ r y.toNat < r z.toNat) :
    Calls Try.prog 29 #[pv ⟨r, a, false⟩, iv ⟨4, x, y, z, n⟩] w fun e w' => e = .returned (.tuple #[pv (next (put ⟨r, a, false⟩ x 0)), .int .i64 0]) ∧ Below w.heap.size w w' := by
  obtain ⟨hx0, hx1, hy0, hy1, hz0, hz1⟩ := regs_of h1
  go_enter Try.func29, Try.ntmps29
  go_wp2_with fail
  refine (c_IsInstr ⟨4, x, y, z, n⟩ _).mono ?_
  rintro e w1 ⟨rfl, hb⟩
  obtain ⟨u, rfl⟩ := to_up hb
  obtain ⟨hne, hc0, hf0, hs0, hc1, hf1, hs1, hc2, hf2, hs2, hbl⟩ := u.f3
  clear hb
  have rx : ∀ v : Up _, v.x.cell? ⟨w.heap.size, x.toNat, none⟩ = some (.int .i64 (r x.toNat)) := fun v => (hc0 v _).trans (reg_at r a false hx0 hx1)
  have ry : ∀ v : Up _, v.x.cell? ⟨w.heap.size, y.toNat, none⟩ = some (.int .i64 (r y.toNat)) := fun v => (hc0 v _).trans (reg_at r a false hy0 hy1)
  have rz : ∀ v : Up _, v.x.cell? ⟨w.heap.size, z.toNat, none⟩ = some (.int .i64 (r z.toNat)) := fun v => (hc0 v _).trans (reg_at r a false hz0 hz1)
  have q0 : ∀ v : Up _, v.x.cell? ⟨w.heap.size, 0, none⟩ = some (.int .i64 (r 0)) := fun v => hc0 v 0
  have q1 : ∀ v : Up _, v.x.cell? ⟨w.heap.size, 1, none⟩ = some (.int .i64 (r 1)) := fun v => hc0 v 1
  have q2 : ∀ v : Up _, v.x.cell? ⟨w.heap.size, 2, none⟩ = some (.int .i64 (r 2)) := fun v => hc0 v 2
  have q3 : ∀ v : Up _, v.x.cell? ⟨w.heap.size, 3, none⟩ = some (.int .i64 (r 3)) := fun v => hc0 v 3
  have q4 : ∀ v : Up _, v.x.cell? ⟨w.heap.size, 4, none⟩ = some (.int .i64 (r 4)) := fun v => hc0 v 4
  have q5 : ∀ v : Up _, v.x.cell? ⟨w.heap.size, 5, none⟩ = some (.int .i64 (r 5)) := fun v => hc0 v 5
  have q6 : ∀ v : Up _, v.x.cell? ⟨w.heap.size, 6, none⟩ = some (.int .i64 (r 6)) := fun v => hc0 v 6
  have q7 : ∀ v : Up _, v.x.cell? ⟨w.heap.size, 7, none⟩ = some (.int .i64 (r 7)) := fun v => hc0 v 7
  have q8 : ∀ v : Up _, v.x.cell? ⟨w.heap.size, 8, none⟩ = some (.int .i64 a) := fun v => hc0 v 8
  have q9 : ∀ v : Up _, v.x.cell? ⟨w.heap.size, 9, none⟩ = some (.bool false) := fun v => hc0 v 9
  clear hc0
  go_wp2_with (go_at_call 20; refine (up_call (c_IsPlain ⟨r, a, false⟩ _)).mono ?_; rintro e w1 ⟨rfl, u2, rfl⟩)
  refine region_up_at (by kernel_rfl) (by kernel_rfl) ?_
  repeat (go_big_quiet_step (fail))
  refine wpQuiet_nil ?_
  intro _ hw'
  obtain ⟨u3, hw''⟩ := hw'
  subst hw''
  go_wp2_with fail
  refine (up_call (c_PutReg ⟨r, a, false⟩ x 0 _)).mono ?_
  rintro e w1 ⟨rfl, u4, rfl⟩
  generalize hg : put ⟨r, a, false⟩ x 0 = g
  have HG : Hid (put ⟨r, a, false⟩ x 0 = g) := hg
  clear hg
  go_wp2_with fail
  refine calls_set10 _ (by simp [go_sem]; rfl) ?_
  intro v4
  clear q0 q1 q2 q3 q4 q5 q6 q7 q8 q9 rx ry rz hc1 hc2 hf0 hf1 hf2 hs0 hs1 hs2 hbl hne
  obtain ⟨hne, hc0, hf0, hs0, hc1, hf1, hs1, hc2, hf2, hs2, hbl⟩ := v4.f3
  refine (c_rest _ _).mono ?_
  rintro e w1 ⟨rfl, rfl⟩
  go_wp2_with fail
  refine bodyPost_ret (v := .tuple #[pv ⟨g.r, wd (wrap64 (g.a + 1)), g.o⟩, .int .i64 0]) (by simp [results, Try.results29, go_sem, hc0, hc1, hc2]) rfl ?_
  exact ⟨by rw [wd_wrap, HG.out]; rfl, by go_grown; exact hbl _⟩

set_option maxHeartbeats 1000000 in
theorem c_AloneOf_jump1 (r : Nat → Int) (a x y z n : Int) (w : World) (h1 : goodI ⟨8, x, y, z, n⟩ = true) (h2 : goodP ⟨r, a, false⟩ = true) (h3 : (r x.toNat == 0) = true) :
    Calls Try.prog 29 #[pv ⟨r, a, false⟩, iv ⟨8, x, y, z, n⟩] w fun e w' => e = .returned (.tuple #[pv ⟨r, n, false⟩, .int .i64 0]) ∧ Below w.heap.size w w' := by
  obtain ⟨hx0, hx1, hy0, hy1, hz0, hz1⟩ := regs_of h1
  go_enter Try.func29, Try.ntmps29
  go_wp2_with fail
  refine (c_IsInstr ⟨8, x, y, z, n⟩ _).mono ?_
  rintro e w1 ⟨rfl, hb⟩
  obtain ⟨u, rfl⟩ := to_up hb
  obtain ⟨hne, hc0, hf0, hs0, hc1, hf1, hs1, hc2, hf2, hs2, hbl⟩ := u.f3
  clear hb
  have rx : ∀ v : Up _, v.x.cell? ⟨w.heap.size, x.toNat, none⟩ = some (.int .i64 (r x.toNat)) := fun v => (hc0 v _).trans (reg_at r a false hx0 hx1)
  have ry : ∀ v : Up _, v.x.cell? ⟨w.heap.size, y.toNat, none⟩ = some (.int .i64 (r y.toNat)) := fun v => (hc0 v _).trans (reg_at r a false hy0 hy1)
  have rz : ∀ v : Up _, v.x.cell? ⟨w.heap.size, z.toNat, none⟩ = some (.int .i64 (r z.toNat)) := fun v => (hc0 v _).trans (reg_at r a false hz0 hz1)
  have q0 : ∀ v : Up _, v.x.cell? ⟨w.heap.size, 0, none⟩ = some (.int .i64 (r 0)) := fun v => hc0 v 0
  have q1 : ∀ v : Up _, v.x.cell? ⟨w.heap.size, 1, none⟩ = some (.int .i64 (r 1)) := fun v => hc0 v 1
  have q2 : ∀ v : Up _, v.x.cell? ⟨w.heap.size, 2, none⟩ = some (.int .i64 (r 2)) := fun v => hc0 v 2
  have q3 : ∀ v : Up _, v.x.cell? ⟨w.heap.size, 3, none⟩ = some (.int .i64 (r 3)) := fun v => hc0 v 3
  have q4 : ∀ v : Up _, v.x.cell? ⟨w.heap.size, 4, none⟩ = some (.int .i64 (r 4)) := fun v => hc0 v 4
  have q5 : ∀ v : Up _, v.x.cell? ⟨w.heap.size, 5, none⟩ = some (.int .i64 (r 5)) := fun v => hc0 v 5
  have q6 : ∀ v : Up _, v.x.cell? ⟨w.heap.size, 6, none⟩ = some (.int .i64 (r 6)) := fun v => hc0 v 6
  have q7 : ∀ v : Up _, v.x.cell? ⟨w.heap.size, 7, none⟩ = some (.int .i64 (r 7)) := fun v => hc0 v 7
  have q8 : ∀ v : Up _, v.x.cell? ⟨w.heap.size, 8, none⟩ = some (.int .i64 a) := fun v => hc0 v 8
  have q9 : ∀ v : Up _, v.x.cell? ⟨w.heap.size, 9, none⟩ = some (.bool false) := fun v => hc0 v 9
  clear hc0
  go_wp2_with (go_at_call 20; refine (up_call (c_IsPlain ⟨r, a, false⟩ _)).mono ?_; rintro e w1 ⟨rfl, u2, rfl⟩)
  refine region_up_at (by kernel_rfl) (by kernel_rfl) ?_
  repeat (go_big_quiet_step (fail))
  refine wpQuiet_nil ?_
  intro _ hw'
  obtain ⟨u3, hw''⟩ := hw'
  subst hw''
  go_wp2_with (fail)
  refine bodyPost_ret (v := .tuple #[pv ⟨r, n, false⟩, .int .i64 0]) (by simp [results, Try.results29, go_sem, q0, q1, q2, q3, q4, q5, q6, q7, q8, q9, hc1, hc2]) rfl ?_
  exact ⟨rfl, by go_grown; exact hbl _⟩

set_option maxHeartbeats 1000000 in
theorem c_AloneOf_jump0 (r : Nat → Int) (a x y z n : Int) (w : World) (h1 : goodI ⟨8, x, y, z, n⟩ = true) (h2 : goodP ⟨r, a, false⟩ = true) (h3 : (r x.toNat == 0) = false) :
    Calls Try.prog 29 #[pv ⟨r, a, false⟩, iv ⟨8, x, y, z, n⟩] w fun e w' => e = .returned (.tuple #[pv (next ⟨r, a, false⟩), .int .i64 0]) ∧ Below w.heap.size w w' := by
  obtain ⟨hx0, hx1, hy0, hy1, hz0, hz1⟩ := regs_of h1
  go_enter Try.func29, Try.ntmps29
  go_wp2_with fail
  refine (c_IsInstr ⟨8, x, y, z, n⟩ _).mono ?_
  rintro e w1 ⟨rfl, hb⟩
  obtain ⟨u, rfl⟩ := to_up hb
  obtain ⟨hne, hc0, hf0, hs0, hc1, hf1, hs1, hc2, hf2, hs2, hbl⟩ := u.f3
  clear hb
  have rx : ∀ v : Up _, v.x.cell? ⟨w.heap.size, x.toNat, none⟩ = some (.int .i64 (r x.toNat)) := fun v => (hc0 v _).trans (reg_at r a false hx0 hx1)
  have ry : ∀ v : Up _, v.x.cell? ⟨w.heap.size, y.toNat, none⟩ = some (.int .i64 (r y.toNat)) := fun v => (hc0 v _).trans (reg_at r a false hy0 hy1)
  have rz : ∀ v : Up _, v.x.cell? ⟨w.heap.size, z.toNat, none⟩ = some (.int .i64 (r z.toNat)) := fun v => (hc0 v _).trans (reg_at r a false hz0 hz1)
  have q0 : ∀ v : Up _, v.x.cell? ⟨w.heap.size, 0, none⟩ = some (.int .i64 (r 0)) := fun v => hc0 v 0
  have q1 : ∀ v : Up _, v.x.cell? ⟨w.heap.size, 1, none⟩ = some (.int .i64 (r 1)) := fun v => hc0 v 1
  have q2 : ∀ v : Up _, v.x.cell? ⟨w.heap.size, 2, none⟩ = some (.int .i64 (r 2)) := fun v => hc0 v 2
  have q3 : ∀ v : Up _, v.x.cell? ⟨w.heap.size, 3, none⟩ = some (.int .i64 (r 3)) := fun v => hc0 v 3
  have q4 : ∀ v : Up _, v.x.cell? ⟨w.heap.size, 4, none⟩ = some (.int .i64 (r 4)) := fun v => hc0 v 4
  have q5 : ∀ v : Up _, v.x.cell? ⟨w.heap.size, 5, none⟩ = some (.int .i64 (r 5)) := fun v => hc0 v 5
  have q6 : ∀ v : Up _, v.x.cell? ⟨w.heap.size, 6, none⟩ = some (.int .i64 (r 6)) := fun v => hc0 v 6
  have q7 : ∀ v : Up _, v.x.cell? ⟨w.heap.size, 7, none⟩ = some (.int .i64 (r 7)) := fun v => hc0 v 7
  have q8 : ∀ v : Up _, v.x.cell? ⟨w.heap.size, 8, none⟩ = some (.int .i64 a) := fun v => hc0 v 8
  have q9 : ∀ v : Up _, v.x.cell? ⟨w.heap.size, 9, none⟩ = some (.bool false) := fun v => hc0 v 9
  clear hc0
  go_wp2_with (go_at_call 20; refine (up_call (c_IsPlain ⟨r, a, false⟩ _)).mono ?_; rintro e w1 ⟨rfl, u2, rfl⟩)
  refine region_up_at (by kernel_rfl) (by kernel_rfl) ?_
  repeat (go_big_quiet_step (fail))
  refine wpQuiet_nil ?_
  intro _ hw'
  obtain ⟨u3, hw''⟩ := hw'
  subst hw''
  go_wp2_with (first | (go_at_call 26; refine (up_call (c_PutReg ⟨r, a, false⟩ _ _ _)).mono ?_; rintro e w1 ⟨rfl, u4, rfl⟩) | (go_at_call 64; refine (c_rest _ _).mono ?_; rintro e w1 ⟨rfl, rfl⟩))
  refine bodyPost_ret (v := .tuple #[pv ⟨r, wd (wrap64 (a + 1)), false⟩, .int .i64 0]) (by simp [results, Try.results29, go_sem, q0, q1, q2, q3, q4, q5, q6, q7, q8, q9, hc1, hc2]) rfl ?_
  exact ⟨by rw [wd_wrap]; rfl, by go_grown; exact hbl _⟩

set_option maxHeartbeats 1000000 in
theorem c_AloneOf_halt (r : Nat → Int) (a x y z n : Int) (w : World) (h1 : goodI ⟨12, x, y, z, n⟩ = true) (h2 : goodP ⟨r, a, false⟩ = true) :
    Calls Try.prog 29 #[pv ⟨r, a, false⟩, iv ⟨12, x, y, z, n⟩] w fun e w' => e = .returned (.tuple #[pv ⟨r, a, true⟩, .int .i64 0]) ∧ Below w.heap.size w w' := by
  obtain ⟨hx0, hx1, hy0, hy1, hz0, hz1⟩ := regs_of h1
  go_enter Try.func29, Try.ntmps29
  go_wp2_with fail
  refine (c_IsInstr ⟨12, x, y, z, n⟩ _).mono ?_
  rintro e w1 ⟨rfl, hb⟩
  obtain ⟨u, rfl⟩ := to_up hb
  obtain ⟨hne, hc0, hf0, hs0, hc1, hf1, hs1, hc2, hf2, hs2, hbl⟩ := u.f3
  clear hb
  have rx : ∀ v : Up _, v.x.cell? ⟨w.heap.size, x.toNat, none⟩ = some (.int .i64 (r x.toNat)) := fun v => (hc0 v _).trans (reg_at r a false hx0 hx1)
  have ry : ∀ v : Up _, v.x.cell? ⟨w.heap.size, y.toNat, none⟩ = some (.int .i64 (r y.toNat)) := fun v => (hc0 v _).trans (reg_at r a false hy0 hy1)
  have rz : ∀ v : Up _, v.x.cell? ⟨w.heap.size, z.toNat, none⟩ = some (.int .i64 (r z.toNat)) := fun v => (hc0 v _).trans (reg_at r a false hz0 hz1)
  have q0 : ∀ v : Up _, v.x.cell? ⟨w.heap.size, 0, none⟩ = some (.int .i64 (r 0)) := fun v => hc0 v 0
  have q1 : ∀ v : Up _, v.x.cell? ⟨w.heap.size, 1, none⟩ = some (.int .i64 (r 1)) := fun v => hc0 v 1
  have q2 : ∀ v : Up _, v.x.cell? ⟨w.heap.size, 2, none⟩ = some (.int .i64 (r 2)) := fun v => hc0 v 2
  have q3 : ∀ v : Up _, v.x.cell? ⟨w.heap.size, 3, none⟩ = some (.int .i64 (r 3)) := fun v => hc0 v 3
  have q4 : ∀ v : Up _, v.x.cell? ⟨w.heap.size, 4, none⟩ = some (.int .i64 (r 4)) := fun v => hc0 v 4
  have q5 : ∀ v : Up _, v.x.cell? ⟨w.heap.size, 5, none⟩ = some (.int .i64 (r 5)) := fun v => hc0 v 5
  have q6 : ∀ v : Up _, v.x.cell? ⟨w.heap.size, 6, none⟩ = some (.int .i64 (r 6)) := fun v => hc0 v 6
  have q7 : ∀ v : Up _, v.x.cell? ⟨w.heap.size, 7, none⟩ = some (.int .i64 (r 7)) := fun v => hc0 v 7
  have q8 : ∀ v : Up _, v.x.cell? ⟨w.heap.size, 8, none⟩ = some (.int .i64 a) := fun v => hc0 v 8
  have q9 : ∀ v : Up _, v.x.cell? ⟨w.heap.size, 9, none⟩ = some (.bool false) := fun v => hc0 v 9
  clear hc0
  go_wp2_with (go_at_call 20; refine (up_call (c_IsPlain ⟨r, a, false⟩ _)).mono ?_; rintro e w1 ⟨rfl, u2, rfl⟩)
  refine region_up_at (by kernel_rfl) (by kernel_rfl) ?_
  repeat (go_big_quiet_step (fail))
  refine wpQuiet_nil ?_
  intro _ hw'
  obtain ⟨u3, hw''⟩ := hw'
  subst hw''
  go_wp2_with (fail)
  refine bodyPost_ret (v := .tuple #[pv ⟨r, a, true⟩, .int .i64 0]) (by simp [results, Try.results29, go_sem, q0, q1, q2, q3, q4, q5, q6, q7, q8, q9, hc1, hc2]) rfl ?_
  exact ⟨rfl, by go_grown; exact hbl _⟩

set_option maxHeartbeats 1000000 in
theorem c_AloneOf_other5 (r : Nat → Int) (a x y z n : Int) (w : World) (h1 : goodI ⟨5, x, y, z, n⟩ = true) (h2 : goodP ⟨r, a, false⟩ = true) :
    Calls Try.prog 29 #[pv ⟨r, a, false⟩, iv ⟨5, x, y, z, n⟩] w fun e w' => e = .returned (.tuple #[pv ⟨r, a, false⟩, .int .i64 3]) ∧ Below w.heap.size w w' := by
  obtain ⟨hx0, hx1, hy0, hy1, hz0, hz1⟩ := regs_of h1
  go_enter Try.func29, Try.ntmps29
  go_wp2_with fail
  refine (c_IsInstr ⟨5, x, y, z, n⟩ _).mono ?_
  rintro e w1 ⟨rfl, hb⟩
  obtain ⟨u, rfl⟩ := to_up hb
  obtain ⟨hne, hc0, hf0, hs0, hc1, hf1, hs1, hc2, hf2, hs2, hbl⟩ := u.f3
  clear hb
  have rx : ∀ v : Up _, v.x.cell? ⟨w.heap.size, x.toNat, none⟩ = some (.int .i64 (r x.toNat)) := fun v => (hc0 v _).trans (reg_at r a false hx0 hx1)
  have ry : ∀ v : Up _, v.x.cell? ⟨w.heap.size, y.toNat, none⟩ = some (.int .i64 (r y.toNat)) := fun v => (hc0 v _).trans (reg_at r a false hy0 hy1)
  have rz : ∀ v : Up _, v.x.cell? ⟨w.heap.size, z.toNat, none⟩ = some (.int .i64 (r z.toNat)) := fun v => (hc0 v _).trans (reg_at r a false hz0 hz1)
  have q0 : ∀ v : Up _, v.x.cell? ⟨w.heap.size, 0, none⟩ = some (.int .i64 (r 0)) := fun v => hc0 v 0
  have q1 : ∀ v : Up _, v.x.cell? ⟨w.heap.size, 1, none⟩ = some (.int .i64 (r 1)) := fun v => hc0 v 1
  have q2 : ∀ v : Up _, v.x.cell? ⟨w.heap.size, 2, none⟩ = some (.int .i64 (r 2)) := fun v => hc0 v 2
  have q3 : ∀ v : Up _, v.x.cell? ⟨w.heap.size, 3, none⟩ = some (.int .i64 (r 3)) := fun v => hc0 v 3
  have q4 : ∀ v : Up _, v.x.cell? ⟨w.heap.size, 4, none⟩ = some (.int .i64 (r 4)) := fun v => hc0 v 4
  have q5 : ∀ v : Up _, v.x.cell? ⟨w.heap.size, 5, none⟩ = some (.int .i64 (r 5)) := fun v => hc0 v 5
  have q6 : ∀ v : Up _, v.x.cell? ⟨w.heap.size, 6, none⟩ = some (.int .i64 (r 6)) := fun v => hc0 v 6
  have q7 : ∀ v : Up _, v.x.cell? ⟨w.heap.size, 7, none⟩ = some (.int .i64 (r 7)) := fun v => hc0 v 7
  have q8 : ∀ v : Up _, v.x.cell? ⟨w.heap.size, 8, none⟩ = some (.int .i64 a) := fun v => hc0 v 8
  have q9 : ∀ v : Up _, v.x.cell? ⟨w.heap.size, 9, none⟩ = some (.bool false) := fun v => hc0 v 9
  clear hc0
  go_wp2_with (go_at_call 20; refine (up_call (c_IsPlain ⟨r, a, false⟩ _)).mono ?_; rintro e w1 ⟨rfl, u2, rfl⟩)
  refine region_up_at (by kernel_rfl) (by kernel_rfl) ?_
  repeat (go_big_quiet_step (fail))
  refine wpQuiet_nil ?_
  intro _ hw'
  obtain ⟨u3, hw''⟩ := hw'
  subst hw''
  go_wp2_with (fail)
  refine bodyPost_ret (v := .tuple #[pv ⟨r, a, false⟩, .int .i64 3]) (by simp [results, Try.results29, go_sem, q0, q1, q2, q3, q4, q5, q6, q7, q8, q9, hc1, hc2]) rfl ?_
  exact ⟨rfl, by go_grown; exact hbl _⟩

set_option maxHeartbeats 1000000 in
theorem c_AloneOf_other6 (r : Nat → Int) (a x y z n : Int) (w : World) (h1 : goodI ⟨6, x, y, z, n⟩ = true) (h2 : goodP ⟨r, a, false⟩ = true) :
    Calls Try.prog 29 #[pv ⟨r, a, false⟩, iv ⟨6, x, y, z, n⟩] w fun e w' => e = .returned (.tuple #[pv ⟨r, a, false⟩, .int .i64 3]) ∧ Below w.heap.size w w' := by
  obtain ⟨hx0, hx1, hy0, hy1, hz0, hz1⟩ := regs_of h1
  go_enter Try.func29, Try.ntmps29
  go_wp2_with fail
  refine (c_IsInstr ⟨6, x, y, z, n⟩ _).mono ?_
  rintro e w1 ⟨rfl, hb⟩
  obtain ⟨u, rfl⟩ := to_up hb
  obtain ⟨hne, hc0, hf0, hs0, hc1, hf1, hs1, hc2, hf2, hs2, hbl⟩ := u.f3
  clear hb
  have rx : ∀ v : Up _, v.x.cell? ⟨w.heap.size, x.toNat, none⟩ = some (.int .i64 (r x.toNat)) := fun v => (hc0 v _).trans (reg_at r a false hx0 hx1)
  have ry : ∀ v : Up _, v.x.cell? ⟨w.heap.size, y.toNat, none⟩ = some (.int .i64 (r y.toNat)) := fun v => (hc0 v _).trans (reg_at r a false hy0 hy1)
  have rz : ∀ v : Up _, v.x.cell? ⟨w.heap.size, z.toNat, none⟩ = some (.int .i64 (r z.toNat)) := fun v => (hc0 v _).trans (reg_at r a false hz0 hz1)
  have q0 : ∀ v : Up _, v.x.cell? ⟨w.heap.size, 0, none⟩ = some (.int .i64 (r 0)) := fun v => hc0 v 0
  have q1 : ∀ v : Up _, v.x.cell? ⟨w.heap.size, 1, none⟩ = some (.int .i64 (r 1)) := fun v => hc0 v 1
  have q2 : ∀ v : Up _, v.x.cell? ⟨w.heap.size, 2, none⟩ = some (.int .i64 (r 2)) := fun v => hc0 v 2
  have q3 : ∀ v : Up _, v.x.cell? ⟨w.heap.size, 3, none⟩ = some (.int .i64 (r 3)) := fun v => hc0 v 3
  have q4 : ∀ v : Up _, v.x.cell? ⟨w.heap.size, 4, none⟩ = some (.int .i64 (r 4)) := fun v => hc0 v 4
  have q5 : ∀ v : Up _, v.x.cell? ⟨w.heap.size, 5, none⟩ = some (.int .i64 (r 5)) := fun v => hc0 v 5
  have q6 : ∀ v : Up _, v.x.cell? ⟨w.heap.size, 6, none⟩ = some (.int .i64 (r 6)) := fun v => hc0 v 6
  have q7 : ∀ v : Up _, v.x.cell? ⟨w.heap.size, 7, none⟩ = some (.int .i64 (r 7)) := fun v => hc0 v 7
  have q8 : ∀ v : Up _, v.x.cell? ⟨w.heap.size, 8, none⟩ = some (.int .i64 a) := fun v => hc0 v 8
  have q9 : ∀ v : Up _, v.x.cell? ⟨w.heap.size, 9, none⟩ = some (.bool false) := fun v => hc0 v 9
  clear hc0
  go_wp2_with (go_at_call 20; refine (up_call (c_IsPlain ⟨r, a, false⟩ _)).mono ?_; rintro e w1 ⟨rfl, u2, rfl⟩)
  refine region_up_at (by kernel_rfl) (by kernel_rfl) ?_
  repeat (go_big_quiet_step (fail))
  refine wpQuiet_nil ?_
  intro _ hw'
  obtain ⟨u3, hw''⟩ := hw'
  subst hw''
  go_wp2_with (fail)
  refine bodyPost_ret (v := .tuple #[pv ⟨r, a, false⟩, .int .i64 3]) (by simp [results, Try.results29, go_sem, q0, q1, q2, q3, q4, q5, q6, q7, q8, q9, hc1, hc2]) rfl ?_
  exact ⟨rfl, by go_grown; exact hbl _⟩

set_option maxHeartbeats 1000000 in
theorem c_AloneOf_other7 (r : Nat → Int) (a x y z n : Int) (w : World) (h1 : goodI ⟨7, x, y, z, n⟩ = true) (h2 : goodP ⟨r, a, false⟩ = true) :
    Calls Try.prog 29 #[pv ⟨r, a, false⟩, iv ⟨7, x, y, z, n⟩] w fun e w' => e = .returned (.tuple #[pv ⟨r, a, false⟩, .int .i64 3]) ∧ Below w.heap.size w w' := by
  obtain ⟨hx0, hx1, hy0, hy1, hz0, hz1⟩ := regs_of h1
  go_enter Try.func29, Try.ntmps29
  go_wp2_with fail
  refine (c_IsInstr ⟨7, x, y, z, n⟩ _).mono ?_
  rintro e w1 ⟨rfl, hb⟩
  obtain ⟨u, rfl⟩ := to_up hb
  obtain ⟨hne, hc0, hf0, hs0, hc1, hf1, hs1, hc2, hf2, hs2, hbl⟩ := u.f3
  clear hb
  have rx : ∀ v : Up _, v.x.cell? ⟨w.heap.size, x.toNat, none⟩ = some (.int .i64 (r x.toNat)) := fun v => (hc0 v _).trans (reg_at r a false hx0 hx1)
  have ry : ∀ v : Up _, v.x.cell? ⟨w.heap.size, y.toNat, none⟩ = some (.int .i64 (r y.toNat)) := fun v => (hc0 v _).trans (reg_at r a false hy0 hy1)
  have rz : ∀ v : Up _, v.x.cell? ⟨w.heap.size, z.toNat, none⟩ = some (.int .i64 (r z.toNat)) := fun v => (hc0 v _).trans (reg_at r a false hz0 hz1)
  have q0 : ∀ v : Up _, v.x.cell? ⟨w.heap.size, 0, none⟩ = some (.int .i64 (r 0)) := fun v => hc0 v 0
  have q1 : ∀ v : Up _, v.x.cell? ⟨w.heap.size, 1, none⟩ = some (.int .i64 (r 1)) := fun v => hc0 v 1
  have q2 : ∀ v : Up _, v.x.cell? ⟨w.heap.size, 2, none⟩ = some (.int .i64 (r 2)) := fun v => hc0 v 2
  have q3 : ∀ v : Up _, v.x.cell? ⟨w.heap.size, 3, none⟩ = some (.int .i64 (r 3)) := fun v => hc0 v 3
  have q4 : ∀ v : Up _, v.x.cell? ⟨w.heap.size, 4, none⟩ = some (.int .i64 (r 4)) := fun v => hc0 v 4
  have q5 : ∀ v : Up _, v.x.cell? ⟨w.heap.size, 5, none⟩ = some (.int .i64 (r 5)) := fun v => hc0 v 5
  have q6 : ∀ v : Up _, v.x.cell? ⟨w.heap.size, 6, none⟩ = some (.int .i64 (r 6)) := fun v => hc0 v 6
  have q7 : ∀ v : Up _, v.x.cell? ⟨w.heap.size, 7, none⟩ = some (.int .i64 (r 7)) := fun v => hc0 v 7
  have q8 : ∀ v : Up _, v.x.cell? ⟨w.heap.size, 8, none⟩ = some (.int .i64 a) := fun v => hc0 v 8
  have q9 : ∀ v : Up _, v.x.cell? ⟨w.heap.size, 9, none⟩ = some (.bool false) := fun v => hc0 v 9
  clear hc0
  go_wp2_with (go_at_call 20; refine (up_call (c_IsPlain ⟨r, a, false⟩ _)).mono ?_; rintro e w1 ⟨rfl, u2, rfl⟩)
  refine region_up_at (by kernel_rfl) (by kernel_rfl) ?_
  repeat (go_big_quiet_step (fail))
  refine wpQuiet_nil ?_
  intro _ hw'
  obtain ⟨u3, hw''⟩ := hw'
  subst hw''
  go_wp2_with (fail)
  refine bodyPost_ret (v := .tuple #[pv ⟨r, a, false⟩, .int .i64 3]) (by simp [results, Try.results29, go_sem, q0, q1, q2, q3, q4, q5, q6, q7, q8, q9, hc1, hc2]) rfl ?_
  exact ⟨rfl, by go_grown; exact hbl _⟩

set_option maxHeartbeats 1000000 in
theorem c_AloneOf_other9 (r : Nat → Int) (a x y z n : Int) (w : World) (h1 : goodI ⟨9, x, y, z, n⟩ = true) (h2 : goodP ⟨r, a, false⟩ = true) :
    Calls Try.prog 29 #[pv ⟨r, a, false⟩, iv ⟨9, x, y, z, n⟩] w fun e w' => e = .returned (.tuple #[pv ⟨r, a, false⟩, .int .i64 3]) ∧ Below w.heap.size w w' := by
  obtain ⟨hx0, hx1, hy0, hy1, hz0, hz1⟩ := regs_of h1
  go_enter Try.func29, Try.ntmps29
  go_wp2_with fail
  refine (c_IsInstr ⟨9, x, y, z, n⟩ _).mono ?_
  rintro e w1 ⟨rfl, hb⟩
  obtain ⟨u, rfl⟩ := to_up hb
  obtain ⟨hne, hc0, hf0, hs0, hc1, hf1, hs1, hc2, hf2, hs2, hbl⟩ := u.f3
  clear hb
  have rx : ∀ v : Up _, v.x.cell? ⟨w.heap.size, x.toNat, none⟩ = some (.int .i64 (r x.toNat)) := fun v => (hc0 v _).trans (reg_at r a false hx0 hx1)
  have ry : ∀ v : Up _, v.x.cell? ⟨w.heap.size, y.toNat, none⟩ = some (.int .i64 (r y.toNat)) := fun v => (hc0 v _).trans (reg_at r a false hy0 hy1)
  have rz : ∀ v : Up _, v.x.cell? ⟨w.heap.size, z.toNat, none⟩ = some (.int .i64 (r z.toNat)) := fun v => (hc0 v _).trans (reg_at r a false hz0 hz1)
  have q0 : ∀ v : Up _, v.x.cell? ⟨w.heap.size, 0, none⟩ = some (.int .i64 (r 0)) := fun v => hc0 v 0
  have q1 : ∀ v : Up _, v.x.cell? ⟨w.heap.size, 1, none⟩ = some (.int .i64 (r 1)) := fun v => hc0 v 1
  have q2 : ∀ v : Up _, v.x.cell? ⟨w.heap.size, 2, none⟩ = some (.int .i64 (r 2)) := fun v => hc0 v 2
  have q3 : ∀ v : Up _, v.x.cell? ⟨w.heap.size, 3, none⟩ = some (.int .i64 (r 3)) := fun v => hc0 v 3
  have q4 : ∀ v : Up _, v.x.cell? ⟨w.heap.size, 4, none⟩ = some (.int .i64 (r 4)) := fun v => hc0 v 4
  have q5 : ∀ v : Up _, v.x.cell? ⟨w.heap.size, 5, none⟩ = some (.int .i64 (r 5)) := fun v => hc0 v 5
  have q6 : ∀ v : Up _, v.x.cell? ⟨w.heap.size, 6, none⟩ = some (.int .i64 (r 6)) := fun v => hc0 v 6
  have q7 : ∀ v : Up _, v.x.cell? ⟨w.heap.size, 7, none⟩ = some (.int .i64 (r 7)) := fun v => hc0 v 7
  have q8 : ∀ v : Up _, v.x.cell? ⟨w.heap.size, 8, none⟩ = some (.int .i64 a) := fun v => hc0 v 8
  have q9 : ∀ v : Up _, v.x.cell? ⟨w.heap.size, 9, none⟩ = some (.bool false) := fun v => hc0 v 9
  clear hc0
  go_wp2_with (go_at_call 20; refine (up_call (c_IsPlain ⟨r, a, false⟩ _)).mono ?_; rintro e w1 ⟨rfl, u2, rfl⟩)
  refine region_up_at (by kernel_rfl) (by kernel_rfl) ?_
  repeat (go_big_quiet_step (fail))
  refine wpQuiet_nil ?_
  intro _ hw'
  obtain ⟨u3, hw''⟩ := hw'
  subst hw''
  go_wp2_with (fail)
  refine bodyPost_ret (v := .tuple #[pv ⟨r, a, false⟩, .int .i64 3]) (by simp [results, Try.results29, go_sem, q0, q1, q2, q3, q4, q5, q6, q7, q8, q9, hc1, hc2]) rfl ?_
  exact ⟨rfl, by go_grown; exact hbl _⟩

set_option maxHeartbeats 1000000 in
theorem c_AloneOf_other10 (r : Nat → Int) (a x y z n : Int) (w : World) (h1 : goodI ⟨10, x, y, z, n⟩ = true) (h2 : goodP ⟨r, a, false⟩ = true) :
    Calls Try.prog 29 #[pv ⟨r, a, false⟩, iv ⟨10, x, y, z, n⟩] w fun e w' => e = .returned (.tuple #[pv ⟨r, a, false⟩, .int .i64 3]) ∧ Below w.heap.size w w' := by
  obtain ⟨hx0, hx1, hy0, hy1, hz0, hz1⟩ := regs_of h1
  go_enter Try.func29, Try.ntmps29
  go_wp2_with fail
  refine (c_IsInstr ⟨10, x, y, z, n⟩ _).mono ?_
  rintro e w1 ⟨rfl, hb⟩
  obtain ⟨u, rfl⟩ := to_up hb
  obtain ⟨hne, hc0, hf0, hs0, hc1, hf1, hs1, hc2, hf2, hs2, hbl⟩ := u.f3
  clear hb
  have rx : ∀ v : Up _, v.x.cell? ⟨w.heap.size, x.toNat, none⟩ = some (.int .i64 (r x.toNat)) := fun v => (hc0 v _).trans (reg_at r a false hx0 hx1)
  have ry : ∀ v : Up _, v.x.cell? ⟨w.heap.size, y.toNat, none⟩ = some (.int .i64 (r y.toNat)) := fun v => (hc0 v _).trans (reg_at r a false hy0 hy1)
  have rz : ∀ v : Up _, v.x.cell? ⟨w.heap.size, z.toNat, none⟩ = some (.int .i64 (r z.toNat)) := fun v => (hc0 v _).trans (reg_at r a false hz0 hz1)
  have q0 : ∀ v : Up _, v.x.cell? ⟨w.heap.size, 0, none⟩ = some (.int .i64 (r 0)) := fun v => hc0 v 0
  have q1 : ∀ v : Up _, v.x.cell? ⟨w.heap.size, 1, none⟩ = some (.int .i64 (r 1)) := fun v => hc0 v 1
  have q2 : ∀ v : Up _, v.x.cell? ⟨w.heap.size, 2, none⟩ = some (.int .i64 (r 2)) := fun v => hc0 v 2
  have q3 : ∀ v : Up _, v.x.cell? ⟨w.heap.size, 3, none⟩ = some (.int .i64 (r 3)) := fun v => hc0 v 3
  have q4 : ∀ v : Up _, v.x.cell? ⟨w.heap.size, 4, none⟩ = some (.int .i64 (r 4)) := fun v => hc0 v 4
  have q5 : ∀ v : Up _, v.x.cell? ⟨w.heap.size, 5, none⟩ = some (.int .i64 (r 5)) := fun v => hc0 v 5
  have q6 : ∀ v : Up _, v.x.cell? ⟨w.heap.size, 6, none⟩ = some (.int .i64 (r 6)) := fun v => hc0 v 6
  have q7 : ∀ v : Up _, v.x.cell? ⟨w.heap.size, 7, none⟩ = some (.int .i64 (r 7)) := fun v => hc0 v 7
  have q8 : ∀ v : Up _, v.x.cell? ⟨w.heap.size, 8, none⟩ = some (.int .i64 a) := fun v => hc0 v 8
  have q9 : ∀ v : Up _, v.x.cell? ⟨w.heap.size, 9, none⟩ = some (.bool false) := fun v => hc0 v 9
  clear hc0
  go_wp2_with (go_at_call 20; refine (up_call (c_IsPlain ⟨r, a, false⟩ _)).mono ?_; rintro e w1 ⟨rfl, u2, rfl⟩)
  refine region_up_at (by kernel_rfl) (by kernel_rfl) ?_
  repeat (go_big_quiet_step (fail))
  refine wpQuiet_nil ?_
  intro _ hw'
  obtain ⟨u3, hw''⟩ := hw'
  subst hw''
  go_wp2_with (fail)
  refine bodyPost_ret (v := .tuple #[pv ⟨r, a, false⟩, .int .i64 3]) (by simp [results, Try.results29, go_sem, q0, q1, q2, q3, q4, q5, q6, q7, q8, q9, hc1, hc2]) rfl ?_
  exact ⟨rfl, by go_grown; exact hbl _⟩

set_option maxHeartbeats 1000000 in
theorem c_AloneOf_other11 (r : Nat → Int) (a x y z n : Int) (w : World) (h1 : goodI ⟨11, x, y, z, n⟩ = true) (h2 : goodP ⟨r, a, false⟩ = true) :
    Calls Try.prog 29 #[pv ⟨r, a, false⟩, iv ⟨11, x, y, z, n⟩] w fun e w' => e = .returned (.tuple #[pv ⟨r, a, false⟩, .int .i64 3]) ∧ Below w.heap.size w w' := by
  obtain ⟨hx0, hx1, hy0, hy1, hz0, hz1⟩ := regs_of h1
  go_enter Try.func29, Try.ntmps29
  go_wp2_with fail
  refine (c_IsInstr ⟨11, x, y, z, n⟩ _).mono ?_
  rintro e w1 ⟨rfl, hb⟩
  obtain ⟨u, rfl⟩ := to_up hb
  obtain ⟨hne, hc0, hf0, hs0, hc1, hf1, hs1, hc2, hf2, hs2, hbl⟩ := u.f3
  clear hb
  have rx : ∀ v : Up _, v.x.cell? ⟨w.heap.size, x.toNat, none⟩ = some (.int .i64 (r x.toNat)) := fun v => (hc0 v _).trans (reg_at r a false hx0 hx1)
  have ry : ∀ v : Up _, v.x.cell? ⟨w.heap.size, y.toNat, none⟩ = some (.int .i64 (r y.toNat)) := fun v => (hc0 v _).trans (reg_at r a false hy0 hy1)
  have rz : ∀ v : Up _, v.x.cell? ⟨w.heap.size, z.toNat, none⟩ = some (.int .i64 (r z.toNat)) := fun v => (hc0 v _).trans (reg_at r a false hz0 hz1)
  have q0 : ∀ v : Up _, v.x.cell? ⟨w.heap.size, 0, none⟩ = some (.int .i64 (r 0)) := fun v => hc0 v 0
  have q1 : ∀ v : Up _, v.x.cell? ⟨w.heap.size, 1, none⟩ = some (.int .i64 (r 1)) := fun v => hc0 v 1
  have q2 : ∀ v : Up _, v.x.cell? ⟨w.heap.size, 2, none⟩ = some (.int .i64 (r 2)) := fun v => hc0 v 2
  have q3 : ∀ v : Up _, v.x.cell? ⟨w.heap.size, 3, none⟩ = some (.int .i64 (r 3)) := fun v => hc0 v 3
  have q4 : ∀ v : Up _, v.x.cell? ⟨w.heap.size, 4, none⟩ = some (.int .i64 (r 4)) := fun v => hc0 v 4
  have q5 : ∀ v : Up _, v.x.cell? ⟨w.heap.size, 5, none⟩ = some (.int .i64 (r 5)) := fun v => hc0 v 5
  have q6 : ∀ v : Up _, v.x.cell? ⟨w.heap.size, 6, none⟩ = some (.int .i64 (r 6)) := fun v => hc0 v 6
  have q7 : ∀ v : Up _, v.x.cell? ⟨w.heap.size, 7, none⟩ = some (.int .i64 (r 7)) := fun v => hc0 v 7
  have q8 : ∀ v : Up _, v.x.cell? ⟨w.heap.size, 8, none⟩ = some (.int .i64 a) := fun v => hc0 v 8
  have q9 : ∀ v : Up _, v.x.cell? ⟨w.heap.size, 9, none⟩ = some (.bool false) := fun v => hc0 v 9
  clear hc0
  go_wp2_with (go_at_call 20; refine (up_call (c_IsPlain ⟨r, a, false⟩ _)).mono ?_; rintro e w1 ⟨rfl, u2, rfl⟩)
  refine region_up_at (by kernel_rfl) (by kernel_rfl) ?_
  repeat (go_big_quiet_step (fail))
  refine wpQuiet_nil ?_
  intro _ hw'
  obtain ⟨u3, hw''⟩ := hw'
  subst hw''
  go_wp2_with (fail)
  refine bodyPost_ret (v := .tuple #[pv ⟨r, a, false⟩, .int .i64 3]) (by simp [results, Try.results29, go_sem, q0, q1, q2, q3, q4, q5, q6, q7, q8, q9, hc1, hc2]) rfl ?_
  exact ⟨rfl, by go_grown; exact hbl _⟩

end Go.Proofs.Ytjbbgpacijageaa
