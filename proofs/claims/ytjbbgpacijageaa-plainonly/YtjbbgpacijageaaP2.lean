/- What an instruction alone leaves of a core: the statement CodeKeeps, walked. -/
import Derived.Test.YtjbbgpacijageaaP1
namespace Go.Proofs.Ytjbbgpacijageaa
open Go.RowKit
set_option linter.unusedSimpArgs false
set_option linter.unusedVariables false
attribute [local go_sem ↓] eql_plain eql_instr

theorem alone_err (p : Pl) (i : In) (q : Pl) (e : Int) (h : alone p i = (q, e)) (he : e ≠ 0) : q = p := by
  unfold alone at h
  repeat' (split at h)
  all_goals (simp only [Prod.mk.injEq] at h; obtain ⟨h1, h2⟩ := h)
  all_goals (first | exact h1.symm | (exfalso; omega))

theorem goodP_put (p : Pl) (r n : Int) (h : goodP p = true) : goodP (put p r n) = true := by
  unfold put
  split
  · rename_i hr
    rw [isR_iff] at hr
    have h1 := isW_wd n
    simp only [goodP, Bool.and_eq_true] at h ⊢
    obtain ⟨⟨⟨⟨⟨⟨⟨⟨a0, a1⟩, a2⟩, a3⟩, a4⟩, a5⟩, a6⟩, a7⟩, a8⟩ := h
    have : ¬ (0 = r.toNat) := by omega
    refine ⟨⟨⟨⟨⟨⟨⟨⟨?_, ?_⟩, ?_⟩, ?_⟩, ?_⟩, ?_⟩, ?_⟩, ?_⟩, a8⟩
    · simp [this]; simpa using a0
    all_goals (split <;> assumption)
  · exact h

theorem goodP_next (p : Pl) (h : goodP p = true) : goodP (next p) = true := by
  simp only [goodP, Bool.and_eq_true, next] at h ⊢
  exact ⟨h.1, isW_wd _⟩

theorem goodP_at (p : Pl) (n : Int) (h : goodP p = true) (hn : isW n = true) : goodP { p with a := n } = true := by
  simp only [goodP, Bool.and_eq_true] at h ⊢
  exact ⟨h.1, hn⟩

theorem get_next (p : Pl) (r : Int) : get (next p) r = get p r := rfl

theorem get_put_ne (p : Pl) (r s n : Int) (h : s ≠ r) : get (put p r n) s = get p s := get_put_other p r s n (by omega)

theorem get_zero (p : Pl) (h : goodP p = true) : get p 0 = 0 := by
  simp only [goodP, Bool.and_eq_true] at h
  have : p.r 0 = 0 := by simpa using h.1.1.1.1.1.1.1.1
  simp [get, isR, this]

/-- It stays good, and no register but A is other than it was. -/
theorem alone_ok (p : Pl) (i : In) (q : Pl) (h : alone p i = (q, 0)) (r : Int) : goodP q = true ∧ (r = i.a ∨ get q r = get p r) ∧ get q 0 = 0 := by
  have key : goodP q = true ∧ (r ≠ i.a → get q r = get p r) := by
    unfold alone at h
    split at h
    · simp at h
    · rename_i hg
      have hg1 : goodI i = true := by cases h' : goodI i <;> simp_all
      have hg2 : goodP p = true := by cases h' : goodP p <;> simp_all
      have hn : isW i.n = true := by simp only [goodI, Bool.and_eq_true] at hg1; exact hg1.2
      split at h
      · simp at h
      · split at h
        · cases h; exact ⟨goodP_next _ (goodP_put _ _ _ hg2), fun hr => by rw [get_next, get_put_ne _ _ _ _ hr]⟩
        · split at h
          · cases h; exact ⟨goodP_next _ (goodP_put _ _ _ hg2), fun hr => by rw [get_next, get_put_ne _ _ _ _ hr]⟩
          · split at h
            · cases h; exact ⟨goodP_next _ (goodP_put _ _ _ hg2), fun hr => by rw [get_next, get_put_ne _ _ _ _ hr]⟩
            · split at h
              · cases h; exact ⟨goodP_next _ (goodP_put _ _ _ hg2), fun hr => by rw [get_next, get_put_ne _ _ _ _ hr]⟩
              · split at h
                · cases h
                  unfold jump
                  split
                  · exact ⟨goodP_next _ hg2, fun hr => rfl⟩
                  · exact ⟨goodP_at _ _ hg2 hn, fun hr => rfl⟩
                · split at h
                  · cases h; exact ⟨hg2, fun hr => rfl⟩
                  · simp at h
  refine ⟨key.1, ?_, get_zero q key.1⟩
  by_cases hr : r = i.a
  · exact Or.inl hr
  · exact Or.inr (key.2 hr)

set_option maxHeartbeats 1000000 in
theorem w_CodeKeeps_err (p : Pl) (i : In) (r e : Int) (w : World) (h : alone p i = (p, e)) (he : e ≠ 0) :
    Calls Try.prog 5 #[pv p, iv i, .int .i64 r] w fun x w' => x = .returned (.bool true) ∧ Below w.heap.size w w' := by
  have he' : (e != 0) = true := by simp [he]
  have HA : Hid (alone p i = (p, e)) := h
  clear h
  go_enter Try.func5, Try.ntmps5
  go_wp2_with fail
  refine (c_Alone p i p e HA.out _).mono ?_
  rintro x w1 ⟨rfl, hb⟩
  obtain ⟨u, rfl⟩ := to_up hb
  obtain ⟨hne, hc0, hf0, hs0, hc1, hf1, hs1, hbl⟩ := u.f2
  have t0 := hs0 u
  have t1 := hs1 u
  clear hb
  go_wp2_with (go_at_call 30; refine (c_does_keep _).mono ?_; rintro x w1 ⟨rfl, hb⟩)
  go_ret
  refine ⟨rfl, below_trans ?_ (by assumption)⟩
  exact (hbl u).alloc (by omega) _

theorem up_keep {W : World} {ob : Obj} (_ : Up (W.alloc ob)) {b : Nat} {A : Array Value} (hb : b < W.heap.size) (h : ∀ j, W.cell? ⟨b, j, none⟩ = A[j]?) :
    ∀ (v : Up (W.alloc ob)) (j : Nat), v.x.cell? ⟨b, j, none⟩ = A[j]? := fun v j =>
  (v.cell b j (by rw [size_alloc']; omega)).trans ((World.cell?_alloc_lt _ _ _ hb).trans (h j))
theorem up_new {W : World} {A : Array Value} {t : TypeId} (_ : Up (W.alloc (.cells A t))) :
    ∀ (v : Up (W.alloc (.cells A t))) (j : Nat), v.x.cell? ⟨W.heap.size, j, none⟩ = A[j]? := fun v j =>
  (v.cell W.heap.size j (by rw [size_alloc']; omega)).trans (World.cell?_alloc_new _ _ _ _)

set_option maxHeartbeats 1000000 in
theorem w_CodeKeeps_a (p : Pl) (i : In) (q : Pl) (r : Int) (w : World) (h : alone p i = (q, 0)) (hr : r = i.a) :
    Calls Try.prog 5 #[pv p, iv i, .int .i64 r] w fun x w' => x = .returned (.bool true) ∧ Below w.heap.size w w' := by
  obtain ⟨h1, h2, h3⟩ := alone_ok p i q h r
  have h3' : (get q 0 == 0) = true := by simp [h3]
  have hr' : (r == i.a) = true := by simp [hr]
  have HA : Hid (alone p i = (q, 0)) := h
  clear h h2 h3 hr
  go_enter Try.func5, Try.ntmps5
  go_wp2_with fail
  refine (c_Alone p i q 0 HA.out _).mono ?_
  rintro x w1 ⟨rfl, hb⟩
  obtain ⟨u, rfl⟩ := to_up hb
  obtain ⟨hne, hc0, hf0, hs0, hc1, hf1, hs1, hbl⟩ := u.f2
  have t0 := hs0 u
  have t1 := hs1 u
  clear hb
  go_wp2_with fail
  refine (c_does_keep _).mono ?_
  rintro x w1 ⟨rfl, hb⟩
  obtain ⟨u2, rfl⟩ := to_up hb
  have k0 := up_keep u2 t0 (hc0 u)
  have k1 := up_keep u2 t1 (hc1 u)
  have k2 := up_new u2
  have hne2 := up_here (u.x.alloc (.cells #[.int .i64 (q.r 0), .int .i64 (q.r 1), .int .i64 (q.r 2), .int .i64 (q.r 3), .int .i64 (q.r 4), .int .i64 (q.r 5), .int .i64 (q.r 6), .int .i64 (q.r 7), .int .i64 q.a, .bool q.o] 25))
  have hB := up_below ((hbl u).alloc (by omega) _) u2
  clear hb
  go_wp2_with fail
  refine region_up_at (by kernel_rfl) (by kernel_rfl) ?_
  repeat (go_big_quiet_step (first | (go_at_call 19; exact up_call (by have := c_GoodPlain q; rw [h1] at this; exact this _)) | (go_at_call_of 23 (q.r 0); exact up_call (c_Get q _ _))))
  refine wpQuiet_nil ?_
  intro _ hw'
  obtain ⟨u3, hw''⟩ := hw'
  subst hw''
  go_wp2
  go_ret
  exact ⟨rfl, up_below ((hbl u).alloc (by omega) _) u3⟩

set_option maxHeartbeats 1000000 in
theorem w_CodeKeeps_b (p : Pl) (i : In) (q : Pl) (r : Int) (w : World) (h : alone p i = (q, 0)) (hr : r ≠ i.a) :
    Calls Try.prog 5 #[pv p, iv i, .int .i64 r] w fun x w' => x = .returned (.bool true) ∧ Below w.heap.size w w' := by
  obtain ⟨h1, h2, h3⟩ := alone_ok p i q h r
  have h3' : (get q 0 == 0) = true := by simp [h3]
  have hr' : (r == i.a) = false := by simp [hr]
  have hg' : (get q r == get p r) = true := by rcases h2 with h2 | h2; exact absurd h2 hr; simp [h2]
  have HA : Hid (alone p i = (q, 0)) := h
  clear h h2 h3 hr
  go_enter Try.func5, Try.ntmps5
  go_wp2_with fail
  refine (c_Alone p i q 0 HA.out _).mono ?_
  rintro x w1 ⟨rfl, hb⟩
  obtain ⟨u, rfl⟩ := to_up hb
  obtain ⟨hne, hc0, hf0, hs0, hc1, hf1, hs1, hbl⟩ := u.f2
  have t0 := hs0 u
  have t1 := hs1 u
  clear hb
  go_wp2_with fail
  refine (c_does_keep _).mono ?_
  rintro x w1 ⟨rfl, hb⟩
  obtain ⟨u2, rfl⟩ := to_up hb
  have k0 := up_keep u2 t0 (hc0 u)
  have k1 := up_keep u2 t1 (hc1 u)
  have k2 := up_new u2
  have hne2 := up_here (u.x.alloc (.cells #[.int .i64 (q.r 0), .int .i64 (q.r 1), .int .i64 (q.r 2), .int .i64 (q.r 3), .int .i64 (q.r 4), .int .i64 (q.r 5), .int .i64 (q.r 6), .int .i64 (q.r 7), .int .i64 q.a, .bool q.o] 25))
  have hB := up_below ((hbl u).alloc (by omega) _) u2
  clear hb
  go_wp2_with fail
  refine region_up_at (by kernel_rfl) (by kernel_rfl) ?_
  repeat (go_big_quiet_step (first | (go_at_call 19; exact up_call (by have := c_GoodPlain q; rw [h1] at this; exact this _)) | (go_at_call_of 23 (q.r 0); exact up_call (c_Get q _ _)) | (go_at_call 23; exact up_call (c_Get p _ _))))
  refine wpQuiet_nil ?_
  intro _ hw'
  obtain ⟨u3, hw''⟩ := hw'
  subst hw''
  go_wp2
  go_ret
  exact ⟨rfl, up_below ((hbl u).alloc (by omega) _) u3⟩

theorem w_CodeKeeps (p : Pl) (i : In) (r : Int) (w : World) :
    Calls Try.prog 5 #[pv p, iv i, .int .i64 r] w fun x w' => x = .returned (.bool true) ∧ Below w.heap.size w w' := by
  obtain ⟨q, e, h⟩ : ∃ q e, alone p i = (q, e) := ⟨_, _, rfl⟩
  by_cases he : e = 0
  · subst he
    by_cases hr : r = i.a
    · exact w_CodeKeeps_a p i q r w h hr
    · exact w_CodeKeeps_b p i q r w h hr
  · have := alone_err p i q e h he
    subst this
    exact w_CodeKeeps_err q i r e w h he

end Go.Proofs.Ytjbbgpacijageaa
