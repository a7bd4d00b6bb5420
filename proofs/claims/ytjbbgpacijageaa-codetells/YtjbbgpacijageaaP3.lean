/- AloneOf, whole; the statement CodeAlone, walked. -/
import Derived.Test.YtjbbgpacijageaaV1
import Derived.Test.YtjbbgpacijageaaP2
namespace Go.Proofs.Ytjbbgpacijageaa
open Go.RowKit
set_option linter.unusedSimpArgs false
set_option linter.unusedVariables false
attribute [local go_sem ↓] eql_plain eql_instr

theorem c_AloneOf (p : Pl) (i : In) (q : Pl) (e : Int) (h : alone p i = (q, e)) (w : World) :
    Calls Try.prog 29 #[pv p, iv i] w fun x w' => x = .returned (.tuple #[pv q, .int .i64 e]) ∧ Below w.heap.size w w' := by
  cases h1 : goodI i
  · have : alone p i = (p, 1) := by simp [alone, h1]
    rw [this] at h; cases h
    exact c_AloneOf_bad1 p i w h1
  · cases h2 : goodP p
    · have : alone p i = (p, 1) := by simp [alone, h1, h2]
      rw [this] at h; cases h
      exact c_AloneOf_bad2 p i w h1 h2
    · obtain ⟨r, a, o⟩ := p
      obtain ⟨op, x, y, z, n⟩ := i
      cases o
      · obtain ⟨hx0, hx1, hy0, hy1, hz0, hz1⟩ := regs_of h1
        have gx : get ⟨r, a, false⟩ x = r x.toNat := get_of hx0 hx1
        have gy : get ⟨r, a, false⟩ y = r y.toNat := get_of hy0 hy1
        have gz : get ⟨r, a, false⟩ z = r z.toNat := get_of hz0 hz1
        rcases ops_of h1 with rfl | rfl | rfl | rfl | rfl | rfl | rfl | rfl | rfl | rfl | rfl | rfl
        · have : alone ⟨r, a, false⟩ ⟨1, x, y, z, n⟩ = (next (put ⟨r, a, false⟩ x n), 0) := by simp [alone, h1, h2, gy, gz]
          rw [this] at h; cases h
          exact c_AloneOf_set r a x y z n w h1 h2
        · have : alone ⟨r, a, false⟩ ⟨2, x, y, z, n⟩ = (next (put ⟨r, a, false⟩ x (r y.toNat + r z.toNat)), 0) := by simp [alone, h1, h2, gy, gz]
          rw [this] at h; cases h
          exact c_AloneOf_add r a x y z n w h1 h2
        · have : alone ⟨r, a, false⟩ ⟨3, x, y, z, n⟩ = (next (put ⟨r, a, false⟩ x (r y.toNat - r z.toNat)), 0) := by simp [alone, h1, h2, gy, gz]
          rw [this] at h; cases h
          exact c_AloneOf_sub r a x y z n w h1 h2
        · by_cases h3 : r y.toNat < r z.toNat
          · have : alone ⟨r, a, false⟩ ⟨4, x, y, z, n⟩ = (next (put ⟨r, a, false⟩ x 1), 0) := by simp [alone, h1, h2, gy, gz, h3]
            rw [this] at h; cases h
            exact c_AloneOf_less1 r a x y z n w h1 h2 h3
          · have : alone ⟨r, a, false⟩ ⟨4, x, y, z, n⟩ = (next (put ⟨r, a, false⟩ x 0), 0) := by simp [alone, h1, h2, gy, gz, h3]
            rw [this] at h; cases h
            exact c_AloneOf_less0 r a x y z n w h1 h2 h3
        · have : alone ⟨r, a, false⟩ ⟨5, x, y, z, n⟩ = (⟨r, a, false⟩, 3) := by simp [alone, h1, h2, gy, gz]
          rw [this] at h; cases h
          exact c_AloneOf_other5 r a x y z n w h1 h2
        · have : alone ⟨r, a, false⟩ ⟨6, x, y, z, n⟩ = (⟨r, a, false⟩, 3) := by simp [alone, h1, h2, gy, gz]
          rw [this] at h; cases h
          exact c_AloneOf_other6 r a x y z n w h1 h2
        · have : alone ⟨r, a, false⟩ ⟨7, x, y, z, n⟩ = (⟨r, a, false⟩, 3) := by simp [alone, h1, h2, gy, gz]
          rw [this] at h; cases h
          exact c_AloneOf_other7 r a x y z n w h1 h2
        · by_cases h3 : r x.toNat = 0
          · have : alone ⟨r, a, false⟩ ⟨8, x, y, z, n⟩ = (⟨r, n, false⟩, 0) := by simp [alone, h1, h2, jump, gx, h3]
            rw [this] at h; cases h
            exact c_AloneOf_jump1 r a x y z n w h1 h2 (by simp [h3])
          · have : alone ⟨r, a, false⟩ ⟨8, x, y, z, n⟩ = (next ⟨r, a, false⟩, 0) := by simp [alone, h1, h2, jump, gx, h3]
            rw [this] at h; cases h
            exact c_AloneOf_jump0 r a x y z n w h1 h2 (by simp [h3])
        · have : alone ⟨r, a, false⟩ ⟨9, x, y, z, n⟩ = (⟨r, a, false⟩, 3) := by simp [alone, h1, h2, gy, gz]
          rw [this] at h; cases h
          exact c_AloneOf_other9 r a x y z n w h1 h2
        · have : alone ⟨r, a, false⟩ ⟨10, x, y, z, n⟩ = (⟨r, a, false⟩, 3) := by simp [alone, h1, h2, gy, gz]
          rw [this] at h; cases h
          exact c_AloneOf_other10 r a x y z n w h1 h2
        · have : alone ⟨r, a, false⟩ ⟨11, x, y, z, n⟩ = (⟨r, a, false⟩, 3) := by simp [alone, h1, h2, gy, gz]
          rw [this] at h; cases h
          exact c_AloneOf_other11 r a x y z n w h1 h2
        · have : alone ⟨r, a, false⟩ ⟨12, x, y, z, n⟩ = (⟨r, a, true⟩, 0) := by simp [alone, h1, h2, gy, gz]
          rw [this] at h; cases h
          exact c_AloneOf_halt r a x y z n w h1 h2
      · have : alone ⟨r, a, true⟩ ⟨op, x, y, z, n⟩ = (⟨r, a, true⟩, 4) := by simp [alone, h1, h2]
        rw [this] at h; cases h
        exact c_AloneOf_off r a ⟨op, x, y, z, n⟩ w h1 h2

set_option maxHeartbeats 1000000 in
theorem w_CodeAlone (p : Pl) (i : In) (w : World) :
    Calls Try.prog 4 #[pv p, iv i] w fun x w' => x = .returned (.bool true) ∧ Below w.heap.size w w' := by
  obtain ⟨q, e, h⟩ : ∃ q e, alone p i = (q, e) := ⟨_, _, rfl⟩
  have HA : Hid (alone p i = (q, e)) := h
  clear h
  go_enter Try.func4, Try.ntmps4
  go_wp2_with fail
  refine (c_Alone p i q e HA.out _).mono ?_
  rintro x w1 ⟨rfl, hb⟩
  obtain ⟨u, rfl⟩ := to_up hb
  obtain ⟨hne, hc0, hf0, hs0, hc1, hf1, hs1, hbl⟩ := u.f2
  have t0 := hs0 u
  have t1 := hs1 u
  have hB := (hbl u)
  clear hb
  go_wp2_with fail
  refine (c_AloneOf p i q e HA.out _).mono ?_
  rintro x w1 ⟨rfl, hb⟩
  obtain ⟨u2, rfl⟩ := to_up hb
  have k0 := up_keep u2 t0 (hc0 u)
  have k1 := up_keep u2 t1 (hc1 u)
  have k2 := up_new u2
  have s2 : u.x.heap.size < u2.x.heap.size := by have := u2.h.size; rw [size_alloc'] at this; omega
  have hB2 := up_below ((hbl u).alloc (by omega) _) u2
  clear hb
  go_wp2_with (go_at_call 27; refine (c_does_law _).mono ?_; rintro x w1 ⟨rfl, hb⟩)
  go_ret
  refine ⟨rfl, below_trans ?_ (by assumption)⟩
  exact hB2.alloc (by omega) _

end Go.Proofs.Ytjbbgpacijageaa
