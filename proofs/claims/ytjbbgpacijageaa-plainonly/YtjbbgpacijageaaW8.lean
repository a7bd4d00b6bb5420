/- Alone, whole; does. -/
import Derived.Test.YtjbbgpacijageaaW7
namespace Go.Proofs.Ytjbbgpacijageaa
open Go.RowKit
set_option linter.unusedSimpArgs false
set_option linter.unusedVariables false
attribute [local go_sem ↓] eql_plain eql_instr

theorem ops_of {op x y z n : Int} (h : goodI ⟨op, x, y, z, n⟩ = true) : op = 1 ∨ op = 2 ∨ op = 3 ∨ op = 4 ∨ op = 5 ∨ op = 6 ∨ op = 7 ∨ op = 8 ∨ op = 9 ∨ op = 10 ∨ op = 11 ∨ op = 12 := by
  simp only [goodI, Bool.and_eq_true, decide_eq_true_iff] at h
  omega

theorem c_Alone (p : Pl) (i : In) (q : Pl) (e : Int) (h : alone p i = (q, e)) (w : World) :
    Calls Try.prog 28 #[pv p, iv i] w fun x w' => x = .returned (.tuple #[pv q, .int .i64 e]) ∧ Below w.heap.size w w' := by
  cases h1 : goodI i
  · have : alone p i = (p, 1) := by simp [alone, h1]
    rw [this] at h; cases h
    exact c_Alone_bad1 p i w h1
  · cases h2 : goodP p
    · have : alone p i = (p, 1) := by simp [alone, h1, h2]
      rw [this] at h; cases h
      exact c_Alone_bad2 p i w h1 h2
    · obtain ⟨r, a, o⟩ := p
      obtain ⟨op, x, y, z, n⟩ := i
      cases o
      · rcases ops_of h1 with rfl | rfl | rfl | rfl | rfl | rfl | rfl | rfl | rfl | rfl | rfl | rfl
        · have : alone ⟨r, a, false⟩ ⟨1, x, y, z, n⟩ = (next (put ⟨r, a, false⟩ x n), 0) := by simp [alone, h1, h2]
          rw [this] at h; cases h
          exact c_Alone_set r a x y z n w h1 h2
        · have : alone ⟨r, a, false⟩ ⟨2, x, y, z, n⟩ = (next (put ⟨r, a, false⟩ x (get ⟨r, a, false⟩ y + get ⟨r, a, false⟩ z)), 0) := by simp [alone, h1, h2]
          rw [this] at h; cases h
          exact c_Alone_add r a x y z n w h1 h2
        · have : alone ⟨r, a, false⟩ ⟨3, x, y, z, n⟩ = (next (put ⟨r, a, false⟩ x (get ⟨r, a, false⟩ y - get ⟨r, a, false⟩ z)), 0) := by simp [alone, h1, h2]
          rw [this] at h; cases h
          exact c_Alone_sub r a x y z n w h1 h2
        · have : alone ⟨r, a, false⟩ ⟨4, x, y, z, n⟩ = (next (put ⟨r, a, false⟩ x (if get ⟨r, a, false⟩ y < get ⟨r, a, false⟩ z then 1 else 0)), 0) := by simp [alone, h1, h2]
          rw [this] at h; cases h
          exact c_Alone_less r a x y z n w h1 h2
        · have : alone ⟨r, a, false⟩ ⟨5, x, y, z, n⟩ = (⟨r, a, false⟩, 3) := by simp [alone, h1, h2]
          rw [this] at h; cases h
          exact c_Alone_other5 r a x y z n w h1 h2
        · have : alone ⟨r, a, false⟩ ⟨6, x, y, z, n⟩ = (⟨r, a, false⟩, 3) := by simp [alone, h1, h2]
          rw [this] at h; cases h
          exact c_Alone_other6 r a x y z n w h1 h2
        · have : alone ⟨r, a, false⟩ ⟨7, x, y, z, n⟩ = (⟨r, a, false⟩, 3) := by simp [alone, h1, h2]
          rw [this] at h; cases h
          exact c_Alone_other7 r a x y z n w h1 h2
        · have : alone ⟨r, a, false⟩ ⟨8, x, y, z, n⟩ = (jump ⟨r, a, false⟩ ⟨8, x, y, z, n⟩, 0) := by simp [alone, h1, h2]
          rw [this] at h; cases h
          exact c_Alone_jump r a x y z n w h1 h2
        · have : alone ⟨r, a, false⟩ ⟨9, x, y, z, n⟩ = (⟨r, a, false⟩, 3) := by simp [alone, h1, h2]
          rw [this] at h; cases h
          exact c_Alone_other9 r a x y z n w h1 h2
        · have : alone ⟨r, a, false⟩ ⟨10, x, y, z, n⟩ = (⟨r, a, false⟩, 3) := by simp [alone, h1, h2]
          rw [this] at h; cases h
          exact c_Alone_other10 r a x y z n w h1 h2
        · have : alone ⟨r, a, false⟩ ⟨11, x, y, z, n⟩ = (⟨r, a, false⟩, 3) := by simp [alone, h1, h2]
          rw [this] at h; cases h
          exact c_Alone_other11 r a x y z n w h1 h2
        · have : alone ⟨r, a, false⟩ ⟨12, x, y, z, n⟩ = (⟨r, a, true⟩, 0) := by simp [alone, h1, h2]
          rw [this] at h; cases h
          exact c_Alone_halt r a x y z n w h1 h2
      · have : alone ⟨r, a, true⟩ ⟨op, x, y, z, n⟩ = (⟨r, a, true⟩, 4) := by simp [alone, h1, h2]
        rw [this] at h; cases h
        exact c_Alone_off r a ⟨op, x, y, z, n⟩ w h1 h2

set_option maxHeartbeats 1000000 in
theorem c_does_keep (w : World) :
    Calls Try.prog 30 #[] w fun e w' => e = .returned (.bool true) ∧ Below w.heap.size w w' := by
  have ha : alone ⟨fun _ => 0, 0, false⟩ ⟨1, 2, 0, 0, 9⟩ = (⟨fun k => if k = 2 then 9 else 0, 1, false⟩, 0) := by
    simp [alone, goodI, goodP, isR, isW, next, put, wd]
  go_enter Try.func30, Try.ntmps30
  go_wp2_with fail
  refine (c_Alone ⟨fun _ => 0, 0, false⟩ ⟨1, 2, 0, 0, 9⟩ _ _ ha _).mono ?_
  rintro e w1 ⟨rfl, hb⟩
  go_wp2
  go_ret
  exact ⟨rfl, by go_grown; exact hb.size⟩

set_option maxHeartbeats 1000000 in
theorem c_does_law (w : World) :
    Calls Try.prog 27 #[] w fun e w' => e = .returned (.bool true) ∧ Below w.heap.size w w' := by
  have ha : alone ⟨fun _ => 0, 0, false⟩ ⟨1, 2, 0, 0, 9⟩ = (⟨fun k => if k = 2 then 9 else 0, 1, false⟩, 0) := by
    simp [alone, goodI, goodP, isR, isW, next, put, wd]
  go_enter Try.func27, Try.ntmps27
  go_wp2_with fail
  refine (c_Alone ⟨fun _ => 0, 0, false⟩ ⟨1, 2, 0, 0, 9⟩ _ _ ha _).mono ?_
  rintro e w1 ⟨rfl, hb⟩
  go_wp2
  go_ret
  exact ⟨rfl, by go_grown; exact hb.size⟩

end Go.Proofs.Ytjbbgpacijageaa
