/- All of package plain. -/
import Derived.Test.YtjbbgpacijageaaY2
namespace Go.Proofs.Ytjbbgpacijageaa
open Go.RowKit
set_option linter.unusedVariables false
set_option linter.unusedSimpArgs false

/-- So many instructions of a transaction that has begun, to its end. -/
def runF (l : List In) : Nat → Pl → (Nat → Int) → Int → Option (Pl × (Nat → Int))
  | 0, p, m, _ => some (p, m)
  | k + 1, p, m, d => if (insF p m (fetch l p) d).2.2.2 = false ∨ decide ((insF p m (fetch l p) d).2.2.1 > 0) = decide (k = 0) then none else runF l k (insF p m (fetch l p) d).1 (insF p m (fetch l p) d).2.1 (insF p m (fetch l p) d).2.2.1

theorem runF_succ (l : List In) (k : Nat) (p : Pl) (m : Nat → Int) (d : Int) : runF l (k + 1) p m d = if (insF p m (fetch l p) d).2.2.2 = false ∨ decide ((insF p m (fetch l p) d).2.2.1 > 0) = decide (k = 0) then none else runF l k (insF p m (fetch l p) d).1 (insF p m (fetch l p) d).2.1 (insF p m (fetch l p) d).2.2.1 := rfl

/-- All: the core, the memory, the error. -/
def allF (l : List In) (p : Pl) (m : Nat → Int) (count : Int) : Pl × (Nat → Int) × Int :=
  if rdy p m ≠ 0 then (p, m, rdy p m) else if count < 2 ∨ 400 < count then (p, m, 2) else
  match runF l count.toNat p m 0 with | none => (p, m, 3) | some r => (r.1, r.2, 0)

theorem hand_eqb {ρ : Operand → Value} {x : World} {d : Option Tmp} {a b : Operand} {ty u : TypeId} {pos : String} {after : Array Edge} {g : Option (Nat × Bool)} {s t : Bool} (ha : ρ a = .bool s) (hb : ρ b = .bool t) :
    (execOp ρ ⟨d, .binOp .eql 4 a b u, ty, pos, after, g⟩).run Try.prog x = .ok (.value (.bool (s == t))) x := by
  unfold execOp
  simp [ha, hb, go_sem]

theorem insF_d {p : Pl} {m : Nat → Int} {i : In} {d : Int} : (insF p m i d).2.2.1 = d ∨ (insF p m i d).2.2.1 = d - 1 ∨ ((insF p m i d).2.2.1 = d + 1 ∧ (insF p m i d).2.2.2 = decide (d < 3)) := by
  unfold insF
  split
  · exact Or.inr (Or.inr ⟨rfl, rfl⟩)
  · split
    · exact Or.inr (Or.inl rfl)
    · split <;> exact Or.inl rfl

set_option maxHeartbeats 4000000 in
theorem c_All (v : Value) (l : List In) (p : Pl) (m : Nat → Int) (count : Int) (w : World) (hl : Lst w v l) :
    Calls Try.prog 36 #[v, .agg (pc p), .agg (mc m), .int .i64 count] w fun e w' => e = .returned (.tuple #[.agg (pc (allF l p m count).1), .agg (mc (allF l p m count).2.1), .int .i64 (allF l p m count).2.2]) ∧ Below w.heap.size w w' := by
  refine sym_calls tabOk Try.func36 rfl [.v v, .a [.pl p], .a [.mem m], .v (.int .i64 count)] w _ (Nat.le_of_ble_eq_true rfl) ?_
  refine Exists.intro (.l (.v (.int .i64 (rdy p m)))) (Exists.intro _ (And.intro (fun _ _ => And.intro rfl trivial) (And.intro (fun A x hx => c_readyAt p m x) ?_)))
  refine And.intro (fun h1 => ?_) (fun h1 => ?_)
  · have h2 : rdy p m ≠ 0 := by have : (rdy p m != 0) = true := h1; simpa using this
    rw [show allF l p m count = (p, m, rdy p m) from by unfold allF; rw [if_pos h2]]
    refine Exists.intro [(2, 3), (3, 4)] (Exists.intro [] (And.intro (by kernel_rfl) ?_))
    exact rfl
  have h2 : ¬ rdy p m ≠ 0 := by have : (rdy p m != 0) = false := h1; simpa using this
  have range : count < 2 ∨ 400 < count → allF l p m count = (p, m, 2) := fun h => by unfold allF; rw [if_neg h2, if_pos h]
  have main : ¬ (count < 2 ∨ 400 < count) → allF l p m count = (match runF l count.toNat p m 0 with | none => (p, m, 3) | some r => (r.1, r.2, 0)) := fun h => by unfold allF; rw [if_neg h2, if_neg h]
  refine And.intro (fun h3 => ?_) (fun h3 => ?_)
  · have h4 : count < 2 := by have : decide (count < 2) = true := h3; simpa using this
    rw [range (Or.inl h4)]
    refine Exists.intro [(2, 2), (3, 3)] (Exists.intro [] (And.intro (by kernel_rfl) ?_))
    exact rfl
  · have h4 : ¬ count < 2 := by have : decide (count < 2) = false := h3; simpa using this
    · · refine And.intro (fun h7 => ?_) (fun h7 => ?_)
        · have h8 : count > 400 := by have : decide (count > 400) = true := h7; simpa using this
          rw [range (Or.inr h8)]
          refine Exists.intro [(2, 2), (3, 3)] (Exists.intro [] (And.intro (by kernel_rfl) ?_))
          exact rfl
        · have h8 : ¬ count > 400 := by have : decide (count > 400) = false := h7; simpa using this
          rw [main (by omega)]
          refine Exists.intro [.mem m] (And.intro (fun x => build_mem m x) ?_)
          refine Exists.intro [.pl p, .mem m] (And.intro (fun x => build_state p m x) ?_)
          obtain ⟨N, rfl⟩ : ∃ N : Nat, count = (N : Int) := ⟨count.toNat, by omega⟩
          rw [Int.toNat_natCast]
          refine Exists.intro (fun n f σ => ∃ (k : Nat) (q : Pl) (y : Nat → Int) (d : Int), k ≤ N ∧ n = N - k ∧ (k < N → 0 ≤ d) ∧ d ≤ 3 ∧ runF l (N - k) q y d = runF l N p m 0 ∧
            f = [(0, .l (.v v)), (3, .l (.v (.int .i64 (N : Int)))), (5, .ptr 0 0), (6, .ptr 1 0), (8, .ptr 2 0), (9, .ptr 3 0), (12, .ptr 4 0), (13, .l (.v (.int .i64 d))), (37, .l (.v (.int .i64 (N : Int)))), (38, .l (.v (.int .i64 (k : Int))))] ∧
            σ = [([.pl p], 25), ([.mem m], 43), ([.pl ⟨fun _ => 0, 0, false⟩], 25), ([.mem fun _ => 0], 43), ([.pl q, .mem y], 90)]) (And.intro ?_ ?_)
          · exact ⟨N, [(0, .l (.v v)), (3, .l (.v (.int .i64 (N : Int)))), (5, .ptr 0 0), (6, .ptr 1 0), (8, .ptr 2 0), (9, .ptr 3 0), (12, .ptr 4 0), (13, .l (.v (.int .i64 0))), (37, .l (.v (.int .i64 (N : Int)))), (38, .l (.v (.int .i64 ((0 : Nat) : Int))))], 5,
              And.intro rfl (And.intro rfl (And.intro rfl (And.intro rfl (And.intro rfl (And.intro rfl (And.intro rfl (And.intro rfl (And.intro rfl (And.intro rfl trivial))))))))),
              And.intro trivial (And.intro trivial (And.intro (Nat.le_of_ble_eq_true rfl) (And.intro (Nat.le_of_ble_eq_true rfl) (And.intro (Nat.le_of_ble_eq_true rfl) (And.intro (Nat.le_of_ble_eq_true rfl) (And.intro (Nat.le_of_ble_eq_true rfl) (And.intro trivial (And.intro trivial (And.intro trivial trivial))))))))),
              0, p, m, 0, by omega, rfl, fun _ => Int.le_refl 0, by omega, rfl, rfl, rfl⟩
          · rintro n f σ ⟨k, q, y, d, hk, rfl, hd1, hd2, hrun, rfl, rfl⟩
            refine And.intro (fun h9 => ?_) (fun h9 => ?_)
            · have hlt : k < N := by have : decide ((k : Int) < (N : Int)) = true := h9; simp at this; omega
              have hd0 := hd1 hlt
              obtain ⟨j, hj⟩ : ∃ j, N - k = j + 1 := ⟨N - k - 1, by omega⟩
              rw [hj] at hrun
              have hstep := hrun
              rw [runF_succ] at hstep
              refine Exists.intro [(4, 11)] (Exists.intro [(0, 4), (3, 4)] (And.intro (by kernel_rfl) ?_))
              refine Exists.intro (.l (.a [.ins (fetch l q)])) (Exists.intro _ (And.intro (fun _ _ => And.intro rfl trivial) (And.intro (fun A x hx => c_Fetch v l q x (hl.below hx.below)) ?_)))
              refine Exists.intro (.tup [.a [.pl (insF q y (fetch l q) d).1, .mem (insF q y (fetch l q) d).2.1], .v (.int .i64 (insF q y (fetch l q) d).2.2.1), .v (.bool (insF q y (fetch l q) d).2.2.2)]) (Exists.intro _ (And.intro (fun _ _ => And.intro rfl trivial) (And.intro (fun A x hx => c_inside q y (fetch l q) d x ⟨by omega, by omega⟩) ?_)))
              generalize hr : insF q y (fetch l q) d = r at *
              have hd3 := insF_d (p := q) (m := y) (i := fetch l q) (d := d)
              rw [hr] at hd3
              have hbad : r.2.2.2 = false ∨ decide (r.2.2.1 > 0) = decide (j = 0) → runF l N p m 0 = none := fun h => by rw [if_pos h] at hstep; exact hstep.symm
              have hlast : (((k : Int) == wrap64 ((N : Int) - 1)) : Bool) = decide (j = 0) := by
                have : wrap64 ((N : Int) - 1) = (N : Int) - 1 := by unfold wrap64; omega
                rw [this, Bool.eq_iff_iff, beq_iff_eq, decide_eq_true_iff]
                omega
              have bad : r.2.2.2 = false ∨ decide (r.2.2.1 > 0) = decide (j = 0) → (match runF l N p m 0 with | none => (p, m, 3) | some r => (r.1, r.2, 0)) = (p, m, (3 : Int)) := fun h => by rw [hbad h]
              have good : r.2.2.2 = true → ¬ decide (r.2.2.1 > 0) = decide (j = 0) → (j ≠ 0 → 0 ≤ r.2.2.1) ∧ r.2.2.1 ≤ 3 ∧ runF l (N - (k + 1)) r.1 r.2.1 r.2.2.1 = runF l N p m 0 := fun hok h17 => by
                rw [if_neg (by rw [hok]; simpa using h17)] at hstep
                refine ⟨fun hj0 => ?_, ?_, by rw [show N - (k + 1) = j from by omega]; exact hstep⟩
                · simp only [hj0, decide_false, decide_eq_false_iff_not] at h17
                  omega
                · rcases hd3 with h | h | ⟨h, h'⟩
                  · omega
                  · omega
                  · rw [hok] at h'
                    have := of_decide_eq_true h'.symm
                    omega
              refine And.intro (fun hL => ?_) (fun hL => ?_)
              · have hL' : decide (j = 0) = true := by have : ((k : Int) == wrap64 ((N : Int) - 1)) = true := hL; rw [hlast] at this; exact this
                refine And.intro (fun h10 => ?_) (fun h10 => ?_)
                · have hok : r.2.2.2 = false := by have : (!r.2.2.2) = true := h10; simpa using this
                  rw [bad (Or.inl hok)]
                  refine Exists.intro [(2, 2), (3, 3)] (Exists.intro [] (And.intro (by kernel_rfl) ?_))
                  exact rfl
                · have hok : r.2.2.2 = true := by have : (!r.2.2.2) = false := h10; simpa using this
                  refine And.intro (fun h11 => ?_) (fun h11 => ?_)
                  · have hp : decide (r.2.2.1 > 0) = true := h11
                    refine Exists.intro (.v (.bool true)) (And.intro (fun ρ x hρ _ => hand_eqb (hρ (.tmp 60) (.v (.bool true)) rfl) (hρ (.tmp 61) (.v (.bool true)) rfl)) ?_)
                    refine And.intro (fun _ => ?_) (fun h => by cases h)
                    rw [bad (Or.inr (by rw [hp, hL']))]
                    refine Exists.intro [(2, 2), (3, 3)] (Exists.intro [] (And.intro (by kernel_rfl) ?_))
                    exact rfl
                  · have hp : decide (r.2.2.1 > 0) = false := h11
                    refine Exists.intro (.v (.bool false)) (And.intro (fun ρ x hρ _ => hand_eqb (hρ (.tmp 60) (.v (.bool false)) rfl) (hρ (.tmp 61) (.v (.bool true)) rfl)) ?_)
                    refine And.intro (fun h => by cases h) (fun _ => ?_)
                    obtain ⟨g1, g2, g3⟩ := good hok (by rw [hp, hL']; simp)
                    refine ⟨N - (k + 1), [(0, .l (.v v)), (3, .l (.v (.int .i64 (N : Int)))), (5, .ptr 0 0), (6, .ptr 1 0), (8, .ptr 2 0), (9, .ptr 3 0), (12, .ptr 4 0), (13, .l (.v (.int .i64 r.2.2.1))), (37, .l (.v (.int .i64 (N : Int)))), (38, .l (.v (.int .i64 ((k + 1 : Nat) : Int))))], 5, by omega,
                      And.intro rfl (And.intro rfl (And.intro rfl (And.intro rfl (And.intro rfl (And.intro rfl (And.intro rfl (And.intro rfl (And.intro rfl (And.intro ?_ trivial))))))))),
                      And.intro trivial (And.intro trivial (And.intro (Nat.le_of_ble_eq_true rfl) (And.intro (Nat.le_of_ble_eq_true rfl) (And.intro (Nat.le_of_ble_eq_true rfl) (And.intro (Nat.le_of_ble_eq_true rfl) (And.intro (Nat.le_of_ble_eq_true rfl) (And.intro trivial (And.intro trivial (And.intro trivial trivial))))))))),
                      k + 1, r.1, r.2.1, r.2.2.1, by omega, rfl, fun hkN => g1 (by omega), g2, g3, rfl, rfl⟩
                    rw [← wrap_small k (by omega)]; exact rfl
              · have hL' : decide (j = 0) = false := by have : ((k : Int) == wrap64 ((N : Int) - 1)) = false := hL; rw [hlast] at this; exact this
                refine And.intro (fun h10 => ?_) (fun h10 => ?_)
                · have hok : r.2.2.2 = false := by have : (!r.2.2.2) = true := h10; simpa using this
                  rw [bad (Or.inl hok)]
                  refine Exists.intro [(2, 2), (3, 3)] (Exists.intro [] (And.intro (by kernel_rfl) ?_))
                  exact rfl
                · have hok : r.2.2.2 = true := by have : (!r.2.2.2) = false := h10; simpa using this
                  refine And.intro (fun h11 => ?_) (fun h11 => ?_)
                  · have hp : decide (r.2.2.1 > 0) = true := h11
                    refine Exists.intro (.v (.bool false)) (And.intro (fun ρ x hρ _ => hand_eqb (hρ (.tmp 60) (.v (.bool true)) rfl) (hρ (.tmp 61) (.v (.bool false)) rfl)) ?_)
                    refine And.intro (fun h => by cases h) (fun _ => ?_)
                    obtain ⟨g1, g2, g3⟩ := good hok (by rw [hp, hL']; simp)
                    refine ⟨N - (k + 1), [(0, .l (.v v)), (3, .l (.v (.int .i64 (N : Int)))), (5, .ptr 0 0), (6, .ptr 1 0), (8, .ptr 2 0), (9, .ptr 3 0), (12, .ptr 4 0), (13, .l (.v (.int .i64 r.2.2.1))), (37, .l (.v (.int .i64 (N : Int)))), (38, .l (.v (.int .i64 ((k + 1 : Nat) : Int))))], 5, by omega,
                      And.intro rfl (And.intro rfl (And.intro rfl (And.intro rfl (And.intro rfl (And.intro rfl (And.intro rfl (And.intro rfl (And.intro rfl (And.intro ?_ trivial))))))))),
                      And.intro trivial (And.intro trivial (And.intro (Nat.le_of_ble_eq_true rfl) (And.intro (Nat.le_of_ble_eq_true rfl) (And.intro (Nat.le_of_ble_eq_true rfl) (And.intro (Nat.le_of_ble_eq_true rfl) (And.intro (Nat.le_of_ble_eq_true rfl) (And.intro trivial (And.intro trivial (And.intro trivial trivial))))))))),
                      k + 1, r.1, r.2.1, r.2.2.1, by omega, rfl, fun hkN => g1 (by omega), g2, g3, rfl, rfl⟩
                    rw [← wrap_small k (by omega)]; exact rfl
                  · have hp : decide (r.2.2.1 > 0) = false := h11
                    refine Exists.intro (.v (.bool true)) (And.intro (fun ρ x hρ _ => hand_eqb (hρ (.tmp 60) (.v (.bool false)) rfl) (hρ (.tmp 61) (.v (.bool false)) rfl)) ?_)
                    refine And.intro (fun _ => ?_) (fun h => by cases h)
                    rw [bad (Or.inr (by rw [hp, hL']))]
                    refine Exists.intro [(2, 2), (3, 3)] (Exists.intro [] (And.intro (by kernel_rfl) ?_))
                    exact rfl
            · have hge : k = N := by have : decide ((k : Int) < (N : Int)) = false := h9; simp at this; omega
              subst hge
              rw [Nat.sub_self] at hrun
              rw [← hrun]
              refine Exists.intro [(2, 5), (3, 6)] (Exists.intro [] (And.intro (by kernel_rfl) ?_))
              exact rfl

end Go.Proofs.Ytjbbgpacijageaa
