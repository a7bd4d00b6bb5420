/- done, One, inside, Failed of package plain. -/
import Derived.Test.YtjbbgpacijageaaY1
import Derived.Test.YtjbbgpacijageaaL1
namespace Go.Proofs.Ytjbbgpacijageaa
open Go.RowKit
set_option linter.unusedVariables false
set_option linter.unusedSimpArgs false

/-- A state behind an instruction that is no part of a transaction, and whether it went through. -/
def doneF (p : Pl) (m : Nat → Int) (i : In) : Pl × (Nat → Int) × Bool :=
  if i.op = 5 ∨ i.op = 6 ∨ i.op = 7 then (if word p i < 32 then (tP p m i, tM p m i, true) else (p, m, false)) else ((alone p i).1, m, (alone p i).2 == 0)

theorem c_touched (p : Pl) (m : Nat → Int) (i : In) (w : World) (h : i.op = 5 ∨ i.op = 6 ∨ i.op = 7) :
    Calls Try.prog 93 #[.agg (pc p ++ mc m), .agg (ic i)] w fun e w' => e = .returned (.tuple #[.agg (pc (doneF p m i).1 ++ mc (doneF p m i).2.1), .bool (doneF p m i).2.2]) ∧ Below w.heap.size w w' := by
  unfold doneF
  rw [if_pos h]
  by_cases hw : word p i < 32
  · rw [if_pos hw]; exact c_touched_yes p m i w hw
  · rw [if_neg hw]; exact c_touched_no p m i w hw

theorem c_done (p : Pl) (m : Nat → Int) (i : In) (w : World) :
    Calls Try.prog 74 #[.agg (pc p ++ mc m), .agg (ic i)] w fun e w' => e = .returned (.tuple #[.agg (pc (doneF p m i).1 ++ mc (doneF p m i).2.1), .bool (doneF p m i).2.2]) ∧ Below w.heap.size w w' := by
  refine sym_calls tabOk Try.func74 rfl [.a [.pl p, .mem m], .a [.ins i]] w _ (Nat.le_of_ble_eq_true rfl) ?_
  refine And.intro (fun h1 => ?_) (fun h1 => ?_)
  · have h2 : (i.op == 5) = true := h1
    refine Exists.intro (.tup [.a [.pl (doneF p m i).1, .mem (doneF p m i).2.1], .v (.bool (doneF p m i).2.2)]) (Exists.intro _ (And.intro (fun _ _ => And.intro rfl trivial) (And.intro (fun A x hx => c_touched p m i x (Or.inl (by simpa using h2))) ?_)))
    exact rfl
  · have h2 : (i.op == 5) = false := h1
    refine And.intro (fun h3 => ?_) (fun h3 => ?_)
    · have h4 : (i.op == 6) = true := h3
      refine Exists.intro (.tup [.a [.pl (doneF p m i).1, .mem (doneF p m i).2.1], .v (.bool (doneF p m i).2.2)]) (Exists.intro _ (And.intro (fun _ _ => And.intro rfl trivial) (And.intro (fun A x hx => c_touched p m i x (Or.inr (Or.inl (by simpa using h4)))) ?_)))
      exact rfl
    · have h4 : (i.op == 6) = false := h3
      refine And.intro (fun h5 => ?_) (fun h5 => ?_)
      · have h6 : (i.op == 7) = true := h5
        refine Exists.intro (.tup [.a [.pl (doneF p m i).1, .mem (doneF p m i).2.1], .v (.bool (doneF p m i).2.2)]) (Exists.intro _ (And.intro (fun _ _ => And.intro rfl trivial) (And.intro (fun A x hx => c_touched p m i x (Or.inr (Or.inr (by simpa using h6)))) ?_)))
        exact rfl
      · have h6 : (i.op == 7) = false := h5
        refine Exists.intro (.tup [.a [.pl (alone p i).1], .v (.int .i64 (alone p i).2)]) (Exists.intro _ (And.intro (fun _ _ => And.intro rfl trivial) (And.intro (fun A x hx => c_Alone p i _ _ rfl x) ?_)))
        have e : doneF p m i = ((alone p i).1, m, (alone p i).2 == 0) := by
          unfold doneF
          rw [if_neg (by simp at h2 h4 h6; simp [h2, h4, h6])]
        rw [e]
        refine And.intro (fun h7 => ?_) (fun h7 => ?_)
        · have h8 : ((alone p i).2 == 0) = true := h7
          rw [h8]; exact rfl
        · have h8 : ((alone p i).2 == 0) = false := h7
          rw [h8]; exact rfl

/-- One: the core, the memory, the error. -/
def oneF (l : List In) (p : Pl) (m : Nat → Int) : Pl × (Nat → Int) × Int :=
  if goodM m = false then (p, m, 1) else if goodP p = false then (p, m, 1) else if p.o = true then (p, m, 4) else
  if (fetch l p).op = 9 then (p, m, 3) else
  if (doneF p m (fetch l p)).2.2 = true then ((doneF p m (fetch l p)).1, (doneF p m (fetch l p)).2.1, 0) else ({ p with o := true }, m, 0)

def rdy (p : Pl) (m : Nat → Int) : Int := if goodM m = false then 1 else if goodP p = false then 1 else if p.o = true then 4 else 0
theorem rdy_cases (p : Pl) (m : Nat → Int) : (rdy p m = 0 ∧ goodM m = true ∧ goodP p = true ∧ p.o = false) ∨ (rdy p m ≠ 0 ∧ ∀ l, oneF l p m = (p, m, rdy p m)) := by
  unfold rdy oneF
  cases goodM m <;> cases goodP p <;> cases p.o <;> simp

theorem build_mem (m : Nat → Int) (x : World) : (Instr.build 88 #[(0, .agg (mc m))]).run Try.prog x = .ok (.agg (mc m)) x := by kernel_rfl
theorem build_state (p : Pl) (m : Nat → Int) (x : World) : (Instr.build 90 #[(0, .agg (pc p)), (1, .agg (mc m))]).run Try.prog x = .ok (.agg (pc p ++ mc m)) x := by kernel_rfl

set_option maxHeartbeats 4000000 in
theorem c_One (v : Value) (l : List In) (p : Pl) (m : Nat → Int) (w : World) (hl : Lst w v l) :
    Calls Try.prog 31 #[v, .agg (pc p), .agg (mc m)] w fun e w' => e = .returned (.tuple #[.agg (pc (oneF l p m).1), .agg (mc (oneF l p m).2.1), .int .i64 (oneF l p m).2.2]) ∧ Below w.heap.size w w' := by
  refine sym_calls tabOk Try.func31 rfl [.v v, .a [.pl p], .a [.mem m]] w _ (Nat.le_of_ble_eq_true rfl) ?_
  refine Exists.intro (.l (.v (.int .i64 (rdy p m)))) (Exists.intro _ (And.intro (fun _ _ => And.intro rfl trivial) (And.intro (fun A x hx => c_readyAt p m x) ?_)))
  refine And.intro (fun h1 => ?_) (fun h1 => ?_)
  · have h2 : (rdy p m != 0) = true := h1
    rcases rdy_cases p m with ⟨h3, _⟩ | ⟨_, h3⟩
    · rw [h3] at h2; cases h2
    · rw [h3 l]
      refine Exists.intro [(2, 3), (3, 4)] (Exists.intro [] (And.intro (by kernel_rfl) ?_))
      exact rfl
  · have h2 : (rdy p m != 0) = false := h1
    rcases rdy_cases p m with ⟨_, h3, h4, h5⟩ | ⟨h3, _⟩
    · refine Exists.intro (.l (.a [.ins (fetch l p)])) (Exists.intro _ (And.intro (fun _ _ => And.intro rfl trivial) (And.intro (fun A x hx => c_Fetch v l p x (hl.below hx.below)) ?_)))
      refine And.intro (fun h6 => ?_) (fun h6 => ?_)
      · have h7 : ((fetch l p).op == 9) = true := h6
        have e : oneF l p m = (p, m, 3) := by
          unfold oneF
          rw [if_neg (by simp [h3]), if_neg (by simp [h4]), if_neg (by simp [h5]), if_pos (by simpa using h7)]
        rw [e]
        refine Exists.intro [(2, 2), (3, 3)] (Exists.intro [] (And.intro (by kernel_rfl) ?_))
        exact rfl
      · have h7 : ((fetch l p).op == 9) = false := h6
        refine Exists.intro [.mem m] (And.intro (fun x => build_mem m x) ?_)
        refine Exists.intro [.pl p, .mem m] (And.intro (fun x => build_state p m x) ?_)
        refine Exists.intro (.tup [.a [.pl (doneF p m (fetch l p)).1, .mem (doneF p m (fetch l p)).2.1], .v (.bool (doneF p m (fetch l p)).2.2)]) (Exists.intro _ (And.intro (fun _ _ => And.intro rfl trivial) (And.intro (fun A x hx => c_done p m (fetch l p) x) ?_)))
        refine And.intro (fun h8 => ?_) (fun h8 => ?_)
        · have h9 : (doneF p m (fetch l p)).2.2 = false := by have : (!(doneF p m (fetch l p)).2.2) = true := h8; simpa using this
          have e : oneF l p m = ({ p with o := true }, m, 0) := by
            unfold oneF
            rw [if_neg (by simp [h3]), if_neg (by simp [h4]), if_neg (by simp [h5]), if_neg (by simpa using h7), if_neg (by rw [h9]; simp)]
          rw [e]
          refine Exists.intro [(2, 2), (3, 3)] (Exists.intro [] (And.intro (by kernel_rfl) ?_))
          exact rfl
        · have h9 : (doneF p m (fetch l p)).2.2 = true := by have : (!(doneF p m (fetch l p)).2.2) = false := h8; simpa using this
          have e : oneF l p m = ((doneF p m (fetch l p)).1, (doneF p m (fetch l p)).2.1, 0) := by
            unfold oneF
            rw [if_neg (by simp [h3]), if_neg (by simp [h4]), if_neg (by simp [h5]), if_neg (by simpa using h7), if_pos h9]
          rw [e]
          refine Exists.intro [(2, 5), (3, 6)] (Exists.intro [] (And.intro (by kernel_rfl) ?_))
          exact rfl
    · exact absurd (by simpa using h2) h3

/-- An instruction of a transaction: the state, how deep it is then, whether it went through. -/
def insF (p : Pl) (m : Nat → Int) (i : In) (d : Int) : Pl × (Nat → Int) × Int × Bool :=
  if i.op = 9 then (next p, m, d + 1, decide (d < 3)) else if i.op = 10 then (next p, m, d - 1, true) else if i.op = 11 ∨ i.op = 12 then (p, m, d, false) else ((doneF p m i).1, (doneF p m i).2.1, d, (doneF p m i).2.2)

theorem c_inside (p : Pl) (m : Nat → Int) (i : In) (d : Int) (w : World) (hd : -10 ≤ d ∧ d ≤ 1000) :
    Calls Try.prog 78 #[.agg (pc p ++ mc m), .agg (ic i), .int .i64 d] w fun e w' => e = .returned (.tuple #[.agg (pc (insF p m i d).1 ++ mc (insF p m i d).2.1), .int .i64 (insF p m i d).2.2.1, .bool (insF p m i d).2.2.2]) ∧ Below w.heap.size w w' := by
  have hw1 : wrap64 (d + 1) = d + 1 := by unfold wrap64; omega
  have hw2 : wrap64 (d - 1) = d - 1 := by unfold wrap64; omega
  refine sym_calls tabOk Try.func78 rfl [.a [.pl p, .mem m], .a [.ins i], .v (.int .i64 d)] w _ (Nat.le_of_ble_eq_true rfl) ?_
  refine And.intro (fun h1 => ?_) (fun h1 => ?_)
  · have h2 : (i.op == 9) = true := h1
    refine Exists.intro (.l (.a [.pl (next p)])) (Exists.intro _ (And.intro (fun _ _ => And.intro rfl trivial) (And.intro (fun A x hx => c_next p x) ?_)))
    have e : insF p m i d = (next p, m, wrap64 (d + 1), decide (d < 3)) := by unfold insF; rw [if_pos (by simpa using h2), hw1]
    rw [e]
    refine And.intro (fun h7 => ?_) (fun h7 => ?_)
    · have h8 : decide (d < 3) = true := h7
      rw [h8]; exact rfl
    · have h8 : decide (d < 3) = false := h7
      rw [h8]; exact rfl
  · have h2 : (i.op == 9) = false := h1
    refine And.intro (fun h3 => ?_) (fun h3 => ?_)
    · have h4 : (i.op == 10) = true := h3
      refine Exists.intro (.l (.a [.pl (next p)])) (Exists.intro _ (And.intro (fun _ _ => And.intro rfl trivial) (And.intro (fun A x hx => c_next p x) ?_)))
      have e : insF p m i d = (next p, m, wrap64 (d - 1), true) := by unfold insF; rw [if_neg (by simpa using h2), if_pos (by simpa using h4), hw2]
      rw [e]
      exact rfl
    · have h4 : (i.op == 10) = false := h3
      have bad : i.op = 11 ∨ i.op = 12 → insF p m i d = (p, m, d, false) := fun h => by unfold insF; rw [if_neg (by simpa using h2), if_neg (by simpa using h4), if_pos h]
      refine And.intro (fun h5 => ?_) (fun h5 => ?_)
      · have h6 : (i.op == 11) = true := h5
        rw [bad (Or.inl (by simpa using h6))]
        exact rfl
      · have h6 : (i.op == 11) = false := h5
        refine And.intro (fun h7 => ?_) (fun h7 => ?_)
        · have h8 : (i.op == 12) = true := h7
          rw [bad (Or.inr (by simpa using h8))]
          exact rfl
        · have h8 : (i.op == 12) = false := h7
          have e : insF p m i d = ((doneF p m i).1, (doneF p m i).2.1, d, (doneF p m i).2.2) := by
            unfold insF
            rw [if_neg (by simpa using h2), if_neg (by simpa using h4), if_neg (by simp at h6 h8; simp [h6, h8])]
          rw [e]
          refine Exists.intro (.tup [.a [.pl (doneF p m i).1, .mem (doneF p m i).2.1], .v (.bool (doneF p m i).2.2)]) (Exists.intro _ (And.intro (fun _ _ => And.intro rfl trivial) (And.intro (fun A x hx => c_done p m i x) ?_)))
          exact rfl

/-- Failed: the core, the error. -/
def failedF (l : List In) (p : Pl) (why : Int) : Pl × Int :=
  if goodP p = false then (p, 1) else if p.o = true then (p, 4) else if isW why = false then (p, 2) else
  if (fetch l p).op = 9 then ({ put p (fetch l p).a why with a := (fetch l p).n }, 0) else (p, 3)

theorem c_Failed (v : Value) (l : List In) (p : Pl) (why : Int) (w : World) (hl : Lst w v l) :
    Calls Try.prog 33 #[v, .agg (pc p), .int .i64 why] w fun e w' => e = .returned (.tuple #[.agg (pc (failedF l p why).1), .int .i64 (failedF l p why).2]) ∧ Below w.heap.size w w' := by
  refine sym_calls tabOk Try.func33 rfl [.v v, .a [.pl p], .v (.int .i64 why)] w _ (Nat.le_of_ble_eq_true rfl) ?_
  refine Exists.intro (.l (.v (.int .i64 (if goodP p = false then 1 else if p.o = true then 4 else 0)))) (Exists.intro _ (And.intro (fun _ _ => And.intro rfl trivial) (And.intro (fun A x hx => c_ready p x) ?_)))
  by_cases g1 : goodP p = false
  · have e : failedF l p why = (p, 1) := by unfold failedF; rw [if_pos g1]
    rw [e, if_pos g1]
    refine And.intro (fun h1 => ?_) (fun h1 => by cases h1)
    exact rfl
  by_cases g2 : p.o = true
  · have e : failedF l p why = (p, 4) := by unfold failedF; rw [if_neg g1, if_pos g2]
    rw [e, if_neg g1, if_pos g2]
    refine And.intro (fun h1 => ?_) (fun h1 => by cases h1)
    exact rfl
  rw [if_neg g1, if_neg g2]
  refine And.intro (fun h1 => by cases h1) (fun h1 => ?_)
  refine Exists.intro (.l (.v (.bool (isW why)))) (Exists.intro _ (And.intro (fun _ _ => And.intro rfl trivial) (And.intro (fun A x hx => (c_isWord why x).mono fun e w1 h => by obtain ⟨h1, h2⟩ := h; subst h2; exact ⟨h1, Below.refl _ _⟩) ?_)))
  refine And.intro (fun h2 => ?_) (fun h2 => ?_)
  · have g3 : isW why = false := by have : (!isW why) = true := h2; simpa using this
    have e : failedF l p why = (p, 2) := by unfold failedF; rw [if_neg g1, if_neg g2, if_pos g3]
    rw [e]
    exact rfl
  · have g3 : ¬ isW why = false := by have : (!isW why) = false := h2; simpa using this
    refine Exists.intro (.l (.a [.ins (fetch l p)])) (Exists.intro _ (And.intro (fun _ _ => And.intro rfl trivial) (And.intro (fun A x hx => c_Fetch v l p x (hl.below hx.below)) ?_)))
    refine And.intro (fun h4 => ?_) (fun h4 => ?_)
    · have h5 : ((fetch l p).op != 9) = true := h4
      have e : failedF l p why = (p, 3) := by unfold failedF; rw [if_neg g1, if_neg g2, if_neg g3, if_neg (by simpa using h5)]
      rw [e]
      exact rfl
    · have h5 : ((fetch l p).op != 9) = false := h4
      have e : failedF l p why = ({ put p (fetch l p).a why with a := (fetch l p).n }, 0) := by unfold failedF; rw [if_neg g1, if_neg g2, if_neg g3, if_pos (by simpa using h5)]
      rw [e]
      refine Exists.intro (.l (.a [.pl (put p (fetch l p).a why)])) (Exists.intro _ (And.intro (fun _ _ => And.intro rfl trivial) (And.intro (fun A x hx => c_Put p _ why x) ?_)))
      exact rfl

end Go.Proofs.Ytjbbgpacijageaa
