/- touched, done, ready, readyAt, Good of package plain. -/
import Derived.Test.YtjbbgpacijageaaTab
import Derived.Test.YtjbbgpacijageaaW8
import Derived.Test.YtjbbgpacijageaaS1
namespace Go.Proofs.Ytjbbgpacijageaa
open Go.RowKit
set_option linter.unusedVariables false
set_option linter.unusedSimpArgs false

/-- Behind a Load, Store or Swap. -/
def tP (p : Pl) (m : Nat → Int) (i : In) : Pl := next (if i.op = 6 then p else put p i.a (m (word p i).toNat))
def tM (p : Pl) (m : Nat → Int) (i : In) : Nat → Int := if i.op = 5 then m else upd m (word p i).toNat (get p i.a)

theorem c_touched_no (p : Pl) (m : Nat → Int) (i : In) (w : World) (h : ¬ word p i < 32) :
    Calls Try.prog 93 #[.agg (pc p ++ mc m), .agg (ic i)] w fun e w' => e = .returned (.tuple #[.agg (pc p ++ mc m), .bool false]) ∧ Below w.heap.size w w' := by
  refine sym_calls tabOk Try.func93 rfl [.a [.pl p, .mem m], .a [.ins i]] w _ (Nat.le_of_ble_eq_true rfl) ?_
  refine Exists.intro (.tup [.v (.int .i64 (word p i)), .v (.bool (decide (word p i < 32)))]) (Exists.intro _ (And.intro (fun _ _ => And.intro rfl trivial) (And.intro (fun A x hx => c_Word p i x) ?_)))
  refine And.intro (fun h1 => ?_) (fun h1 => ?_)
  · exact rfl
  · have h2 : (!decide (word p i < 32)) = false := h1
    simp [h] at h2

theorem c_touched_yes (p : Pl) (m : Nat → Int) (i : In) (w : World) (h : word p i < 32) :
    Calls Try.prog 93 #[.agg (pc p ++ mc m), .agg (ic i)] w fun e w' => e = .returned (.tuple #[.agg (pc (tP p m i) ++ mc (tM p m i)), .bool true]) ∧ Below w.heap.size w w' := by
  have hlo : 0 ≤ word p i := wd_lo _
  have hj : (word p i).toNat < 32 := by omega
  refine sym_calls tabOk Try.func93 rfl [.a [.pl p, .mem m], .a [.ins i]] w _ (Nat.le_of_ble_eq_true rfl) ?_
  refine Exists.intro (.tup [.v (.int .i64 (word p i)), .v (.bool (decide (word p i < 32)))]) (Exists.intro _ (And.intro (fun _ _ => And.intro rfl trivial) (And.intro (fun A x hx => c_Word p i x) ?_)))
  refine And.intro (fun h1 => ?_) (fun h1 => ?_)
  · have h2 : (!decide (word p i < 32)) = true := h1
    simp [h] at h2
  refine Exists.intro [] (Exists.intro [] (And.intro (by kernel_rfl) ?_))
  refine Exists.intro (.l (.v (.int .i64 (get p i.a)))) (Exists.intro _ (And.intro (fun _ _ => And.intro rfl trivial) (And.intro (fun A x hx => c_Get p i.a x) ?_)))
  refine Exists.intro (word p i).toNat (And.intro (by omega) (And.intro hj ?_))
  refine And.intro hj ?_
  refine And.intro (fun h2 => ?_) (fun h2 => ?_)
  · have h3 : (i.op != 6) = true := h2
    refine Exists.intro (.l (.a [.pl (put p i.a (m (word p i).toNat))])) (Exists.intro _ (And.intro (fun _ _ => And.intro rfl trivial) (And.intro (fun A x hx => c_Put p i.a _ x) ?_)))
    refine And.intro (fun h4 => ?_) (fun h4 => ?_)
    · have h5 : (i.op != 5) = true := h4
      refine Exists.intro (word p i).toNat (And.intro (by omega) (And.intro hj ?_))
      refine And.intro hj ?_
      refine Exists.intro (.l (.a [.pl (next (put p i.a (m (word p i).toNat)))])) (Exists.intro _ (And.intro (fun _ _ => And.intro rfl trivial) (And.intro (fun A x hx => c_next _ x) ?_)))
      have e1 : tP p m i = next (put p i.a (m (word p i).toNat)) := by unfold tP; rw [if_neg (by simpa using h3)]
      have e2 : tM p m i = upd m (word p i).toNat (get p i.a) := by unfold tM; rw [if_neg (by simpa using h5)]
      rw [e1, e2]
      exact rfl
    · have h5 : (i.op != 5) = false := h4
      refine Exists.intro (.l (.a [.pl (next (put p i.a (m (word p i).toNat)))])) (Exists.intro _ (And.intro (fun _ _ => And.intro rfl trivial) (And.intro (fun A x hx => c_next _ x) ?_)))
      have e1 : tP p m i = next (put p i.a (m (word p i).toNat)) := by unfold tP; rw [if_neg (by simpa using h3)]
      have e2 : tM p m i = m := by unfold tM; rw [if_pos (by simpa using h5)]
      rw [e1, e2]
      exact rfl
  · have h3 : (i.op != 6) = false := h2
    have h6 : i.op = 6 := by simpa using h3
    refine And.intro (fun h4 => ?_) (fun h4 => ?_)
    · refine Exists.intro (word p i).toNat (And.intro (by omega) (And.intro hj ?_))
      refine And.intro hj ?_
      refine Exists.intro (.l (.a [.pl (next p)])) (Exists.intro _ (And.intro (fun _ _ => And.intro rfl trivial) (And.intro (fun A x hx => c_next _ x) ?_)))
      have e1 : tP p m i = next p := by unfold tP; rw [if_pos h6]
      have e2 : tM p m i = upd m (word p i).toNat (get p i.a) := by unfold tM; rw [if_neg (by omega)]
      rw [e1, e2]
      exact rfl
    · have h5 : (i.op != 5) = false := h4
      rw [h6] at h5
      cases h5

theorem c_ready (p : Pl) (w : World) :
    Calls Try.prog 77 #[.agg (pc p)] w fun e w' => e = .returned (.int .i64 (if goodP p = false then 1 else if p.o = true then 4 else 0)) ∧ Below w.heap.size w w' := by
  refine sym_calls tabOk Try.func77 rfl [.a [.pl p]] w _ (Nat.le_of_ble_eq_true rfl) ?_
  refine Exists.intro (.l (.v (.bool (goodP p)))) (Exists.intro _ (And.intro (fun _ _ => And.intro rfl trivial) (And.intro (fun A x hx => c_GoodPlain p x) ?_)))
  refine And.intro (fun h1 => ?_) (fun h1 => ?_)
  · have h2 : goodP p = false := by have : (!goodP p) = true := h1; simpa using this
    rw [if_pos h2]; exact rfl
  · have h2 : goodP p = true := by have : (!goodP p) = false := h1; simpa using this
    rw [if_neg (by rw [h2]; simp)]
    refine And.intro (fun h3 => ?_) (fun h3 => ?_)
    · have h4 : p.o = true := h3
      rw [if_pos h4]; exact rfl
    · have h4 : p.o = false := h3
      rw [if_neg (by rw [h4]; simp)]; exact rfl

theorem hand_index {ρ : Operand → Value} {x : World} {d : Option Tmp} {a b : Operand} {ty : TypeId} {pos : String} {after : Array Edge} {g : Option (Nat × Bool)} {m : Nat → Int} {k : Nat} (hk : k < 32) (ha : ρ a = .agg (mc m)) (hb : ρ b = .int .i64 (k : Int)) :
    (execOp ρ ⟨d, .index 43 a b, ty, pos, after, g⟩).run Try.prog x = .ok (.value (.int .i64 (m k))) x := by
  unfold execOp
  simp only [ha, hb, Sem.run_bind, index_mc m k hk, Result.andThen_ok, Sem.run_pure]

theorem wrap_small (k : Nat) (h : k ≤ 1000) : wrap64 ((k : Int) + 1) = ((k + 1 : Nat) : Int) := by unfold wrap64; omega

theorem c_plainGood (m : Nat → Int) (w : World) :
    Calls Try.prog 42 #[.agg (mc m)] w fun e w' => e = .returned (.bool (goodM m)) ∧ Below w.heap.size w w' := by
  refine sym_calls tabOk Try.func42 rfl [.a [.mem m]] w _ (Nat.le_of_ble_eq_true rfl) ?_
  refine Exists.intro (fun n f σ => ∃ k : Nat, k ≤ 32 ∧ n = 32 - k ∧ ((List.range k).all fun k => isW (m k)) = true ∧ f = [(5, .l (.a [.mem m])), (6, .l (.v (.int .i64 (k : Int))))] ∧ σ = []) (And.intro ?_ ?_)
  · exact ⟨32, [(5, .l (.a [.mem m])), (6, .l (.v (.int .i64 ((0 : Nat) : Int))))], 0, And.intro rfl (And.intro rfl trivial), And.intro trivial (And.intro trivial trivial), 0, by omega, rfl, rfl, rfl, rfl⟩
  · rintro n f σ ⟨k, hk, rfl, hall, rfl, rfl⟩
    refine And.intro (fun h1 => ?_) (fun h1 => ?_)
    · have hlt : k < 32 := by have : decide ((k : Int) < 32) = true := h1; simp at this; omega
      refine Exists.intro (.v (.int .i64 (m k))) (And.intro (fun ρ x hρ _ => hand_index hlt (hρ (.tmp 5) (.a [.mem m]) rfl) (hρ (.tmp 6) (.v (.int .i64 (k : Int))) rfl)) ?_)
      refine Exists.intro (.l (.v (.bool (isW (m k))))) (Exists.intro _ (And.intro (fun _ _ => And.intro rfl trivial) (And.intro (fun A x hx => (c_isWord (m k) x).mono fun e w1 h => by obtain ⟨h1, h2⟩ := h; subst h2; exact ⟨h1, Below.refl _ _⟩) ?_)))
      refine And.intro (fun h2 => ?_) (fun h2 => ?_)
      · have h3 : isW (m k) = false := by have : (!isW (m k)) = true := h2; simpa using this
        have h4 : goodM m = false := by
          rw [← Bool.not_eq_true]
          intro h5
          have := List.all_eq_true.1 h5 k (by simpa using hlt)
          rw [h3] at this; cases this
        rw [h4]; exact rfl
      · have h3 : isW (m k) = true := by have : (!isW (m k)) = false := h2; simpa using this
        refine ⟨32 - (k + 1), [(5, .l (.a [.mem m])), (6, .l (.v (.int .i64 ((k + 1 : Nat) : Int))))], 0, by omega, And.intro rfl (And.intro ?_ trivial), And.intro trivial (And.intro trivial trivial), k + 1, by omega, rfl, ?_, rfl, rfl⟩
        · rw [← wrap_small k (by omega)]; exact rfl
        · rw [goodM_to, hall, h3]; rfl
    · have hge : k = 32 := by have : decide ((k : Int) < 32) = false := h1; simp at this; omega
      subst hge
      have h4 : goodM m = true := hall
      rw [h4]; exact rfl

theorem c_readyAt (p : Pl) (m : Nat → Int) (w : World) :
    Calls Try.prog 73 #[.agg (pc p), .agg (mc m)] w fun e w' => e = .returned (.int .i64 (if goodM m = false then 1 else if goodP p = false then 1 else if p.o = true then 4 else 0)) ∧ Below w.heap.size w w' := by
  refine sym_calls tabOk Try.func73 rfl [.a [.pl p], .a [.mem m]] w _ (Nat.le_of_ble_eq_true rfl) ?_
  refine Exists.intro (.l (.v (.bool (goodM m)))) (Exists.intro _ (And.intro (fun _ _ => And.intro rfl trivial) (And.intro (fun A x hx => c_plainGood m x) ?_)))
  refine And.intro (fun h1 => ?_) (fun h1 => ?_)
  · have h2 : goodM m = false := by have : (!goodM m) = true := h1; simpa using this
    rw [if_pos h2]; exact rfl
  · have h2 : goodM m = true := by have : (!goodM m) = false := h1; simpa using this
    rw [if_neg (by rw [h2]; simp)]
    refine Exists.intro (.l (.v (.int .i64 (if goodP p = false then 1 else if p.o = true then 4 else 0)))) (Exists.intro _ (And.intro (fun _ _ => And.intro rfl trivial) (And.intro (fun A x hx => c_ready p x) ?_)))
    exact rfl

end Go.Proofs.Ytjbbgpacijageaa
