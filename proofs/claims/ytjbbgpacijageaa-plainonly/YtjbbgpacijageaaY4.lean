/- Comparisons of cores and memories that are alike; runs. -/
import Derived.Test.YtjbbgpacijageaaY3
import Derived.Test.YtjbbgpacijageaaW0
import Derived.Test.YtjbbgpacijageaaP2
namespace Go.Proofs.Ytjbbgpacijageaa
open Go.RowKit
set_option linter.unusedVariables false
set_option linter.unusedSimpArgs false
attribute [local go_sem ↓] eql_plain eql_instr

set_option maxRecDepth 100000 in
theorem eql_mem (m : Nat → Int) (w : World) : (binOp .eql 43 (.agg (mc m)) (.agg (mc m))).run Try.prog w = .ok (.bool true) w := by
  have h : ∀ d, (Op.equalIn (d + 1 + 1) 43 (.agg (mc m)) (.agg (mc m))).run Try.prog w = .ok true w := fun d => by
    obtain ⟨i, hi⟩ : ∃ i, Try.prog.info? 3 = some i := info_of_underlying Try.underlying3
    rw [run_equalIn_array w (d + 1) _ _ Try.underlying43 hi, show Try.prog.cellsOf 3 = 1 from by kernel_rfl]
    simp [mc, go_sem, Op.eqItems, List.range_succ]
  have h2 := h (Op.maxDepth - 2)
  simp only [binOp, Op.equal, Sem.run_bind]
  rw [show Op.maxDepth = Op.maxDepth - 2 + 1 + 1 from by decide, h2]
  rfl

theorem hand_eqP {ρ : Operand → Value} {x : World} {d : Option Tmp} {a b : Operand} {ty u : TypeId} {pos : String} {after : Array Edge} {g : Option (Nat × Bool)} {p : Pl} (ha : ρ a = .agg (pc p)) (hb : ρ b = .agg (pc p)) :
    (execOp ρ ⟨d, .binOp .eql 25 a b u, ty, pos, after, g⟩).run Try.prog x = .ok (.value (.bool true)) x := by
  unfold execOp
  simp only [ha, hb]
  have h1 : (eqGuard .eql 25 a b (.agg (pc p)) (.agg (pc p))).run Try.prog x = .ok () x := run_eqGuard_agg _ _ _ _ _ _ _ (by kernel_rfl)
  have h2 : (binOp .eql 25 (.agg (pc p)) (.agg (pc p))).run Try.prog x = .ok (.bool true) x := by
    have := eql_plain (p.r 0) (p.r 1) (p.r 2) (p.r 3) (p.r 4) (p.r 5) (p.r 6) (p.r 7) p.a (p.r 0) (p.r 1) (p.r 2) (p.r 3) (p.r 4) (p.r 5) (p.r 6) (p.r 7) p.a p.o p.o x
    simp only [beq_self_eq_true, Bool.and_self] at this
    exact this
  simp only [Sem.run_bind, h1, Result.andThen_ok, h2, Sem.run_pure]
theorem hand_eqM {ρ : Operand → Value} {x : World} {d : Option Tmp} {a b : Operand} {ty u : TypeId} {pos : String} {after : Array Edge} {g : Option (Nat × Bool)} {m : Nat → Int} (ha : ρ a = .agg (mc m)) (hb : ρ b = .agg (mc m)) :
    (execOp ρ ⟨d, .binOp .eql 43 a b u, ty, pos, after, g⟩).run Try.prog x = .ok (.value (.bool true)) x := by
  unfold execOp
  simp only [ha, hb]
  have h1 : (eqGuard .eql 43 a b (.agg (mc m)) (.agg (mc m))).run Try.prog x = .ok () x := run_eqGuard_agg _ _ _ _ _ _ _ (by kernel_rfl)
  simp only [Sem.run_bind, h1, Result.andThen_ok, eql_mem m x, Sem.run_pure]

def runL : List In := [⟨9, 0, 0, 0, 0⟩, ⟨6, 0, 0, 0, 5⟩, ⟨10, 0, 0, 0, 0⟩]
def zP : Pl := ⟨fun _ => 0, 0, false⟩
def runM : Nat → Int := upd (fun _ => 0) 5 7
theorem run_e : (allF runL zP runM 3).2.2 = 0 := by kernel_rfl
theorem run_a : (allF runL zP runM 3).1.a = 3 := by kernel_rfl
theorem run_m : (allF runL zP runM 3).2.1 5 = 0 := by kernel_rfl

theorem lst_own {x : World} {b : Nat} (h : HB x b (cat [.ins ⟨9, 0, 0, 0, 0⟩, .ins ⟨6, 0, 0, 0, 5⟩, .ins ⟨10, 0, 0, 0, 0⟩]) 27) : Lst x (.slice (some ⟨b, 0, none⟩) 3 3) runL := by
  refine Or.inr ⟨b, 0, 3, rfl, Nat.le_refl _, by decide, h.lt, fun j i hj => ?_⟩
  have hj3 : j < 3 := (List.getElem?_eq_some_iff.1 hj).1
  have : j = 0 ∨ j = 1 ∨ j = 2 := by omega
  rcases this with rfl | rfl | rfl <;> (cases hj; exact ⟨h.cell _, h.cell _, h.cell _, h.cell _, h.cell _⟩)

set_option maxHeartbeats 2000000 in
theorem c_runsKeep (w : World) : Calls Try.prog 41 #[] w fun e w' => e = .returned (.bool true) ∧ Below w.heap.size w w' := by
  refine sym_calls tabOk Try.func41 rfl [] w _ (Nat.le_of_ble_eq_true rfl) ?_
  refine Exists.intro [.ins ⟨9, 0, 0, 0, 0⟩] (And.intro (fun x => by kernel_rfl) ?_)
  refine Exists.intro [.ins ⟨6, 0, 0, 0, 5⟩] (And.intro (fun x => by kernel_rfl) ?_)
  refine Exists.intro [.ins ⟨10, 0, 0, 0, 0⟩] (And.intro (fun x => by kernel_rfl) ?_)
  refine Exists.intro [.ins ⟨9, 0, 0, 0, 0⟩, .ins ⟨6, 0, 0, 0, 5⟩, .ins ⟨10, 0, 0, 0, 0⟩] (Exists.intro 27 (And.intro (fun x => by kernel_rfl) ?_))
  refine Exists.intro [.pl zP] (And.intro (fun x => by kernel_rfl) ?_)
  refine Exists.intro [.mem runM] (And.intro (fun x => by kernel_rfl) ?_)
  refine Exists.intro (.tup [.a [.pl (allF runL zP runM 3).1], .a [.mem (allF runL zP runM 3).2.1], .v (.int .i64 0)]) (Exists.intro _ (And.intro (fun _ _ => And.intro rfl trivial) (And.intro (fun A x hx => by have h := c_All (.slice (some ⟨A 0, 0, none⟩) 3 3) runL zP runM 3 x (lst_own (hx.blk 0 _ _ rfl rfl)); rw [run_e] at h; exact h) ?_)))
  refine And.intro (fun _ => ?_) (fun h => by cases h)
  refine And.intro (fun _ => ?_) (fun h => ?_)
  · refine Exists.intro 5 (And.intro rfl (And.intro (by decide) ?_))
    refine And.intro (by decide) ?_
    refine And.intro (fun _ => ?_) (fun h => ?_)
    · exact rfl
    · have h1 : ((allF runL zP runM 3).2.1 5 == 0) = false := h
      rw [run_m] at h1; cases h1
  · have h1 : ((allF runL zP runM 3).1.a == 3) = false := h
    rw [run_a] at h1; cases h1

set_option maxHeartbeats 2000000 in
theorem c_runsLaw (w : World) : Calls Try.prog 35 #[] w fun e w' => e = .returned (.bool true) ∧ Below w.heap.size w w' := by
  refine sym_calls tabOk Try.func35 rfl [] w _ (Nat.le_of_ble_eq_true rfl) ?_
  refine Exists.intro [.ins ⟨9, 0, 0, 0, 0⟩] (And.intro (fun x => by kernel_rfl) ?_)
  refine Exists.intro [.ins ⟨6, 0, 0, 0, 5⟩] (And.intro (fun x => by kernel_rfl) ?_)
  refine Exists.intro [.ins ⟨10, 0, 0, 0, 0⟩] (And.intro (fun x => by kernel_rfl) ?_)
  refine Exists.intro [.ins ⟨9, 0, 0, 0, 0⟩, .ins ⟨6, 0, 0, 0, 5⟩, .ins ⟨10, 0, 0, 0, 0⟩] (Exists.intro 27 (And.intro (fun x => by kernel_rfl) ?_))
  refine Exists.intro [.pl zP] (And.intro (fun x => by kernel_rfl) ?_)
  refine Exists.intro [.mem runM] (And.intro (fun x => by kernel_rfl) ?_)
  refine Exists.intro (.tup [.a [.pl (allF runL zP runM 3).1], .a [.mem (allF runL zP runM 3).2.1], .v (.int .i64 0)]) (Exists.intro _ (And.intro (fun _ _ => And.intro rfl trivial) (And.intro (fun A x hx => by have h := c_All (.slice (some ⟨A 0, 0, none⟩) 3 3) runL zP runM 3 x (lst_own (hx.blk 0 _ _ rfl rfl)); rw [run_e] at h; exact h) ?_)))
  refine And.intro (fun _ => ?_) (fun h => by cases h)
  refine And.intro (fun _ => ?_) (fun h => ?_)
  · refine Exists.intro 5 (And.intro rfl (And.intro (by decide) ?_))
    refine And.intro (by decide) ?_
    refine And.intro (fun _ => ?_) (fun h => ?_)
    · exact rfl
    · have h1 : ((allF runL zP runM 3).2.1 5 == 0) = false := h
      rw [run_m] at h1; cases h1
  · have h1 : ((allF runL zP runM 3).1.a == 3) = false := h
    rw [run_a] at h1; cases h1

end Go.Proofs.Ytjbbgpacijageaa
