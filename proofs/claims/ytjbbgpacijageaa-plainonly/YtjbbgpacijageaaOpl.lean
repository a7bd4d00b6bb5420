/- Operations on whole structs and arrays, in a plain region and in one that draws its order. No program is named here. -/
import Derived.Test.YtjbbgpacijageaaBlk
namespace Go.Proofs.Ytjbbgpacijageaa
open Go.RowKit
set_option linter.unusedVariables false

section
variable {P : Program}

theorem exec_load {o : Oper} {a : Act} {w : World} {T t : TypeId} {y : Operand} {b n : Nat} {C : Array Value} (ho : o.op = .load T y) (hy : a.eval y = .pointer (some ⟨b, 0, none⟩))
    (hT : rowB P T n = true) (hC : HB w b C t) (hs : C.size = n) : (execOp a.eval o).run P w = .ok (.value (.agg C)) w := by
  unfold execOp
  simp only [ho, hy, Instr.loadAt, Instr.sureAddr, Sem.run_bind, Sem.run_pure, Result.andThen_ok, loadVar_all hC hT hs]

theorem exec_loadAt {o : Oper} {a : Act} {w : World} {T t : TypeId} {y : Operand} {b off n : Nat} {C D : Array Value} (ho : o.op = .load T y) (hy : a.eval y = .pointer (some ⟨b, off, none⟩))
    (hT : rowB P T n = true) (hC : HB w b C t) (hs : off + n ≤ C.size) (hD : C.extract off (off + n) = D) : (execOp a.eval o).run P w = .ok (.value (.agg D)) w := by
  unfold execOp
  simp only [ho, hy, Instr.loadAt, Instr.sureAddr, Sem.run_bind, Sem.run_pure, Result.andThen_ok, loadVar_blk hC hT off hs, hD]

theorem exec_store {o : Oper} {a : Act} {w : World} {T t : TypeId} {x y : Operand} {b n : Nat} {C D : Array Value} (ho : o.op = .store T x y) (hx : a.eval x = .pointer (some ⟨b, 0, none⟩)) (hy : a.eval y = .agg D)
    (hT : rowB P T n = true) (hC : HB w b C t) (hs : C.size = n) (hD : D.size = n) (h1 : D.all (·.oneCell') = true) : (execOp a.eval o).run P w = .ok .skip (putB w b D) := by
  unfold execOp
  simp only [ho, hx, hy, Instr.storeAt, Instr.sureAddr, Sem.run_bind, Sem.run_pure, Result.andThen_ok, storeVar_blk hC hT 0 D hD (by omega) h1]
  rw [sets_all (by omega)]

theorem exec_storeAt {o : Oper} {a : Act} {w : World} {T t : TypeId} {x y : Operand} {b off n : Nat} {C D E : Array Value} (ho : o.op = .store T x y) (hx : a.eval x = .pointer (some ⟨b, off, none⟩)) (hy : a.eval y = .agg D)
    (hT : rowB P T n = true) (hC : HB w b C t) (hs : off + n ≤ C.size) (hD : D.size = n) (h1 : D.all (·.oneCell') = true) (hE : sets C off D.toList = E) : (execOp a.eval o).run P w = .ok .skip (putB w b E) := by
  unfold execOp
  simp only [ho, hx, hy, Instr.storeAt, Instr.sureAddr, Sem.run_bind, Sem.run_pure, Result.andThen_ok, storeVar_blk hC hT off D hD (by omega) h1, hE]

/-! ### In a plain region -/
variable {ops : Array Oper} {rest : List Oper} {Q : Exit → Act → World → Prop}

theorem wpl_value {o : Oper} {a : Act} {w : World} {v : Value} (hw : Region.wanted o (yielded ops a.tmps) = true) (hr : (execOp a.eval o).run P w = .ok (.value v) w) (h : wpList P ops Q rest (a.put o.dst v) w) : wpList P ops Q (o :: rest) a w :=
  wpList_step fun K hK => by
    rw [if_pos hw]
    unfold Oper.wp
    rw [hr]
    exact hK _ _ h

theorem wpl_skip {o : Oper} {a : Act} {w w' : World} (hw : Region.wanted o (yielded ops a.tmps) = true) (hr : (execOp a.eval o).run P w = .ok .skip w') (h : wpList P ops Q rest (a.put o.dst undef) w') : wpList P ops Q (o :: rest) a w :=
  wpList_step fun K hK => by
    rw [if_pos hw]
    unfold Oper.wp
    rw [hr]
    exact hK _ _ h

/-- A store of a whole struct or array into a block of the function's own. -/
theorem wpl_store_up {W W' : World} {u : Up W} {o : Oper} {a : Act} {T t : TypeId} {x y : Operand} {b n : Nat} {C D : Array Value} (hw : Region.wanted o (yielded ops a.tmps) = true) (ho : o.op = .store T x y)
    (hx : a.eval x = .pointer (some ⟨b, 0, none⟩)) (hy : a.eval y = .agg D) (hT : rowB P T n = true) (hC : HB u.x b C t) (hs : C.size = n) (hD : D.size = n) (h1 : D.all (·.oneCell') = true)
    (hW : putB W b D = W') (h : ∀ v : Up W', wpList P ops Q rest (a.put o.dst undef) v.x) : wpList P ops Q (o :: rest) a u.x := by
  refine wpl_skip hw (exec_store ho hx hy hT hC hs hD h1) ?_
  obtain ⟨v, hv⟩ := u.put b D
  rw [hv]
  subst hW
  exact h v

/-! ### In a region that draws its order -/
variable {opl : List Oper} {Base : World → Prop} {st : List (Nat × Array Value × TypeId)}

theorem abs_skip {o : Oper} {a : Act} (hw : Region.wanted o (yielded opl.toArray a.tmps) = false) (h : absWalk P opl Base Q rest (a.put o.dst undef) st) : absWalk P opl Base Q (o :: rest) a st :=
  ⟨(undef, none), by unfold okEff; rw [if_neg (by rw [hw]; exact Bool.false_ne_true)], (fun _ _ _ hx => by cases hx), h⟩

theorem abs_val {o : Oper} {a : Act} {v : Value} (hw : Region.wanted o (yielded opl.toArray a.tmps) = true) (hv : ∀ w, Base w → (execOp a.eval o).run P w = .ok (.value v) w) (h : absWalk P opl Base Q rest (a.put o.dst v) st) :
    absWalk P opl Base Q (o :: rest) a st :=
  ⟨(v, none), by unfold okEff; rw [if_pos hw]; intro w hb; rw [hv w hb]; exact ⟨rfl, rfl⟩, (fun _ _ _ hx => by cases hx), h⟩

theorem abs_call {o : Oper} {a : Act} {v : Value} {f : FuncId} {args : Array Value} (hw : Region.wanted o (yielded opl.toArray a.tmps) = true) (hx : ∀ w, Base w → (execOp a.eval o).run P w = .ok (.enter f args) w)
    (hc : ∀ w, Base w → Calls P f args w fun e w' => e = .returned v ∧ Below w.heap.size w w') (h : absWalk P opl Base Q rest (a.put o.dst v) st) : absWalk P opl Base Q (o :: rest) a st :=
  ⟨(v, none), by unfold okEff; rw [if_pos hw]; intro w hb; rw [hx w hb]; exact ⟨rfl, hc w hb⟩, (fun _ _ _ hx => by cases hx), h⟩

theorem abs_store {o : Oper} {a : Act} {b : Nat} {D : Array Value} {t : TypeId} (hw : Region.wanted o (yielded opl.toArray a.tmps) = true) (hd : ∀ s ∈ st, s.1 ≠ b)
    (hs : ∀ w, Base w → (execOp a.eval o).run P w = .ok .skip (putB w b D) ∧ Base (putB w b D) ∧ HB (putB w b D) b D t) (h : absWalk P opl Base Q rest (a.put o.dst undef) ((b, D, t) :: st)) :
    absWalk P opl Base Q (o :: rest) a st := by
  refine ⟨(undef, some (b, D, t)), ?_, fun s hs' x hx => by cases hx; exact hd s hs', h⟩
  unfold okEff
  rw [if_pos hw]
  refine ⟨rfl, fun w hb => ?_⟩
  obtain ⟨h1, h2, h3⟩ := hs w hb
  exact ⟨_, h1, h2, h3, fun k hk => putB_ne _ _ _ hk⟩

theorem abs_end {a : Act} (h : ∀ w, Base w → (∀ s ∈ st, w.heap[s.1]? = some (.cells s.2.1 s.2.2)) → Q .normal a w) : absWalk P opl Base Q [] a st := h

theorem abs_load {d : Option Tmp} {T ty t : TypeId} {y : Operand} {pos : String} {after : Array Edge} {g : Option (Nat × Bool)} {a : Act} {b n : Nat} {C : Array Value}
    (hw : Region.wanted ⟨d, .load T y, ty, pos, after, g⟩ (yielded opl.toArray a.tmps) = true) (hy : a.eval y = .pointer (some ⟨b, 0, none⟩)) (hT : rowB P T n = true) (hC : ∀ w, Base w → HB w b C t) (hs : C.size = n)
    (h : absWalk P opl Base Q rest (a.put d (.agg C)) st) : absWalk P opl Base Q (⟨d, .load T y, ty, pos, after, g⟩ :: rest) a st :=
  abs_val hw (fun w hb => exec_load rfl hy hT (hC w hb) hs) h

theorem abs_storeAll {d : Option Tmp} {T ty t : TypeId} {x y : Operand} {pos : String} {after : Array Edge} {g : Option (Nat × Bool)} {a : Act} {b n : Nat} {C D : Array Value}
    (hw : Region.wanted ⟨d, .store T x y, ty, pos, after, g⟩ (yielded opl.toArray a.tmps) = true) (hx : a.eval x = .pointer (some ⟨b, 0, none⟩)) (hy : a.eval y = .agg D) (hT : rowB P T n = true) (hC : ∀ w, Base w → ∃ C, HB w b C t ∧ C.size = n)
    (hD : D.size = n) (h1 : D.all (·.oneCell') = true) (hB : ∀ w, Base w → Base (putB w b D)) (hd : ∀ s ∈ st, s.1 ≠ b)
    (h : absWalk P opl Base Q rest (a.put d undef) ((b, D, t) :: st)) : absWalk P opl Base Q (⟨d, .store T x y, ty, pos, after, g⟩ :: rest) a st :=
  abs_store hw hd (fun w hb => by
    obtain ⟨C, hc, hs⟩ := hC w hb
    exact ⟨exec_store rfl hx hy hT hc hs hD h1, hB w hb, hc.put D⟩) h

theorem wpl_load {d : Option Tmp} {T ty t : TypeId} {y : Operand} {pos : String} {after : Array Edge} {g : Option (Nat × Bool)} {a : Act} {w : World} {b n : Nat} {C : Array Value}
    (hw : Region.wanted ⟨d, .load T y, ty, pos, after, g⟩ (yielded ops a.tmps) = true) (hy : a.eval y = .pointer (some ⟨b, 0, none⟩)) (hT : rowB P T n = true) (hC : HB w b C t) (hs : C.size = n)
    (h : wpList P ops Q rest (a.put d (.agg C)) w) : wpList P ops Q (⟨d, .load T y, ty, pos, after, g⟩ :: rest) a w :=
  wpl_value hw (exec_load rfl hy hT hC hs) h

end
end Go.Proofs.Ytjbbgpacijageaa
