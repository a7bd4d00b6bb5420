/- Operations on single cells of blocks; results that are structs. No program is named here. -/
import Derived.Test.YtjbbgpacijageaaOpl
import Derived.Test.YtjbbgpacijageaaAbs2
namespace Go.Proofs.Ytjbbgpacijageaa
open Go.RowKit
set_option linter.unusedVariables false
set_option linter.unusedSimpArgs false

theorem below_put {w x : World} (h : Below w.heap.size w x) (b : Nat) (D : Array Value) : Below (putB w b D).heap.size (putB w b D) (putB x b D) := by
  obtain ⟨u, hu⟩ := (⟨x, h⟩ : Up w).put b D
  rw [show putB x b D = u.x from hu]
  exact u.h

section
variable {P : Program}

theorem storeVar_one {w : World} {b : Nat} {C : Array Value} {t T : TypeId} (h : HB w b C t) (hT : (P.info? T).map (·.size) = some 1) {k : Nat} (hk : k < C.size) {v : Value} (hv : v.cells = #[v]) (h1 : v.oneCell' = true) :
    (storeVar T ⟨b, k, none⟩ v).run P w = .ok () (putB w b (C.setIfInBounds k v)) := by
  have hs := run_storeCells_cells (P := P) b k [v] 0 w (fun j hj => by
    have : j = 0 := by simpa using hj
    subst this
    rw [h.cell]; simp; omega) (fun j hj => h.frozen _) (fun u hu => by simp at hu; subst hu; exact h1)
  simp only [Nat.add_zero] at hs
  rw [← setCell_putB h]
  cases hq : P.info? T with
  | none => simp [hq] at hT
  | some i =>
    have hi : i.size = 1 := by simpa [hq] using hT
    simp [storeVar, sizeOf, typeInfo, hq, hv, hi, hs, World.setCells]

variable {ops : Array Oper} {rest : List Oper} {Q : Exit → Act → World → Prop}

theorem exec_store1 {o : Oper} {a : Act} {w : World} {T t : TypeId} {x y : Operand} {b k : Nat} {C : Array Value} {v : Value} (ho : o.op = .store T x y) (hx : a.eval x = .pointer (some ⟨b, k, none⟩)) (hy : a.eval y = v)
    (hT : (P.info? T).map (·.size) = some 1) (hC : HB w b C t) (hk : k < C.size) (hv : v.cells = #[v]) (h1 : v.oneCell' = true) : (execOp a.eval o).run P w = .ok .skip (putB w b (C.setIfInBounds k v)) := by
  unfold execOp
  simp only [ho, hx, hy, Instr.storeAt, Instr.sureAddr, Sem.run_bind, Sem.run_pure, Result.andThen_ok, storeVar_one hC hT hk hv h1]

/-- One cell of a block is written. -/
theorem wpl_store1 {T ty t : TypeId} {x y : Operand} {pos : String} {after : Array Edge} {g : Option (Nat × Bool)} {a : Act} {w : World} {b k : Nat} {C D : Array Value} {v : Value}
    (hw : Region.wanted ⟨none, .store T x y, ty, pos, after, g⟩ (yielded ops a.tmps) = true) (hx : a.eval x = .pointer (some ⟨b, k, none⟩)) (hy : a.eval y = v) (hT : (P.info? T).map (·.size) = some 1) (hC : HB w b C t) (hk : k < C.size)
    (hv : v.cells = #[v]) (h1 : v.oneCell' = true) (hD : C.setIfInBounds k v = D) (h : wpList P ops Q rest a (putB w b D)) : wpList P ops Q (⟨none, .store T x y, ty, pos, after, g⟩ :: rest) a w := by
  subst hD
  exact wpl_skip hw (exec_store1 rfl hx hy hT hC hk hv h1) h

/-- A whole struct or array is written into a block. -/
theorem wpl_storeAll {T ty t : TypeId} {x y : Operand} {pos : String} {after : Array Edge} {g : Option (Nat × Bool)} {a : Act} {w : World} {b n : Nat} {C D : Array Value}
    (hw : Region.wanted ⟨none, .store T x y, ty, pos, after, g⟩ (yielded ops a.tmps) = true) (hx : a.eval x = .pointer (some ⟨b, 0, none⟩)) (hy : a.eval y = .agg D) (hT : rowB P T n = true) (hC : HB w b C t) (hs : C.size = n)
    (hD : D.size = n) (h1 : D.all (·.oneCell') = true) (h : wpList P ops Q rest a (putB w b D)) : wpList P ops Q (⟨none, .store T x y, ty, pos, after, g⟩ :: rest) a w :=
  wpl_skip hw (exec_store rfl hx hy hT hC hs hD h1) h

/-- Results: a struct, a number; two structs, a number; one struct. -/
theorem results_c1 {fn : Func} {p : Tmp} {T t : TypeId} {n b : Nat} {C : Array Value} (h : fn.results = #[.cell p T]) {tmps : Array Value} {w : World} (hp : tmps.getD p undef = .pointer (some ⟨b, 0, none⟩))
    (hT : rowB P T n = true) (hC : HB w b C t) (hs : C.size = n) : (results fn tmps).run P w = .ok (.agg C) w := by
  rw [Array.getD_eq_getD_getElem?] at hp
  simp only [results, h]
  simp [Sem.run_bind, Result.andThen, hp, asAddr, loadVar_all hC hT hs]

theorem results_ct {fn : Func} {p u : Tmp} {T t : TypeId} {n b : Nat} {C : Array Value} {v : Value} (h : fn.results = #[.cell p T, .tmp u]) {tmps : Array Value} {w : World} (hp : tmps.getD p undef = .pointer (some ⟨b, 0, none⟩))
    (hu : tmps.getD u undef = v) (hT : rowB P T n = true) (hC : HB w b C t) (hs : C.size = n) : (results fn tmps).run P w = .ok (.tuple #[.agg C, v]) w := by
  rw [Array.getD_eq_getD_getElem?] at hp hu
  simp only [results, h]
  simp [Sem.run_bind, Result.andThen, hp, hu, asAddr, loadVar_all hC hT hs]

theorem results_cct {fn : Func} {p q u : Tmp} {T T' t t' : TypeId} {n n' b b' : Nat} {C C' : Array Value} {v : Value} (h : fn.results = #[.cell p T, .cell q T', .tmp u]) {tmps : Array Value} {w : World}
    (hp : tmps.getD p undef = .pointer (some ⟨b, 0, none⟩)) (hq : tmps.getD q undef = .pointer (some ⟨b', 0, none⟩)) (hu : tmps.getD u undef = v) (hT : rowB P T n = true) (hT' : rowB P T' n' = true) (hC : HB w b C t) (hC' : HB w b' C' t') (hs : C.size = n) (hs' : C'.size = n') :
    (results fn tmps).run P w = .ok (.tuple #[.agg C, .agg C', v]) w := by
  rw [Array.getD_eq_getD_getElem?] at hp hq hu
  simp only [results, h]
  simp [Sem.run_bind, Result.andThen, hp, hq, hu, asAddr, loadVar_all hC hT hs, loadVar_all hC' hT' hs']

end
end Go.Proofs.Ytjbbgpacijageaa
