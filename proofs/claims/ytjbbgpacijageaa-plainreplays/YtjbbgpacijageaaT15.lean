/- Steps of a walk, one by one. No program is named here. -/
import Derived.Test.YtjbbgpacijageaaT14
namespace Go.Proofs.Ytjbbgpacijageaa.M
open Go.RowKit
set_option linter.unusedVariables false

/-- To be looked at next. -/
structure Go (p : Prop) : Prop where
  out : p

/-- Two ways of the text. -/
structure Fork (b : Bool) (p q : Prop) : Prop where
  t : b = true → p
  f : b = false → q
theorem Fork.yes {p q : Prop} (h : p) : Fork true p q := Fork.mk (fun _ => h) (fun h => Bool.noConfusion h)
theorem Fork.no {p q : Prop} (h : q) : Fork false p q := Fork.mk (fun h => Bool.noConfusion h) (fun _ => h)
theorem Fork.dec {p : Prop} [i : Decidable p] {x y : Prop} (h : p → x) (k : ¬ p → y) : Fork (decide p) x y := Fork.mk (fun e => h (of_decide_eq_true e)) (fun e => k (of_decide_eq_false e))
theorem Fork.ndec {p : Prop} [i : Decidable p] {x y : Prop} (h : ¬ p → x) (k : p → y) : Fork (!decide p) x y := Fork.mk (fun e => h (by simpa using e)) (fun e => k (by simpa using e))
theorem Way.yesG {p q : Prop} (h : Go p) : Way true p q := Way.yes h.out
theorem Way.noG {p q : Prop} (h : Go q) : Way false p q := Way.no h.out
theorem Way.decG {p : Prop} [i : Decidable p] {x y : Prop} (h : p → Go x) (k : ¬ p → Go y) : Way (decide p) x y := Way.dec (fun e => (h e).out) (fun e => (k e).out)
theorem Way.ndecG {p : Prop} [i : Decidable p] {x y : Prop} (h : ¬ p → Go x) (k : p → Go y) : Way (!decide p) x y := Way.ndec (fun e => (h e).out) (fun e => (k e).out)
theorem Way.mkG {b : Bool} {x y : Prop} (h : b = true → Go x) (k : b = false → Go y) : Way b x y := Way.mk (fun e => (h e).out) (fun e => (k e).out)
theorem Need.mkG {p q : Prop} (h : p) (k : Go q) : Need p q := ⟨h, k.out⟩

/-- The first token is that list's. -/
theorem AppW.go0 {e : Ty} {h : Hd} {xs ys : List e.D} {n : Nat} {tk : List (Hd × Nat)} {k : SV → NS → Prop} (hb : xs.length + ys.length ≤ 140737488355328 ∧ (xs.length + ys.length) * e.byt ≤ 140737488355328) (hk : Go (k (.a (.of (.leaf (.lst e) (.nm n, xs ++ ys)))) ⟨n + 1, (.nm n, e.sz) :: tk⟩)) : AppW e h xs ys ⟨n, (h, e.sz) :: tk⟩ k := ⟨0, rfl, hb, hk.out⟩
theorem NilW.goG {α : Type} {xs : List α} {k : Bool → Prop} (h1 : xs = [] → Go (k true)) (h2 : Go (k false)) : NilW xs k := ⟨fun h => (h1 h).out, h2.out⟩
section
variable {T : Tab} {S : List (Nat × Spec)} {N : Nat}

theorem init_k {ts : List Ty} {d : DL ts} {n : Nat} {k : Fr → Prop} (h : ∀ K1 : Fr → Prop, (∀ f, k f → K1 f) → initK ts d n K1) : initK ts d n k := h _ fun _ h => h

def stepK (T : Tab) (S : List (Nat × Spec)) (N : Nat) (ds : List (Option Tmp)) (o : Oper) (f : Fr) (bl : List V) (nn : NS) (K : Fr → List V → NS → Prop) : Prop :=
  guardK ds o.guard f
      (fun f => oneK T S N o f bl nn K)
      (fun f => putK N o.dst und f fun f' => K f' bl nn)
theorem seq_k {ds : List (Option Tmp)} {o : Oper} {r : List Oper} {f : Fr} {bl : List V} {nn : NS} {K : Fr → List V → NS → Prop}
    (h : ∀ K1 : Fr → List V → NS → Prop, (∀ f bl nn, seqK T S N ds r f bl nn K → K1 f bl nn) → Go (stepK T S N ds o f bl nn K1)) : seqK T S N ds (o :: r) f bl nn K := (h _ fun _ _ _ h => h).out
theorem seq_nil {ds : List (Option Tmp)} {f : Fr} {bl : List V} {nn : NS} {K : Fr → List V → NS → Prop} (h : K f bl nn) : seqK T S N ds [] f bl nn K := h

def dstepK (T : Tab) (S : List (Nat × Spec)) (N : Nat) (ds : List (Option Tmp)) (o : Oper) (lg : List Lg) (f : Fr) (bl : List V) (nn : NS) (K : List Lg → Fr → List V → NS → Prop) : Prop :=
  guardK ds o.guard f
      (fun f => opK T S o f bl nn.n fun
        | ⟨v, ef, m, rd, q, cr⟩ => efK bl ef fun bl' => lenK bl 0 fun n => putK N o.dst v f fun f' => addK nn cr m fun nn' => K (⟨rd ++ efW n ef, efW n ef, q, cr⟩ :: lg) f' bl' nn')
      (fun f => putK N o.dst und f fun f' => K (⟨[], [], false, false⟩ :: lg) f' bl nn)
theorem drw_k {ops : List Oper} {ds : List (Option Tmp)} {o : Oper} {r : List Oper} {lg : List Lg} {f : Fr} {bl : List V} {nn : NS} {K : Fr → List V → NS → Prop}
    (h : ∀ K1 : List Lg → Fr → List V → NS → Prop, (∀ lg f bl nn, drwK T S N ops ds r lg f bl nn K → K1 lg f bl nn) → Go (dstepK T S N ds o lg f bl nn K1)) : drwK T S N ops ds (o :: r) lg f bl nn K := (h _ fun _ _ _ _ h => h).out
theorem drw_nil {ops : List Oper} {ds : List (Option Tmp)} {lg : List Lg} {f : Fr} {bl : List V} {nn : NS} {K : Fr → List V → NS → Prop} (hl : (okLog ops lg.reverse && okCr lg) = true) (h : K f bl nn) : drwK T S N ops ds [] lg f bl nn K := ⟨hl, h⟩

theorem dstK_intro : ∀ (l : List Oper) (k : List (Option Tmp) → Prop), k (l.map (·.dst)) → dstK l k
  | [], k, h => h
  | o :: r, k, h => by
    unfold dstK
    rw [List.map_cons] at h
    split
    · rename_i t ht
      rw [ht] at h; exact dstK_intro r _ h
    · rename_i ht
      rw [ht] at h; exact dstK_intro r _ h

variable {n : Nat} {k : List It} {f : Fr} {bl : List V} {nn : NS}
theorem run_skip (h : run T S N n k f bl nn) : run T S N (n + 1) (.code .skip :: k) f bl nn := h
theorem run_seq {a b : Code} (h : run T S N n (.code a :: .code b :: k) f bl nn) : run T S N (n + 1) (.code (.seq a b) :: k) f bl nn := h
theorem run_block {id : Nat} {a : Code} (h : run T S N n (.code a :: .block id :: k) f bl nn) : run T S N (n + 1) (.code (.block id a) :: k) f bl nn := h
theorem run_endb {id : Nat} (h : run T S N n k f bl nn) : run T S N (n + 1) (.block id :: k) f bl nn := h
def condK (c : Operand) (f : Fr) (p q : Prop) : Prop := match evS f c with | some (.a (.of (.leaf .bool t))) => Fork t p q | _ => False
theorem run_cond {c : Operand} {a b : Code} (h : Go (condK c f (run T S N n (.code a :: k) f bl nn) (run T S N n (.code b :: k) f bl nn))) : run T S N (n + 1) (.code (.cond c a b) :: k) f bl nn := by
  have h1 := h.out
  show (match evS f c with | some (.a (.of (.leaf .bool t))) => Way t (run T S N n (.code a :: k) f bl nn) (run T S N n (.code b :: k) f bl nn) | _ => False)
  unfold condK at h1
  split at h1
  · exact Way.mk h1.t h1.f
  · exact h1.elim
def exitK (id : Nat) (k : List It) (K : List It → Prop) : Prop := match popB id k with | some k' => K k' | none => False
def leaveK (k : List It) (K : List It → Prop) : Prop := match popR k with | some k' => K k' | none => False
theorem run_exit {id : Nat} (h : ∀ K1 : List It → Prop, (∀ k', run T S N n k' f bl nn → K1 k') → Go (exitK id k K1)) : run T S N (n + 1) (.code (.exit id) :: k) f bl nn := (h _ fun _ h => h).out
theorem run_ret (h : ∀ K1 : List It → Prop, (∀ k', run T S N n k' f bl nn → K1 k') → Go (leaveK k K1)) : run T S N (n + 1) (.code .ret :: k) f bl nn := (h _ fun _ h => h).out
theorem run_fin {rs : List ResultVar} {ts : List Ty} {K : DL ts → List V → NS → Prop} (h : Go (resK T f bl rs ts fun d => K d bl nn)) : run T S N (n + 1) (.fin rs ts K :: k) f bl nn := h.out
theorem run_inv {I : Fr → List V → NS → Prop} (h : Go (I f bl nn)) : run T S N (n + 1) (.inv I :: k) f bl nn := h.out
theorem run_regS {id : Nat} {l : List Oper} (h : seqK T S N (l.map (·.dst)) l f bl nn (run T S N n k)) : run T S N (n + 1) (.code (.region id l.toArray false) :: k) f bl nn := dstK_intro l _ h
/-- No operation is a call that is walked there. -/
def noM (S : List (Nat × Spec)) : List Oper → Bool
  | [] => true
  | o :: r => match o.op with
    | .call c => match c.callee with
      | .value (.func g) => match spL S g with
        | some ⟨_, _, _, _, _, _, some _⟩ => false
        | _ => noM S r
      | .value _ => false
      | _ => noM S r
    | _ => noM S r
theorem run_regD {id : Nat} {l : List Oper} (hno : noM S l = true) (hok : okRegion l = true) (h : drwK T S N l (l.map (·.dst)) l [] f bl nn (run T S N n k)) : run T S N (n + 1) (.code (.region id l.toArray true) :: k) f bl nn := Or.inl ⟨hok, dstK_intro l _ h⟩
theorem run_regT {id : Nat} {l : List Oper} (p q : List Oper) (hl : p ++ q = l) (hok : tailOk l p.length = true) (h : drwK T S N p (p.map (·.dst)) p [] f bl nn fun f bl nn => seqK T S N (l.map (·.dst)) q f bl nn (run T S N n k)) : run T S N (n + 1) (.code (.region id l.toArray true) :: k) f bl nn := by
  refine Or.inr ⟨p.length, hok, ?_⟩
  have e1 : l.take p.length = p := by rw [← hl, List.take_left']; rfl
  have e2 : l.drop p.length = q := by rw [← hl, List.drop_left']; rfl
  show drwK T S N (l.take p.length) ((l.take p.length).map (·.dst)) (l.take p.length) [] f bl nn fun f bl nn => seqK T S N (l.map (·.dst)) (l.drop p.length) f bl nn (run T S N n k)
  rw [e1, e2]
  exact h
theorem inl_k {fn : Func} {cd : Code} {ts : List Ty} {args : List AV} {K : SV → List V → NS → Prop} (hb : fn.body = some cd) (hle : args.length ≤ fn.ntmps)
    (h : ∀ K1 : Nat → Fr → Prop, (∀ b f, run { T with base := b, top := false } S fn.ntmps 200 [.code cd, .fin fn.results.toList ts fun r bl' nn' => retK ts r fun v => K v bl' nn'] f bl nn → K1 b f) → Go (lenK bl 0 fun b => initAK args 0 fun f => K1 b f)) : Inl T S fn ts args bl nn K := ⟨hle, cd, hb, 200, (h (fun b f => run { T with base := b, top := false } S fn.ntmps 200 [.code cd, .fin fn.results.toList ts fun r bl' nn' => retK ts r fun v => K v bl' nn'] f bl nn) fun _ _ h => h).out⟩
theorem inlA_k {fn : Func} {cd : Code} {args : List AV} {K : SV → List V → NS → Prop} (hb : fn.body = some cd) (hle : args.length ≤ fn.ntmps)
    (h : ∀ K1 : Nat → Fr → Prop, (∀ b f, run { T with base := b, top := false } S fn.ntmps 200 [.code cd, .finA fn.results.toList fun l bl' nn' => retAK l fun v => K v bl' nn'] f bl nn → K1 b f) → Go (lenK bl 0 fun b => initAK args 0 fun f => K1 b f)) : InlA T S fn args bl nn K := ⟨hle, cd, hb, 200, (h (fun b f => run { T with base := b, top := false } S fn.ntmps 200 [.code cd, .finA fn.results.toList fun l bl' nn' => retAK l fun v => K v bl' nn'] f bl nn) fun _ _ h => h).out⟩
theorem run_finA {rs : List ResultVar} {K : List AV → List V → NS → Prop} (h : Go (resA T f bl rs fun l => K l bl nn)) : run T S N (n + 1) (.finA rs K :: k) f bl nn := h.out
theorem run_loop {a : Code} (h : (∃ m, rounds (fun I => run T S N n (.code a :: .inv I :: k)) m f bl nn) ∨
        ∃ I : Nat → Fr → List V → NS → Prop, (∃ j, Ent T.base (I j) f bl nn) ∧ ∀ j f bl nn, I j f bl nn → run T S N n (.code a :: .inv (fun f' bl' nn' => ∃ j', j' < j ∧ Ent T.base (I j') f' bl' nn') :: k) f bl nn) : run T S N (n + 1) (.code (.loop a) :: k) f bl nn := h
theorem unroll {a : Code} (m : Nat) (h : rounds (fun I => run T S N n (.code a :: .inv I :: k)) m f bl nn) : run T S N (n + 1) (.code (.loop a) :: k) f bl nn := Or.inl ⟨m, h⟩
theorem rounds_succ {R : (Fr → List V → NS → Prop) → Fr → List V → NS → Prop} {m : Nat} (h : R (rounds R m) f bl nn) : rounds R (m + 1) f bl nn := h
theorem go_rounds {R : (Fr → List V → NS → Prop) → Fr → List V → NS → Prop} {m : Nat} (h : R (rounds R m) f bl nn) : Go (rounds R (m + 1) f bl nn) := ⟨h⟩
end

end Go.Proofs.Ytjbbgpacijageaa.M
