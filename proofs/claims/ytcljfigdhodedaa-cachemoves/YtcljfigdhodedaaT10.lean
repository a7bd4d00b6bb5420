/- States, frames, regions in the order of the text. No program is named here. -/
import Derived.Test.YtcljfigdhodedaaT9c
namespace Go.Proofs.Ytcljfigdhodedaa.M
open Go.RowKit
set_option linter.unusedVariables false
set_option linter.unusedSimpArgs false

structure FR (N : Nat) (c : Cx) (f : Fr) (a : Act) : Prop where
  size : a.tmps.size = N
  defers : a.defers = []
  get : ∀ t s, look f t = some s → a.tmps[t]? = some (s.val c.E) ∧ s.ok c

def opK (T : Tab) (S : List (Nat × Spec)) (o : Oper) (f : Fr) (bl : List V) (nn : Nat) (k : Out → Prop) : Prop :=
  match o.op with
  | .call c => match c.callee with
    | .builtin .copy => copyK T c f bl k
    | .builtin .append => appK T c f nn k
    | _ => callK T S c f bl nn k
  | .buildSlice t len parts => bslK T t len parts.toList f nn k
  | .makeFunc fn first captured => mkfK fn first.toList captured.toList f k
  | .nilCheck x => nilK T x f bl k
  | .slice t x low high max => sliceK T t x low high max f k
  | op => sopK T op f bl k

def setB : List V → Nat → V → (List V → Prop) → Prop
  | [], _, _, _ => False
  | b :: r, n, y, k => match Nat.beq n 0 with | true => k (y :: r) | false => setB r (n - 1) y fun r' => k (b :: r')
def appB : List V → V → (List V → Prop) → Prop
  | [], y, k => k [y]
  | b :: r, y, k => appB r y fun r' => k (b :: r')
theorem setB_elim : ∀ (l : List V) (i : Nat) (y : V) (k : List V → Prop), setB l i y k → k (l.set i y) ∧ i < l.length
  | [], _, _, _, h => h.elim
  | b :: r, i, y, k, h => by
    unfold setB at h
    split at h
    · rename_i hb
      have := Nat.eq_of_beq_eq_true hb
      subst this
      exact ⟨h, by simp⟩
    · rename_i hb
      obtain ⟨h1, h2⟩ := setB_elim r _ y _ h
      cases i with
      | zero => simp at hb
      | succ i => exact ⟨h1, by simp at h2 ⊢; exact h2⟩
theorem appB_elim : ∀ (l : List V) (y : V) (k : List V → Prop), appB l y k → k (l ++ [y])
  | [], _, _, h => h
  | b :: r, y, k, h => appB_elim r y _ h
def efK (bl : List V) (ef : Ef) (k : List V → Prop) : Prop :=
  match ef with
  | .none => k bl
  | .set i y => setB bl i y k
  | .new y => appB bl y k
def putK (N : Nat) (d : Option Tmp) (s : SV) (f : Fr) (k : Fr → Prop) : Prop :=
  match d with
  | some d => match Nat.ble (d + 1) N with | true => k ((d, s) :: f) | false => False
  | none => k f
def lit (b : Bool) : SV := .a (.of (.leaf .bool b))
/-- The slots that the operations of a region write. -/
def dstK : List Oper → (List (Option Tmp) → Prop) → Prop
  | [], k => k []
  | o :: r, k => match o.dst with
    | some t => dstK r fun l => k (some t :: l)
    | none => dstK r fun l => k (none :: l)
theorem dstK_elim : ∀ (l : List Oper) (k : List (Option Tmp) → Prop), dstK l k → k (l.map (·.dst))
  | [], k, h => h
  | o :: r, k, h => by
    unfold dstK at h
    rw [List.map_cons]
    split at h
    · rename_i t ht
      rw [ht]; exact dstK_elim r _ h
    · rename_i ht
      rw [ht]; exact dstK_elim r _ h
def nthT : List (Option Tmp) → Nat → Option Tmp
  | [], _ => none
  | b :: r, n => match Nat.beq n 0 with | true => b | false => nthT r (n - 1)
theorem nthT_eq : ∀ (l : List (Option Tmp)) (i : Nat), nthT l i = (l[i]?).join
  | [], i => rfl
  | b :: r, i => by
    unfold nthT
    split
    · rename_i h
      have := Nat.eq_of_beq_eq_true h
      subst this; rfl
    · rename_i h
      rw [nthT_eq r]
      cases i with
      | zero => simp at h
      | succ i => simp
/-- Is it wanted? What was asked is known from then on. -/
def guardK (ds : List (Option Tmp)) (g : Option (Nat × Bool)) (f : Fr) (yes no : Fr → Prop) : Prop :=
  match g with
  | none => yes f
  | some (j, want) => match nthT ds j with
    | some t => match look f t with
      | some (.a (.of (.leaf .bool b))) => match want with
        | true => Way b (yes ((t, lit true) :: f)) (no ((t, lit false) :: f))
        | false => Way b (no ((t, lit true) :: f)) (yes ((t, lit false) :: f))
      | some (.a (.raw (.tuple _))) => no f
      | _ => False
    | none => False
def addK (nn : Nat) (cr : Bool) (m : Nat) (k : Nat → Prop) : Prop := match cr with | true => k (nn + m) | false => k nn

def evsK (f : Fr) : List Operand → (List AV → Prop) → Prop
  | [], k => k []
  | x :: r, k => match evS f x with
    | some (.a s) => evsK f r fun l => k (s :: l)
    | _ => False
def capA (c : Nat × Nat × List Step × Ty) : AV := .ptr c.1 c.2.1 c.2.2.1 c.2.2.2
def capsK : List (Nat × Nat × List Step × Ty) → (List AV → Prop) → Prop
  | [], k => k []
  | c :: cs, k => capsK cs fun l => k (capA c :: l)
def apsK (cs : List (Nat × Nat × List Step × Ty)) : List AV → (List AV → Prop) → Prop
  | [], k => capsK cs k
  | s :: r, k => apsK cs r fun l => k (s :: l)
/-- A call of a function that is walked there: what it is known by, its operands, what it has captured. -/
def mOf (S : List (Nat × Spec)) (f : Fr) (o : Oper) : Option (MTr × List Operand × List (Nat × Nat × List Step × Ty)) :=
  match o.op with
  | .call c => match c.callee with
    | .value x => match evS f x with
      | some (.a (.clo g cs)) => match spL S g with
        | some ⟨_, _, _, _, _, _, some tr⟩ => some (tr, c.args.toList, cs)
        | _ => none
      | _ => match x with
        | .func g => match spL S g with
          | some ⟨_, _, _, _, _, _, some tr⟩ => some (tr, c.args.toList, [])
          | _ => none
        | _ => none
    | _ => none
  | _ => none
def oneK (T : Tab) (S : List (Nat × Spec)) (N : Nat) (o : Oper) (f : Fr) (bl : List V) (nn : Nat) (K : Fr → List V → Nat → Prop) : Prop :=
  match mOf S f o with
  | some (tr, xs, cs) => evsK f xs fun l => apsK cs l fun l => tr l bl nn fun r bl' nn' => putK N o.dst r f fun f' => K f' bl' nn'
  | none => opK T S o f bl nn fun
        | ⟨v, ef, m, _, _, cr⟩ => efK bl ef fun bl' => putK N o.dst v f fun f' => addK nn cr m fun nn' => K f' bl' nn'

def seqK (T : Tab) (S : List (Nat × Spec)) (N : Nat) (ds : List (Option Tmp)) : List Oper → Fr → List V → Nat → (Fr → List V → Nat → Prop) → Prop
  | [], f, bl, nn, K => K f bl nn
  | o :: r, f, bl, nn, K => guardK ds o.guard f
      (fun f => oneK T S N o f bl nn fun f' bl' nn' => seqK T S N ds r f' bl' nn' K)
      (fun f => putK N o.dst und f fun f' => seqK T S N ds r f' bl nn K)

section
variable {P : Program} {T : Tab} {S : List (Nat × Spec)} {w0 : World} {F0 : Old} {N : Nat}

theorem evS_sound {c : Cx} {f : Fr} {a : Act} (h : FR N c f a) {x : Operand} {s : SV} (hx : evS f x = some s) : a.eval x = s.val c.E ∧ s.ok c := by
  cases x with
  | tmp t =>
    obtain ⟨h1, h2⟩ := h.get t s hx
    exact ⟨by simp only [Act.eval, Array.getD_eq_getD_getElem?, h1]; rfl, h2⟩
  | const v => cases hx; exact ⟨(constA_val _ v).symm, constA_ok _ v⟩
  | func g => cases hx; exact ⟨rfl, trivial⟩
  | global g => cases hx
theorem FR.mono {c c' : Cx} {f : Fr} {a : Act} (h : FR N c f a) (hle : c.Le c') : FR N c' f a :=
  ⟨h.size, h.defers, fun t s ht => by
    obtain ⟨h1, h2⟩ := h.get t s ht
    exact ⟨by rw [h1, SV.val_mono hle h2], SV.ok_mono hle h2⟩⟩
theorem FR.put {c : Cx} {f : Fr} {a : Act} (h : FR N c f a) {d : Nat} (hd : d < N) {s : SV} (hs : s.ok c) : FR N c ((d, s) :: f) (a.put (some d) (s.val c.E)) := by
  refine ⟨by simp [Act.put, h.size], h.defers, fun t u ht => ?_⟩
  unfold look at ht
  split at ht
  · rename_i hb
    have := Nat.eq_of_beq_eq_true hb
    subst this
    cases ht
    refine ⟨?_, hs⟩
    simp [Act.put, h.size, hd]
  · rename_i hb
    have hne : d ≠ t := fun e => by subst e; simp at hb
    obtain ⟨h1, h2⟩ := h.get t u ht
    refine ⟨?_, h2⟩
    simp only [Act.put, Array.getElem?_setIfInBounds_ne hne]
    exact h1
theorem putK_sound {d : Option Tmp} {s : SV} {f : Fr} {k : Fr → Prop} (h : putK N d s f k) {c : Cx} {a : Act} (hf : FR N c f a) (hs : s.ok c) : ∃ f', k f' ∧ FR N c f' (a.put d (s.val c.E)) := by
  unfold putK at h
  split at h
  · split at h
    · rename_i hd
      exact ⟨_, h, hf.put (Nat.le_of_ble_eq_true hd) hs⟩
    · exact h.elim
  · exact ⟨f, h, hf⟩
/-- A slot may be known better. -/
theorem FR.better {c : Cx} {f : Fr} {a : Act} (h : FR N c f a) {t : Nat} {b b' : Bool} (ht : look f t = some (.a (.of (.leaf .bool b)))) (hb : b = b') : FR N c ((t, lit b') :: f) a := by
  refine ⟨h.size, h.defers, fun u s hu => ?_⟩
  unfold look at hu
  split at hu
  · rename_i hbt
    have := Nat.eq_of_beq_eq_true hbt
    subst this
    cases hu
    subst hb
    exact h.get u _ ht
  · exact h.get u s hu

theorem guardK_sound {ops : List Oper} {o : Oper} {f : Fr} {yes no : Fr → Prop} (h : guardK (ops.map (·.dst)) o.guard f yes no) {c : Cx} {a : Act} (hf : FR N c f a) :
    (Region.wanted o (yielded ops.toArray a.tmps) = true ∧ ∃ f', yes f' ∧ FR N c f' a) ∨ (Region.wanted o (yielded ops.toArray a.tmps) = false ∧ ∃ f', no f' ∧ FR N c f' a) := by
  unfold guardK at h
  split at h
  · rename_i hg
    exact Or.inl ⟨by unfold Region.wanted; rw [hg], f, h, hf⟩
  · rename_i j want hg
    · split at h
      · rename_i t hj
        rw [nthT_eq] at hj
        have hjt : (ops.toArray[j]?).bind (·.dst) = some t := by
          simp only [List.getElem?_map] at hj
          cases ho : ops[j]? with
          | none => rw [ho] at hj; cases hj
          | some oj => rw [ho] at hj; simp [ho]; simpa using hj
        split at h
        · rename_i b hb
          have h1 := (hf.get t _ hb).1
          have hy : yielded ops.toArray a.tmps j = some b := by unfold yielded; rw [hjt]; simp [h1, SV.val, AV.val, V.val]
          have hw : Region.wanted o (yielded ops.toArray a.tmps) = (b == want) := by
            unfold Region.wanted
            rw [hg]
            simp [hy]
          rw [hw]
          split at h
          · cases hbb : b with
            | true => exact Or.inl ⟨rfl, _, h.t hbb, hf.better hb hbb⟩
            | false => exact Or.inr ⟨rfl, _, h.f hbb, hf.better hb hbb⟩
          · cases hbb : b with
            | true => exact Or.inr ⟨rfl, _, h.t hbb, hf.better hb hbb⟩
            | false => exact Or.inl ⟨rfl, _, h.f hbb, hf.better hb hbb⟩
        · rename_i q hb
          have h1 := (hf.get t _ hb).1
          have hy : yielded ops.toArray a.tmps j = none := by unfold yielded; rw [hjt]; simp [h1, SV.val, AV.val]
          refine Or.inr ⟨?_, f, h, hf⟩
          unfold Region.wanted
          rw [hg]
          simp [hy]
        · exact h.elim
      · exact h.elim

theorem opK_sound (hT : TabOk P T) (hS : SpecsOk P S) {o : Oper} {f : Fr} {bl : List V} {nn : Nat} {k : Out → Prop} (h : opK T S o f bl nn k) : ∃ out, k out ∧ Does P w0 F0 o f (fun i => bl[i]?) bl.length nn out := by
  unfold opK at h
  split at h
  · rename_i c ho
    split at h
    · rename_i hc
      exact copyK_sound hT ho hc h
    · rename_i hc
      exact appK_sound hT ho hc h
    · exact callK_sound hT hS ho h
  · rename_i t len parts ho
    exact bslK_sound hT ho h
  · rename_i fn first captured ho
    exact mkfK_sound ho h
  · rename_i x ho
    exact nilK_sound hT ho h
  · rename_i t x low high max ho
    exact sliceK_sound hT ho h
  · exact sopK_sound hT h

theorem lt_of_get {α : Type} {l : List α} {i : Nat} {b : α} (h : l[i]? = some b) : i < l.length := (List.getElem?_eq_some_iff.1 h).1

/-- The state behind an operation. -/
def efB (bl : List V) : Ef → List V
  | .none => bl
  | .set i y => bl.set i y
  | .new y => bl ++ [y]
theorem efK_elim {bl : List V} {ef : Ef} {k : List V → Prop} (h : efK bl ef k) : k (efB bl ef) := by
  cases ef with
  | none => exact h
  | set i y => exact (setB_elim _ _ _ _ h).1
  | new y => exact appB_elim _ _ _ h
theorem Real.step {bl : List V} {nn : Nat} {c : Cx} (hr : Real w0 F0 bl nn c) {out : Out} {v : Value} {x' : World} {E : Env} (hp : Post w0 F0 c out bl.length nn v x' E) : Real w0 F0 (efB bl out.ef) (nn + out.m) (c.ext out bl.length nn E x') ∧ c.Le (c.ext out bl.length nn E x') := by
  have hnew : (∃ y, out.ef = .new y) → ¬ c.XA bl.length := fun _ h => Nat.lt_irrefl _ ((hr.XA _).1 h)
  have hle := hp.le hr.wf hnew
  have hwf := hp.wf hr.wf hnew
  have hkeep : ∀ i v, bl[i]? = some v → (∀ y, out.ef ≠ .set i y) → (∃ e, HB x' (E.A i) (v.cells E.B).toArray e) ∧ v.okc (c.ext out bl.length nn E x') := fun i v hi hne => by
    obtain ⟨⟨e, h1⟩, h2⟩ := hr.blk i v hi
    have hXA := (hr.XA i).2 (lt_of_get hi)
    refine ⟨⟨e, ?_⟩, V.okc_mono hle h2⟩
    have hcells : v.cells E.B = v.cells c.E.B := V.cellsc hle h2
    rw [hcells, hp.A i hXA]
    unfold HB
    rw [hp.same.block _ h1.lt (by
      rintro ⟨j, y, hy, hj⟩
      have : i = j := hr.wf.inj i j hXA (hp.set j y hy).1 hj
      subst this
      exact hne y hy)]
    exact h1
  refine ⟨⟨hwf, fun i => ?_, fun n => ?_, fun i v hi => ?_, fun i v hi => ?_⟩, hle⟩
  · show (c.XA i ∨ (i = bl.length ∧ ∃ y, out.ef = .new y)) ↔ _
    rw [hr.XA]
    cases hef : out.ef with
    | none => simp [efB]
    | set j y => simp [efB]
    | new y => simp [efB]; omega
  · show (c.XB n ∨ (nn ≤ n ∧ n < nn + out.m)) ↔ _
    rw [hr.XB]
    omega
  · show (match out.ef with | .new y => if i = bl.length then some y.ty else c.ty i | _ => c.ty i) = some v.ty
    cases hef : out.ef with
    | none => rw [hef] at hi; exact hr.ty i v hi
    | set j y =>
      rw [hef] at hi
      simp only [efB] at hi
      rw [List.getElem?_set] at hi
      split at hi
      · rename_i hj
        subst hj
        split at hi
        · cases hi
          exact (hp.set j v hef).2.1
        · cases hi
      · exact hr.ty i v hi
    | new y =>
      rw [hef] at hi
      simp only [efB] at hi
      rw [List.getElem?_append] at hi
      split at hi
      · rename_i hlt
        simp only
        rw [if_neg (by omega)]
        exact hr.ty i v hi
      · rename_i hlt
        have : i = bl.length := by
          have := lt_of_get hi
          simp at this
          omega
        subst this
        simp at hi
        subst hi
        simp
  · cases hef : out.ef with
    | none => rw [hef] at hi; exact hkeep i v hi (fun y hy => by rw [hef] at hy; cases hy)
    | set j y =>
      rw [hef] at hi
      simp only [efB] at hi
      rw [List.getElem?_set] at hi
      split at hi
      · rename_i hj
        subst hj
        split at hi
        · cases hi
          exact (hp.set j v hef).2.2
        · cases hi
      · rename_i hj
        exact hkeep i v hi (fun z hz => by rw [hef] at hz; cases hz; exact hj rfl)
    | new y =>
      rw [hef] at hi
      simp only [efB] at hi
      rw [List.getElem?_append] at hi
      split at hi
      · exact hkeep i v hi (fun z hz => by rw [hef] at hz; cases hz)
      · rename_i hlt
        have : i = bl.length := by
          have := lt_of_get hi
          simp at this
          omega
        subst this
        simp at hi
        subst hi
        exact (hp.new y hef).2.2.2

/-- The worlds and frames that belong to what K holds. -/
def Sat (w0 : World) (F0 : Old) (N : Nat) (K : Fr → List V → Nat → Prop) (a : Act) (x : World) : Prop := ∃ f bl nn c, K f bl nn ∧ Real w0 F0 bl nn c ∧ FR N c f a ∧ c.x = x

theorem und_ok (c : Cx) : und.ok c := trivial

theorem evsK_elim {f : Fr} : ∀ (xs : List Operand) (k : List AV → Prop), evsK f xs k → ∃ l, k l ∧ l.length = xs.length ∧ ∀ (c : Cx) (a : Act), FR N c f a → xs.map a.eval = l.map (AV.val c.E) ∧ ∀ s ∈ l, s.ok c
  | [], k, h => ⟨[], h, rfl, fun c a _ => ⟨rfl, fun s hs => by cases hs⟩⟩
  | x :: r, k, h => by
    unfold evsK at h
    split at h
    · rename_i s hs
      obtain ⟨l, h1, h2, h3⟩ := evsK_elim r _ h
      refine ⟨s :: l, h1, by simp [h2], fun c a hf => ?_⟩
      obtain ⟨e1, e2⟩ := h3 c a hf
      obtain ⟨e3, e4⟩ := evS_sound hf hs
      refine ⟨by rw [List.map_cons, List.map_cons, e1, e3]; rfl, fun y hy => ?_⟩
      rcases List.mem_cons.1 hy with rfl | hy
      · exact e4
      · exact e2 y hy
    · exact h.elim
theorem capsK_elim : ∀ (cs : List (Nat × Nat × List Step × Ty)) (k : List AV → Prop), capsK cs k → k (cs.map capA)
  | [], k, h => h
  | c :: cs, k, h => capsK_elim cs _ h
theorem apsK_elim {cs : List (Nat × Nat × List Step × Ty)} : ∀ (l : List AV) (k : List AV → Prop), apsK cs l k → k (l ++ cs.map capA)
  | [], k, h => capsK_elim cs k h
  | s :: r, k, h => apsK_elim r _ h

/-- A call that is walked there. -/
theorem mOf_spec {o : Oper} {f : Fr} {tr : MTr} {xs : List Operand} {cs : List (Nat × Nat × List Step × Ty)} (hS : SpecsOk P S) (h : mOf S f o = some (tr, xs, cs)) : ∃ g, MOk P g tr ∧ ∀ (c : Cx) (a : Act), FR N c f a →
    (execOp a.eval o).run P c.x = .ok (.enter g ((xs.map a.eval) ++ cs.map fun q => (capA q).val c.E).toArray) c.x ∧ ∀ q ∈ cs, (capA q).ok c := by
  unfold mOf at h
  split at h
  · rename_i cl ho
    split at h
    · rename_i x hx
      split at h
      · rename_i g cs' hg
        split at h
        · rename_i q1 q2 q3 q4 q5 q6 tr' hs
          obtain ⟨⟨_, hm⟩, hbody⟩ := hS _ (spL_mem _ _ _ hs)
          cases h
          refine ⟨g, hm tr rfl, fun c a hf => ?_⟩
          obtain ⟨e1, e2⟩ := evS_sound hf hg
          refine ⟨?_, fun q hq => e2 q hq⟩
          unfold execOp
          simp only [ho, resolve, hx, e1, SV.val, AV.val, Deferred.ofValue, Sem.run_bind, Sem.run_pure, Result.andThen_ok, invoke]
          simp only [Array.empty_append]
          rw [callFunc_run hbody]
          congr 2
          apply Array.toList_inj.1
          simp [capA, AV.val]
        · cases h
      · split at h
        · rename_i g _
          split at h
          · rename_i q1 q2 q3 q4 q5 q6 tr' hs
            obtain ⟨⟨_, hm⟩, hbody⟩ := hS _ (spL_mem _ _ _ hs)
            cases h
            refine ⟨g, hm tr rfl, fun c a hf => ?_⟩
            refine ⟨?_, fun q hq => by cases hq⟩
            have e1 : a.eval (.func g) = .func (.func g) #[] #[] := rfl
            unfold execOp
            simp only [ho, resolve, hx, e1, Deferred.ofValue, Sem.run_bind, Sem.run_pure, Result.andThen_ok, invoke]
            simp only [Array.empty_append]
            rw [callFunc_run hbody]
            congr 2
            apply Array.toList_inj.1
            simp
          · cases h
        · cases h
    · cases h
  · cases h

/-- Operations one after the other. -/
def tailL (P : Program) (ops : Array Oper) (Q : Act → World → Prop) : List Oper → Act → World → Prop
  | [], a, x => Q a x
  | o :: r, a, x => if Region.wanted o (yielded ops a.tmps) = true then upon4 P (fun v x' => tailL P ops Q r (a.put o.dst v) x') ((execOp a.eval o).run P x) else tailL P ops Q r (a.put o.dst undef) x

theorem upon4_mono {R R' : Value → World → Prop} (h : ∀ v x, R v x → R' v x) {r : Result Next} (hr : upon4 P R r) : upon4 P R' r := by
  cases r with
  | ok nx w' =>
    cases nx <;> simp only [upon4] at hr ⊢
    case value u => exact h _ _ hr
    case skip => exact h _ _ hr
    case enter g args => exact hr.mono fun e x' ⟨u, he, hu⟩ => ⟨u, he, h _ _ hu⟩
  | halt q w' => simp only [upon4] at hr

theorem tailL_list {ops : Array Oper} {Q : Exit → Act → World → Prop} : ∀ (l : List Oper) (a : Act) (x : World), tailL P ops (fun a x => Q .normal a x) l a x → wpList P ops Q l a x
  | [], a, x, h => h
  | o :: r, a, x, h => by
    unfold tailL at h
    unfold wpList
    split at h
    · rename_i hw
      rw [if_pos hw]
      refine Or.inl ?_
      unfold Oper.wp
      generalize (execOp a.eval o).run P x = res at h
      cases res with
      | ok nx w' =>
        cases nx <;> simp only [upon4] at h <;> simp only [Oper.upon]
        case value u => exact tailL_list r _ _ h
        case skip => exact tailL_list r _ _ h
        case enter g args =>
          exact h.mono fun e x' he => by
            obtain ⟨u, rfl, hu⟩ := he
            exact tailL_list r _ _ hu
      | halt q w' => simp only [upon4] at h
    · rename_i hw
      rw [if_neg hw]
      exact tailL_list r _ _ h

theorem oneK_sound (hT : TabOk P T) (hS : SpecsOk P S) {o : Oper} {f : Fr} {bl : List V} {nn : Nat} {K : Fr → List V → Nat → Prop} (h : oneK T S N o f bl nn K) {c : Cx} {a : Act} (hr : Real w0 F0 bl nn c) (hf1 : FR N c f a) :
    upon4 P (fun v x' => Sat w0 F0 N K (a.put o.dst v) x') ((execOp a.eval o).run P c.x) := by
  unfold oneK at h
  split at h
  · rename_i tr xs cs hm
    obtain ⟨g, hok, hex⟩ := mOf_spec (N := N) hS hm
    obtain ⟨l, hk, _, hl⟩ := evsK_elim (N := N) xs _ h
    have hk := apsK_elim _ _ hk
    obtain ⟨e1, e2⟩ := hl c a hf1
    obtain ⟨e3, e4⟩ := hex c a hf1
    rw [e3]
    have hc := hok w0 F0 (l ++ cs.map capA) bl nn _ hk c hr (fun s hs => by
      rcases List.mem_append.1 hs with hs | hs
      · exact e2 s hs
      · obtain ⟨q, hq, rfl⟩ := List.mem_map.1 hs
        exact e4 q hq)
    have hargs : ((xs.map a.eval) ++ cs.map fun q => (capA q).val c.E) = (l ++ cs.map capA).map (AV.val c.E) := by
      rw [List.map_append, e1, List.map_map]; rfl
    simp only [upon4]
    rw [hargs]
    refine hc.mono fun e x' he => ?_
    obtain ⟨r, bl', nn', c', rfl, hk', hr', hle, hro, rfl⟩ := he
    refine ⟨_, rfl, ?_⟩
    obtain ⟨f2, hk2, hf2⟩ := putK_sound hk' (hf1.mono hle) hro
    exact ⟨f2, bl', nn', c', hk2, hr', hf2, rfl⟩
  · obtain ⟨out, hk, hcr, hd⟩ := opK_sound (w0 := w0) (F0 := F0) hT hS h
    have hrun := hd c a.eval hr.wf (fun y _ s hs => evS_sound hf1 hs) (fun i hi v hv => ⟨(hr.XA i).2 (lt_of_get hv), hr.ty i v hv, hr.blk i v hv⟩) (fun _ h => Nat.lt_irrefl _ ((hr.XA _).1 h)) (fun _ => hr.XB)
    refine upon4_mono (fun v x' ⟨E, hp⟩ => ?_) hrun
    obtain ⟨hr', hle⟩ := hr.step hp
    have hk' := efK_elim hk
    obtain ⟨f2, hk2, hf2⟩ := putK_sound hk' (hf1.mono hle) hp.ok
    rw [show out.r.val (c.ext out bl.length nn E x').E = v from hp.val.symm] at hf2
    cases hc : out.cr with
    | true =>
      simp only [hc, addK] at hk2
      exact ⟨f2, _, _, _, hk2, hr', hf2, rfl⟩
    | false =>
      simp only [hc, addK] at hk2
      have h0 := hcr hc
      rw [h0, Nat.add_zero] at hr'
      exact ⟨f2, _, _, _, hk2, hr', hf2, rfl⟩

theorem seqK_tail (hT : TabOk P T) (hS : SpecsOk P S) {ops : List Oper} {Q : Act → World → Prop} {K : Fr → List V → Nat → Prop} (hQ : ∀ a x, Sat w0 F0 N K a x → Q a x) : ∀ (l : List Oper) (f : Fr) (bl : List V) (nn : Nat) (c : Cx) (a : Act), seqK T S N (ops.map (·.dst)) l f bl nn K → Real w0 F0 bl nn c → FR N c f a → tailL P ops.toArray Q l a c.x
  | [], f, bl, nn, c, a, h, hr, hf => hQ a c.x ⟨f, bl, nn, c, h, hr, hf, rfl⟩
  | o :: r, f, bl, nn, c, a, h, hr, hf => by
    unfold seqK at h
    unfold tailL
    rcases guardK_sound h hf with ⟨hw, f1, hy, hf1⟩ | ⟨hw, f1, hno, hf1⟩
    · rw [if_pos hw]
      refine upon4_mono (fun v x' hs => ?_) (oneK_sound hT hS hy hr hf1)
      obtain ⟨f2, bl2, nn2, c2, hk, hr2, hf2, rfl⟩ := hs
      exact seqK_tail hT hS hQ r f2 bl2 nn2 c2 _ hk hr2 hf2
    · rw [if_neg (by rw [hw]; exact Bool.false_ne_true)]
      obtain ⟨f2, hk2, hf2⟩ := putK_sound hno hf1 (und_ok c)
      exact seqK_tail hT hS hQ r f2 bl nn c _ hk2 hr hf2
theorem seqK_sound (hT : TabOk P T) (hS : SpecsOk P S) {ops : List Oper} {Q : Exit → Act → World → Prop} {K : Fr → List V → Nat → Prop} (hQ : ∀ a x, Sat w0 F0 N K a x → Q .normal a x) (l : List Oper) (f : Fr) (bl : List V) (nn : Nat) (c : Cx) (a : Act) (h : seqK T S N (ops.map (·.dst)) l f bl nn K) (hr : Real w0 F0 bl nn c) (hf : FR N c f a) : wpList P ops.toArray Q l a c.x :=
  tailL_list l a c.x (seqK_tail hT hS hQ l f bl nn c a h hr hf)
end

end Go.Proofs.Ytcljfigdhodedaa.M
