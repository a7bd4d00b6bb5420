/- States, frames, regions in the order of the text. No program is named here. -/
import Derived.Test.YtjbbgpacijageaaT9d
namespace Go.Proofs.Ytjbbgpacijageaa.M
open Go.RowKit
set_option linter.unusedVariables false
set_option linter.unusedSimpArgs false

structure FR (N : Nat) (c : Cx) (f : Fr) (a : Act) : Prop where
  size : a.tmps.size = N
  defers : a.defers = []
  get : ∀ t s, look f t = some s → a.tmps[t]? = some (s.val c.E) ∧ s.ok c

def opK (T : Tab) (S : List (Nat × Spec)) (o : Oper) (f : Fr) (bl : List V) (nn : Nat) (k : Out → Prop) : Prop :=
  match o.op with
  | .call c => match c.callee with
    | .builtin .copy => copyK T c f bl k
    | .builtin .append => appK T c f nn k
    | .builtin .min => minK c f k
    | .builtin .len => lenA T c f bl nn k S
    | _ => callK T S c f bl nn k
  | .buildSlice t 0 parts => bs0K T t parts.toList nn k
  | .buildSlice t len parts => bslK T t len parts.toList f nn k
  | .makeFunc fn first captured => mkfK fn first.toList captured.toList f k
  | .nilCheck x => nilK T x f bl k
  | .indexAddr t x y => idxK T t x y f bl k
  | .slice t x low high max => match tyL T.ty t with
    | some (.lst e, _) => subK e x low high max f nn k
    | _ => sliceK T t x low high max f k
  | .binOp .eql t x (.const (.pointer none)) _ => peqK T false t x f k
  | .binOp .neq t x (.const (.pointer none)) _ => peqK T true t x f k
  | op => sopK T op f bl k

def setB : List V → Nat → V → (List V → Prop) → Prop
  | [], _, _, _ => False
  | b :: r, n, y, k => match Nat.beq n 0 with | true => k (y :: r) | false => setB r (n - 1) y fun r' => k (b :: r')
def appB : List V → V → (List V → Prop) → Prop
  | [], y, k => k [y]
  | b :: r, y, k => appB r y fun r' => k (b :: r')
theorem setB_elim : ∀ (l : List V) (i : Nat) (y : V) (k : List V → Prop), setB l i y k → k (l.set i y) ∧ i < l.length
  | [], _, _, _, h => h.elim
  | b :: r, i, y, k, h => by
    unfold setB at h
    split at h
    · rename_i hb
      have := Nat.eq_of_beq_eq_true hb
      subst this
      exact ⟨h, by simp⟩
    · rename_i hb
      obtain ⟨h1, h2⟩ := setB_elim r _ y _ h
      cases i with
      | zero => simp at hb
      | succ i => exact ⟨h1, by simp at h2 ⊢; exact h2⟩
theorem appB_elim : ∀ (l : List V) (y : V) (k : List V → Prop), appB l y k → k (l ++ [y])
  | [], _, _, h => h
  | b :: r, y, k, h => appB_elim r y _ h
def efK (bl : List V) (ef : Ef) (k : List V → Prop) : Prop :=
  match ef with
  | .none => k bl
  | .set i y => setB bl i y k
  | .new y => appB bl y k
def putK (N : Nat) (d : Option Tmp) (s : SV) (f : Fr) (k : Fr → Prop) : Prop :=
  match d with
  | some d => match Nat.ble (d + 1) N with | true => k ((d, s) :: f) | false => False
  | none => k f
def lit (b : Bool) : SV := .a (.of (.leaf .bool b))
/-- The slots that the operations of a region write. -/
def dstK : List Oper → (List (Option Tmp) → Prop) → Prop
  | [], k => k []
  | o :: r, k => match o.dst with
    | some t => dstK r fun l => k (some t :: l)
    | none => dstK r fun l => k (none :: l)
theorem dstK_elim : ∀ (l : List Oper) (k : List (Option Tmp) → Prop), dstK l k → k (l.map (·.dst))
  | [], k, h => h
  | o :: r, k, h => by
    unfold dstK at h
    rw [List.map_cons]
    split at h
    · rename_i t ht
      rw [ht]; exact dstK_elim r _ h
    · rename_i ht
      rw [ht]; exact dstK_elim r _ h
def nthT : List (Option Tmp) → Nat → Option Tmp
  | [], _ => none
  | b :: r, n => match Nat.beq n 0 with | true => b | false => nthT r (n - 1)
theorem nthT_eq : ∀ (l : List (Option Tmp)) (i : Nat), nthT l i = (l[i]?).join
  | [], i => rfl
  | b :: r, i => by
    unfold nthT
    split
    · rename_i h
      have := Nat.eq_of_beq_eq_true h
      subst this; rfl
    · rename_i h
      rw [nthT_eq r]
      cases i with
      | zero => simp at h
      | succ i => simp
/-- Is it wanted? What was asked is known from then on. -/
def guardK (ds : List (Option Tmp)) (g : Option (Nat × Bool)) (f : Fr) (yes no : Fr → Prop) : Prop :=
  match g with
  | none => yes f
  | some (j, want) => match nthT ds j with
    | some t => match look f t with
      | some (.a (.of (.leaf .bool b))) => match want with
        | true => Way b (yes ((t, lit true) :: f)) (no ((t, lit false) :: f))
        | false => Way b (no ((t, lit true) :: f)) (yes ((t, lit false) :: f))
      | some (.a (.raw (.tuple _))) => no f
      | _ => False
    | none => False
def addK (nn : NS) (cr : Bool) (m : Nat) (k : NS → Prop) : Prop := match nn with | ⟨n, tk⟩ => match cr with | true => k ⟨n + m, tk⟩ | false => k ⟨n, tk⟩

def evsK (f : Fr) : List Operand → (List AV → Prop) → Prop
  | [], k => k []
  | x :: r, k => match evS f x with
    | some (.a s) => evsK f r fun l => k (s :: l)
    | _ => False
def capA (c : Nat × Nat × List Step × Ty) : AV := .ptr c.1 c.2.1 c.2.2.1 c.2.2.2
def capsK : List (Nat × Nat × List Step × Ty) → (List AV → Prop) → Prop
  | [], k => k []
  | c :: cs, k => capsK cs fun l => k (capA c :: l)
def apsK (cs : List (Nat × Nat × List Step × Ty)) : List AV → (List AV → Prop) → Prop
  | [], k => capsK cs k
  | s :: r, k => apsK cs r fun l => k (s :: l)
/-- A call of a function that is walked there: what it is known by, its operands, what it has captured. -/
def mOf (S : List (Nat × Spec)) (f : Fr) (o : Oper) : Option (MTr × List Operand × List (Nat × Nat × List Step × Ty)) :=
  match o.op with
  | .call c => match c.callee with
    | .value x => match evS f x with
      | some (.a (.clo g cs)) => match spL S g with
        | some ⟨_, _, _, _, _, _, some tr⟩ => some (tr, c.args.toList, cs)
        | _ => none
      | _ => match x with
        | .func g => match spL S g with
          | some ⟨_, _, _, _, _, _, some tr⟩ => some (tr, c.args.toList, [])
          | _ => none
        | _ => none
    | _ => none
  | _ => none
/-- No list in it. -/
def AV.pl : AV → Bool
  | .of v => v.ty.nolst
  | .ptr _ _ _ _ => true
  | .elt _ _ _ _ _ _ _ => false
  | .slc _ _ _ _ _ _ _ _ => true
  | .clo _ _ => true
  | .emp _ => false
  | .raw _ => true
def SV.pl : SV → Bool
  | .a x => x.pl
  | .tup l => l.all AV.pl
/-- The frame behind a store into a list: what has no list in it, and that list by its new name. -/
def frOk (te : Ty) (h : Hd) (xs : List te.D) (m : Nat) (xs' : List te.D) (f : Fr) : Fr → Prop
  | [] => True
  | (t, s) :: r => ((look f t = some s ∧ s.pl = true) ∨ (look f t = some (.a (.of (.leaf (.lst te) (h, xs)))) ∧ s = .a (.of (.leaf (.lst te) (.nm m, xs'))))) ∧ frOk te h xs m xs' f r
/-- A store into a list of one's own. -/
structure StoreW (te : Ty) (h : Hd) (xs xs' : List te.D) (f : Fr) (bl : List V) (nn : NS) (K : Fr → List V → NS → Prop) : Prop where
  nol : te.nolst = true
  ex : ∃ i g, nn.tk[i]? = some (h, te.sz) ∧ (bl.all fun v => v.ty.nolst) = true ∧ frOk te h xs nn.n xs' f g ∧ K g bl ⟨nn.n + 1, nn.tk.set i (.nm nn.n, te.sz)⟩
def isElt (T : Tab) (o : Oper) (f : Fr) : Bool :=
  match T.top with
  | true => match o.op with
    | .store _ x _ => match evS f x with
      | some (.a (.elt _ _ _ _ _ _ _)) => true
      | _ => false
    | _ => false
  | false => false
def stwK (T : Tab) (o : Oper) (f : Fr) (bl : List V) (nn : NS) (K : Fr → List V → NS → Prop) : Prop :=
  match o.op with
  | .store t x y => match o.dst with
    | none => match evS f x with
      | some (.a (.elt te h xs j off p u)) => match tyL T.ty t with
        | some (ty, _) => match decEq u ty with
          | .isTrue _ => match evS f y with
            | some (.a s) => match asV ty s with
              | some new => setK p (.leaf te (nthD te xs j)) new fun z => denK z te fun e => StoreW te h xs (xs.set j e) f bl nn K
              | none => False
            | _ => False
          | .isFalse _ => False
        | none => False
      | _ => False
    | some _ => False
  | _ => False
def oneK (T : Tab) (S : List (Nat × Spec)) (N : Nat) (o : Oper) (f : Fr) (bl : List V) (nn : NS) (K : Fr → List V → NS → Prop) : Prop :=
  match isOwn T o with
  | true => ownK T o f nn fun v nn' => putK N o.dst v f fun f' => K f' bl nn'
  | false => match isNil T o with
    | true => nilW T o f fun v => putK N o.dst v f fun f' => K f' bl nn
    | false => match isElt T o f with
      | true => stwK T o f bl nn K
      | false => match mOf S f o with
  | some (tr, xs, cs) => evsK f xs fun l => apsK cs l fun l => tr l bl nn fun r bl' nn' => putK N o.dst r f fun f' => K f' bl' nn'
  | none => opK T S o f bl nn.n fun
        | ⟨v, ef, m, _, _, cr⟩ => efK bl ef fun bl' => putK N o.dst v f fun f' => addK nn cr m fun nn' => K f' bl' nn'

def seqK (T : Tab) (S : List (Nat × Spec)) (N : Nat) (ds : List (Option Tmp)) : List Oper → Fr → List V → NS → (Fr → List V → NS → Prop) → Prop
  | [], f, bl, nn, K => K f bl nn
  | o :: r, f, bl, nn, K => guardK ds o.guard f
      (fun f => oneK T S N o f bl nn fun f' bl' nn' => seqK T S N ds r f' bl' nn' K)
      (fun f => putK N o.dst und f fun f' => seqK T S N ds r f' bl nn K)

section
variable {P : Program} {T : Tab} {S : List (Nat × Spec)} {w0 : World} {F0 : Old} {N : Nat}

theorem evS_sound {c : Cx} {f : Fr} {a : Act} (h : FR N c f a) {x : Operand} {s : SV} (hx : evS f x = some s) : a.eval x = s.val c.E ∧ s.ok c := by
  cases x with
  | tmp t =>
    obtain ⟨h1, h2⟩ := h.get t s hx
    exact ⟨by simp only [Act.eval, Array.getD_eq_getD_getElem?, h1]; rfl, h2⟩
  | const v => cases hx; exact ⟨(constA_val _ v).symm, constA_ok _ v⟩
  | func g => cases hx; exact ⟨rfl, fun q hq => by cases hq⟩
  | global g => cases hx
theorem FR.mono {c c' : Cx} {f : Fr} {a : Act} (h : FR N c f a) (hle : c.Le c') : FR N c' f a :=
  ⟨h.size, h.defers, fun t s ht => by
    obtain ⟨h1, h2⟩ := h.get t s ht
    exact ⟨by rw [h1, SV.val_mono hle h2], SV.ok_mono hle h2⟩⟩
theorem FR.put {c : Cx} {f : Fr} {a : Act} (h : FR N c f a) {d : Nat} (hd : d < N) {s : SV} (hs : s.ok c) : FR N c ((d, s) :: f) (a.put (some d) (s.val c.E)) := by
  refine ⟨by simp [Act.put, h.size], h.defers, fun t u ht => ?_⟩
  unfold look at ht
  split at ht
  · rename_i hb
    have := Nat.eq_of_beq_eq_true hb
    subst this
    cases ht
    refine ⟨?_, hs⟩
    simp [Act.put, h.size, hd]
  · rename_i hb
    have hne : d ≠ t := fun e => by subst e; simp at hb
    obtain ⟨h1, h2⟩ := h.get t u ht
    refine ⟨?_, h2⟩
    simp only [Act.put, Array.getElem?_setIfInBounds_ne hne]
    exact h1
theorem putK_sound {d : Option Tmp} {s : SV} {f : Fr} {k : Fr → Prop} (h : putK N d s f k) {c : Cx} {a : Act} (hf : FR N c f a) (hs : s.ok c) : ∃ f', k f' ∧ FR N c f' (a.put d (s.val c.E)) := by
  unfold putK at h
  split at h
  · split at h
    · rename_i hd
      exact ⟨_, h, hf.put (Nat.le_of_ble_eq_true hd) hs⟩
    · exact h.elim
  · exact ⟨f, h, hf⟩
/-- A slot may be known better. -/
theorem FR.better {c : Cx} {f : Fr} {a : Act} (h : FR N c f a) {t : Nat} {b b' : Bool} (ht : look f t = some (.a (.of (.leaf .bool b)))) (hb : b = b') : FR N c ((t, lit b') :: f) a := by
  refine ⟨h.size, h.defers, fun u s hu => ?_⟩
  unfold look at hu
  split at hu
  · rename_i hbt
    have := Nat.eq_of_beq_eq_true hbt
    subst this
    cases hu
    subst hb
    exact h.get u _ ht
  · exact h.get u s hu

theorem guardK_sound {ops : List Oper} {o : Oper} {f : Fr} {yes no : Fr → Prop} (h : guardK (ops.map (·.dst)) o.guard f yes no) {c : Cx} {a : Act} (hf : FR N c f a) :
    (Region.wanted o (yielded ops.toArray a.tmps) = true ∧ ∃ f', yes f' ∧ FR N c f' a) ∨ (Region.wanted o (yielded ops.toArray a.tmps) = false ∧ ∃ f', no f' ∧ FR N c f' a) := by
  unfold guardK at h
  split at h
  · rename_i hg
    exact Or.inl ⟨by unfold Region.wanted; rw [hg], f, h, hf⟩
  · rename_i j want hg
    · split at h
      · rename_i t hj
        rw [nthT_eq] at hj
        have hjt : (ops.toArray[j]?).bind (·.dst) = some t := by
          simp only [List.getElem?_map] at hj
          cases ho : ops[j]? with
          | none => rw [ho] at hj; cases hj
          | some oj => rw [ho] at hj; simp [ho]; simpa using hj
        split at h
        · rename_i b hb
          have h1 := (hf.get t _ hb).1
          have hy : yielded ops.toArray a.tmps j = some b := by unfold yielded; rw [hjt]; simp [h1, SV.val, AV.val, V.val]
          have hw : Region.wanted o (yielded ops.toArray a.tmps) = (b == want) := by
            unfold Region.wanted
            rw [hg]
            simp [hy]
          rw [hw]
          split at h
          · cases hbb : b with
            | true => exact Or.inl ⟨rfl, _, h.t hbb, hf.better hb hbb⟩
            | false => exact Or.inr ⟨rfl, _, h.f hbb, hf.better hb hbb⟩
          · cases hbb : b with
            | true => exact Or.inr ⟨rfl, _, h.t hbb, hf.better hb hbb⟩
            | false => exact Or.inl ⟨rfl, _, h.f hbb, hf.better hb hbb⟩
        · rename_i q hb
          have h1 := (hf.get t _ hb).1
          have hy : yielded ops.toArray a.tmps j = none := by unfold yielded; rw [hjt]; simp [h1, SV.val, AV.val]
          refine Or.inr ⟨?_, f, h, hf⟩
          unfold Region.wanted
          rw [hg]
          simp [hy]
        · exact h.elim
      · exact h.elim

theorem opK_sound (hT : TabOk P T) (hS : SpecsOk P S) {o : Oper} {f : Fr} {bl : List V} {nn : Nat} {k : Out → Prop} (h : opK T S o f bl nn k) : ∃ out, k out ∧ Does P w0 F0 o f (fun i => bl[i]?) bl.length nn out := by
  unfold opK at h
  split at h
  · rename_i c ho
    split at h
    · rename_i hc
      exact copyK_sound hT ho hc h
    · rename_i hc
      exact appK_sound hT ho hc h
    · rename_i hc
      exact minK_sound ho hc h
    · rename_i hc
      exact lenA_sound hT hS ho hc h
    · exact callK_sound hT hS ho h
  · rename_i t parts ho
    exact bs0K_sound hT ho h
  · rename_i t len parts _ ho
    exact bslK_sound hT ho h
  · rename_i fn first captured ho
    exact mkfK_sound ho h
  · rename_i x ho
    exact nilK_sound hT ho h
  · rename_i t x y ho
    exact idxK_sound hT ho h
  · rename_i t x low high max ho
    split at h
    · rename_i e n0 hty
      exact subK_sound hT ho hty h
    · exact sliceK_sound hT ho h
  · rename_i t x u ho
    exact peqK_sound (ne := false) hT ho h
  · rename_i t x u ho
    exact peqK_sound (ne := true) hT ho h
  · exact sopK_sound hT h

theorem lt_of_get {α : Type} {l : List α} {i : Nat} {b : α} (h : l[i]? = some b) : i < l.length := (List.getElem?_eq_some_iff.1 h).1

/-- The state behind an operation. -/
def efB (bl : List V) : Ef → List V
  | .none => bl
  | .set i y => bl.set i y
  | .new y => bl ++ [y]
theorem efK_elim {bl : List V} {ef : Ef} {k : List V → Prop} (h : efK bl ef k) : k (efB bl ef) := by
  cases ef with
  | none => exact h
  | set i y => exact (setB_elim _ _ _ _ h).1
  | new y => exact appB_elim _ _ _ h
theorem Real.step {bl : List V} {nn : NS} {c : Cx} (hr : Real w0 F0 bl nn c) {out : Out} {v : Value} {x' : World} {E : Env} (hp : Post w0 F0 c out bl.length nn.n v x' E) : Real w0 F0 (efB bl out.ef) ⟨nn.n + out.m, nn.tk⟩ (c.ext out bl.length nn.n E x') ∧ c.Le (c.ext out bl.length nn.n E x') := by
  have hnew : (∃ y, out.ef = .new y) → ¬ c.XA bl.length := fun _ h => Nat.lt_irrefl _ ((hr.XA _).1 h)
  have hle := hp.le hr.wf hnew
  have hwf := hp.wf hr.wf hnew
  have hkeep : ∀ i v, bl[i]? = some v → (∀ y, out.ef ≠ .set i y) → (∃ e, HB x' (E.A i) (v.cells E.B).toArray e) ∧ v.okc (c.ext out bl.length nn.n E x') := fun i v hi hne => by
    obtain ⟨⟨e, h1⟩, h2⟩ := hr.blk i v hi
    have hXA := (hr.XA i).2 (lt_of_get hi)
    refine ⟨⟨e, ?_⟩, V.okc_mono hle h2⟩
    have hcells : v.cells E.B = v.cells c.E.B := V.cellsc hle h2
    rw [hcells, hp.A i hXA]
    unfold HB
    rw [hp.same.block _ h1.lt (by
      rintro ⟨j, y, hy, hj⟩
      have : i = j := hr.wf.inj i j hXA (hp.set j y hy).1 hj
      subst this
      exact hne y hy)]
    exact h1
  refine ⟨⟨hwf, fun i => ?_, fun n => ?_, fun i v hi => ?_, fun i v hi => ?_, hr.tk.step hr.wf hnew hp⟩, hle⟩
  · show (c.XA i ∨ (i = bl.length ∧ ∃ y, out.ef = .new y)) ↔ _
    rw [hr.XA]
    cases hef : out.ef with
    | none => simp [efB]
    | set j y => simp [efB]
    | new y => simp [efB]; omega
  · show (c.XB n ∨ (nn.n ≤ n ∧ n < nn.n + out.m)) ↔ n < nn.n + out.m
    rw [hr.XB]
    omega
  · show (match out.ef with | .new y => if i = bl.length then some y.ty else c.ty i | _ => c.ty i) = some v.ty
    cases hef : out.ef with
    | none => rw [hef] at hi; exact hr.ty i v hi
    | set j y =>
      rw [hef] at hi
      simp only [efB] at hi
      rw [List.getElem?_set] at hi
      split at hi
      · rename_i hj
        subst hj
        split at hi
        · cases hi
          exact (hp.set j v hef).2.1
        · cases hi
      · exact hr.ty i v hi
    | new y =>
      rw [hef] at hi
      simp only [efB] at hi
      rw [List.getElem?_append] at hi
      split at hi
      · rename_i hlt
        simp only
        rw [if_neg (by omega)]
        exact hr.ty i v hi
      · rename_i hlt
        have : i = bl.length := by
          have := lt_of_get hi
          simp at this
          omega
        subst this
        simp at hi
        subst hi
        simp
  · cases hef : out.ef with
    | none => rw [hef] at hi; exact hkeep i v hi (fun y hy => by rw [hef] at hy; cases hy)
    | set j y =>
      rw [hef] at hi
      simp only [efB] at hi
      rw [List.getElem?_set] at hi
      split at hi
      · rename_i hj
        subst hj
        split at hi
        · cases hi
          exact (hp.set j v hef).2.2
        · cases hi
      · rename_i hj
        exact hkeep i v hi (fun z hz => by rw [hef] at hz; cases hz; exact hj rfl)
    | new y =>
      rw [hef] at hi
      simp only [efB] at hi
      rw [List.getElem?_append] at hi
      split at hi
      · exact hkeep i v hi (fun z hz => by rw [hef] at hz; cases hz)
      · rename_i hlt
        have : i = bl.length := by
          have := lt_of_get hi
          simp at this
          omega
        subst this
        simp at hi
        subst hi
        exact (hp.new y hef).2.2.2

/-- The worlds and frames that belong to what K holds. -/
def Sat (w0 : World) (F0 : Old) (N : Nat) (K : Fr → List V → NS → Prop) (a : Act) (x : World) : Prop := ∃ f bl nn c, K f bl nn ∧ Real w0 F0 bl nn c ∧ FR N c f a ∧ c.x = x

theorem und_ok (c : Cx) : und.ok c := trivial

theorem evsK_elim {f : Fr} : ∀ (xs : List Operand) (k : List AV → Prop), evsK f xs k → ∃ l, k l ∧ l.length = xs.length ∧ ∀ (c : Cx) (a : Act), FR N c f a → xs.map a.eval = l.map (AV.val c.E) ∧ ∀ s ∈ l, s.ok c
  | [], k, h => ⟨[], h, rfl, fun c a _ => ⟨rfl, fun s hs => by cases hs⟩⟩
  | x :: r, k, h => by
    unfold evsK at h
    split at h
    · rename_i s hs
      obtain ⟨l, h1, h2, h3⟩ := evsK_elim r _ h
      refine ⟨s :: l, h1, by simp [h2], fun c a hf => ?_⟩
      obtain ⟨e1, e2⟩ := h3 c a hf
      obtain ⟨e3, e4⟩ := evS_sound hf hs
      refine ⟨by rw [List.map_cons, List.map_cons, e1, e3]; rfl, fun y hy => ?_⟩
      rcases List.mem_cons.1 hy with rfl | hy
      · exact e4
      · exact e2 y hy
    · exact h.elim
theorem capsK_elim : ∀ (cs : List (Nat × Nat × List Step × Ty)) (k : List AV → Prop), capsK cs k → k (cs.map capA)
  | [], k, h => h
  | c :: cs, k, h => capsK_elim cs _ h
theorem apsK_elim {cs : List (Nat × Nat × List Step × Ty)} : ∀ (l : List AV) (k : List AV → Prop), apsK cs l k → k (l ++ cs.map capA)
  | [], k, h => capsK_elim cs k h
  | s :: r, k, h => apsK_elim r _ h

theorem lstA_sound {e : Ty} {s : AV} {k : Hd → List e.D → Prop} (h : lstA e s k) : ∃ hd xs, k hd xs ∧ ∀ c : Cx, s.ok c → (s.val c.E = hd.val c.E.B ∧ wokc c (.lst e) (hd, xs)) ∨ (hd = nilH ∧ xs = [] ∧ ∃ ad, s.val c.E = .slice ad 0 0) := by
  unfold lstA at h
  split at h
  · rename_i v
    obtain ⟨d, h1, h2, h3, h4⟩ := denK_sound v (.lst e) _ h
    exact ⟨d.1, d.2, h1, fun c hs => Or.inl ⟨val_leaf h2 (h3 c.E.B), h4 _ _ _ _ hs⟩⟩
  · exact ⟨_, _, h, fun c _ => Or.inl ⟨rfl, trivial, Or.inl ⟨rfl, none, 0, rfl⟩⟩⟩
  · rename_i hd
    refine ⟨_, _, h, fun c hs => Or.inr ⟨rfl, rfl, ?_⟩⟩
    obtain ⟨_, a, l, k', hv⟩ := hs
    exact ⟨a, by simp only [AV.val, hv]⟩
  · exact h.elim
theorem zeroCells_len (zc : Array Value) (k : Nat) : (Builtin.zeroCells zc k).size = k * zc.size := by
  simp [Builtin.zeroCells]
/-- What there is, and what comes behind it. -/
theorem app_run {bl : List V} {nn : NS} {c : Cx} (hr : Real w0 F0 bl nn c) {T : Tab} (hT : TabOk P T) {t : TypeId} {e : Ty} {n0 : Nat} (hty : tyL T.ty t = some (.lst e, n0)) {hd : Hd} {xs ys : List e.D} {vx vy : Value} (ty' : TypeId)
    (hx : (vx = hd.val c.E.B ∧ wokc c (.lst e) (hd, xs)) ∨ (hd = nilH ∧ xs = [] ∧ ∃ ad, vx = .slice ad 0 0)) {h' : Hd} (hy : vy = h'.val c.E.B) (hyw : wokc c (.lst e) (h', ys)) {k : SV → NS → Prop} (h : AppW e hd xs ys nn k) :
    ∃ v x', (Builtin.append_ #[t, t] ty' #[vx, vy]).run P c.x = .ok v x' ∧ ∃ r nn' c', k r nn' ∧ v = r.val c'.E ∧ r.ok c' ∧ Real w0 F0 bl nn' c' ∧ c.Le c' ∧ c'.x = x' := by
  obtain ⟨i, hi, ⟨hlen, hby⟩, hk⟩ := h
  obtain ⟨el, inf, z, u1, u2, u3, u4, u5, u6, u7⟩ := lst_info (tyB_lst (hT.ty.at hty))
  have hsrc := src_of (P := P) (u := t) u1 u4 hyw
  rw [← hy, ← u3] at hsrc
  have htok : TokOk w0 c hd e.sz := hr.tk.ok _ (List.mem_of_getElem? hi)
  have hfl : ∀ (l : List e.D), ∀ e' ∈ l, (flat c.E.B e e').length = e.sz := fun _ e' _ => flat_len _ _ _
  have hzs : z.cells.size = e.sz := by
    obtain ⟨v, v1, v2⟩ := zero_run u6 c.E.B c.x
    have : v = z := by
      unfold zeroValue at v1
      simp only [typeInfo, Sem.run_bind, run_program, Result.andThen_ok, u2, Sem.run_pure, u5] at v1
      cases v1
      rfl
    rw [← this, v2]
    simp [flat_len]
  have hyel : ∀ (q : Nat) e', ys[q]? = some e' → wokc c e e' := fun q e' hq => by
    rcases hyw.2 with ⟨h1, _⟩ | ⟨_, _, _, _, _, _, _, _, h1⟩
    · have h1 : ys = [] := h1
      rw [h1] at hq; simp at hq
    · exact (h1 q e' hq).2
  -- the shape of what is appended to
  have hshape : ∃ ad cap, vx = .slice ad xs.length cap ∧ xs.length ≤ cap ∧ (∀ (q : Nat) e', xs[q]? = some e' → wokc c e e') ∧
      (cap = 0 ∨ ∃ b o C t', ad = some ⟨b, o, none⟩ ∧ w0.heap.size ≤ b ∧ (∀ i, c.XA i → c.E.A i ≠ b) ∧ HB c.x b C t' ∧ cap ≤ maxLen ∧ o + cap * e.sz ≤ C.size ∧ (∀ e', c.E.F b e' → e' ≤ o + xs.length * e.sz) ∧
        (∀ q s', q.val c.E.B ≠ .slice none 0 0 → ∀ j, j ≠ i → nn.tk[j]? = some (q, s') → ∀ o' l' k', q.val c.E.B = .slice (some ⟨b, o', none⟩) l' k' → 0 < k' → False)) ∧
      (xs = [] ∨ ∃ b o, ad = some ⟨b, o, none⟩ ∧ ∀ (q : Nat) e', xs[q]? = some e' → ∀ j, j < e.sz → c.x.cell? ⟨b, o + q * e.sz + j, none⟩ = (flat c.E.B e e')[j]?) := by
    rcases hx with ⟨hv, hw⟩ | ⟨_, rfl, ad, hv⟩
    rotate_left
    · exact ⟨ad, 0, hv, Nat.le_refl _, fun q e' hq => by simp at hq, Or.inl rfl, Or.inl rfl⟩
    obtain ⟨_, hd2⟩ := hw
    rcases htok.2 with ⟨ad, ht⟩ | ⟨b, o, len, cap, C, t', g1, g2, g3, g4, g5, g6, g7, g8⟩
    · have hnil : xs = [] := by
        rcases hd2 with ⟨h1, _⟩ | ⟨b, o', cap, h1, h2, _⟩
        · exact h1
        · have h1 : hd.val c.E.B = .slice (some ⟨b, o', none⟩) xs.length cap := h1
          rw [ht] at h1
          obtain ⟨_, h3, h4⟩ := Value.slice.inj h1
          exact List.length_eq_zero_iff.1 h3.symm
      subst hnil
      exact ⟨ad, 0, hv.trans ht, Nat.le_refl _, fun q e' hq => by simp at hq, Or.inl rfl, Or.inl rfl⟩
    · have hlx : len = xs.length := by
        rcases hd2 with ⟨h1, ad, cap', h2⟩ | ⟨b', o', cap', h1, h2, _⟩
        · have h1 : xs = [] := h1
          have h2 : hd.val c.E.B = .slice ad 0 cap' := h2
          rw [g1] at h2
          cases h2
          rw [h1]; rfl
        · have h1 : hd.val c.E.B = .slice (some ⟨b', o', none⟩) xs.length cap' := h1
          rw [g1] at h1
          cases h1
          rfl
      subst hlx
      have hap : cap = 0 ∨ (∀ q s', q.val c.E.B ≠ .slice none 0 0 → ∀ j, j ≠ i → nn.tk[j]? = some (q, s') → ∀ o' l' k', q.val c.E.B = .slice (some ⟨b, o', none⟩) l' k' → 0 < k' → False) := by
        rcases Nat.eq_zero_or_pos cap with h0 | h0
        · exact Or.inl h0
        refine Or.inr fun q s' _ j hj hq o' l' k' hv' hk' => ?_
        have hjl : j < nn.tk.length := (List.getElem?_eq_some_iff.1 hq).1
        have hil : i < nn.tk.length := (List.getElem?_eq_some_iff.1 hi).1
        have hjv : nn.tk[j] = (q, s') := (List.getElem?_eq_some_iff.1 hq).2
        have hiv : nn.tk[i] = (hd, e.sz) := (List.getElem?_eq_some_iff.1 hi).2
        have hp := List.pairwise_iff_getElem.1 hr.tk.ne
        rcases Nat.lt_or_gt_of_ne hj with hlt | hlt
        · have := hp j i hjl hil hlt
          rw [hjv, hiv] at this
          exact this _ _ _ _ _ _ _ hv' g1 hk' h0
        · have := hp i j hil hjl hlt
          rw [hjv, hiv] at this
          exact this _ _ _ _ _ _ _ g1 hv' h0 hk'
      refine ⟨some ⟨b, o, none⟩, cap, hv.trans g1, g5, fun q e' hq => ?_, ?_, ?_⟩
      · rcases hd2 with ⟨h1, _⟩ | ⟨_, _, _, _, _, _, _, _, h1⟩
        · have h1 : xs = [] := h1
          rw [h1] at hq; simp at hq
        · exact (h1 q e' hq).2
      · rcases hap with h0 | hap
        · exact Or.inl h0
        · exact Or.inr ⟨b, o, C, t', rfl, g2, g3, g4, g6, g7, g8, hap⟩
      · rcases hd2 with ⟨h1, _⟩ | ⟨b', o', cap', h1, _, _, _, _, h2⟩
        · exact Or.inl h1
        · have h1 : hd.val c.E.B = .slice (some ⟨b', o', none⟩) xs.length cap' := h1
          rw [g1] at h1
          cases h1
          exact Or.inr ⟨_, _, rfl, fun q e' hq j hj => (h2 q e' hq).1 j hj⟩
  obtain ⟨ad, cap, hvx, hcap, hxel, hown, hcont⟩ := hshape
  subst hvx
  have hall : ∀ (q : Nat) e', (xs ++ ys)[q]? = some e' → wokc c e e' := fun q e' hq => by
    rw [List.getElem?_append] at hq
    split at hq
    · exact hxel q e' hq
    · exact hyel _ e' hq
  by_cases hroom : xs.length + ys.length ≤ cap
  · rcases Nat.eq_zero_or_pos cap with h0 | h0
    · -- nothing onto nothing
      subst h0
      have hx0 : xs = [] := List.length_eq_zero_iff.1 (by omega)
      have hy0 : ys = [] := List.length_eq_zero_iff.1 (by omega)
      subst hx0
      subst hy0
      obtain ⟨c', k1, k2, k3, k4, k5⟩ := grown0 hr hi ad
      refine ⟨_, _, run_append_nothing c.x t t ty' el inf u1 u2 ad 0 0 (Nat.le_refl _) vy hsrc, _, _, c', hk, ?_, k4, k1, k2, k5⟩
      exact k3.symm
    · -- there is room
      rcases hown with h1 | ⟨b, o, C, t', rfl, g2, g3, g4, g6, g7, g8, hap⟩
      · omega
      have hlN : (ys.flatMap (flat c.E.B e)).length = ys.length * e.sz := flatMap_len _ (hfl ys)
      have hmul : xs.length * e.sz + ys.length * e.sz ≤ cap * e.sz := by rw [← Nat.add_mul]; exact Nat.mul_le_mul_right _ hroom
      have hrun := run_append_room_src (P := P) c.x t t ty' el inf u1 u2 b o xs.length cap vy ys.length _ hsrc hroom (fun j hj => by
        rw [g4.cell]
        rw [hlN] at hj
        have : o + xs.length * inf.size + j < C.size := by rw [u3]; omega
        simp [this]) (fun j hj => g4.frozen _)
      rw [setCells_putB _ _ g4, u3] at hrun
      have hsz : (sets C (o + xs.length * e.sz) (ys.flatMap (flat c.E.B e))).size = C.size := sets_size _ _ _
      have hB' := g4.put (sets C (o + xs.length * e.sz) (ys.flatMap (flat c.E.B e)))
      have hout : ∀ j, j < o + xs.length * e.sz → (putB c.x b (sets C (o + xs.length * e.sz) (ys.flatMap (flat c.E.B e)))).cell? ⟨b, j, none⟩ = c.x.cell? ⟨b, j, none⟩ := fun j hj => by
        rw [hB'.cell, g4.cell, sets_out _ _ _ _ (Or.inl hj)]
      have hz : ∀ (q : Nat) e', (xs ++ ys)[q]? = some e' → ∀ j, j < e.sz → (putB c.x b (sets C (o + xs.length * e.sz) (ys.flatMap (flat c.E.B e)))).cell? ⟨b, o + q * e.sz + j, none⟩ = (flat c.E.B e e')[j]? := fun q e' hq j hj => by
        rw [List.getElem?_append] at hq
        split at hq
        · rename_i hlt
          rcases hcont with h1 | ⟨b1, o1, h1, h2⟩
          · rw [h1] at hlt; simp at hlt
          · cases h1
            have hle : q * e.sz + e.sz ≤ xs.length * e.sz := by rw [← Nat.succ_mul]; exact Nat.mul_le_mul_right _ hlt
            rw [hout _ (by omega)]
            exact h2 q e' hq j hj
        · rename_i hge
          have hq' : q - xs.length < ys.length := (List.getElem?_eq_some_iff.1 hq).1
          have hle : (q - xs.length) * e.sz + e.sz ≤ ys.length * e.sz := by rw [← Nat.succ_mul]; exact Nat.mul_le_mul_right _ hq'
          have hqe : q * e.sz = xs.length * e.sz + (q - xs.length) * e.sz := by rw [← Nat.add_mul]; congr 1; omega
          have hidx : o + q * e.sz + j = (o + xs.length * e.sz) + ((q - xs.length) * e.sz + j) := by omega
          rw [hB'.cell, hidx, sets_in _ _ _ _ (by rw [hlN]; omega) (by rw [hlN]; omega), flatMap_get _ (hfl ys) _ _ hj, hq]
          rfl
      obtain ⟨c', k1, k2, k3, k4, k5⟩ := grown (e := e) (zs := xs ++ ys) hr hi (x' := putB c.x b (sets C (o + xs.length * e.sz) (ys.flatMap (flat c.E.B e)))) (b := b) (o := o) (cap := cap)
        ⟨rfl, rfl, rfl, by rw [putB_size]; exact Nat.le_refl _, fun k _ hkb => putB_ne _ _ _ hkb⟩ g2 g3 hB' (by rw [List.length_append]; exact hroom) g6 (by rw [hsz]; exact g7)
        (fun e' he' => by have := g8 e' he'; rw [List.length_append, Nat.add_mul]; omega) (fun e' he' j hj => hout j (by have := g8 e' he'; omega)) hap (fun q e' hq => ⟨fun j hj => hz q e' hq j hj, hall q e' hq⟩)
      refine ⟨_, _, hrun, _, _, c', hk, ?_, k4, k1, k2, k5⟩
      show _ = c'.E.B nn.n
      rw [k3, List.length_append]
  · -- a new block
    have hlX : (xs.flatMap (flat c.E.B e)).length = xs.length * e.sz := flatMap_len _ (hfl xs)
    have hlN : (ys.flatMap (flat c.E.B e)).length = ys.length * e.sz := flatMap_len _ (hfl ys)
    have hlA : ((xs ++ ys).flatMap (flat c.E.B e)).length = (xs ++ ys).length * e.sz := flatMap_len _ (hfl _)
    have hold : (Builtin.firstCells inf.size xs.length (.slice ad xs.length cap)).run P c.x.drew = .ok (xs.flatMap (flat c.E.B e)).toArray c.x.drew := by
      rcases hcont with h1 | ⟨b, o, rfl, h2⟩
      · subst h1
        cases ad with
        | none => exact run_firstCells_none _ _ _ _ _
        | some a => exact run_firstCells_some _ _ _ _ _ _ _ (by simp) (by simp)
      · refine run_firstCells_some _ _ _ _ _ _ _ (by rw [hlX, u3]) (fun j w hj => ?_)
        have hj' : j = (j / e.sz) * e.sz + j % e.sz := by rw [Nat.mul_comm]; exact (Nat.div_add_mod j e.sz).symm
        have hm : j % e.sz < e.sz := Nat.mod_lt _ (by omega)
        rw [hj', flatMap_get _ (hfl xs) _ _ hm] at hj
        cases hq : xs[j / e.sz]? with
        | none => rw [hq] at hj; cases hj
        | some q =>
          rw [hq] at hj
          have := h2 _ q hq _ hm
          have h3 : c.x.drew.cell? ((⟨b, o, none⟩ : Addr).add j) = c.x.cell? ((⟨b, o, none⟩ : Addr).add j) := rfl
          rw [h3, Addr.add_mid, hj', ← Nat.add_assoc, this]
          exact hj
    have hbyt : (xs.length + ys.length) * inf.bytes ≤ 140737488355328 := Nat.le_trans (Nat.mul_le_mul_left _ u7) hby
    have hrun := run_append_grow_src (P := P) c.x t t ty' el inf z u1 u2 u5 ad xs.length cap _ hold vy ys.length _ hsrc (by omega) (by omega) (growslice_fits (by omega) hbyt)
    rw [← List.flatMap_append] at hrun
    let g := grownCap c.x (xs.length + ys.length) cap el
    have hge : xs.length + ys.length ≤ g := grownCap_ge _ _ _ _
    have hsz : (((xs ++ ys).flatMap (flat c.E.B e)).toArray ++ Builtin.zeroCells z.cells (g - (xs.length + ys.length))).size = g * e.sz := by
      rw [Array.size_append, zeroCells_len, hzs]
      have h1 : ((xs ++ ys).flatMap (flat c.E.B e)).toArray.size = (xs.length + ys.length) * e.sz := by simpa using hlA
      rw [h1, ← Nat.add_mul]
      congr 1
      omega
    have hB' : HB (c.x.drew.alloc (.cells (((xs ++ ys).flatMap (flat c.E.B e)).toArray ++ Builtin.zeroCells z.cells (g - (xs.length + ys.length))) el)) c.x.heap.size (((xs ++ ys).flatMap (flat c.E.B e)).toArray ++ Builtin.zeroCells z.cells (g - (xs.length + ys.length))) el := heap_alloc_at c.x.drew _
    have hnoF : ∀ e', ¬ c.E.F c.x.heap.size e' := fun e' he' => Nat.lt_irrefl _ (hr.wf.fhi _ _ he')
    have hap : ∀ q s', q.val c.E.B ≠ .slice none 0 0 → ∀ j, j ≠ i → nn.tk[j]? = some (q, s') → ∀ o' l' k', q.val c.E.B = .slice (some ⟨c.x.heap.size, o', none⟩) l' k' → 0 < k' → False := fun q s' _ j hj hq o' l' k' hv' hk' => by
      obtain ⟨_, g⟩ := hr.tk.ok _ (List.mem_of_getElem? hq)
      rcases g with ⟨ad', g⟩ | ⟨b', _, _, _, _, _, g1, _, _, g4, _⟩
      · have g : q.val c.E.B = .slice ad' 0 0 := g
        rw [hv'] at g
        obtain ⟨_, _, h3⟩ := Value.slice.inj g
        omega
      · have g1 : q.val c.E.B = _ := g1
        rw [hv'] at g1
        cases g1
        exact Nat.lt_irrefl _ g4.lt
    have hz : ∀ (q : Nat) e', (xs ++ ys)[q]? = some e' → ∀ j, j < e.sz → (c.x.drew.alloc (.cells (((xs ++ ys).flatMap (flat c.E.B e)).toArray ++ Builtin.zeroCells z.cells (g - (xs.length + ys.length))) el)).cell? ⟨c.x.heap.size, 0 + q * e.sz + j, none⟩ = (flat c.E.B e e')[j]? := fun q e' hq j hj => by
      have hlt : q < (xs ++ ys).length := (List.getElem?_eq_some_iff.1 hq).1
      have hle : q * e.sz + e.sz ≤ (xs ++ ys).length * e.sz := by rw [← Nat.succ_mul]; exact Nat.mul_le_mul_right _ hlt
      rw [hB'.cell, Nat.zero_add, Array.getElem?_append_left (by simp only [List.size_toArray, hlA]; omega)]
      simp only [List.getElem?_toArray]
      rw [flatMap_get _ (hfl _) _ _ hj, hq]
      rfl
    obtain ⟨c', k1, k2, k3, k4, k5⟩ := grown (e := e) (zs := xs ++ ys) hr hi (x' := c.x.drew.alloc (.cells (((xs ++ ys).flatMap (flat c.E.B e)).toArray ++ Builtin.zeroCells z.cells (g - (xs.length + ys.length))) el)) (b := c.x.heap.size) (o := 0) (cap := g)
      ⟨rfl, rfl, rfl, by rw [size_alloc']; exact Nat.le_succ _, fun k hk _ => Below.heap_alloc _ _ _ hk⟩ hr.wf.below.size (fun i hi => Nat.ne_of_lt (hr.wf.hi i hi)) hB' (by rw [List.length_append]; exact hge) (grownCap_le_maxLen _ _ _ _ (by unfold maxLen; omega)) (by rw [hsz]; omega)
      (fun e' he' => absurd he' (hnoF e')) (fun e' he' => absurd he' (hnoF e')) hap (fun q e' hq => ⟨fun j hj => hz q e' hq j hj, hall q e' hq⟩)
    refine ⟨_, _, hrun, _, _, c', hk, ?_, k4, k1, k2, k5⟩
    show _ = c'.E.B nn.n
    rw [k3, List.length_append]
theorem own_sound (hT : TabOk P T) {o : Oper} {f : Fr} {nn : NS} {k : SV → NS → Prop} (h : ownK T o f nn k) {bl : List V} {c : Cx} {a : Act} (hr : Real w0 F0 bl nn c) (hf : FR N c f a) :
    ∃ v x', (execOp a.eval o).run P c.x = .ok (.value v) x' ∧ ∃ r nn' c', k r nn' ∧ v = r.val c'.E ∧ r.ok c' ∧ Real w0 F0 bl nn' c' ∧ c.Le c' ∧ c'.x = x' := by
  unfold ownK at h
  split at h <;> first | exact h.elim | skip
  rename_i cl ho
  split at h <;> first | exact h.elim | skip
  rename_i hc
  split at h <;> first | exact h.elim | skip
  rename_i x y hxy
  split at h <;> first | exact h.elim | skip
  rename_i t u htu
  split at h <;> first | exact h.elim | skip
  rename_i e n0 hty
  split at h <;> first | exact h.elim | skip
  rename_i hu0
  obtain rfl : u = t := Nat.eq_of_beq_eq_true hu0
  split at h <;> first | exact h.elim | skip
  rename_i s hs
  obtain ⟨hd, xs, h1, h2⟩ := lstA_sound h
  obtain ⟨e1, e2⟩ := evS_sound hf hs
  have hx := h2 c e2
  have hargs : cl.args = #[x, y] := by apply Array.toList_inj.1; rw [hxy]
  have hats : cl.argTypes = #[u, u] := by apply Array.toList_inj.1; rw [htu]
  have hexec : ∀ (v' : Value) (x' : World), (Builtin.append_ #[u, u] o.type #[a.eval x, a.eval y]).run P c.x = .ok v' x' → (execOp a.eval o).run P c.x = .ok (.value v') x' := fun v' x' hrun => by
    unfold execOp
    simp only [ho, resolve, hc, invoke, builtin, Sem.run_bind, Sem.run_pure, Result.andThen_ok, hargs, hats, List.map_toArray, List.map_cons, List.map_nil, hrun]
  have e1' : a.eval x = s.val c.E := e1
  split at h1
  · rename_i v hv
    obtain ⟨d, g1, g2, g3, g4⟩ := denK_sound v (.lst e) _ h1
    obtain ⟨e3, e4⟩ := evS_sound hf hv
    obtain ⟨v', x', hrun, hrest⟩ := app_run (P := P) hr hT hty (vx := a.eval x) (vy := a.eval y) o.type (by rw [e1']; exact hx) (h' := d.1) (by rw [e3]; exact val_leaf g2 (g3 c.E.B)) (g4 _ _ _ _ e4) g1
    exact ⟨v', x', hexec _ _ hrun, hrest⟩
  · rename_i hv
    obtain ⟨e3, e4⟩ := evS_sound hf hv
    obtain ⟨v', x', hrun, hrest⟩ := app_run (P := P) hr hT hty (vx := a.eval x) (vy := a.eval y) o.type (by rw [e1']; exact hx) (h' := nilH) e3 ⟨trivial, Or.inl ⟨rfl, none, 0, rfl⟩⟩ h1
    exact ⟨v', x', hexec _ _ hrun, hrest⟩
  · exact h1.elim

/-- A call that is walked there. -/
theorem mOf_spec {o : Oper} {f : Fr} {tr : MTr} {xs : List Operand} {cs : List (Nat × Nat × List Step × Ty)} (hS : SpecsOk P S) (h : mOf S f o = some (tr, xs, cs)) : ∃ g, MOk P g tr ∧ ∀ (c : Cx) (a : Act), FR N c f a →
    (execOp a.eval o).run P c.x = .ok (.enter g ((xs.map a.eval) ++ cs.map fun q => (capA q).val c.E).toArray) c.x ∧ ∀ q ∈ cs, (capA q).ok c := by
  unfold mOf at h
  split at h
  · rename_i cl ho
    split at h
    · rename_i x hx
      split at h
      · rename_i g cs' hg
        split at h
        · rename_i q1 q2 q3 q4 q5 q6 tr' hs
          obtain ⟨⟨_, hm⟩, hbody⟩ := hS _ (spL_mem _ _ _ hs)
          cases h
          refine ⟨g, hm tr rfl, fun c a hf => ?_⟩
          obtain ⟨e1, e2⟩ := evS_sound hf hg
          refine ⟨?_, fun q hq => e2 q hq⟩
          unfold execOp
          simp only [ho, resolve, hx, e1, SV.val, AV.val, Deferred.ofValue, Sem.run_bind, Sem.run_pure, Result.andThen_ok, invoke]
          simp only [Array.empty_append]
          rw [callFunc_run hbody]
          congr 2
          apply Array.toList_inj.1
          simp [capA, AV.val]
        · cases h
      · split at h
        · rename_i g _
          split at h
          · rename_i q1 q2 q3 q4 q5 q6 tr' hs
            obtain ⟨⟨_, hm⟩, hbody⟩ := hS _ (spL_mem _ _ _ hs)
            cases h
            refine ⟨g, hm tr rfl, fun c a hf => ?_⟩
            refine ⟨?_, fun q hq => by cases hq⟩
            have e1 : a.eval (.func g) = .func (.func g) #[] #[] := rfl
            unfold execOp
            simp only [ho, resolve, hx, e1, Deferred.ofValue, Sem.run_bind, Sem.run_pure, Result.andThen_ok, invoke]
            simp only [Array.empty_append]
            rw [callFunc_run hbody]
            congr 2
            apply Array.toList_inj.1
            simp
          · cases h
        · cases h
    · cases h
  · cases h

/-- Operations one after the other. -/
def tailL (P : Program) (ops : Array Oper) (Q : Act → World → Prop) : List Oper → Act → World → Prop
  | [], a, x => Q a x
  | o :: r, a, x => if Region.wanted o (yielded ops a.tmps) = true then upon4 P (fun v x' => tailL P ops Q r (a.put o.dst v) x') ((execOp a.eval o).run P x) else tailL P ops Q r (a.put o.dst undef) x

theorem upon4_mono {R R' : Value → World → Prop} (h : ∀ v x, R v x → R' v x) {r : Result Next} (hr : upon4 P R r) : upon4 P R' r := by
  cases r with
  | ok nx w' =>
    cases nx <;> simp only [upon4] at hr ⊢
    case value u => exact h _ _ hr
    case skip => exact h _ _ hr
    case enter g args => exact hr.mono fun e x' ⟨u, he, hu⟩ => ⟨u, he, h _ _ hu⟩
  | halt q w' => simp only [upon4] at hr

theorem tailL_list {ops : Array Oper} {Q : Exit → Act → World → Prop} : ∀ (l : List Oper) (a : Act) (x : World), tailL P ops (fun a x => Q .normal a x) l a x → wpList P ops Q l a x
  | [], a, x, h => h
  | o :: r, a, x, h => by
    unfold tailL at h
    unfold wpList
    split at h
    · rename_i hw
      rw [if_pos hw]
      refine Or.inl ?_
      unfold Oper.wp
      generalize (execOp a.eval o).run P x = res at h
      cases res with
      | ok nx w' =>
        cases nx <;> simp only [upon4] at h <;> simp only [Oper.upon]
        case value u => exact tailL_list r _ _ h
        case skip => exact tailL_list r _ _ h
        case enter g args =>
          exact h.mono fun e x' he => by
            obtain ⟨u, rfl, hu⟩ := he
            exact tailL_list r _ _ hu
      | halt q w' => simp only [upon4] at h
    · rename_i hw
      rw [if_neg hw]
      exact tailL_list r _ _ h

theorem flat_nolst (B B' : Nat → Value) : ∀ (t : Ty) (v : t.D), t.nolst = true → flat B t v = flat B' t v
  | .int, _, _ => rfl
  | .bool, _, _ => rfl
  | .one t, v, h => flat_nolst B B' t v h
  | .pair a b, v, h => by
    simp only [Ty.nolst, Bool.and_eq_true] at h
    simp only [flat]
    rw [flat_nolst B B' a _ h.1, flat_nolst B B' b _ h.2]
  | .arr n t, f, h => rows_congr n fun i _ => flat_nolst B B' t (f i) h
  | .lst t, v, h => by cases h
theorem V.cells_nolst (B B' : Nat → Value) : ∀ v : V, v.ty.nolst = true → v.cells B = v.cells B'
  | .leaf t v, h => flat_nolst B B' t v h
  | .one y, h => V.cells_nolst B B' y h
  | .node y z, h => by
    simp only [V.ty, Ty.nolst, Bool.and_eq_true] at h
    simp only [V.cells]
    rw [V.cells_nolst B B' y h.1, V.cells_nolst B B' z h.2]
theorem V.ok_nolst {XB : Nat → Prop} {B : Nat → Value} {F : Nat → Nat → Prop} {x : World} : ∀ v : V, v.ty.nolst = true → v.ok XB B F x
  | .leaf t v, h => wok_nolst t v h
  | .one y, h => V.ok_nolst y h
  | .node y z, h => by
    simp only [V.ty, Ty.nolst, Bool.and_eq_true] at h
    exact ⟨V.ok_nolst y h.1, V.ok_nolst z h.2⟩
theorem AV.pl_ok {c c' : Cx} (hA : ∀ i, c.XA i → c'.XA i ∧ c'.E.A i = c.E.A i ∧ c'.ty i = c.ty i) {s : AV} (hp : s.pl = true) (hs : s.ok c) : s.val c'.E = s.val c.E ∧ s.ok c' := by
  cases s with
  | of v =>
    refine ⟨?_, V.ok_nolst v hp⟩
    have hc := V.cells_nolst c'.E.B c.E.B v hp
    show v.val c'.E.B = v.val c.E.B
    unfold V.val
    split
    · rfl
    · rfl
    · cases hp
    · rw [hc]
  | ptr i off p u =>
    obtain ⟨h1, t, h2, h3⟩ := hs
    exact ⟨by simp only [AV.val, (hA i h1).2.1], (hA i h1).1, t, by rw [(hA i h1).2.2]; exact h2, h3⟩
  | elt t hd xs k off p u => cases hp
  | slc i off p n t lo len cap =>
    obtain ⟨h1, ⟨T, h2, h3⟩, h4⟩ := hs
    exact ⟨by simp only [AV.val, (hA i h1).2.1], (hA i h1).1, ⟨T, by rw [(hA i h1).2.2]; exact h2, h3⟩, h4⟩
  | clo g cs =>
    refine ⟨?_, fun q hq => ?_⟩
    · simp only [AV.val]
      congr 2
      apply List.map_congr_left
      intro q hq
      rw [(hA q.1 (hs q hq).1).2.1]
    · obtain ⟨h1, t, h2, h3⟩ := hs q hq
      exact ⟨(hA q.1 h1).1, t, by rw [(hA q.1 h1).2.2]; exact h2, h3⟩
  | emp hd => cases hp
  | raw v => exact ⟨rfl, trivial⟩
theorem SV.pl_ok {c c' : Cx} (hA : ∀ i, c.XA i → c'.XA i ∧ c'.E.A i = c.E.A i ∧ c'.ty i = c.ty i) {s : SV} (hp : s.pl = true) (hs : s.ok c) : s.val c'.E = s.val c.E ∧ s.ok c' := by
  cases s with
  | a x => exact AV.pl_ok hA hp hs
  | tup l =>
    simp only [SV.pl, List.all_eq_true] at hp
    refine ⟨?_, fun y hy => (AV.pl_ok hA (hp y hy) (hs y hy)).2⟩
    simp only [SV.val]
    congr 2
    apply List.map_congr_left
    intro y hy
    exact (AV.pl_ok hA (hp y hy) (hs y hy)).1
theorem frOk_look {te : Ty} {h : Hd} {xs xs' : List te.D} {m : Nat} {f : Fr} : ∀ (g : Fr), frOk te h xs m xs' f g → ∀ t s, look g t = some s → (look f t = some s ∧ s.pl = true) ∨ (look f t = some (.a (.of (.leaf (.lst te) (h, xs)))) ∧ s = .a (.of (.leaf (.lst te) (.nm m, xs'))))
  | [], _, t, s, hl => by cases hl
  | (t', s') :: r, hg, t, s, hl => by
    unfold look at hl
    split at hl
    · rename_i hb
      have := Nat.eq_of_beq_eq_true hb
      subst this
      cases hl
      exact hg.1
    · exact frOk_look r hg.2 t s hl

theorem splice_out {α : Type} {l n : List α} {off m : Nat} (h : off + n.length ≤ l.length) (hm : m < off ∨ off + n.length ≤ m) : (splice l off n)[m]? = l[m]? := by
  unfold splice
  rcases hm with hm | hm
  · rw [List.append_assoc, List.getElem?_append_left (by simp; omega), List.getElem?_take, if_pos hm]
  · rw [List.getElem?_append_right (by simp; omega), List.getElem?_drop]
    congr 1
    simp
    omega
theorem splice_in {α : Type} {l n : List α} {off k : Nat} (h : off + n.length ≤ l.length) (hk : k < n.length) : (splice l off n)[off + k]? = n[k]? := by
  unfold splice
  rw [List.getElem?_append_left (by simp; omega), List.getElem?_append_right (by simp; omega)]
  congr 1
  simp
  omega
/-- The world behind a store into a list of one's own. -/
theorem stored {bl : List V} {nn : NS} {c : Cx} (hr : Real w0 F0 bl nn c) (htop : ∀ b e, F0.c.E.F b e → b < w0.heap.size) (hnl : (bl.all fun v => v.ty.nolst) = true) {te : Ty} {xs xs' : List te.D} {i j : Nat} {h : Hd} (hi : nn.tk[i]? = some (h, te.sz)) (hw : wokc c (.lst te) (h, xs)) (hj : j < xs.length)
    {e : te.D} (hxs : xs' = xs.set j e) (he : wokc c te e) (hte : te.nolst = true) {off : Nat} {nc : List Value} (hoff : off + nc.length ≤ te.sz) (hfe : flat c.E.B te e = splice (flat c.E.B te (nthD te xs j)) off nc) :
    ∃ b o C t' c', HB c.x b C t' ∧ o + xs.length * te.sz ≤ C.size ∧ (∃ cap, h.val c.E.B = .slice (some ⟨b, o, none⟩) xs.length cap) ∧ c'.x = putB c.x b (sets C (o + j * te.sz + off) nc) ∧ Real w0 F0 bl ⟨nn.n + 1, nn.tk.set i (.nm nn.n, te.sz)⟩ c' ∧ (∀ i, c.XA i → c'.XA i ∧ c'.E.A i = c.E.A i ∧ c'.ty i = c.ty i) ∧ c'.E.B nn.n = h.val c.E.B ∧ wokc c' (.lst te) (.nm nn.n, xs') := by
  have hX := hr.XB
  have htok : TokOk w0 c h te.sz := hr.tk.ok _ (List.mem_of_getElem? hi)
  obtain ⟨_, hd2⟩ := hw
  rcases hd2 with ⟨h1, _⟩ | ⟨b, o, cap, d1, d2, d3, d4, d5, d6⟩
  · have h1 : xs = [] := h1
    rw [h1] at hj; simp at hj
  have d1 : h.val c.E.B = .slice (some ⟨b, o, none⟩) xs.length cap := d1
  have d2 : xs.length ≤ cap := d2
  rcases htok.2 with ⟨ad, ht⟩ | ⟨b', o', len, cap', C, t', g1, g2, g3, g4, g5, g6, g7, g8⟩
  · rw [d1] at ht
    obtain ⟨_, h2, _⟩ := Value.slice.inj ht
    omega
  rw [d1] at g1
  obtain ⟨q1, q2, q3⟩ := Value.slice.inj g1
  cases q1
  subst q2
  subst q3
  have hcap : 0 < cap := by omega
  let x' := putB c.x b (sets C (o + j * te.sz + off) nc)
  let E' : Env := ⟨c.E.A, fun n => if n = nn.n then h.val c.E.B else c.E.B n, fun d k => (d ≠ b ∧ c.E.F d k) ∨ (d = b ∧ k = o + xs.length * te.sz)⟩
  let c' : Cx := { XA := c.XA, XB := fun n => n < nn.n + 1, ty := c.ty, E := E', x := x' }
  have hBn : E'.B nn.n = h.val c.E.B := if_pos rfl
  have hBo : ∀ n, c.XB n → E'.B n = c.E.B n := fun n hn => if_neg (by have := (hX n).1 hn; omega)
  have hne : ∀ k, k ≠ b → x'.heap[k]? = c.x.heap[k]? := fun k hk => putB_ne _ _ _ hk
  have hB' : HB x' b (sets C (o + j * te.sz + off) nc) t' := g4.put _
  have hsz : x'.heap.size = c.x.heap.size := putB_size _ _ _
  have hval : ∀ q : Hd, q.ok c.XB → q.val E'.B = q.val c.E.B := fun q hq => hdVal_congr hBo hq
  have hsame : Same c.x x' (fun k => k = b) := ⟨rfl, rfl, rfl, by rw [hsz]; exact Nat.le_refl _, fun k _ hk => hne k hk⟩
  have hle0 : F0.c.Le c' := by
    have hl := hr.wf.le
    refine ⟨fun i hi => hl.A i hi, fun n hn => ⟨Nat.lt_succ_of_lt ((hX n).1 (hl.B n hn).1), (hBo n (hl.B n hn).1).trans (hl.B n hn).2⟩, fun d k hd => Or.inl ⟨?_, hl.F d k hd⟩, fun d k hd q hq => ?_, Nat.le_trans hl.S (by rw [hsz]; exact Nat.le_refl _)⟩
    · have := htop d k hd; omega
    · rw [← hl.K d k hd q hq]
      exact World.cell?_of_block (hne d (by have := htop d k hd; omega))
  have hwf : c'.Wf w0 F0 := by
    refine ⟨hr.wf.below.trans (hsame.below hr.wf.below.size fun k hk hkb => ?_), hr.wf.lo, fun i hi => by rw [show c'.x.heap.size = c.x.heap.size from hsz]; exact hr.wf.hi i hi, hr.wf.inj, fun d k hd => ?_, fun i hi k hk => ?_, fun d k hd => ?_, fun n hn => ⟨Nat.lt_succ_of_lt ((hX n).1 (hr.wf.oldB n hn).1), (hBo n (hr.wf.oldB n hn).1).trans (hr.wf.oldB n hn).2⟩, hle0⟩
    · omega
    · rw [show c'.x.heap.size = c.x.heap.size from hsz]
      rcases hd with ⟨_, hd⟩ | ⟨rfl, _⟩
      · exact hr.wf.fhi d k hd
      · exact g4.lt
    · rcases hk with ⟨_, hk⟩ | ⟨hk, _⟩
      · exact hr.wf.own i hi k hk
      · exact g3 i hi hk
    · constructor
      · rintro (⟨_, h1⟩ | ⟨h1, _⟩)
        · exact (hr.wf.old d k hd).1 h1
        · omega
      · exact fun h1 => Or.inl ⟨by omega, (hr.wf.old d k hd).2 h1⟩
  have hmulj : j * te.sz + te.sz ≤ xs.length * te.sz := by rw [← Nat.succ_mul]; exact Nat.mul_le_mul_right _ hj
  have hmulc : xs.length * te.sz ≤ cap * te.sz := Nat.mul_le_mul_right _ d2
  have hflat : ∀ (z : te.D), wokc c te z → flat E'.B te z = flat c.E.B te z := fun z hz => flat_congr hBo te z hz
  refine ⟨b, o, C, t', c', g4, by omega, ⟨cap, d1⟩, rfl, ⟨hwf, hr.XA, fun n => Iff.rfl, hr.ty, fun k v hv => ?_, ?_⟩, fun i hi => ⟨hi, rfl, rfl⟩, hBn, ⟨Nat.lt_succ_self _, ?_⟩⟩
  · obtain ⟨⟨t1, h1⟩, h2⟩ := hr.blk k v hv
    have hn := List.all_eq_true.1 hnl v (List.mem_of_getElem? hv)
    have hXA := (hr.XA k).2 (List.getElem?_eq_some_iff.1 hv).1
    refine ⟨⟨t1, ?_⟩, V.ok_nolst v hn⟩
    show HB x' (c.E.A k) (v.cells E'.B).toArray t1
    rw [V.cells_nolst E'.B c.E.B v hn]
    unfold HB
    rw [hne _ (g3 k hXA)]
    exact h1
  · have hall : ∀ q s', (q, s') ∈ nn.tk → TokOk w0 c q s' := fun q s' hq => hr.tk.ok (q, s') hq
    have hilt : i < nn.tk.length := (List.getElem?_eq_some_iff.1 hi).1
    have hoth : ∀ k q s', k ≠ i → nn.tk[k]? = some (q, s') → ∀ o' l' k', q.val c.E.B = .slice (some ⟨b, o', none⟩) l' k' → 0 < k' → False := fun k q s' hk hq o' l' k' hv' hk' => by
      have hjl : k < nn.tk.length := (List.getElem?_eq_some_iff.1 hq).1
      have hjv : nn.tk[k] = (q, s') := (List.getElem?_eq_some_iff.1 hq).2
      have hiv : nn.tk[i] = (h, te.sz) := (List.getElem?_eq_some_iff.1 hi).2
      have hp := List.pairwise_iff_getElem.1 hr.tk.ne
      rcases Nat.lt_or_gt_of_ne hk with hlt | hlt
      · have := hp k i hjl hilt hlt
        rw [hjv, hiv] at this
        exact this _ _ _ _ _ _ _ hv' d1 hk' hcap
      · have := hp i k hilt hjl hlt
        rw [hjv, hiv] at this
        exact this _ _ _ _ _ _ _ d1 hv' hcap hk'
    have hme : TokOk w0 c' (.nm nn.n) te.sz := ⟨Nat.lt_succ_self _, Or.inr ⟨b, o, xs.length, cap, _, t', hBn.trans d1, g2, g3, hB', d2, g6, by rw [sets_size]; exact g7, fun e' he' => by
      rcases he' with ⟨he', _⟩ | ⟨_, he'⟩
      · exact absurd rfl he'
      · omega⟩⟩
    refine ⟨fun p hp => ?_, ?_⟩
    · obtain ⟨k, hk⟩ := List.getElem?_of_mem hp
      have hk : (nn.tk.set i (.nm nn.n, te.sz))[k]? = some p := hk
      rw [List.getElem?_set] at hk
      split at hk
      · cases hk
        exact hme
      · rename_i hne'
        obtain ⟨g0, g⟩ := hall p.1 p.2 (List.mem_of_getElem? hk)
        refine ⟨?_, ?_⟩
        · cases hp1 : p.1 with
          | conc u => trivial
          | nm k => rw [hp1] at g0; exact Nat.lt_succ_of_lt ((hX k).1 g0)
        rcases g with ⟨ad, g⟩ | ⟨b2, o2, len2, cap2, C2, t2, k1, k2, k3, k4, k5, k6, k7, k8⟩
        · exact Or.inl ⟨ad, (hval _ g0).trans g⟩
        · rcases Nat.eq_zero_or_pos cap2 with h0 | h0
          · subst h0
            obtain rfl : len2 = 0 := by omega
            exact Or.inl ⟨_, (hval _ g0).trans k1⟩
          have hbne : b2 ≠ b := fun hbb => by
            subst hbb
            exact hoth k p.1 p.2 (Ne.symm hne') hk _ _ _ k1 h0
          refine Or.inr ⟨b2, o2, len2, cap2, C2, t2, (hval _ g0).trans k1, k2, k3, ?_, k5, k6, k7, fun e' he' => ?_⟩
          · show x'.heap[b2]? = _
            rw [hne b2 hbne]
            exact k4
          · rcases he' with ⟨_, he'⟩ | ⟨he', _⟩
            · exact k8 e' he'
            · exact absurd he' hbne
    · show (nn.tk.set i (.nm nn.n, te.sz)).Pairwise (Apart E'.B)
      rw [List.pairwise_iff_getElem]
      intro j k hj hk hjk
      rw [List.length_set] at hj hk
      have hgj : nn.tk[j]? = some nn.tk[j] := List.getElem?_eq_getElem hj
      have hgk : nn.tk[k]? = some nn.tk[k] := List.getElem?_eq_getElem hk
      rw [List.getElem_set, List.getElem_set]
      intro b1 o1 l1 k1 o2 l2 k2 h1 h2 h3 h4
      by_cases hij : i = j
      · rw [if_pos hij] at h1
        rw [if_neg (by omega)] at h2
        have e1 : E'.B nn.n = .slice (some ⟨b1, o1, none⟩) l1 k1 := h1
        rw [hBn, d1] at e1
        cases e1
        exact hoth k nn.tk[k].1 nn.tk[k].2 (by omega) hgk _ _ _ ((hval _ (hall _ _ (List.mem_of_getElem? hgk)).1).symm.trans h2) h4
      · rw [if_neg hij] at h1
        by_cases hik : i = k
        · rw [if_pos hik] at h2
          have e1 : E'.B nn.n = .slice (some ⟨b1, o2, none⟩) l2 k2 := h2
          rw [hBn, d1] at e1
          cases e1
          exact hoth j nn.tk[j].1 nn.tk[j].2 (by omega) hgj _ _ _ ((hval _ (hall _ _ (List.mem_of_getElem? hgj)).1).symm.trans h1) h3
        · rw [if_neg hik] at h2
          exact (List.pairwise_iff_getElem.1 hr.tk.ne) j k hj hk hjk b1 o1 l1 k1 o2 l2 k2 ((hval _ (hall _ _ (List.mem_of_getElem? hgj)).1).symm.trans h1) ((hval _ (hall _ _ (List.mem_of_getElem? hgk)).1).symm.trans h2) h3 h4
  · have hl' : xs'.length = xs.length := by rw [hxs, List.length_set]
    refine Or.inr ⟨b, o, cap, ?_, by show xs'.length ≤ cap; rw [hl']; exact d2, d3, by rw [show c'.x.heap.size = c.x.heap.size from hsz]; exact d4, ⟨o + xs.length * te.sz, by show o + xs'.length * te.sz ≤ _; rw [hl']; exact Nat.le_refl _, Or.inr ⟨rfl, rfl⟩⟩, fun q z hq => ?_⟩
    · show E'.B nn.n = .slice _ xs'.length cap
      rw [hBn, d1, hl']
    · have hq2 : xs'[q]? = some z := hq
      rw [hxs, List.getElem?_set] at hq2
      clear hq
      have hq := hq2
      clear hq2
      refine ⟨fun m hm => ?_, wok_nolst te z hte⟩
      show x'.cell? _ = (flat E'.B te z)[m]?
      rw [flat_nolst E'.B c.E.B te z hte, hB'.cell]
      split at hq
      · rename_i hjq
        subst hjq
        have hq := Option.some.inj hq
        subst hq
        have hold : xs[j]? = some (nthD te xs j) := by unfold nthD; rw [List.getElem?_eq_getElem hj]; rfl
        have hln : (flat c.E.B te (nthD te xs j)).length = te.sz := flat_len _ _ _
        rw [hfe]
        by_cases hin : m < off ∨ off + nc.length ≤ m
        · rw [sets_out _ _ _ _ (by omega), splice_out (by omega) hin, ← (d6 j _ hold).1 m hm, g4.cell]
        · obtain ⟨r, rfl⟩ : ∃ r, m = off + r := ⟨m - off, by omega⟩
          rw [← Nat.add_assoc, sets_in _ _ _ _ (by omega) (by omega), splice_in (by omega) (by omega)]
      · rename_i hjq
        have hq' : q < xs.length := (List.getElem?_eq_some_iff.1 hq).1
        have hdis : q * te.sz + te.sz ≤ j * te.sz ∨ j * te.sz + te.sz ≤ q * te.sz := by
          rcases Nat.lt_or_gt_of_ne hjq with h1 | h1
          · exact Or.inr (by rw [← Nat.succ_mul]; exact Nat.mul_le_mul_right _ h1)
          · exact Or.inl (by rw [← Nat.succ_mul]; exact Nat.mul_le_mul_right _ h1)
        rw [sets_out _ _ _ _ (by omega), ← (d6 q z hq).1 m hm, g4.cell]
theorem stw_sound (hT : TabOk P T) {o : Oper} {f : Fr} {bl : List V} {nn : NS} {K : Fr → List V → NS → Prop} (h : stwK T o f bl nn K) {c : Cx} {a : Act} (hr : Real w0 F0 bl nn c) (hf : FR N c f a) (htop : ∀ b e, F0.c.E.F b e → b < w0.heap.size) :
    ∃ x', (execOp a.eval o).run P c.x = .ok .skip x' ∧ o.dst = none ∧ Sat w0 F0 N K a x' := by
  unfold stwK at h
  split at h <;> first | exact h.elim | skip
  rename_i t x y ho
  split at h <;> first | exact h.elim | skip
  rename_i hdst
  split at h <;> first | exact h.elim | skip
  rename_i te hd xs j off p u hx
  split at h <;> first | exact h.elim | skip
  rename_i ty n0 hty
  split at h <;> first | exact h.elim | skip
  rename_i he _
  subst he
  split at h <;> first | exact h.elim | skip
  rename_i s hs
  split at h <;> first | exact h.elim | skip
  rename_i new hnew
  obtain ⟨z, h1, h2, h3⟩ := setK_sound _ _ _ _ h
  obtain ⟨e, h4, h5, h6, h7⟩ := denK_sound z te _ h1
  obtain ⟨hte, i, g, hi, hnl, hg, hk⟩ := h4
  obtain ⟨e1, e2⟩ := evS_sound hf hx
  obtain ⟨e3, e4⟩ := evS_sound hf hs
  obtain ⟨e5, e6⟩ := asV_sound hnew e4
  obtain ⟨hwk, hj, hat⟩ := e2
  obtain ⟨k1, k2, k3, k4⟩ := h3 off u hat
  have hncl : (new.cells c.E.B).length = u.sz := by rw [V.cells_len, k1]
  obtain ⟨b, o', C, t', c', m1, m2, ⟨cap, m3⟩, m4, m5, m6, m7, m8⟩ := stored hr htop hnl hi hwk hj (hxs := rfl) (e := e) (wok_nolst te e hte) hte (off := off) (nc := new.cells c.E.B) (by rw [hncl]; exact k2) (by rw [h6, k3]; rfl)
  have hmulj : j * te.sz + te.sz ≤ xs.length * te.sz := by rw [← Nat.succ_mul]; exact Nat.mul_le_mul_right _ hj
  have hk2 : off + u.sz ≤ te.sz := k2
  have hrun := storeVar_cells (P := P) (id := t) (y := new) (B := c.E.B) (by rw [k1]; exact tyB_1 (hT.ty.at hty)) (V.cells_one new e6) m1 (o := o' + j * te.sz + off) (by rw [k1]; omega)
  have e1' : a.eval x = .pointer (some ⟨b, o' + j * te.sz + off, none⟩) := by
    rw [e1]
    simp only [SV.val, AV.val, m3]
  have e3' : a.eval y = new.val c.E.B := e3.trans e5
  refine ⟨putB c.x b (sets C (o' + j * te.sz + off) (new.cells c.E.B)), ?_, hdst, g, bl, _, c', hk, m5, ⟨hf.size, hf.defers, fun q s' hq => ?_⟩, m4⟩
  · unfold execOp
    simp only [ho, e1', e3', Instr.storeAt, Instr.sureAddr, Sem.run_bind, Sem.run_pure, Result.andThen_ok, hrun]
  · rcases frOk_look g hg q s' hq with ⟨f1, f2⟩ | ⟨f1, rfl⟩
    · obtain ⟨f3, f4⟩ := hf.get q s' f1
      obtain ⟨f5, f6⟩ := SV.pl_ok m6 f2 f4
      exact ⟨by rw [f5]; exact f3, f6⟩
    · obtain ⟨f3, f4⟩ := hf.get q _ f1
      refine ⟨?_, m8⟩
      rw [f3]
      show some (hd.val c.E.B) = some (c'.E.B nn.n)
      rw [m7]
theorem oneK_sound (hT : TabOk P T) (hS : SpecsOk P S) {o : Oper} {f : Fr} {bl : List V} {nn : NS} {K : Fr → List V → NS → Prop} (h : oneK T S N o f bl nn K) {c : Cx} {a : Act} (hr : Real w0 F0 bl nn c) (hf1 : FR N c f a) (htop : T.top = true → ∀ b e, F0.c.E.F b e → b < w0.heap.size) :
    upon4 P (fun v x' => Sat w0 F0 N K (a.put o.dst v) x') ((execOp a.eval o).run P c.x) := by
  unfold oneK at h
  split at h
  · obtain ⟨v, x', hrun, r, nn', c', hk, hv, hro, hr', hle, rfl⟩ := own_sound hT h hr hf1
    rw [hrun]
    obtain ⟨f2, hk2, hf2⟩ := putK_sound hk (hf1.mono hle) hro
    rw [← hv] at hf2
    exact ⟨f2, bl, nn', c', hk2, hr', hf2, rfl⟩
  split at h
  · obtain ⟨b, hk, hrun⟩ := nilW_sound (P := P) hT h (c := c) (ρ := a.eval) (fun y s hs => evS_sound hf1 hs)
    rw [hrun]
    obtain ⟨f2, hk2, hf2⟩ := putK_sound hk hf1 (c := c) trivial
    exact ⟨f2, bl, nn, c, hk2, hr, hf2, rfl⟩
  split at h
  · rename_i hel
    have ht : T.top = true := by
      unfold isElt at hel
      split at hel
      · assumption
      · cases hel
    obtain ⟨x', hrun, hdst, hs⟩ := stw_sound hT h hr hf1 (htop ht)
    rw [hrun]
    show Sat w0 F0 N K (a.put o.dst undef) x'
    rw [hdst]
    exact hs
  split at h
  · rename_i tr xs cs hm
    obtain ⟨g, hok, hex⟩ := mOf_spec (N := N) hS hm
    obtain ⟨l, hk, _, hl⟩ := evsK_elim (N := N) xs _ h
    have hk := apsK_elim _ _ hk
    obtain ⟨e1, e2⟩ := hl c a hf1
    obtain ⟨e3, e4⟩ := hex c a hf1
    rw [e3]
    have hc := hok w0 F0 (l ++ cs.map capA) bl nn _ hk c hr (fun s hs => by
      rcases List.mem_append.1 hs with hs | hs
      · exact e2 s hs
      · obtain ⟨q, hq, rfl⟩ := List.mem_map.1 hs
        exact e4 q hq)
    have hargs : ((xs.map a.eval) ++ cs.map fun q => (capA q).val c.E) = (l ++ cs.map capA).map (AV.val c.E) := by
      rw [List.map_append, e1, List.map_map]; rfl
    simp only [upon4]
    rw [hargs]
    refine hc.mono fun e x' he => ?_
    obtain ⟨r, bl', nn', c', rfl, hk', hr', hle, hro, rfl⟩ := he
    refine ⟨_, rfl, ?_⟩
    obtain ⟨f2, hk2, hf2⟩ := putK_sound hk' (hf1.mono hle) hro
    exact ⟨f2, bl', nn', c', hk2, hr', hf2, rfl⟩
  · obtain ⟨out, hk, hcr, hd⟩ := opK_sound (w0 := w0) (F0 := F0) hT hS h
    have hrun := hd c a.eval hr.wf (fun y _ s hs => evS_sound hf1 hs) (fun i hi v hv => ⟨(hr.XA i).2 (lt_of_get hv), hr.ty i v hv, hr.blk i v hv⟩) (fun _ h => Nat.lt_irrefl _ ((hr.XA _).1 h)) (fun _ => hr.XB)
    refine upon4_mono (fun v x' ⟨E, hp⟩ => ?_) hrun
    obtain ⟨hr', hle⟩ := hr.step hp
    have hk' := efK_elim hk
    obtain ⟨f2, hk2, hf2⟩ := putK_sound hk' (hf1.mono hle) hp.ok
    rw [show out.r.val (c.ext out bl.length nn.n E x').E = v from hp.val.symm] at hf2
    cases hc : out.cr with
    | true =>
      simp only [hc, addK] at hk2
      exact ⟨f2, _, _, _, hk2, hr', hf2, rfl⟩
    | false =>
      simp only [hc, addK] at hk2
      have h0 := hcr hc
      rw [h0, Nat.add_zero] at hr'
      exact ⟨f2, _, _, _, hk2, hr', hf2, rfl⟩

theorem seqK_tail (hT : TabOk P T) (hS : SpecsOk P S) {ops : List Oper} {Q : Act → World → Prop} {K : Fr → List V → NS → Prop} (htop : T.top = true → ∀ b e, F0.c.E.F b e → b < w0.heap.size) (hQ : ∀ a x, Sat w0 F0 N K a x → Q a x) : ∀ (l : List Oper) (f : Fr) (bl : List V) (nn : NS) (c : Cx) (a : Act), seqK T S N (ops.map (·.dst)) l f bl nn K → Real w0 F0 bl nn c → FR N c f a → tailL P ops.toArray Q l a c.x
  | [], f, bl, nn, c, a, h, hr, hf => hQ a c.x ⟨f, bl, nn, c, h, hr, hf, rfl⟩
  | o :: r, f, bl, nn, c, a, h, hr, hf => by
    unfold seqK at h
    unfold tailL
    rcases guardK_sound h hf with ⟨hw, f1, hy, hf1⟩ | ⟨hw, f1, hno, hf1⟩
    · rw [if_pos hw]
      refine upon4_mono (fun v x' hs => ?_) (oneK_sound hT hS hy hr hf1 htop)
      obtain ⟨f2, bl2, nn2, c2, hk, hr2, hf2, rfl⟩ := hs
      exact seqK_tail hT hS htop hQ r f2 bl2 nn2 c2 _ hk hr2 hf2
    · rw [if_neg (by rw [hw]; exact Bool.false_ne_true)]
      obtain ⟨f2, hk2, hf2⟩ := putK_sound hno hf1 (und_ok c)
      exact seqK_tail hT hS htop hQ r f2 bl nn c _ hk2 hr hf2
theorem seqK_sound (hT : TabOk P T) (hS : SpecsOk P S) {ops : List Oper} {Q : Exit → Act → World → Prop} {K : Fr → List V → NS → Prop} (htop : T.top = true → ∀ b e, F0.c.E.F b e → b < w0.heap.size) (hQ : ∀ a x, Sat w0 F0 N K a x → Q .normal a x) (l : List Oper) (f : Fr) (bl : List V) (nn : NS) (c : Cx) (a : Act) (h : seqK T S N (ops.map (·.dst)) l f bl nn K) (hr : Real w0 F0 bl nn c) (hf : FR N c f a) : wpList P ops.toArray Q l a c.x :=
  tailL_list l a c.x (seqK_tail hT hS htop hQ l f bl nn c a h hr hf)
end

end Go.Proofs.Ytjbbgpacijageaa.M
