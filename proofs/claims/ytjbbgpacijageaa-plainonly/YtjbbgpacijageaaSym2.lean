/- Frames and blocks of a function without worlds: what its operations do there. No program is named here. -/
import Derived.Test.YtjbbgpacijageaaSym1
namespace Go.Proofs.Ytjbbgpacijageaa
open Go.RowKit
set_option linter.unusedVariables false
set_option linter.unusedSimpArgs false

/-- A value that points at no block of the function's own. -/
inductive LV where
  | v (x : Value)
  | a (l : List Seg)
def LV.val : LV → Value
  | .v x => x
  | .a q => .agg (cat q)
def LV.segs : LV → Option (List Seg)
  | .a q => some q
  | .v (.int .i64 z) => some [.int z]
  | .v (.bool b) => some [.bool b]
  | .v (.slice d n c) => some [.sl d n c]
  | .v _ => none
theorem LV.segs_cells {x : LV} {l : List Seg} (h : x.segs = some l) : x.val.cells = cat l := by
  unfold LV.segs at h
  split at h <;> first | (cases h; rfl) | cases h

/-- A value; a pointer at a block of the function's own; a tuple. -/
inductive SV where
  | l (x : LV)
  | ptr (i off : Nat)
  | pix (i off k : Nat)
  | slc (i len cap : Nat)
  | tup (l : List LV)
def SV.val (A : Nat → Nat) : SV → Value
  | .l x => x.val
  | .ptr i off => .pointer (some ⟨A i, off, none⟩)
  | .pix i off k => .pointer (some ⟨A i, off + k, none⟩)
  | .slc i len cap => .slice (some ⟨A i, 0, none⟩) len cap
  | .tup q => .tuple (q.map LV.val).toArray
def SV.ok (n : Nat) : SV → Prop
  | .ptr i _ => i < n
  | .pix i _ _ => i < n
  | .slc i _ _ => i < n
  | _ => True
theorem SV.val_congr {A A' : Nat → Nat} {n : Nat} (h : ∀ i, i < n → A i = A' i) {s : SV} (hs : s.ok n) : s.val A = s.val A' := by
  cases s with
  | ptr i off => simp only [SV.val, h i hs]
  | pix i off k => simp only [SV.val, h i hs]
  | slc i off k => simp only [SV.val, h i hs]
  | _ => rfl
theorem SV.ok_mono {n m : Nat} (h : n ≤ m) {s : SV} (hs : s.ok n) : s.ok m := by
  cases s with
  | ptr i off => exact Nat.lt_of_lt_of_le hs h
  | pix i off k => exact Nat.lt_of_lt_of_le hs h
  | slc i off k => exact Nat.lt_of_lt_of_le hs h
  | _ => trivial

abbrev Fr := List (Nat × SV)
abbrev St := List (List Seg × TypeId)
def look : Fr → Nat → Option SV
  | [], _ => none
  | (t', s) :: r, t => match Nat.beq t t' with | true => some s | false => look r t
def nth : St → Nat → Option (List Seg × TypeId)
  | [], _ => none
  | b :: r, n => match Nat.beq n 0 with | true => some b | false => nth r (n - 1)
def setN : St → Nat → List Seg → St
  | [], _, _ => []
  | (c, t) :: r, n, l => match Nat.beq n 0 with | true => (l, t) :: r | false => (c, t) :: setN r (n - 1) l
/-- Lists and lengths, laid out ahead of what comes behind. -/
def withLen : St → (Nat → Prop) → Prop
  | [], k => k 0
  | _ :: r, k => withLen r (fun n => k (n + 1))
def forceL : List Seg → (List Seg → Prop) → Prop
  | [], k => k []
  | s :: r, k => forceL r (fun r' => k (s :: r'))
def forceS : St → (St → Prop) → Prop
  | [], k => k []
  | (l, t) :: r, k => forceL l (fun l' => forceS r (fun r' => k ((l', t) :: r')))
theorem withLen_elim : ∀ (σ : St) (k : Nat → Prop), withLen σ k → k σ.length
  | [], k, h => h
  | _ :: r, k, h => withLen_elim r _ h
theorem forceL_elim : ∀ (l : List Seg) (k : List Seg → Prop), forceL l k → k l
  | [], k, h => h
  | _ :: r, k, h => forceL_elim r _ h
theorem forceS_elim : ∀ (σ : St) (k : St → Prop), forceS σ k → k σ
  | [], k, h => h
  | (l, t) :: r, k, h => forceS_elim r _ (forceL_elim l _ h)

theorem nth_eq : ∀ (σ : St) (i : Nat), nth σ i = σ[i]?
  | [], i => rfl
  | b :: r, i => by
    unfold nth
    split
    · rename_i h
      have := Nat.eq_of_beq_eq_true h
      subst this; rfl
    · rename_i h
      rw [nth_eq r]
      cases i with
      | zero => simp at h
      | succ i => simp
theorem setN_eq : ∀ (σ : St) (i : Nat) (l : List Seg) (b : List Seg × TypeId), σ[i]? = some b → setN σ i l = σ.set i (l, b.2)
  | [], i, l, b, h => rfl
  | (c, t) :: r, i, l, b, h => by
    unfold setN
    split
    · rename_i h'
      have := Nat.eq_of_beq_eq_true h'
      subst this
      simp at h; subst h; rfl
    · rename_i h'
      cases i with
      | zero => simp at h'
      | succ i =>
        simp at h
        rw [show i + 1 - 1 = i from rfl, setN_eq r i l b h]
        rfl

/-- The world that belongs to such a state: its blocks lie at A; those in S may hold anything. -/
structure Real (w0 : World) (S : List Nat) (σ : St) (A : Nat → Nat) (x : World) : Prop where
  blk : ∀ (i : Nat) (l : List Seg) (t : TypeId), σ[i]? = some (l, t) → S.contains i = false → HB x (A i) (cat l) t
  hid : ∀ (i : Nat) (l : List Seg) (t : TypeId), σ[i]? = some (l, t) → ∃ C, HB x (A i) C t ∧ C.size = sz l
  lo : ∀ i, i < σ.length → w0.heap.size ≤ A i
  inj : ∀ i j, i < σ.length → j < σ.length → A i = A j → i = j
  below : Below w0.heap.size w0 x

structure FR (N n : Nat) (A : Nat → Nat) (f : Fr) (a : Act) : Prop where
  size : a.tmps.size = N
  defers : a.defers = []
  get : ∀ t s, look f t = some s → a.tmps[t]? = some (s.val A) ∧ s.ok n

theorem Real.up {w0 x x' : World} {S : List Nat} {σ : St} {A : Nat → Nat} (h : Real w0 S σ A x) (hb : Below x.heap.size x x') : Real w0 S σ A x' :=
  ⟨fun i l t hi hs => (h.blk i l t hi hs).below hb, fun i l t hi => by obtain ⟨C, h1, h2⟩ := h.hid i l t hi; exact ⟨C, h1.below hb, h2⟩, h.lo, h.inj, below_trans h.below hb⟩
theorem Real.drew {w0 x : World} {S : List Nat} {σ : St} {A : Nat → Nat} (h : Real w0 S σ A x) : Real w0 S σ A { x with drawn := x.drawn + 1 } :=
  ⟨h.blk, h.hid, h.lo, h.inj, h.below.drew⟩
theorem Real.hide {w0 x : World} {σ : St} {A : Nat → Nat} (S : List Nat) (h : Real w0 [] σ A x) : Real w0 S σ A x :=
  ⟨fun i l t hi _ => h.blk i l t hi rfl, h.hid, h.lo, h.inj, h.below⟩
theorem lt_of_get {α : Type} {l : List α} {i : Nat} {b : α} (h : l[i]? = some b) : i < l.length := (List.getElem?_eq_some_iff.1 h).1
theorem below_putB' {w0 x : World} {b : Nat} (h : Below w0.heap.size w0 x) (hb : w0.heap.size ≤ b) (D : Array Value) : Below w0.heap.size w0 (putB x b D) :=
  h.trans ⟨rfl, rfl, rfl, by rw [putB_size]; exact Nat.le_refl _, fun k hk => putB_ne _ _ _ (by omega)⟩

theorem Real.put {w0 x : World} {S : List Nat} {σ : St} {A : Nat → Nat} (h : Real w0 S σ A x) {i : Nat} {l l' : List Seg} {t : TypeId} (hi : σ[i]? = some (l, t)) (hz : sz l' = sz l) : Real w0 S (setN σ i l') A (putB x (A i) (cat l')) := by
  have hil := lt_of_get hi
  rw [setN_eq _ _ _ _ hi]
  obtain ⟨C, hC, hCs⟩ := h.hid i l t hi
  refine ⟨fun j q u hj hs => ?_, fun j q u hj => ?_, fun j hj => h.lo j (by simpa using hj), fun j k hj hk => h.inj j k (by simpa using hj) (by simpa using hk), below_putB' h.below (h.lo i hil) _⟩
  · rw [List.getElem?_set] at hj
    split at hj
    · rename_i hij
      subst hij
      cases hj
      exact hC.put _
    · rename_i hij
      refine (h.blk j q u hj hs).put_ne (fun he => hij ?_) _
      exact (h.inj j i (lt_of_get hj) hil he).symm
  · rw [List.getElem?_set] at hj
    split at hj
    · rename_i hij
      subst hij
      cases hj
      exact ⟨_, hC.put _, cat_size _⟩
    · rename_i hij
      obtain ⟨D, hD, hDs⟩ := h.hid j q u hj
      exact ⟨D, hD.put_ne (fun he => hij (h.inj j i (lt_of_get hj) hil he).symm) _, hDs⟩

theorem setN_len : ∀ (σ : St) (i : Nat) (l : List Seg), (setN σ i l).length = σ.length
  | [], _, _ => rfl
  | (c, t) :: r, i, l => by
    unfold setN
    split
    · rfl
    · simp [setN_len r]

def newA (A : Nat → Nat) (n b : Nat) : Nat → Nat := fun j => if j = n then b else A j
theorem newA_old {A : Nat → Nat} {n b i : Nat} (h : i < n) : A i = newA A n b i := by unfold newA; rw [if_neg (by omega)]
theorem newA_new (A : Nat → Nat) (n b : Nat) : newA A n b n = b := by unfold newA; rw [if_pos rfl]

theorem Real.new {w0 x : World} {S : List Nat} {σ : St} {A : Nat → Nat} (h : Real w0 S σ A x) (l : List Seg) (t : TypeId) : Real w0 S (σ ++ [(l, t)]) (newA A σ.length x.heap.size) (x.alloc (.cells (cat l) t)) := by
  have hlt : ∀ (i : Nat), i < σ.length → A i < x.heap.size := fun i hi => by
    obtain ⟨b, hb⟩ : ∃ b, σ[i]? = some b := ⟨σ[i], by simp [hi]⟩
    obtain ⟨C, hC, _⟩ := h.hid i b.1 b.2 hb
    exact hC.lt
  have hcase : ∀ {i : Nat} {b : List Seg × TypeId}, (σ ++ [(l, t)])[i]? = some b → (i < σ.length ∧ σ[i]? = some b) ∨ (i = σ.length ∧ b = (l, t)) := fun {i b} hi => by
    rw [List.getElem?_append] at hi
    split at hi
    · rename_i h'; exact Or.inl ⟨h', hi⟩
    · right
      have : i - σ.length = 0 := by
        have := lt_of_get hi
        simpa using this
      rw [this] at hi
      simp at hi
      exact ⟨by omega, hi.symm⟩
  refine ⟨fun i q u hi hs => ?_, fun i q u hi => ?_, fun i hi => ?_, fun i j hi hj he => ?_, h.below.alloc h.below.size _⟩
  · rcases hcase hi with ⟨h1, h2⟩ | ⟨h1, h2⟩
    · rw [← newA_old h1]; exact (h.blk i q u h2 hs).alloc _
    · cases h2; subst h1; rw [newA_new]; exact HB.new _ _ _
  · rcases hcase hi with ⟨h1, h2⟩ | ⟨h1, h2⟩
    · obtain ⟨C, hC, hs⟩ := h.hid i q u h2
      exact ⟨C, by rw [← newA_old h1]; exact hC.alloc _, hs⟩
    · cases h2; subst h1; exact ⟨_, by rw [newA_new]; exact HB.new _ _ _, cat_size _⟩
  · simp at hi
    by_cases h1 : i < σ.length
    · rw [← newA_old h1]; exact h.lo i h1
    · have : i = σ.length := by omega
      subst this; rw [newA_new]; exact h.below.size
  · simp at hi hj
    by_cases h1 : i < σ.length <;> by_cases h2 : j < σ.length
    · rw [← newA_old h1, ← newA_old h2] at he; exact h.inj i j h1 h2 he
    · have : j = σ.length := by omega
      subst this
      rw [← newA_old h1, newA_new] at he
      have := hlt i h1; omega
    · have : i = σ.length := by omega
      subst this
      rw [← newA_old h2, newA_new] at he
      have := hlt j h2; omega
    · omega

theorem FR.newA {N n b : Nat} {A : Nat → Nat} {f : Fr} {a : Act} (h : FR N n A f a) : FR N (n + 1) (newA A n b) f a :=
  ⟨h.size, h.defers, fun t s ht => by
    obtain ⟨h1, h2⟩ := h.get t s ht
    exact ⟨by rw [h1, SV.val_congr (fun i hi => newA_old hi) h2], SV.ok_mono (Nat.le_succ _) h2⟩⟩
theorem FR.put {N n d : Nat} {A : Nat → Nat} {f : Fr} {a : Act} (h : FR N n A f a) (hd : d < N) {s : SV} (hs : s.ok n) : FR N n A ((d, s) :: f) (a.put (some d) (s.val A)) := by
  refine ⟨by simp [Act.put, h.size], h.defers, fun t u ht => ?_⟩
  unfold look at ht
  split at ht
  · rename_i hb
    have := Nat.eq_of_beq_eq_true hb
    subst this
    cases ht
    refine ⟨?_, hs⟩
    simp [Act.put, h.size, hd]
  · rename_i hb
    have hne : d ≠ t := fun e => by subst e; simp at hb
    obtain ⟨h1, h2⟩ := h.get t u ht
    refine ⟨?_, h2⟩
    simp only [Act.put, Array.getElem?_setIfInBounds_ne hne]
    exact h1

def evS (f : Fr) : Operand → Option SV
  | .tmp t => look f t
  | .const v => some (.l (.v v))
  | .func g => some (.l (.v (.func (.func g) #[] #[])))
  | .global _ => none
theorem evS_sound {N n : Nat} {A : Nat → Nat} {f : Fr} {a : Act} (h : FR N n A f a) {x : Operand} {s : SV} (hx : evS f x = some s) : a.eval x = s.val A ∧ s.ok n := by
  cases x with
  | tmp t =>
    obtain ⟨h1, h2⟩ := h.get t s hx
    exact ⟨by simp only [Act.eval, Array.getD_eq_getD_getElem?, h1]; rfl, h2⟩
  | const v => cases hx; exact ⟨rfl, trivial⟩
  | func g => cases hx; exact ⟨rfl, trivial⟩
  | global g => cases hx

/-- What is known of the types: their sizes, where fields lie, what a new one holds. -/
inductive TK where
  | sc
  | ag (n : Nat)
structure Tab where
  ty : List (TypeId × TK)
  fo : List (TypeId × Nat × Nat)
  ze : List (TypeId × List Seg)
  fn : List Nat
  ar : List (TypeId × Nat × Nat)
def fnL : List Nat → Nat → Bool
  | [], _ => false
  | g' :: r, g => match Nat.beq g g' with | true => true | false => fnL r g
theorem fnL_mem : ∀ (l : List Nat) (g : Nat), fnL l g = true → g ∈ l
  | [], _, h => by cases h
  | g' :: r, g, h => by
    unfold fnL at h
    split at h
    · rename_i hb
      have := Nat.eq_of_beq_eq_true hb
      subst this; simp
    · exact List.mem_cons_of_mem _ (fnL_mem r g h)
def arL : List (TypeId × Nat × Nat) → TypeId → Option (Nat × Nat)
  | [], _ => none
  | (t', x) :: r, t => match Nat.beq t t' with | true => some x | false => arL r t
theorem arL_mem : ∀ (l : List (TypeId × Nat × Nat)) (t : TypeId) (x : Nat × Nat), arL l t = some x → (t, x) ∈ l
  | [], _, _, h => by cases h
  | (t', x') :: r, t, x, h => by
    unfold arL at h
    split at h
    · rename_i hb
      have := Nat.eq_of_beq_eq_true hb
      subst this; cases h; simp
    · exact List.mem_cons_of_mem _ (arL_mem r t x h)
def tyL : List (TypeId × TK) → TypeId → Option TK
  | [], _ => none
  | (t', k) :: r, t => match Nat.beq t t' with | true => some k | false => tyL r t
def foL : List (TypeId × Nat × Nat) → TypeId → Nat → Option Nat
  | [], _, _ => none
  | (t', j, d) :: r, t, k => match Nat.beq t t' && Nat.beq k j with | true => some d | false => foL r t k
def zeL : List (TypeId × List Seg) → TypeId → Option (List Seg)
  | [], _ => none
  | (t', l) :: r, t => match Nat.beq t t' with | true => some l | false => zeL r t
theorem tyL_mem : ∀ (l : List (TypeId × TK)) (t : TypeId) (k : TK), tyL l t = some k → (t, k) ∈ l
  | [], _, _, h => by cases h
  | (t', k') :: r, t, k, h => by
    unfold tyL at h
    split at h
    · rename_i hb
      have := Nat.eq_of_beq_eq_true hb
      subst this; cases h; simp
    · exact List.mem_cons_of_mem _ (tyL_mem r t k h)
theorem zeL_mem : ∀ (l : List (TypeId × List Seg)) (t : TypeId) (k : List Seg), zeL l t = some k → (t, k) ∈ l
  | [], _, _, h => by cases h
  | (t', k') :: r, t, k, h => by
    unfold zeL at h
    split at h
    · rename_i hb
      have := Nat.eq_of_beq_eq_true hb
      subst this; cases h; simp
    · exact List.mem_cons_of_mem _ (zeL_mem r t k h)
theorem foL_mem : ∀ (l : List (TypeId × Nat × Nat)) (t : TypeId) (k d : Nat), foL l t k = some d → (t, k, d) ∈ l
  | [], _, _, _, h => by cases h
  | (t', k', d') :: r, t, k, d, h => by
    unfold foL at h
    split at h
    · rename_i hb
      rw [Bool.and_eq_true] at hb
      have h1 := Nat.eq_of_beq_eq_true hb.1
      have h2 := Nat.eq_of_beq_eq_true hb.2
      subst h1; subst h2; cases h; simp
    · exact List.mem_cons_of_mem _ (foL_mem r t k d h)

def scB (P : Program) (T : TypeId) : Bool :=
  match P.underlying T with
  | some (.struct _) | some (.array _ _) | none => false
  | _ => (P.info? T).map (·.size) == some 1
def foB (P : Program) (T : TypeId) (k d : Nat) : Bool :=
  match P.underlying T with
  | some (.struct fields) => match fields[k]? with
    | some f => f.offset == d && (match (P.info? f.type).map (·.size) with | some 0 => false | some _ => true | none => false)
    | none => false
  | _ => false
def arB (P : Program) (T : TypeId) (len n : Nat) : Bool :=
  match P.underlying T with
  | some (.array l e) => l == len && (P.info? e).map (·.size) == some n
  | _ => false
def fnB (P : Program) (g : Nat) : Bool :=
  match P.funcs[g]? with
  | some fn => !(fn.name == "runtime.NumGoroutine") && fn.body.isSome
  | none => false
def zeroIs (P : Program) (t : TypeId) (l : List Seg) : Prop := ((P.info? t).bind (·.zero)).map Value.cells = some (cat l)

structure TabOk (P : Program) (T : Tab) : Prop where
  ty : (T.ty.all fun e => match e.2 with | .sc => scB P e.1 | .ag n => rowB P e.1 n) = true
  fo : (T.fo.all fun e => foB P e.1 e.2.1 e.2.2) = true
  ze : ∀ e ∈ T.ze, zeroIs P e.1 e.2
  fn : (T.fn.all fun g => fnB P g) = true
  ar : (T.ar.all fun e => arB P e.1 e.2.1 e.2.2) = true
  mix : P.follows .mixedOrders = true

section
variable {P : Program} {T : Tab}
theorem TabOk.sc (h : TabOk P T) {t : TypeId} (ht : tyL T.ty t = some .sc) : scB P t = true := by
  have := List.all_eq_true.1 h.ty _ (tyL_mem _ _ _ ht)
  exact this
theorem TabOk.ag (h : TabOk P T) {t : TypeId} {n : Nat} (ht : tyL T.ty t = some (.ag n)) : rowB P t n = true := by
  have := List.all_eq_true.1 h.ty _ (tyL_mem _ _ _ ht)
  exact this
theorem scB_size {t : TypeId} (h : scB P t = true) : (P.info? t).map (·.size) = some 1 := by
  unfold scB at h
  split at h <;> first | cases h | simpa using h
theorem scB_agg {t : TypeId} (h : scB P t = true) (w : World) : (isAgg t).run P w = .ok false w := by
  unfold scB at h
  split at h
  · cases h
  · cases h
  · cases h
  · rename_i d h1 h2 h3
    cases hu : P.underlying t with
    | none => exact absurd hu h3
    | some d =>
      unfold isAgg
      rw [Sem.run_bind, run_underlying hu]
      simp only [Result.andThen_ok]
      cases d <;> first | rfl | exact absurd hu (h1 _) | exact absurd hu (h2 _ _)
theorem loadVar_sc {w : World} {b : Nat} {C : Array Value} {t T : TypeId} (h : HB w b C t) (hT : scB P T = true) {k : Nat} {v : Value} (hv : C[k]? = some v) : (loadVar T ⟨b, k, none⟩).run P w = .ok v w := by
  unfold loadVar
  rw [Sem.run_bind, scB_agg hT]
  simp only [Result.andThen_ok, Bool.false_eq_true, if_false]
  have := h.cell k
  rw [hv] at this
  simp [go_sem, this]
theorem fo_run {t : TypeId} {k d : Nat} (h : foB P t k d = true) (w : World) (b off : Nat) : (Instr.fieldAt t (.pointer (some ⟨b, off, none⟩)) k).run P w = .ok (.pointer (some ⟨b, off + d, none⟩)) w := by
  unfold foB at h
  split at h
  · rename_i fields hu
    split at h
    · rename_i f hf
      rw [Bool.and_eq_true] at h
      obtain ⟨h1, h2⟩ := h
      have hd : f.offset = d := by simpa using h1
      cases hi : P.info? f.type with
      | none => rw [hi] at h2; simp at h2
      | some i =>
        have hs : i.size ≠ 0 := fun h0 => by rw [hi] at h2; simp [h0] at h2
        subst hd
        unfold Instr.fieldAt
        rw [Sem.run_bind, run_underlying hu]
        simp only [Result.andThen_ok, hf]
        simp [Instr.sureAddr, fieldPlace, sizeOf, typeInfo, hi, hs, Addr.add]
    · cases h
  · cases h
end

/-- One cell as a value. -/
def oneV : List Seg → Option LV
  | [.int z] => some (.v (.int .i64 z))
  | [.bool b] => some (.v (.bool b))
  | [.sl a l c] => some (.v (.slice a l c))
  | _ => none
theorem oneV_sound {l : List Seg} {x : LV} (h : oneV l = some x) : cl l = [x.val] := by
  unfold oneV at h
  split at h <;> first | (cases h; rfl) | cases h

def loadS (T : Tab) (t : TypeId) (l : List Seg) (off : Nat) : Option LV :=
  match tyL T.ty t with
  | some .sc => match getAt l off 1 with | some r => oneV r | none => none
  | some (.ag n) => match getAt l off n with | some r => some (.a r) | none => none
  | none => none
theorem loadS_sound {P : Program} {T : Tab} (hT : TabOk P T) {t u : TypeId} {l : List Seg} {off : Nat} {x : LV} (h : loadS T t l off = some x) {w : World} {b : Nat} (hb : HB w b (cat l) u) : (loadVar t ⟨b, off, none⟩).run P w = .ok x.val w := by
  unfold loadS at h
  split at h
  · rename_i ht
    split at h
    · rename_i r hr
      obtain ⟨h1, h2⟩ := getAt_sound hr
      have h3 := oneV_sound h
      refine loadVar_sc hb (hT.sc ht) ?_
      rw [← Array.getElem?_toList, cat_toList]
      have h4 : ((cl l).drop off).take 1 = [x.val] := by rw [← h1, h3]
      have h5 := congrArg (·[0]?) h4
      simpa using h5
    · cases h
  · rename_i n ht
    split at h
    · rename_i r hr
      cases h
      obtain ⟨h1, h2⟩ := getAt_sound hr
      rw [loadVar_blk hb (hT.ag ht) off (by rw [cat_size]; exact h2), getAt_cat hr]
      rfl
    · cases h
  · cases h

/-- Numbers and truth values. -/
def sbin : BinOp → Value → Value → Option Value
  | .add, .int .i64 a, .int .i64 b => some (.int .i64 (wrap64 (a + b)))
  | .sub, .int .i64 a, .int .i64 b => some (.int .i64 (wrap64 (a - b)))
  | .and, .int .i64 a, .int .i64 b => some (.int .i64 (bits .and .i64 a b))
  | .eql, .int .i64 a, .int .i64 b => some (.bool (a == b))
  | .neq, .int .i64 a, .int .i64 b => some (.bool (a != b))
  | .lss, .int .i64 a, .int .i64 b => some (.bool (decide (a < b)))
  | .leq, .int .i64 a, .int .i64 b => some (.bool (decide (a ≤ b)))
  | .gtr, .int .i64 a, .int .i64 b => some (.bool (decide (a > b)))
  | .geq, .int .i64 a, .int .i64 b => some (.bool (decide (a ≥ b)))
  | _, _, _ => none
theorem sbin_sound {P : Program} {op : BinOp} {t : TypeId} {x y v : Value} (h : sbin op x y = some v) {a b : Operand} (w : World) : (do eqGuard op t a b x y; binOp op t x y : Sem Value).run P w = .ok v w := by
  unfold sbin at h
  split at h <;> first | cases h | skip
  all_goals simp [go_sem]
  all_goals (rw [IntKind.wrap_i64]; unfold wrap64; omega)

def pureS (T : Tab) (S : List Nat) (o : Op) (f : Fr) (σ : St) : Option SV :=
  match o with
  | .move x => evS f x
  | .assign x => evS f x
  | .load t x => match evS f x with
    | some (.ptr i off) => match S.contains i with
      | true => none
      | false => match nth σ i with
        | some b => match loadS T t b.1 off with | some v => some (.l v) | none => none
        | none => none
    | _ => none
  | .fieldAddr t x k => match evS f x with
    | some (.ptr i off) => match foL T.fo t k with | some d => some (.ptr i (off + d)) | none => none
    | _ => none
  | .binOp op t x y _ => match evS f x with
    | some (.l (.v a)) => match evS f y with
      | some (.l (.v b)) => match sbin op a b with | some v => some (.l (.v v)) | none => none
      | _ => none
    | _ => none
  | .unOp .not _ x => match evS f x with
    | some (.l (.v (.bool b))) => some (.l (.v (.bool (!b))))
    | _ => none
  | .extract x k => match evS f x with
    | some (.tup l) => match l[k]? with | some v => some (.l v) | none => none
    | _ => none
  | _ => none

theorem pureS_sound {P : Program} {T : Tab} (hT : TabOk P T) {w0 x : World} {S : List Nat} {σ : St} {A : Nat → Nat} {N : Nat} {f : Fr} {a : Act} (hr : Real w0 S σ A x) (hf : FR N σ.length A f a) {o : Oper} {s : SV} (h : pureS T S o.op f σ = some s) :
    (execOp a.eval o).run P x = .ok (.value (s.val A)) x ∧ s.ok σ.length := by
  unfold pureS at h
  split at h
  · rename_i y ho
    obtain ⟨h1, h2⟩ := evS_sound hf h
    exact ⟨by unfold execOp; simp only [ho, h1]; rfl, h2⟩
  · rename_i y ho
    obtain ⟨h1, h2⟩ := evS_sound hf h
    exact ⟨by unfold execOp; simp only [ho, h1]; rfl, h2⟩
  · rename_i t y ho
    split at h
    · rename_i i off hy
      split at h
      · cases h
      · rename_i hS
        split at h
        · rename_i b hb
          split at h
          · rename_i v hv
            cases h
            obtain ⟨h1, h2⟩ := evS_sound hf hy
            rw [nth_eq] at hb
            have hB := hr.blk i b.1 b.2 hb hS
            refine ⟨?_, trivial⟩
            unfold execOp
            simp only [ho, h1, SV.val, Instr.loadAt, Instr.sureAddr, Sem.run_bind, Sem.run_pure, Result.andThen_ok, loadS_sound hT hv hB]
          · cases h
        · cases h
    · cases h
  · rename_i t y k ho
    split at h
    · rename_i i off hy
      split at h
      · rename_i d hd
        cases h
        obtain ⟨h1, h2⟩ := evS_sound hf hy
        have hfo : foB P t k d = true := List.all_eq_true.1 hT.fo _ (foL_mem _ _ _ _ hd)
        refine ⟨?_, h2⟩
        unfold execOp
        simp only [ho, h1, SV.val, Sem.run_bind, Sem.run_pure, Result.andThen_ok, fo_run hfo]
      · cases h
    · cases h
  · rename_i op t y z u ho
    split at h
    · rename_i va hy
      split at h
      · rename_i vb hz
        split at h
        · rename_i v hv
          cases h
          obtain ⟨h1, h2⟩ := evS_sound hf hy
          obtain ⟨h3, h4⟩ := evS_sound hf hz
          refine ⟨?_, trivial⟩
          unfold execOp
          have := sbin_sound (P := P) (t := t) hv (a := y) (b := z) x
          simp only [ho, h1, h3, SV.val, LV.val]
          rw [Sem.run_bind, this]
          rfl
        · cases h
      · cases h
    · cases h
  · rename_i t y ho
    split at h
    · rename_i b hy
      cases h
      obtain ⟨h1, h2⟩ := evS_sound hf hy
      refine ⟨?_, trivial⟩
      unfold execOp
      simp only [ho, h1, SV.val, LV.val, Op.unary]
      rfl
    · cases h
  · rename_i y k ho
    split at h
    · rename_i l hy
      split at h
      · rename_i v hv
        cases h
        obtain ⟨h1, h2⟩ := evS_sound hf hy
        refine ⟨?_, trivial⟩
        unfold execOp
        simp only [ho, h1, SV.val, Instr.extract]
        simp [hv]
      · cases h
    · cases h
  · cases h

end Go.Proofs.Ytjbbgpacijageaa
