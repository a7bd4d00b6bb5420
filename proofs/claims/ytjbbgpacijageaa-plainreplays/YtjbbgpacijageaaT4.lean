/- What a slot holds; what an operation does, told of the blocks that it looks at alone. No program is named here. -/
import Derived.Test.YtjbbgpacijageaaT3
namespace Go.Proofs.Ytjbbgpacijageaa.M
open Go.RowKit
set_option linter.unusedVariables false
set_option linter.unusedSimpArgs false

structure Env where
  A : Nat → Nat
  B : Nat → Value
  F : Nat → Nat → Prop

/-- A value; a pointer at a block of the function's own; at an element of a list; a slice of an array of its own; a function with what it has captured; anything else. -/
inductive AV where
  | of (x : V)
  | ptr (i off : Nat) (p : List Step) (u : Ty)
  | elt (t : Ty) (h : Hd) (xs : List t.D) (k off : Nat) (p : List Step) (u : Ty)
  | slc (i off : Nat) (p : List Step) (n : Nat) (t : Ty) (lo len cap : Nat)
  | clo (g : Nat) (cs : List (Nat × Nat × List Step × Ty))
  | emp (h : Hd)
  | raw (v : Value)
inductive SV where
  | a (x : AV)
  | tup (l : List AV)

def AV.val (E : Env) : AV → Value
  | .of x => x.val E.B
  | .ptr i off _ _ => .pointer (some ⟨E.A i, off, none⟩)
  | .elt t h _ k off _ _ => match h.val E.B with
    | .slice (some a) _ _ => .pointer (some ⟨a.block, a.off + k * t.sz + off, none⟩)
    | _ => undef
  | .slc i off _ _ t lo len cap => .slice (some ⟨E.A i, if cap = 0 then off else off + lo * t.sz, none⟩) len cap
  | .clo g cs => .func (.func g) #[] (cs.map fun c => Value.pointer (some ⟨E.A c.1, c.2.1, none⟩)).toArray
  | .emp h => match h.val E.B with
    | .slice a _ _ => .slice a 0 0
    | _ => undef
  | .raw v => v
def SV.val (E : Env) : SV → Value
  | .a x => x.val E
  | .tup l => .tuple (l.map (AV.val E)).toArray

structure Cx where
  XA : Nat → Prop
  XB : Nat → Prop
  ty : Nat → Option Ty
  E : Env
  x : World

def V.okc (c : Cx) (v : V) : Prop := v.ok c.XB c.E.B c.E.F c.x
def wokc (c : Cx) (t : Ty) (v : t.D) : Prop := wok c.XB c.E.B c.E.F c.x t v
def AV.ok (c : Cx) : AV → Prop
  | .of y => y.okc c
  | .ptr i off p u => c.XA i ∧ ∃ t, c.ty i = some t ∧ At t p off u
  | .elt t h xs k off p u => wokc c (.lst t) (h, xs) ∧ k < xs.length ∧ At t p off u
  | .slc i off p n t lo len cap => c.XA i ∧ (∃ T, c.ty i = some T ∧ At T p off (.arr n t)) ∧ lo + cap ≤ n ∧ len ≤ cap ∧ n ≤ 4294967296
  | .clo g cs => ∀ q ∈ cs, c.XA q.1 ∧ ∃ t, c.ty q.1 = some t ∧ At t q.2.2.1 q.2.1 q.2.2.2
  | .emp h => h.ok c.XB ∧ ∃ a l k, h.val c.E.B = .slice a l k
  | .raw v => True
def SV.ok (c : Cx) : SV → Prop
  | .a x => x.ok c
  | .tup l => ∀ y ∈ l, y.ok c

structure Cx.Le (c c' : Cx) : Prop where
  A : ∀ i, c.XA i → c'.XA i ∧ c'.E.A i = c.E.A i ∧ c'.ty i = c.ty i
  B : ∀ n, c.XB n → c'.XB n ∧ c'.E.B n = c.E.B n
  F : ∀ b e, c.E.F b e → c'.E.F b e
  K : Keep c.E.F c.x c'.x
  S : c.x.heap.size ≤ c'.x.heap.size

theorem Cx.Le.refl (c : Cx) : c.Le c := ⟨fun i h => ⟨h, rfl, rfl⟩, fun n h => ⟨h, rfl⟩, fun _ _ h => h, fun _ _ _ _ _ => rfl, Nat.le_refl _⟩
theorem Cx.Le.trans {a b c : Cx} (h : a.Le b) (k : b.Le c) : a.Le c :=
  ⟨fun i hi => ⟨(k.A i (h.A i hi).1).1, (k.A i (h.A i hi).1).2.1.trans (h.A i hi).2.1, (k.A i (h.A i hi).1).2.2.trans (h.A i hi).2.2⟩,
   fun n hn => ⟨(k.B n (h.B n hn).1).1, (k.B n (h.B n hn).1).2.trans (h.B n hn).2⟩,
   fun b e he => k.F b e (h.F b e he), fun b e he j hj => (k.K b e (h.F b e he) j hj).trans (h.K b e he j hj), Nat.le_trans h.S k.S⟩

/-- What there was when the function was entered. -/
structure Old where
  F : Nat → Nat → Prop
  B : Nat → Value
  n : Nat
  c : Cx
structure Cx.Wf (w0 : World) (F0 : Old) (c : Cx) : Prop where
  below : Below w0.heap.size w0 c.x
  lo : ∀ i, c.XA i → w0.heap.size ≤ c.E.A i
  hi : ∀ i, c.XA i → c.E.A i < c.x.heap.size
  inj : ∀ i j, c.XA i → c.XA j → c.E.A i = c.E.A j → i = j
  fhi : ∀ b e, c.E.F b e → b < c.x.heap.size
  own : ∀ i, c.XA i → ∀ e, ¬ c.E.F (c.E.A i) e
  old : ∀ b e, b < w0.heap.size → (c.E.F b e ↔ F0.F b e)
  oldB : ∀ n, n < F0.n → c.XB n ∧ c.E.B n = F0.B n
  le : F0.c.Le c

section
variable {c c' : Cx}
theorem V.okc_mono (h : c.Le c') {v : V} (hv : v.okc c) : v.okc c' := V.ok_mono (fun n hn => (h.B n hn).1) (fun n hn => (h.B n hn).2) h.F h.K h.S v hv
theorem wokc_mono (h : c.Le c') {t : Ty} {v : t.D} (hv : wokc c t v) : wokc c' t v := wok_mono (fun n hn => (h.B n hn).1) (fun n hn => (h.B n hn).2) h.F h.K h.S t v hv
theorem V.cellsc (h : c.Le c') {v : V} (hv : v.okc c) : v.cells c'.E.B = v.cells c.E.B := V.cells_congr (fun n hn => (h.B n hn).2) v hv
theorem V.valc (h : c.Le c') {v : V} (hv : v.okc c) : v.val c'.E.B = v.val c.E.B := V.val_congr (fun n hn => (h.B n hn).2) v hv
theorem AV.ok_mono (h : c.Le c') {s : AV} (hs : s.ok c) : s.ok c' := by
  cases s with
  | of y => exact V.okc_mono h hs
  | ptr i off p u =>
    obtain ⟨h1, t, h2, h3⟩ := hs
    exact ⟨(h.A i h1).1, t, by rw [(h.A i h1).2.2]; exact h2, h3⟩
  | elt t hd xs k off p u => exact ⟨wokc_mono h hs.1, hs.2⟩
  | slc i off p n t lo len cap =>
    obtain ⟨h1, ⟨T, h2, h3⟩, h4⟩ := hs
    exact ⟨(h.A i h1).1, ⟨T, by rw [(h.A i h1).2.2]; exact h2, h3⟩, h4⟩
  | clo g cs =>
    intro q hq
    obtain ⟨h1, t, h2, h3⟩ := hs q hq
    exact ⟨(h.A q.1 h1).1, t, by rw [(h.A q.1 h1).2.2]; exact h2, h3⟩
  | emp hd =>
    obtain ⟨h1, h2⟩ := hs
    refine ⟨?_, by rw [hdVal_congr (fun n hn => (h.B n hn).2) h1]; exact h2⟩
    cases hd with
    | conc u => trivial
    | nm k => exact (h.B k h1).1
  | raw v => trivial
theorem AV.val_mono (h : c.Le c') {s : AV} (hs : s.ok c) : s.val c'.E = s.val c.E := by
  cases s with
  | of y => exact V.valc h hs
  | ptr i off p u => simp only [AV.val, (h.A i hs.1).2.1]
  | elt t hd xs k off p u => simp only [AV.val]; rw [hdVal_congr (fun n hn => (h.B n hn).2) hs.1.1]
  | slc i off p n t lo len cap => simp only [AV.val, (h.A i hs.1).2.1]
  | clo g cs =>
    simp only [AV.val]
    congr 2
    apply List.map_congr_left
    intro q hq
    rw [(h.A q.1 (hs q hq).1).2.1]
  | emp hd => simp only [AV.val]; rw [hdVal_congr (fun n hn => (h.B n hn).2) hs.1]
  | raw v => rfl
theorem SV.ok_mono (h : c.Le c') {s : SV} (hs : s.ok c) : s.ok c' := by
  cases s with
  | a x => exact AV.ok_mono h hs
  | tup l => exact fun y hy => AV.ok_mono h (hs y hy)
theorem SV.val_mono (h : c.Le c') {s : SV} (hs : s.ok c) : s.val c'.E = s.val c.E := by
  cases s with
  | a x => exact AV.val_mono h hs
  | tup l =>
    simp only [SV.val]
    congr 2
    apply List.map_congr_left
    intro y hy
    exact AV.val_mono h (hs y hy)
end

abbrev Fr := List (Nat × SV)
def look : Fr → Nat → Option SV
  | [], _ => none
  | (t', s) :: r, t => match Nat.beq t t' with | true => some s | false => look r t
def constA : Value → AV
  | .int .i64 z => .of (.leaf .int z)
  | .bool b => .of (.leaf .bool b)
  | v => .raw v
theorem constA_val (E : Env) (v : Value) : (constA v).val E = v := by
  unfold constA
  split <;> rfl
theorem constA_ok (c : Cx) (v : Value) : (constA v).ok c := by
  unfold constA
  split <;> exact trivial
def evS (f : Fr) : Operand → Option SV
  | .tmp t => look f t
  | .const v => some (.a (constA v))
  | .func g => some (.a (.clo g []))
  | .global _ => none

/-- What an operation does to the blocks: nothing; one holds something else; there is a new one. -/
inductive Ef where
  | none
  | set (i : Nat) (y : V)
  | new (y : V)
structure Out where
  r : SV
  ef : Ef
  m : Nat
  rd : List Nat
  q : Bool
  cr : Bool
def Out.touch (out : Out) (i : Nat) : Prop := i ∈ out.rd ∨ ∃ y, out.ef = .set i y

/-- The context behind it. -/
def Cx.ext (c : Cx) (out : Out) (bl nn : Nat) (E : Env) (x : World) : Cx where
  XA := fun i => c.XA i ∨ (i = bl ∧ ∃ y, out.ef = .new y)
  XB := fun n => c.XB n ∨ (nn ≤ n ∧ n < nn + out.m)
  ty := fun i => match out.ef with | .new y => if i = bl then some y.ty else c.ty i | _ => c.ty i
  E := E
  x := x

/-- All blocks but that one are as they were. -/
structure Same (x x' : World) (but : Nat → Prop) : Prop where
  os : x'.os = x.os
  tape : x'.tape = x.tape
  output : x'.output = x.output
  size : x.heap.size ≤ x'.heap.size
  block : ∀ k, k < x.heap.size → ¬ but k → x'.heap[k]? = x.heap[k]?
def Out.but (out : Out) (c : Cx) (k : Nat) : Prop := ∃ i y, out.ef = .set i y ∧ k = c.E.A i

structure Post (w0 : World) (F0 : Old) (c : Cx) (out : Out) (bl nn : Nat) (v : Value) (x' : World) (E : Env) : Prop where
  val : v = out.r.val E
  ok : out.r.ok (c.ext out bl nn E x')
  A : ∀ i, c.XA i → E.A i = c.E.A i
  B : ∀ n, c.XB n → E.B n = c.E.B n
  F : ∀ b e, c.E.F b e → E.F b e
  FB : ∀ b e, b < c.x.heap.size → E.F b e → c.E.F b e
  fhi : ∀ b e, E.F b e → b < x'.heap.size
  same : Same c.x x' (out.but c)
  new : ∀ y, out.ef = .new y → c.x.heap.size ≤ E.A bl ∧ E.A bl < x'.heap.size ∧ (∀ e, ¬ E.F (E.A bl) e) ∧ (∃ e, HB x' (E.A bl) (y.cells E.B).toArray e) ∧ y.okc (c.ext out bl nn E x')
  set : ∀ i y, out.ef = .set i y → c.XA i ∧ c.ty i = some y.ty ∧ (∃ e, HB x' (E.A i) (y.cells E.B).toArray e) ∧ y.okc (c.ext out bl nn E x')

def upon4 (P : Program) (R : Value → World → Prop) : Result Next → Prop
  | .ok (.value u) x => R u x
  | .ok .skip x => R undef x
  | .ok (.enter g args) x => Calls P g args x fun e x' => ∃ u, e = .returned u ∧ R u x'
  | _ => False

def Does (P : Program) (w0 : World) (F0 : Old) (o : Oper) (f : Fr) (get : Nat → Option V) (bl nn : Nat) (out : Out) : Prop :=
  (out.cr = false → out.m = 0) ∧ ∀ (c : Cx) (ρ : Operand → Value), c.Wf w0 F0 → (∀ y ∈ o.op.operands, ∀ s, evS f y = some s → ρ y = s.val c.E ∧ s.ok c) →
    (∀ i, out.touch i → ∀ v, get i = some v → c.XA i ∧ c.ty i = some v.ty ∧ (∃ e, HB c.x (c.E.A i) (v.cells c.E.B).toArray e) ∧ v.okc c) →
    ((∃ y, out.ef = .new y) → ¬ c.XA bl) → (out.q = true → ∀ n, c.XB n ↔ n < nn) →
    upon4 P (fun v x' => ∃ E, Post w0 F0 c out bl nn v x' E) ((execOp ρ o).run P c.x)

section
variable {w0 : World} {F0 : Old} {c : Cx} {out : Out} {bl nn : Nat} {v : Value} {x' : World} {E : Env}
theorem Post.le (hw : c.Wf w0 F0) (hnew : (∃ y, out.ef = .new y) → ¬ c.XA bl) (h : Post w0 F0 c out bl nn v x' E) : c.Le (c.ext out bl nn E x') := by
  refine ⟨fun i hi => ⟨Or.inl hi, h.A i hi, ?_⟩, fun n hn => ⟨Or.inl hn, h.B n hn⟩, h.F, fun b e he j hj => ?_, h.same.size⟩
  · show (match out.ef with | .new y => if i = bl then some y.ty else c.ty i | _ => c.ty i) = c.ty i
    split
    · rename_i y hy
      rw [if_neg]
      intro hb
      subst hb
      exact hnew ⟨y, hy⟩ hi
    · rfl
  · show x'.cell? _ = c.x.cell? _
    refine World.cell?_of_block (h.same.block b (hw.fhi b e he) ?_)
    rintro ⟨i, y, hy, hbi⟩
    subst hbi
    exact hw.own i (h.set i y hy).1 e he
theorem Same.below {x x' : World} {but : Nat → Prop} (h : Same x x' but) {n : Nat} (hn : n ≤ x.heap.size) (hb : ∀ k, k < n → ¬ but k) : Below n x x' :=
  ⟨h.os, h.tape, h.output, h.size, fun k hk => h.block k (by omega) (hb k hk)⟩
theorem Post.wf (hw : c.Wf w0 F0) (hnew : (∃ y, out.ef = .new y) → ¬ c.XA bl) (h : Post w0 F0 c out bl nn v x' E) : (c.ext out bl nn E x').Wf w0 F0 := by
  have hnb : ∀ k, out.but c k → ∃ i, c.XA i ∧ k = c.E.A i := fun k ⟨i, y, hy, hk⟩ => ⟨i, (h.set i y hy).1, hk⟩
  have hbel : Below w0.heap.size w0 x' := by
    refine hw.below.trans (h.same.below hw.below.size fun k hk hb => ?_)
    obtain ⟨i, hi, rfl⟩ := hnb k hb
    have := hw.lo i hi
    omega
  have hcase : ∀ i, (c.ext out bl nn E x').XA i → (c.XA i ∧ E.A i = c.E.A i) ∨ (i = bl ∧ ¬ c.XA bl ∧ ∃ y, out.ef = .new y) := fun i hi => by
    rcases hi with hi | ⟨hi, y, hy⟩
    · exact Or.inl ⟨hi, h.A i hi⟩
    · exact Or.inr ⟨hi, hnew ⟨y, hy⟩, y, hy⟩
  have hsz := hw.below.size
  refine ⟨hbel, fun i hi => ?_, fun i hi => ?_, fun i j hi hj hij => ?_, h.fhi, fun i hi e he => ?_, fun b e hb => ?_, fun n hn => ⟨Or.inl (hw.oldB n hn).1, (h.B n (hw.oldB n hn).1).trans (hw.oldB n hn).2⟩, hw.le.trans (h.le hw hnew)⟩
  · show w0.heap.size ≤ E.A i
    rcases hcase i hi with ⟨h1, h2⟩ | ⟨rfl, _, y, hy⟩
    · rw [h2]; exact hw.lo i h1
    · have := (h.new y hy).1; omega
  · show E.A i < x'.heap.size
    rcases hcase i hi with ⟨h1, h2⟩ | ⟨rfl, _, y, hy⟩
    · rw [h2]; exact Nat.lt_of_lt_of_le (hw.hi i h1) h.same.size
    · exact (h.new y hy).2.1
  · have hij' : E.A i = E.A j := hij
    rcases hcase i hi with ⟨h1, h2⟩ | ⟨rfl, _, y, hy⟩ <;> rcases hcase j hj with ⟨h3, h4⟩ | ⟨rfl, _, z, hz⟩
    · exact hw.inj i j h1 h3 (by rw [← h2, ← h4]; exact hij')
    · have := (h.new z hz).1
      have h5 := hw.hi i h1
      rw [h2] at hij'
      omega
    · have := (h.new y hy).1
      have h5 := hw.hi j h3
      rw [h4] at hij'
      omega
    · rfl
  · have he' : E.F (E.A i) e := he
    rcases hcase i hi with ⟨h1, h2⟩ | ⟨rfl, _, y, hy⟩
    · rw [h2] at he'
      exact hw.own i h1 e (h.FB _ _ (hw.hi i h1) he')
    · exact (h.new y hy).2.2.1 e he'
  · exact ⟨fun he => (hw.old b e hb).1 (h.FB b e (by omega) he), fun he => h.F b e ((hw.old b e hb).2 he)⟩
/-- A list whose spare room is the function's own: nothing beyond its end lies still. -/
def TokOk (w0 : World) (c : Cx) (h : Hd) (s : Nat) : Prop := h.ok c.XB ∧ ((∃ ad, h.val c.E.B = .slice ad 0 0) ∨ ∃ b o len cap C e, h.val c.E.B = .slice (some ⟨b, o, none⟩) len cap ∧ w0.heap.size ≤ b ∧ (∀ i, c.XA i → c.E.A i ≠ b) ∧ HB c.x b C e ∧ len ≤ cap ∧ cap ≤ maxLen ∧ o + cap * s ≤ C.size ∧ ∀ e', c.E.F b e' → e' ≤ o + len * s)
/-- Two lists in different blocks. -/
def Apart (B : Nat → Value) (p q : Hd × Nat) : Prop := ∀ b o l k o' l' k', p.1.val B = .slice (some ⟨b, o, none⟩) l k → q.1.val B = .slice (some ⟨b, o', none⟩) l' k' → 0 < k → 0 < k' → False
structure Toks (w0 : World) (c : Cx) (tk : List (Hd × Nat)) : Prop where
  ok : ∀ p ∈ tk, TokOk w0 c p.1 p.2
  ne : tk.Pairwise (Apart c.E.B)
theorem Toks.step {tk : List (Hd × Nat)} (ht : Toks w0 c tk) (hw : c.Wf w0 F0) (hnew : (∃ y, out.ef = .new y) → ¬ c.XA bl) (h : Post w0 F0 c out bl nn v x' E) : Toks w0 (c.ext out bl nn E x') tk := by
  have hnb : ∀ k, out.but c k → ∃ i, c.XA i ∧ k = c.E.A i := fun k ⟨i, y, hy, hk⟩ => ⟨i, (h.set i y hy).1, hk⟩
  have hv : ∀ p ∈ tk, p.1.val E.B = p.1.val c.E.B := fun p hp => hdVal_congr (fun n hn => h.B n hn) (ht.ok p hp).1
  refine ⟨fun p hp => ?_, ?_⟩
  · obtain ⟨g0, g⟩ := ht.ok p hp
    refine ⟨?_, ?_⟩
    · cases hh : p.1 with
      | conc u => trivial
      | nm k => rw [hh] at g0; exact Or.inl g0
    rcases g with ⟨ad, g⟩ | ⟨b, o, len, cap, C, e, g1, g2, g3, g4, g5, g5', g6, g7⟩
    · exact Or.inl ⟨ad, (hv p hp).trans g⟩
    refine Or.inr ⟨b, o, len, cap, C, e, (hv p hp).trans g1, g2, fun i hi => ?_, ?_, g5, g5', g6, fun e' he' => g7 e' (h.FB b e' g4.lt he')⟩
    · show E.A i ≠ b
      rcases hi with hi | ⟨rfl, y, hy⟩
      · rw [h.A i hi]; exact g3 i hi
      · have := (h.new y hy).1
        have := g4.lt
        omega
    · show x'.heap[b]? = _
      rw [h.same.block b g4.lt (fun hb => by
        obtain ⟨i, hi, rfl⟩ := hnb b hb
        exact g3 i hi rfl)]
      exact g4
  · refine List.Pairwise.imp_of_mem (fun {p q} hp hq hpq => ?_) ht.ne
    intro b o l k o' l' k' h1 h2 h3 h4
    exact hpq b o l k o' l' k' ((hv p hp).symm.trans h1) ((hv q hq).symm.trans h2) h3 h4
theorem Toks.nil (w0 : World) (c : Cx) : Toks w0 c [] := ⟨fun p hp => (by cases hp), .nil⟩
theorem Toks.nils (w0 : World) (c : Cx) : ∀ ss : List Nat, Toks w0 c (ss.map fun s => (nilH, s))
  | [] => Toks.nil w0 c
  | s :: ss => by
    have ih := Toks.nils w0 c ss
    refine ⟨fun p hp => ?_, ?_⟩
    · rcases List.mem_cons.1 hp with rfl | hp
      · exact ⟨trivial, Or.inl ⟨none, rfl⟩⟩
      · exact ih.ok p hp
    · refine List.Pairwise.cons (fun q hq => ?_) ih.ne
      intro b o l k o' l' k' h1 h2 _ _
      cases h1
/-- Fewer blocks of one's own. -/
theorem Toks.cut {tk : List (Hd × Nat)} (ht : Toks w0 c tk) {XA : Nat → Prop} (hX : ∀ i, XA i → c.XA i) : Toks w0 { c with XA := XA } tk :=
  ⟨fun p hp => by
    obtain ⟨g0, g⟩ := ht.ok p hp
    refine ⟨g0, ?_⟩
    rcases g with g | ⟨b, o, len, cap, C, e, g1, g2, g3, g4⟩
    · exact Or.inl g
    · exact Or.inr ⟨b, o, len, cap, C, e, g1, g2, fun i hi => g3 i (hX i hi), g4⟩, ht.ne⟩
/-- A draw. -/
theorem Toks.drew {tk : List (Hd × Nat)} (ht : Toks w0 c tk) : Toks w0 { c with x := { c.x with drawn := c.x.drawn + 1 } } tk := ⟨fun p hp => ht.ok p hp, ht.ne⟩
end

/-- Names: how many, and the lists whose spare room is the function's own. -/
structure NS where
  n : Nat
  tk : List (Hd × Nat)

end Go.Proofs.Ytjbbgpacijageaa.M
