/- Several texts in one. -/
import Derived.Orders
import Derived.Still
import Derived.Below
import Derived.WalkKit
import Derived.Deep.MidRow
import Derived.ChangeKeysEq
import Derived.Laws.StructEq
/- Blocks of the memory: loads and stores of whole structs and arrays. No program is named here. -/
namespace Go.Proofs.Ytjbbgpacijageab.M
open Go.RowKit
set_option linter.unusedVariables false

theorem heap_alloc_at (w : World) (ob : Obj) : (w.alloc ob).heap[w.heap.size]? = some ob := by
  show (w.heap.push ob)[w.heap.size]? = _
  simp
theorem cell_of_block {w : World} {b : Nat} {C : Array Value} {t : TypeId} (h : w.heap[b]? = some (.cells C t)) (o : Nat) : w.cell? ⟨b, o, none⟩ = C[o]? := by
  simp [World.cell?, h]
theorem frozen_of_block {w : World} {b : Nat} {C : Array Value} {t : TypeId} (h : w.heap[b]? = some (.cells C t)) (o : Nat) : w.frozen? ⟨b, o, none⟩ = false := by
  simp [World.frozen?, h]
theorem heap_alloc_of {w : World} {b : Nat} {ob : Obj} (h : w.heap[b]? = some ob) (ob' : Obj) : (w.alloc ob').heap[b]? = some ob := by
  have hb : b < w.heap.size := by
    rcases Nat.lt_or_ge b w.heap.size with h' | h'
    · exact h'
    · rw [Array.getElem?_eq_none h'] at h; cases h
  rw [Below.heap_alloc w ob' b hb]; exact h
theorem size_alloc' (w : World) (ob : Obj) : (w.alloc ob).heap.size = w.heap.size + 1 := by
  show (w.heap.push ob).size = _
  simp

/-- A block holds these cells. -/
def HB (w : World) (b : Nat) (C : Array Value) (t : TypeId) : Prop := w.heap[b]? = some (.cells C t)

theorem HB.lt {w : World} {b : Nat} {C : Array Value} {t : TypeId} (h : HB w b C t) : b < w.heap.size := by
  rcases Nat.lt_or_ge b w.heap.size with h' | h'
  · exact h'
  · unfold HB at h; rw [Array.getElem?_eq_none h'] at h; cases h
theorem HB.below {w w' : World} {b : Nat} {C : Array Value} {t : TypeId} (h : HB w b C t) (hb : Below w.heap.size w w') : HB w' b C t := by
  unfold HB; rw [hb.block b h.lt]; exact h
theorem HB.cell {w : World} {b : Nat} {C : Array Value} {t : TypeId} (h : HB w b C t) (j : Nat) : w.cell? ⟨b, j, none⟩ = C[j]? := cell_of_block h j
theorem HB.frozen {w : World} {b : Nat} {C : Array Value} {t : TypeId} (h : HB w b C t) (j : Nat) : w.frozen? ⟨b, j, none⟩ = false := frozen_of_block h j
theorem HB.drew {w : World} {b : Nat} {C : Array Value} {t : TypeId} (h : HB w b C t) : HB { w with drawn := w.drawn + 1 } b C t := h
theorem HB.alloc {w : World} {b : Nat} {C : Array Value} {t : TypeId} (h : HB w b C t) (ob : Obj) : HB (w.alloc ob) b C t := heap_alloc_of h ob
theorem HB.new (w : World) (C : Array Value) (t : TypeId) : HB (w.alloc (.cells C t)) w.heap.size C t := heap_alloc_at w _

/-- The same world with other cells in a block. -/
def putB (w : World) (b : Nat) (C : Array Value) : World := { w with heap := w.heap.modify b fun | .cells _ t fr => .cells C t fr | o => o }

theorem putB_size (w : World) (b : Nat) (C : Array Value) : (putB w b C).heap.size = w.heap.size := by simp [putB]
theorem putB_ne (w : World) (b : Nat) (C : Array Value) {k : Nat} (h : k ≠ b) : (putB w b C).heap[k]? = w.heap[k]? := by
  simp only [putB, Array.getElem?_modify]
  rw [if_neg (by omega)]
theorem HB.put {w : World} {b : Nat} {C : Array Value} {t : TypeId} (h : HB w b C t) (D : Array Value) : HB (putB w b D) b D t := by
  unfold HB at *
  simp only [putB, Array.getElem?_modify, h]
  simp
theorem HB.put_ne {w : World} {b : Nat} {C : Array Value} {t : TypeId} (h : HB w b C t) {k : Nat} (hk : b ≠ k) (D : Array Value) : HB (putB w k D) b C t := by
  unfold HB at *
  rw [putB_ne w k D hk]; exact h

theorem world_ext {w w' : World} (h1 : w.heap = w'.heap) (h2 : w.tape = w'.tape) (h3 : w.drawn = w'.drawn) (h4 : w.os = w'.os) (h5 : w.output = w'.output) : w = w' := by
  cases w; cases w'; simp_all

def sets (C : Array Value) : Nat → List Value → Array Value
  | _, [] => C
  | o, v :: r => sets (C.setIfInBounds o v) (o + 1) r

theorem setCell_putB {w : World} {b : Nat} {C : Array Value} {t : TypeId} (h : HB w b C t) (o : Nat) (v : Value) : w.setCell ⟨b, o, none⟩ v = putB w b (C.setIfInBounds o v) := by
  refine world_ext ?_ rfl rfl rfl rfl
  apply Array.ext_getElem?
  intro k
  by_cases hk : k = b
  · subst hk
    rw [show (putB w k (C.setIfInBounds o v)).heap[k]? = some (.cells (C.setIfInBounds o v) t) from h.put _]
    unfold HB at h
    simp [World.setCell, Array.getElem?_modify, h]
  · rw [putB_ne _ _ _ hk, Below.heap_setCell _ _ _ _ (by simpa using hk)]

theorem putB_putB {w : World} {b : Nat} (C D : Array Value) : putB (putB w b C) b D = putB w b D := by
  refine world_ext ?_ rfl rfl rfl rfl
  apply Array.ext_getElem?
  intro k
  by_cases hk : k = b
  · subst hk
    simp only [putB, Array.getElem?_modify, if_true]
    cases w.heap[k]? with
    | none => rfl
    | some o => cases o <;> rfl
  · rw [putB_ne _ _ _ hk, putB_ne _ _ _ hk, putB_ne _ _ _ hk]

theorem setCells_putB : ∀ (cs : List Value) (o : Nat) {w : World} {b : Nat} {C : Array Value} {t : TypeId}, HB w b C t → w.setCells b o cs = putB w b (sets C o cs)
  | [], o, w, b, C, t, h => by
    show w = putB w b C
    refine world_ext ?_ rfl rfl rfl rfl
    apply Array.ext_getElem?
    intro k
    by_cases hk : k = b
    · subst hk; exact h.trans (h.put C).symm
    · rw [putB_ne _ _ _ hk]
  | v :: r, o, w, b, C, t, h => by
    show (w.setCell ⟨b, o, none⟩ v).setCells b (o + 1) r = _
    rw [setCell_putB h, setCells_putB r (o + 1) (h.put _), putB_putB]
    rfl

theorem sets_size : ∀ (cs : List Value) (o : Nat) (C : Array Value), (sets C o cs).size = C.size
  | [], _, _ => rfl
  | v :: r, o, C => by show (sets (C.setIfInBounds o v) (o + 1) r).size = _; rw [sets_size r]; simp
theorem sets_out : ∀ (cs : List Value) (o : Nat) (C : Array Value) (k : Nat), (k < o ∨ o + cs.length ≤ k) → (sets C o cs)[k]? = C[k]?
  | [], _, _, _, _ => rfl
  | v :: r, o, C, k, h => by
    show (sets (C.setIfInBounds o v) (o + 1) r)[k]? = _
    simp at h
    rw [sets_out r (o + 1) _ k (by omega), Array.getElem?_setIfInBounds_ne (by omega)]
theorem sets_in : ∀ (cs : List Value) (o : Nat) (C : Array Value) (j : Nat), j < cs.length → o + cs.length ≤ C.size → (sets C o cs)[o + j]? = cs[j]?
  | [], _, _, j, h, _ => by simp at h
  | v :: r, o, C, 0, _, hs => by
    show (sets (C.setIfInBounds o v) (o + 1) r)[o]? = _
    have hs' : o < C.size := by simp at hs; omega
    rw [sets_out r (o + 1) _ o (by omega)]
    simp [hs']
  | v :: r, o, C, j + 1, h, hs => by
    show (sets (C.setIfInBounds o v) (o + 1) r)[o + (j + 1)]? = _
    simp at h hs
    have := sets_in r (o + 1) (C.setIfInBounds o v) j (by omega) (by simp; omega)
    rw [show o + (j + 1) = o + 1 + j from by omega, this]
    simp
theorem sets_all {C D : Array Value} (h : D.size = C.size) : sets C 0 D.toList = D := by
  apply Array.ext_getElem?
  intro k
  rcases Nat.lt_or_ge k D.size with hk | hk
  · have := sets_in D.toList 0 C k (by simpa using hk) (by simp; omega)
    simpa using this
  · rw [Array.getElem?_eq_none (by rw [sets_size]; omega), Array.getElem?_eq_none hk]

/-- A struct or an array of n cells. -/
def rowB (P : Program) (T : TypeId) (n : Nat) : Bool :=
  match P.underlying T with
  | some (.struct _) | some (.array _ _) => (P.info? T).map (·.size) == some n
  | _ => false

theorem rowB_spec {P : Program} {T : TypeId} {n : Nat} (h : rowB P T n = true) : ∃ d, P.underlying T = some d ∧ d.isRow = true ∧ (P.info? T).map (·.size) = some n := by
  unfold rowB at h
  split at h
  · rename_i fs hu; exact ⟨_, hu, rfl, by simpa using h⟩
  · rename_i a b hu; exact ⟨_, hu, rfl, by simpa using h⟩
  · cases h

section
variable {P : Program}

/-- A part of a block, read as a value. -/
theorem loadVar_blk {w : World} {b : Nat} {C : Array Value} {t T : TypeId} {n : Nat} (h : HB w b C t) (hT : rowB P T n = true) (o : Nat) (hs : o + n ≤ C.size) :
    (loadVar T ⟨b, o, none⟩).run P w = .ok (.agg (C.extract o (o + n))) w := by
  obtain ⟨d, hu, hd, hi⟩ := rowB_spec hT
  have hr : w.rangeAt b o (C.extract o (o + n)).toList := fun j v hv => by
    rw [h.cell]
    have hj : j < n := by
      rcases Nat.lt_or_ge j n with h' | h'
      · exact h'
      · rw [List.getElem?_eq_none (by simp; omega)] at hv; cases hv
    rw [Array.getElem?_toList, Array.getElem?_extract] at hv
    split at hv
    · exact hv
    · cases hv
  have := run_loadVar_mid (P := P) w b o T (C.extract o (o + n)).toList d hr hu hd (by rw [hi]; simp; omega)
  rw [this]

theorem loadVar_all {w : World} {b : Nat} {C : Array Value} {t T : TypeId} {n : Nat} (h : HB w b C t) (hT : rowB P T n = true) (hs : C.size = n) :
    (loadVar T ⟨b, 0, none⟩).run P w = .ok (.agg C) w := by
  have := loadVar_blk h hT 0 (by omega)
  rw [this]
  have e : C.extract 0 (0 + n) = C := by
    rw [Nat.zero_add, ← hs]
    simp
  rw [e]

theorem storeVar_blk {w : World} {b : Nat} {C : Array Value} {t T : TypeId} {n : Nat} (h : HB w b C t) (hT : rowB P T n = true) (o : Nat) (D : Array Value) (hD : D.size = n) (hs : o + n ≤ C.size) (h1 : D.all (·.oneCell') = true) :
    (storeVar T ⟨b, o, none⟩ (.agg D)).run P w = .ok () (putB w b (sets C o D.toList)) := by
  obtain ⟨d, hu, hd, hi⟩ := rowB_spec hT
  have hth : w.there b o D.size := fun j hj => ⟨by rw [h.cell]; simp; omega, h.frozen _⟩
  rw [run_storeVar_mid (P := P) w b o T D hth (by rw [hi, hD]) h1, setCells_putB _ _ h]

end
end Go.Proofs.Ytjbbgpacijageab.M

/- Types, values as trees, their cells, paths into them. No program is named here. -/
namespace Go.Proofs.Ytjbbgpacijageab.M
open Go.RowKit
set_option linter.unusedVariables false
set_option linter.unusedSimpArgs false

/-- Types of Go as they lie in memory: numbers, truth values, a struct of one field, of two (and so on), arrays, lists. -/
inductive Ty where
  | int | bool | ref
  | one (t : Ty)
  | pair (a b : Ty)
  | arr (n : Nat) (t : Ty)
  | lst (t : Ty)
  deriving DecidableEq

/-- What stands in a cell for a list: a value that was there, or a name of one made since. -/
inductive Hd where
  | conc (v : Value)
  | nm (k : Nat)
def Hd.val (B : Nat → Value) : Hd → Value
  | .conc v => v
  | .nm k => B k

@[reducible] def Ty.D : Ty → Type
  | .int => Int
  | .bool => Bool
  | .ref => Hd
  | .one t => t.D
  | .pair a b => a.D × b.D
  | .arr _ t => Nat → t.D
  | .lst t => Hd × List t.D
def Ty.sz : Ty → Nat
  | .int => 1
  | .bool => 1
  | .ref => 1
  | .one t => t.sz
  | .pair a b => a.sz + b.sz
  | .arr n t => n * t.sz
  | .lst _ => 1
/-- Bytes, at most. -/
def Ty.byt : Ty → Nat
  | .int => 8
  | .bool => 8
  | .ref => 8
  | .one t => t.byt
  | .pair a b => a.byt + b.byt
  | .arr n t => n * t.byt
  | .lst _ => 24
def Ty.agg : Ty → Bool
  | .int => false
  | .bool => false
  | .ref => false
  | .lst _ => false
  | _ => true
def nilH : Hd := .conc (.slice none 0 0)
def Ty.zero : (t : Ty) → t.D
  | .int => (0 : Int)
  | .bool => false
  | .ref => Hd.conc (.map none)
  | .one t => t.zero
  | .pair a b => (a.zero, b.zero)
  | .arr _ t => fun _ => t.zero
  | .lst _ => (nilH, [])

/-- Rows one behind the other. -/
def rows {α : Type} (n : Nat) (g : Nat → List α) : List α := (List.range n).flatMap g
theorem rows_zero {α : Type} (g : Nat → List α) : rows 0 g = [] := rfl
theorem rows_succ {α : Type} (n : Nat) (g : Nat → List α) : rows (n + 1) g = rows n g ++ g n := by
  simp [rows, List.range_succ]
theorem rows_len {α : Type} {g : Nat → List α} {s : Nat} : ∀ n, (∀ i, i < n → (g i).length = s) → (rows n g).length = n * s
  | 0, _ => by simp [rows_zero]
  | n + 1, h => by rw [rows_succ, List.length_append, rows_len n (fun i hi => h i (by omega)), h n (by omega), Nat.succ_mul]
theorem rows_get {α : Type} {g : Nat → List α} {s : Nat} : ∀ n, (∀ i, i < n → (g i).length = s) → ∀ i, i < n → ((rows n g).drop (i * s)).take s = g i
  | 0, _, i, hi => by omega
  | n + 1, h, i, hi => by
    have hl := rows_len n (fun i hi => h i (by omega))
    rw [rows_succ]
    by_cases he : i = n
    · subst he
      rw [List.drop_append, hl, List.drop_of_length_le (by omega), Nat.sub_self]
      simp [List.take_of_length_le, h i (by omega)]
    · have hlt : i < n := by omega
      have hle : i * s + s ≤ n * s := by rw [← Nat.succ_mul]; exact Nat.mul_le_mul_right _ hlt
      rw [List.drop_append_of_le_length (by omega), List.take_append_of_le_length (by rw [List.length_drop]; omega)]
      exact rows_get n (fun i hi => h i (by omega)) i hlt
theorem rows_congr {α : Type} {g g' : Nat → List α} : ∀ n, (∀ i, i < n → g i = g' i) → rows n g = rows n g'
  | 0, _ => rfl
  | n + 1, h => by rw [rows_succ, rows_succ, rows_congr n (fun i hi => h i (by omega)), h n (by omega)]
/-- Cells from an offset on are others. -/
def splice {α : Type} (l : List α) (o : Nat) (n : List α) : List α := l.take o ++ n ++ l.drop (o + n.length)
theorem splice_len {α : Type} {l n : List α} {o : Nat} (h : o + n.length ≤ l.length) : (splice l o n).length = l.length := by
  simp [splice]; omega
theorem rows_set {α : Type} {g : Nat → List α} {s : Nat} {l : List α} (hl : l.length = s) : ∀ n, (∀ i, i < n → (g i).length = s) → ∀ i, i < n → rows n (fun k => if k = i then l else g k) = splice (rows n g) (i * s) l
  | 0, _, i, hi => by omega
  | n + 1, h, i, hi => by
    have hlen := rows_len n (fun i hi => h i (by omega))
    rw [rows_succ, rows_succ]
    by_cases he : i = n
    · subst he
      rw [if_pos rfl, rows_congr i (g := fun k => if k = i then l else g k) (g' := g) (fun k hk => if_neg (by omega))]
      unfold splice
      rw [List.take_append_of_le_length (by omega), List.take_of_length_le (by omega), List.drop_of_length_le (by simp [hlen, h i (by omega)]; omega)]
      simp
    · have hlt : i < n := by omega
      have hle : i * s + s ≤ n * s := by rw [← Nat.succ_mul]; exact Nat.mul_le_mul_right _ hlt
      rw [if_neg (Ne.symm he), rows_set hl n (fun i hi => h i (by omega)) i hlt]
      unfold splice
      rw [List.take_append_of_le_length (by omega), List.drop_append_of_le_length (by omega)]
      simp

section
variable (B : Nat → Value)
def flat : (t : Ty) → t.D → List Value
  | .int, z => [.int .i64 z]
  | .bool, b => [.bool b]
  | .ref, h => [Hd.val B h]
  | .one t, v => flat t v
  | .pair a b, v => flat a v.1 ++ flat b v.2
  | .arr n t, f => rows n fun i => flat t (f i)
  | .lst _, v => [v.1.val B]
theorem flat_len : ∀ (t : Ty) (v : t.D), (flat B t v).length = t.sz
  | .int, _ => rfl
  | .bool, _ => rfl
  | .ref, _ => rfl
  | .one t, v => flat_len t v
  | .pair a b, v => by simp only [flat, Ty.sz, List.length_append, flat_len a, flat_len b]
  | .arr n t, f => by simp only [flat, Ty.sz]; exact rows_len n (fun i _ => flat_len t (f i))
  | .lst _, _ => rfl
end

/-- A value as a tree: taken apart as far as it was looked into. -/
inductive V where
  | leaf (t : Ty) (v : t.D)
  | one (x : V)
  | node (x y : V)
def V.ty : V → Ty
  | .leaf t _ => t
  | .one x => .one x.ty
  | .node x y => .pair x.ty y.ty
def V.cells (B : Nat → Value) : V → List Value
  | .leaf t v => flat B t v
  | .one x => x.cells B
  | .node x y => x.cells B ++ y.cells B
theorem V.cells_len (B : Nat → Value) : ∀ x : V, (x.cells B).length = x.ty.sz
  | .leaf t v => flat_len B t v
  | .one x => V.cells_len B x
  | .node x y => by simp only [V.cells, V.ty, Ty.sz, List.length_append, V.cells_len B x, V.cells_len B y]
/-- As an operand. -/
def V.val (B : Nat → Value) : V → Value
  | .leaf .int z => .int .i64 z
  | .leaf .bool b => .bool b
  | .leaf .ref h => Hd.val B h
  | .leaf (.lst _) v => v.1.val B
  | x => .agg (x.cells B).toArray
theorem V.val_agg {B : Nat → Value} {x : V} (h : x.ty.agg = true) : x.val B = .agg (x.cells B).toArray := by
  unfold V.val
  split <;> first | rfl | simp [V.ty, Ty.agg] at h

inductive Step where
  | inn | fst | snd
  | idx (i : Nat)

/-- The path leads from a type to an offset and a type there. -/
def At : Ty → List Step → Nat → Ty → Prop
  | t, [], o, u => o = 0 ∧ u = t
  | .one t, .inn :: p, o, u => At t p o u
  | .pair a _, .fst :: p, o, u => At a p o u
  | .pair a b, .snd :: p, o, u => ∃ k, At b p k u ∧ o = a.sz + k
  | .arr n t, .idx i :: p, o, u => i < n ∧ ∃ k, At t p k u ∧ o = i * t.sz + k
  | _, _, _, _ => False

def getV : V → List Step → Option V
  | x, [] => some x
  | .one x, .inn :: p => getV x p
  | .node x _, .fst :: p => getV x p
  | .node _ y, .snd :: p => getV y p
  | .leaf (.one t) v, .inn :: p => getV (.leaf t v) p
  | .leaf (.pair a _) v, .fst :: p => getV (.leaf a v.1) p
  | .leaf (.pair _ b) v, .snd :: p => getV (.leaf b v.2) p
  | .leaf (.arr _ t) f, .idx i :: p => getV (.leaf t (f i)) p
  | _, _ => none
termination_by structural _ p => p

theorem take_drop_append_left {α : Type} {l m : List α} {o n : Nat} (h : o + n ≤ l.length) : ((l ++ m).drop o).take n = (l.drop o).take n := by
  rw [List.drop_append_of_le_length (by omega), List.take_append_of_le_length (by rw [List.length_drop]; omega)]
theorem take_drop_append_right {α : Type} {l m : List α} {o n : Nat} : ((l ++ m).drop (l.length + o)).take n = (m.drop o).take n := by
  rw [← List.drop_drop, List.drop_left]
theorem drop_take_drop {α : Type} {l : List α} {a s o n : Nat} (h : o + n ≤ s) : (((l.drop a).take s).drop o).take n = (l.drop (a + o)).take n := by
  rw [List.drop_take, List.take_take, List.drop_drop, Nat.min_eq_left (by omega)]

theorem getV_sound (B : Nat → Value) : ∀ (p : List Step) (x y : V) (o : Nat) (u : Ty), getV x p = some y → At x.ty p o u → y.ty = u ∧ o + u.sz ≤ x.ty.sz ∧ y.cells B = ((x.cells B).drop o).take u.sz
  | [], x, y, o, u, h, ha => by
    have ha' : o = 0 ∧ u = x.ty := by unfold At at ha; exact ha
    obtain ⟨rfl, rfl⟩ := ha'
    have hh : x = y := by unfold getV at h; exact Option.some.inj h
    subst hh
    refine ⟨rfl, by omega, ?_⟩
    rw [List.drop_zero, List.take_of_length_le (by rw [V.cells_len]; exact Nat.le_refl _)]
  | s :: p, x, y, o, u, h, ha => by
    unfold getV at h
    split at h
    · rename_i h0; cases h0
    · rename_i x' p' h0
      cases h0
      obtain ⟨h1, h2, h3⟩ := getV_sound B _ _ _ o u h ha
      exact ⟨h1, h2, h3⟩
    · rename_i x1 x2 p' h0
      cases h0
      obtain ⟨h1, h2, h3⟩ := getV_sound B _ _ _ o u h ha
      refine ⟨h1, ?_, ?_⟩
      · simp only [V.ty, Ty.sz]; omega
      · rw [h3]; simp only [V.cells]; rw [take_drop_append_left (by rw [V.cells_len]; exact h2)]
    · rename_i x1 x2 p' h0
      cases h0
      obtain ⟨k, hk, rfl⟩ := ha
      obtain ⟨h1, h2, h3⟩ := getV_sound B _ _ _ k u h hk
      refine ⟨h1, ?_, ?_⟩
      · simp only [V.ty, Ty.sz]; omega
      · rw [h3]; simp only [V.cells]; rw [← V.cells_len B x1, take_drop_append_right]
    · rename_i t v p' h0
      cases h0
      exact getV_sound B _ (.leaf t v) _ o u h ha
    · rename_i a b v p' h0
      cases h0
      obtain ⟨h1, h2, h3⟩ := getV_sound B _ _ _ o u h ha
      refine ⟨h1, ?_, ?_⟩
      · simp only [V.ty, Ty.sz] at h2 ⊢; omega
      · rw [h3]; simp only [V.cells, flat]; rw [take_drop_append_left (by rw [flat_len]; exact h2)]
    · rename_i a b v p' h0
      cases h0
      obtain ⟨k, hk, rfl⟩ := ha
      obtain ⟨h1, h2, h3⟩ := getV_sound B _ _ _ k u h hk
      refine ⟨h1, ?_, ?_⟩
      · simp only [V.ty, Ty.sz] at h2 ⊢; omega
      · rw [h3]; simp only [V.cells, flat]; rw [← flat_len B a v.1, take_drop_append_right]
    · rename_i n t f i p' h0
      cases h0
      obtain ⟨hi, k, hk, rfl⟩ := ha
      obtain ⟨h1, h2, h3⟩ := getV_sound B _ _ _ k u h hk
      have hle : i * t.sz + t.sz ≤ n * t.sz := by rw [← Nat.succ_mul]; exact Nat.mul_le_mul_right _ hi
      refine ⟨h1, ?_, ?_⟩
      · simp only [V.ty, Ty.sz] at h2 ⊢; omega
      · rw [h3]
        simp only [V.cells, flat, V.ty] at h2 ⊢
        rw [← rows_get n (g := fun i => flat B t (f i)) (fun i _ => flat_len B t (f i)) i hi, drop_take_drop h2]
    · cases h

def updA {α : Type} (f : Nat → α) (i : Nat) (x : α) : Nat → α := fun k => if k = i then x else f k

/-- A tree as a value of a type. -/
def denK : (x : V) → (t : Ty) → (t.D → Prop) → Prop
  | .leaf t' v, t, k => match decEq t' t with
    | .isTrue h => (Eq.rec (motive := fun t _ => (t.D → Prop) → Prop) (fun k => k v) h) k
    | .isFalse _ => False
  | .node x y, .pair a b, k => denK x a fun u => denK y b fun w => k (u, w)
  | .one x, .one t, k => denK x t k
  | _, _, _ => False
/-- The tree with another one at the end of a path. -/
def setK : (p : List Step) → V → V → (V → Prop) → Prop
  | [], x, new, k => match decEq x.ty new.ty with | .isTrue _ => k new | .isFalse _ => False
  | .inn :: p, x, new, k => match x with
    | .one x => setK p x new fun y => k (.one y)
    | .leaf (.one t) v => setK p (.leaf t v) new fun y => k (.one y)
    | _ => False
  | .fst :: p, x, new, k => match x with
    | .node x z => setK p x new fun y => k (.node y z)
    | .leaf (.pair a b) v => setK p (.leaf a v.1) new fun y => k (.node y (.leaf b v.2))
    | _ => False
  | .snd :: p, x, new, k => match x with
    | .node z x => setK p x new fun y => k (.node z y)
    | .leaf (.pair a b) v => setK p (.leaf b v.2) new fun y => k (.node (.leaf a v.1) y)
    | _ => False
  | .idx i :: p, x, new, k => match x with
    | .leaf (.arr n t) f => setK p (.leaf t (f i)) new fun y => denK y t fun d => k (.leaf (.arr n t) (updA f i d))
    | _ => False

theorem splice_append_left {α : Type} {l m n : List α} {o : Nat} (h : o + n.length ≤ l.length) : splice (l ++ m) o n = splice l o n ++ m := by
  unfold splice
  rw [List.take_append_of_le_length (by omega), List.drop_append_of_le_length (by omega)]
  simp
theorem splice_append_right {α : Type} {l m n : List α} {o : Nat} : splice (l ++ m) (l.length + o) n = l ++ splice m o n := by
  unfold splice
  rw [List.take_length_add_append, Nat.add_assoc, ← List.drop_drop, List.drop_left]
  simp
theorem splice_splice {α : Type} {l n : List α} {a s o : Nat} (h : o + n.length ≤ s) (hl : a + s ≤ l.length) : splice l a (splice ((l.drop a).take s) o n) = splice l (a + o) n := by
  have hlen : ((l.drop a).take s).length = s := by simp; omega
  unfold splice
  rw [List.length_append, List.length_append, List.length_take, List.length_drop, hlen]
  rw [List.take_take, Nat.min_eq_left (by omega : o ≤ s)]
  rw [show l.take (a + o) = l.take a ++ (l.drop a).take o from by rw [List.take_add]]
  rw [List.drop_take]
  have e1 : List.drop (a + (o + n.length + (s - (o + n.length)))) l = ((l.drop a).drop s) := by rw [List.drop_drop]; congr 1; omega
  rw [e1]
  have e2 : List.drop (a + o + n.length) l = ((l.drop a).drop (o + n.length)) := by rw [List.drop_drop]; congr 1; omega
  rw [e2]
  have e3 : ((l.drop a).drop (o + n.length)) = (((l.drop a).drop (o + n.length)).take (s - (o + n.length))) ++ ((l.drop a).drop s) := by
    have h1 := (List.take_append_drop (s - (o + n.length)) ((l.drop a).drop (o + n.length))).symm
    have h2 : ((l.drop a).drop (o + n.length)).drop (s - (o + n.length)) = (l.drop a).drop s := by rw [List.drop_drop]; congr 1; omega
    rw [h2] at h1
    exact h1
  generalize (l.drop a).drop (o + n.length) = z at e3 ⊢
  rw [show List.take a l ++ List.take o (List.drop a l) ++ n ++ z = List.take a l ++ List.take o (List.drop a l) ++ n ++ (List.take (s - (o + n.length)) z ++ List.drop s (List.drop a l)) from by rw [← e3]]
  simp [List.append_assoc]

end Go.Proofs.Ytjbbgpacijageab.M

/- Values in a world: names, blocks, lists; frames. No program is named here. -/
namespace Go.Proofs.Ytjbbgpacijageab.M
open Go.RowKit
set_option linter.unusedVariables false
set_option linter.unusedSimpArgs false

def Hd.ok (XB : Nat → Prop) : Hd → Prop
  | .conc _ => True
  | .nm k => XB k

/-- The lists in a value are there: their cells read so, and lie where nothing is written. -/
def wok (XB : Nat → Prop) (B : Nat → Value) (F : Nat → Nat → Prop) (x : World) : (t : Ty) → t.D → Prop
  | .int, _ => True
  | .bool, _ => True
  | .ref, v => Hd.ok XB v ∧ ∃ r, Hd.val B v = .map r
  | .one t, v => wok XB B F x t v
  | .pair a b, v => wok XB B F x a v.1 ∧ wok XB B F x b v.2
  | .arr n t, f => ∀ i, i < n → wok XB B F x t (f i)
  | .lst t, v => v.1.ok XB ∧ ((v.2 = [] ∧ ∃ ad cap, v.1.val B = .slice ad 0 cap) ∨
      ∃ b o cap, v.1.val B = .slice (some ⟨b, o, none⟩) v.2.length cap ∧ v.2.length ≤ cap ∧ cap ≤ maxLen ∧ b < x.heap.size ∧ (∃ fe, o + v.2.length * t.sz ≤ fe ∧ F b fe) ∧
        ∀ (i : Nat) e, v.2[i]? = some e → (∀ j, j < t.sz → x.cell? ⟨b, o + i * t.sz + j, none⟩ = (flat B t e)[j]?) ∧ wok XB B F x t e)

/-- What lies still in one world is so in another. -/
def Keep (F : Nat → Nat → Prop) (x x' : World) : Prop := ∀ b e, F b e → ∀ j, j < e → x'.cell? ⟨b, j, none⟩ = x.cell? ⟨b, j, none⟩

theorem flat_congr {XB : Nat → Prop} {B B' : Nat → Value} {F : Nat → Nat → Prop} {x : World} (hB : ∀ n, XB n → B' n = B n) : ∀ (t : Ty) (v : t.D), wok XB B F x t v → flat B' t v = flat B t v
  | .int, _, _ => rfl
  | .bool, _, _ => rfl
  | .ref, v, h => by
    have h1 : Hd.ok XB v := h.1
    show [Hd.val B' v] = [Hd.val B v]
    cases v with
    | conc u => rfl
    | nm k => simp only [Hd.val, hB k h1]
  | .one t, v, h => flat_congr hB t v h
  | .pair a b, v, h => by simp only [flat]; rw [flat_congr hB a v.1 h.1, flat_congr hB b v.2 h.2]
  | .arr n t, f, h => rows_congr n fun i hi => flat_congr hB t (f i) (h i hi)
  | .lst t, v, h => by
    obtain ⟨h1, _⟩ := h
    simp only [flat]
    cases hv : v.1 with
    | conc u => rfl
    | nm k => rw [hv] at h1; simp only [Hd.val, hB k h1]
theorem hdVal_congr {XB : Nat → Prop} {B B' : Nat → Value} (hB : ∀ n, XB n → B' n = B n) {h : Hd} (hh : h.ok XB) : h.val B' = h.val B := by
  cases h with
  | conc u => rfl
  | nm k => exact hB k hh

theorem wok_mono {XB XB' : Nat → Prop} {B B' : Nat → Value} {F F' : Nat → Nat → Prop} {x x' : World} (hX : ∀ n, XB n → XB' n) (hB : ∀ n, XB n → B' n = B n) (hF : ∀ b e, F b e → F' b e) (hK : Keep F x x') (hs : x.heap.size ≤ x'.heap.size) :
    ∀ (t : Ty) (v : t.D), wok XB B F x t v → wok XB' B' F' x' t v
  | .int, _, _ => trivial
  | .bool, _, _ => trivial
  | .ref, v, h => by
    obtain ⟨h1, r, h2⟩ := (show Hd.ok XB v ∧ ∃ r, Hd.val B v = .map r from h)
    show Hd.ok XB' v ∧ ∃ r, Hd.val B' v = .map r
    refine ⟨?_, r, by rw [hdVal_congr hB h1]; exact h2⟩
    cases v with
    | conc u => trivial
    | nm k => exact hX k h1
  | .one t, v, h => wok_mono hX hB hF hK hs t v h
  | .pair a b, v, h => ⟨wok_mono hX hB hF hK hs a v.1 h.1, wok_mono hX hB hF hK hs b v.2 h.2⟩
  | .arr n t, f, h => fun i hi => wok_mono hX hB hF hK hs t (f i) (h i hi)
  | .lst t, v, h => by
    obtain ⟨h1, h2⟩ := h
    refine ⟨?_, ?_⟩
    · cases hv : v.1 with
      | conc u => trivial
      | nm k => rw [hv] at h1; exact hX k h1
    · rw [hdVal_congr hB h1]
      rcases h2 with h2 | ⟨b, o, cap, e1, e2, e3, e4, ⟨fe, e7, e5⟩, e6⟩
      · exact Or.inl h2
      · refine Or.inr ⟨b, o, cap, e1, e2, e3, Nat.lt_of_lt_of_le e4 hs, ⟨fe, e7, hF _ _ e5⟩, fun i e he => ?_⟩
        obtain ⟨g1, g2⟩ := e6 i e he
        have hi : i < v.2.length := (List.getElem?_eq_some_iff.1 he).1
        refine ⟨fun j hj => ?_, wok_mono hX hB hF hK hs t e g2⟩
        have hle : i * t.sz + t.sz ≤ v.2.length * t.sz := by rw [← Nat.succ_mul]; exact Nat.mul_le_mul_right _ hi
        rw [hK _ _ e5 _ (by omega), g1 j hj, flat_congr hB t e g2]

def V.ok (XB : Nat → Prop) (B : Nat → Value) (F : Nat → Nat → Prop) (x : World) : V → Prop
  | .leaf t v => wok XB B F x t v
  | .one y => y.ok XB B F x
  | .node y z => y.ok XB B F x ∧ z.ok XB B F x
section
variable {XB XB' : Nat → Prop} {B B' : Nat → Value} {F F' : Nat → Nat → Prop} {x x' : World}
theorem V.ok_mono (hX : ∀ n, XB n → XB' n) (hB : ∀ n, XB n → B' n = B n) (hF : ∀ b e, F b e → F' b e) (hK : Keep F x x') (hs : x.heap.size ≤ x'.heap.size) : ∀ (v : V), v.ok XB B F x → v.ok XB' B' F' x'
  | .leaf t v, h => wok_mono hX hB hF hK hs t v h
  | .one y, h => V.ok_mono hX hB hF hK hs y h
  | .node y z, h => ⟨V.ok_mono hX hB hF hK hs y h.1, V.ok_mono hX hB hF hK hs z h.2⟩
theorem V.cells_congr (hB : ∀ n, XB n → B' n = B n) : ∀ (v : V), v.ok XB B F x → v.cells B' = v.cells B
  | .leaf t v, h => flat_congr hB t v h
  | .one y, h => V.cells_congr hB y h
  | .node y z, h => by simp only [V.cells]; rw [V.cells_congr hB y h.1, V.cells_congr hB z h.2]
theorem V.val_congr (hB : ∀ n, XB n → B' n = B n) (v : V) (h : v.ok XB B F x) : v.val B' = v.val B := by
  have hc := V.cells_congr hB v h
  unfold V.val
  split
  · rfl
  · rfl
  · exact hdVal_congr hB (show Hd.ok XB _ ∧ _ from h).1
  · exact hdVal_congr hB h.1
  · rw [hc]
theorem getV_ok : ∀ (p : List Step) (v y : V) (o : Nat) (u : Ty), getV v p = some y → At v.ty p o u → v.ok XB B F x → y.ok XB B F x
  | [], v, y, o, u, h, ha, hv => by
    have hh : v = y := by unfold getV at h; exact Option.some.inj h
    subst hh; exact hv
  | s :: p, v, y, o, u, h, ha, hv => by
    unfold getV at h
    split at h
    · rename_i h0; cases h0
    · rename_i x' p' h0
      cases h0
      exact getV_ok _ _ _ o u h ha hv
    · rename_i x1 x2 p' h0
      cases h0
      exact getV_ok _ _ _ o u h ha hv.1
    · rename_i x1 x2 p' h0
      cases h0
      obtain ⟨k, hk, rfl⟩ := ha
      exact getV_ok _ _ _ k u h hk hv.2
    · rename_i t v p' h0
      cases h0
      exact getV_ok _ (.leaf t v) _ o u h ha hv
    · rename_i a b v p' h0
      cases h0
      exact getV_ok _ (.leaf a v.1) _ o u h ha hv.1
    · rename_i a b v p' h0
      cases h0
      obtain ⟨k, hk, rfl⟩ := ha
      exact getV_ok _ (.leaf b v.2) _ k u h hk hv.2
    · rename_i n t f i p' h0
      cases h0
      obtain ⟨hi, k, hk, rfl⟩ := ha
      exact getV_ok _ (.leaf t (f i)) _ k u h hk (hv i hi)
    · cases h
end
theorem denK_sound : ∀ (v : V) (t : Ty) (k : t.D → Prop), denK v t k → ∃ d : t.D, k d ∧ v.ty = t ∧ (∀ B, flat B t d = v.cells B) ∧ ∀ XB B F x, v.ok XB B F x → wok XB B F x t d
  | .leaf t' v, t, k, h => by
    unfold denK at h
    split at h
    · rename_i he _
      subst he
      exact ⟨v, h, rfl, fun _ => rfl, fun _ _ _ _ ho => ho⟩
    · exact h.elim
  | .node y z, t, k, h => by
    cases t with
    | pair a b =>
      unfold denK at h
      obtain ⟨u, h1, h2, h3, h4⟩ := denK_sound y a _ h
      obtain ⟨w, g1, g2, g3, g4⟩ := denK_sound z b _ h1
      exact ⟨(u, w), g1, by simp only [V.ty, h2, g2], fun B => by simp only [flat, V.cells, h3, g3], fun XB B F x ho => ⟨h4 _ _ _ _ ho.1, g4 _ _ _ _ ho.2⟩⟩
    | _ => unfold denK at h; exact h.elim
  | .one y, t, k, h => by
    cases t with
    | one t =>
      unfold denK at h
      obtain ⟨u, h1, h2, h3, h4⟩ := denK_sound y t _ h
      exact ⟨u, h1, by simp only [V.ty, h2], fun B => by simp only [flat, V.cells, h3], h4⟩
    | _ => unfold denK at h; exact h.elim

theorem setK_sound : ∀ (p : List Step) (x new : V) (k : V → Prop), setK p x new k → ∃ y, k y ∧ y.ty = x.ty ∧ ∀ o u, At x.ty p o u → new.ty = u ∧ o + u.sz ≤ x.ty.sz ∧ (∀ B, y.cells B = splice (x.cells B) o (new.cells B)) ∧ ∀ XB B F w, x.ok XB B F w → new.ok XB B F w → y.ok XB B F w
  | [], x, new, k, h => by
    unfold setK at h
    split at h
    · rename_i he _
      refine ⟨new, h, he.symm, fun o u ha => ?_⟩
      have ha' : o = 0 ∧ u = x.ty := by unfold At at ha; exact ha
      obtain ⟨rfl, rfl⟩ := ha'
      refine ⟨he.symm, by omega, fun B => ?_, fun _ _ _ _ _ hn => hn⟩
      unfold splice
      rw [List.take_zero, List.drop_of_length_le (by rw [V.cells_len, V.cells_len, he]; omega)]
      simp
    · exact h.elim
  | .inn :: p, x, new, k, h => by
    unfold setK at h
    split at h
    · rename_i x
      obtain ⟨y, h1, h2, h3⟩ := setK_sound p _ _ _ h
      exact ⟨_, h1, by simp only [V.ty, h2], fun o u ha => h3 o u ha⟩
    · rename_i t v
      obtain ⟨y, h1, h2, h3⟩ := setK_sound p (.leaf t v) _ _ h
      exact ⟨_, h1, by simp only [V.ty, h2], fun o u ha => h3 o u ha⟩
    · exact h.elim
  | .fst :: p, x, new, k, h => by
    unfold setK at h
    split at h
    · rename_i x z
      obtain ⟨y, h1, h2, h3⟩ := setK_sound p _ _ _ h
      refine ⟨_, h1, by simp only [V.ty, h2], fun o u ha => ?_⟩
      obtain ⟨g1, g2, g3, g4⟩ := h3 o u ha
      refine ⟨g1, by simp only [V.ty, Ty.sz]; omega, fun B => ?_, fun XB B F w hx hn => ⟨g4 _ _ _ _ hx.1 hn, hx.2⟩⟩
      simp only [V.cells, g3]
      rw [splice_append_left (by rw [V.cells_len, V.cells_len, g1]; exact g2)]
    · rename_i a b v
      obtain ⟨y, h1, h2, h3⟩ := setK_sound p (.leaf a v.1) _ _ h
      refine ⟨_, h1, by simp only [V.ty, h2], fun o u ha => ?_⟩
      obtain ⟨g1, g2, g3, g4⟩ := h3 o u ha
      refine ⟨g1, by simp only [V.ty, Ty.sz] at g2 ⊢; omega, fun B => ?_, fun XB B F w hx hn => ⟨g4 _ _ _ _ hx.1 hn, hx.2⟩⟩
      simp only [V.cells, g3, flat]
      rw [splice_append_left (by rw [V.cells_len, flat_len, g1]; exact g2)]
    · exact h.elim
  | .snd :: p, x, new, k, h => by
    unfold setK at h
    split at h
    · rename_i z x
      obtain ⟨y, h1, h2, h3⟩ := setK_sound p _ _ _ h
      refine ⟨_, h1, by simp only [V.ty, h2], fun o u ha => ?_⟩
      obtain ⟨j, hj, rfl⟩ := ha
      obtain ⟨g1, g2, g3, g4⟩ := h3 j u hj
      refine ⟨g1, by simp only [V.ty, Ty.sz]; omega, fun B => ?_, fun XB B F w hx hn => ⟨hx.1, g4 _ _ _ _ hx.2 hn⟩⟩
      simp only [V.cells, g3]
      rw [← V.cells_len B z, splice_append_right]
    · rename_i a b v
      obtain ⟨y, h1, h2, h3⟩ := setK_sound p (.leaf b v.2) _ _ h
      refine ⟨_, h1, by simp only [V.ty, h2], fun o u ha => ?_⟩
      obtain ⟨j, hj, rfl⟩ := ha
      obtain ⟨g1, g2, g3, g4⟩ := h3 j u hj
      refine ⟨g1, by simp only [V.ty, Ty.sz] at g2 ⊢; omega, fun B => ?_, fun XB B F w hx hn => ⟨hx.1, g4 _ _ _ _ hx.2 hn⟩⟩
      simp only [V.cells, g3, flat]
      rw [← flat_len B a v.1, splice_append_right]
    · exact h.elim
  | .idx i :: p, x, new, k, h => by
    unfold setK at h
    split at h
    · rename_i n t f
      obtain ⟨y, h1, h2, h3⟩ := setK_sound p (.leaf t (f i)) _ _ h
      obtain ⟨d, e1, e2, e3, e4⟩ := denK_sound y t _ h1
      refine ⟨_, e1, rfl, fun o u ha => ?_⟩
      obtain ⟨hi, j, hj, rfl⟩ := ha
      obtain ⟨g1, g2, g3, g4⟩ := h3 j u hj
      have hle : i * t.sz + t.sz ≤ n * t.sz := by rw [← Nat.succ_mul]; exact Nat.mul_le_mul_right _ hi
      have g2' : j + u.sz ≤ t.sz := g2
      refine ⟨g1, by simp only [V.ty, Ty.sz]; omega, fun B => ?_, fun XB B F w hx hn q hq => ?_⟩
      · simp only [V.cells, flat]
        have hrow := rows_set (g := fun i => flat B t (f i)) (s := t.sz) (l := flat B t d) (flat_len B t d) n (fun i _ => flat_len B t (f i)) i hi
        have hfun : (fun k => flat B t (updA f i d k)) = fun k => if k = i then flat B t d else flat B t (f k) := by
          funext k
          unfold updA
          split <;> rfl
        rw [hfun, hrow, e3, g3]
        have hl : (rows n fun i => flat B t (f i)).length = n * t.sz := rows_len n (fun i _ => flat_len B t (f i))
        rw [show V.cells B (.leaf t (f i)) = (List.drop (i * t.sz) (rows n fun i => flat B t (f i))).take t.sz from (rows_get n (g := fun i => flat B t (f i)) (fun i _ => flat_len B t (f i)) i hi).symm]
        rw [splice_splice (by rw [V.cells_len, g1]; exact g2') (by rw [hl]; exact hle)]
      · show wok XB B F w t (updA f i d q)
        unfold updA
        split
        · exact e4 _ _ _ _ (g4 _ _ _ _ (hx i hi) hn)
        · exact hx q hq
    · exact h.elim

end Go.Proofs.Ytjbbgpacijageab.M

/- What is known of a program's types: reading, writing, fields, comparing. No program is named here. -/
namespace Go.Proofs.Ytjbbgpacijageab.M
open Go.RowKit
set_option linter.unusedVariables false
set_option linter.unusedSimpArgs false

theorem V.cells_sc {B : Nat → Value} {y : V} (h : y.ty.agg = false) : y.cells B = [y.val B] := by
  cases y with
  | leaf t v => cases t <;> first | rfl | simp [V.ty, Ty.agg] at h
  | one y => simp [V.ty, Ty.agg] at h
  | node y z => simp [V.ty, Ty.agg] at h

section
variable {XB : Nat → Prop} {B : Nat → Value} {F : Nat → Nat → Prop} {x : World}
theorem flat_one : ∀ (t : Ty) (v : t.D), wok XB B F x t v → ∀ u ∈ flat B t v, u.oneCell' = true
  | .int, _, _, u, h => by simp [flat] at h; subst h; rfl
  | .bool, _, _, u, h => by simp [flat] at h; subst h; rfl
  | .ref, v, hw, u, h => by
    obtain ⟨_, r, h2⟩ := (show Hd.ok XB v ∧ ∃ r, Hd.val B v = .map r from hw)
    simp [flat] at h
    subst h
    rw [h2]
    rfl
  | .one t, v, hw, u, h => flat_one t v hw u h
  | .pair a b, v, hw, u, h => by
    simp only [flat, List.mem_append] at h
    rcases h with h | h
    · exact flat_one a v.1 hw.1 u h
    · exact flat_one b v.2 hw.2 u h
  | .arr n t, f, hw, u, h => by
    simp only [flat, rows, List.mem_flatMap, List.mem_range] at h
    obtain ⟨i, hi, hu⟩ := h
    exact flat_one t (f i) (hw i hi) u hu
  | .lst t, v, hw, u, h => by
    simp [flat] at h
    subst h
    rcases hw.2 with ⟨_, ad, cap, hv⟩ | ⟨b, o, cap, hv, _⟩ <;> rw [hv] <;> rfl
theorem V.cells_one : ∀ (v : V), v.ok XB B F x → ∀ u ∈ v.cells B, u.oneCell' = true
  | .leaf t v, h, u, hu => flat_one t v h u hu
  | .one y, h, u, hu => V.cells_one y h u hu
  | .node y z, h, u, hu => by
    simp only [V.cells, List.mem_append] at hu
    rcases hu with hu | hu
    · exact V.cells_one y h.1 u hu
    · exact V.cells_one z h.2 u hu
end
theorem V.val_cells {B : Nat → Value} (y : V) (h : ∀ u ∈ y.cells B, u.oneCell' = true) : (y.val B).cells = (y.cells B).toArray := by
  cases ha : y.ty.agg with
  | true => rw [V.val_agg ha]; rfl
  | false =>
    have hc := V.cells_sc (B := B) ha
    have h1 := h (y.val B) (by rw [hc]; simp)
    rw [hc]
    cases hv : y.val B <;> first | rfl | (rw [hv] at h1; simp [Value.oneCell'] at h1)

def scB (P : Program) (T : TypeId) : Bool :=
  match P.underlying T with
  | some (.struct _) | some (.array _ _) | none => false
  | _ => (P.info? T).map (·.size) == some 1
def foB (P : Program) (T : TypeId) (k d : Nat) : Bool :=
  match P.underlying T with
  | some (.struct fields) => match fields[k]? with
    | some f => f.offset == d && (match (P.info? f.type).map (·.size) with | some 0 => false | some _ => true | none => false)
    | none => false
  | _ => false
/-- Is the type one of that shape, as far as reading and writing goes? -/
def tyB1 (P : Program) (id : TypeId) (T : Ty) : Bool := match T.agg with | true => rowB P id T.sz | false => scB P id

section
variable {P : Program}
theorem scB_size {t : TypeId} (h : scB P t = true) : (P.info? t).map (·.size) = some 1 := by
  unfold scB at h
  split at h <;> first | cases h | simpa using h
theorem scB_agg {t : TypeId} (h : scB P t = true) (w : World) : (isAgg t).run P w = .ok false w := by
  unfold scB at h
  split at h
  · cases h
  · cases h
  · cases h
  · rename_i d h1 h2 h3
    cases hu : P.underlying t with
    | none => exact absurd hu h3
    | some d =>
      unfold isAgg
      rw [Sem.run_bind, run_underlying hu]
      simp only [Result.andThen_ok]
      cases d <;> first | rfl | exact absurd hu (h1 _) | exact absurd hu (h2 _ _)
theorem rowB_agg {t : TypeId} {n : Nat} (h : rowB P t n = true) (w : World) : (isAgg t).run P w = .ok true w := by
  obtain ⟨d, hu, hd, _⟩ := rowB_spec h
  unfold isAgg
  rw [Sem.run_bind, run_underlying hu]
  simp only [Result.andThen_ok]
  cases d <;> first | rfl | simp [TypeDesc.isRow] at hd
theorem fo_run {t : TypeId} {k d : Nat} (h : foB P t k d = true) (w : World) (b off : Nat) : (Instr.fieldAt t (.pointer (some ⟨b, off, none⟩)) k).run P w = .ok (.pointer (some ⟨b, off + d, none⟩)) w := by
  unfold foB at h
  split at h
  · rename_i fields hu
    split at h
    · rename_i f hf
      rw [Bool.and_eq_true] at h
      obtain ⟨h1, h2⟩ := h
      have hd : f.offset = d := by simpa using h1
      cases hi : P.info? f.type with
      | none => rw [hi] at h2; simp at h2
      | some i =>
        have hs : i.size ≠ 0 := fun h0 => by rw [hi] at h2; simp [h0] at h2
        subst hd
        unfold Instr.fieldAt
        rw [Sem.run_bind, run_underlying hu]
        simp only [Result.andThen_ok, hf]
        simp [Instr.sureAddr, fieldPlace, sizeOf, typeInfo, hi, hs, Addr.add]
    · cases h
  · cases h

theorem load_run {id : TypeId} {y : V} {B : Nat → Value} (hT : tyB1 P id y.ty = true) {x : World} {b o : Nat} (hc : ∀ j, j < y.ty.sz → x.cell? ⟨b, o + j, none⟩ = (y.cells B)[j]?) : (loadVar id ⟨b, o, none⟩).run P x = .ok (y.val B) x := by
  unfold tyB1 at hT
  split at hT
  · rename_i ha
    obtain ⟨d, hu, hd, hi⟩ := rowB_spec hT
    rw [V.val_agg ha]
    refine run_loadVar_mid (P := P) x b o id (y.cells B) d (fun j v hv => ?_) hu hd (by rw [hi, V.cells_len])
    have hj : j < (y.cells B).length := (List.getElem?_eq_some_iff.1 hv).1
    rw [hc j (by rw [← V.cells_len B]; exact hj)]
    exact hv
  · rename_i ha
    have hcs := V.cells_sc (B := B) ha
    have hsz : y.ty.sz = 1 := by rw [← V.cells_len B, hcs]; rfl
    have h0 := hc 0 (by omega)
    rw [hcs] at h0
    unfold loadVar
    rw [Sem.run_bind, scB_agg hT]
    simp only [Result.andThen_ok, Bool.false_eq_true, if_false]
    simp at h0
    simp [go_sem, h0]

theorem storeVar_cells {id : TypeId} {y : V} {B : Nat → Value} (hT : tyB1 P id y.ty = true) (h1 : ∀ u ∈ y.cells B, u.oneCell' = true) {x : World} {b o : Nat} {C : Array Value} {e : TypeId} (hB : HB x b C e) (hs : o + y.ty.sz ≤ C.size) :
    (storeVar id ⟨b, o, none⟩ (y.val B)).run P x = .ok () (putB x b (sets C o (y.cells B))) := by
  have hval := V.val_cells y h1
  have hsize : (P.info? id).map (·.size) = some y.ty.sz := by
    unfold tyB1 at hT
    split at hT
    · obtain ⟨d, hu, hd, hi⟩ := rowB_spec hT; exact hi
    · rename_i ha
      have hcs := V.cells_sc (B := B) ha
      have hsz : y.ty.sz = 1 := by rw [← V.cells_len B, hcs]; rfl
      rw [hsz]; exact scB_size hT
  have hth : x.there b o (y.cells B).toArray.size := fun j hj => ⟨by
    rw [hB.cell]
    have : j < y.ty.sz := by rw [← V.cells_len B]; simpa using hj
    simp; omega, hB.frozen _⟩
  have hst := run_storeVar_mid (P := P) x b o id (y.cells B).toArray hth (by rw [hsize]; simp [V.cells_len]) (by
    rw [Array.all_eq_true']
    intro u hu
    exact h1 u (by simpa using hu))
  have heq : (storeVar id ⟨b, o, none⟩ (y.val B)).run P x = (storeVar id ⟨b, o, none⟩ (.agg (y.cells B).toArray)).run P x := by
    unfold storeVar
    rw [show (Value.agg (y.cells B).toArray).cells = (y.cells B).toArray from rfl, hval]
  rw [heq, hst, setCells_putB _ _ hB]

theorem sets_splice : ∀ (cs : List Value) (o : Nat) (C : Array Value), o + cs.length ≤ C.size → (sets C o cs).toList = splice C.toList o cs
  | [], o, C, h => by simp [sets, splice]
  | v :: r, o, C, h => by
    simp only [List.length_cons] at h
    show (sets (C.setIfInBounds o v) (o + 1) r).toList = _
    rw [sets_splice r (o + 1) _ (by simp; omega)]
    have hset : (C.setIfInBounds o v).toList = C.toList.take o ++ [v] ++ C.toList.drop (o + 1) := by
      rw [Array.toList_setIfInBounds, List.set_eq_take_append_cons_drop, if_pos (by simp; omega)]
      simp
    have hlen : (C.toList.take o ++ [v]).length = o + 1 := by simp; omega
    unfold splice
    rw [hset, List.take_append_of_le_length (by omega), List.take_of_length_le (by omega), List.drop_append, List.drop_of_length_le (by omega), hlen]
    simp only [List.drop_drop, List.length_cons, List.nil_append, List.append_assoc, List.cons_append]
    congr 4
    omega

/-- A part of a struct or an array as a value. -/
theorem part_run {id : TypeId} {y : V} {B : Nat → Value} (hT : tyB1 P id y.ty = true) {L : List Value} {o : Nat} (hc : y.cells B = (L.drop o).take y.ty.sz) (hs : o + y.ty.sz ≤ L.length) (x : World) : (part id L.toArray o).run P x = .ok (y.val B) x := by
  unfold tyB1 at hT
  unfold part
  split at hT
  · rename_i ha
    obtain ⟨d, hu, hd, hi⟩ := rowB_spec hT
    rw [Sem.run_bind, rowB_agg hT]
    simp only [Result.andThen_ok, if_true]
    cases hinf : P.info? id with
    | none => rw [hinf] at hi; simp at hi
    | some i =>
      have hsz : i.size = y.ty.sz := by simpa [hinf] using hi
      simp only [sizeOf, typeInfo, Sem.run_bind, run_program, Result.andThen_ok, hinf, Sem.run_pure, hsz]
      rw [V.val_agg ha, hc]
      congr 2
      apply Array.toList_inj.1
      simp [List.extract_eq_take_drop]
  · rename_i ha
    have hcs := V.cells_sc (B := B) ha
    have hsz : y.ty.sz = 1 := by rw [← V.cells_len B, hcs]; rfl
    rw [Sem.run_bind, scB_agg hT]
    simp only [Result.andThen_ok, Bool.false_eq_true, if_false]
    rw [hcs, hsz] at hc
    have h5 := congrArg (·[0]?) hc
    have h6 : L[o]? = some (y.val B) := by simpa using h5.symm
    have : L.toArray[o]? = some (y.val B) := by simpa using h6
    rw [this]
    rfl
end

/-- Equal? -/
def eqT : (t : Ty) → t.D → t.D → Bool
  | .int, a, b => decide ((a : Int) = b)
  | .bool, a, b => decide ((a : Bool) = b)
  | .ref, _, _ => false
  | .one t, a, b => eqT t a b
  | .pair s t, a, b => eqT s a.1 b.1 && eqT t a.2 b.2
  | .arr n t, f, g => (List.range n).all fun i => eqT t (f i) (g i)
  | .lst _, _, _ => false

def fieldName (f : Field) : Bool := !(f.name == "_")
def fldsE (rc : TypeId → Ty → Bool) : List Field → Ty → Nat → Bool
  | [], _, _ => false
  | [f], t, o => f.offset == o && fieldName f && rc f.type t
  | f :: r, .pair a b, o => f.offset == o && fieldName f && rc f.type a && fldsE rc r b (o + a.sz)
  | _, _, _ => false
/-- May values of the type be compared so? -/
def eqB (P : Program) : Nat → TypeId → Ty → Bool
  | 0, _, _ => false
  | n + 1, id, T => tyB1 P id T && match P.underlying id, T with
    | some (.int _), .int => true
    | some .bool, .bool => true
    | some (.array k e), .arr m t => k == m && (P.info? e).map (·.size) == some t.sz && eqB P n e t
    | some (.struct fs), T => !P.stoodInHeld id && (match T, fs.toList with
      | .one t, [f] => f.offset == 0 && fieldName f && eqB P n f.type t
      | .one _, _ => false
      | T, l => fldsE (eqB P n) l T 0)
    | _, _ => false

section
variable {P : Program}
theorem eqB_ty {n : Nat} {id : TypeId} {T : Ty} (h : eqB P n id T = true) : tyB1 P id T = true := by
  cases n with
  | zero => simp [eqB] at h
  | succ n => unfold eqB at h; rw [Bool.and_eq_true] at h; exact h.1
theorem info_some {id : TypeId} {d : TypeDesc} (h : P.underlying id = some d) : ∃ i, P.info? id = some i := by
  cases hi : P.info? id with
  | some i => exact ⟨i, rfl⟩
  | none => simp [Program.underlying, hi] at h

theorem eq_run {B : Nat → Value} {x : World} : ∀ (n : Nat) (id : TypeId) (T : Ty), eqB P n id T = true → ∀ d, n ≤ d → ∀ (a b : T.D), (Op.equalIn d id ((V.leaf T a).val B) ((V.leaf T b).val B)).run P x = .ok (eqT T a b) x
  | 0, id, T, h, d, hd, a, b => by simp [eqB] at h
  | n + 1, id, T, h, d, hd, a, b => by
    obtain ⟨d, rfl⟩ : ∃ e, d = e + 1 := ⟨d - 1, by omega⟩
    have ih := eq_run (B := B) (x := x) n
    unfold eqB at h
    rw [Bool.and_eq_true] at h
    obtain ⟨hty, h⟩ := h
    split at h
    · rename_i k hu
      show (Op.equalIn (d + 1) id (.int .i64 a) (.int .i64 b)).run P x = .ok (decide ((a : Int) = b)) x
      rw [run_equalIn_int x d id .i64 k a b hu]
      congr 1
    · rename_i hu
      show (Op.equalIn (d + 1) id (.bool a) (.bool b)).run P x = .ok (decide ((a : Bool) = b)) x
      rw [run_equalIn_bool x d id a b hu]
      congr 1
    · rename_i k e m t hu
      simp only [Bool.and_eq_true, beq_iff_eq] at h
      obtain ⟨⟨rfl, hsz⟩, he⟩ := h
      cases hi : P.info? e with
      | none => rw [hi] at hsz; simp at hsz
      | some i =>
        have hcells : P.cellsOf e = t.sz := by simp [Program.cellsOf, hsz]
        show (Op.equalIn (d + 1) id (.agg (rows k fun i => flat B t (a i)).toArray) (.agg (rows k fun i => flat B t (b i)).toArray)).run P x = _
        rw [run_equalIn_array x d _ _ hu hi, hcells]
        have hall : ∀ l : List Nat, (∀ j ∈ l, j < k) → (Op.eqItems d e t.sz (rows k fun i => flat B t (a i)).toArray (rows k fun i => flat B t (b i)).toArray l).run P x = .ok (l.all fun i => eqT t (a i) (b i)) x := by
          intro l
          induction l with
          | nil => intro _; rfl
          | cons j l ihl =>
            intro hl
            have hj : j < k := hl j (by simp)
            have hle : j * t.sz + t.sz ≤ k * t.sz := by rw [← Nat.succ_mul]; exact Nat.mul_le_mul_right _ hj
            have hpa : (part e (rows k fun i => flat B t (a i)).toArray (j * t.sz)).run P x = .ok ((V.leaf t (a j)).val B) x := part_run (y := .leaf t (a j)) (eqB_ty he) (rows_get k (g := fun i => flat B t (a i)) (fun i _ => flat_len B t (a i)) j hj).symm (by rw [rows_len k (fun i _ => flat_len B t (a i))]; exact hle) x
            have hpb : (part e (rows k fun i => flat B t (b i)).toArray (j * t.sz)).run P x = .ok ((V.leaf t (b j)).val B) x := part_run (y := .leaf t (b j)) (eqB_ty he) (rows_get k (g := fun i => flat B t (b i)) (fun i _ => flat_len B t (b i)) j hj).symm (by rw [rows_len k (fun i _ => flat_len B t (b i))]; exact hle) x
            unfold Op.eqItems
            rw [Sem.run_bind, hpa, Result.andThen_ok, Sem.run_bind, hpb, Result.andThen_ok, Sem.run_bind, ih e t he d (by omega), Result.andThen_ok]
            cases hq : eqT t (a j) (b j) with
            | false => simp [hq]
            | true => simp only [Bool.not_true, Bool.false_eq_true, if_false, List.all_cons, hq, Bool.true_and]; exact ihl (fun j hj => hl j (by simp [hj]))
        rw [hall _ (fun j hj => by simpa using hj)]
        rfl
    · rename_i T _ _ fs hu
      rw [Bool.and_eq_true, Bool.not_eq_true'] at h
      obtain ⟨hst, h⟩ := h
      have hfs : P.fieldsOf id = fs := by simp [Program.fieldsOf, hu]
      have hstruct : ∀ xs ys : Array Value, (Op.equalIn (d + 1) id (.agg xs) (.agg ys)).run P x = (Op.eqFields d xs ys fs.toList).run P x := fun xs ys => by
        rw [run_equalIn_struct x d id xs ys (by rw [hfs]; exact hu) hst, hfs]
      have fld : ∀ (f : Field) (t : Ty) (a b : t.D) (La Lb : List Value) (o : Nat) (r : List Field), f.offset = o → fieldName f = true → eqB P n f.type t = true → flat B t a = (La.drop o).take t.sz → flat B t b = (Lb.drop o).take t.sz → o + t.sz ≤ La.length → o + t.sz ≤ Lb.length →
          (Op.eqFields d La.toArray Lb.toArray (f :: r)).run P x = (if eqT t a b = true then (Op.eqFields d La.toArray Lb.toArray r).run P x else .ok false x) := by
        intro f t a b La Lb o r ho hn he ha hb hla hlb
        have hne : f.name ≠ "_" := by simpa [fieldName] using hn
        subst ho
        conv => lhs; unfold Op.eqFields
        rw [if_pos hne, Sem.run_bind, part_run (y := .leaf t a) (B := B) (eqB_ty he) ha hla x, Result.andThen_ok, Sem.run_bind, part_run (y := .leaf t b) (B := B) (eqB_ty he) hb hlb x, Result.andThen_ok, Sem.run_bind, ih f.type t he d (by omega), Result.andThen_ok]
        cases hq : eqT t a b <;> simp
      have many : ∀ (l : List Field) (T : Ty) (o : Nat) (a b : T.D) (La Lb : List Value), fldsE (eqB P n) l T o = true → flat B T a = (La.drop o).take T.sz → flat B T b = (Lb.drop o).take T.sz → o + T.sz ≤ La.length → o + T.sz ≤ Lb.length →
          (Op.eqFields d La.toArray Lb.toArray l).run P x = .ok (eqT T a b) x := by
        intro l
        induction l with
        | nil => intro T o a b La Lb h; simp [fldsE] at h
        | cons f r ihr =>
          intro T o a b La Lb h ha hb hla hlb
          cases r with
          | nil =>
            simp only [fldsE, Bool.and_eq_true, beq_iff_eq] at h
            obtain ⟨⟨h1, h2⟩, h3⟩ := h
            rw [fld f T a b La Lb o [] h1 h2 h3 ha hb hla hlb]
            cases hq : eqT T a b <;> simp [Op.eqFields]
          | cons g r =>
            cases T with
            | pair s t =>
              simp only [fldsE, Bool.and_eq_true, beq_iff_eq] at h
              obtain ⟨⟨⟨h1, h2⟩, h3⟩, h4⟩ := h
              simp only [Ty.sz] at ha hb hla hlb
              have cut : ∀ (v : (Ty.pair s t).D) (L : List Value), flat B (.pair s t) v = (L.drop o).take (s.sz + t.sz) → o + (s.sz + t.sz) ≤ L.length → flat B s v.1 = (L.drop o).take s.sz ∧ flat B t v.2 = (L.drop (o + s.sz)).take t.sz := by
                intro v L hv hL
                have h1 : flat B s v.1 ++ flat B t v.2 = (L.drop o).take (s.sz + t.sz) := hv
                have l1 := flat_len B s v.1
                have e1 := congrArg (List.take s.sz) h1
                have e2 := congrArg (List.drop s.sz) h1
                rw [List.take_append_of_le_length (by omega), List.take_of_length_le (by omega), List.take_take, Nat.min_eq_left (by omega)] at e1
                rw [← l1, List.drop_left, l1, List.drop_take, List.drop_drop] at e2
                refine ⟨e1, ?_⟩
                rw [e2]
                congr 1
                omega
              obtain ⟨a1, a2⟩ := cut a La ha hla
              obtain ⟨b1, b2⟩ := cut b Lb hb hlb
              rw [fld f s a.1 b.1 La Lb o (g :: r) h1 h2 h3 a1 b1 (by omega) (by omega)]
              rw [ihr t (o + s.sz) a.2 b.2 La Lb h4 a2 b2 (by omega) (by omega)]
              simp only [eqT]
              cases eqT s a.1 b.1 <;> simp
            | _ => simp [fldsE] at h
      have hlenf : ∀ (v : T.D), flat B T v = ((flat B T v).drop 0).take T.sz := fun v => by
        rw [List.drop_zero, List.take_of_length_le (by rw [flat_len]; exact Nat.le_refl _)]
      have hagg : T.agg = true := by
        unfold tyB1 at hty
        split at hty
        · rename_i ha; exact ha
        · unfold scB at hty
          rw [hu] at hty
          simp at hty
      have fin : fldsE (eqB P n) fs.toList T 0 = true → (Op.equalIn (d + 1) id ((V.leaf T a).val B) ((V.leaf T b).val B)).run P x = .ok (eqT T a b) x := fun hm => by
        rw [V.val_agg (x := .leaf T a) hagg, V.val_agg (x := .leaf T b) hagg, hstruct]
        exact many _ T 0 a b _ _ hm (hlenf a) (hlenf b) (by rw [show V.cells B (.leaf T a) = flat B T a from rfl, flat_len]; omega) (by rw [show V.cells B (.leaf T b) = flat B T b from rfl, flat_len]; omega)
      split at h
      · rename_i t f hl
        rw [hl] at hstruct
        simp only [Bool.and_eq_true, beq_iff_eq] at h
        obtain ⟨⟨h1, h2⟩, h3⟩ := h
        have hl' : ∀ (v : t.D), flat B t v = ((flat B t v).drop 0).take t.sz := fun v => by
          rw [List.drop_zero, List.take_of_length_le (by rw [flat_len]; exact Nat.le_refl _)]
        show (Op.equalIn (d + 1) id (.agg (flat B t a).toArray) (.agg (flat B t b).toArray)).run P x = .ok (eqT t a b) x
        rw [hstruct, fld f t a b _ _ 0 [] h1 h2 h3 (hl' a) (hl' b) (by rw [flat_len]; omega) (by rw [flat_len]; omega)]
        cases hq : eqT t a b <;> simp [Op.eqFields]
      · cases h
      · exact fin h
    · cases h
end

end Go.Proofs.Ytjbbgpacijageab.M

/- What a slot holds; what an operation does, told of the blocks that it looks at alone. No program is named here. -/
namespace Go.Proofs.Ytjbbgpacijageab.M
open Go.RowKit
set_option linter.unusedVariables false
set_option linter.unusedSimpArgs false

structure Env where
  A : Nat → Nat
  B : Nat → Value
  F : Nat → Nat → Prop

/-- A value; a pointer at a block of the function's own; at an element of a list; a slice of an array of its own; a function with what it has captured; anything else. -/
inductive AV where
  | of (x : V)
  | ptr (i off : Nat) (p : List Step) (u : Ty)
  | elt (t : Ty) (h : Hd) (xs : List t.D) (k off : Nat) (p : List Step) (u : Ty)
  | slc (i off : Nat) (p : List Step) (n : Nat) (t : Ty) (lo len cap : Nat)
  | clo (g : Nat) (cs : List (Nat × Nat × List Step × Ty))
  | emp (h : Hd)
  | sub (t : Ty) (h : Hd) (xs : List t.D) (lo hi : Nat)
  | raw (v : Value)
inductive SV where
  | a (x : AV)
  | tup (l : List AV)

def AV.val (E : Env) : AV → Value
  | .of x => x.val E.B
  | .ptr i off _ _ => .pointer (some ⟨E.A i, off, none⟩)
  | .elt t h _ k off _ _ => match h.val E.B with
    | .slice (some a) _ _ => .pointer (some ⟨a.block, a.off + k * t.sz + off, none⟩)
    | _ => undef
  | .slc i off _ _ t lo len cap => .slice (some ⟨E.A i, if cap = 0 then off else off + lo * t.sz, none⟩) len cap
  | .clo g cs => .func (.func g) #[] (cs.map fun c => Value.pointer (some ⟨E.A c.1, c.2.1, none⟩)).toArray
  | .emp h => match h.val E.B with
    | .slice a _ _ => .slice a 0 0
    | _ => undef
  | .sub t h _ lo hi => match h.val E.B with
    | .slice ad _ cap => .slice (if cap = lo then ad else ad.map (·.add (lo * t.sz))) (hi - lo) (cap - lo)
    | _ => undef
  | .raw v => v
def SV.val (E : Env) : SV → Value
  | .a x => x.val E
  | .tup l => .tuple (l.map (AV.val E)).toArray

structure Cx where
  XA : Nat → Prop
  XB : Nat → Prop
  ty : Nat → Option Ty
  E : Env
  x : World

def V.okc (c : Cx) (v : V) : Prop := v.ok c.XB c.E.B c.E.F c.x
def wokc (c : Cx) (t : Ty) (v : t.D) : Prop := wok c.XB c.E.B c.E.F c.x t v
def AV.ok (c : Cx) : AV → Prop
  | .of y => y.okc c
  | .ptr i off p u => c.XA i ∧ ∃ t, c.ty i = some t ∧ At t p off u
  | .elt t h xs k off p u => wokc c (.lst t) (h, xs) ∧ k < xs.length ∧ At t p off u
  | .slc i off p n t lo len cap => c.XA i ∧ (∃ T, c.ty i = some T ∧ At T p off (.arr n t)) ∧ lo + cap ≤ n ∧ len ≤ cap ∧ n ≤ 4294967296
  | .clo g cs => ∀ q ∈ cs, c.XA q.1 ∧ ∃ t, c.ty q.1 = some t ∧ At t q.2.2.1 q.2.1 q.2.2.2
  | .emp h => h.ok c.XB ∧ ∃ a l k, h.val c.E.B = .slice a l k
  | .sub t h xs lo hi => wokc c (.lst t) (h, xs) ∧ lo ≤ hi ∧ hi ≤ xs.length
  | .raw v => True
def SV.ok (c : Cx) : SV → Prop
  | .a x => x.ok c
  | .tup l => ∀ y ∈ l, y.ok c

structure Cx.Le (c c' : Cx) : Prop where
  A : ∀ i, c.XA i → c'.XA i ∧ c'.E.A i = c.E.A i ∧ c'.ty i = c.ty i
  B : ∀ n, c.XB n → c'.XB n ∧ c'.E.B n = c.E.B n
  F : ∀ b e, c.E.F b e → c'.E.F b e
  K : Keep c.E.F c.x c'.x
  S : c.x.heap.size ≤ c'.x.heap.size

theorem Cx.Le.refl (c : Cx) : c.Le c := ⟨fun i h => ⟨h, rfl, rfl⟩, fun n h => ⟨h, rfl⟩, fun _ _ h => h, fun _ _ _ _ _ => rfl, Nat.le_refl _⟩
theorem Cx.Le.trans {a b c : Cx} (h : a.Le b) (k : b.Le c) : a.Le c :=
  ⟨fun i hi => ⟨(k.A i (h.A i hi).1).1, (k.A i (h.A i hi).1).2.1.trans (h.A i hi).2.1, (k.A i (h.A i hi).1).2.2.trans (h.A i hi).2.2⟩,
   fun n hn => ⟨(k.B n (h.B n hn).1).1, (k.B n (h.B n hn).1).2.trans (h.B n hn).2⟩,
   fun b e he => k.F b e (h.F b e he), fun b e he j hj => (k.K b e (h.F b e he) j hj).trans (h.K b e he j hj), Nat.le_trans h.S k.S⟩

/-- What there was when the function was entered. -/
structure Old where
  F : Nat → Nat → Prop
  B : Nat → Value
  n : Nat
  c : Cx
structure Cx.Wf (w0 : World) (F0 : Old) (c : Cx) : Prop where
  below : Below w0.heap.size w0 c.x
  lo : ∀ i, c.XA i → w0.heap.size ≤ c.E.A i
  hi : ∀ i, c.XA i → c.E.A i < c.x.heap.size
  inj : ∀ i j, c.XA i → c.XA j → c.E.A i = c.E.A j → i = j
  fhi : ∀ b e, c.E.F b e → b < c.x.heap.size
  own : ∀ i, c.XA i → ∀ e, ¬ c.E.F (c.E.A i) e
  old : ∀ b e, b < w0.heap.size → (c.E.F b e ↔ F0.F b e)
  oldB : ∀ n, n < F0.n → c.XB n ∧ c.E.B n = F0.B n
  le : F0.c.Le c

section
variable {c c' : Cx}
theorem V.okc_mono (h : c.Le c') {v : V} (hv : v.okc c) : v.okc c' := V.ok_mono (fun n hn => (h.B n hn).1) (fun n hn => (h.B n hn).2) h.F h.K h.S v hv
theorem wokc_mono (h : c.Le c') {t : Ty} {v : t.D} (hv : wokc c t v) : wokc c' t v := wok_mono (fun n hn => (h.B n hn).1) (fun n hn => (h.B n hn).2) h.F h.K h.S t v hv
theorem V.cellsc (h : c.Le c') {v : V} (hv : v.okc c) : v.cells c'.E.B = v.cells c.E.B := V.cells_congr (fun n hn => (h.B n hn).2) v hv
theorem V.valc (h : c.Le c') {v : V} (hv : v.okc c) : v.val c'.E.B = v.val c.E.B := V.val_congr (fun n hn => (h.B n hn).2) v hv
theorem AV.ok_mono (h : c.Le c') {s : AV} (hs : s.ok c) : s.ok c' := by
  cases s with
  | of y => exact V.okc_mono h hs
  | ptr i off p u =>
    obtain ⟨h1, t, h2, h3⟩ := hs
    exact ⟨(h.A i h1).1, t, by rw [(h.A i h1).2.2]; exact h2, h3⟩
  | elt t hd xs k off p u => exact ⟨wokc_mono h hs.1, hs.2⟩
  | slc i off p n t lo len cap =>
    obtain ⟨h1, ⟨T, h2, h3⟩, h4⟩ := hs
    exact ⟨(h.A i h1).1, ⟨T, by rw [(h.A i h1).2.2]; exact h2, h3⟩, h4⟩
  | clo g cs =>
    intro q hq
    obtain ⟨h1, t, h2, h3⟩ := hs q hq
    exact ⟨(h.A q.1 h1).1, t, by rw [(h.A q.1 h1).2.2]; exact h2, h3⟩
  | emp hd =>
    obtain ⟨h1, h2⟩ := hs
    refine ⟨?_, by rw [hdVal_congr (fun n hn => (h.B n hn).2) h1]; exact h2⟩
    cases hd with
    | conc u => trivial
    | nm k => exact (h.B k h1).1
  | sub t hd xs lo hi => exact ⟨wokc_mono h hs.1, hs.2⟩
  | raw v => trivial
theorem AV.val_mono (h : c.Le c') {s : AV} (hs : s.ok c) : s.val c'.E = s.val c.E := by
  cases s with
  | of y => exact V.valc h hs
  | ptr i off p u => simp only [AV.val, (h.A i hs.1).2.1]
  | elt t hd xs k off p u => simp only [AV.val]; rw [hdVal_congr (fun n hn => (h.B n hn).2) hs.1.1]
  | slc i off p n t lo len cap => simp only [AV.val, (h.A i hs.1).2.1]
  | clo g cs =>
    simp only [AV.val]
    congr 2
    apply List.map_congr_left
    intro q hq
    rw [(h.A q.1 (hs q hq).1).2.1]
  | emp hd => simp only [AV.val]; rw [hdVal_congr (fun n hn => (h.B n hn).2) hs.1]
  | sub t hd xs lo hi => simp only [AV.val]; rw [hdVal_congr (fun n hn => (h.B n hn).2) hs.1.1]
  | raw v => rfl
theorem SV.ok_mono (h : c.Le c') {s : SV} (hs : s.ok c) : s.ok c' := by
  cases s with
  | a x => exact AV.ok_mono h hs
  | tup l => exact fun y hy => AV.ok_mono h (hs y hy)
theorem SV.val_mono (h : c.Le c') {s : SV} (hs : s.ok c) : s.val c'.E = s.val c.E := by
  cases s with
  | a x => exact AV.val_mono h hs
  | tup l =>
    simp only [SV.val]
    congr 2
    apply List.map_congr_left
    intro y hy
    exact AV.val_mono h (hs y hy)
end

abbrev Fr := List (Nat × SV)
def look : Fr → Nat → Option SV
  | [], _ => none
  | (t', s) :: r, t => match Nat.beq t t' with | true => some s | false => look r t
def constA : Value → AV
  | .int .i64 z => .of (.leaf .int z)
  | .bool b => .of (.leaf .bool b)
  | v => .raw v
theorem constA_val (E : Env) (v : Value) : (constA v).val E = v := by
  unfold constA
  split <;> rfl
theorem constA_ok (c : Cx) (v : Value) : (constA v).ok c := by
  unfold constA
  split <;> exact trivial
def evS (f : Fr) : Operand → Option SV
  | .tmp t => look f t
  | .const v => some (.a (constA v))
  | .func g => some (.a (.clo g []))
  | .global _ => none

/-- What an operation does to the blocks: nothing; one holds something else; there is a new one. -/
inductive Ef where
  | none
  | set (i : Nat) (y : V)
  | new (y : V)
structure Out where
  r : SV
  ef : Ef
  m : Nat
  rd : List Nat
  q : Bool
  cr : Bool
def Out.touch (out : Out) (i : Nat) : Prop := i ∈ out.rd ∨ ∃ y, out.ef = .set i y

/-- The context behind it. -/
def Cx.ext (c : Cx) (out : Out) (bl nn : Nat) (E : Env) (x : World) : Cx where
  XA := fun i => c.XA i ∨ (i = bl ∧ ∃ y, out.ef = .new y)
  XB := fun n => c.XB n ∨ (nn ≤ n ∧ n < nn + out.m)
  ty := fun i => match out.ef with | .new y => if i = bl then some y.ty else c.ty i | _ => c.ty i
  E := E
  x := x

/-- All blocks but that one are as they were. -/
structure Same (x x' : World) (but : Nat → Prop) : Prop where
  os : x'.os = x.os
  tape : x'.tape = x.tape
  output : x'.output = x.output
  size : x.heap.size ≤ x'.heap.size
  block : ∀ k, k < x.heap.size → ¬ but k → x'.heap[k]? = x.heap[k]?
def Out.but (out : Out) (c : Cx) (k : Nat) : Prop := ∃ i y, out.ef = .set i y ∧ k = c.E.A i

structure Post (w0 : World) (F0 : Old) (c : Cx) (out : Out) (bl nn : Nat) (v : Value) (x' : World) (E : Env) : Prop where
  val : v = out.r.val E
  ok : out.r.ok (c.ext out bl nn E x')
  A : ∀ i, c.XA i → E.A i = c.E.A i
  B : ∀ n, c.XB n → E.B n = c.E.B n
  F : ∀ b e, c.E.F b e → E.F b e
  FB : ∀ b e, b < c.x.heap.size → E.F b e → c.E.F b e
  fhi : ∀ b e, E.F b e → b < x'.heap.size
  same : Same c.x x' (out.but c)
  new : ∀ y, out.ef = .new y → c.x.heap.size ≤ E.A bl ∧ E.A bl < x'.heap.size ∧ (∀ e, ¬ E.F (E.A bl) e) ∧ (∃ e, HB x' (E.A bl) (y.cells E.B).toArray e) ∧ y.okc (c.ext out bl nn E x')
  set : ∀ i y, out.ef = .set i y → c.XA i ∧ c.ty i = some y.ty ∧ (∃ e, HB x' (E.A i) (y.cells E.B).toArray e) ∧ y.okc (c.ext out bl nn E x')

def upon4 (P : Program) (R : Value → World → Prop) : Result Next → Prop
  | .ok (.value u) x => R u x
  | .ok .skip x => R undef x
  | .ok (.enter g args) x => Calls P g args x fun e x' => ∃ u, e = .returned u ∧ R u x'
  | _ => False

def Does (P : Program) (w0 : World) (F0 : Old) (o : Oper) (f : Fr) (get : Nat → Option V) (bl nn : Nat) (out : Out) : Prop :=
  (out.cr = false → out.m = 0) ∧ ∀ (c : Cx) (ρ : Operand → Value), c.Wf w0 F0 → (∀ y ∈ o.op.operands, ∀ s, evS f y = some s → ρ y = s.val c.E ∧ s.ok c) →
    (∀ i, out.touch i → ∀ v, get i = some v → c.XA i ∧ c.ty i = some v.ty ∧ (∃ e, HB c.x (c.E.A i) (v.cells c.E.B).toArray e) ∧ v.okc c) →
    ((∃ y, out.ef = .new y) → ¬ c.XA bl) → (out.q = true → ∀ n, c.XB n ↔ n < nn) →
    upon4 P (fun v x' => ∃ E, Post w0 F0 c out bl nn v x' E) ((execOp ρ o).run P c.x)

section
variable {w0 : World} {F0 : Old} {c : Cx} {out : Out} {bl nn : Nat} {v : Value} {x' : World} {E : Env}
theorem Post.le (hw : c.Wf w0 F0) (hnew : (∃ y, out.ef = .new y) → ¬ c.XA bl) (h : Post w0 F0 c out bl nn v x' E) : c.Le (c.ext out bl nn E x') := by
  refine ⟨fun i hi => ⟨Or.inl hi, h.A i hi, ?_⟩, fun n hn => ⟨Or.inl hn, h.B n hn⟩, h.F, fun b e he j hj => ?_, h.same.size⟩
  · show (match out.ef with | .new y => if i = bl then some y.ty else c.ty i | _ => c.ty i) = c.ty i
    split
    · rename_i y hy
      rw [if_neg]
      intro hb
      subst hb
      exact hnew ⟨y, hy⟩ hi
    · rfl
  · show x'.cell? _ = c.x.cell? _
    refine World.cell?_of_block (h.same.block b (hw.fhi b e he) ?_)
    rintro ⟨i, y, hy, hbi⟩
    subst hbi
    exact hw.own i (h.set i y hy).1 e he
theorem Same.below {x x' : World} {but : Nat → Prop} (h : Same x x' but) {n : Nat} (hn : n ≤ x.heap.size) (hb : ∀ k, k < n → ¬ but k) : Below n x x' :=
  ⟨h.os, h.tape, h.output, h.size, fun k hk => h.block k (by omega) (hb k hk)⟩
theorem Post.wf (hw : c.Wf w0 F0) (hnew : (∃ y, out.ef = .new y) → ¬ c.XA bl) (h : Post w0 F0 c out bl nn v x' E) : (c.ext out bl nn E x').Wf w0 F0 := by
  have hnb : ∀ k, out.but c k → ∃ i, c.XA i ∧ k = c.E.A i := fun k ⟨i, y, hy, hk⟩ => ⟨i, (h.set i y hy).1, hk⟩
  have hbel : Below w0.heap.size w0 x' := by
    refine hw.below.trans (h.same.below hw.below.size fun k hk hb => ?_)
    obtain ⟨i, hi, rfl⟩ := hnb k hb
    have := hw.lo i hi
    omega
  have hcase : ∀ i, (c.ext out bl nn E x').XA i → (c.XA i ∧ E.A i = c.E.A i) ∨ (i = bl ∧ ¬ c.XA bl ∧ ∃ y, out.ef = .new y) := fun i hi => by
    rcases hi with hi | ⟨hi, y, hy⟩
    · exact Or.inl ⟨hi, h.A i hi⟩
    · exact Or.inr ⟨hi, hnew ⟨y, hy⟩, y, hy⟩
  have hsz := hw.below.size
  refine ⟨hbel, fun i hi => ?_, fun i hi => ?_, fun i j hi hj hij => ?_, h.fhi, fun i hi e he => ?_, fun b e hb => ?_, fun n hn => ⟨Or.inl (hw.oldB n hn).1, (h.B n (hw.oldB n hn).1).trans (hw.oldB n hn).2⟩, hw.le.trans (h.le hw hnew)⟩
  · show w0.heap.size ≤ E.A i
    rcases hcase i hi with ⟨h1, h2⟩ | ⟨rfl, _, y, hy⟩
    · rw [h2]; exact hw.lo i h1
    · have := (h.new y hy).1; omega
  · show E.A i < x'.heap.size
    rcases hcase i hi with ⟨h1, h2⟩ | ⟨rfl, _, y, hy⟩
    · rw [h2]; exact Nat.lt_of_lt_of_le (hw.hi i h1) h.same.size
    · exact (h.new y hy).2.1
  · have hij' : E.A i = E.A j := hij
    rcases hcase i hi with ⟨h1, h2⟩ | ⟨rfl, _, y, hy⟩ <;> rcases hcase j hj with ⟨h3, h4⟩ | ⟨rfl, _, z, hz⟩
    · exact hw.inj i j h1 h3 (by rw [← h2, ← h4]; exact hij')
    · have := (h.new z hz).1
      have h5 := hw.hi i h1
      rw [h2] at hij'
      omega
    · have := (h.new y hy).1
      have h5 := hw.hi j h3
      rw [h4] at hij'
      omega
    · rfl
  · have he' : E.F (E.A i) e := he
    rcases hcase i hi with ⟨h1, h2⟩ | ⟨rfl, _, y, hy⟩
    · rw [h2] at he'
      exact hw.own i h1 e (h.FB _ _ (hw.hi i h1) he')
    · exact (h.new y hy).2.2.1 e he'
  · exact ⟨fun he => (hw.old b e hb).1 (h.FB b e (by omega) he), fun he => h.F b e ((hw.old b e hb).2 he)⟩
/-- Maps by their names, with what is in them, in one value. -/
def encM (ms : List (Nat × List (Value × Value))) : Value := .tuple (ms.map fun p => Value.tuple #[.int .i64 (p.1 : Int), .tuple (p.2.map fun q => Value.tuple #[q.1, q.2]).toArray]).toArray
theorem encM_inj {a b : List (Nat × List (Value × Value))} (h : encM a = encM b) : a = b := by
  have h1 := List.toArray_inj (Value.tuple.inj h)
  refine (List.map_inj_right (fun x y hxy => ?_)).1 h1
  have h2 := Value.tuple.inj hxy
  have h3 := congrArg Array.toList h2
  injection h3 with h4 h5
  injection h5 with h6 h7
  have h8 := (Value.int.inj h4).2
  have h9 := List.toArray_inj (Value.tuple.inj h6)
  have h10 : x.2 = y.2 := (List.map_inj_right (fun u v huv => by
    have g := congrArg Array.toList (Value.tuple.inj huv)
    injection g with g1 g2
    injection g2 with g3 g4
    exact Prod.ext g1 g3)).1 h9
  exact Prod.ext (Int.ofNat.inj h8) h10
/-- They are there. -/
structure MapsOk (w0 : World) (c : Cx) (s : Nat) (ms : List (Nat × List (Value × Value))) : Prop where
  s : s = 1
  ok : ∀ p ∈ ms, c.XB p.1 ∧ ∃ r es clock, c.E.B p.1 = .map (some r) ∧ w0.heap.size ≤ r ∧ (∀ i, c.XA i → c.E.A i ≠ r) ∧ c.x.heap[r]? = some (.map es clock) ∧ es.toList.map (fun e => (e.key, e.val)) = p.2
  ne : ms.Pairwise fun p q => c.E.B p.1 ≠ c.E.B q.1
theorem MapsOk.mono {w0 : World} {c c' : Cx} {s : Nat} {ms : List (Nat × List (Value × Value))} (h : MapsOk w0 c s ms) (hX : ∀ n, c.XB n → c'.XB n) (hB : ∀ n, c.XB n → c'.E.B n = c.E.B n)
    (hA : ∀ r, r < c.x.heap.size → (∀ i, c.XA i → c.E.A i ≠ r) → ∀ i, c'.XA i → c'.E.A i ≠ r) (hh : ∀ r es k, w0.heap.size ≤ r → (∀ i, c.XA i → c.E.A i ≠ r) → c.x.heap[r]? = some (.map es k) → c'.x.heap[r]? = some (.map es k)) : MapsOk w0 c' s ms := by
  refine ⟨h.s, fun p hp => ?_, ?_⟩
  · obtain ⟨g0, r, es, k, g1, g2, g3, g4, g5⟩ := h.ok p hp
    have hlt : r < c.x.heap.size := (Array.getElem?_eq_some_iff.1 g4).1
    exact ⟨hX _ g0, r, es, k, (hB _ g0).trans g1, g2, hA r hlt g3, hh r es k g2 g3 g4, g5⟩
  · refine List.Pairwise.imp_of_mem (fun {p q} hp hq hpq => ?_) h.ne
    rw [hB _ (h.ok p hp).1, hB _ (h.ok q hq).1]
    exact hpq
/-- A list whose spare room is the function's own: nothing beyond its end lies still. -/
def OwnOk (w0 : World) (c : Cx) (h : Hd) (s : Nat) : Prop := (∃ ad, h.val c.E.B = .slice ad 0 0) ∨ (∃ b o len cap C e, h.val c.E.B = .slice (some ⟨b, o, none⟩) len cap ∧ w0.heap.size ≤ b ∧ (∀ i, c.XA i → c.E.A i ≠ b) ∧ HB c.x b C e ∧ len ≤ cap ∧ cap ≤ maxLen ∧ o + cap * s ≤ C.size ∧ ∀ e', c.E.F b e' → e' ≤ o + len * s) ∨ ∃ ms, h = .conc (encM ms) ∧ MapsOk w0 c s ms
/-- A list that is there. -/
def OldOk (c : Cx) (h : Hd) : Prop := ∃ ad len cap, h.val c.E.B = .slice ad len cap ∧ (len = 0 ∨ ∃ b o, ad = some ⟨b, o, none⟩ ∧ b < c.x.heap.size)
/-- Tokens: of a list of one's own (with the size of an element), of any list (0). -/
def TokOk (w0 : World) (c : Cx) (h : Hd) (s : Nat) : Prop := h.ok c.XB ∧ (0 < s → OwnOk w0 c h s) ∧ (s = 0 → OldOk c h)
/-- A list of one's own is in another block than those whose tokens come behind it. -/
def Apart (B : Nat → Value) (p q : Hd × Nat) : Prop := 0 < p.2 → ∀ b o l k o' l' k', p.1.val B = .slice (some ⟨b, o, none⟩) l k → q.1.val B = .slice (some ⟨b, o', none⟩) l' k' → 0 < k → (0 < q.2 → 0 < k' → False) ∧ (q.2 = 0 → l' = 0)
structure Toks (w0 : World) (c : Cx) (tk : List (Hd × Nat)) : Prop where
  ok : ∀ p ∈ tk, TokOk w0 c p.1 p.2
  ne : tk.Pairwise (Apart c.E.B)
theorem OldOk.val {c c' : Cx} {h : Hd} (g : OldOk c h) (hv : h.val c'.E.B = h.val c.E.B) (hs : c.x.heap.size ≤ c'.x.heap.size) : OldOk c' h := by
  obtain ⟨ad, len, cap, g1, g2⟩ := g
  refine ⟨ad, len, cap, hv.trans g1, ?_⟩
  rcases g2 with g2 | ⟨b, o, g2, g3⟩
  · exact Or.inl g2
  · exact Or.inr ⟨b, o, g2, Nat.lt_of_lt_of_le g3 hs⟩
theorem Toks.step {tk : List (Hd × Nat)} (ht : Toks w0 c tk) (hw : c.Wf w0 F0) (hnew : (∃ y, out.ef = .new y) → ¬ c.XA bl) (h : Post w0 F0 c out bl nn v x' E) : Toks w0 (c.ext out bl nn E x') tk := by
  have hnb : ∀ k, out.but c k → ∃ i, c.XA i ∧ k = c.E.A i := fun k ⟨i, y, hy, hk⟩ => ⟨i, (h.set i y hy).1, hk⟩
  have hv : ∀ p ∈ tk, p.1.val E.B = p.1.val c.E.B := fun p hp => hdVal_congr (fun n hn => h.B n hn) (ht.ok p hp).1
  refine ⟨fun p hp => ?_, ?_⟩
  · obtain ⟨g0, g, g'⟩ := ht.ok p hp
    refine ⟨?_, fun hs => ?_, fun hs => (g' hs).val (hv p hp) h.same.size⟩
    · cases hh : p.1 with
      | conc u => trivial
      | nm k => rw [hh] at g0; exact Or.inl g0
    rcases g hs with ⟨ad, g⟩ | ⟨b, o, len, cap, C, e, g1, g2, g3, g4, g5, g5', g6, g7⟩ | ⟨ms, gm, gk⟩
    · exact Or.inl ⟨ad, (hv p hp).trans g⟩
    rotate_left
    · refine Or.inr (Or.inr ⟨ms, gm, gk.mono (fun n hn => Or.inl hn) (fun n hn => h.B n hn) (fun r hr g3 i hi => ?_) (fun r es k hr g3 g4 => ?_)⟩)
      · show E.A i ≠ r
        rcases hi with hi | ⟨rfl, y, hy⟩
        · rw [h.A i hi]; exact g3 i hi
        · have := (h.new y hy).1
          omega
      · show x'.heap[r]? = _
        rw [h.same.block r (Array.getElem?_eq_some_iff.1 g4).1 (fun hb => by
          obtain ⟨i, hi, rfl⟩ := hnb r hb
          exact g3 i hi rfl)]
        exact g4
    refine Or.inr (Or.inl ⟨b, o, len, cap, C, e, (hv p hp).trans g1, g2, fun i hi => ?_, ?_, g5, g5', g6, fun e' he' => g7 e' (h.FB b e' g4.lt he')⟩)
    · show E.A i ≠ b
      rcases hi with hi | ⟨rfl, y, hy⟩
      · rw [h.A i hi]; exact g3 i hi
      · have := (h.new y hy).1
        have := g4.lt
        omega
    · show x'.heap[b]? = _
      rw [h.same.block b g4.lt (fun hb => by
        obtain ⟨i, hi, rfl⟩ := hnb b hb
        exact g3 i hi rfl)]
      exact g4
  · refine List.Pairwise.imp_of_mem (fun {p q} hp hq hpq => ?_) ht.ne
    intro z1 b o l k o' l' k' h1 h2 h3
    exact hpq z1 b o l k o' l' k' ((hv p hp).symm.trans h1) ((hv q hq).symm.trans h2) h3
theorem Toks.nil (w0 : World) (c : Cx) : Toks w0 c [] := ⟨fun p hp => (by cases hp), .nil⟩
theorem TokOk.nil (w0 : World) (c : Cx) (s : Nat) : TokOk w0 c nilH s := ⟨trivial, fun _ => Or.inl ⟨none, rfl⟩, fun _ => ⟨none, 0, 0, rfl, Or.inl rfl⟩⟩
/-- One more: for nil. -/
theorem Toks.consNil {w0 : World} {c : Cx} {tk : List (Hd × Nat)} (t : Toks w0 c tk) (s : Nat) : Toks w0 c ((nilH, s) :: tk) :=
  ⟨fun q hq => by
    rcases List.mem_cons.1 hq with rfl | hq
    · exact TokOk.nil _ _ _
    · exact t.ok q hq, List.pairwise_cons.2 ⟨fun q _ => (by intro _ b o l k o' l' k' h1; cases h1), t.ne⟩⟩
/-- One more: for a list that is there. -/
theorem Toks.consOld {w0 : World} {c : Cx} {tk : List (Hd × Nat)} (t : Toks w0 c tk) {h : Hd} (h0 : h.ok c.XB) (h1 : OldOk c h) : Toks w0 c ((h, 0) :: tk) :=
  ⟨fun q hq => by
    rcases List.mem_cons.1 hq with rfl | hq
    · exact ⟨h0, fun h => absurd h (Nat.lt_irrefl _), fun _ => h1⟩
    · exact t.ok q hq, List.pairwise_cons.2 ⟨fun q _ h => absurd h (Nat.lt_irrefl _), t.ne⟩⟩
theorem Toks.nils (w0 : World) (c : Cx) : ∀ ss : List Nat, Toks w0 c (ss.map fun s => (nilH, s))
  | [] => Toks.nil w0 c
  | s :: ss => (Toks.nils w0 c ss).consNil s
/-- Fewer blocks of one's own. -/
theorem Toks.cut {tk : List (Hd × Nat)} (ht : Toks w0 c tk) {XA : Nat → Prop} (hX : ∀ i, XA i → c.XA i) : Toks w0 { c with XA := XA } tk := by
  refine ⟨fun p hp => ?_, ht.ne⟩
  obtain ⟨g0, g, g'⟩ := ht.ok p hp
  refine ⟨g0, fun hs => ?_, g'⟩
  rcases g hs with g | ⟨b, o, len, cap, C, e, g1, g2, g3, g4⟩ | ⟨ms, gm, gk⟩
  · exact Or.inl g
  · exact Or.inr (Or.inl ⟨b, o, len, cap, C, e, g1, g2, fun i hi => g3 i (hX i hi), g4⟩)
  · exact Or.inr (Or.inr ⟨ms, gm, gk.mono (fun _ h => h) (fun _ _ => rfl) (fun r _ g3 i hi => g3 i (hX i hi)) (fun _ _ _ _ _ h => h)⟩)
/-- A draw. -/
theorem Toks.drew {tk : List (Hd × Nat)} (ht : Toks w0 c tk) : Toks w0 { c with x := { c.x with drawn := c.x.drawn + 1 } } tk := by
  refine ⟨fun p hp => ?_, ht.ne⟩
  obtain ⟨g0, g, g'⟩ := ht.ok p hp
  refine ⟨g0, fun hs => ?_, g'⟩
  rcases g hs with g | g | ⟨ms, gm, gk⟩
  · exact Or.inl g
  · exact Or.inr (Or.inl g)
  · exact Or.inr (Or.inr ⟨ms, gm, gk.mono (fun _ h => h) (fun _ _ => rfl) (fun _ _ g3 => g3) (fun _ _ _ _ _ h => h)⟩)
end

/-- Names: how many, and the lists whose spare room is the function's own. -/
structure NS where
  n : Nat
  tk : List (Hd × Nat)

end Go.Proofs.Ytjbbgpacijageab.M

/- Operations without calls. No program is named here. -/
namespace Go.Proofs.Ytjbbgpacijageab.M
open Go.RowKit
set_option linter.unusedVariables false
set_option linter.unusedSimpArgs false

/-- Something is to be shown, and then the rest. -/
structure Need (p q : Prop) : Prop where
  l : p
  r : q
/-- Two ways. -/
structure Way (b : Bool) (p q : Prop) : Prop where
  t : b = true → p
  f : b = false → q
theorem Way.yes {p q : Prop} (h : p) : Way true p q := Way.mk (fun _ => h) (fun h => Bool.noConfusion h)
theorem Way.no {p q : Prop} (h : q) : Way false p q := Way.mk (fun h => Bool.noConfusion h) (fun _ => h)

theorem Way.dec {p : Prop} [i : Decidable p] {x y : Prop} (h : p → x) (k : ¬ p → y) : Way (decide p) x y := Way.mk (fun e => h (of_decide_eq_true e)) (fun e => k (of_decide_eq_false e))
theorem Way.ndec {p : Prop} [i : Decidable p] {x y : Prop} (h : ¬ p → x) (k : p → y) : Way (!decide p) x y := Way.mk (fun e => h (by simpa using e)) (fun e => k (by simpa using e))
def nthB : List V → Nat → Option V
  | [], _ => none
  | b :: r, n => match Nat.beq n 0 with | true => some b | false => nthB r (n - 1)
theorem nthB_eq : ∀ (l : List V) (i : Nat), nthB l i = l[i]?
  | [], i => rfl
  | b :: r, i => by
    unfold nthB
    split
    · rename_i h
      have := Nat.eq_of_beq_eq_true h
      subst this; rfl
    · rename_i h
      rw [nthB_eq r]
      cases i with
      | zero => simp at h
      | succ i => simp

/-- Steps to field k of n. -/
def fldM : Nat → Nat → List Step
  | 0, _ => []
  | 1, _ => []
  | _ + 2, 0 => [.fst]
  | n + 2, k + 1 => .snd :: fldM (n + 1) k
def fldP (n k : Nat) : List Step := match Nat.beq n 1 with | true => [.inn] | false => fldM n k
def offT : Ty → List Step → Option (Nat × Ty)
  | t, [] => some (0, t)
  | .one t, .inn :: p => offT t p
  | .pair a _, .fst :: p => offT a p
  | .pair a b, .snd :: p => match offT b p with | some (d, u) => some (a.sz + d, u) | none => none
  | _, _ => none
theorem offT_at : ∀ (p : List Step) (t : Ty) (d : Nat) (u : Ty), offT t p = some (d, u) → At t p d u
  | [], t, d, u, h => by
    have : some (0, t) = some (d, u) := by unfold offT at h; exact h
    cases this
    unfold At
    exact ⟨rfl, rfl⟩
  | s :: p, t, d, u, h => by
    unfold offT at h
    split at h
    · rename_i h0; cases h0
    · rename_i t' p' h0; cases h0; exact offT_at p t' d u h
    · rename_i a b p' h0; cases h0; exact offT_at p a d u h
    · rename_i a b p' h0
      cases h0
      split at h
      · rename_i d' u' hq
        cases h
        exact ⟨d', offT_at p b d' u hq, rfl⟩
      · cases h
    · cases h
theorem At.append : ∀ (p : List Step) (t : Ty) (o : Nat) (u : Ty) (q : List Step) (o' : Nat) (w : Ty), At t p o u → At u q o' w → At t (p ++ q) (o + o') w
  | [], t, o, u, q, o', w, h, h' => by
    have : o = 0 ∧ u = t := by unfold At at h; exact h
    obtain ⟨rfl, rfl⟩ := this
    rw [Nat.zero_add]; exact h'
  | s :: p, t, o, u, q, o', w, h, h' => by
    cases s with
    | inn => cases t with
      | one t' => exact At.append p t' o u q o' w h h'
      | _ => exact False.elim h
    | fst => cases t with
      | pair a b => exact At.append p a o u q o' w h h'
      | _ => exact False.elim h
    | snd => cases t with
      | pair a b =>
        obtain ⟨k, hk, rfl⟩ := h
        exact ⟨k + o', At.append p b k u q o' w hk h', by omega⟩
      | _ => exact False.elim h
    | idx i => cases t with
      | arr n t' =>
        obtain ⟨hi, k, hk, rfl⟩ := h
        exact ⟨hi, k + o', At.append p t' k u q o' w hk h', by omega⟩
      | _ => exact False.elim h
theorem At.uniq : ∀ (p : List Step) (t : Ty) (o o' : Nat) (u u' : Ty), At t p o u → At t p o' u' → o = o' ∧ u = u'
  | [], t, o, o', u, u', h, h' => by
    have h1 : o = 0 ∧ u = t := by unfold At at h; exact h
    have h2 : o' = 0 ∧ u' = t := by unfold At at h'; exact h'
    exact ⟨by omega, by rw [h1.2, h2.2]⟩
  | s :: p, t, o, o', u, u', h, h' => by
    cases s with
    | inn => cases t with
      | one t' => exact At.uniq p t' o o' u u' h h'
      | _ => exact False.elim h
    | fst => cases t with
      | pair a b => exact At.uniq p a o o' u u' h h'
      | _ => exact False.elim h
    | snd => cases t with
      | pair a b =>
        obtain ⟨k, hk, rfl⟩ := h
        obtain ⟨k', hk', rfl⟩ := h'
        obtain ⟨h1, h2⟩ := At.uniq p b k k' u u' hk hk'
        exact ⟨by omega, h2⟩
      | _ => exact False.elim h
    | idx i => cases t with
      | arr n t' =>
        obtain ⟨hi, k, hk, rfl⟩ := h
        obtain ⟨hi', k', hk', rfl⟩ := h'
        obtain ⟨h1, h2⟩ := At.uniq p t' k k' u u' hk hk'
        exact ⟨by omega, h2⟩
      | _ => exact False.elim h
/-- A path and more of it, laid out. -/
def appP : List Step → List Step → (List Step → Prop) → Prop
  | [], q, k => k q
  | s :: p, q, k => appP p q fun r => k (s :: r)
theorem appP_elim : ∀ (p q : List Step) (k : List Step → Prop), appP p q k → k (p ++ q)
  | [], q, k, h => h
  | s :: p, q, k, h => appP_elim p q _ h

/-- What is known of the types: their shapes, how many fields they have. -/
abbrev Tys := List (TypeId × Ty × Nat)
def tyL : Tys → TypeId → Option (Ty × Nat)
  | [], _ => none
  | (t', k) :: r, t => match Nat.beq t t' with | true => some k | false => tyL r t
theorem tyL_mem : ∀ (l : Tys) (t : TypeId) (k : Ty × Nat), tyL l t = some k → (t, k) ∈ l
  | [], _, _, h => by cases h
  | (t', k') :: r, t, k, h => by
    unfold tyL at h
    split at h
    · rename_i hb
      have := Nat.eq_of_beq_eq_true hb
      subst this; cases h; simp
    · exact List.mem_cons_of_mem _ (tyL_mem r t k h)

/-- One value of a cell against another: numbers, truth values, the list that is not there. -/
def valB : Value → Value → Bool
  | .int .i64 a, .int .i64 b => a == b
  | .bool a, .bool b => a == b
  | .slice none 0 0, .slice none 0 0 => true
  | .map none, .map none => true
  | _, _ => false
theorem valB_eq {a b : Value} (h : valB a b = true) : a = b := by
  unfold valB at h
  split at h <;> simp_all
def valsB : List Value → List Value → Bool
  | [], [] => true
  | a :: r, b :: s => valB a b && valsB r s
  | _, _ => false
theorem valsB_eq : ∀ {a b : List Value}, valsB a b = true → a = b
  | [], [], _ => rfl
  | a :: r, b :: s, h => by
    simp only [valsB, Bool.and_eq_true] at h
    rw [valB_eq h.1, valsB_eq h.2]
  | [], _ :: _, h => by cases h
  | _ :: _, [], h => by cases h

def zeroB (P : Program) (id : TypeId) (T : Ty) : Bool :=
  match (P.info? id).bind (·.zero) with
  | some v => valsB v.cells.toList (flat (fun _ => undef) T T.zero)
  | none => false
def fldB (P : Program) (id : TypeId) (k d : Nat) (u : Ty) : Bool :=
  match P.underlying id with
  | some (.struct fields) => match fields[k]? with
    | some f => f.offset == d && tyB1 P f.type u
    | none => false
  | _ => false
def arrB (P : Program) (id : TypeId) (n : Nat) (t : Ty) : Bool :=
  match P.underlying id with
  | some (.array l e) => l == n && (P.info? e).map (·.size) == some t.sz && tyB1 P e t
  | _ => false
def lstB (P : Program) (id : TypeId) (t : Ty) : Bool :=
  match P.underlying id with
  | some (.slice e) => (P.info? e).map (·.size) == some t.sz && tyB1 P e t && zeroB P e t && Nat.ble 1 t.sz && (match P.info? e with | some i => Nat.ble i.bytes t.byt | none => false)
  | _ => false
def numB (P : Program) (id : TypeId) : Bool := match P.underlying id with | some (.int .i64) => true | _ => false
def truB (P : Program) (id : TypeId) : Bool := match P.underlying id with | some .bool => true | _ => false
def aggB (P : Program) (id : TypeId) : Bool := match (P.info? id).bind (·.zero) with | some (.agg _) => true | _ => false
def intB (P : Program) (id : TypeId) : Bool := match P.underlying id with | some (.int _) => true | _ => false
def keyB (P : Program) (kt : TypeId) : Bool := match P.underlying kt with
  | some (.struct fs) => (match fs.toList with | [f0, f1] => (intB P f0.type && (tyB1 P f0.type .int && f0.offset == 0)) && (intB P f1.type && (tyB1 P f1.type .int && f1.offset == 1)) | _ => false)
  | _ => false
def refB (P : Program) (id : TypeId) : Bool := match P.underlying id with | some (.map kt et) => keyB P kt && (eqB P 12 kt (.pair .int .int) && (zeroB P et (.arr 2 .int) && aggB P et)) | _ => false
def cntB (P : Program) (id : TypeId) (n : Nat) : Bool := match P.underlying id with | some (.struct fs) => fs.size == n | _ => n == 0
def tyB (P : Program) (id : TypeId) (T : Ty) (n : Nat) : Bool :=
  (tyB1 P id T && cntB P id n) && zeroB P id T &&
  (match T with | .int => numB P id | .bool => truB P id | .ref => refB P id | .arr m t => arrB P id m t | .lst t => lstB P id t | _ => Nat.ble 1 n) &&
  (List.range n).all fun k => match offT T (fldP n k) with | some (d, u) => foB P id k d && fldB P id k d u | none => false
def TysOk (P : Program) (T : Tys) : Prop := (T.all fun e => tyB P e.1 e.2.1 e.2.2) = true
section
variable {P : Program} {T : Tys}
theorem TysOk.at (h : TysOk P T) {id : TypeId} {t : Ty} {n : Nat} (ht : tyL T id = some (t, n)) : tyB P id t n = true := List.all_eq_true.1 h _ (tyL_mem _ _ _ ht)
theorem tyB_1 {id : TypeId} {t : Ty} {n : Nat} (h : tyB P id t n = true) : tyB1 P id t = true := by
  simp only [tyB, Bool.and_eq_true] at h; exact h.1.1.1.1
theorem tyB_cnt {id : TypeId} {t : Ty} {n : Nat} (h : tyB P id t n = true) : cntB P id n = true := by
  simp only [tyB, Bool.and_eq_true] at h; exact h.1.1.1.2
theorem tyB_zero {id : TypeId} {t : Ty} {n : Nat} (h : tyB P id t n = true) : zeroB P id t = true := by
  simp only [tyB, Bool.and_eq_true] at h; exact h.1.1.2
theorem tyB_arr {id : TypeId} {m : Nat} {t : Ty} {n : Nat} (h : tyB P id (.arr m t) n = true) : arrB P id m t = true := by
  simp only [tyB, Bool.and_eq_true] at h; exact h.1.2
theorem tyB_lst {id : TypeId} {t : Ty} {n : Nat} (h : tyB P id (.lst t) n = true) : lstB P id t = true := by
  simp only [tyB, Bool.and_eq_true] at h; exact h.1.2
theorem tyB_fld {id : TypeId} {t : Ty} {n k : Nat} (h : tyB P id t n = true) (hk : k < n) : ∃ d u, offT t (fldP n k) = some (d, u) ∧ foB P id k d = true ∧ fldB P id k d u = true := by
  simp only [tyB, Bool.and_eq_true, List.all_eq_true, List.mem_range] at h
  have := h.2 k hk
  split at this
  · rename_i d u hq
    rw [Bool.and_eq_true] at this
    exact ⟨d, u, hq, this.1, this.2⟩
  · cases this
theorem zero_wok (XB : Nat → Prop) (B : Nat → Value) (F : Nat → Nat → Prop) (x : World) : ∀ t : Ty, wok XB B F x t t.zero
  | .int => trivial
  | .bool => trivial
  | .ref => ⟨trivial, none, rfl⟩
  | .one t => zero_wok XB B F x t
  | .pair a b => ⟨zero_wok XB B F x a, zero_wok XB B F x b⟩
  | .arr n t => fun i _ => zero_wok XB B F x t
  | .lst t => ⟨trivial, Or.inl ⟨rfl, none, 0, rfl⟩⟩
theorem zero_flat (B B' : Nat → Value) : ∀ t : Ty, flat B t t.zero = flat B' t t.zero
  | .int => rfl
  | .bool => rfl
  | .ref => rfl
  | .one t => zero_flat B B' t
  | .pair a b => by simp only [flat, Ty.zero]; rw [zero_flat B B' a, zero_flat B B' b]
  | .arr n t => rows_congr n fun i _ => zero_flat B B' t
  | .lst t => rfl
theorem zero_run {id : TypeId} {t : Ty} (h : zeroB P id t = true) (B : Nat → Value) (x : World) : ∃ v : Value, (zeroValue id).run P x = .ok v x ∧ v.cells = (flat B t t.zero).toArray := by
  unfold zeroB at h
  split at h
  · rename_i v hv
    cases hi : P.info? id with
    | none => rw [hi] at hv; cases hv
    | some i =>
      rw [hi] at hv
      refine ⟨v, ?_, ?_⟩
      · unfold zeroValue
        simp only [typeInfo, Sem.run_bind, run_program, Result.andThen_ok, hi, Sem.run_pure]
        simp only [Option.bind_some] at hv
        rw [hv]
        rfl
      · apply Array.toList_inj.1
        rw [valsB_eq h, zero_flat _ B]
  · cases h
end

/-- Numbers and truth values. -/
def wrap64 (n : Int) : Int := (n + 9223372036854775808) % 18446744073709551616 - 9223372036854775808
theorem wrap64_eq (n : Int) : IntKind.i64.wrap n = wrap64 n := by rw [IntKind.wrap_i64]; unfold wrap64; omega
def sbin : BinOp → Int → Int → Option V
  | .add, a, b => some (.leaf .int (wrap64 (a + b)))
  | .sub, a, b => some (.leaf .int (wrap64 (a - b)))
  | .mul, a, b => some (.leaf .int (wrap64 (a * b)))
  | .and, a, b => some (.leaf .int (bits .and .i64 a b))
  | .eql, a, b => some (.leaf .bool (decide (a = b)))
  | .neq, a, b => some (.leaf .bool (!decide (a = b)))
  | .lss, a, b => some (.leaf .bool (decide (a < b)))
  | .leq, a, b => some (.leaf .bool (decide (a ≤ b)))
  | .gtr, a, b => some (.leaf .bool (decide (b < a)))
  | .geq, a, b => some (.leaf .bool (decide (b ≤ a)))
  | _, _, _ => none
theorem sbin_sound {P : Program} {op : BinOp} {t : TypeId} {a b : Int} {v : V} (h : sbin op a b = some v) (B : Nat → Value) {p q : Operand} (w : World) :
    (do eqGuard op t p q (.int .i64 a) (.int .i64 b); binOp op t (.int .i64 a) (.int .i64 b) : Sem Value).run P w = .ok (v.val B) w := by
  unfold sbin at h
  split at h <;> first | cases h | skip
  all_goals simp [go_sem, V.val, wrap64_eq]
  all_goals first | rfl | skip

end Go.Proofs.Ytjbbgpacijageab.M

/- Operations without calls: what they do. No program is named here. -/
namespace Go.Proofs.Ytjbbgpacijageab.M
open Go.RowKit
set_option linter.unusedVariables false
set_option linter.unusedSimpArgs false

def nthD (t : Ty) (xs : List t.D) (k : Nat) : t.D := (xs[k]?).getD t.zero
def Out.val (s : SV) : Out := ⟨s, .none, 0, [], false, false⟩
def Out.rdv (s : SV) (i : Nat) : Out := ⟨s, .none, 0, [i], false, false⟩
def und : SV := .a (.raw undef)

def lenK : List V → Nat → (Nat → Prop) → Prop
  | [], n, k => k n
  | _ :: r, n, k => lenK r (n + 1) k
theorem lenK_elim : ∀ (l : List V) (n : Nat) (k : Nat → Prop), lenK l n k → k (l.length + n)
  | [], n, k, h => by rw [List.length_nil, Nat.zero_add]; exact h
  | _ :: r, n, k, h => by
    have := lenK_elim r (n + 1) k h
    rw [List.length_cons, show r.length + 1 + n = r.length + (n + 1) from by omega]
    exact this

/-- A value to be stored as one of a type. -/
def asV (ty : Ty) : AV → Option V
  | .of v => some v
  | .raw (.slice none 0 0) => match ty with | .lst u => some (.leaf (.lst u) (nilH, [])) | _ => none
  | _ => none
theorem asV_sound {ty : Ty} {s : AV} {v : V} (h : asV ty s = some v) {c : Cx} (hs : s.ok c) : s.val c.E = v.val c.E.B ∧ v.okc c := by
  unfold asV at h
  split at h
  · cases h; exact ⟨rfl, hs⟩
  · split at h
    · cases h; exact ⟨rfl, trivial, Or.inl ⟨rfl, none, 0, rfl⟩⟩
    · cases h
  · cases h

structure Tab where
  ty : Tys
  eq : List TypeId
  base : Nat := 0
  tks : List TypeId := []
  top : Bool := false
  ptrs : List TypeId := []
  sub : Bool := false
def inL : List Nat → Nat → Bool
  | [], _ => false
  | g' :: r, g => match Nat.beq g g' with | true => true | false => inL r g
theorem inL_mem : ∀ (l : List Nat) (g : Nat), inL l g = true → g ∈ l
  | [], _, h => by cases h
  | g' :: r, g, h => by
    unfold inL at h
    split at h
    · rename_i hb
      have := Nat.eq_of_beq_eq_true hb
      subst this; simp
    · exact List.mem_cons_of_mem _ (inL_mem r g h)
def eqOk (P : Program) (T : Tys) (id : TypeId) : Bool :=
  match tyL T id with
  | some (t, _) => eqB P 12 id t && !P.eqGuardType P.depth id
  | none => false
def ptrB (P : Program) (id : TypeId) : Bool := match P.underlying id with | some (.pointer _) => true | _ => false
structure TabOk (P : Program) (T : Tab) : Prop where
  ty : TysOk P T.ty
  eq : (T.eq.all fun id => eqOk P T.ty id) = true
  mix : P.follows .mixedOrders = true
  ptr : (T.ptrs.all fun id => ptrB P id) = true

/-- The parts of a composite, one by one. -/
def partK (n : Nat) (path : Nat → List Step) (f : Fr) : List (Nat × Operand) → V → (V → Prop) → Prop
  | [], v, k => k v
  | (i, x) :: r, v, k => match Nat.ble (i + 1) n with
    | true => match evS f x with
      | some (.a s) => match getV v (path i) with
        | some old => match asV old.ty s with
          | some new => setK (path i) v new fun v' => partK n path f r v' k
          | none => False
        | none => False
      | _ => False
    | false => False

def bopK (T : Tab) (op : BinOp) (t : TypeId) (x y : AV) (k : V → Prop) : Prop :=
  match x, y with
  | .of (.leaf .int a), .of (.leaf .int b) => match op with
    | .quo => Need (@Ne Int b 0) (k (.leaf .int (wrap64 (a.tdiv b))))
    | .rem => Need (@Ne Int b 0) (k (.leaf .int (a.tmod b)))
    | op => match sbin op a b with | some v => k v | none => False
  | .of u, .of w => match inL T.eq t with
    | true => match tyL T.ty t with
      | some (ty, _) => denK u ty fun a => denK w ty fun b => match op with
        | .eql => k (.leaf .bool (eqT ty a b))
        | .neq => k (.leaf .bool (!eqT ty a b))
        | _ => False
      | none => False
    | false => False
  | _, _ => False

def sopK (T : Tab) (o : Op) (f : Fr) (bl : List V) (k : Out → Prop) : Prop :=
  match o with
  | .move x => match evS f x with | some s => k (.val s) | none => False
  | .assign x => match evS f x with | some s => k (.val s) | none => False
  | .pick c x y => match evS f c with
    | some (.a (.of (.leaf .bool b))) => Way b (match evS f x with | some s => k (.val s) | none => False) (match evS f y with | some s => k (.val s) | none => False)
    | _ => False
  | .load t x => match evS f x with
    | some (.a (.ptr i off p u)) => match tyL T.ty t with
      | some (ty, _) => match decEq u ty with
        | .isTrue _ => match nthB bl i with
          | some b => match getV b p with | some y => k (.rdv (.a (.of y)) i) | none => False
          | none => False
        | .isFalse _ => False
      | none => False
    | some (.a (.elt t' h xs j off p u)) => match tyL T.ty t with
      | some (ty, _) => match decEq u ty with
        | .isTrue _ => match getV (.leaf t' (nthD t' xs j)) p with | some y => k (.val (.a (.of y))) | none => False
        | .isFalse _ => False
      | none => False
    | _ => False
  | .store t x y => match evS f x with
    | some (.a (.ptr i off p u)) => match tyL T.ty t with
      | some (ty, _) => match decEq u ty with
        | .isTrue _ => match evS f y with
          | some (.a s) => match asV ty s with
            | some new => match nthB bl i with
              | some b => setK p b new fun y => k ⟨und, .set i y, 0, [], false, false⟩
              | none => False
            | none => False
          | _ => False
        | .isFalse _ => False
      | none => False
    | _ => False
  | .fieldAddr t x j => match evS f x with
    | some (.a (.ptr i off p u)) => match tyL T.ty t with
      | some (ty, n) => match decEq u ty with
        | .isTrue _ => match Nat.ble (j + 1) n with
          | true => match offT ty (fldP n j) with
            | some (d, w) => appP p (fldP n j) fun p' => k (.val (.a (.ptr i (off + d) p' w)))
            | none => False
          | false => False
        | .isFalse _ => False
      | none => False
    | some (.a (.elt t' h xs q off p u)) => match tyL T.ty t with
      | some (ty, n) => match decEq u ty with
        | .isTrue _ => match Nat.ble (j + 1) n with
          | true => match offT ty (fldP n j) with
            | some (d, w) => appP p (fldP n j) fun p' => k (.val (.a (.elt t' h xs q (off + d) p' w)))
            | none => False
          | false => False
        | .isFalse _ => False
      | none => False
    | _ => False
  | .field t x j => match evS f x with
    | some (.a (.of v)) => match tyL T.ty t with
      | some (ty, n) => match decEq v.ty ty with
        | .isTrue _ => match Nat.ble (j + 1) n with
          | true => match getV v (fldP n j) with | some y => k (.val (.a (.of y))) | none => False
          | false => False
        | .isFalse _ => False
      | none => False
    | _ => False
  | .indexAddr t x y => match evS f y with
    | some (.a (.of (.leaf .int z))) => match evS f x with
      | some (.a (.ptr i off p u)) => match tyL T.ty t with
        | some (.arr n e, _) => match decEq u (.arr n e) with
          | .isTrue _ => Need ((0 : Int) ≤ z ∧ (z : Int) < (n : Int)) (appP p [.idx (Int.toNat z)] fun p' => k (.val (.a (.ptr i (off + Int.toNat z * e.sz) p' e))))
          | .isFalse _ => False
        | _ => False
      | some (.a (.of (.leaf (.lst e) v))) => match tyL T.ty t with
        | some (ty, _) => match decEq (.lst e) ty with
          | .isTrue _ => Need ((0 : Int) ≤ z ∧ (z : Int) < (v.2.length : Int)) (k (.val (.a (.elt e v.1 v.2 (Int.toNat z) 0 [] e))))
          | .isFalse _ => False
        | none => False
      | _ => False
    | _ => False
  | .index t x y => match evS f y with
    | some (.a (.of (.leaf .int z))) => match evS f x with
      | some (.a (.of v)) => match tyL T.ty t with
        | some (.arr n e, _) => match decEq v.ty (.arr n e) with
          | .isTrue _ => match getV v [.idx (Int.toNat z)] with | some w => Need ((0 : Int) ≤ z ∧ (z : Int) < (n : Int)) (k (.val (.a (.of w)))) | none => False
          | .isFalse _ => False
        | _ => False
      | _ => False
    | _ => False
  | .binOp op t x y _ => match evS f x with
    | some (.a u) => match evS f y with
      | some (.a w) => bopK T op t u w fun v => k (.val (.a (.of v)))
      | _ => False
    | _ => False
  | .unOp .not _ x => match evS f x with
    | some (.a (.of (.leaf .bool b))) => k (.val (.a (.of (.leaf .bool (!b)))))
    | _ => False
  | .box t x => match evS f x with
    | some (.a s) => match tyL T.ty t with
      | some (ty, _) => match asV ty s with
        | some v => lenK bl 0 fun n => k ⟨.a (.ptr n 0 [] v.ty), .new v, 0, [], false, false⟩
        | none => False
      | none => False
    | _ => False
  | .alloc t => match tyL T.ty t with
    | some (ty, _) => lenK bl 0 fun n => k ⟨.a (.ptr n 0 [] ty), .new (.leaf ty ty.zero), 0, [], false, false⟩
    | none => False
  | .build t parts => match tyL T.ty t with
    | some (ty, n) => match ty with
      | .arr m _ => partK m (fun i => [.idx i]) f parts.toList (.leaf ty ty.zero) fun v => k (.val (.a (.of v)))
      | _ => match Nat.ble 1 n with
        | true => partK n (fun i => fldP n i) f parts.toList (.leaf ty ty.zero) fun v => k (.val (.a (.of v)))
        | false => False
    | none => False
  | .extract x j => match evS f x with
    | some (.tup l) => match l[j]? with | some y => k (.val (.a y)) | none => False
    | _ => False
  | .nilCheck x => match evS f x with
    | some (.a (.ptr i off p u)) => k (.val (.a (.ptr i off p u)))
    | _ => False
  | _ => False

end Go.Proofs.Ytjbbgpacijageab.M

/- Operations without calls do what is said of them. No program is named here. -/
namespace Go.Proofs.Ytjbbgpacijageab.M
open Go.RowKit
set_option linter.unusedVariables false
set_option linter.unusedSimpArgs false

section
variable {P : Program} {w0 : World} {F0 : Old} {o : Oper} {f : Fr} {get : Nat → Option V} {bl nn : Nat}

theorem same_refl (x : World) (but : Nat → Prop) : Same x x but := ⟨rfl, rfl, rfl, Nat.le_refl _, fun _ _ _ => rfl⟩

/-- A value alone. -/
theorem post_val {c : Cx} {r : SV} {rd : List Nat} {q : Bool} (hw : c.Wf w0 F0) (hr : r.ok c) : Post w0 F0 c ⟨r, .none, 0, rd, q, false⟩ bl nn (r.val c.E) c.x c.E := by
  have hle : c.Le (c.ext ⟨r, .none, 0, rd, q, false⟩ bl nn c.E c.x) := ⟨fun i hi => ⟨Or.inl hi, rfl, rfl⟩, fun n hn => ⟨Or.inl hn, rfl⟩, fun _ _ h => h, fun _ _ _ _ _ => rfl, Nat.le_refl _⟩
  exact ⟨rfl, SV.ok_mono hle hr, fun _ _ => rfl, fun _ _ => rfl, fun _ _ h => h, fun _ _ _ h => h, hw.fhi, same_refl _ _, (fun y hy => by cases hy), (fun i y hy => by cases hy)⟩
theorem does_val {r : SV} {rd : List Nat} {q : Bool} (h : ∀ (c : Cx) (ρ : Operand → Value), c.Wf w0 F0 → (∀ y ∈ o.op.operands, ∀ s, evS f y = some s → ρ y = s.val c.E ∧ s.ok c) →
    (∀ i, i ∈ rd → ∀ v, get i = some v → c.XA i ∧ c.ty i = some v.ty ∧ (∃ e, HB c.x (c.E.A i) (v.cells c.E.B).toArray e) ∧ v.okc c) → (execOp ρ o).run P c.x = .ok (.value (r.val c.E)) c.x ∧ r.ok c) : Does P w0 F0 o f get bl nn ⟨r, .none, 0, rd, q, false⟩ := by
  refine ⟨fun _ => rfl, ?_⟩
  intro c ρ hw hρ ht _ _
  obtain ⟨h1, h2⟩ := h c ρ hw hρ (fun i hi => ht i (Or.inl hi))
  rw [h1]
  exact ⟨c.E, post_val hw h2⟩

/-- A new block. -/
theorem does_new {v : V} (h : ∀ (c : Cx) (ρ : Operand → Value), c.Wf w0 F0 → (∀ y ∈ o.op.operands, ∀ s, evS f y = some s → ρ y = s.val c.E ∧ s.ok c) →
    ∃ e, (execOp ρ o).run P c.x = .ok (.value (.pointer (some ⟨c.x.heap.size, 0, none⟩))) (c.x.alloc (.cells (v.cells c.E.B).toArray e)) ∧ v.okc c) : Does P w0 F0 o f get bl nn ⟨.a (.ptr bl 0 [] v.ty), .new v, 0, [], false, false⟩ := by
  refine ⟨fun _ => rfl, ?_⟩
  intro c ρ hw hρ _ hnew _
  obtain ⟨e, h1, h2⟩ := h c ρ hw hρ
  have hn := hnew ⟨v, rfl⟩
  rw [h1]
  have hB := HB.new c.x (v.cells c.E.B).toArray e
  have hsz : (c.x.alloc (.cells (v.cells c.E.B).toArray e)).heap.size = c.x.heap.size + 1 := size_alloc' _ _
  refine ⟨⟨fun i => if i = bl then c.x.heap.size else c.E.A i, c.E.B, c.E.F⟩, ?_⟩
  have hA : ∀ i, c.XA i → (if i = bl then c.x.heap.size else c.E.A i) = c.E.A i := fun i hi => if_neg fun hb => hn (by rw [← hb]; exact hi)
  have hle : c.Le (c.ext ⟨.a (.ptr bl 0 [] v.ty), .new v, 0, [], false, false⟩ bl nn ⟨fun i => if i = bl then c.x.heap.size else c.E.A i, c.E.B, c.E.F⟩ (c.x.alloc (.cells (v.cells c.E.B).toArray e))) := by
    refine ⟨fun i hi => ⟨Or.inl hi, hA i hi, ?_⟩, fun n hn => ⟨Or.inl hn, rfl⟩, fun _ _ h => h, fun b k hb j hj => ?_, by show _ ≤ (World.alloc _ _).heap.size; omega⟩
    · show (if i = bl then some v.ty else c.ty i) = c.ty i
      exact if_neg fun hb => hn (by rw [← hb]; exact hi)
    · exact World.cell?_of_block (Below.heap_alloc _ _ _ (hw.fhi b k hb))
  refine ⟨?_, ?_, hA, fun _ _ => rfl, fun _ _ h => h, fun _ _ _ h => h, fun b k hb => ?_, ⟨rfl, rfl, rfl, by omega, fun k hk _ => Below.heap_alloc _ _ _ hk⟩, fun y hy => ?_, (fun i y hy => by cases hy)⟩
  · show _ = Value.pointer (some ⟨if bl = bl then c.x.heap.size else c.E.A bl, 0, none⟩)
    rw [if_pos rfl]
  · exact ⟨Or.inr ⟨rfl, v, rfl⟩, v.ty, if_pos rfl, by unfold At; exact ⟨rfl, rfl⟩⟩
  · have := hw.fhi b k hb; omega
  · cases hy
    simp only [if_pos]
    exact ⟨Nat.le_refl _, by omega, fun k hk => by have := hw.fhi _ _ hk; omega, ⟨e, hB⟩, V.okc_mono hle h2⟩

/-- A store. -/
theorem does_set {i : Nat} {b y new : V} {p : List Step} {off : Nat} {u : Ty} (hb : get i = some b) (hk : ∀ (c : Cx), b.okc c → new.okc c → At b.ty p off u → y.ty = b.ty ∧ new.ty = u ∧ off + u.sz ≤ b.ty.sz ∧ y.cells c.E.B = splice (b.cells c.E.B) off (new.cells c.E.B) ∧ y.okc c)
    (h : ∀ (c : Cx) (ρ : Operand → Value), c.Wf w0 F0 → (∀ y ∈ o.op.operands, ∀ s, evS f y = some s → ρ y = s.val c.E ∧ s.ok c) →
      (∃ id, tyB1 P id u = true ∧ execOp ρ o = (do Instr.storeAt id (.pointer (some ⟨c.E.A i, off, none⟩)) (new.val c.E.B); pure .skip)) ∧ new.okc c ∧ (c.ty i = some b.ty → At b.ty p off u)) : Does P w0 F0 o f get bl nn ⟨und, .set i y, 0, [], false, false⟩ := by
  refine ⟨fun _ => rfl, ?_⟩
  intro c ρ hw hρ ht _ _
  obtain ⟨g2, g3, ⟨e, g4⟩, g5⟩ := ht i (Or.inr ⟨y, rfl⟩) b hb
  obtain ⟨⟨id, hid, hex⟩, hno, hat⟩ := h c ρ hw hρ
  obtain ⟨k1, k2, k3, k4, k5⟩ := hk c g5 hno (hat g3)
  have hsz : (b.cells c.E.B).toArray.size = b.ty.sz := by simp [V.cells_len]
  have hrun := storeVar_cells (P := P) (id := id) (y := new) (B := c.E.B) (by rw [k2]; exact hid) (V.cells_one new hno) g4 (o := off) (by rw [hsz, k2]; exact k3)
  have hcells : sets (b.cells c.E.B).toArray off (new.cells c.E.B) = (y.cells c.E.B).toArray := by
    apply Array.toList_inj.1
    rw [sets_splice _ _ _ (by rw [hsz, V.cells_len, k2]; exact k3), k4]
  rw [hcells] at hrun
  rw [hex]
  simp only [Instr.storeAt, Instr.sureAddr, Sem.run_bind, Sem.run_pure, Result.andThen_ok, hrun]
  have hput := HB.put g4 (y.cells c.E.B).toArray
  have hne : ∀ k, k ≠ c.E.A i → (putB c.x (c.E.A i) (y.cells c.E.B).toArray).heap[k]? = c.x.heap[k]? := fun k hk => putB_ne _ _ _ hk
  have hle : c.Le (c.ext ⟨und, .set i y, 0, [], false, false⟩ bl nn c.E (putB c.x (c.E.A i) (y.cells c.E.B).toArray)) := by
    refine ⟨fun i hi => ⟨Or.inl hi, rfl, rfl⟩, fun n hn => ⟨Or.inl hn, rfl⟩, fun _ _ h => h, fun d k hd j hj => ?_, by show _ ≤ (putB _ _ _).heap.size; rw [putB_size]; exact Nat.le_refl _⟩
    exact World.cell?_of_block (hne d fun he => hw.own i g2 k (by rw [← he]; exact hd))
  refine ⟨c.E, rfl, trivial, fun _ _ => rfl, fun _ _ => rfl, fun _ _ h => h, fun _ _ _ h => h, fun d k hd => by rw [putB_size]; exact hw.fhi d k hd, ⟨rfl, rfl, rfl, by rw [putB_size]; exact Nat.le_refl _, fun k hk hb' => hne k fun he => hb' ⟨i, y, rfl, he⟩⟩, (fun z hz => by cases hz), fun j z hz => ?_⟩
  cases hz
  exact ⟨g2, by rw [k1]; exact g3, ⟨e, hput⟩, V.okc_mono hle k5⟩
end

section
variable {P : Program} {T : Tab} {w0 : World} {F0 : Old} {nn : Nat}

theorem val_leaf {B : Nat → Value} {u : V} {ty : Ty} {a : ty.D} (h2 : u.ty = ty) (h3 : flat B ty a = u.cells B) : u.val B = (V.leaf ty a).val B := by
  cases hag : ty.agg with
  | true =>
    rw [V.val_agg (by rw [h2]; exact hag), V.val_agg (x := .leaf ty a) hag]
    show _ = Value.agg (flat B ty a).toArray
    rw [h3]
  | false =>
    have e1 := V.cells_sc (B := B) (y := u) (by rw [h2]; exact hag)
    have e2 := V.cells_sc (B := B) (y := .leaf ty a) hag
    have : [u.val B] = [(V.leaf ty a).val B] := by rw [← e1, ← e2]; exact h3.symm
    simpa using this

theorem bop_sound (hT : TabOk P T) {op : BinOp} {t : TypeId} {x y : AV} {k : V → Prop} (h : bopK T op t x y k) : ∃ v, k v ∧ ∀ (c : Cx) (p q : Operand) (w : World), x.ok c → y.ok c → (do eqGuard op t p q (x.val c.E) (y.val c.E); binOp op t (x.val c.E) (y.val c.E) : Sem Value).run P w = .ok (v.val c.E.B) w ∧ v.okc c := by
  unfold bopK at h
  split at h
  · rename_i a b
    split at h
    · obtain ⟨hb, hk⟩ := h
      refine ⟨_, hk, fun c p q w _ _ => ⟨?_, trivial⟩⟩
      show (do eqGuard .quo t p q (.int .i64 a) (.int .i64 b); binOp .quo t (.int .i64 a) (.int .i64 b) : Sem Value).run P w = .ok (.int .i64 (wrap64 (a.tdiv b))) w
      simp [eqGuard, binOp, Op.intDiv, hb, wrap64_eq]
    · obtain ⟨hb, hk⟩ := h
      refine ⟨_, hk, fun c p q w _ _ => ⟨?_, trivial⟩⟩
      show (do eqGuard .rem t p q (.int .i64 a) (.int .i64 b); binOp .rem t (.int .i64 a) (.int .i64 b) : Sem Value).run P w = .ok (.int .i64 (a.tmod b)) w
      simp [eqGuard, binOp, Op.intDiv, hb]
    · split at h
      · rename_i v hv
        refine ⟨v, h, fun c p q w _ _ => ⟨sbin_sound hv c.E.B w, ?_⟩⟩
        unfold sbin at hv
        split at hv <;> cases hv <;> trivial
      · exact h.elim
  · rename_i u w hno
    split at h
    · rename_i heq
      split at h
      · rename_i ty n hty
        have he := List.all_eq_true.1 hT.eq _ (inL_mem _ _ heq)
        simp only [eqOk, hty, Bool.and_eq_true, Bool.not_eq_true'] at he
        obtain ⟨he, hg⟩ := he
        obtain ⟨a, h1, h2, h3, h4⟩ := denK_sound u ty _ h
        obtain ⟨b, g1, g2, g3, g4⟩ := denK_sound w ty _ h1
        have hrun : ∀ (B : Nat → Value) (x : World), (Op.equal t ((V.leaf ty a).val B) ((V.leaf ty b).val B)).run P x = .ok (eqT ty a b) x := fun B x => eq_run 12 t ty he Op.maxDepth (by unfold Op.maxDepth; omega) a b
        have notInt : ty ≠ .int := fun hi => by
          subst hi
          cases u with
          | leaf t1 v1 =>
            cases w with
            | leaf t2 v2 =>
              have e1 : t1 = .int := h2
              have e2 : t2 = .int := g2
              subst e1; subst e2
              exact hno v1 v2 rfl rfl
            | one _ => cases g2
            | node _ _ => cases g2
          | one _ => cases h2
          | node _ _ => cases h2
        have both : ∀ (B : Nat → Value) (p q : Operand) (x : World), ((do eqGuard .eql t p q (u.val B) (w.val B); binOp .eql t (u.val B) (w.val B) : Sem Value).run P x = .ok (.bool (eqT ty a b)) x) ∧ ((do eqGuard .neq t p q (u.val B) (w.val B); binOp .neq t (u.val B) (w.val B) : Sem Value).run P x = .ok (.bool (!eqT ty a b)) x) := fun B p q x => by
          have hr := hrun B x
          rw [val_leaf h2 (h3 B), val_leaf g2 (g3 B)]
          cases hag : ty.agg with
          | true =>
            rw [V.val_agg (x := .leaf ty a) hag, V.val_agg (x := .leaf ty b) hag] at *
            rw [Sem.run_bind, run_eqGuard_agg _ _ _ _ _ _ _ hg, Result.andThen_ok, Sem.run_bind, run_eqGuard_agg _ _ _ _ _ _ _ hg, Result.andThen_ok]
            constructor
            · show (do pure (.bool (← Op.equal t _ _)) : Sem Value).run P x = _
              rw [Sem.run_bind, hr]; rfl
            · show (do pure (.bool (!(← Op.equal t _ _))) : Sem Value).run P x = _
              rw [Sem.run_bind, hr]; rfl
          | false =>
            cases ty with
            | int => exact absurd rfl notInt
            | bool =>
              constructor
              · show (do pure (.bool (← Op.equal t _ _)) : Sem Value).run P x = _
                rw [Sem.run_bind, hr]; rfl
              · show (do pure (.bool (!(← Op.equal t _ _))) : Sem Value).run P x = _
                rw [Sem.run_bind, hr]; rfl
            | ref =>
              exfalso
              unfold eqB at he
              rw [Bool.and_eq_true] at he
              obtain ⟨h5, h6⟩ := he
              unfold tyB1 at h5
              simp only [Ty.agg, scB] at h5
              split at h5 <;> first | cases h5 | skip
              split at h6 <;> simp_all
            | lst e => 
              exfalso
              unfold eqB at he
              rw [Bool.and_eq_true] at he
              obtain ⟨h5, h6⟩ := he
              unfold tyB1 at h5
              simp only [Ty.agg, scB] at h5
              split at h5 <;> first | cases h5 | skip
              split at h6 <;> simp_all
            | _ => simp [Ty.agg] at hag
        split at g1
        · exact ⟨_, g1, fun c p q x _ _ => ⟨(both c.E.B p q x).1, trivial⟩⟩
        · exact ⟨_, g1, fun c p q x _ _ => ⟨(both c.E.B p q x).2, trivial⟩⟩
        · exact g1.elim
      · exact h.elim
    · exact h.elim
  · exact h.elim

theorem part_sound {f : Fr} {n : Nat} {path : Nat → List Step} {place : Nat → Option (Nat × Nat)} {ty : Ty} (hp : ∀ i, i < n → ∃ d u, At ty (path i) d u ∧ place i = some (d, u.sz)) :
    ∀ (l : List (Nat × Operand)) (v : V) (k : V → Prop), v.ty = ty → partK n path f l v k → ∃ v', k v' ∧ v'.ty = ty ∧ ∀ (c : Cx) (ρ : Operand → Value), v.okc c → (∀ e ∈ l, ∀ s, evS f e.2 = some s → ρ e.2 = s.val c.E ∧ s.ok c) →
      Instr.fill place (v.cells c.E.B).toArray (l.map fun e => (e.1, ρ e.2)) = some (v'.cells c.E.B).toArray ∧ v'.okc c
  | [], v, k, hv, h => ⟨v, h, hv, fun c ρ hc _ => ⟨rfl, hc⟩⟩
  | (i, x) :: r, v, k, hv, h => by
    unfold partK at h
    split at h
    · rename_i hi
      have hi' := Nat.le_of_ble_eq_true hi
      split at h
      · rename_i s hs
        split at h
        · rename_i old hold
          split at h
          · rename_i new hnew
            obtain ⟨y, h1, h2, h3⟩ := setK_sound _ _ _ _ h
            obtain ⟨d, u, hd, hpl⟩ := hp i hi'
            obtain ⟨g1, g2, g3, g4⟩ := h3 d u (by rw [hv]; exact hd)
            obtain ⟨v', k1, k2, k3⟩ := part_sound hp r y k (h2.trans hv) h1
            refine ⟨v', k1, k2, fun c ρ hc hρ => ?_⟩
            obtain ⟨e1, e2⟩ := hρ (i, x) (by simp) _ hs
            obtain ⟨e3, e4⟩ := asV_sound hnew e2
            have e5 : ρ x = new.val c.E.B := by rw [e1]; exact e3
            have hcs := V.val_cells new (V.cells_one new e4)
            obtain ⟨k4, k5⟩ := k3 c ρ (g4 _ _ _ _ hc e4) (fun e he => hρ e (by simp [he]))
            refine ⟨?_, k5⟩
            rw [List.map_cons]
            unfold Instr.fill
            simp only [hpl, e5, hcs]
            have hsz : (new.cells c.E.B).toArray.size = u.sz := by simp [V.cells_len, g1]
            have hsv : (v.cells c.E.B).toArray.size = v.ty.sz := by simp [V.cells_len]
            rw [if_neg (by
              simp only [ne_eq, Bool.or_eq_true, decide_eq_true_eq, not_or, Decidable.not_not]
              exact ⟨hsz, by rw [hsz, hsv]; omega⟩)]
            have hfold : ∀ (cs : List Value) (j : Nat) (C : Array Value), ((cs.zipIdx j).foldl (fun C (e : Value × Nat) => C.setIfInBounds (d + e.2) e.1) C) = sets C (d + j) cs := by
              intro cs
              induction cs with
              | nil => intro j C; rfl
              | cons q cs ih => intro j C; rw [List.zipIdx_cons, List.foldl_cons, ih]; rfl
            have harr : (new.cells c.E.B).toArray.zipIdx.foldl (fun cs (e : Value × Nat) => cs.setIfInBounds (d + e.2) e.1) (v.cells c.E.B).toArray = (y.cells c.E.B).toArray := by
              rw [← Array.foldl_toList, Array.toList_zipIdx, hfold]
              apply Array.toList_inj.1
              rw [Nat.add_zero, sets_splice _ _ _ (by rw [hsv, V.cells_len, g1]; exact g2), g3 c.E.B]
            rw [show (new.cells c.E.B).toArray.zipIdx.foldl (fun cs (x : Value × Nat) => match x with | (c, j) => cs.setIfInBounds (d + j) c) (v.cells c.E.B).toArray = (y.cells c.E.B).toArray from harr]
            exact k4
          · exact h.elim
        · exact h.elim
      · exact h.elim
    · exact h.elim
end

end Go.Proofs.Ytjbbgpacijageab.M

/- Operations without calls do what is said of them, all of them. No program is named here. -/
namespace Go.Proofs.Ytjbbgpacijageab.M
open Go.RowKit
set_option linter.unusedVariables false
set_option linter.unusedSimpArgs false

section
variable {P : Program} {T : Tab} {w0 : World} {F0 : Old} {nn : Nat}

theorem hb_cell {x : World} {b : Nat} {L : List Value} {e : TypeId} (h : HB x b L.toArray e) (j : Nat) : x.cell? ⟨b, j, none⟩ = L[j]? := by
  rw [h.cell]; simp
theorem drop_take_get {α : Type} {L : List α} {off n j : Nat} (hj : j < n) : ((L.drop off).take n)[j]? = L[off + j]? := by
  rw [List.getElem?_take, if_pos hj, List.getElem?_drop]

theorem load_at {id : TypeId} {u : Ty} (hid : tyB1 P id u = true) {b y : V} {p : List Step} {off : Nat} (hy : getV b p = some y) (ha : At b.ty p off u) {B : Nat → Value} {x : World} {a : Nat} (hc : ∀ j, j < b.ty.sz → x.cell? ⟨a, j, none⟩ = (b.cells B)[j]?) :
    (Instr.loadAt id (.pointer (some ⟨a, off, none⟩))).run P x = .ok (y.val B) x := by
  obtain ⟨h1, h2, h3⟩ := getV_sound B p b y off u hy ha
  simp only [Instr.loadAt, Instr.sureAddr, Sem.run_bind, Sem.run_pure, Result.andThen_ok]
  refine load_run (by rw [h1]; exact hid) fun j hj => ?_
  rw [h1] at hj
  rw [hc _ (by omega), h3, drop_take_get hj]

theorem sopK_sound (hT : TabOk P T) {o : Oper} {f : Fr} {bl : List V} {k : Out → Prop} (h : sopK T o.op f bl k) : ∃ out, k out ∧ Does P w0 F0 o f (fun i => bl[i]?) bl.length nn out := by
  unfold sopK at h
  split at h
  · rename_i x ho
    split at h
    · rename_i s hs
      refine ⟨_, h, does_val fun c ρ hw hρ _ => ?_⟩
      obtain ⟨h1, h2⟩ := hρ x (by rw [ho]; simp [Op.operands]) s hs
      exact ⟨by unfold execOp; simp only [ho, h1]; rfl, h2⟩
    · exact h.elim
  · rename_i x ho
    split at h
    · rename_i s hs
      refine ⟨_, h, does_val fun c ρ hw hρ _ => ?_⟩
      obtain ⟨h1, h2⟩ := hρ x (by rw [ho]; simp [Op.operands]) s hs
      exact ⟨by unfold execOp; simp only [ho, h1]; rfl, h2⟩
    · exact h.elim
  · rename_i cc x y ho
    split at h
    · rename_i b hb
      cases hbb : b with
      | true =>
        have h' := h.t hbb
        split at h'
        · rename_i s hs
          refine ⟨_, h', does_val fun c ρ hw hρ _ => ?_⟩
          obtain ⟨h1, h2⟩ := hρ x (by rw [ho]; simp [Op.operands]) s hs
          obtain ⟨h3, h4⟩ := hρ cc (by rw [ho]; simp [Op.operands]) _ hb
          have h5 : ρ cc = .bool true := by rw [h3, ← hbb]; rfl
          exact ⟨by unfold execOp; simp only [ho, h1, h5, asBool, Sem.run_bind, Sem.run_pure, Result.andThen_ok, if_true], h2⟩
        · exact h'.elim
      | false =>
        have h' := h.f hbb
        split at h'
        · rename_i s hs
          refine ⟨_, h', does_val fun c ρ hw hρ _ => ?_⟩
          obtain ⟨h1, h2⟩ := hρ y (by rw [ho]; simp [Op.operands]) s hs
          obtain ⟨h3, h4⟩ := hρ cc (by rw [ho]; simp [Op.operands]) _ hb
          have h5 : ρ cc = .bool false := by rw [h3, ← hbb]; rfl
          exact ⟨by unfold execOp; simp only [ho, h1, h5, asBool, Sem.run_bind, Sem.run_pure, Result.andThen_ok, Bool.false_eq_true, if_false], h2⟩
        · exact h'.elim
    · exact h.elim
  · rename_i t x ho
    split at h
    · rename_i i off p u hx
      split at h
      · rename_i ty n hty
        split at h
        · rename_i he _
          subst he
          split at h
          · rename_i b hb
            split at h
            · rename_i y hy
              rw [nthB_eq] at hb
              refine ⟨_, h, does_val fun c ρ hw hρ ht => ?_⟩
              obtain ⟨h1, h2⟩ := hρ x (by rw [ho]; simp [Op.operands]) _ hx
              obtain ⟨g2, g3, ⟨e, g4⟩, g5⟩ := ht i (by simp) b hb
              obtain ⟨_, t', h3, h4⟩ := h2
              rw [g3] at h3
              cases h3
              refine ⟨?_, getV_ok p b y off u hy h4 g5⟩
              unfold execOp
              simp only [ho, h1]
              rw [Sem.run_bind]
              show ((Instr.loadAt t (.pointer (some ⟨c.E.A i, off, none⟩))).run P c.x).andThen _ = _
              rw [load_at (tyB_1 (hT.ty.at hty)) hy h4 (B := c.E.B) (fun j _ => hb_cell g4 j)]
              rfl
            · exact h.elim
          · exact h.elim
        · exact h.elim
      · exact h.elim
    · rename_i t' hd xs j off p u hx
      split at h
      · rename_i ty n hty
        split at h
        · rename_i he _
          subst he
          split at h
          · rename_i y hy
            refine ⟨_, h, does_val fun c ρ hw hρ ht => ?_⟩
            obtain ⟨h1, h2⟩ := hρ x (by rw [ho]; simp [Op.operands]) _ hx
            obtain ⟨hwk, hj, hat⟩ := h2
            have hget : xs[j]? = some (nthD t' xs j) := by
              unfold nthD
              rw [List.getElem?_eq_getElem hj]
              rfl
            rcases hwk.2 with ⟨hnil, _⟩ | ⟨b, o', cap, e1, e2, e3, e4, e5, e6⟩
            · simp at hnil
              subst hnil
              simp at hj
            · obtain ⟨g1, g2⟩ := e6 j _ hget
              refine ⟨?_, getV_ok p (.leaf t' (nthD t' xs j)) y off u hy hat g2⟩
              obtain ⟨k1, k2, k3⟩ := getV_sound c.E.B p (.leaf t' (nthD t' xs j)) y off u hy hat
              have hval : SV.val c.E (.a (.elt t' hd xs j off p u)) = .pointer (some ⟨b, o' + j * t'.sz + off, none⟩) := by
                simp only [SV.val, AV.val, e1]
              unfold execOp
              simp only [ho, h1, hval, Instr.loadAt, Instr.sureAddr, Sem.run_bind, Sem.run_pure, Result.andThen_ok]
              rw [load_run (y := y) (B := c.E.B) (by rw [k1]; exact tyB_1 (hT.ty.at hty)) fun q hq => ?_]
              · rfl
              · rw [k1] at hq
                have k2' : off + u.sz ≤ t'.sz := k2
                rw [Nat.add_assoc (o' + j * t'.sz), g1 (off + q) (by omega), k3, drop_take_get hq]
                rfl
          · exact h.elim
        · exact h.elim
      · exact h.elim
    · exact h.elim
  · rename_i t x y ho
    split at h
    · rename_i i off p u hx
      split at h
      · rename_i ty n hty
        split at h
        · rename_i he _
          subst he
          split at h
          · rename_i s hs
            split at h
            · rename_i new hnew
              split at h
              · rename_i b hb
                rw [nthB_eq] at hb
                obtain ⟨z, h1, h2, h3⟩ := setK_sound _ _ _ _ h
                refine ⟨_, h1, does_set (b := b) (new := new) (p := p) (off := off) (u := u) hb (fun c hbo hno hat => ?_) fun c ρ hw hρ => ?_⟩
                · obtain ⟨g1, g2, g3, g4⟩ := h3 off u hat
                  exact ⟨h2, g1, g2, g3 _, g4 _ _ _ _ hbo hno⟩
                · obtain ⟨h4, h5⟩ := hρ x (by rw [ho]; simp [Op.operands]) _ hx
                  obtain ⟨h6, h7⟩ := hρ y (by rw [ho]; simp [Op.operands]) _ hs
                  obtain ⟨h8, h9⟩ := asV_sound hnew h7
                  have h10 : ρ y = new.val c.E.B := h6.trans h8
                  refine ⟨⟨t, tyB_1 (hT.ty.at hty), ?_⟩, h9, fun hb' => ?_⟩
                  · unfold execOp
                    simp only [ho, h4, h10]
                    rfl
                  · obtain ⟨_, t', h11, h12⟩ := h5
                    rw [hb'] at h11
                    cases h11
                    exact h12
              · exact h.elim
            · exact h.elim
          · exact h.elim
        · exact h.elim
      · exact h.elim
    · exact h.elim
  · rename_i t x j ho
    split at h
    · rename_i i off p u hx
      split at h
      · rename_i ty n hty
        split at h
        · rename_i he _
          subst he
          split at h
          · rename_i hj
            have hj' := Nat.le_of_ble_eq_true hj
            split at h
            · rename_i d w hd
              obtain ⟨d', w', e1, e2, e3⟩ := tyB_fld (hT.ty.at hty) (k := j) hj'
              rw [hd] at e1
              cases e1
              refine ⟨_, appP_elim _ _ _ h, does_val fun c ρ hw hρ _ => ?_⟩
              obtain ⟨h1, h2⟩ := hρ x (by rw [ho]; simp [Op.operands]) _ hx
              obtain ⟨h3, t', h4, h5⟩ := h2
              refine ⟨?_, h3, t', h4, At.append p t' off u _ d w h5 (offT_at _ _ _ _ hd)⟩
              unfold execOp
              simp only [ho, h1, SV.val, AV.val, Sem.run_bind, Sem.run_pure, Result.andThen_ok, fo_run e2]
            · exact h.elim
          · exact h.elim
        · exact h.elim
      · exact h.elim
    · rename_i t' hd' xs q off p u hx
      split at h
      · rename_i ty n hty
        split at h
        · rename_i he _
          subst he
          split at h
          · rename_i hj
            have hj' := Nat.le_of_ble_eq_true hj
            split at h
            · rename_i d w hd
              obtain ⟨d', w', e1, e2, e3⟩ := tyB_fld (hT.ty.at hty) (k := j) hj'
              rw [hd] at e1
              cases e1
              refine ⟨_, appP_elim _ _ _ h, does_val fun c ρ hw hρ _ => ?_⟩
              obtain ⟨h1, h2⟩ := hρ x (by rw [ho]; simp [Op.operands]) _ hx
              obtain ⟨hwk, hq, hat⟩ := h2
              refine ⟨?_, hwk, hq, At.append p t' off u _ d w hat (offT_at _ _ _ _ hd)⟩
              rcases hwk.2 with ⟨hnil, _⟩ | ⟨b, o', cap, f1, _⟩
              · simp at hnil
                subst hnil
                simp at hq
              · have f1' : hd'.val c.E.B = .slice (some ⟨b, o', none⟩) xs.length cap := f1
                unfold execOp
                simp only [ho, h1, SV.val, AV.val, f1', Sem.run_bind, Sem.run_pure, Result.andThen_ok, fo_run e2, Nat.add_assoc]
            · exact h.elim
          · exact h.elim
        · exact h.elim
      · exact h.elim
    · exact h.elim
  · rename_i t x j ho
    split at h
    · rename_i v hx
      split at h
      · rename_i ty n hty
        split at h
        · rename_i he _
          subst he
          split at h
          · rename_i hj
            have hj' := Nat.le_of_ble_eq_true hj
            split at h
            · rename_i y hy
              obtain ⟨d, w, e1, e2, e3⟩ := tyB_fld (hT.ty.at hty) (k := j) hj'
              refine ⟨_, h, does_val fun c ρ hw hρ _ => ?_⟩
              obtain ⟨h1, h2⟩ := hρ x (by rw [ho]; simp [Op.operands]) _ hx
              have hat := offT_at _ _ _ _ e1
              obtain ⟨k1, k2, k3⟩ := getV_sound c.E.B _ v y d w hy hat
              refine ⟨?_, getV_ok _ v y d w hy hat h2⟩
              unfold fldB at e3
              split at e3
              · rename_i fields hu
                split at e3
                · rename_i fl hfl
                  rw [Bool.and_eq_true, beq_iff_eq] at e3
                  have hagg : v.ty.agg = true := by
                    have h1 := tyB_1 (hT.ty.at hty)
                    unfold tyB1 at h1
                    split at h1
                    · assumption
                    · unfold scB at h1
                      rw [hu] at h1
                      simp at h1
                  unfold execOp
                  simp only [ho, h1, SV.val, AV.val]
                  rw [V.val_agg hagg]
                  simp only [Instr.field, Sem.run_bind, run_underlying hu, Result.andThen_ok, hfl, asAgg, Sem.run_pure, e3.1]
                  rw [part_run (y := y) (B := c.E.B) (by rw [k1]; exact e3.2) (by rw [k1]; exact k3) (by rw [k1, V.cells_len]; exact k2)]
                  rfl
                · cases e3
              · cases e3
            · exact h.elim
          · exact h.elim
        · exact h.elim
      · exact h.elim
    · exact h.elim
  · rename_i t x y ho
    split at h
    · rename_i z hy
      split at h
      · rename_i i off p u hx
        split at h
        · rename_i n e n0 hty
          split at h
          · rename_i he _
            subst he
            · obtain ⟨hz, h⟩ := h
              refine ⟨_, appP_elim _ _ _ h, does_val fun c ρ hw hρ _ => ?_⟩
              obtain ⟨h1, h2⟩ := hρ x (by rw [ho]; simp [Op.operands]) _ hx
              obtain ⟨h3, h4⟩ := hρ y (by rw [ho]; simp [Op.operands]) _ hy
              obtain ⟨h5, t', h6, h7⟩ := h2
              have hlt : Int.toNat z < n := (Int.toNat_lt hz.1).2 hz.2
              refine ⟨?_, h5, t', h6, ?_⟩
              · have ha := tyB_arr (hT.ty.at hty)
                unfold arrB at ha
                split at ha
                · rename_i l el hu
                  simp only [Bool.and_eq_true, beq_iff_eq] at ha
                  obtain ⟨⟨rfl, hs⟩, _⟩ := ha
                  cases hi : P.info? el with
                  | none => rw [hi] at hs; simp at hs
                  | some inf =>
                    have hsz : inf.size = e.sz := by simpa [hi] using hs
                    have h3' : ρ y = .int .i64 z := h3
                    unfold execOp
                    simp only [ho, h1, h3', SV.val, AV.val, Instr.indexAt, asIntOf, Sem.run_bind, Sem.run_pure, Result.andThen_ok, run_underlying hu, Instr.sureAddr]
                    rw [if_pos hz]
                    simp only [sizeOf, typeInfo, Sem.run_bind, run_program, Result.andThen_ok, hi, Sem.run_pure, hsz]
                    congr 4
                    unfold Addr.add
                    split
                    · rename_i h0; rw [h0]; rfl
                    · rfl
                · cases ha
              · refine At.append p t' off _ _ _ e h7 ⟨hlt, 0, ?_, by omega⟩
                unfold At
                exact ⟨rfl, rfl⟩
          · exact h.elim
        · exact h.elim
      · rename_i e v hx
        split at h
        · rename_i ty n0 hty
          split at h
          · rename_i he _
            subst he
            obtain ⟨hz, h⟩ := h
            refine ⟨_, h, does_val fun c ρ hw hρ _ => ?_⟩
            obtain ⟨h1, h2⟩ := hρ x (by rw [ho]; simp [Op.operands]) _ hx
            obtain ⟨h3, h4⟩ := hρ y (by rw [ho]; simp [Op.operands]) _ hy
            have hlt : Int.toNat z < v.2.length := (Int.toNat_lt hz.1).2 hz.2
            refine ⟨?_, h2, hlt, by unfold At; exact ⟨rfl, rfl⟩⟩
            rcases h2.2 with ⟨hnil, _⟩ | ⟨b, o', cap, f1, f2, _⟩
            · rw [hnil] at hlt; simp at hlt
            · have ha := tyB_lst (hT.ty.at hty)
              unfold lstB at ha
              split at ha
              · rename_i el hu
                simp only [Bool.and_eq_true, beq_iff_eq] at ha
                obtain ⟨⟨⟨⟨hs, _⟩, _⟩, _⟩, _⟩ := ha
                cases hi : P.info? el with
                | none => rw [hi] at hs; simp at hs
                | some inf =>
                  have hsz : inf.size = e.sz := by simpa [hi] using hs
                  have h3' : ρ y = .int .i64 z := h3
                  have h1' : ρ x = .slice (some ⟨b, o', none⟩) v.2.length cap := by rw [h1]; exact f1
                  unfold execOp
                  simp only [ho, h1', h3', SV.val, AV.val, f1, Instr.indexAt, asIntOf, Sem.run_bind, Sem.run_pure, Result.andThen_ok, run_underlying hu]
                  rw [if_pos hz]
                  simp only [sizeOf, typeInfo, Sem.run_bind, run_program, Result.andThen_ok, hi, Sem.run_pure, hsz]
                  congr 4
                  unfold Addr.add
                  split
                  · rename_i h0; rw [h0]; rfl
                  · rfl
              · cases ha
          · exact h.elim
        · exact h.elim
      · exact h.elim
    · exact h.elim
  · rename_i t x y ho
    split at h
    · rename_i z hy
      split at h
      · rename_i v hx
        split at h
        · rename_i n e n0 hty
          split at h
          · rename_i he _
            · split at h
              · rename_i w hg
                obtain ⟨hz, h⟩ := h
                refine ⟨_, h, does_val fun c ρ hw hρ _ => ?_⟩
                obtain ⟨h1, h2⟩ := hρ x (by rw [ho]; simp [Op.operands]) _ hx
                obtain ⟨h3, h4⟩ := hρ y (by rw [ho]; simp [Op.operands]) _ hy
                have hlt : Int.toNat z < n := (Int.toNat_lt hz.1).2 hz.2
                have hat : At v.ty [.idx (Int.toNat z)] (Int.toNat z * e.sz) e := by
                  rw [he]
                  exact ⟨hlt, 0, by unfold At; exact ⟨rfl, rfl⟩, by omega⟩
                obtain ⟨k1, k2, k3⟩ := getV_sound c.E.B _ v w _ e hg hat
                refine ⟨?_, getV_ok _ v w _ e hg hat h2⟩
                have ha := tyB_arr (hT.ty.at hty)
                unfold arrB at ha
                split at ha
                · rename_i l el hu
                  simp only [Bool.and_eq_true, beq_iff_eq] at ha
                  obtain ⟨⟨rfl, hs⟩, hel⟩ := ha
                  cases hi : P.info? el with
                  | none => rw [hi] at hs; simp at hs
                  | some inf =>
                    have hsz : inf.size = e.sz := by simpa [hi] using hs
                    have h3' : ρ y = .int .i64 z := h3
                    have h1' : ρ x = .agg (v.cells c.E.B).toArray := by
                      rw [h1]
                      exact V.val_agg (by rw [he]; rfl)
                    unfold execOp
                    simp only [ho, h1', h3', Instr.index, asIntOf, Sem.run_bind, Sem.run_pure, Result.andThen_ok, run_underlying hu]
                    rw [if_pos hz]
                    simp only [sizeOf, typeInfo, Sem.run_bind, run_program, Result.andThen_ok, hi, Sem.run_pure, hsz]
                    rw [part_run (y := w) (B := c.E.B) (by rw [k1]; exact hel) (by rw [k1]; exact k3) (by rw [k1, V.cells_len]; exact k2)]
                    rfl
                · cases ha
              · exact h.elim
          · exact h.elim
        · exact h.elim
      · exact h.elim
    · exact h.elim
  · rename_i op t x y u ho
    split at h
    · rename_i s hx
      split at h
      · rename_i w hy
        obtain ⟨v, hk, hv⟩ := bop_sound hT h
        refine ⟨_, hk, does_val fun c ρ hw hρ _ => ?_⟩
        obtain ⟨h1, h2⟩ := hρ x (by rw [ho]; simp [Op.operands]) _ hx
        obtain ⟨h3, h4⟩ := hρ y (by rw [ho]; simp [Op.operands]) _ hy
        obtain ⟨h5, h6⟩ := hv c x y c.x h2 h4
        refine ⟨?_, h6⟩
        unfold execOp
        simp only [ho, h1, h3]
        rw [Sem.run_bind]
        show (Sem.run P (do eqGuard op t x y (s.val c.E) (w.val c.E); binOp op t (s.val c.E) (w.val c.E)) c.x).andThen _ = _
        rw [h5]
        rfl
      · exact h.elim
    · exact h.elim
  · rename_i t x ho
    split at h
    · rename_i b hx
      refine ⟨_, h, does_val fun c ρ hw hρ _ => ?_⟩
      obtain ⟨h1, h2⟩ := hρ x (by rw [ho]; simp [Op.operands]) _ hx
      refine ⟨?_, trivial⟩
      have h1' : ρ x = .bool b := h1
      unfold execOp
      simp only [ho, h1', Op.unary]
      rfl
    · exact h.elim
  · rename_i t x ho
    split at h
    · rename_i s hs
      split at h
      · rename_i ty n hty
        split at h
        · rename_i v hv
          have h := lenK_elim _ _ _ h
          rw [Nat.add_zero] at h
          refine ⟨_, h, does_new fun c ρ hw hρ => ?_⟩
          obtain ⟨h1, h2⟩ := hρ x (by rw [ho]; simp [Op.operands]) _ hs
          obtain ⟨h3, h4⟩ := asV_sound hv h2
          have h5 : ρ x = v.val c.E.B := h1.trans h3
          refine ⟨t, ?_, h4⟩
          unfold execOp
          simp only [ho, h5, Instr.box, newVar, newRow, Sem.run_bind, Sem.run_pure, Result.andThen_ok, run_newObj_alloc, V.val_cells v (V.cells_one v h4)]
        · exact h.elim
      · exact h.elim
    · exact h.elim
  · rename_i t ho
    split at h
    · rename_i ty n hty
      have h := lenK_elim _ _ _ h
      rw [Nat.add_zero] at h
      refine ⟨_, h, does_new (v := .leaf ty ty.zero) fun c ρ hw hρ => ?_⟩
      obtain ⟨v, h1, h2⟩ := zero_run (tyB_zero (hT.ty.at hty)) c.E.B c.x
      refine ⟨t, ?_, zero_wok _ _ _ _ ty⟩
      unfold execOp
      simp only [ho, Instr.alloc, newVar, newRow, Sem.run_bind, Sem.run_pure, h1, Result.andThen_ok, run_newObj_alloc, h2]
      rfl
    · exact h.elim
  · rename_i t parts ho
    split at h
    · rename_i ty n hty
      have hzr := fun (c : Cx) => zero_run (tyB_zero (hT.ty.at hty)) c.E.B c.x
      have hops : ∀ (ρ : Operand → Value) (c : Cx), (∀ y ∈ o.op.operands, ∀ s, evS f y = some s → ρ y = s.val c.E ∧ s.ok c) → ∀ e ∈ parts.toList, ∀ s, evS f e.2 = some s → ρ e.2 = s.val c.E ∧ s.ok c := fun ρ c hρ e he s hs => hρ e.2 (by
        rw [ho]
        simp only [Op.operands, List.mem_toArray, List.mem_map]
        exact ⟨e, he, rfl⟩) s hs
      split at h
      · rename_i m e
        have ha := tyB_arr (hT.ty.at hty)
        unfold arrB at ha
        split at ha
        · rename_i l el hu
          simp only [Bool.and_eq_true, beq_iff_eq] at ha
          obtain ⟨⟨rfl, hs⟩, hel⟩ := ha
          cases hi : P.info? el with
          | none => rw [hi] at hs; simp at hs
          | some inf =>
            have hsz : inf.size = e.sz := by simpa [hi] using hs
            obtain ⟨v', h1, h2, h3⟩ := part_sound (path := fun i => [.idx i]) (place := fun i => some (i * e.sz, e.sz)) (ty := .arr l e) (fun i hi => ⟨i * e.sz, e, ⟨hi, 0, by unfold At; exact ⟨rfl, rfl⟩, by omega⟩, rfl⟩) _ _ _ rfl h
            refine ⟨_, h1, does_val fun c ρ hw hρ _ => ?_⟩
            obtain ⟨z, z1, z2⟩ := hzr c
            obtain ⟨g1, g2⟩ := h3 c ρ (zero_wok _ _ _ _ (.arr l e)) (hops ρ c hρ)
            refine ⟨?_, g2⟩
            have hv : v'.val c.E.B = .agg (v'.cells c.E.B).toArray := V.val_agg (by rw [h2]; rfl)
            unfold execOp
            simp only [ho, Instr.build, Sem.run_bind, z1, Result.andThen_ok, run_underlying hu, sizeOf, typeInfo, run_program, hi, Sem.run_pure, hsz, Array.toList_map, z2]
            rw [show Instr.fill (fun i => some (i * e.sz, e.sz)) (flat c.E.B (.arr l e) (Ty.arr l e).zero).toArray (parts.toList.map fun (e : Nat × Operand) => match e with | (i, x) => (i, ρ x)) = some (v'.cells c.E.B).toArray from g1]
            simp only [Sem.run_pure, Result.andThen_ok, SV.val, AV.val, hv]
        · cases ha
      · rename_i hna
        have hb := hT.ty.at hty
        have hcnt := tyB_cnt hb
        split at h <;> first | exact h.elim | skip
        rename_i hn0
        have hn1 : 1 ≤ n := Nat.le_of_ble_eq_true hn0
        unfold cntB at hcnt
        split at hcnt
        · rename_i fields hu
          have hsize : fields.size = n := by simpa using hcnt
          have hfld : ∀ i, i < n → ∃ fl d u, fields[i]? = some fl ∧ At ty (fldP n i) d u ∧ fl.offset = d ∧ (P.info? fl.type).map (·.size) = some u.sz := fun i hi => by
            obtain ⟨d, u, e1, e2, e3⟩ := tyB_fld hb hi
            unfold fldB at e3
            rw [hu] at e3
            simp only at e3
            split at e3
            · rename_i fl hfl
              rw [Bool.and_eq_true, beq_iff_eq] at e3
              refine ⟨fl, d, u, hfl, offT_at _ _ _ _ e1, e3.1, ?_⟩
              have h5 := e3.2
              unfold tyB1 at h5
              split at h5
              · obtain ⟨_, _, _, hi⟩ := rowB_spec h5; exact hi
              · rename_i hag
                have hz : u.sz = 1 := by cases u <;> first | rfl | simp [Ty.agg] at hag
                rw [hz]; exact scB_size h5
            · cases e3
          have hmap : ∀ x : World, (fields.mapM fun fl => do pure (fl.offset, ← sizeOf fl.type) : Sem (Array (Nat × Nat))).run P x = .ok (fields.map fun fl => (fl.offset, P.cellsOf fl.type)) x := fun x => by
            have hl : ∀ l : List Field, (∀ fl ∈ l, ∃ i, P.info? fl.type = some i) → (l.mapM fun fl => do pure (fl.offset, ← sizeOf fl.type) : Sem (List (Nat × Nat))).run P x = .ok (l.map fun fl => (fl.offset, P.cellsOf fl.type)) x := by
              intro l
              induction l with
              | nil => intro _; simp
              | cons q l ih =>
                intro hq
                obtain ⟨inf, hinf⟩ := hq q (by simp)
                rw [List.mapM_cons, Sem.run_bind, Sem.run_bind, run_sizeOf x hinf, Result.andThen_ok, Sem.run_pure, Result.andThen_ok, Sem.run_bind, ih (fun fl hfl => hq fl (by simp [hfl]))]
                rfl
            have hops : fields = fields.toList.toArray := by simp
            rw [hops, List.mapM_toArray, Sem.run_map, hl _ (fun fl hfl => by
              obtain ⟨i, hi, hie⟩ := List.getElem_of_mem hfl
              obtain ⟨fl', d, u, g1, _, _, g4⟩ := hfld i (by simpa [hsize] using hi)
              have : fl' = fl := by
                have e1 : fields.toList[i]? = some fl := by rw [List.getElem?_eq_getElem hi, hie]
                rw [Array.getElem?_toList, g1] at e1
                exact Option.some.inj e1
              subst this
              cases hinf : P.info? fl'.type with
              | none => rw [hinf] at g4; simp at g4
              | some inf => exact ⟨inf, rfl⟩)]
            show Result.ok _ x = Result.ok _ x
            congr 1
            apply Array.toList_inj.1
            simp
          obtain ⟨v', h1, h2, h3⟩ := part_sound (path := fun i => fldP n i) (place := fun i => (fields.map fun fl => (fl.offset, P.cellsOf fl.type))[i]?) (ty := ty) (fun i hi => by
            obtain ⟨fl, d, u, g1, g2, g3, g4⟩ := hfld i hi
            refine ⟨d, u, g2, ?_⟩
            rw [Array.getElem?_map, g1]
            simp [g3, Program.cellsOf, g4]) _ _ _ rfl h
          refine ⟨_, h1, does_val fun c ρ hw hρ _ => ?_⟩
          obtain ⟨z, z1, z2⟩ := hzr c
          obtain ⟨g1, g2⟩ := h3 c ρ (zero_wok _ _ _ _ ty) (hops ρ c hρ)
          refine ⟨?_, g2⟩
          have hagg : ty.agg = true := by
            have h1 := tyB_1 hb
            unfold tyB1 at h1
            split at h1
            · assumption
            · unfold scB at h1
              rw [hu] at h1
              simp at h1
          have hv : v'.val c.E.B = .agg (v'.cells c.E.B).toArray := V.val_agg (by rw [h2]; exact hagg)
          unfold execOp
          simp only [ho, Instr.build, Sem.run_bind, z1, Result.andThen_ok, run_underlying hu, hmap, Array.toList_map, z2]
          rw [show Instr.fill (fun i => (fields.map fun fl => (fl.offset, P.cellsOf fl.type))[i]?) (flat c.E.B ty ty.zero).toArray (parts.toList.map fun (e : Nat × Operand) => match e with | (i, x) => (i, ρ x)) = some (v'.cells c.E.B).toArray from g1]
          simp only [Sem.run_pure, Result.andThen_ok, SV.val, AV.val, hv]
        · rename_i hns
          exfalso
          have hn0 : n = 0 := by simpa using hcnt
          omega
    · exact h.elim
  · rename_i x j ho
    split at h
    · rename_i l hx
      split at h
      · rename_i y hy
        refine ⟨_, h, does_val fun c ρ hw hρ _ => ?_⟩
        obtain ⟨h1, h2⟩ := hρ x (by rw [ho]; simp [Op.operands]) _ hx
        refine ⟨?_, h2 y (List.mem_of_getElem? hy)⟩
        unfold execOp
        simp only [ho, h1, SV.val, Instr.extract]
        simp [hy]
      · exact h.elim
    · exact h.elim
  · rename_i x ho
    split at h
    · rename_i i off p u hx
      refine ⟨_, h, does_val fun c ρ hw hρ _ => ?_⟩
      obtain ⟨h1, h2⟩ := hρ x (by rw [ho]; simp [Op.operands]) _ hx
      refine ⟨?_, h2⟩
      unfold execOp
      simp only [ho, h1, SV.val, AV.val]
      rfl
    · exact h.elim
  · exact h.elim
end

end Go.Proofs.Ytjbbgpacijageab.M

/- Calls of functions that are known by what they give back. No program is named here. -/
namespace Go.Proofs.Ytjbbgpacijageab.M
open Go.RowKit
set_option linter.unusedVariables false
set_option linter.unusedSimpArgs false

@[reducible] def DL : List Ty → Type
  | [] => Unit
  | t :: r => t.D × DL r
def leafs : (ts : List Ty) → DL ts → List V
  | [], _ => []
  | t :: r, d => .leaf t d.1 :: leafs r d.2
def wokL (XB : Nat → Prop) (B : Nat → Value) (F : Nat → Nat → Prop) (x : World) : (ts : List Ty) → DL ts → Prop
  | [], _ => True
  | t :: r, d => wok XB B F x t d.1 ∧ wokL XB B F x r d.2
def retV (B : Nat → Value) : List V → Value
  | [v] => v.val B
  | l => .tuple (l.map (V.val B)).toArray
def retL (B : Nat → Value) (ts : List Ty) (d : DL ts) : Value := retV B (leafs ts d)
def retS (ts : List Ty) (d : DL ts) : SV := match leafs ts d with | [v] => .a (.of v) | l => .tup (l.map AV.of)
def Ty.nolst : Ty → Bool
  | .int => true
  | .bool => true
  | .ref => false
  | .one t => t.nolst
  | .pair a b => a.nolst && b.nolst
  | .arr _ t => t.nolst
  | .lst _ => false
def nolstL : List Ty → Bool
  | [] => true
  | t :: r => t.nolst && nolstL r

structure Real (w0 : World) (F0 : Old) (bl : List V) (nn : NS) (c : Cx) : Prop where
  wf : c.Wf w0 F0
  XA : ∀ i, c.XA i ↔ i < bl.length
  XB : ∀ n, c.XB n ↔ n < nn.n
  ty : ∀ i v, bl[i]? = some v → c.ty i = some v.ty
  blk : ∀ i v, bl[i]? = some v → (∃ e, HB c.x (c.E.A i) (v.cells c.E.B).toArray e) ∧ v.okc c
  tk : Toks w0 c nn.tk

/-- A function that is walked where it is called: what it is handed, the blocks, the names, and what is to hold behind it. -/
abbrev MTr := List AV → List V → NS → (SV → List V → NS → Prop) → Prop
def MOk (P : Program) (g : Nat) (tr : MTr) : Prop :=
  ∀ (w0 : World) (F0 : Old) (args : List AV) (bl : List V) (nn : NS) (k : SV → List V → NS → Prop), tr args bl nn k → ∀ (c : Cx), Real w0 F0 bl nn c → (∀ s ∈ args, s.ok c) →
    Calls P g (args.map (AV.val c.E)).toArray c.x fun e x' => ∃ r bl' nn' c', e = .returned (r.val c'.E) ∧ k r bl' nn' ∧ Real w0 F0 bl' nn' c' ∧ c.Le c' ∧ r.ok c' ∧ c'.x = x'

/-- Pointers lead where they led. -/
def Cx.LeP (c c' : Cx) : Prop := ∀ i, c.XA i → c'.XA i ∧ c'.E.A i = c.E.A i ∧ c'.ty i = c.ty i
/-- The same for one that may store into lists: lists that were known ahead are forgotten. -/
def MOkT (P : Program) (g : Nat) (tr : MTr) : Prop :=
  ∀ (w0 : World) (F0 : Old) (args : List AV) (bl : List V) (nn : NS) (k : SV → List V → NS → Prop), tr args bl nn k → (∀ b e, F0.c.E.F b e → b < w0.heap.size) → ∀ (c : Cx), Real w0 F0 bl nn c → (∀ s ∈ args, s.ok c) →
    Calls P g (args.map (AV.val c.E)).toArray c.x fun e x' => ∃ r bl' nn' c', e = .returned (r.val c'.E) ∧ k r bl' nn' ∧ Real w0 F0 bl' nn' c' ∧ c.LeP c' ∧ r.ok c' ∧ c'.x = x'
/-- What a function gives back that is handed a pointer first, and reads what lies there. -/
structure PSpec where
  t : Ty
  args : List Ty
  res : List Ty
  cr : Bool
  m : t.D → DL args → Nat
  fn : Nat → t.D → DL args → DL res
  pre : t.D → DL args → Prop
structure PCtr (P : Program) (g : Nat) (s : PSpec) : Prop where
  nocr : s.cr = false → ∀ v d, s.m v d = 0
  run : ∀ (B : Nat → Value) (nn : Nat) (x : World) (F : Nat → Nat → Prop) (v : s.t.D) (d : DL s.args) (b off : Nat), (∀ b e, F b e → b < x.heap.size) → b < x.heap.size → (∀ j, j < s.t.sz → x.cell? ⟨b, off + j, none⟩ = (flat B s.t v)[j]?) → wok (· < nn) B F x s.t v → wokL (· < nn) B F x s.args d → s.pre v d →
    Calls P g (.pointer (some ⟨b, off, none⟩) :: (leafs s.args d).map (V.val B)).toArray x fun e x' => ∃ B' F', (∀ n, n < nn → B' n = B n) ∧ (∀ b e, F b e → F' b e) ∧ (∀ b e, b < x.heap.size → F' b e → F b e) ∧ (∀ b e, F' b e → b < x'.heap.size) ∧
      e = .returned (retL B' s.res (s.fn nn v d)) ∧ wokL (· < nn + s.m v d) B' F' x' s.res (s.fn nn v d) ∧ Below x.heap.size x x'

/-- What a function gives back, and under which condition. -/
structure Spec where
  args : List Ty
  res : List Ty
  cr : Bool
  m : DL args → Nat
  fn : Nat → DL args → DL res
  pre : DL args → Prop
  wk : Option MTr := none
  pt : Option PSpec := none
  tp : Bool := false
structure Ctr (P : Program) (g : Nat) (s : Spec) : Prop where
  nocr : s.cr = false → ∀ d, s.m d = 0
  run : ∀ (B : Nat → Value) (nn : Nat) (x : World) (F : Nat → Nat → Prop) (d : DL s.args), (∀ b e, F b e → b < x.heap.size) → wokL (· < nn) B F x s.args d → s.pre d →
    Calls P g ((leafs s.args d).map (V.val B)).toArray x fun e x' => ∃ B' F', (∀ n, n < nn → B' n = B n) ∧ (∀ b e, F b e → F' b e) ∧ (∀ b e, b < x.heap.size → F' b e → F b e) ∧ (∀ b e, F' b e → b < x'.heap.size) ∧
      e = .returned (retL B' s.res (s.fn nn d)) ∧ wokL (· < nn + s.m d) B' F' x' s.res (s.fn nn d) ∧ Below x.heap.size x x'

theorem wok_nolst {XB : Nat → Prop} {B : Nat → Value} {F : Nat → Nat → Prop} {x : World} : ∀ (t : Ty) (v : t.D), t.nolst = true → wok XB B F x t v
  | .int, _, _ => trivial
  | .bool, _, _ => trivial
  | .ref, v, h => by cases h
  | .one t, v, h => wok_nolst t v h
  | .pair a b, v, h => by
    simp only [Ty.nolst, Bool.and_eq_true] at h
    exact ⟨wok_nolst a v.1 h.1, wok_nolst b v.2 h.2⟩
  | .arr n t, f, h => fun i _ => wok_nolst t (f i) h
  | .lst t, v, h => by cases h
theorem wokL_nolst {XB : Nat → Prop} {B : Nat → Value} {F : Nat → Nat → Prop} {x : World} : ∀ (ts : List Ty) (d : DL ts), nolstL ts = true → wokL XB B F x ts d
  | [], _, _ => trivial
  | t :: r, d, h => by
    simp only [nolstL, Bool.and_eq_true] at h
    exact ⟨wok_nolst t d.1 h.1, wokL_nolst r d.2 h.2⟩
theorem wokL_mono {XB XB' : Nat → Prop} {B B' : Nat → Value} {F F' : Nat → Nat → Prop} {x x' : World} (hX : ∀ n, XB n → XB' n) (hB : ∀ n, XB n → B' n = B n) (hF : ∀ b e, F b e → F' b e) (hK : Keep F x x') (hs : x.heap.size ≤ x'.heap.size) :
    ∀ (ts : List Ty) (d : DL ts), wokL XB B F x ts d → wokL XB' B' F' x' ts d
  | [], _, _ => trivial
  | t :: r, d, h => ⟨wok_mono hX hB hF hK hs t d.1 h.1, wokL_mono hX hB hF hK hs r d.2 h.2⟩
theorem leafs_ok {c : Cx} : ∀ (ts : List Ty) (d : DL ts), wokL c.XB c.E.B c.E.F c.x ts d → ∀ v ∈ leafs ts d, v.okc c
  | [], _, _, v, hv => by cases hv
  | t :: r, d, h, v, hv => by
    simp only [leafs, List.mem_cons] at hv
    rcases hv with rfl | hv
    · exact h.1
    · exact leafs_ok r d.2 h.2 v hv
theorem ret_val (E : Env) (ts : List Ty) (d : DL ts) : (retS ts d).val E = retL E.B ts d := by
  unfold retS retL
  split
  · rename_i v hv
    rw [hv]; rfl
  · rename_i l hl
    have : retV E.B (leafs ts d) = .tuple ((leafs ts d).map (V.val E.B)).toArray := by
      unfold retV
      split
      · rename_i v hv
        exact absurd hv (hl v)
      · rfl
    rw [this]
    simp only [SV.val, List.map_map]
    rfl
theorem ret_ok {c : Cx} (ts : List Ty) (d : DL ts) (h : wokL c.XB c.E.B c.E.F c.x ts d) : (retS ts d).ok c := by
  have hl := leafs_ok ts d h
  unfold retS
  split
  · rename_i v hv
    exact hl v (by rw [hv]; simp)
  · intro y hy
    simp only [List.mem_map] at hy
    obtain ⟨v, hv, rfl⟩ := hy
    exact hl v hv

/-- A slice of an array of the function's own, as a list. -/
def ownL (t : Ty) (g : Nat → t.D) (lo len : Nat) : List t.D := (List.range len).map fun k => g (lo + k)

/-- An argument as a value of a type; what is a slice of an array of one's own gets a name. -/
def argK (bl : List V) (nn : Nat) (s : AV) (t : Ty) (k : t.D → List AV → Prop) : Prop :=
  match s with
  | .of v => denK v t fun d => k d []
  | .raw (.slice none 0 0) => match t, k with
    | .lst _, k => k (nilH, []) []
    | _, _ => False
  | .slc i off p n e lo len cap => match t, k with
    | .lst u, k => match decEq e u with
      | .isTrue _ => match nthB bl i with
        | some b => match getV b p with
          | some y => denK y (.arr n u) fun g => k (.nm nn, ownL u g lo len) [.slc i off p n e lo len cap]
          | none => False
        | none => False
      | .isFalse _ => False
    | _, _ => False
  | _ => False
def argsK (f : Fr) (bl : List V) : List Operand → (ts : List Ty) → Nat → (DL ts → List AV → Prop) → Prop
  | [], [], _, k => k () []
  | x :: r, t :: ts, nn, k => match evS f x with
    | some (.a s) => argK bl nn s t fun d hs => match hs with
      | [] => argsK f bl r ts nn fun ds hs' => k (d, ds) hs'
      | h :: _ => argsK f bl r ts (nn + 1) fun ds hs' => k (d, ds) (h :: hs')
    | _ => False
  | _, _, _, _ => False
def slcI : AV → Nat
  | .slc i _ _ _ _ _ _ _ => i
  | _ => 0
def spL : List (Nat × Spec) → Nat → Option Spec
  | [], _ => none
  | (g', s) :: r, g => match Nat.beq g g' with | true => some s | false => spL r g
def SpecsOk (P : Program) (S : List (Nat × Spec)) : Prop := ∀ e ∈ S, ((e.2.wk = none → e.2.pt = none → Ctr P e.1 e.2) ∧ (∀ tr, e.2.wk = some tr → (e.2.tp = false → MOk P e.1 tr) ∧ (e.2.tp = true → MOkT P e.1 tr)) ∧ ∀ p, e.2.pt = some p → PCtr P e.1 p) ∧ (match P.funcs[e.1]? with | some fn => !(fn.name == "runtime.NumGoroutine") && fn.body.isSome | none => false) = true
theorem spL_mem : ∀ (S : List (Nat × Spec)) (g : Nat) (s : Spec), spL S g = some s → (g, s) ∈ S
  | [], _, _, h => by cases h
  | (g', s') :: r, g, s, h => by
    unfold spL at h
    split at h
    · rename_i hb
      have := Nat.eq_of_beq_eq_true hb
      subst this; cases h; simp
    · exact List.mem_cons_of_mem _ (spL_mem r g s h)
theorem SpecsOk.nil (P : Program) : SpecsOk P [] := fun e he => by cases he
theorem SpecsOk.cons {P : Program} {S : List (Nat × Spec)} {g : Nat} {s : Spec} (h : Ctr P g s) (hb : (match P.funcs[g]? with | some fn => !(fn.name == "runtime.NumGoroutine") && fn.body.isSome | none => false) = true) (hS : SpecsOk P S) (hm : s.wk = none := by rfl) (hp : s.pt = none := by rfl) : SpecsOk P ((g, s) :: S) := fun e he => by
  rcases List.mem_cons.1 he with rfl | he
  · exact ⟨⟨fun _ _ => h, fun tr htr => (by rw [hm] at htr; cases htr), fun p hpt => (by rw [hp] at hpt; cases hpt)⟩, hb⟩
  · exact hS e he
/-- A function to be walked at its calls. -/
abbrev mutS (tr : MTr) : Spec := { args := [], res := [], cr := false, m := fun _ => 0, fn := fun _ _ => (), pre := fun _ => False, wk := some tr }
theorem SpecsOk.mut {P : Program} {S : List (Nat × Spec)} {g : Nat} {tr : MTr} (h : MOk P g tr) (hb : (match P.funcs[g]? with | some fn => !(fn.name == "runtime.NumGoroutine") && fn.body.isSome | none => false) = true) (hS : SpecsOk P S) : SpecsOk P ((g, mutS tr) :: S) := fun e he => by
  rcases List.mem_cons.1 he with rfl | he
  · exact ⟨⟨fun h0 => (by cases h0), fun tr' htr => (by cases htr; exact ⟨fun _ => h, fun h0 => (by cases h0)⟩), fun p hp => (by cases hp)⟩, hb⟩
  · exact hS e he
/-- One that may store into lists. -/
abbrev topS (tr : MTr) : Spec := { args := [], res := [], cr := false, m := fun _ => 0, fn := fun _ _ => (), pre := fun _ => False, wk := some tr, tp := true }
theorem SpecsOk.top {P : Program} {S : List (Nat × Spec)} {g : Nat} {tr : MTr} (h : MOkT P g tr) (hb : (match P.funcs[g]? with | some fn => !(fn.name == "runtime.NumGoroutine") && fn.body.isSome | none => false) = true) (hS : SpecsOk P S) : SpecsOk P ((g, topS tr) :: S) := fun e he => by
  rcases List.mem_cons.1 he with rfl | he
  · exact ⟨⟨fun h0 => (by cases h0), fun tr' htr => (by cases htr; exact ⟨fun h0 => (by cases h0), fun _ => h⟩), fun p hp => (by cases hp)⟩, hb⟩
  · exact hS e he
/-- A function that reads through its first argument. -/
abbrev ptrS (p : PSpec) : Spec := { args := [], res := [], cr := false, m := fun _ => 0, fn := fun _ _ => (), pre := fun _ => False, pt := some p }
theorem SpecsOk.ptr {P : Program} {S : List (Nat × Spec)} {g : Nat} {p : PSpec} (h : PCtr P g p) (hb : (match P.funcs[g]? with | some fn => !(fn.name == "runtime.NumGoroutine") && fn.body.isSome | none => false) = true) (hS : SpecsOk P S) : SpecsOk P ((g, ptrS p) :: S) := fun e he => by
  rcases List.mem_cons.1 he with rfl | he
  · exact ⟨⟨fun _ h0 => (by cases h0), fun tr htr => (by cases htr), fun p' hp => (by cases hp; exact h)⟩, hb⟩
  · exact hS e he

def tupK : (ts : List Ty) → DL ts → (List AV → Prop) → Prop
  | [], _, k => k []
  | t :: r, d, k => tupK r d.2 fun l => k (.of (.leaf t d.1) :: l)
def retK (ts : List Ty) (d : DL ts) (k : SV → Prop) : Prop :=
  match ts, d with
  | [t], d => k (.a (.of (.leaf t d.1)))
  | ts, d => tupK ts d fun l => k (.tup l)
theorem tupK_elim : ∀ (ts : List Ty) (d : DL ts) (k : List AV → Prop), tupK ts d k → k ((leafs ts d).map AV.of)
  | [], _, _, h => h
  | t :: r, d, k, h => tupK_elim r d.2 _ h
theorem retK_elim {ts : List Ty} {d : DL ts} {k : SV → Prop} (h : retK ts d k) : k (retS ts d) := by
  match ts, d, h with
  | [], d, h => exact h
  | [t], d, h => exact h
  | t :: u :: r, d, h => exact tupK_elim _ _ _ h
/-- A call that reads through its first argument. -/
def ptrK (p : PSpec) (f : Fr) (bl : List V) (xs : List Operand) (nn : Nat) (k : Out → Prop) : Prop :=
  match xs with
  | x :: r => match evS f x with
    | some (.a (.ptr i off q u)) => match decEq u p.t with
      | .isTrue _ => match nthB bl i with
        | some b => match getV b q with
          | some y => denK y p.t fun v => argsK f bl r p.args nn fun d hs => match hs with
            | [] => Need (p.pre v d) (retK p.res (p.fn nn v d) fun s => k ⟨s, .none, p.m v d, [i], true, p.cr⟩)
            | _ :: _ => False
          | none => False
        | none => False
      | .isFalse _ => False
    | _ => False
  | [] => False
def callK (T : Tab) (S : List (Nat × Spec)) (c : Call) (f : Fr) (bl : List V) (nn : Nat) (k : Out → Prop) : Prop :=
  match c.callee with
  | .value (.func g) => match spL S g with
    | some ⟨_, _, _, _, _, _, none, some p, _⟩ => ptrK p f bl c.args.toList nn k
    | some ⟨args, res, cr, m, fn, pre, none, none, _⟩ => argsK f bl c.args.toList args nn fun d hs => match hs with
      | [] => Need (pre d) (retK res (fn nn d) fun v => k ⟨v, .none, m d, [], true, cr⟩)
      | h :: r => match nolstL res with
        | true => Need (pre d) (retK res (fn (nn + (h :: r).length) d) fun v => k ⟨v, .none, (h :: r).length + m d, (h :: r).map slcI, true, true⟩)
        | false => False
    | _ => False
  | .builtin .len => match c.args.toList with
    | [x] => match c.argTypes.toList with
      | [t] => match tyL T.ty t with
        | some (.lst _, _) => match evS f x with
          | some (.a (.of (.leaf (.lst e) v))) => k (.val (.a (.of (.leaf .int (v.2.length : Int)))))
          | _ => False
        | _ => False
      | _ => False
    | _ => False
  | _ => False

/-- The names of slices of one's own, as they are handed on. -/
def nameB (B : Nat → Value) (nn : Nat) (E : Env) : List AV → Nat → Value
  | [], n => B n
  | h :: r, n => if n = nn then h.val E else nameB B (nn + 1) E r n

section
variable {P : Program} {w0 : World} {F0 : Old}

theorem nameB_lt {B : Nat → Value} {E : Env} : ∀ (hs : List AV) (nn n : Nat), n < nn → nameB B nn E hs n = B n
  | [], _, _, _ => rfl
  | h :: r, nn, n, hn => by
    unfold nameB
    rw [if_neg (by omega), nameB_lt r (nn + 1) n (by omega)]

/-- The blocks that are handed on lie still meanwhile. -/
def lent (c : Cx) (hs : List AV) (b e : Nat) : Prop := c.E.F b e ∨ ∃ h ∈ hs, b = c.E.A (slcI h) ∧ c.XA (slcI h)

theorem argK_sound {bl : List V} {nn : Nat} {s : AV} {t : Ty} {k : t.D → List AV → Prop} (h : argK bl nn s t k) : ∃ d hs, k d hs ∧ hs.length ≤ 1 ∧
    ∀ (c : Cx), s.ok c → (∀ h ∈ hs, c.XA (slcI h)) ∧ ((∀ i, i ∈ hs.map slcI → ∀ v, bl[i]? = some v → c.XA i ∧ c.ty i = some v.ty ∧ (∃ e, HB c.x (c.E.A i) (v.cells c.E.B).toArray e) ∧ v.okc c) → (∀ n, c.XB n → n < nn) → ∀ (c' : Cx), c.Le c' → c'.x = c.x → (∀ h ∈ hs, c'.E.B nn = h.val c.E ∧ c'.XB nn ∧ ∀ e, c'.E.F (c.E.A (slcI h)) e) →
      (V.leaf t d).val c'.E.B = s.val c.E ∧ wokc c' t d) := by
  unfold argK at h
  split at h
  · rename_i v
    obtain ⟨d, h1, h2, h3, h4⟩ := denK_sound v t _ h
    refine ⟨d, [], h1, by simp, fun c hs => ⟨fun h hh => (by cases hh), fun _ _ c' hle _ _ => ?_⟩⟩
    have hw : wokc c t d := h4 _ _ _ _ hs
    refine ⟨?_, wokc_mono hle hw⟩
    show _ = v.val c.E.B
    rw [val_leaf h2 (h3 c.E.B)]
    exact V.valc (v := .leaf t d) hle hw
  · split at h
    · refine ⟨_, _, h, by simp, fun c _ => ⟨fun h hh => (by cases hh), fun _ _ c' _ _ _ => ⟨rfl, trivial, Or.inl ⟨rfl, none, 0, rfl⟩⟩⟩⟩
    · exact h.elim
  · rename_i i off p n e lo len cap
    split at h
    · rename_i u k
      split at h
      · rename_i he _
        subst he
        split at h
        · rename_i b hb
          split at h
          · rename_i y hy
            rw [nthB_eq] at hb
            obtain ⟨g, h1, h2, h3, h4⟩ := denK_sound y (.arr n e) _ h
            refine ⟨_, _, h1, by simp, fun c hs => ⟨fun h hh => by simp at hh; subst hh; exact hs.1, fun ht hnn c' hle hx hh => ?_⟩⟩
            obtain ⟨e1, e2, e3⟩ := hh (.slc i off p n e lo len cap) (by simp)
            refine ⟨e1, e2, ?_⟩
            obtain ⟨g2, g3, ⟨q, g4⟩, g5⟩ := ht i (by simp [slcI]) b hb
            obtain ⟨k1, ⟨T, k2, k3⟩, k4, k5, k6⟩ := hs
            rw [g3] at k2
            cases k2
            obtain ⟨m1, m2, m3⟩ := getV_sound c.E.B p b y off _ hy k3
            have hlen : (ownL e g lo len).length = len := by simp [ownL]
            by_cases hl0 : len = 0
            · refine Or.inl ⟨by rw [← List.length_eq_zero_iff, hlen, hl0], ?_⟩
              show ∃ ad cap, c'.E.B nn = .slice ad 0 cap
              rw [e1]
              exact ⟨_, _, by simp only [AV.val, hl0]; rfl⟩
            · have hcap : cap ≠ 0 := by omega
              refine Or.inr ⟨c.E.A i, off + lo * e.sz, cap, ?_, by rw [hlen]; exact k5, ?_, Nat.lt_of_lt_of_le g4.lt hle.S, ⟨_, Nat.le_refl _, e3 _⟩, fun j z hz => ?_⟩
              · show c'.E.B nn = .slice _ (ownL e g lo len).length cap
                rw [e1, hlen]
                simp only [AV.val, if_neg hcap]
              · unfold maxLen; omega
              · have hj : j < len := by rw [← hlen]; exact (List.getElem?_eq_some_iff.1 hz).1
                have hzv : z = g (lo + j) := by
                  have : (ownL e g lo len)[j]? = some (g (lo + j)) := by simp [ownL, hj]
                  rw [this] at hz
                  exact (Option.some.inj hz).symm
                subst hzv
                have hgok : wok c.XB c.E.B c.E.F c.x e (g (lo + j)) := h4 _ _ _ _ (getV_ok p b y off _ hy k3 g5) (lo + j) (by omega)
                refine ⟨fun q hq => ?_, wokc_mono hle hgok⟩
                have hlt : lo + j < n := by omega
                have hle' : (lo + j) * e.sz + e.sz ≤ n * e.sz := by rw [← Nat.succ_mul]; exact Nat.mul_le_mul_right _ hlt
                have hrow := rows_get n (g := fun i => flat c.E.B e (g i)) (fun i _ => flat_len c.E.B e (g i)) (lo + j) hlt
                have hy2 : y.cells c.E.B = rows n fun i => flat c.E.B e (g i) := (h3 c.E.B).symm
                rw [hx, flat_congr (fun n hn => (hle.B n hn).2) e _ hgok]
                have hidx : off + lo * e.sz + j * e.sz + q = off + ((lo + j) * e.sz + q) := by rw [Nat.add_mul]; omega
                rw [hidx, hb_cell g4, ← drop_take_get (n := (Ty.arr n e).sz) (by simp only [Ty.sz]; omega), ← m3, hy2, ← hrow, drop_take_get hq]
          · exact h.elim
        · exact h.elim
      · exact h.elim
    · exact h.elim
  · exact h.elim

theorem argsK_sound {f : Fr} {bl : List V} : ∀ (xs : List Operand) (ts : List Ty) (nn : Nat) (k : DL ts → List AV → Prop), argsK f bl xs ts nn k → ∃ d hs, k d hs ∧
    ∀ (c : Cx) (ρ : Operand → Value), (∀ y ∈ xs, ∀ s, evS f y = some s → ρ y = s.val c.E ∧ s.ok c) → (∀ h ∈ hs, c.XA (slcI h)) ∧ ((∀ i, i ∈ hs.map slcI → ∀ v, bl[i]? = some v → c.XA i ∧ c.ty i = some v.ty ∧ (∃ e, HB c.x (c.E.A i) (v.cells c.E.B).toArray e) ∧ v.okc c) → (∀ n, c.XB n → n < nn) →
      ∀ (c' : Cx), c.Le c' → c'.x = c.x → (∀ j, j < hs.length → c'.XB (nn + j)) → (∀ j h, hs[j]? = some h → c'.E.B (nn + j) = h.val c.E) → (∀ h ∈ hs, ∀ e, c'.E.F (c.E.A (slcI h)) e) →
      xs.map ρ = (leafs ts d).map (V.val c'.E.B) ∧ wokL c'.XB c'.E.B c'.E.F c'.x ts d)
  | [], [], nn, k, h => ⟨(), [], h, fun c ρ _ => ⟨fun h hh => (by cases hh), fun _ _ c' _ _ _ _ _ => ⟨rfl, trivial⟩⟩⟩
  | x :: r, t :: ts, nn, k, h => by
    unfold argsK at h
    split at h
    · rename_i s hs
      obtain ⟨d, h1, hk, hl1, hd⟩ := argK_sound h
      match h1, hk, hl1, hd with
      | [], hk, _, hd =>
        obtain ⟨ds, h2, hk2, hds⟩ := argsK_sound r ts nn _ hk
        refine ⟨(d, ds), h2, hk2, fun c ρ hρ => ⟨(hds c ρ (fun y hy => hρ y (by simp [hy]))).1, fun ht hnn c' hle hx hX hB hF => ?_⟩⟩
        obtain ⟨e1, e2⟩ := hρ x (by simp) _ hs
        obtain ⟨e3, e4⟩ := (hd c e2).2 (fun i hi => by cases hi) hnn c' hle hx (fun h hh => by cases hh)
        obtain ⟨e5, e6⟩ := (hds c ρ (fun y hy => hρ y (by simp [hy]))).2 ht hnn c' hle hx hX hB hF
        refine ⟨?_, e4, e6⟩
        rw [List.map_cons, e5, e1]
        show _ = (V.leaf t d).val c'.E.B :: _
        rw [e3]
        rfl
      | [h0], hk, _, hd =>
        obtain ⟨ds, h2, hk2, hds⟩ := argsK_sound r ts (nn + 1) _ hk
        refine ⟨(d, ds), h0 :: h2, hk2, fun c ρ hρ => ⟨fun h hh => ?_, fun ht hnn c' hle hx hX hB hF => ?_⟩⟩
        · rcases List.mem_cons.1 hh with rfl | hh
          · exact (hd c (hρ x (by simp) _ hs).2).1 h (by simp)
          · exact (hds c ρ (fun y hy => hρ y (by simp [hy]))).1 h hh
        obtain ⟨e1, e2⟩ := hρ x (by simp) _ hs
        obtain ⟨e3, e4⟩ := (hd c e2).2 (fun i hi => ht i (by simp at hi ⊢; exact Or.inl hi)) hnn c' hle hx (fun h hh => by
          have : h = h0 := by simpa using hh
          subst this
          exact ⟨hB 0 h rfl, hX 0 (by simp), hF h (by simp)⟩)
        obtain ⟨e5, e6⟩ := (hds c ρ (fun y hy => hρ y (by simp [hy]))).2 (fun i hi => ht i (by simp at hi ⊢; exact Or.inr hi)) (fun n hn => Nat.lt_succ_of_lt (hnn n hn)) c' hle hx
          (fun j hj => by have := hX (j + 1) (by simpa using hj); rwa [show nn + (j + 1) = nn + 1 + j from by omega] at this)
          (fun j h hj => by have := hB (j + 1) h (by simpa using hj); rwa [show nn + (j + 1) = nn + 1 + j from by omega] at this)
          (fun h hh => hF h (by simp [hh]))
        refine ⟨?_, e4, e6⟩
        rw [List.map_cons, e5, e1]
        show _ = (V.leaf t d).val c'.E.B :: _
        rw [e3]
        rfl
      | _ :: _ :: _, _, hl1, _ => simp at hl1
    · exact h.elim
  | [], _ :: _, _, _, h => by unfold argsK at h; exact h.elim
  | _ :: _, [], _, _, h => by unfold argsK at h; exact h.elim

theorem nameB_at {B : Nat → Value} {E : Env} : ∀ (hs : List AV) (nn j : Nat) (h : AV), hs[j]? = some h → nameB B nn E hs (nn + j) = h.val E
  | [], _, _, _, h => by simp at h
  | h0 :: r, nn, 0, h, hh => by
    simp at hh
    subst hh
    unfold nameB
    rw [Nat.add_zero, if_pos rfl]
  | h0 :: r, nn, j + 1, h, hh => by
    unfold nameB
    rw [if_neg (by omega), show nn + (j + 1) = nn + 1 + j from by omega]
    exact nameB_at r (nn + 1) j h (by simpa using hh)

theorem callFunc_run {g : Nat} (h : (match P.funcs[g]? with | some fn => !(fn.name == "runtime.NumGoroutine") && fn.body.isSome | none => false) = true) (args : Array Value) (x : World) : (callFunc g args).run P x = .ok (.enter g args) x := by
  split at h
  · rename_i fn hfn
    rw [Bool.and_eq_true, Bool.not_eq_true'] at h
    have h1 : ¬ fn.name = "runtime.NumGoroutine" := by simpa using h.1
    have h2 : ¬ fn.body = none := fun hb => by rw [hb] at h; simp at h
    unfold callFunc
    simp [go_sem, hfn, h1, h2]
  · cases h

theorem ptrK_sound {p : PSpec} {g : Nat} (hp : PCtr P g p) (hbody : (match P.funcs[g]? with | some fn => !(fn.name == "runtime.NumGoroutine") && fn.body.isSome | none => false) = true) {o : Oper} {c : Call} (ho : o.op = .call c) (hc : c.callee = .value (.func g)) {f : Fr} {bl : List V} {nn : Nat} {k : Out → Prop} (h : ptrK p f bl c.args.toList nn k) : ∃ out, k out ∧ Does P w0 F0 o f (fun i => bl[i]?) bl.length nn out := by
  unfold ptrK at h
  split at h <;> first | exact h.elim | skip
  rename_i x r hxs
  split at h <;> first | exact h.elim | skip
  rename_i i off q u hx
  split at h <;> first | exact h.elim | skip
  rename_i he _
  subst he
  split at h <;> first | exact h.elim | skip
  rename_i b hb
  split at h <;> first | exact h.elim | skip
  rename_i y hy
  rw [nthB_eq] at hb
  obtain ⟨v, h1, h2, h3, h4⟩ := denK_sound y _ _ h
  obtain ⟨d, hl, hk, hd⟩ := argsK_sound _ _ _ _ h1
  split at hk <;> first | exact hk.elim | skip
  obtain ⟨hpre, hk⟩ := hk
  have hk := retK_elim hk
  refine ⟨_, hk, fun hcr => hp.nocr hcr v d, ?_⟩
  intro cx ρ hw hρ ht _ hq
  have hX := hq rfl
  have hops : ∀ z ∈ c.args.toList, ∀ s, evS f z = some s → ρ z = s.val cx.E ∧ s.ok cx := fun z hz => hρ z (by
    rw [ho]
    simp only [Op.operands, Call.operands, hc, Array.mem_append]
    exact Or.inr (by simpa using hz))
  obtain ⟨e1, e2⟩ := hops x (by rw [hxs]; simp) _ hx
  obtain ⟨_, t', e3, e4⟩ := e2
  obtain ⟨g2, g3, ⟨e, g4⟩, g5⟩ := ht i (Or.inl (by simp)) b hb
  rw [g3] at e3
  cases e3
  obtain ⟨m1, m2, m3⟩ := getV_sound cx.E.B q b y off _ hy e4
  have hlt : ∀ n, cx.XB n → n < nn := fun n hn => (hX n).1 hn
  have hwv : wok (· < nn) cx.E.B cx.E.F cx.x p.t v := wok_mono hlt (fun _ _ => rfl) (fun _ _ h => h) (fun _ _ _ _ _ => rfl) (Nat.le_refl _) _ _ (h4 _ _ _ _ (getV_ok q b y off _ hy e4 g5))
  have hcells : ∀ j, j < p.t.sz → cx.x.cell? ⟨cx.E.A i, off + j, none⟩ = (flat cx.E.B p.t v)[j]? := fun j hj => by
    rw [hb_cell g4, h3 cx.E.B, m3, drop_take_get hj]
  obtain ⟨e5, e6⟩ := (hd cx ρ (fun z hz => hops z (by rw [hxs]; simp [hz]))).2 (fun i hi => by cases hi) hlt cx (Cx.Le.refl _) rfl (fun j hj => by cases hj) (fun j h hj => by cases hj) (fun h hh => by cases hh)
  have e6' : wokL (· < nn) cx.E.B cx.E.F cx.x p.args d := wokL_mono hlt (fun _ _ => rfl) (fun _ _ h => h) (fun _ _ _ _ _ => rfl) (Nat.le_refl _) _ _ e6
  have hcall := hp.run cx.E.B nn cx.x cx.E.F v d (cx.E.A i) off hw.fhi (hw.hi i g2) hcells hwv e6' hpre
  have hargs : c.args.map ρ = (Value.pointer (some ⟨cx.E.A i, off, none⟩) :: (leafs p.args d).map (V.val cx.E.B)).toArray := by
    apply Array.toList_inj.1
    rw [Array.toList_map, hxs, List.map_cons, e5, e1]
    rfl
  have hx' : (execOp ρ o).run P cx.x = .ok (.enter g (Value.pointer (some ⟨cx.E.A i, off, none⟩) :: (leafs p.args d).map (V.val cx.E.B)).toArray) cx.x := by
    have hg : ρ (.func g) = .func (.func g) #[] #[] := (hρ (.func g) (by rw [ho]; simp [Op.operands, Call.operands, hc]) _ rfl).1
    unfold execOp
    simp only [ho, resolve, hc, hg, hargs, Deferred.ofValue, Sem.run_bind, Sem.run_pure, Result.andThen_ok, invoke]
    simp [callFunc_run hbody]
  rw [hx']
  refine hcall.mono fun e x' he => ?_
  obtain ⟨B', F', b1, b2, b3, b4, rfl, b6, b7⟩ := he
  refine ⟨_, rfl, ⟨cx.E.A, B', F'⟩, by rw [ret_val], ?_, fun _ _ => rfl, fun n hn => b1 n (hlt n hn), b2, b3, b4, ⟨b7.os, b7.tape, b7.output, b7.size, fun k hk _ => b7.block k hk⟩, (fun y hy => by cases hy), (fun i y hy => by cases hy)⟩
  apply ret_ok
  refine wokL_mono (fun n hn => ?_) (fun _ _ => rfl) (fun _ _ h => h) (fun _ _ _ _ _ => rfl) (Nat.le_refl _) _ _ b6
  show cx.XB n ∨ (nn ≤ n ∧ n < nn + p.m v d)
  rcases Nat.lt_or_ge n nn with h' | h'
  · exact Or.inl ((hX n).2 h')
  · exact Or.inr ⟨h', hn⟩

theorem callK_sound {T : Tab} (hT : TabOk P T) {S : List (Nat × Spec)} (hS : SpecsOk P S) {o : Oper} {c : Call} (ho : o.op = .call c) {f : Fr} {bl : List V} {nn : Nat} {k : Out → Prop} (h : callK T S c f bl nn k) : ∃ out, k out ∧ Does P w0 F0 o f (fun i => bl[i]?) bl.length nn out := by
  unfold callK at h
  split at h
  · rename_i g hc
    split at h
    · rename_i a1 a2 a3 a4 a5 a6 p a7 hs
      obtain ⟨⟨_, _, hp⟩, hbody⟩ := hS _ (spL_mem _ _ _ hs)
      exact ptrK_sound (hp p rfl) hbody ho hc h
    · rename_i a1 a2 a3 a4 a5 a6 a7 hs
      obtain ⟨⟨hctr, _⟩, hbody⟩ := hS _ (spL_mem _ _ _ hs)
      obtain ⟨d, hl, hk, hd⟩ := argsK_sound _ _ _ _ h
      let s : Spec := ⟨a1, a2, a3, a4, a5, a6, none, none, a7⟩
      have hctr : Ctr P g s := hctr rfl rfl
      -- what a call does, once and for all
      have main : ∀ (out : Out), out.ef = .none → out.q = true → out.m = hl.length + s.m d → out.r = retS s.res (s.fn (nn + hl.length) d) → out.rd = hl.map slcI → (hl = [] ∨ nolstL s.res = true) → s.pre d → (out.cr = false → out.m = 0) → Does P w0 F0 o f (fun i => bl[i]?) bl.length nn out := by
        intro out o1 o2 o3 o4 o5 hno hpre hcr
        refine ⟨hcr, ?_⟩
        intro cx ρ hw hρ ht _ hq
        have hX := hq o2
        let c' : Cx := { XA := cx.XA, XB := fun n => n < nn + hl.length, ty := cx.ty, E := ⟨cx.E.A, nameB cx.E.B nn cx.E hl, lent cx hl⟩, x := cx.x }
        have hle : cx.Le c' := ⟨fun i hi => ⟨hi, rfl, rfl⟩, fun n hn => ⟨Nat.lt_of_lt_of_le ((hX n).1 hn) (Nat.le_add_right _ _), nameB_lt _ _ _ ((hX n).1 hn)⟩, fun b e he => Or.inl he, fun _ _ _ _ _ => rfl, Nat.le_refl _⟩
        have ht' : ∀ i, i ∈ hl.map slcI → ∀ v, bl[i]? = some v → cx.XA i ∧ cx.ty i = some v.ty ∧ (∃ e, HB cx.x (cx.E.A i) (v.cells cx.E.B).toArray e) ∧ v.okc cx := fun i hi => ht i (Or.inl (by rw [o5]; exact hi))
        obtain ⟨hXA, hd'⟩ := hd cx ρ (fun y hy => hρ y (by
          rw [ho]
          simp only [Op.operands, Call.operands, hc, Array.mem_append]
          exact Or.inr (by simpa using hy)))
        obtain ⟨e1, e2⟩ := hd' ht' (fun n hn => (hX n).1 hn) c' hle rfl (fun j hj => Nat.add_lt_add_left hj _) (fun j h hj => nameB_at _ _ _ _ hj) (fun h hh e => Or.inr ⟨h, hh, rfl, hXA h hh⟩)
        have hfhi : ∀ b e, lent cx hl b e → b < cx.x.heap.size := fun b e he => by
          rcases he with he | ⟨h, hh, rfl, hx⟩
          · exact hw.fhi b e he
          · exact hw.hi _ hx
        have hcall := hctr.run (nameB cx.E.B nn cx.E hl) (nn + hl.length) cx.x (lent cx hl) d hfhi e2 hpre
        have hargs : c.args.map ρ = ((leafs s.args d).map (V.val (nameB cx.E.B nn cx.E hl))).toArray := by
          apply Array.toList_inj.1
          rw [Array.toList_map, e1]
        have hx : (execOp ρ o).run P cx.x = .ok (.enter g ((leafs s.args d).map (V.val (nameB cx.E.B nn cx.E hl))).toArray) cx.x := by
          have hg : ρ (.func g) = .func (.func g) #[] #[] := (hρ (.func g) (by rw [ho]; simp [Op.operands, Call.operands, hc]) _ rfl).1
          unfold execOp
          simp only [ho, resolve, hc, hg, hargs, Deferred.ofValue, Sem.run_bind, Sem.run_pure, Result.andThen_ok, invoke]
          simp [callFunc_run hbody]
        rw [hx]
        refine hcall.mono fun e x' he => ?_
        obtain ⟨B', F', b1, b2, b3, b4, rfl, b6, b7⟩ := he
        refine ⟨_, rfl, ⟨cx.E.A, B', fun b e => (b < cx.x.heap.size ∧ cx.E.F b e) ∨ (cx.x.heap.size ≤ b ∧ F' b e)⟩, ?_⟩
        have hXB : ∀ n, n < nn + hl.length + s.m d → (cx.ext out bl.length nn ⟨cx.E.A, B', fun b e => (b < cx.x.heap.size ∧ cx.E.F b e) ∨ (cx.x.heap.size ≤ b ∧ F' b e)⟩ x').XB n := fun n hn => by
          show cx.XB n ∨ (nn ≤ n ∧ n < nn + out.m)
          rcases Nat.lt_or_ge n nn with h' | h'
          · exact Or.inl ((hX n).2 h')
          · exact Or.inr ⟨h', by rw [o3]; omega⟩
        refine ⟨by rw [o4, ret_val], ?_, fun _ _ => rfl, fun n hn => ?_, fun b e he => Or.inl ⟨hw.fhi b e he, he⟩, fun b e hb he => ?_, fun b e he => ?_, ⟨b7.os, b7.tape, b7.output, b7.size, fun k hk _ => b7.block k hk⟩, (fun y hy => by rw [o1] at hy; cases hy), (fun i y hy => by rw [o1] at hy; cases hy)⟩
        · rw [o4]
          apply ret_ok
          rcases hno with rfl | hno
          · refine wokL_mono hXB (fun _ _ => rfl) (fun b e he => ?_) (fun _ _ _ _ _ => rfl) (Nat.le_refl _) _ _ b6
            rcases Nat.lt_or_ge b cx.x.heap.size with hb | hb
            · left
              refine ⟨hb, ?_⟩
              rcases b3 b e hb he with h | ⟨h, hh, _⟩
              · exact h
              · cases hh
            · exact Or.inr ⟨hb, he⟩
          · exact wokL_nolst _ _ hno
        · show B' n = cx.E.B n
          rw [b1 n (Nat.lt_of_lt_of_le ((hX n).1 hn) (Nat.le_add_right _ _)), nameB_lt _ _ _ ((hX n).1 hn)]
        · rcases he with ⟨_, he⟩ | ⟨hb', _⟩
          · exact he
          · omega
        · rcases he with ⟨hb, _⟩ | ⟨_, he⟩
          · exact Nat.lt_of_lt_of_le hb b7.size
          · exact b4 b e he
      split at hk
      · obtain ⟨hpre, hk⟩ := hk
        have hk := retK_elim hk
        exact ⟨_, hk, main _ rfl rfl (Nat.zero_add _).symm rfl rfl (Or.inl rfl) hpre (fun hcr => hctr.nocr hcr d)⟩
      · split at hk
        · rename_i hno
          obtain ⟨hpre, hk⟩ := hk
          have hk := retK_elim hk
          exact ⟨_, hk, main _ rfl rfl rfl rfl rfl (Or.inr hno) hpre (fun h => by cases h)⟩
        · exact hk.elim
    · exact h.elim
  · rename_i hc
    split at h
    · rename_i x hx
      split at h
      · rename_i t ht
        split at h
        · rename_i e0 n0 hty
          split at h
          · rename_i e v hv
            refine ⟨_, h, does_val fun cx ρ hw hρ _ => ?_⟩
            have hargs : c.args = #[x] := by apply Array.toList_inj.1; rw [hx]
            have hats : c.argTypes = #[t] := by apply Array.toList_inj.1; rw [ht]
            obtain ⟨h1, h2⟩ := hρ x (by rw [ho]; simp [Op.operands, Call.operands, hc, hargs]) _ hv
            refine ⟨?_, trivial⟩
            have hsl : ∃ ad cap, ρ x = .slice ad v.2.length cap := by
              rw [h1]
              rcases h2.2 with ⟨hnil, ad, cap, hd⟩ | ⟨b, o', cap, hd, _⟩
              · exact ⟨ad, cap, by rw [hnil]; exact hd⟩
              · exact ⟨_, cap, hd⟩
            obtain ⟨ad, cap, hsl⟩ := hsl
            have hl := tyB_lst (hT.ty.at hty)
            unfold lstB at hl
            split at hl
            · rename_i el hu
              unfold execOp
              simp only [ho, resolve, hc, hargs, hats, Sem.run_bind, Sem.run_pure, Result.andThen_ok, invoke]
              simp only [builtin, Builtin.len_, Sem.run_bind]
              simp [hsl, run_underlying hu, goInt, SV.val, AV.val, V.val]
            · cases hl
          · exact h.elim
        · exact h.elim
      · exact h.elim
    · exact h.elim
  · exact h.elim
end
end Go.Proofs.Ytjbbgpacijageab.M
