/- Types, values as trees, their cells, paths into them. No program is named here. -/
import Derived.Test.YtjbbgpacijageaaT0
namespace Go.Proofs.Ytjbbgpacijageaa.M
open Go.RowKit
set_option linter.unusedVariables false
set_option linter.unusedSimpArgs false

/-- Types of Go as they lie in memory: numbers, truth values, a struct of one field, of two (and so on), arrays, lists. -/
inductive Ty where
  | int | bool
  | one (t : Ty)
  | pair (a b : Ty)
  | arr (n : Nat) (t : Ty)
  | lst (t : Ty)
  deriving DecidableEq

/-- What stands in a cell for a list: a value that was there, or a name of one made since. -/
inductive Hd where
  | conc (v : Value)
  | nm (k : Nat)
def Hd.val (B : Nat → Value) : Hd → Value
  | .conc v => v
  | .nm k => B k

@[reducible] def Ty.D : Ty → Type
  | .int => Int
  | .bool => Bool
  | .one t => t.D
  | .pair a b => a.D × b.D
  | .arr _ t => Nat → t.D
  | .lst t => Hd × List t.D
def Ty.sz : Ty → Nat
  | .int => 1
  | .bool => 1
  | .one t => t.sz
  | .pair a b => a.sz + b.sz
  | .arr n t => n * t.sz
  | .lst _ => 1
/-- Bytes, at most. -/
def Ty.byt : Ty → Nat
  | .int => 8
  | .bool => 8
  | .one t => t.byt
  | .pair a b => a.byt + b.byt
  | .arr n t => n * t.byt
  | .lst _ => 24
def Ty.agg : Ty → Bool
  | .int => false
  | .bool => false
  | .lst _ => false
  | _ => true
def nilH : Hd := .conc (.slice none 0 0)
def Ty.zero : (t : Ty) → t.D
  | .int => (0 : Int)
  | .bool => false
  | .one t => t.zero
  | .pair a b => (a.zero, b.zero)
  | .arr _ t => fun _ => t.zero
  | .lst _ => (nilH, [])

/-- Rows one behind the other. -/
def rows {α : Type} (n : Nat) (g : Nat → List α) : List α := (List.range n).flatMap g
theorem rows_zero {α : Type} (g : Nat → List α) : rows 0 g = [] := rfl
theorem rows_succ {α : Type} (n : Nat) (g : Nat → List α) : rows (n + 1) g = rows n g ++ g n := by
  simp [rows, List.range_succ]
theorem rows_len {α : Type} {g : Nat → List α} {s : Nat} : ∀ n, (∀ i, i < n → (g i).length = s) → (rows n g).length = n * s
  | 0, _ => by simp [rows_zero]
  | n + 1, h => by rw [rows_succ, List.length_append, rows_len n (fun i hi => h i (by omega)), h n (by omega), Nat.succ_mul]
theorem rows_get {α : Type} {g : Nat → List α} {s : Nat} : ∀ n, (∀ i, i < n → (g i).length = s) → ∀ i, i < n → ((rows n g).drop (i * s)).take s = g i
  | 0, _, i, hi => by omega
  | n + 1, h, i, hi => by
    have hl := rows_len n (fun i hi => h i (by omega))
    rw [rows_succ]
    by_cases he : i = n
    · subst he
      rw [List.drop_append, hl, List.drop_of_length_le (by omega), Nat.sub_self]
      simp [List.take_of_length_le, h i (by omega)]
    · have hlt : i < n := by omega
      have hle : i * s + s ≤ n * s := by rw [← Nat.succ_mul]; exact Nat.mul_le_mul_right _ hlt
      rw [List.drop_append_of_le_length (by omega), List.take_append_of_le_length (by rw [List.length_drop]; omega)]
      exact rows_get n (fun i hi => h i (by omega)) i hlt
theorem rows_congr {α : Type} {g g' : Nat → List α} : ∀ n, (∀ i, i < n → g i = g' i) → rows n g = rows n g'
  | 0, _ => rfl
  | n + 1, h => by rw [rows_succ, rows_succ, rows_congr n (fun i hi => h i (by omega)), h n (by omega)]
/-- Cells from an offset on are others. -/
def splice {α : Type} (l : List α) (o : Nat) (n : List α) : List α := l.take o ++ n ++ l.drop (o + n.length)
theorem splice_len {α : Type} {l n : List α} {o : Nat} (h : o + n.length ≤ l.length) : (splice l o n).length = l.length := by
  simp [splice]; omega
theorem rows_set {α : Type} {g : Nat → List α} {s : Nat} {l : List α} (hl : l.length = s) : ∀ n, (∀ i, i < n → (g i).length = s) → ∀ i, i < n → rows n (fun k => if k = i then l else g k) = splice (rows n g) (i * s) l
  | 0, _, i, hi => by omega
  | n + 1, h, i, hi => by
    have hlen := rows_len n (fun i hi => h i (by omega))
    rw [rows_succ, rows_succ]
    by_cases he : i = n
    · subst he
      rw [if_pos rfl, rows_congr i (g := fun k => if k = i then l else g k) (g' := g) (fun k hk => if_neg (by omega))]
      unfold splice
      rw [List.take_append_of_le_length (by omega), List.take_of_length_le (by omega), List.drop_of_length_le (by simp [hlen, h i (by omega)]; omega)]
      simp
    · have hlt : i < n := by omega
      have hle : i * s + s ≤ n * s := by rw [← Nat.succ_mul]; exact Nat.mul_le_mul_right _ hlt
      rw [if_neg (Ne.symm he), rows_set hl n (fun i hi => h i (by omega)) i hlt]
      unfold splice
      rw [List.take_append_of_le_length (by omega), List.drop_append_of_le_length (by omega)]
      simp

section
variable (B : Nat → Value)
def flat : (t : Ty) → t.D → List Value
  | .int, z => [.int .i64 z]
  | .bool, b => [.bool b]
  | .one t, v => flat t v
  | .pair a b, v => flat a v.1 ++ flat b v.2
  | .arr n t, f => rows n fun i => flat t (f i)
  | .lst _, v => [v.1.val B]
theorem flat_len : ∀ (t : Ty) (v : t.D), (flat B t v).length = t.sz
  | .int, _ => rfl
  | .bool, _ => rfl
  | .one t, v => flat_len t v
  | .pair a b, v => by simp only [flat, Ty.sz, List.length_append, flat_len a, flat_len b]
  | .arr n t, f => by simp only [flat, Ty.sz]; exact rows_len n (fun i _ => flat_len t (f i))
  | .lst _, _ => rfl
end

/-- A value as a tree: taken apart as far as it was looked into. -/
inductive V where
  | leaf (t : Ty) (v : t.D)
  | one (x : V)
  | node (x y : V)
def V.ty : V → Ty
  | .leaf t _ => t
  | .one x => .one x.ty
  | .node x y => .pair x.ty y.ty
def V.cells (B : Nat → Value) : V → List Value
  | .leaf t v => flat B t v
  | .one x => x.cells B
  | .node x y => x.cells B ++ y.cells B
theorem V.cells_len (B : Nat → Value) : ∀ x : V, (x.cells B).length = x.ty.sz
  | .leaf t v => flat_len B t v
  | .one x => V.cells_len B x
  | .node x y => by simp only [V.cells, V.ty, Ty.sz, List.length_append, V.cells_len B x, V.cells_len B y]
/-- As an operand. -/
def V.val (B : Nat → Value) : V → Value
  | .leaf .int z => .int .i64 z
  | .leaf .bool b => .bool b
  | .leaf (.lst _) v => v.1.val B
  | x => .agg (x.cells B).toArray
theorem V.val_agg {B : Nat → Value} {x : V} (h : x.ty.agg = true) : x.val B = .agg (x.cells B).toArray := by
  unfold V.val
  split <;> first | rfl | simp [V.ty, Ty.agg] at h

inductive Step where
  | inn | fst | snd
  | idx (i : Nat)

/-- The path leads from a type to an offset and a type there. -/
def At : Ty → List Step → Nat → Ty → Prop
  | t, [], o, u => o = 0 ∧ u = t
  | .one t, .inn :: p, o, u => At t p o u
  | .pair a _, .fst :: p, o, u => At a p o u
  | .pair a b, .snd :: p, o, u => ∃ k, At b p k u ∧ o = a.sz + k
  | .arr n t, .idx i :: p, o, u => i < n ∧ ∃ k, At t p k u ∧ o = i * t.sz + k
  | _, _, _, _ => False

def getV : V → List Step → Option V
  | x, [] => some x
  | .one x, .inn :: p => getV x p
  | .node x _, .fst :: p => getV x p
  | .node _ y, .snd :: p => getV y p
  | .leaf (.one t) v, .inn :: p => getV (.leaf t v) p
  | .leaf (.pair a _) v, .fst :: p => getV (.leaf a v.1) p
  | .leaf (.pair _ b) v, .snd :: p => getV (.leaf b v.2) p
  | .leaf (.arr _ t) f, .idx i :: p => getV (.leaf t (f i)) p
  | _, _ => none
termination_by structural _ p => p

theorem take_drop_append_left {α : Type} {l m : List α} {o n : Nat} (h : o + n ≤ l.length) : ((l ++ m).drop o).take n = (l.drop o).take n := by
  rw [List.drop_append_of_le_length (by omega), List.take_append_of_le_length (by rw [List.length_drop]; omega)]
theorem take_drop_append_right {α : Type} {l m : List α} {o n : Nat} : ((l ++ m).drop (l.length + o)).take n = (m.drop o).take n := by
  rw [← List.drop_drop, List.drop_left]
theorem drop_take_drop {α : Type} {l : List α} {a s o n : Nat} (h : o + n ≤ s) : (((l.drop a).take s).drop o).take n = (l.drop (a + o)).take n := by
  rw [List.drop_take, List.take_take, List.drop_drop, Nat.min_eq_left (by omega)]

theorem getV_sound (B : Nat → Value) : ∀ (p : List Step) (x y : V) (o : Nat) (u : Ty), getV x p = some y → At x.ty p o u → y.ty = u ∧ o + u.sz ≤ x.ty.sz ∧ y.cells B = ((x.cells B).drop o).take u.sz
  | [], x, y, o, u, h, ha => by
    have ha' : o = 0 ∧ u = x.ty := by unfold At at ha; exact ha
    obtain ⟨rfl, rfl⟩ := ha'
    have hh : x = y := by unfold getV at h; exact Option.some.inj h
    subst hh
    refine ⟨rfl, by omega, ?_⟩
    rw [List.drop_zero, List.take_of_length_le (by rw [V.cells_len]; exact Nat.le_refl _)]
  | s :: p, x, y, o, u, h, ha => by
    unfold getV at h
    split at h
    · rename_i h0; cases h0
    · rename_i x' p' h0
      cases h0
      obtain ⟨h1, h2, h3⟩ := getV_sound B _ _ _ o u h ha
      exact ⟨h1, h2, h3⟩
    · rename_i x1 x2 p' h0
      cases h0
      obtain ⟨h1, h2, h3⟩ := getV_sound B _ _ _ o u h ha
      refine ⟨h1, ?_, ?_⟩
      · simp only [V.ty, Ty.sz]; omega
      · rw [h3]; simp only [V.cells]; rw [take_drop_append_left (by rw [V.cells_len]; exact h2)]
    · rename_i x1 x2 p' h0
      cases h0
      obtain ⟨k, hk, rfl⟩ := ha
      obtain ⟨h1, h2, h3⟩ := getV_sound B _ _ _ k u h hk
      refine ⟨h1, ?_, ?_⟩
      · simp only [V.ty, Ty.sz]; omega
      · rw [h3]; simp only [V.cells]; rw [← V.cells_len B x1, take_drop_append_right]
    · rename_i t v p' h0
      cases h0
      exact getV_sound B _ (.leaf t v) _ o u h ha
    · rename_i a b v p' h0
      cases h0
      obtain ⟨h1, h2, h3⟩ := getV_sound B _ _ _ o u h ha
      refine ⟨h1, ?_, ?_⟩
      · simp only [V.ty, Ty.sz] at h2 ⊢; omega
      · rw [h3]; simp only [V.cells, flat]; rw [take_drop_append_left (by rw [flat_len]; exact h2)]
    · rename_i a b v p' h0
      cases h0
      obtain ⟨k, hk, rfl⟩ := ha
      obtain ⟨h1, h2, h3⟩ := getV_sound B _ _ _ k u h hk
      refine ⟨h1, ?_, ?_⟩
      · simp only [V.ty, Ty.sz] at h2 ⊢; omega
      · rw [h3]; simp only [V.cells, flat]; rw [← flat_len B a v.1, take_drop_append_right]
    · rename_i n t f i p' h0
      cases h0
      obtain ⟨hi, k, hk, rfl⟩ := ha
      obtain ⟨h1, h2, h3⟩ := getV_sound B _ _ _ k u h hk
      have hle : i * t.sz + t.sz ≤ n * t.sz := by rw [← Nat.succ_mul]; exact Nat.mul_le_mul_right _ hi
      refine ⟨h1, ?_, ?_⟩
      · simp only [V.ty, Ty.sz] at h2 ⊢; omega
      · rw [h3]
        simp only [V.cells, flat, V.ty] at h2 ⊢
        rw [← rows_get n (g := fun i => flat B t (f i)) (fun i _ => flat_len B t (f i)) i hi, drop_take_drop h2]
    · cases h

def updA {α : Type} (f : Nat → α) (i : Nat) (x : α) : Nat → α := fun k => if k = i then x else f k

/-- A tree as a value of a type. -/
def denK : (x : V) → (t : Ty) → (t.D → Prop) → Prop
  | .leaf t' v, t, k => match decEq t' t with
    | .isTrue h => (Eq.rec (motive := fun t _ => (t.D → Prop) → Prop) (fun k => k v) h) k
    | .isFalse _ => False
  | .node x y, .pair a b, k => denK x a fun u => denK y b fun w => k (u, w)
  | .one x, .one t, k => denK x t k
  | _, _, _ => False
/-- The tree with another one at the end of a path. -/
def setK : (p : List Step) → V → V → (V → Prop) → Prop
  | [], x, new, k => match decEq x.ty new.ty with | .isTrue _ => k new | .isFalse _ => False
  | .inn :: p, x, new, k => match x with
    | .one x => setK p x new fun y => k (.one y)
    | .leaf (.one t) v => setK p (.leaf t v) new fun y => k (.one y)
    | _ => False
  | .fst :: p, x, new, k => match x with
    | .node x z => setK p x new fun y => k (.node y z)
    | .leaf (.pair a b) v => setK p (.leaf a v.1) new fun y => k (.node y (.leaf b v.2))
    | _ => False
  | .snd :: p, x, new, k => match x with
    | .node z x => setK p x new fun y => k (.node z y)
    | .leaf (.pair a b) v => setK p (.leaf b v.2) new fun y => k (.node (.leaf a v.1) y)
    | _ => False
  | .idx i :: p, x, new, k => match x with
    | .leaf (.arr n t) f => setK p (.leaf t (f i)) new fun y => denK y t fun d => k (.leaf (.arr n t) (updA f i d))
    | _ => False

theorem splice_append_left {α : Type} {l m n : List α} {o : Nat} (h : o + n.length ≤ l.length) : splice (l ++ m) o n = splice l o n ++ m := by
  unfold splice
  rw [List.take_append_of_le_length (by omega), List.drop_append_of_le_length (by omega)]
  simp
theorem splice_append_right {α : Type} {l m n : List α} {o : Nat} : splice (l ++ m) (l.length + o) n = l ++ splice m o n := by
  unfold splice
  rw [List.take_length_add_append, Nat.add_assoc, ← List.drop_drop, List.drop_left]
  simp
theorem splice_splice {α : Type} {l n : List α} {a s o : Nat} (h : o + n.length ≤ s) (hl : a + s ≤ l.length) : splice l a (splice ((l.drop a).take s) o n) = splice l (a + o) n := by
  have hlen : ((l.drop a).take s).length = s := by simp; omega
  unfold splice
  rw [List.length_append, List.length_append, List.length_take, List.length_drop, hlen]
  rw [List.take_take, Nat.min_eq_left (by omega : o ≤ s)]
  rw [show l.take (a + o) = l.take a ++ (l.drop a).take o from by rw [List.take_add]]
  rw [List.drop_take]
  have e1 : List.drop (a + (o + n.length + (s - (o + n.length)))) l = ((l.drop a).drop s) := by rw [List.drop_drop]; congr 1; omega
  rw [e1]
  have e2 : List.drop (a + o + n.length) l = ((l.drop a).drop (o + n.length)) := by rw [List.drop_drop]; congr 1; omega
  rw [e2]
  have e3 : ((l.drop a).drop (o + n.length)) = (((l.drop a).drop (o + n.length)).take (s - (o + n.length))) ++ ((l.drop a).drop s) := by
    have h1 := (List.take_append_drop (s - (o + n.length)) ((l.drop a).drop (o + n.length))).symm
    have h2 : ((l.drop a).drop (o + n.length)).drop (s - (o + n.length)) = (l.drop a).drop s := by rw [List.drop_drop]; congr 1; omega
    rw [h2] at h1
    exact h1
  generalize (l.drop a).drop (o + n.length) = z at e3 ⊢
  rw [show List.take a l ++ List.take o (List.drop a l) ++ n ++ z = List.take a l ++ List.take o (List.drop a l) ++ n ++ (List.take (s - (o + n.length)) z ++ List.drop s (List.drop a l)) from by rw [← e3]]
  simp [List.append_assoc]

end Go.Proofs.Ytjbbgpacijageaa.M
