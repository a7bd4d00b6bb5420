/- Blocks of the memory: loads and stores of whole structs and arrays. No program is named here. -/
import Derived.Orders
import Derived.Still
import Derived.Below
import Derived.WalkKit
import Derived.Deep.MidRow
namespace Go.Proofs.Ytjbbgpacijageaa.M
open Go.RowKit
set_option linter.unusedVariables false

theorem heap_alloc_at (w : World) (ob : Obj) : (w.alloc ob).heap[w.heap.size]? = some ob := by
  show (w.heap.push ob)[w.heap.size]? = _
  simp
theorem cell_of_block {w : World} {b : Nat} {C : Array Value} {t : TypeId} (h : w.heap[b]? = some (.cells C t)) (o : Nat) : w.cell? ⟨b, o, none⟩ = C[o]? := by
  simp [World.cell?, h]
theorem frozen_of_block {w : World} {b : Nat} {C : Array Value} {t : TypeId} (h : w.heap[b]? = some (.cells C t)) (o : Nat) : w.frozen? ⟨b, o, none⟩ = false := by
  simp [World.frozen?, h]
theorem heap_alloc_of {w : World} {b : Nat} {ob : Obj} (h : w.heap[b]? = some ob) (ob' : Obj) : (w.alloc ob').heap[b]? = some ob := by
  have hb : b < w.heap.size := by
    rcases Nat.lt_or_ge b w.heap.size with h' | h'
    · exact h'
    · rw [Array.getElem?_eq_none h'] at h; cases h
  rw [Below.heap_alloc w ob' b hb]; exact h
theorem size_alloc' (w : World) (ob : Obj) : (w.alloc ob).heap.size = w.heap.size + 1 := by
  show (w.heap.push ob).size = _
  simp

/-- A block holds these cells. -/
def HB (w : World) (b : Nat) (C : Array Value) (t : TypeId) : Prop := w.heap[b]? = some (.cells C t)

theorem HB.lt {w : World} {b : Nat} {C : Array Value} {t : TypeId} (h : HB w b C t) : b < w.heap.size := by
  rcases Nat.lt_or_ge b w.heap.size with h' | h'
  · exact h'
  · unfold HB at h; rw [Array.getElem?_eq_none h'] at h; cases h
theorem HB.below {w w' : World} {b : Nat} {C : Array Value} {t : TypeId} (h : HB w b C t) (hb : Below w.heap.size w w') : HB w' b C t := by
  unfold HB; rw [hb.block b h.lt]; exact h
theorem HB.cell {w : World} {b : Nat} {C : Array Value} {t : TypeId} (h : HB w b C t) (j : Nat) : w.cell? ⟨b, j, none⟩ = C[j]? := cell_of_block h j
theorem HB.frozen {w : World} {b : Nat} {C : Array Value} {t : TypeId} (h : HB w b C t) (j : Nat) : w.frozen? ⟨b, j, none⟩ = false := frozen_of_block h j
theorem HB.drew {w : World} {b : Nat} {C : Array Value} {t : TypeId} (h : HB w b C t) : HB { w with drawn := w.drawn + 1 } b C t := h
theorem HB.alloc {w : World} {b : Nat} {C : Array Value} {t : TypeId} (h : HB w b C t) (ob : Obj) : HB (w.alloc ob) b C t := heap_alloc_of h ob
theorem HB.new (w : World) (C : Array Value) (t : TypeId) : HB (w.alloc (.cells C t)) w.heap.size C t := heap_alloc_at w _

/-- The same world with other cells in a block. -/
def putB (w : World) (b : Nat) (C : Array Value) : World := { w with heap := w.heap.modify b fun | .cells _ t fr => .cells C t fr | o => o }

theorem putB_size (w : World) (b : Nat) (C : Array Value) : (putB w b C).heap.size = w.heap.size := by simp [putB]
theorem putB_ne (w : World) (b : Nat) (C : Array Value) {k : Nat} (h : k ≠ b) : (putB w b C).heap[k]? = w.heap[k]? := by
  simp only [putB, Array.getElem?_modify]
  rw [if_neg (by omega)]
theorem HB.put {w : World} {b : Nat} {C : Array Value} {t : TypeId} (h : HB w b C t) (D : Array Value) : HB (putB w b D) b D t := by
  unfold HB at *
  simp only [putB, Array.getElem?_modify, h]
  simp
theorem HB.put_ne {w : World} {b : Nat} {C : Array Value} {t : TypeId} (h : HB w b C t) {k : Nat} (hk : b ≠ k) (D : Array Value) : HB (putB w k D) b C t := by
  unfold HB at *
  rw [putB_ne w k D hk]; exact h

theorem world_ext {w w' : World} (h1 : w.heap = w'.heap) (h2 : w.tape = w'.tape) (h3 : w.drawn = w'.drawn) (h4 : w.os = w'.os) (h5 : w.output = w'.output) : w = w' := by
  cases w; cases w'; simp_all

def sets (C : Array Value) : Nat → List Value → Array Value
  | _, [] => C
  | o, v :: r => sets (C.setIfInBounds o v) (o + 1) r

theorem setCell_putB {w : World} {b : Nat} {C : Array Value} {t : TypeId} (h : HB w b C t) (o : Nat) (v : Value) : w.setCell ⟨b, o, none⟩ v = putB w b (C.setIfInBounds o v) := by
  refine world_ext ?_ rfl rfl rfl rfl
  apply Array.ext_getElem?
  intro k
  by_cases hk : k = b
  · subst hk
    rw [show (putB w k (C.setIfInBounds o v)).heap[k]? = some (.cells (C.setIfInBounds o v) t) from h.put _]
    unfold HB at h
    simp [World.setCell, Array.getElem?_modify, h]
  · rw [putB_ne _ _ _ hk, Below.heap_setCell _ _ _ _ (by simpa using hk)]

theorem putB_putB {w : World} {b : Nat} (C D : Array Value) : putB (putB w b C) b D = putB w b D := by
  refine world_ext ?_ rfl rfl rfl rfl
  apply Array.ext_getElem?
  intro k
  by_cases hk : k = b
  · subst hk
    simp only [putB, Array.getElem?_modify, if_true]
    cases w.heap[k]? with
    | none => rfl
    | some o => cases o <;> rfl
  · rw [putB_ne _ _ _ hk, putB_ne _ _ _ hk, putB_ne _ _ _ hk]

theorem setCells_putB : ∀ (cs : List Value) (o : Nat) {w : World} {b : Nat} {C : Array Value} {t : TypeId}, HB w b C t → w.setCells b o cs = putB w b (sets C o cs)
  | [], o, w, b, C, t, h => by
    show w = putB w b C
    refine world_ext ?_ rfl rfl rfl rfl
    apply Array.ext_getElem?
    intro k
    by_cases hk : k = b
    · subst hk; exact h.trans (h.put C).symm
    · rw [putB_ne _ _ _ hk]
  | v :: r, o, w, b, C, t, h => by
    show (w.setCell ⟨b, o, none⟩ v).setCells b (o + 1) r = _
    rw [setCell_putB h, setCells_putB r (o + 1) (h.put _), putB_putB]
    rfl

theorem sets_size : ∀ (cs : List Value) (o : Nat) (C : Array Value), (sets C o cs).size = C.size
  | [], _, _ => rfl
  | v :: r, o, C => by show (sets (C.setIfInBounds o v) (o + 1) r).size = _; rw [sets_size r]; simp
theorem sets_out : ∀ (cs : List Value) (o : Nat) (C : Array Value) (k : Nat), (k < o ∨ o + cs.length ≤ k) → (sets C o cs)[k]? = C[k]?
  | [], _, _, _, _ => rfl
  | v :: r, o, C, k, h => by
    show (sets (C.setIfInBounds o v) (o + 1) r)[k]? = _
    simp at h
    rw [sets_out r (o + 1) _ k (by omega), Array.getElem?_setIfInBounds_ne (by omega)]
theorem sets_in : ∀ (cs : List Value) (o : Nat) (C : Array Value) (j : Nat), j < cs.length → o + cs.length ≤ C.size → (sets C o cs)[o + j]? = cs[j]?
  | [], _, _, j, h, _ => by simp at h
  | v :: r, o, C, 0, _, hs => by
    show (sets (C.setIfInBounds o v) (o + 1) r)[o]? = _
    have hs' : o < C.size := by simp at hs; omega
    rw [sets_out r (o + 1) _ o (by omega)]
    simp [hs']
  | v :: r, o, C, j + 1, h, hs => by
    show (sets (C.setIfInBounds o v) (o + 1) r)[o + (j + 1)]? = _
    simp at h hs
    have := sets_in r (o + 1) (C.setIfInBounds o v) j (by omega) (by simp; omega)
    rw [show o + (j + 1) = o + 1 + j from by omega, this]
    simp
theorem sets_all {C D : Array Value} (h : D.size = C.size) : sets C 0 D.toList = D := by
  apply Array.ext_getElem?
  intro k
  rcases Nat.lt_or_ge k D.size with hk | hk
  · have := sets_in D.toList 0 C k (by simpa using hk) (by simp; omega)
    simpa using this
  · rw [Array.getElem?_eq_none (by rw [sets_size]; omega), Array.getElem?_eq_none hk]

/-- A struct or an array of n cells. -/
def rowB (P : Program) (T : TypeId) (n : Nat) : Bool :=
  match P.underlying T with
  | some (.struct _) | some (.array _ _) => (P.info? T).map (·.size) == some n
  | _ => false

theorem rowB_spec {P : Program} {T : TypeId} {n : Nat} (h : rowB P T n = true) : ∃ d, P.underlying T = some d ∧ d.isRow = true ∧ (P.info? T).map (·.size) = some n := by
  unfold rowB at h
  split at h
  · rename_i fs hu; exact ⟨_, hu, rfl, by simpa using h⟩
  · rename_i a b hu; exact ⟨_, hu, rfl, by simpa using h⟩
  · cases h

section
variable {P : Program}

/-- A part of a block, read as a value. -/
theorem loadVar_blk {w : World} {b : Nat} {C : Array Value} {t T : TypeId} {n : Nat} (h : HB w b C t) (hT : rowB P T n = true) (o : Nat) (hs : o + n ≤ C.size) :
    (loadVar T ⟨b, o, none⟩).run P w = .ok (.agg (C.extract o (o + n))) w := by
  obtain ⟨d, hu, hd, hi⟩ := rowB_spec hT
  have hr : w.rangeAt b o (C.extract o (o + n)).toList := fun j v hv => by
    rw [h.cell]
    have hj : j < n := by
      rcases Nat.lt_or_ge j n with h' | h'
      · exact h'
      · rw [List.getElem?_eq_none (by simp; omega)] at hv; cases hv
    rw [Array.getElem?_toList, Array.getElem?_extract] at hv
    split at hv
    · exact hv
    · cases hv
  have := run_loadVar_mid (P := P) w b o T (C.extract o (o + n)).toList d hr hu hd (by rw [hi]; simp; omega)
  rw [this]

theorem loadVar_all {w : World} {b : Nat} {C : Array Value} {t T : TypeId} {n : Nat} (h : HB w b C t) (hT : rowB P T n = true) (hs : C.size = n) :
    (loadVar T ⟨b, 0, none⟩).run P w = .ok (.agg C) w := by
  have := loadVar_blk h hT 0 (by omega)
  rw [this]
  have e : C.extract 0 (0 + n) = C := by
    rw [Nat.zero_add, ← hs]
    simp
  rw [e]

theorem storeVar_blk {w : World} {b : Nat} {C : Array Value} {t T : TypeId} {n : Nat} (h : HB w b C t) (hT : rowB P T n = true) (o : Nat) (D : Array Value) (hD : D.size = n) (hs : o + n ≤ C.size) (h1 : D.all (·.oneCell') = true) :
    (storeVar T ⟨b, o, none⟩ (.agg D)).run P w = .ok () (putB w b (sets C o D.toList)) := by
  obtain ⟨d, hu, hd, hi⟩ := rowB_spec hT
  have hth : w.there b o D.size := fun j hj => ⟨by rw [h.cell]; simp; omega, h.frozen _⟩
  rw [run_storeVar_mid (P := P) w b o T D hth (by rw [hi, hD]) h1, setCells_putB _ _ h]

end
end Go.Proofs.Ytjbbgpacijageaa.M
