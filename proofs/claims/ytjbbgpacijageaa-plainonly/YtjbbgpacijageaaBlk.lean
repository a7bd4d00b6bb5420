/- Blocks: loads and stores of whole structs and arrays. No program is named here. -/
import Derived.Test.YtjbbgpacijageaaMath3
import Derived.Test.YtjbbgpacijageaaAbs
import Derived.Deep.MidRow
namespace Go.Proofs.Ytjbbgpacijageaa
open Go.RowKit
set_option linter.unusedVariables false

/-- A block holds these cells. -/
def HB (w : World) (b : Nat) (C : Array Value) (t : TypeId) : Prop := w.heap[b]? = some (.cells C t)

theorem HB.lt {w : World} {b : Nat} {C : Array Value} {t : TypeId} (h : HB w b C t) : b < w.heap.size := by
  rcases Nat.lt_or_ge b w.heap.size with h' | h'
  · exact h'
  · unfold HB at h; rw [Array.getElem?_eq_none h'] at h; cases h
theorem HB.below {w w' : World} {b : Nat} {C : Array Value} {t : TypeId} (h : HB w b C t) (hb : Below w.heap.size w w') : HB w' b C t := by
  unfold HB; rw [hb.block b h.lt]; exact h
theorem HB.cell {w : World} {b : Nat} {C : Array Value} {t : TypeId} (h : HB w b C t) (j : Nat) : w.cell? ⟨b, j, none⟩ = C[j]? := cell_of_block h j
theorem HB.frozen {w : World} {b : Nat} {C : Array Value} {t : TypeId} (h : HB w b C t) (j : Nat) : w.frozen? ⟨b, j, none⟩ = false := frozen_of_block h j
theorem HB.drew {w : World} {b : Nat} {C : Array Value} {t : TypeId} (h : HB w b C t) : HB { w with drawn := w.drawn + 1 } b C t := h
theorem HB.alloc {w : World} {b : Nat} {C : Array Value} {t : TypeId} (h : HB w b C t) (ob : Obj) : HB (w.alloc ob) b C t := heap_alloc_of h ob
theorem HB.new (w : World) (C : Array Value) (t : TypeId) : HB (w.alloc (.cells C t)) w.heap.size C t := heap_alloc_at w _

/-- The same world with other cells in a block. -/
def putB (w : World) (b : Nat) (C : Array Value) : World := { w with heap := w.heap.modify b fun | .cells _ t fr => .cells C t fr | o => o }

theorem putB_size (w : World) (b : Nat) (C : Array Value) : (putB w b C).heap.size = w.heap.size := by simp [putB]
theorem putB_ne (w : World) (b : Nat) (C : Array Value) {k : Nat} (h : k ≠ b) : (putB w b C).heap[k]? = w.heap[k]? := by
  simp only [putB, Array.getElem?_modify]
  rw [if_neg (by omega)]
theorem HB.put {w : World} {b : Nat} {C : Array Value} {t : TypeId} (h : HB w b C t) (D : Array Value) : HB (putB w b D) b D t := by
  unfold HB at *
  simp only [putB, Array.getElem?_modify, h]
  simp
theorem HB.put_ne {w : World} {b : Nat} {C : Array Value} {t : TypeId} (h : HB w b C t) {k : Nat} (hk : b ≠ k) (D : Array Value) : HB (putB w k D) b C t := by
  unfold HB at *
  rw [putB_ne w k D hk]; exact h

theorem world_ext {w w' : World} (h1 : w.heap = w'.heap) (h2 : w.tape = w'.tape) (h3 : w.drawn = w'.drawn) (h4 : w.os = w'.os) (h5 : w.output = w'.output) : w = w' := by
  cases w; cases w'; simp_all

theorem putB_at (w : World) (A C : Array Value) (t : TypeId) : putB (w.alloc (.cells A t)) w.heap.size C = w.alloc (.cells C t) := by
  refine world_ext ?_ rfl rfl rfl rfl
  apply Array.ext_getElem?
  intro k
  by_cases hk : k = w.heap.size
  · subst hk
    exact (HB.put (HB.new w A t) C).trans (heap_alloc_at w _).symm
  · rw [putB_ne _ _ _ hk]
    rcases Nat.lt_or_ge k w.heap.size with h' | h'
    · rw [Below.heap_alloc w _ k h', Below.heap_alloc w _ k h']
    · rw [Array.getElem?_eq_none (by rw [size_alloc']; omega), Array.getElem?_eq_none (by rw [size_alloc']; omega)]

theorem putB_past (w : World) (ob : Obj) (b : Nat) (C : Array Value) (h : b < w.heap.size) : putB (w.alloc ob) b C = (putB w b C).alloc ob := by
  refine world_ext ?_ rfl rfl rfl rfl
  apply Array.ext_getElem?
  intro k
  have hz : (putB w b C).heap.size = w.heap.size := putB_size w b C
  by_cases hk : k = b
  · subst hk
    rw [Below.heap_alloc (putB w k C) ob k (by omega)]
    simp only [putB, Array.getElem?_modify]
    rw [Below.heap_alloc w ob k h]
  · rw [putB_ne _ _ _ hk]
    rcases Nat.lt_trichotomy k w.heap.size with h' | h' | h'
    · rw [Below.heap_alloc w _ k h', Below.heap_alloc (putB w b C) _ k (by omega), putB_ne _ _ _ hk]
    · have e1 := heap_alloc_at w ob
      have e2 := heap_alloc_at (putB w b C) ob
      rw [hz] at e2
      rw [h', e1, e2]
    · rw [Array.getElem?_eq_none (by rw [size_alloc']; omega), Array.getElem?_eq_none (by rw [size_alloc', hz]; omega)]

theorem Up.put {W : World} (u : Up W) (b : Nat) (C : Array Value) : ∃ u' : Up (putB W b C), putB u.x b C = u'.x := by
  refine ⟨⟨putB u.x b C, ⟨u.h.os, u.h.tape, u.h.output, ?_, fun k hk => ?_⟩⟩, rfl⟩
  · rw [putB_size, putB_size]; exact u.h.size
  · rw [putB_size] at hk
    by_cases hkb : k = b
    · subst hkb
      simp only [putB, Array.getElem?_modify, u.h.block k hk]
    · rw [putB_ne _ _ _ hkb, putB_ne _ _ _ hkb]; exact u.h.block k hk

/-- Cells one behind the other. -/
def sets (C : Array Value) : Nat → List Value → Array Value
  | _, [] => C
  | o, v :: r => sets (C.setIfInBounds o v) (o + 1) r

theorem setCell_putB {w : World} {b : Nat} {C : Array Value} {t : TypeId} (h : HB w b C t) (o : Nat) (v : Value) : w.setCell ⟨b, o, none⟩ v = putB w b (C.setIfInBounds o v) := by
  refine world_ext ?_ rfl rfl rfl rfl
  apply Array.ext_getElem?
  intro k
  by_cases hk : k = b
  · subst hk
    rw [show (putB w k (C.setIfInBounds o v)).heap[k]? = some (.cells (C.setIfInBounds o v) t) from h.put _]
    unfold HB at h
    simp [World.setCell, Array.getElem?_modify, h]
  · rw [putB_ne _ _ _ hk, Below.heap_setCell _ _ _ _ (by simpa using hk)]

theorem putB_putB {w : World} {b : Nat} (C D : Array Value) : putB (putB w b C) b D = putB w b D := by
  refine world_ext ?_ rfl rfl rfl rfl
  apply Array.ext_getElem?
  intro k
  by_cases hk : k = b
  · subst hk
    simp only [putB, Array.getElem?_modify, if_true]
    cases w.heap[k]? with
    | none => rfl
    | some o => cases o <;> rfl
  · rw [putB_ne _ _ _ hk, putB_ne _ _ _ hk, putB_ne _ _ _ hk]

theorem setCells_putB : ∀ (cs : List Value) (o : Nat) {w : World} {b : Nat} {C : Array Value} {t : TypeId}, HB w b C t → w.setCells b o cs = putB w b (sets C o cs)
  | [], o, w, b, C, t, h => by
    show w = putB w b C
    refine world_ext ?_ rfl rfl rfl rfl
    apply Array.ext_getElem?
    intro k
    by_cases hk : k = b
    · subst hk; exact h.trans (h.put C).symm
    · rw [putB_ne _ _ _ hk]
  | v :: r, o, w, b, C, t, h => by
    show (w.setCell ⟨b, o, none⟩ v).setCells b (o + 1) r = _
    rw [setCell_putB h, setCells_putB r (o + 1) (h.put _), putB_putB]
    rfl

theorem sets_size : ∀ (cs : List Value) (o : Nat) (C : Array Value), (sets C o cs).size = C.size
  | [], _, _ => rfl
  | v :: r, o, C => by show (sets (C.setIfInBounds o v) (o + 1) r).size = _; rw [sets_size r]; simp
theorem sets_out : ∀ (cs : List Value) (o : Nat) (C : Array Value) (k : Nat), (k < o ∨ o + cs.length ≤ k) → (sets C o cs)[k]? = C[k]?
  | [], _, _, _, _ => rfl
  | v :: r, o, C, k, h => by
    show (sets (C.setIfInBounds o v) (o + 1) r)[k]? = _
    simp at h
    rw [sets_out r (o + 1) _ k (by omega), Array.getElem?_setIfInBounds_ne (by omega)]
theorem sets_in : ∀ (cs : List Value) (o : Nat) (C : Array Value) (j : Nat), j < cs.length → o + cs.length ≤ C.size → (sets C o cs)[o + j]? = cs[j]?
  | [], _, _, j, h, _ => by simp at h
  | v :: r, o, C, 0, _, hs => by
    show (sets (C.setIfInBounds o v) (o + 1) r)[o]? = _
    have hs' : o < C.size := by simp at hs; omega
    rw [sets_out r (o + 1) _ o (by omega)]
    simp [hs']
  | v :: r, o, C, j + 1, h, hs => by
    show (sets (C.setIfInBounds o v) (o + 1) r)[o + (j + 1)]? = _
    simp at h hs
    have := sets_in r (o + 1) (C.setIfInBounds o v) j (by omega) (by simp; omega)
    rw [show o + (j + 1) = o + 1 + j from by omega, this]
    simp
theorem sets_all {C D : Array Value} (h : D.size = C.size) : sets C 0 D.toList = D := by
  apply Array.ext_getElem?
  intro k
  rcases Nat.lt_or_ge k D.size with hk | hk
  · have := sets_in D.toList 0 C k (by simpa using hk) (by simp; omega)
    simpa using this
  · rw [Array.getElem?_eq_none (by rw [sets_size]; omega), Array.getElem?_eq_none hk]

/-- A struct or an array of n cells. -/
def rowB (P : Program) (T : TypeId) (n : Nat) : Bool :=
  match P.underlying T with
  | some (.struct _) | some (.array _ _) => (P.info? T).map (·.size) == some n
  | _ => false

theorem rowB_spec {P : Program} {T : TypeId} {n : Nat} (h : rowB P T n = true) : ∃ d, P.underlying T = some d ∧ d.isRow = true ∧ (P.info? T).map (·.size) = some n := by
  unfold rowB at h
  split at h
  · rename_i fs hu; exact ⟨_, hu, rfl, by simpa using h⟩
  · rename_i a b hu; exact ⟨_, hu, rfl, by simpa using h⟩
  · cases h

section
variable {P : Program}

/-- A part of a block, read as a value. -/
theorem loadVar_blk {w : World} {b : Nat} {C : Array Value} {t T : TypeId} {n : Nat} (h : HB w b C t) (hT : rowB P T n = true) (o : Nat) (hs : o + n ≤ C.size) :
    (loadVar T ⟨b, o, none⟩).run P w = .ok (.agg (C.extract o (o + n))) w := by
  obtain ⟨d, hu, hd, hi⟩ := rowB_spec hT
  have hr : w.rangeAt b o (C.extract o (o + n)).toList := fun j v hv => by
    rw [h.cell]
    have hj : j < n := by
      rcases Nat.lt_or_ge j n with h' | h'
      · exact h'
      · rw [List.getElem?_eq_none (by simp; omega)] at hv; cases hv
    rw [Array.getElem?_toList, Array.getElem?_extract] at hv
    split at hv
    · exact hv
    · cases hv
  have := run_loadVar_mid (P := P) w b o T (C.extract o (o + n)).toList d hr hu hd (by rw [hi]; simp; omega)
  rw [this]

theorem loadVar_all {w : World} {b : Nat} {C : Array Value} {t T : TypeId} {n : Nat} (h : HB w b C t) (hT : rowB P T n = true) (hs : C.size = n) :
    (loadVar T ⟨b, 0, none⟩).run P w = .ok (.agg C) w := by
  have := loadVar_blk h hT 0 (by omega)
  rw [this]
  have e : C.extract 0 (0 + n) = C := by
    rw [Nat.zero_add, ← hs]
    simp
  rw [e]

theorem storeVar_blk {w : World} {b : Nat} {C : Array Value} {t T : TypeId} {n : Nat} (h : HB w b C t) (hT : rowB P T n = true) (o : Nat) (D : Array Value) (hD : D.size = n) (hs : o + n ≤ C.size) (h1 : D.all (·.oneCell') = true) :
    (storeVar T ⟨b, o, none⟩ (.agg D)).run P w = .ok () (putB w b (sets C o D.toList)) := by
  obtain ⟨d, hu, hd, hi⟩ := rowB_spec hT
  have hth : w.there b o D.size := fun j hj => ⟨by rw [h.cell]; simp; omega, h.frozen _⟩
  rw [run_storeVar_mid (P := P) w b o T D hth (by rw [hi, hD]) h1, setCells_putB _ _ h]

end
theorem Up.c1_0 {w : World} {A : Array Value} {s : TypeId} (u : Up (w.alloc (.cells A s))) (j : Nat) : u.x.cell? ⟨w.heap.size, j, none⟩ = A[j]? := u.f1.c0 u j
theorem Up.z1_0 {w : World} {A : Array Value} {s : TypeId} (u : Up (w.alloc (.cells A s))) (j : Nat) : u.x.frozen? ⟨w.heap.size, j, none⟩ = false := u.f1.f0 u j
theorem Up.s1_0 {w : World} {A : Array Value} {s : TypeId} (u : Up (w.alloc (.cells A s))) : w.heap.size < u.x.heap.size := u.f1.s0 u
theorem Up.h1_0 {w : World} {A : Array Value} {s : TypeId} (u : Up (w.alloc (.cells A s))) : HB u.x (w.heap.size) A s := by
  have hz : (w.alloc (.cells A s)).heap.size = w.heap.size + 1 := by simp only [size_alloc']
  unfold HB
  rw [u.h.block _ (by omega)]
  exact (heap_alloc_at w (.cells A s))
theorem Up.b1 {w : World} {A : Array Value} {s : TypeId} (u : Up (w.alloc (.cells A s))) : Below w.heap.size w u.x := u.f1.below u

theorem Up.c2_0 {w : World} {A B : Array Value} {s t : TypeId} (u : Up ((w.alloc (.cells A s)).alloc (.cells B t))) (j : Nat) : u.x.cell? ⟨w.heap.size, j, none⟩ = A[j]? := u.f2.c0 u j
theorem Up.z2_0 {w : World} {A B : Array Value} {s t : TypeId} (u : Up ((w.alloc (.cells A s)).alloc (.cells B t))) (j : Nat) : u.x.frozen? ⟨w.heap.size, j, none⟩ = false := u.f2.f0 u j
theorem Up.s2_0 {w : World} {A B : Array Value} {s t : TypeId} (u : Up ((w.alloc (.cells A s)).alloc (.cells B t))) : w.heap.size < u.x.heap.size := u.f2.s0 u
theorem Up.h2_0 {w : World} {A B : Array Value} {s t : TypeId} (u : Up ((w.alloc (.cells A s)).alloc (.cells B t))) : HB u.x (w.heap.size) A s := by
  have hz : ((w.alloc (.cells A s)).alloc (.cells B t)).heap.size = w.heap.size + 1 + 1 := by simp only [size_alloc']
  unfold HB
  rw [u.h.block _ (by omega)]
  exact (heap_alloc_of (heap_alloc_at w (.cells A s)) _)
theorem Up.c2_1 {w : World} {A B : Array Value} {s t : TypeId} (u : Up ((w.alloc (.cells A s)).alloc (.cells B t))) (j : Nat) : u.x.cell? ⟨w.heap.size + 1, j, none⟩ = B[j]? := u.f2.c1 u j
theorem Up.z2_1 {w : World} {A B : Array Value} {s t : TypeId} (u : Up ((w.alloc (.cells A s)).alloc (.cells B t))) (j : Nat) : u.x.frozen? ⟨w.heap.size + 1, j, none⟩ = false := u.f2.f1 u j
theorem Up.s2_1 {w : World} {A B : Array Value} {s t : TypeId} (u : Up ((w.alloc (.cells A s)).alloc (.cells B t))) : w.heap.size + 1 < u.x.heap.size := u.f2.s1 u
theorem Up.h2_1 {w : World} {A B : Array Value} {s t : TypeId} (u : Up ((w.alloc (.cells A s)).alloc (.cells B t))) : HB u.x (w.heap.size + 1) B t := by
  have hz : ((w.alloc (.cells A s)).alloc (.cells B t)).heap.size = w.heap.size + 1 + 1 := by simp only [size_alloc']
  unfold HB
  rw [u.h.block _ (by omega)]
  have hzk : (w.alloc (.cells A s)).heap.size = w.heap.size + 1 := by simp only [size_alloc']
  rw [← hzk]
  exact (heap_alloc_at (w.alloc (.cells A s)) (.cells B t))
theorem Up.b2 {w : World} {A B : Array Value} {s t : TypeId} (u : Up ((w.alloc (.cells A s)).alloc (.cells B t))) : Below w.heap.size w u.x := u.f2.below u

theorem Up.c3_0 {w : World} {A B C : Array Value} {s t r : TypeId} (u : Up (((w.alloc (.cells A s)).alloc (.cells B t)).alloc (.cells C r))) (j : Nat) : u.x.cell? ⟨w.heap.size, j, none⟩ = A[j]? := u.f3.c0 u j
theorem Up.z3_0 {w : World} {A B C : Array Value} {s t r : TypeId} (u : Up (((w.alloc (.cells A s)).alloc (.cells B t)).alloc (.cells C r))) (j : Nat) : u.x.frozen? ⟨w.heap.size, j, none⟩ = false := u.f3.f0 u j
theorem Up.s3_0 {w : World} {A B C : Array Value} {s t r : TypeId} (u : Up (((w.alloc (.cells A s)).alloc (.cells B t)).alloc (.cells C r))) : w.heap.size < u.x.heap.size := u.f3.s0 u
theorem Up.h3_0 {w : World} {A B C : Array Value} {s t r : TypeId} (u : Up (((w.alloc (.cells A s)).alloc (.cells B t)).alloc (.cells C r))) : HB u.x (w.heap.size) A s := by
  have hz : (((w.alloc (.cells A s)).alloc (.cells B t)).alloc (.cells C r)).heap.size = w.heap.size + 1 + 1 + 1 := by simp only [size_alloc']
  unfold HB
  rw [u.h.block _ (by omega)]
  exact (heap_alloc_of (heap_alloc_of (heap_alloc_at w (.cells A s)) _) _)
theorem Up.c3_1 {w : World} {A B C : Array Value} {s t r : TypeId} (u : Up (((w.alloc (.cells A s)).alloc (.cells B t)).alloc (.cells C r))) (j : Nat) : u.x.cell? ⟨w.heap.size + 1, j, none⟩ = B[j]? := u.f3.c1 u j
theorem Up.z3_1 {w : World} {A B C : Array Value} {s t r : TypeId} (u : Up (((w.alloc (.cells A s)).alloc (.cells B t)).alloc (.cells C r))) (j : Nat) : u.x.frozen? ⟨w.heap.size + 1, j, none⟩ = false := u.f3.f1 u j
theorem Up.s3_1 {w : World} {A B C : Array Value} {s t r : TypeId} (u : Up (((w.alloc (.cells A s)).alloc (.cells B t)).alloc (.cells C r))) : w.heap.size + 1 < u.x.heap.size := u.f3.s1 u
theorem Up.h3_1 {w : World} {A B C : Array Value} {s t r : TypeId} (u : Up (((w.alloc (.cells A s)).alloc (.cells B t)).alloc (.cells C r))) : HB u.x (w.heap.size + 1) B t := by
  have hz : (((w.alloc (.cells A s)).alloc (.cells B t)).alloc (.cells C r)).heap.size = w.heap.size + 1 + 1 + 1 := by simp only [size_alloc']
  unfold HB
  rw [u.h.block _ (by omega)]
  have hzk : (w.alloc (.cells A s)).heap.size = w.heap.size + 1 := by simp only [size_alloc']
  rw [← hzk]
  exact (heap_alloc_of (heap_alloc_at (w.alloc (.cells A s)) (.cells B t)) _)
theorem Up.c3_2 {w : World} {A B C : Array Value} {s t r : TypeId} (u : Up (((w.alloc (.cells A s)).alloc (.cells B t)).alloc (.cells C r))) (j : Nat) : u.x.cell? ⟨w.heap.size + 1 + 1, j, none⟩ = C[j]? := u.f3.c2 u j
theorem Up.z3_2 {w : World} {A B C : Array Value} {s t r : TypeId} (u : Up (((w.alloc (.cells A s)).alloc (.cells B t)).alloc (.cells C r))) (j : Nat) : u.x.frozen? ⟨w.heap.size + 1 + 1, j, none⟩ = false := u.f3.f2 u j
theorem Up.s3_2 {w : World} {A B C : Array Value} {s t r : TypeId} (u : Up (((w.alloc (.cells A s)).alloc (.cells B t)).alloc (.cells C r))) : w.heap.size + 1 + 1 < u.x.heap.size := u.f3.s2 u
theorem Up.h3_2 {w : World} {A B C : Array Value} {s t r : TypeId} (u : Up (((w.alloc (.cells A s)).alloc (.cells B t)).alloc (.cells C r))) : HB u.x (w.heap.size + 1 + 1) C r := by
  have hz : (((w.alloc (.cells A s)).alloc (.cells B t)).alloc (.cells C r)).heap.size = w.heap.size + 1 + 1 + 1 := by simp only [size_alloc']
  unfold HB
  rw [u.h.block _ (by omega)]
  have hzk : ((w.alloc (.cells A s)).alloc (.cells B t)).heap.size = w.heap.size + 1 + 1 := by simp only [size_alloc']
  rw [← hzk]
  exact (heap_alloc_at ((w.alloc (.cells A s)).alloc (.cells B t)) (.cells C r))
theorem Up.b3 {w : World} {A B C : Array Value} {s t r : TypeId} (u : Up (((w.alloc (.cells A s)).alloc (.cells B t)).alloc (.cells C r))) : Below w.heap.size w u.x := u.f3.below u

theorem Up.c4_0 {w : World} {A B C D : Array Value} {s t r q : TypeId} (u : Up ((((w.alloc (.cells A s)).alloc (.cells B t)).alloc (.cells C r)).alloc (.cells D q))) (j : Nat) : u.x.cell? ⟨w.heap.size, j, none⟩ = A[j]? := u.f4.c0 u j
theorem Up.z4_0 {w : World} {A B C D : Array Value} {s t r q : TypeId} (u : Up ((((w.alloc (.cells A s)).alloc (.cells B t)).alloc (.cells C r)).alloc (.cells D q))) (j : Nat) : u.x.frozen? ⟨w.heap.size, j, none⟩ = false := u.f4.f0 u j
theorem Up.s4_0 {w : World} {A B C D : Array Value} {s t r q : TypeId} (u : Up ((((w.alloc (.cells A s)).alloc (.cells B t)).alloc (.cells C r)).alloc (.cells D q))) : w.heap.size < u.x.heap.size := u.f4.s0 u
theorem Up.h4_0 {w : World} {A B C D : Array Value} {s t r q : TypeId} (u : Up ((((w.alloc (.cells A s)).alloc (.cells B t)).alloc (.cells C r)).alloc (.cells D q))) : HB u.x (w.heap.size) A s := by
  have hz : ((((w.alloc (.cells A s)).alloc (.cells B t)).alloc (.cells C r)).alloc (.cells D q)).heap.size = w.heap.size + 1 + 1 + 1 + 1 := by simp only [size_alloc']
  unfold HB
  rw [u.h.block _ (by omega)]
  exact (heap_alloc_of (heap_alloc_of (heap_alloc_of (heap_alloc_at w (.cells A s)) _) _) _)
theorem Up.c4_1 {w : World} {A B C D : Array Value} {s t r q : TypeId} (u : Up ((((w.alloc (.cells A s)).alloc (.cells B t)).alloc (.cells C r)).alloc (.cells D q))) (j : Nat) : u.x.cell? ⟨w.heap.size + 1, j, none⟩ = B[j]? := u.f4.c1 u j
theorem Up.z4_1 {w : World} {A B C D : Array Value} {s t r q : TypeId} (u : Up ((((w.alloc (.cells A s)).alloc (.cells B t)).alloc (.cells C r)).alloc (.cells D q))) (j : Nat) : u.x.frozen? ⟨w.heap.size + 1, j, none⟩ = false := u.f4.f1 u j
theorem Up.s4_1 {w : World} {A B C D : Array Value} {s t r q : TypeId} (u : Up ((((w.alloc (.cells A s)).alloc (.cells B t)).alloc (.cells C r)).alloc (.cells D q))) : w.heap.size + 1 < u.x.heap.size := u.f4.s1 u
theorem Up.h4_1 {w : World} {A B C D : Array Value} {s t r q : TypeId} (u : Up ((((w.alloc (.cells A s)).alloc (.cells B t)).alloc (.cells C r)).alloc (.cells D q))) : HB u.x (w.heap.size + 1) B t := by
  have hz : ((((w.alloc (.cells A s)).alloc (.cells B t)).alloc (.cells C r)).alloc (.cells D q)).heap.size = w.heap.size + 1 + 1 + 1 + 1 := by simp only [size_alloc']
  unfold HB
  rw [u.h.block _ (by omega)]
  have hzk : (w.alloc (.cells A s)).heap.size = w.heap.size + 1 := by simp only [size_alloc']
  rw [← hzk]
  exact (heap_alloc_of (heap_alloc_of (heap_alloc_at (w.alloc (.cells A s)) (.cells B t)) _) _)
theorem Up.c4_2 {w : World} {A B C D : Array Value} {s t r q : TypeId} (u : Up ((((w.alloc (.cells A s)).alloc (.cells B t)).alloc (.cells C r)).alloc (.cells D q))) (j : Nat) : u.x.cell? ⟨w.heap.size + 1 + 1, j, none⟩ = C[j]? := u.f4.c2 u j
theorem Up.z4_2 {w : World} {A B C D : Array Value} {s t r q : TypeId} (u : Up ((((w.alloc (.cells A s)).alloc (.cells B t)).alloc (.cells C r)).alloc (.cells D q))) (j : Nat) : u.x.frozen? ⟨w.heap.size + 1 + 1, j, none⟩ = false := u.f4.f2 u j
theorem Up.s4_2 {w : World} {A B C D : Array Value} {s t r q : TypeId} (u : Up ((((w.alloc (.cells A s)).alloc (.cells B t)).alloc (.cells C r)).alloc (.cells D q))) : w.heap.size + 1 + 1 < u.x.heap.size := u.f4.s2 u
theorem Up.h4_2 {w : World} {A B C D : Array Value} {s t r q : TypeId} (u : Up ((((w.alloc (.cells A s)).alloc (.cells B t)).alloc (.cells C r)).alloc (.cells D q))) : HB u.x (w.heap.size + 1 + 1) C r := by
  have hz : ((((w.alloc (.cells A s)).alloc (.cells B t)).alloc (.cells C r)).alloc (.cells D q)).heap.size = w.heap.size + 1 + 1 + 1 + 1 := by simp only [size_alloc']
  unfold HB
  rw [u.h.block _ (by omega)]
  have hzk : ((w.alloc (.cells A s)).alloc (.cells B t)).heap.size = w.heap.size + 1 + 1 := by simp only [size_alloc']
  rw [← hzk]
  exact (heap_alloc_of (heap_alloc_at ((w.alloc (.cells A s)).alloc (.cells B t)) (.cells C r)) _)
theorem Up.c4_3 {w : World} {A B C D : Array Value} {s t r q : TypeId} (u : Up ((((w.alloc (.cells A s)).alloc (.cells B t)).alloc (.cells C r)).alloc (.cells D q))) (j : Nat) : u.x.cell? ⟨w.heap.size + 1 + 1 + 1, j, none⟩ = D[j]? := u.f4.c3 u j
theorem Up.z4_3 {w : World} {A B C D : Array Value} {s t r q : TypeId} (u : Up ((((w.alloc (.cells A s)).alloc (.cells B t)).alloc (.cells C r)).alloc (.cells D q))) (j : Nat) : u.x.frozen? ⟨w.heap.size + 1 + 1 + 1, j, none⟩ = false := u.f4.f3 u j
theorem Up.s4_3 {w : World} {A B C D : Array Value} {s t r q : TypeId} (u : Up ((((w.alloc (.cells A s)).alloc (.cells B t)).alloc (.cells C r)).alloc (.cells D q))) : w.heap.size + 1 + 1 + 1 < u.x.heap.size := u.f4.s3 u
theorem Up.h4_3 {w : World} {A B C D : Array Value} {s t r q : TypeId} (u : Up ((((w.alloc (.cells A s)).alloc (.cells B t)).alloc (.cells C r)).alloc (.cells D q))) : HB u.x (w.heap.size + 1 + 1 + 1) D q := by
  have hz : ((((w.alloc (.cells A s)).alloc (.cells B t)).alloc (.cells C r)).alloc (.cells D q)).heap.size = w.heap.size + 1 + 1 + 1 + 1 := by simp only [size_alloc']
  unfold HB
  rw [u.h.block _ (by omega)]
  have hzk : (((w.alloc (.cells A s)).alloc (.cells B t)).alloc (.cells C r)).heap.size = w.heap.size + 1 + 1 + 1 := by simp only [size_alloc']
  rw [← hzk]
  exact (heap_alloc_at (((w.alloc (.cells A s)).alloc (.cells B t)).alloc (.cells C r)) (.cells D q))
theorem Up.b4 {w : World} {A B C D : Array Value} {s t r q : TypeId} (u : Up ((((w.alloc (.cells A s)).alloc (.cells B t)).alloc (.cells C r)).alloc (.cells D q))) : Below w.heap.size w u.x := u.f4.below u

theorem Up.c5_0 {w : World} {A B C D E : Array Value} {s t r q p : TypeId} (u : Up (((((w.alloc (.cells A s)).alloc (.cells B t)).alloc (.cells C r)).alloc (.cells D q)).alloc (.cells E p))) (j : Nat) : u.x.cell? ⟨w.heap.size, j, none⟩ = A[j]? := u.f5.c0 u j
theorem Up.z5_0 {w : World} {A B C D E : Array Value} {s t r q p : TypeId} (u : Up (((((w.alloc (.cells A s)).alloc (.cells B t)).alloc (.cells C r)).alloc (.cells D q)).alloc (.cells E p))) (j : Nat) : u.x.frozen? ⟨w.heap.size, j, none⟩ = false := u.f5.f0 u j
theorem Up.s5_0 {w : World} {A B C D E : Array Value} {s t r q p : TypeId} (u : Up (((((w.alloc (.cells A s)).alloc (.cells B t)).alloc (.cells C r)).alloc (.cells D q)).alloc (.cells E p))) : w.heap.size < u.x.heap.size := u.f5.s0 u
theorem Up.h5_0 {w : World} {A B C D E : Array Value} {s t r q p : TypeId} (u : Up (((((w.alloc (.cells A s)).alloc (.cells B t)).alloc (.cells C r)).alloc (.cells D q)).alloc (.cells E p))) : HB u.x (w.heap.size) A s := by
  have hz : (((((w.alloc (.cells A s)).alloc (.cells B t)).alloc (.cells C r)).alloc (.cells D q)).alloc (.cells E p)).heap.size = w.heap.size + 1 + 1 + 1 + 1 + 1 := by simp only [size_alloc']
  unfold HB
  rw [u.h.block _ (by omega)]
  exact (heap_alloc_of (heap_alloc_of (heap_alloc_of (heap_alloc_of (heap_alloc_at w (.cells A s)) _) _) _) _)
theorem Up.c5_1 {w : World} {A B C D E : Array Value} {s t r q p : TypeId} (u : Up (((((w.alloc (.cells A s)).alloc (.cells B t)).alloc (.cells C r)).alloc (.cells D q)).alloc (.cells E p))) (j : Nat) : u.x.cell? ⟨w.heap.size + 1, j, none⟩ = B[j]? := u.f5.c1 u j
theorem Up.z5_1 {w : World} {A B C D E : Array Value} {s t r q p : TypeId} (u : Up (((((w.alloc (.cells A s)).alloc (.cells B t)).alloc (.cells C r)).alloc (.cells D q)).alloc (.cells E p))) (j : Nat) : u.x.frozen? ⟨w.heap.size + 1, j, none⟩ = false := u.f5.f1 u j
theorem Up.s5_1 {w : World} {A B C D E : Array Value} {s t r q p : TypeId} (u : Up (((((w.alloc (.cells A s)).alloc (.cells B t)).alloc (.cells C r)).alloc (.cells D q)).alloc (.cells E p))) : w.heap.size + 1 < u.x.heap.size := u.f5.s1 u
theorem Up.h5_1 {w : World} {A B C D E : Array Value} {s t r q p : TypeId} (u : Up (((((w.alloc (.cells A s)).alloc (.cells B t)).alloc (.cells C r)).alloc (.cells D q)).alloc (.cells E p))) : HB u.x (w.heap.size + 1) B t := by
  have hz : (((((w.alloc (.cells A s)).alloc (.cells B t)).alloc (.cells C r)).alloc (.cells D q)).alloc (.cells E p)).heap.size = w.heap.size + 1 + 1 + 1 + 1 + 1 := by simp only [size_alloc']
  unfold HB
  rw [u.h.block _ (by omega)]
  have hzk : (w.alloc (.cells A s)).heap.size = w.heap.size + 1 := by simp only [size_alloc']
  rw [← hzk]
  exact (heap_alloc_of (heap_alloc_of (heap_alloc_of (heap_alloc_at (w.alloc (.cells A s)) (.cells B t)) _) _) _)
theorem Up.c5_2 {w : World} {A B C D E : Array Value} {s t r q p : TypeId} (u : Up (((((w.alloc (.cells A s)).alloc (.cells B t)).alloc (.cells C r)).alloc (.cells D q)).alloc (.cells E p))) (j : Nat) : u.x.cell? ⟨w.heap.size + 1 + 1, j, none⟩ = C[j]? := u.f5.c2 u j
theorem Up.z5_2 {w : World} {A B C D E : Array Value} {s t r q p : TypeId} (u : Up (((((w.alloc (.cells A s)).alloc (.cells B t)).alloc (.cells C r)).alloc (.cells D q)).alloc (.cells E p))) (j : Nat) : u.x.frozen? ⟨w.heap.size + 1 + 1, j, none⟩ = false := u.f5.f2 u j
theorem Up.s5_2 {w : World} {A B C D E : Array Value} {s t r q p : TypeId} (u : Up (((((w.alloc (.cells A s)).alloc (.cells B t)).alloc (.cells C r)).alloc (.cells D q)).alloc (.cells E p))) : w.heap.size + 1 + 1 < u.x.heap.size := u.f5.s2 u
theorem Up.h5_2 {w : World} {A B C D E : Array Value} {s t r q p : TypeId} (u : Up (((((w.alloc (.cells A s)).alloc (.cells B t)).alloc (.cells C r)).alloc (.cells D q)).alloc (.cells E p))) : HB u.x (w.heap.size + 1 + 1) C r := by
  have hz : (((((w.alloc (.cells A s)).alloc (.cells B t)).alloc (.cells C r)).alloc (.cells D q)).alloc (.cells E p)).heap.size = w.heap.size + 1 + 1 + 1 + 1 + 1 := by simp only [size_alloc']
  unfold HB
  rw [u.h.block _ (by omega)]
  have hzk : ((w.alloc (.cells A s)).alloc (.cells B t)).heap.size = w.heap.size + 1 + 1 := by simp only [size_alloc']
  rw [← hzk]
  exact (heap_alloc_of (heap_alloc_of (heap_alloc_at ((w.alloc (.cells A s)).alloc (.cells B t)) (.cells C r)) _) _)
theorem Up.c5_3 {w : World} {A B C D E : Array Value} {s t r q p : TypeId} (u : Up (((((w.alloc (.cells A s)).alloc (.cells B t)).alloc (.cells C r)).alloc (.cells D q)).alloc (.cells E p))) (j : Nat) : u.x.cell? ⟨w.heap.size + 1 + 1 + 1, j, none⟩ = D[j]? := u.f5.c3 u j
theorem Up.z5_3 {w : World} {A B C D E : Array Value} {s t r q p : TypeId} (u : Up (((((w.alloc (.cells A s)).alloc (.cells B t)).alloc (.cells C r)).alloc (.cells D q)).alloc (.cells E p))) (j : Nat) : u.x.frozen? ⟨w.heap.size + 1 + 1 + 1, j, none⟩ = false := u.f5.f3 u j
theorem Up.s5_3 {w : World} {A B C D E : Array Value} {s t r q p : TypeId} (u : Up (((((w.alloc (.cells A s)).alloc (.cells B t)).alloc (.cells C r)).alloc (.cells D q)).alloc (.cells E p))) : w.heap.size + 1 + 1 + 1 < u.x.heap.size := u.f5.s3 u
theorem Up.h5_3 {w : World} {A B C D E : Array Value} {s t r q p : TypeId} (u : Up (((((w.alloc (.cells A s)).alloc (.cells B t)).alloc (.cells C r)).alloc (.cells D q)).alloc (.cells E p))) : HB u.x (w.heap.size + 1 + 1 + 1) D q := by
  have hz : (((((w.alloc (.cells A s)).alloc (.cells B t)).alloc (.cells C r)).alloc (.cells D q)).alloc (.cells E p)).heap.size = w.heap.size + 1 + 1 + 1 + 1 + 1 := by simp only [size_alloc']
  unfold HB
  rw [u.h.block _ (by omega)]
  have hzk : (((w.alloc (.cells A s)).alloc (.cells B t)).alloc (.cells C r)).heap.size = w.heap.size + 1 + 1 + 1 := by simp only [size_alloc']
  rw [← hzk]
  exact (heap_alloc_of (heap_alloc_at (((w.alloc (.cells A s)).alloc (.cells B t)).alloc (.cells C r)) (.cells D q)) _)
theorem Up.c5_4 {w : World} {A B C D E : Array Value} {s t r q p : TypeId} (u : Up (((((w.alloc (.cells A s)).alloc (.cells B t)).alloc (.cells C r)).alloc (.cells D q)).alloc (.cells E p))) (j : Nat) : u.x.cell? ⟨w.heap.size + 1 + 1 + 1 + 1, j, none⟩ = E[j]? := u.f5.c4 u j
theorem Up.z5_4 {w : World} {A B C D E : Array Value} {s t r q p : TypeId} (u : Up (((((w.alloc (.cells A s)).alloc (.cells B t)).alloc (.cells C r)).alloc (.cells D q)).alloc (.cells E p))) (j : Nat) : u.x.frozen? ⟨w.heap.size + 1 + 1 + 1 + 1, j, none⟩ = false := u.f5.f4 u j
theorem Up.s5_4 {w : World} {A B C D E : Array Value} {s t r q p : TypeId} (u : Up (((((w.alloc (.cells A s)).alloc (.cells B t)).alloc (.cells C r)).alloc (.cells D q)).alloc (.cells E p))) : w.heap.size + 1 + 1 + 1 + 1 < u.x.heap.size := u.f5.s4 u
theorem Up.h5_4 {w : World} {A B C D E : Array Value} {s t r q p : TypeId} (u : Up (((((w.alloc (.cells A s)).alloc (.cells B t)).alloc (.cells C r)).alloc (.cells D q)).alloc (.cells E p))) : HB u.x (w.heap.size + 1 + 1 + 1 + 1) E p := by
  have hz : (((((w.alloc (.cells A s)).alloc (.cells B t)).alloc (.cells C r)).alloc (.cells D q)).alloc (.cells E p)).heap.size = w.heap.size + 1 + 1 + 1 + 1 + 1 := by simp only [size_alloc']
  unfold HB
  rw [u.h.block _ (by omega)]
  have hzk : ((((w.alloc (.cells A s)).alloc (.cells B t)).alloc (.cells C r)).alloc (.cells D q)).heap.size = w.heap.size + 1 + 1 + 1 + 1 := by simp only [size_alloc']
  rw [← hzk]
  exact (heap_alloc_at ((((w.alloc (.cells A s)).alloc (.cells B t)).alloc (.cells C r)).alloc (.cells D q)) (.cells E p))
theorem Up.b5 {w : World} {A B C D E : Array Value} {s t r q p : TypeId} (u : Up (((((w.alloc (.cells A s)).alloc (.cells B t)).alloc (.cells C r)).alloc (.cells D q)).alloc (.cells E p))) : Below w.heap.size w u.x := u.f5.below u

theorem Up.c6_0 {w : World} {A B C D E F : Array Value} {s t r q p o : TypeId} (u : Up ((((((w.alloc (.cells A s)).alloc (.cells B t)).alloc (.cells C r)).alloc (.cells D q)).alloc (.cells E p)).alloc (.cells F o))) (j : Nat) : u.x.cell? ⟨w.heap.size, j, none⟩ = A[j]? := u.f6.c0 u j
theorem Up.z6_0 {w : World} {A B C D E F : Array Value} {s t r q p o : TypeId} (u : Up ((((((w.alloc (.cells A s)).alloc (.cells B t)).alloc (.cells C r)).alloc (.cells D q)).alloc (.cells E p)).alloc (.cells F o))) (j : Nat) : u.x.frozen? ⟨w.heap.size, j, none⟩ = false := u.f6.f0 u j
theorem Up.s6_0 {w : World} {A B C D E F : Array Value} {s t r q p o : TypeId} (u : Up ((((((w.alloc (.cells A s)).alloc (.cells B t)).alloc (.cells C r)).alloc (.cells D q)).alloc (.cells E p)).alloc (.cells F o))) : w.heap.size < u.x.heap.size := u.f6.s0 u
theorem Up.h6_0 {w : World} {A B C D E F : Array Value} {s t r q p o : TypeId} (u : Up ((((((w.alloc (.cells A s)).alloc (.cells B t)).alloc (.cells C r)).alloc (.cells D q)).alloc (.cells E p)).alloc (.cells F o))) : HB u.x (w.heap.size) A s := by
  have hz : ((((((w.alloc (.cells A s)).alloc (.cells B t)).alloc (.cells C r)).alloc (.cells D q)).alloc (.cells E p)).alloc (.cells F o)).heap.size = w.heap.size + 1 + 1 + 1 + 1 + 1 + 1 := by simp only [size_alloc']
  unfold HB
  rw [u.h.block _ (by omega)]
  exact (heap_alloc_of (heap_alloc_of (heap_alloc_of (heap_alloc_of (heap_alloc_of (heap_alloc_at w (.cells A s)) _) _) _) _) _)
theorem Up.c6_1 {w : World} {A B C D E F : Array Value} {s t r q p o : TypeId} (u : Up ((((((w.alloc (.cells A s)).alloc (.cells B t)).alloc (.cells C r)).alloc (.cells D q)).alloc (.cells E p)).alloc (.cells F o))) (j : Nat) : u.x.cell? ⟨w.heap.size + 1, j, none⟩ = B[j]? := u.f6.c1 u j
theorem Up.z6_1 {w : World} {A B C D E F : Array Value} {s t r q p o : TypeId} (u : Up ((((((w.alloc (.cells A s)).alloc (.cells B t)).alloc (.cells C r)).alloc (.cells D q)).alloc (.cells E p)).alloc (.cells F o))) (j : Nat) : u.x.frozen? ⟨w.heap.size + 1, j, none⟩ = false := u.f6.f1 u j
theorem Up.s6_1 {w : World} {A B C D E F : Array Value} {s t r q p o : TypeId} (u : Up ((((((w.alloc (.cells A s)).alloc (.cells B t)).alloc (.cells C r)).alloc (.cells D q)).alloc (.cells E p)).alloc (.cells F o))) : w.heap.size + 1 < u.x.heap.size := u.f6.s1 u
theorem Up.h6_1 {w : World} {A B C D E F : Array Value} {s t r q p o : TypeId} (u : Up ((((((w.alloc (.cells A s)).alloc (.cells B t)).alloc (.cells C r)).alloc (.cells D q)).alloc (.cells E p)).alloc (.cells F o))) : HB u.x (w.heap.size + 1) B t := by
  have hz : ((((((w.alloc (.cells A s)).alloc (.cells B t)).alloc (.cells C r)).alloc (.cells D q)).alloc (.cells E p)).alloc (.cells F o)).heap.size = w.heap.size + 1 + 1 + 1 + 1 + 1 + 1 := by simp only [size_alloc']
  unfold HB
  rw [u.h.block _ (by omega)]
  have hzk : (w.alloc (.cells A s)).heap.size = w.heap.size + 1 := by simp only [size_alloc']
  rw [← hzk]
  exact (heap_alloc_of (heap_alloc_of (heap_alloc_of (heap_alloc_of (heap_alloc_at (w.alloc (.cells A s)) (.cells B t)) _) _) _) _)
theorem Up.c6_2 {w : World} {A B C D E F : Array Value} {s t r q p o : TypeId} (u : Up ((((((w.alloc (.cells A s)).alloc (.cells B t)).alloc (.cells C r)).alloc (.cells D q)).alloc (.cells E p)).alloc (.cells F o))) (j : Nat) : u.x.cell? ⟨w.heap.size + 1 + 1, j, none⟩ = C[j]? := u.f6.c2 u j
theorem Up.z6_2 {w : World} {A B C D E F : Array Value} {s t r q p o : TypeId} (u : Up ((((((w.alloc (.cells A s)).alloc (.cells B t)).alloc (.cells C r)).alloc (.cells D q)).alloc (.cells E p)).alloc (.cells F o))) (j : Nat) : u.x.frozen? ⟨w.heap.size + 1 + 1, j, none⟩ = false := u.f6.f2 u j
theorem Up.s6_2 {w : World} {A B C D E F : Array Value} {s t r q p o : TypeId} (u : Up ((((((w.alloc (.cells A s)).alloc (.cells B t)).alloc (.cells C r)).alloc (.cells D q)).alloc (.cells E p)).alloc (.cells F o))) : w.heap.size + 1 + 1 < u.x.heap.size := u.f6.s2 u
theorem Up.h6_2 {w : World} {A B C D E F : Array Value} {s t r q p o : TypeId} (u : Up ((((((w.alloc (.cells A s)).alloc (.cells B t)).alloc (.cells C r)).alloc (.cells D q)).alloc (.cells E p)).alloc (.cells F o))) : HB u.x (w.heap.size + 1 + 1) C r := by
  have hz : ((((((w.alloc (.cells A s)).alloc (.cells B t)).alloc (.cells C r)).alloc (.cells D q)).alloc (.cells E p)).alloc (.cells F o)).heap.size = w.heap.size + 1 + 1 + 1 + 1 + 1 + 1 := by simp only [size_alloc']
  unfold HB
  rw [u.h.block _ (by omega)]
  have hzk : ((w.alloc (.cells A s)).alloc (.cells B t)).heap.size = w.heap.size + 1 + 1 := by simp only [size_alloc']
  rw [← hzk]
  exact (heap_alloc_of (heap_alloc_of (heap_alloc_of (heap_alloc_at ((w.alloc (.cells A s)).alloc (.cells B t)) (.cells C r)) _) _) _)
theorem Up.c6_3 {w : World} {A B C D E F : Array Value} {s t r q p o : TypeId} (u : Up ((((((w.alloc (.cells A s)).alloc (.cells B t)).alloc (.cells C r)).alloc (.cells D q)).alloc (.cells E p)).alloc (.cells F o))) (j : Nat) : u.x.cell? ⟨w.heap.size + 1 + 1 + 1, j, none⟩ = D[j]? := u.f6.c3 u j
theorem Up.z6_3 {w : World} {A B C D E F : Array Value} {s t r q p o : TypeId} (u : Up ((((((w.alloc (.cells A s)).alloc (.cells B t)).alloc (.cells C r)).alloc (.cells D q)).alloc (.cells E p)).alloc (.cells F o))) (j : Nat) : u.x.frozen? ⟨w.heap.size + 1 + 1 + 1, j, none⟩ = false := u.f6.f3 u j
theorem Up.s6_3 {w : World} {A B C D E F : Array Value} {s t r q p o : TypeId} (u : Up ((((((w.alloc (.cells A s)).alloc (.cells B t)).alloc (.cells C r)).alloc (.cells D q)).alloc (.cells E p)).alloc (.cells F o))) : w.heap.size + 1 + 1 + 1 < u.x.heap.size := u.f6.s3 u
theorem Up.h6_3 {w : World} {A B C D E F : Array Value} {s t r q p o : TypeId} (u : Up ((((((w.alloc (.cells A s)).alloc (.cells B t)).alloc (.cells C r)).alloc (.cells D q)).alloc (.cells E p)).alloc (.cells F o))) : HB u.x (w.heap.size + 1 + 1 + 1) D q := by
  have hz : ((((((w.alloc (.cells A s)).alloc (.cells B t)).alloc (.cells C r)).alloc (.cells D q)).alloc (.cells E p)).alloc (.cells F o)).heap.size = w.heap.size + 1 + 1 + 1 + 1 + 1 + 1 := by simp only [size_alloc']
  unfold HB
  rw [u.h.block _ (by omega)]
  have hzk : (((w.alloc (.cells A s)).alloc (.cells B t)).alloc (.cells C r)).heap.size = w.heap.size + 1 + 1 + 1 := by simp only [size_alloc']
  rw [← hzk]
  exact (heap_alloc_of (heap_alloc_of (heap_alloc_at (((w.alloc (.cells A s)).alloc (.cells B t)).alloc (.cells C r)) (.cells D q)) _) _)
theorem Up.c6_4 {w : World} {A B C D E F : Array Value} {s t r q p o : TypeId} (u : Up ((((((w.alloc (.cells A s)).alloc (.cells B t)).alloc (.cells C r)).alloc (.cells D q)).alloc (.cells E p)).alloc (.cells F o))) (j : Nat) : u.x.cell? ⟨w.heap.size + 1 + 1 + 1 + 1, j, none⟩ = E[j]? := u.f6.c4 u j
theorem Up.z6_4 {w : World} {A B C D E F : Array Value} {s t r q p o : TypeId} (u : Up ((((((w.alloc (.cells A s)).alloc (.cells B t)).alloc (.cells C r)).alloc (.cells D q)).alloc (.cells E p)).alloc (.cells F o))) (j : Nat) : u.x.frozen? ⟨w.heap.size + 1 + 1 + 1 + 1, j, none⟩ = false := u.f6.f4 u j
theorem Up.s6_4 {w : World} {A B C D E F : Array Value} {s t r q p o : TypeId} (u : Up ((((((w.alloc (.cells A s)).alloc (.cells B t)).alloc (.cells C r)).alloc (.cells D q)).alloc (.cells E p)).alloc (.cells F o))) : w.heap.size + 1 + 1 + 1 + 1 < u.x.heap.size := u.f6.s4 u
theorem Up.h6_4 {w : World} {A B C D E F : Array Value} {s t r q p o : TypeId} (u : Up ((((((w.alloc (.cells A s)).alloc (.cells B t)).alloc (.cells C r)).alloc (.cells D q)).alloc (.cells E p)).alloc (.cells F o))) : HB u.x (w.heap.size + 1 + 1 + 1 + 1) E p := by
  have hz : ((((((w.alloc (.cells A s)).alloc (.cells B t)).alloc (.cells C r)).alloc (.cells D q)).alloc (.cells E p)).alloc (.cells F o)).heap.size = w.heap.size + 1 + 1 + 1 + 1 + 1 + 1 := by simp only [size_alloc']
  unfold HB
  rw [u.h.block _ (by omega)]
  have hzk : ((((w.alloc (.cells A s)).alloc (.cells B t)).alloc (.cells C r)).alloc (.cells D q)).heap.size = w.heap.size + 1 + 1 + 1 + 1 := by simp only [size_alloc']
  rw [← hzk]
  exact (heap_alloc_of (heap_alloc_at ((((w.alloc (.cells A s)).alloc (.cells B t)).alloc (.cells C r)).alloc (.cells D q)) (.cells E p)) _)
theorem Up.c6_5 {w : World} {A B C D E F : Array Value} {s t r q p o : TypeId} (u : Up ((((((w.alloc (.cells A s)).alloc (.cells B t)).alloc (.cells C r)).alloc (.cells D q)).alloc (.cells E p)).alloc (.cells F o))) (j : Nat) : u.x.cell? ⟨w.heap.size + 1 + 1 + 1 + 1 + 1, j, none⟩ = F[j]? := u.f6.c5 u j
theorem Up.z6_5 {w : World} {A B C D E F : Array Value} {s t r q p o : TypeId} (u : Up ((((((w.alloc (.cells A s)).alloc (.cells B t)).alloc (.cells C r)).alloc (.cells D q)).alloc (.cells E p)).alloc (.cells F o))) (j : Nat) : u.x.frozen? ⟨w.heap.size + 1 + 1 + 1 + 1 + 1, j, none⟩ = false := u.f6.f5 u j
theorem Up.s6_5 {w : World} {A B C D E F : Array Value} {s t r q p o : TypeId} (u : Up ((((((w.alloc (.cells A s)).alloc (.cells B t)).alloc (.cells C r)).alloc (.cells D q)).alloc (.cells E p)).alloc (.cells F o))) : w.heap.size + 1 + 1 + 1 + 1 + 1 < u.x.heap.size := u.f6.s5 u
theorem Up.h6_5 {w : World} {A B C D E F : Array Value} {s t r q p o : TypeId} (u : Up ((((((w.alloc (.cells A s)).alloc (.cells B t)).alloc (.cells C r)).alloc (.cells D q)).alloc (.cells E p)).alloc (.cells F o))) : HB u.x (w.heap.size + 1 + 1 + 1 + 1 + 1) F o := by
  have hz : ((((((w.alloc (.cells A s)).alloc (.cells B t)).alloc (.cells C r)).alloc (.cells D q)).alloc (.cells E p)).alloc (.cells F o)).heap.size = w.heap.size + 1 + 1 + 1 + 1 + 1 + 1 := by simp only [size_alloc']
  unfold HB
  rw [u.h.block _ (by omega)]
  have hzk : (((((w.alloc (.cells A s)).alloc (.cells B t)).alloc (.cells C r)).alloc (.cells D q)).alloc (.cells E p)).heap.size = w.heap.size + 1 + 1 + 1 + 1 + 1 := by simp only [size_alloc']
  rw [← hzk]
  exact (heap_alloc_at (((((w.alloc (.cells A s)).alloc (.cells B t)).alloc (.cells C r)).alloc (.cells D q)).alloc (.cells E p)) (.cells F o))
theorem Up.b6 {w : World} {A B C D E F : Array Value} {s t r q p o : TypeId} (u : Up ((((((w.alloc (.cells A s)).alloc (.cells B t)).alloc (.cells C r)).alloc (.cells D q)).alloc (.cells E p)).alloc (.cells F o))) : Below w.heap.size w u.x := u.f6.below u

end Go.Proofs.Ytjbbgpacijageaa
