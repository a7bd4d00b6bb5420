/- More plain facts: what a call leaves of the blocks that were laid ahead of it. -/
import Derived.Test.YtjbbgpacijageaaMath
namespace Go.Proofs.Ytjbbgpacijageaa
open Go.RowKit

theorem to_up {w w1 : World} (h : Below w.heap.size w w1) : ∃ u : Up w, w1 = u.x := ⟨⟨w1, h⟩, rfl⟩
theorem Up.facts {w : World} (_ : Up w) : UpFacts w := upFacts w

theorem heap_alloc_at (w : World) (ob : Obj) : (w.alloc ob).heap[w.heap.size]? = some ob := by
  show (w.heap.push ob)[w.heap.size]? = _
  simp
theorem cell_of_block {w : World} {b : Nat} {C : Array Value} {t : TypeId} (h : w.heap[b]? = some (.cells C t)) (o : Nat) : w.cell? ⟨b, o, none⟩ = C[o]? := by
  simp [World.cell?, h]
theorem frozen_of_block {w : World} {b : Nat} {C : Array Value} {t : TypeId} (h : w.heap[b]? = some (.cells C t)) (o : Nat) : w.frozen? ⟨b, o, none⟩ = false := by
  simp [World.frozen?, h]
theorem up_block {w : World} (u : Up w) {b : Nat} {ob : Obj} (hb : b < w.heap.size) (h : w.heap[b]? = some ob) : u.x.heap[b]? = some ob := by rw [u.h.block b hb]; exact h
theorem heap_alloc_of {w : World} {b : Nat} {ob : Obj} (h : w.heap[b]? = some ob) (ob' : Obj) : (w.alloc ob').heap[b]? = some ob := by
  have hb : b < w.heap.size := by
    rcases Nat.lt_or_ge b w.heap.size with h' | h'
    · exact h'
    · rw [Array.getElem?_eq_none h'] at h; cases h
  rw [Below.heap_alloc w ob' b hb]; exact h
theorem size_alloc' (w : World) (ob : Obj) : (w.alloc ob).heap.size = w.heap.size + 1 := by
  show (w.heap.push ob).size = _
  simp

/-- A region that draws its order, walked once, in a world that has all that w has. -/
theorem region_up_at {P : Program} {id : Nat} {Q : Exit → Act → World → Prop} {a : Act} {w : World} {u : Up w} {l : List Oper} (hm : P.follows .mixedOrders = true) (hB : Region.lexB .any l.toArray = true)
    (h : wpQuiet P l.toArray (fun w' => ∃ u : Up w, w' = u.x) (fun a' => ∀ w', (∃ u : Up w, w' = u.x) → Q .normal a' w') l a) : (Code.region id l.toArray true).wp P Q a u.x :=
  wp_region_quiet (C := fun w' => ∃ u : Up w, w' = u.x) hm hB ⟨⟨u.x.drew, u.h.drew⟩, rfl⟩ (by simpa using h)

structure F1 (w : World) (A : Array Value) (s : TypeId) : Prop where
  ne : Nonempty (Up (w.alloc (.cells A s)))
  c0 : ∀ (u : Up (w.alloc (.cells A s))) (j : Nat), u.x.cell? ⟨w.heap.size, j, none⟩ = A[j]?
  f0 : ∀ (u : Up (w.alloc (.cells A s))) (j : Nat), u.x.frozen? ⟨w.heap.size, j, none⟩ = false
  s0 : ∀ u : Up (w.alloc (.cells A s)), w.heap.size < u.x.heap.size
  below : ∀ u : Up (w.alloc (.cells A s)), Below w.heap.size w u.x

theorem Up.f1 {w : World} {A : Array Value} {s : TypeId} (_ : Up (w.alloc (.cells A s))) : F1 w A s := by
  have z0 : w.heap.size = w.heap.size := by rfl
  have b0 : (w.alloc (.cells A s)).heap[w.heap.size]? = some (.cells A s) := by
    rw [← z0]
    exact (heap_alloc_at w (.cells A s))
  have z : (w.alloc (.cells A s)).heap.size = w.heap.size + 1 := by simp only [size_alloc']
  exact ⟨up_here _, fun u j => cell_of_block (up_block u (by omega) b0) j, fun u j => frozen_of_block (up_block u (by omega) b0) j, fun u => by have := u.h.size; omega, fun u => below_trans (Below.alloc (Below.refl _ _) (by first | exact Nat.le_refl _ | (simp only [size_alloc']; omega)) _) u.h⟩

structure F2 (w : World) (A B : Array Value) (s t : TypeId) : Prop where
  ne : Nonempty (Up ((w.alloc (.cells A s)).alloc (.cells B t)))
  c0 : ∀ (u : Up ((w.alloc (.cells A s)).alloc (.cells B t))) (j : Nat), u.x.cell? ⟨w.heap.size, j, none⟩ = A[j]?
  f0 : ∀ (u : Up ((w.alloc (.cells A s)).alloc (.cells B t))) (j : Nat), u.x.frozen? ⟨w.heap.size, j, none⟩ = false
  s0 : ∀ u : Up ((w.alloc (.cells A s)).alloc (.cells B t)), w.heap.size < u.x.heap.size
  c1 : ∀ (u : Up ((w.alloc (.cells A s)).alloc (.cells B t))) (j : Nat), u.x.cell? ⟨w.heap.size + 1, j, none⟩ = B[j]?
  f1 : ∀ (u : Up ((w.alloc (.cells A s)).alloc (.cells B t))) (j : Nat), u.x.frozen? ⟨w.heap.size + 1, j, none⟩ = false
  s1 : ∀ u : Up ((w.alloc (.cells A s)).alloc (.cells B t)), w.heap.size + 1 < u.x.heap.size
  below : ∀ u : Up ((w.alloc (.cells A s)).alloc (.cells B t)), Below w.heap.size w u.x

theorem Up.f2 {w : World} {A B : Array Value} {s t : TypeId} (_ : Up ((w.alloc (.cells A s)).alloc (.cells B t))) : F2 w A B s t := by
  have z0 : w.heap.size = w.heap.size := by rfl
  have b0 : ((w.alloc (.cells A s)).alloc (.cells B t)).heap[w.heap.size]? = some (.cells A s) := by
    rw [← z0]
    exact (heap_alloc_of (heap_alloc_at w (.cells A s)) _)
  have z1 : (w.alloc (.cells A s)).heap.size = w.heap.size + 1 := by simp only [size_alloc']
  have b1 : ((w.alloc (.cells A s)).alloc (.cells B t)).heap[w.heap.size + 1]? = some (.cells B t) := by
    rw [← z1]
    exact (heap_alloc_at (w.alloc (.cells A s)) (.cells B t))
  have z : ((w.alloc (.cells A s)).alloc (.cells B t)).heap.size = w.heap.size + 1 + 1 := by simp only [size_alloc']
  exact ⟨up_here _, fun u j => cell_of_block (up_block u (by omega) b0) j, fun u j => frozen_of_block (up_block u (by omega) b0) j, fun u => by have := u.h.size; omega, fun u j => cell_of_block (up_block u (by omega) b1) j, fun u j => frozen_of_block (up_block u (by omega) b1) j, fun u => by have := u.h.size; omega, fun u => below_trans (Below.alloc (Below.alloc (Below.refl _ _) (by first | exact Nat.le_refl _ | (simp only [size_alloc']; omega)) _) (by first | exact Nat.le_refl _ | (simp only [size_alloc']; omega)) _) u.h⟩

structure F3 (w : World) (A B C : Array Value) (s t r : TypeId) : Prop where
  ne : Nonempty (Up (((w.alloc (.cells A s)).alloc (.cells B t)).alloc (.cells C r)))
  c0 : ∀ (u : Up (((w.alloc (.cells A s)).alloc (.cells B t)).alloc (.cells C r))) (j : Nat), u.x.cell? ⟨w.heap.size, j, none⟩ = A[j]?
  f0 : ∀ (u : Up (((w.alloc (.cells A s)).alloc (.cells B t)).alloc (.cells C r))) (j : Nat), u.x.frozen? ⟨w.heap.size, j, none⟩ = false
  s0 : ∀ u : Up (((w.alloc (.cells A s)).alloc (.cells B t)).alloc (.cells C r)), w.heap.size < u.x.heap.size
  c1 : ∀ (u : Up (((w.alloc (.cells A s)).alloc (.cells B t)).alloc (.cells C r))) (j : Nat), u.x.cell? ⟨w.heap.size + 1, j, none⟩ = B[j]?
  f1 : ∀ (u : Up (((w.alloc (.cells A s)).alloc (.cells B t)).alloc (.cells C r))) (j : Nat), u.x.frozen? ⟨w.heap.size + 1, j, none⟩ = false
  s1 : ∀ u : Up (((w.alloc (.cells A s)).alloc (.cells B t)).alloc (.cells C r)), w.heap.size + 1 < u.x.heap.size
  c2 : ∀ (u : Up (((w.alloc (.cells A s)).alloc (.cells B t)).alloc (.cells C r))) (j : Nat), u.x.cell? ⟨w.heap.size + 1 + 1, j, none⟩ = C[j]?
  f2 : ∀ (u : Up (((w.alloc (.cells A s)).alloc (.cells B t)).alloc (.cells C r))) (j : Nat), u.x.frozen? ⟨w.heap.size + 1 + 1, j, none⟩ = false
  s2 : ∀ u : Up (((w.alloc (.cells A s)).alloc (.cells B t)).alloc (.cells C r)), w.heap.size + 1 + 1 < u.x.heap.size
  below : ∀ u : Up (((w.alloc (.cells A s)).alloc (.cells B t)).alloc (.cells C r)), Below w.heap.size w u.x

theorem Up.f3 {w : World} {A B C : Array Value} {s t r : TypeId} (_ : Up (((w.alloc (.cells A s)).alloc (.cells B t)).alloc (.cells C r))) : F3 w A B C s t r := by
  have z0 : w.heap.size = w.heap.size := by rfl
  have b0 : (((w.alloc (.cells A s)).alloc (.cells B t)).alloc (.cells C r)).heap[w.heap.size]? = some (.cells A s) := by
    rw [← z0]
    exact (heap_alloc_of (heap_alloc_of (heap_alloc_at w (.cells A s)) _) _)
  have z1 : (w.alloc (.cells A s)).heap.size = w.heap.size + 1 := by simp only [size_alloc']
  have b1 : (((w.alloc (.cells A s)).alloc (.cells B t)).alloc (.cells C r)).heap[w.heap.size + 1]? = some (.cells B t) := by
    rw [← z1]
    exact (heap_alloc_of (heap_alloc_at (w.alloc (.cells A s)) (.cells B t)) _)
  have z2 : ((w.alloc (.cells A s)).alloc (.cells B t)).heap.size = w.heap.size + 1 + 1 := by simp only [size_alloc']
  have b2 : (((w.alloc (.cells A s)).alloc (.cells B t)).alloc (.cells C r)).heap[w.heap.size + 1 + 1]? = some (.cells C r) := by
    rw [← z2]
    exact (heap_alloc_at ((w.alloc (.cells A s)).alloc (.cells B t)) (.cells C r))
  have z : (((w.alloc (.cells A s)).alloc (.cells B t)).alloc (.cells C r)).heap.size = w.heap.size + 1 + 1 + 1 := by simp only [size_alloc']
  exact ⟨up_here _, fun u j => cell_of_block (up_block u (by omega) b0) j, fun u j => frozen_of_block (up_block u (by omega) b0) j, fun u => by have := u.h.size; omega, fun u j => cell_of_block (up_block u (by omega) b1) j, fun u j => frozen_of_block (up_block u (by omega) b1) j, fun u => by have := u.h.size; omega, fun u j => cell_of_block (up_block u (by omega) b2) j, fun u j => frozen_of_block (up_block u (by omega) b2) j, fun u => by have := u.h.size; omega, fun u => below_trans (Below.alloc (Below.alloc (Below.alloc (Below.refl _ _) (by first | exact Nat.le_refl _ | (simp only [size_alloc']; omega)) _) (by first | exact Nat.le_refl _ | (simp only [size_alloc']; omega)) _) (by first | exact Nat.le_refl _ | (simp only [size_alloc']; omega)) _) u.h⟩

structure F4 (w : World) (A B C D : Array Value) (s t r q : TypeId) : Prop where
  ne : Nonempty (Up ((((w.alloc (.cells A s)).alloc (.cells B t)).alloc (.cells C r)).alloc (.cells D q)))
  c0 : ∀ (u : Up ((((w.alloc (.cells A s)).alloc (.cells B t)).alloc (.cells C r)).alloc (.cells D q))) (j : Nat), u.x.cell? ⟨w.heap.size, j, none⟩ = A[j]?
  f0 : ∀ (u : Up ((((w.alloc (.cells A s)).alloc (.cells B t)).alloc (.cells C r)).alloc (.cells D q))) (j : Nat), u.x.frozen? ⟨w.heap.size, j, none⟩ = false
  s0 : ∀ u : Up ((((w.alloc (.cells A s)).alloc (.cells B t)).alloc (.cells C r)).alloc (.cells D q)), w.heap.size < u.x.heap.size
  c1 : ∀ (u : Up ((((w.alloc (.cells A s)).alloc (.cells B t)).alloc (.cells C r)).alloc (.cells D q))) (j : Nat), u.x.cell? ⟨w.heap.size + 1, j, none⟩ = B[j]?
  f1 : ∀ (u : Up ((((w.alloc (.cells A s)).alloc (.cells B t)).alloc (.cells C r)).alloc (.cells D q))) (j : Nat), u.x.frozen? ⟨w.heap.size + 1, j, none⟩ = false
  s1 : ∀ u : Up ((((w.alloc (.cells A s)).alloc (.cells B t)).alloc (.cells C r)).alloc (.cells D q)), w.heap.size + 1 < u.x.heap.size
  c2 : ∀ (u : Up ((((w.alloc (.cells A s)).alloc (.cells B t)).alloc (.cells C r)).alloc (.cells D q))) (j : Nat), u.x.cell? ⟨w.heap.size + 1 + 1, j, none⟩ = C[j]?
  f2 : ∀ (u : Up ((((w.alloc (.cells A s)).alloc (.cells B t)).alloc (.cells C r)).alloc (.cells D q))) (j : Nat), u.x.frozen? ⟨w.heap.size + 1 + 1, j, none⟩ = false
  s2 : ∀ u : Up ((((w.alloc (.cells A s)).alloc (.cells B t)).alloc (.cells C r)).alloc (.cells D q)), w.heap.size + 1 + 1 < u.x.heap.size
  c3 : ∀ (u : Up ((((w.alloc (.cells A s)).alloc (.cells B t)).alloc (.cells C r)).alloc (.cells D q))) (j : Nat), u.x.cell? ⟨w.heap.size + 1 + 1 + 1, j, none⟩ = D[j]?
  f3 : ∀ (u : Up ((((w.alloc (.cells A s)).alloc (.cells B t)).alloc (.cells C r)).alloc (.cells D q))) (j : Nat), u.x.frozen? ⟨w.heap.size + 1 + 1 + 1, j, none⟩ = false
  s3 : ∀ u : Up ((((w.alloc (.cells A s)).alloc (.cells B t)).alloc (.cells C r)).alloc (.cells D q)), w.heap.size + 1 + 1 + 1 < u.x.heap.size
  below : ∀ u : Up ((((w.alloc (.cells A s)).alloc (.cells B t)).alloc (.cells C r)).alloc (.cells D q)), Below w.heap.size w u.x

theorem Up.f4 {w : World} {A B C D : Array Value} {s t r q : TypeId} (_ : Up ((((w.alloc (.cells A s)).alloc (.cells B t)).alloc (.cells C r)).alloc (.cells D q))) : F4 w A B C D s t r q := by
  have z0 : w.heap.size = w.heap.size := by rfl
  have b0 : ((((w.alloc (.cells A s)).alloc (.cells B t)).alloc (.cells C r)).alloc (.cells D q)).heap[w.heap.size]? = some (.cells A s) := by
    rw [← z0]
    exact (heap_alloc_of (heap_alloc_of (heap_alloc_of (heap_alloc_at w (.cells A s)) _) _) _)
  have z1 : (w.alloc (.cells A s)).heap.size = w.heap.size + 1 := by simp only [size_alloc']
  have b1 : ((((w.alloc (.cells A s)).alloc (.cells B t)).alloc (.cells C r)).alloc (.cells D q)).heap[w.heap.size + 1]? = some (.cells B t) := by
    rw [← z1]
    exact (heap_alloc_of (heap_alloc_of (heap_alloc_at (w.alloc (.cells A s)) (.cells B t)) _) _)
  have z2 : ((w.alloc (.cells A s)).alloc (.cells B t)).heap.size = w.heap.size + 1 + 1 := by simp only [size_alloc']
  have b2 : ((((w.alloc (.cells A s)).alloc (.cells B t)).alloc (.cells C r)).alloc (.cells D q)).heap[w.heap.size + 1 + 1]? = some (.cells C r) := by
    rw [← z2]
    exact (heap_alloc_of (heap_alloc_at ((w.alloc (.cells A s)).alloc (.cells B t)) (.cells C r)) _)
  have z3 : (((w.alloc (.cells A s)).alloc (.cells B t)).alloc (.cells C r)).heap.size = w.heap.size + 1 + 1 + 1 := by simp only [size_alloc']
  have b3 : ((((w.alloc (.cells A s)).alloc (.cells B t)).alloc (.cells C r)).alloc (.cells D q)).heap[w.heap.size + 1 + 1 + 1]? = some (.cells D q) := by
    rw [← z3]
    exact (heap_alloc_at (((w.alloc (.cells A s)).alloc (.cells B t)).alloc (.cells C r)) (.cells D q))
  have z : ((((w.alloc (.cells A s)).alloc (.cells B t)).alloc (.cells C r)).alloc (.cells D q)).heap.size = w.heap.size + 1 + 1 + 1 + 1 := by simp only [size_alloc']
  exact ⟨up_here _, fun u j => cell_of_block (up_block u (by omega) b0) j, fun u j => frozen_of_block (up_block u (by omega) b0) j, fun u => by have := u.h.size; omega, fun u j => cell_of_block (up_block u (by omega) b1) j, fun u j => frozen_of_block (up_block u (by omega) b1) j, fun u => by have := u.h.size; omega, fun u j => cell_of_block (up_block u (by omega) b2) j, fun u j => frozen_of_block (up_block u (by omega) b2) j, fun u => by have := u.h.size; omega, fun u j => cell_of_block (up_block u (by omega) b3) j, fun u j => frozen_of_block (up_block u (by omega) b3) j, fun u => by have := u.h.size; omega, fun u => below_trans (Below.alloc (Below.alloc (Below.alloc (Below.alloc (Below.refl _ _) (by first | exact Nat.le_refl _ | (simp only [size_alloc']; omega)) _) (by first | exact Nat.le_refl _ | (simp only [size_alloc']; omega)) _) (by first | exact Nat.le_refl _ | (simp only [size_alloc']; omega)) _) (by first | exact Nat.le_refl _ | (simp only [size_alloc']; omega)) _) u.h⟩

structure F5 (w : World) (A B C D E : Array Value) (s t r q p : TypeId) : Prop where
  ne : Nonempty (Up (((((w.alloc (.cells A s)).alloc (.cells B t)).alloc (.cells C r)).alloc (.cells D q)).alloc (.cells E p)))
  c0 : ∀ (u : Up (((((w.alloc (.cells A s)).alloc (.cells B t)).alloc (.cells C r)).alloc (.cells D q)).alloc (.cells E p))) (j : Nat), u.x.cell? ⟨w.heap.size, j, none⟩ = A[j]?
  f0 : ∀ (u : Up (((((w.alloc (.cells A s)).alloc (.cells B t)).alloc (.cells C r)).alloc (.cells D q)).alloc (.cells E p))) (j : Nat), u.x.frozen? ⟨w.heap.size, j, none⟩ = false
  s0 : ∀ u : Up (((((w.alloc (.cells A s)).alloc (.cells B t)).alloc (.cells C r)).alloc (.cells D q)).alloc (.cells E p)), w.heap.size < u.x.heap.size
  c1 : ∀ (u : Up (((((w.alloc (.cells A s)).alloc (.cells B t)).alloc (.cells C r)).alloc (.cells D q)).alloc (.cells E p))) (j : Nat), u.x.cell? ⟨w.heap.size + 1, j, none⟩ = B[j]?
  f1 : ∀ (u : Up (((((w.alloc (.cells A s)).alloc (.cells B t)).alloc (.cells C r)).alloc (.cells D q)).alloc (.cells E p))) (j : Nat), u.x.frozen? ⟨w.heap.size + 1, j, none⟩ = false
  s1 : ∀ u : Up (((((w.alloc (.cells A s)).alloc (.cells B t)).alloc (.cells C r)).alloc (.cells D q)).alloc (.cells E p)), w.heap.size + 1 < u.x.heap.size
  c2 : ∀ (u : Up (((((w.alloc (.cells A s)).alloc (.cells B t)).alloc (.cells C r)).alloc (.cells D q)).alloc (.cells E p))) (j : Nat), u.x.cell? ⟨w.heap.size + 1 + 1, j, none⟩ = C[j]?
  f2 : ∀ (u : Up (((((w.alloc (.cells A s)).alloc (.cells B t)).alloc (.cells C r)).alloc (.cells D q)).alloc (.cells E p))) (j : Nat), u.x.frozen? ⟨w.heap.size + 1 + 1, j, none⟩ = false
  s2 : ∀ u : Up (((((w.alloc (.cells A s)).alloc (.cells B t)).alloc (.cells C r)).alloc (.cells D q)).alloc (.cells E p)), w.heap.size + 1 + 1 < u.x.heap.size
  c3 : ∀ (u : Up (((((w.alloc (.cells A s)).alloc (.cells B t)).alloc (.cells C r)).alloc (.cells D q)).alloc (.cells E p))) (j : Nat), u.x.cell? ⟨w.heap.size + 1 + 1 + 1, j, none⟩ = D[j]?
  f3 : ∀ (u : Up (((((w.alloc (.cells A s)).alloc (.cells B t)).alloc (.cells C r)).alloc (.cells D q)).alloc (.cells E p))) (j : Nat), u.x.frozen? ⟨w.heap.size + 1 + 1 + 1, j, none⟩ = false
  s3 : ∀ u : Up (((((w.alloc (.cells A s)).alloc (.cells B t)).alloc (.cells C r)).alloc (.cells D q)).alloc (.cells E p)), w.heap.size + 1 + 1 + 1 < u.x.heap.size
  c4 : ∀ (u : Up (((((w.alloc (.cells A s)).alloc (.cells B t)).alloc (.cells C r)).alloc (.cells D q)).alloc (.cells E p))) (j : Nat), u.x.cell? ⟨w.heap.size + 1 + 1 + 1 + 1, j, none⟩ = E[j]?
  f4 : ∀ (u : Up (((((w.alloc (.cells A s)).alloc (.cells B t)).alloc (.cells C r)).alloc (.cells D q)).alloc (.cells E p))) (j : Nat), u.x.frozen? ⟨w.heap.size + 1 + 1 + 1 + 1, j, none⟩ = false
  s4 : ∀ u : Up (((((w.alloc (.cells A s)).alloc (.cells B t)).alloc (.cells C r)).alloc (.cells D q)).alloc (.cells E p)), w.heap.size + 1 + 1 + 1 + 1 < u.x.heap.size
  below : ∀ u : Up (((((w.alloc (.cells A s)).alloc (.cells B t)).alloc (.cells C r)).alloc (.cells D q)).alloc (.cells E p)), Below w.heap.size w u.x

theorem Up.f5 {w : World} {A B C D E : Array Value} {s t r q p : TypeId} (_ : Up (((((w.alloc (.cells A s)).alloc (.cells B t)).alloc (.cells C r)).alloc (.cells D q)).alloc (.cells E p))) : F5 w A B C D E s t r q p := by
  have z0 : w.heap.size = w.heap.size := by rfl
  have b0 : (((((w.alloc (.cells A s)).alloc (.cells B t)).alloc (.cells C r)).alloc (.cells D q)).alloc (.cells E p)).heap[w.heap.size]? = some (.cells A s) := by
    rw [← z0]
    exact (heap_alloc_of (heap_alloc_of (heap_alloc_of (heap_alloc_of (heap_alloc_at w (.cells A s)) _) _) _) _)
  have z1 : (w.alloc (.cells A s)).heap.size = w.heap.size + 1 := by simp only [size_alloc']
  have b1 : (((((w.alloc (.cells A s)).alloc (.cells B t)).alloc (.cells C r)).alloc (.cells D q)).alloc (.cells E p)).heap[w.heap.size + 1]? = some (.cells B t) := by
    rw [← z1]
    exact (heap_alloc_of (heap_alloc_of (heap_alloc_of (heap_alloc_at (w.alloc (.cells A s)) (.cells B t)) _) _) _)
  have z2 : ((w.alloc (.cells A s)).alloc (.cells B t)).heap.size = w.heap.size + 1 + 1 := by simp only [size_alloc']
  have b2 : (((((w.alloc (.cells A s)).alloc (.cells B t)).alloc (.cells C r)).alloc (.cells D q)).alloc (.cells E p)).heap[w.heap.size + 1 + 1]? = some (.cells C r) := by
    rw [← z2]
    exact (heap_alloc_of (heap_alloc_of (heap_alloc_at ((w.alloc (.cells A s)).alloc (.cells B t)) (.cells C r)) _) _)
  have z3 : (((w.alloc (.cells A s)).alloc (.cells B t)).alloc (.cells C r)).heap.size = w.heap.size + 1 + 1 + 1 := by simp only [size_alloc']
  have b3 : (((((w.alloc (.cells A s)).alloc (.cells B t)).alloc (.cells C r)).alloc (.cells D q)).alloc (.cells E p)).heap[w.heap.size + 1 + 1 + 1]? = some (.cells D q) := by
    rw [← z3]
    exact (heap_alloc_of (heap_alloc_at (((w.alloc (.cells A s)).alloc (.cells B t)).alloc (.cells C r)) (.cells D q)) _)
  have z4 : ((((w.alloc (.cells A s)).alloc (.cells B t)).alloc (.cells C r)).alloc (.cells D q)).heap.size = w.heap.size + 1 + 1 + 1 + 1 := by simp only [size_alloc']
  have b4 : (((((w.alloc (.cells A s)).alloc (.cells B t)).alloc (.cells C r)).alloc (.cells D q)).alloc (.cells E p)).heap[w.heap.size + 1 + 1 + 1 + 1]? = some (.cells E p) := by
    rw [← z4]
    exact (heap_alloc_at ((((w.alloc (.cells A s)).alloc (.cells B t)).alloc (.cells C r)).alloc (.cells D q)) (.cells E p))
  have z : (((((w.alloc (.cells A s)).alloc (.cells B t)).alloc (.cells C r)).alloc (.cells D q)).alloc (.cells E p)).heap.size = w.heap.size + 1 + 1 + 1 + 1 + 1 := by simp only [size_alloc']
  exact ⟨up_here _, fun u j => cell_of_block (up_block u (by omega) b0) j, fun u j => frozen_of_block (up_block u (by omega) b0) j, fun u => by have := u.h.size; omega, fun u j => cell_of_block (up_block u (by omega) b1) j, fun u j => frozen_of_block (up_block u (by omega) b1) j, fun u => by have := u.h.size; omega, fun u j => cell_of_block (up_block u (by omega) b2) j, fun u j => frozen_of_block (up_block u (by omega) b2) j, fun u => by have := u.h.size; omega, fun u j => cell_of_block (up_block u (by omega) b3) j, fun u j => frozen_of_block (up_block u (by omega) b3) j, fun u => by have := u.h.size; omega, fun u j => cell_of_block (up_block u (by omega) b4) j, fun u j => frozen_of_block (up_block u (by omega) b4) j, fun u => by have := u.h.size; omega, fun u => below_trans (Below.alloc (Below.alloc (Below.alloc (Below.alloc (Below.alloc (Below.refl _ _) (by first | exact Nat.le_refl _ | (simp only [size_alloc']; omega)) _) (by first | exact Nat.le_refl _ | (simp only [size_alloc']; omega)) _) (by first | exact Nat.le_refl _ | (simp only [size_alloc']; omega)) _) (by first | exact Nat.le_refl _ | (simp only [size_alloc']; omega)) _) (by first | exact Nat.le_refl _ | (simp only [size_alloc']; omega)) _) u.h⟩

structure F6 (w : World) (A B C D E F : Array Value) (s t r q p o : TypeId) : Prop where
  ne : Nonempty (Up ((((((w.alloc (.cells A s)).alloc (.cells B t)).alloc (.cells C r)).alloc (.cells D q)).alloc (.cells E p)).alloc (.cells F o)))
  c0 : ∀ (u : Up ((((((w.alloc (.cells A s)).alloc (.cells B t)).alloc (.cells C r)).alloc (.cells D q)).alloc (.cells E p)).alloc (.cells F o))) (j : Nat), u.x.cell? ⟨w.heap.size, j, none⟩ = A[j]?
  f0 : ∀ (u : Up ((((((w.alloc (.cells A s)).alloc (.cells B t)).alloc (.cells C r)).alloc (.cells D q)).alloc (.cells E p)).alloc (.cells F o))) (j : Nat), u.x.frozen? ⟨w.heap.size, j, none⟩ = false
  s0 : ∀ u : Up ((((((w.alloc (.cells A s)).alloc (.cells B t)).alloc (.cells C r)).alloc (.cells D q)).alloc (.cells E p)).alloc (.cells F o)), w.heap.size < u.x.heap.size
  c1 : ∀ (u : Up ((((((w.alloc (.cells A s)).alloc (.cells B t)).alloc (.cells C r)).alloc (.cells D q)).alloc (.cells E p)).alloc (.cells F o))) (j : Nat), u.x.cell? ⟨w.heap.size + 1, j, none⟩ = B[j]?
  f1 : ∀ (u : Up ((((((w.alloc (.cells A s)).alloc (.cells B t)).alloc (.cells C r)).alloc (.cells D q)).alloc (.cells E p)).alloc (.cells F o))) (j : Nat), u.x.frozen? ⟨w.heap.size + 1, j, none⟩ = false
  s1 : ∀ u : Up ((((((w.alloc (.cells A s)).alloc (.cells B t)).alloc (.cells C r)).alloc (.cells D q)).alloc (.cells E p)).alloc (.cells F o)), w.heap.size + 1 < u.x.heap.size
  c2 : ∀ (u : Up ((((((w.alloc (.cells A s)).alloc (.cells B t)).alloc (.cells C r)).alloc (.cells D q)).alloc (.cells E p)).alloc (.cells F o))) (j : Nat), u.x.cell? ⟨w.heap.size + 1 + 1, j, none⟩ = C[j]?
  f2 : ∀ (u : Up ((((((w.alloc (.cells A s)).alloc (.cells B t)).alloc (.cells C r)).alloc (.cells D q)).alloc (.cells E p)).alloc (.cells F o))) (j : Nat), u.x.frozen? ⟨w.heap.size + 1 + 1, j, none⟩ = false
  s2 : ∀ u : Up ((((((w.alloc (.cells A s)).alloc (.cells B t)).alloc (.cells C r)).alloc (.cells D q)).alloc (.cells E p)).alloc (.cells F o)), w.heap.size + 1 + 1 < u.x.heap.size
  c3 : ∀ (u : Up ((((((w.alloc (.cells A s)).alloc (.cells B t)).alloc (.cells C r)).alloc (.cells D q)).alloc (.cells E p)).alloc (.cells F o))) (j : Nat), u.x.cell? ⟨w.heap.size + 1 + 1 + 1, j, none⟩ = D[j]?
  f3 : ∀ (u : Up ((((((w.alloc (.cells A s)).alloc (.cells B t)).alloc (.cells C r)).alloc (.cells D q)).alloc (.cells E p)).alloc (.cells F o))) (j : Nat), u.x.frozen? ⟨w.heap.size + 1 + 1 + 1, j, none⟩ = false
  s3 : ∀ u : Up ((((((w.alloc (.cells A s)).alloc (.cells B t)).alloc (.cells C r)).alloc (.cells D q)).alloc (.cells E p)).alloc (.cells F o)), w.heap.size + 1 + 1 + 1 < u.x.heap.size
  c4 : ∀ (u : Up ((((((w.alloc (.cells A s)).alloc (.cells B t)).alloc (.cells C r)).alloc (.cells D q)).alloc (.cells E p)).alloc (.cells F o))) (j : Nat), u.x.cell? ⟨w.heap.size + 1 + 1 + 1 + 1, j, none⟩ = E[j]?
  f4 : ∀ (u : Up ((((((w.alloc (.cells A s)).alloc (.cells B t)).alloc (.cells C r)).alloc (.cells D q)).alloc (.cells E p)).alloc (.cells F o))) (j : Nat), u.x.frozen? ⟨w.heap.size + 1 + 1 + 1 + 1, j, none⟩ = false
  s4 : ∀ u : Up ((((((w.alloc (.cells A s)).alloc (.cells B t)).alloc (.cells C r)).alloc (.cells D q)).alloc (.cells E p)).alloc (.cells F o)), w.heap.size + 1 + 1 + 1 + 1 < u.x.heap.size
  c5 : ∀ (u : Up ((((((w.alloc (.cells A s)).alloc (.cells B t)).alloc (.cells C r)).alloc (.cells D q)).alloc (.cells E p)).alloc (.cells F o))) (j : Nat), u.x.cell? ⟨w.heap.size + 1 + 1 + 1 + 1 + 1, j, none⟩ = F[j]?
  f5 : ∀ (u : Up ((((((w.alloc (.cells A s)).alloc (.cells B t)).alloc (.cells C r)).alloc (.cells D q)).alloc (.cells E p)).alloc (.cells F o))) (j : Nat), u.x.frozen? ⟨w.heap.size + 1 + 1 + 1 + 1 + 1, j, none⟩ = false
  s5 : ∀ u : Up ((((((w.alloc (.cells A s)).alloc (.cells B t)).alloc (.cells C r)).alloc (.cells D q)).alloc (.cells E p)).alloc (.cells F o)), w.heap.size + 1 + 1 + 1 + 1 + 1 < u.x.heap.size
  below : ∀ u : Up ((((((w.alloc (.cells A s)).alloc (.cells B t)).alloc (.cells C r)).alloc (.cells D q)).alloc (.cells E p)).alloc (.cells F o)), Below w.heap.size w u.x

theorem Up.f6 {w : World} {A B C D E F : Array Value} {s t r q p o : TypeId} (_ : Up ((((((w.alloc (.cells A s)).alloc (.cells B t)).alloc (.cells C r)).alloc (.cells D q)).alloc (.cells E p)).alloc (.cells F o))) : F6 w A B C D E F s t r q p o := by
  have z0 : w.heap.size = w.heap.size := by rfl
  have b0 : ((((((w.alloc (.cells A s)).alloc (.cells B t)).alloc (.cells C r)).alloc (.cells D q)).alloc (.cells E p)).alloc (.cells F o)).heap[w.heap.size]? = some (.cells A s) := by
    rw [← z0]
    exact (heap_alloc_of (heap_alloc_of (heap_alloc_of (heap_alloc_of (heap_alloc_of (heap_alloc_at w (.cells A s)) _) _) _) _) _)
  have z1 : (w.alloc (.cells A s)).heap.size = w.heap.size + 1 := by simp only [size_alloc']
  have b1 : ((((((w.alloc (.cells A s)).alloc (.cells B t)).alloc (.cells C r)).alloc (.cells D q)).alloc (.cells E p)).alloc (.cells F o)).heap[w.heap.size + 1]? = some (.cells B t) := by
    rw [← z1]
    exact (heap_alloc_of (heap_alloc_of (heap_alloc_of (heap_alloc_of (heap_alloc_at (w.alloc (.cells A s)) (.cells B t)) _) _) _) _)
  have z2 : ((w.alloc (.cells A s)).alloc (.cells B t)).heap.size = w.heap.size + 1 + 1 := by simp only [size_alloc']
  have b2 : ((((((w.alloc (.cells A s)).alloc (.cells B t)).alloc (.cells C r)).alloc (.cells D q)).alloc (.cells E p)).alloc (.cells F o)).heap[w.heap.size + 1 + 1]? = some (.cells C r) := by
    rw [← z2]
    exact (heap_alloc_of (heap_alloc_of (heap_alloc_of (heap_alloc_at ((w.alloc (.cells A s)).alloc (.cells B t)) (.cells C r)) _) _) _)
  have z3 : (((w.alloc (.cells A s)).alloc (.cells B t)).alloc (.cells C r)).heap.size = w.heap.size + 1 + 1 + 1 := by simp only [size_alloc']
  have b3 : ((((((w.alloc (.cells A s)).alloc (.cells B t)).alloc (.cells C r)).alloc (.cells D q)).alloc (.cells E p)).alloc (.cells F o)).heap[w.heap.size + 1 + 1 + 1]? = some (.cells D q) := by
    rw [← z3]
    exact (heap_alloc_of (heap_alloc_of (heap_alloc_at (((w.alloc (.cells A s)).alloc (.cells B t)).alloc (.cells C r)) (.cells D q)) _) _)
  have z4 : ((((w.alloc (.cells A s)).alloc (.cells B t)).alloc (.cells C r)).alloc (.cells D q)).heap.size = w.heap.size + 1 + 1 + 1 + 1 := by simp only [size_alloc']
  have b4 : ((((((w.alloc (.cells A s)).alloc (.cells B t)).alloc (.cells C r)).alloc (.cells D q)).alloc (.cells E p)).alloc (.cells F o)).heap[w.heap.size + 1 + 1 + 1 + 1]? = some (.cells E p) := by
    rw [← z4]
    exact (heap_alloc_of (heap_alloc_at ((((w.alloc (.cells A s)).alloc (.cells B t)).alloc (.cells C r)).alloc (.cells D q)) (.cells E p)) _)
  have z5 : (((((w.alloc (.cells A s)).alloc (.cells B t)).alloc (.cells C r)).alloc (.cells D q)).alloc (.cells E p)).heap.size = w.heap.size + 1 + 1 + 1 + 1 + 1 := by simp only [size_alloc']
  have b5 : ((((((w.alloc (.cells A s)).alloc (.cells B t)).alloc (.cells C r)).alloc (.cells D q)).alloc (.cells E p)).alloc (.cells F o)).heap[w.heap.size + 1 + 1 + 1 + 1 + 1]? = some (.cells F o) := by
    rw [← z5]
    exact (heap_alloc_at (((((w.alloc (.cells A s)).alloc (.cells B t)).alloc (.cells C r)).alloc (.cells D q)).alloc (.cells E p)) (.cells F o))
  have z : ((((((w.alloc (.cells A s)).alloc (.cells B t)).alloc (.cells C r)).alloc (.cells D q)).alloc (.cells E p)).alloc (.cells F o)).heap.size = w.heap.size + 1 + 1 + 1 + 1 + 1 + 1 := by simp only [size_alloc']
  exact ⟨up_here _, fun u j => cell_of_block (up_block u (by omega) b0) j, fun u j => frozen_of_block (up_block u (by omega) b0) j, fun u => by have := u.h.size; omega, fun u j => cell_of_block (up_block u (by omega) b1) j, fun u j => frozen_of_block (up_block u (by omega) b1) j, fun u => by have := u.h.size; omega, fun u j => cell_of_block (up_block u (by omega) b2) j, fun u j => frozen_of_block (up_block u (by omega) b2) j, fun u => by have := u.h.size; omega, fun u j => cell_of_block (up_block u (by omega) b3) j, fun u j => frozen_of_block (up_block u (by omega) b3) j, fun u => by have := u.h.size; omega, fun u j => cell_of_block (up_block u (by omega) b4) j, fun u j => frozen_of_block (up_block u (by omega) b4) j, fun u => by have := u.h.size; omega, fun u j => cell_of_block (up_block u (by omega) b5) j, fun u j => frozen_of_block (up_block u (by omega) b5) j, fun u => by have := u.h.size; omega, fun u => below_trans (Below.alloc (Below.alloc (Below.alloc (Below.alloc (Below.alloc (Below.alloc (Below.refl _ _) (by first | exact Nat.le_refl _ | (simp only [size_alloc']; omega)) _) (by first | exact Nat.le_refl _ | (simp only [size_alloc']; omega)) _) (by first | exact Nat.le_refl _ | (simp only [size_alloc']; omega)) _) (by first | exact Nat.le_refl _ | (simp only [size_alloc']; omega)) _) (by first | exact Nat.le_refl _ | (simp only [size_alloc']; omega)) _) (by first | exact Nat.le_refl _ | (simp only [size_alloc']; omega)) _) u.h⟩

end Go.Proofs.Ytjbbgpacijageaa
