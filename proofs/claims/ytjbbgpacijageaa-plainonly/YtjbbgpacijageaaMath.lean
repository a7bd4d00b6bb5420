/- Plain facts on words, registers and instructions of package code: no program is named here. -/
import Derived.Laws.BitsLemmas
import Derived.Laws.Wrap64
import Derived.WalkKit
import Derived.Deep.QuietTactic
import Derived.BigQuiet
namespace Go.Proofs.Ytjbbgpacijageaa
open Go.RowKit

/-- What is left of a number by 2 to the 32nd. -/
def wd (n : Int) : Int := n % 4294967296

theorem wd_lo (n : Int) : 0 ≤ wd n := by unfold wd; omega
theorem wd_hi (n : Int) : wd n < 4294967296 := by unfold wd; omega
theorem wd_wd (n : Int) : wd (wd n) = wd n := by unfold wd; omega
theorem wd_of (n : Int) (h0 : 0 ≤ n) (h1 : n < 4294967296) : wd n = n := by unfold wd; omega

theorem and_wd (n : Int) : bits .and .i64 n 4294967295 = wd n := by
  have h32 : (BitVec.ofInt 64 4294967295).toNat = 2 ^ 32 - 1 := by decide
  have key : (BitVec.ofInt 64 n &&& BitVec.ofInt 64 4294967295).toNat = (n % ((2 ^ 64 : Nat) : Int)).toNat % 2 ^ 32 := by
    rw [BitVec.toNat_and, BitVec.toNat_ofInt, h32, Nat.and_two_pow_sub_one_eq_mod]
  show IntKind.i64.wrap ((BitVec.ofInt 64 n &&& BitVec.ofInt 64 4294967295).toNat : Nat) = wd n
  rw [key, IntKind.wrap_i64]
  unfold wd
  omega

theorem wd_wrap (n : Int) : wd (wrap64 n) = wd n := by unfold wd wrap64; omega

theorem rest_wd (n : Int) : (wrap64 (n.tmod 4294967296 + 4294967296)).tmod 4294967296 = wd n := by
  unfold wd wrap64
  rw [Int.tmod_eq_emod, Int.tmod_eq_emod]
  split <;> split <;> omega

/-- Is it a register? -/
def isR (r : Int) : Bool := decide (0 ≤ r ∧ r < 8)
/-- Is it a word? -/
def isW (n : Int) : Bool := decide (0 ≤ n ∧ n < 4294967296)

theorem isR_iff (r : Int) : isR r = true ↔ 0 ≤ r ∧ r < 8 := by unfold isR; simp
theorem isR_not (r : Int) : isR r = false ↔ ¬ (0 ≤ r ∧ r < 8) := by unfold isR; simp
theorem isW_iff (n : Int) : isW n = true ↔ 0 ≤ n ∧ n < 4294967296 := by unfold isW; simp
theorem isW_wd (n : Int) : isW (wd n) = true := (isW_iff _).2 ⟨wd_lo n, wd_hi n⟩
theorem wd_isW {n : Int} (h : isW n = true) : wd n = n := by rw [isW_iff] at h; exact wd_of n h.1 h.2
theorem isW_eq (n : Int) : (n == wd n) = isW n := by
  rw [Bool.eq_iff_iff, isW_iff, beq_iff_eq]; unfold wd; omega

/-- A core's own state: its registers, where it is, whether it is off. -/
structure Pl where
  r : Nat → Int
  a : Int
  o : Bool

/-- An instruction. -/
structure In where
  op : Int
  a : Int
  b : Int
  c : Int
  n : Int

/-- Such a state as a value of the program. -/
@[reducible] def pv (p : Pl) : Value := .agg #[.int .i64 (p.r 0), .int .i64 (p.r 1), .int .i64 (p.r 2), .int .i64 (p.r 3), .int .i64 (p.r 4), .int .i64 (p.r 5), .int .i64 (p.r 6), .int .i64 (p.r 7), .int .i64 p.a, .bool p.o]
@[reducible] def iv (i : In) : Value := .agg #[.int .i64 i.op, .int .i64 i.a, .int .i64 i.b, .int .i64 i.c, .int .i64 i.n]

def get (p : Pl) (r : Int) : Int := if isR r = true then p.r r.toNat else 0
def put (p : Pl) (r n : Int) : Pl := if r ≠ 0 ∧ isR r = true then { p with r := fun k => if k = r.toNat then wd n else p.r k } else p
def next (p : Pl) : Pl := { p with a := wd (p.a + 1) }
/-- Are two the same in all that a value of the program has? -/
def sameP (p q : Pl) : Bool := p.r 0 == q.r 0 && p.r 1 == q.r 1 && p.r 2 == q.r 2 && p.r 3 == q.r 3 && p.r 4 == q.r 4 && p.r 5 == q.r 5 && p.r 6 == q.r 6 && p.r 7 == q.r 7 && p.a == q.a && p.o == q.o
def goodP (p : Pl) : Bool := p.r 0 == 0 && isW (p.r 1) && isW (p.r 2) && isW (p.r 3) && isW (p.r 4) && isW (p.r 5) && isW (p.r 6) && isW (p.r 7) && isW p.a
def goodI (i : In) : Bool := decide (1 ≤ i.op ∧ i.op ≤ 12) && isR i.a && isR i.b && isR i.c && isW i.n
def made (p : Pl) : Pl := { r := fun k => if k = 0 then 0 else wd (p.r k), a := wd p.a, o := p.o }

theorem sameP_made (p : Pl) : sameP p (made p) = goodP p := by
  unfold sameP made goodP
  simp [isW_eq]

theorem reg_cases (r : Int) (h : isR r = true) : r = 0 ∨ r = 1 ∨ r = 2 ∨ r = 3 ∨ r = 4 ∨ r = 5 ∨ r = 6 ∨ r = 7 := by
  rw [isR_iff] at h; omega

/-- What a call leaves of another world: all that was there. -/
theorem below_trans {w w1 w2 : World} (h : Below w.heap.size w w1) (k : Below w1.heap.size w1 w2) : Below w.heap.size w w2 :=
  h.trans (k.mono h.size)

/-- A world in which all that w has is as it was. -/
structure Up (w : World) where
  x : World
  h : Below w.heap.size w x

theorem Up.cell {w : World} (u : Up w) (b o : Nat) (h : b < w.heap.size) : u.x.cell? ⟨b, o, none⟩ = w.cell? ⟨b, o, none⟩ := u.h.cell (p := ⟨b, o, none⟩) h
theorem Up.frozen {w : World} (u : Up w) (b o : Nat) (h : b < w.heap.size) : u.x.frozen? ⟨b, o, none⟩ = w.frozen? ⟨b, o, none⟩ := u.h.frozen (p := ⟨b, o, none⟩) h

/-- A region that draws its order, of operations that only read what was there and of calls that leave it: one walk. -/
theorem wp_region_up {P : Program} {id : Nat} {Q : Exit → Act → World → Prop} {a : Act} {w : World} {l : List Oper} (hm : P.follows .mixedOrders = true) (hB : Region.lexB .any l.toArray = true)
    (h : wpQuiet P l.toArray (fun w' => ∃ u : Up w, w' = u.x) (fun a' => ∀ w', (∃ u : Up w, w' = u.x) → Q .normal a' w') l a) : (Code.region id l.toArray true).wp P Q a w :=
  wp_region_quiet (C := fun w' => ∃ u : Up w, w' = u.x) hm hB ⟨⟨w.drew, (Below.refl _ _).drew⟩, rfl⟩ (by simpa using h)

/-- A contract, met in such a world. -/
theorem up_call {P : Program} {f : FuncId} {args : Array Value} {w : World} {u : Up w} {v : Value}
    (h : Calls P f args u.x fun e w' => e = .returned v ∧ Below u.x.heap.size u.x w') : Calls P f args u.x fun e w'' => e = .returned v ∧ ∃ y : Up w, w'' = y.x :=
  h.mono fun _ w' ⟨he, hb⟩ => ⟨he, ⟨w', below_trans u.h hb⟩, rfl⟩

theorem up_same {P : Program} {f : FuncId} {args : Array Value} {w : World} {u : Up w} {v : Value}
    (h : Calls P f args u.x fun e w' => e = .returned v ∧ w' = u.x) : Calls P f args u.x fun e w'' => e = .returned v ∧ ∃ y : Up w, w'' = y.x :=
  h.mono fun _ _ ⟨he, hb⟩ => ⟨he, u, hb⟩

theorem up_here (w : World) : Nonempty (Up w) := ⟨⟨w, Below.refl _ _⟩⟩

/-- What the walk is told of such worlds. -/
structure UpFacts (w : World) : Prop where
  ne : Nonempty (Up w)
  cell : ∀ (u : Up w) (b o : Nat), b < w.heap.size → u.x.cell? ⟨b, o, none⟩ = w.cell? ⟨b, o, none⟩
  frozen : ∀ (u : Up w) (b o : Nat), b < w.heap.size → u.x.frozen? ⟨b, o, none⟩ = w.frozen? ⟨b, o, none⟩
  size : ∀ u : Up w, w.heap.size ≤ u.x.heap.size

theorem upFacts (w : World) : UpFacts w := ⟨up_here w, fun u => u.cell, fun u => u.frozen, fun u => u.h.size⟩

theorem region_up {P : Program} {id : Nat} {Q : Exit → Act → World → Prop} {a : Act} {w : World} {l : List Oper} (hm : P.follows .mixedOrders = true) (hB : Region.lexB .any l.toArray = true)
    (h : UpFacts w → wpQuiet P l.toArray (fun w' => ∃ u : Up w, w' = u.x) (fun a' => ∀ w', (∃ u : Up w, w' = u.x) → Q .normal a' w') l a) : (Code.region id l.toArray true).wp P Q a w :=
  wp_region_up hm hB (h (upFacts w))

/-- From a world on: whatever world has all that it has. -/
theorem code_up {P : Program} {c : Code} {Q : Exit → Act → World → Prop} {a : Act} {w : World} (h : UpFacts w → ∀ u : Up w, c.wp P Q a u.x) : c.wp P Q a w := h (upFacts w) ⟨w, Below.refl _ _⟩

def word (p : Pl) (i : In) : Int := wd (wd (get p i.b) + wd i.n)
def jump (p : Pl) (i : In) : Pl := if get p i.a ≠ 0 then next p else { p with a := i.n }

theorem put_wrap (p : Pl) (r n : Int) : put p r (wrap64 n) = put p r n := by unfold put; rw [wd_wrap]

/-- What an instruction alone does to a core; behind it the error's number. -/
def alone (p : Pl) (i : In) : Pl × Int :=
  if goodI i = false ∨ goodP p = false then (p, 1) else
  if p.o = true then (p, 4) else
  if i.op = 1 then (next (put p i.a i.n), 0) else
  if i.op = 2 then (next (put p i.a (get p i.b + get p i.c)), 0) else
  if i.op = 3 then (next (put p i.a (get p i.b - get p i.c)), 0) else
  if i.op = 4 then (next (put p i.a (if get p i.b < get p i.c then 1 else 0)), 0) else
  if i.op = 8 then (jump p i, 0) else
  if i.op = 12 then ({ p with o := true }, 0) else (p, 3)

theorem up_below {w w1 : World} (h : Below w.heap.size w w1) (u : Up w1) : Below w.heap.size w u.x := below_trans h u.h

theorem ret_int {k : IntKind} {a b : Int} (h : a = b) : Ending.returned (.int k a) = .returned (.int k b) := by rw [h]
theorem ret_bool {a b : Bool} (h : a = b) : Ending.returned (.bool a) = .returned (.bool b) := by rw [h]
theorem ret_int_bool {k : IntKind} {a b : Int} {c d : Bool} (h : a = b) (h' : c = d) : Ending.returned (.tuple #[.int k a, .bool c]) = .returned (.tuple #[.int k b, .bool d]) := by rw [h, h']

end Go.Proofs.Ytjbbgpacijageaa
