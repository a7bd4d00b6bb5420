/- The statement CodeTells, walked. -/
import Derived.Test.YtjbbgpacijageaaL3
import Derived.Test.YtjbbgpacijageaaP3
import Derived.Deep.RegionHeld3
namespace Go.Proofs.Ytjbbgpacijageaa
open Go.RowKit
set_option linter.unusedSimpArgs false
set_option linter.unusedVariables false
attribute [local go_sem ↓] eql_plain eql_instr

/-- All that w had is there, and two blocks more. -/
def TB (w x : World) : Prop := Below w.heap.size w x ∧ w.heap.size + 1 < x.heap.size

theorem ts_keep {w X x' : World} {p : Pl} {i : In} (h : (∀ j, X.cell? ⟨w.heap.size, j, none⟩ = (#[.int .i64 (p.r 0), .int .i64 (p.r 1), .int .i64 (p.r 2), .int .i64 (p.r 3), .int .i64 (p.r 4), .int .i64 (p.r 5), .int .i64 (p.r 6), .int .i64 (p.r 7), .int .i64 p.a, .bool p.o] : Array Value)[j]?) ∧ (∀ j, X.cell? ⟨w.heap.size + 1, j, none⟩ = (#[.int .i64 i.op, .int .i64 i.a, .int .i64 i.b, .int .i64 i.c, .int .i64 i.n] : Array Value)[j]?) ∧ TB w X) (hb : Below X.heap.size X x') : (∀ j, x'.cell? ⟨w.heap.size, j, none⟩ = (#[.int .i64 (p.r 0), .int .i64 (p.r 1), .int .i64 (p.r 2), .int .i64 (p.r 3), .int .i64 (p.r 4), .int .i64 (p.r 5), .int .i64 (p.r 6), .int .i64 (p.r 7), .int .i64 p.a, .bool p.o] : Array Value)[j]?) ∧ (∀ j, x'.cell? ⟨w.heap.size + 1, j, none⟩ = (#[.int .i64 i.op, .int .i64 i.a, .int .i64 i.b, .int .i64 i.c, .int .i64 i.n] : Array Value)[j]?) ∧ TB w x' := by
  obtain ⟨h0, h1, h2, h3⟩ := h
  refine ⟨fun j => ?_, fun j => ?_, h2.trans (hb.mono h2.size), Nat.lt_of_lt_of_le h3 hb.size⟩
  · rw [hb.cell (p := ⟨w.heap.size, j, none⟩) (by simp; omega)]; exact h0 j
  · rw [hb.cell (p := ⟨w.heap.size + 1, j, none⟩) (by simp; omega)]; exact h1 j
theorem ts_below {w X : World} {p : Pl} {i : In} (h : (∀ j, X.cell? ⟨w.heap.size, j, none⟩ = (#[.int .i64 (p.r 0), .int .i64 (p.r 1), .int .i64 (p.r 2), .int .i64 (p.r 3), .int .i64 (p.r 4), .int .i64 (p.r 5), .int .i64 (p.r 6), .int .i64 (p.r 7), .int .i64 p.a, .bool p.o] : Array Value)[j]?) ∧ (∀ j, X.cell? ⟨w.heap.size + 1, j, none⟩ = (#[.int .i64 i.op, .int .i64 i.a, .int .i64 i.b, .int .i64 i.c, .int .i64 i.n] : Array Value)[j]?) ∧ TB w X) : Below w.heap.size w X := h.2.2.1

set_option maxRecDepth 100000 in
set_option maxHeartbeats 8000000 in
theorem w_CodeTells (v : Value) (l : List In) (p : Pl) (i : In) (r n : Int) (w : World) (hl : Lst w v l) (hby : l.length * 40 ≤ 140737488355328) :
    Calls Try.prog 3 #[v, pv p, iv i, .int .i64 r, .int .i64 n] w fun x w' => x = .returned (.bool true) ∧ Below w.heap.size w w' := by
  have HL : Hid (Lst w v l) := hl
  have HB : Hid (l.length * 40 ≤ 140737488355328) := hby
  clear hl hby
  go_enter Try.func3, Try.ntmps3
  go_wp2_with fail
  refine (c_Word p i _).mono ?_
  rintro x w1 ⟨rfl, hb⟩
  obtain ⟨u, rfl⟩ := to_up hb
  obtain ⟨hne, hc0, hf0, hs0, hc1, hf1, hs1, hbl⟩ := u.f2
  clear hb
  go_wp2_with (go_at_call 16; refine (up_call (c_WordOf p i _)).mono ?_; rintro x w1 ⟨rfl, u2, rfl⟩)
  have hS0 : (∀ j, u2.x.cell? ⟨w.heap.size, j, none⟩ = (#[.int .i64 (p.r 0), .int .i64 (p.r 1), .int .i64 (p.r 2), .int .i64 (p.r 3), .int .i64 (p.r 4), .int .i64 (p.r 5), .int .i64 (p.r 6), .int .i64 (p.r 7), .int .i64 p.a, .bool p.o] : Array Value)[j]?) ∧ (∀ j, u2.x.cell? ⟨w.heap.size + 1, j, none⟩ = (#[.int .i64 i.op, .int .i64 i.a, .int .i64 i.b, .int .i64 i.c, .int .i64 i.n] : Array Value)[j]?) ∧ TB w u2.x := ⟨hc0 u2, hc1 u2, hbl u2, hs1 u2⟩
  generalize u2.x = X at hS0 ⊢
  clear hc0 hf0 hs0 hc1 hf1 hs1 hbl hne u u2
  go_region_held3 (fun x => (∀ j, x.cell? ⟨w.heap.size, j, none⟩ = (#[.int .i64 (p.r 0), .int .i64 (p.r 1), .int .i64 (p.r 2), .int .i64 (p.r 3), .int .i64 (p.r 4), .int .i64 (p.r 5), .int .i64 (p.r 6), .int .i64 (p.r 7), .int .i64 p.a, .bool p.o] : Array Value)[j]?) ∧ (∀ j, x.cell? ⟨w.heap.size + 1, j, none⟩ = (#[.int .i64 i.op, .int .i64 i.a, .int .i64 i.b, .int .i64 i.c, .int .i64 i.n] : Array Value)[j]?) ∧ TB w x) (first | exact ts_keep (by assumption) (by assumption) | exact ts_keep hS0 ((Below.refl _ _).drew))
    (first
      | (go_at_call 17; refine (c_Good i _).mono ?_; rintro x w1 ⟨rfl, hb⟩)
      | (go_at_call 18; refine (c_IsInstr i _).mono ?_; rintro x w1 ⟨rfl, hb⟩)
      | (go_at_call 19; refine (c_GoodPlain p _).mono ?_; rintro x w1 ⟨rfl, hb⟩)
      | (go_at_call 20; refine (c_IsPlain p _).mono ?_; rintro x w1 ⟨rfl, hb⟩)
      | (go_at_call 21; refine (c_Fetch _ l p _ (by assumption)).mono ?_; rintro x w1 ⟨rfl, hb⟩)
      | (go_at_call 22; refine (c_NextInstr v l p _ (HL.out.below (ts_below (by assumption)))).mono ?_; rintro x w1 ⟨rfl, hb⟩)
      | (go_at_call 23; refine (c_Get p r _).mono ?_; rintro x w1 ⟨rfl, hb⟩)
      | (go_at_call 24; refine (c_GetReg p r _).mono ?_; rintro x w1 ⟨rfl, hb⟩)
      | (go_at_call 25; refine (c_Put p r n _).mono ?_; rintro x w1 ⟨rfl, hb⟩)
      | (go_at_call 26; refine (c_PutReg p r n _).mono ?_; rintro x w1 ⟨rfl, hb⟩)
      | (go_at_call 27; refine (c_does_law _).mono ?_; rintro x w1 ⟨rfl, hb⟩)
      | (rw [if_pos (by rfl)]; refine wp_append_copy _ _ (by rfl) (by rfl) v (by rfl) l (HL.out.below (ts_below (by assumption))) HB.out (fun v' w' hl' hb => ?_)))
  go_wp2
  go_ret
  exact ⟨rfl, ts_below (by assumption)⟩

end Go.Proofs.Ytjbbgpacijageaa
