/- An argument that is a core's state, or an instruction, as a value. -/
import Derived.Test.YtjbbgpacijageaaRows
import Derived.Test.YtjbbgpacijageaaMath
import Derived.Test.YtjbbgpacijageaaOpen
namespace Go.Proofs.Ytjbbgpacijageaa
open Go.ChangeShapes Go.WideShapes Go.ChangeAt Go.RowKit
set_option maxRecDepth 8000
set_option linter.unusedVariables false

theorem list_of_get {α : Type} {l l' : List α} (hl : l.length = l'.length) (h : ∀ k, k < l'.length → l[k]? = l'[k]?) : l = l' := by
  apply List.ext_getElem?
  intro k
  rcases Nat.lt_or_ge k l'.length with h' | h'
  · exact h k h'
  · rw [List.getElem?_eq_none h', List.getElem?_eq_none (by omega)]

theorem open_plain {H : Type} {enc : TypeId × Value → H} {w : World} {base : Nat} {spare : Nat → Bool} {held : Bool} {r : Reach} {b0 : Nat} {v : Value} {d : DataW H} {ps : List MemPlace}
    (hv : Value.okWide Try.prog w r b0 25 v) (h : DataW.Trod enc Try.prog w base spare held 25 v d ps) : ∃ q : Pl, v = pv q := by
  obtain ⟨cs, rfl, hsz⟩ := okWide_struct Try.underlying25 hv
  rw [show Try.prog.cellsOf 25 = 10 from by kernel_rfl] at hsz
  obtain ⟨fuel, hf⟩ := h
  obtain ⟨x0, e0, y0⟩ := leaf_int (d := 4) (k := 0) (e := 3) (by kernel_rfl) Try.underlying3 hf
  obtain ⟨x1, e1, y1⟩ := leaf_int (d := 4) (k := 1) (e := 3) (by kernel_rfl) Try.underlying3 hf
  obtain ⟨x2, e2, y2⟩ := leaf_int (d := 4) (k := 2) (e := 3) (by kernel_rfl) Try.underlying3 hf
  obtain ⟨x3, e3, y3⟩ := leaf_int (d := 4) (k := 3) (e := 3) (by kernel_rfl) Try.underlying3 hf
  obtain ⟨x4, e4, y4⟩ := leaf_int (d := 4) (k := 4) (e := 3) (by kernel_rfl) Try.underlying3 hf
  obtain ⟨x5, e5, y5⟩ := leaf_int (d := 4) (k := 5) (e := 3) (by kernel_rfl) Try.underlying3 hf
  obtain ⟨x6, e6, y6⟩ := leaf_int (d := 4) (k := 6) (e := 3) (by kernel_rfl) Try.underlying3 hf
  obtain ⟨x7, e7, y7⟩ := leaf_int (d := 4) (k := 7) (e := 3) (by kernel_rfl) Try.underlying3 hf
  obtain ⟨x8, e8, y8⟩ := leaf_int (d := 4) (k := 8) (e := 3) (by kernel_rfl) Try.underlying3 hf
  obtain ⟨x9, e9⟩ := leaf_bool (d := 4) (k := 9) (e := 4) (by kernel_rfl) Try.underlying4 hf
  have hcs : cs = #[.int .i64 x0, .int .i64 x1, .int .i64 x2, .int .i64 x3, .int .i64 x4, .int .i64 x5, .int .i64 x6, .int .i64 x7, .int .i64 x8, .bool x9] := by
    apply Array.ext'
    refine list_of_get (by simpa using hsz) ?_
    intro k hk
    have hk' : k < 10 := by simpa using hk
    have : k = 0 ∨ k = 1 ∨ k = 2 ∨ k = 3 ∨ k = 4 ∨ k = 5 ∨ k = 6 ∨ k = 7 ∨ k = 8 ∨ k = 9 := by omega
    rcases this with rfl | rfl | rfl | rfl | rfl | rfl | rfl | rfl | rfl | rfl
    all_goals simp_all [Value.cells]
  subst hcs
  exact ⟨⟨fun k => if k = 0 then x0 else if k = 1 then x1 else if k = 2 then x2 else if k = 3 then x3 else if k = 4 then x4 else if k = 5 then x5 else if k = 6 then x6 else x7, x8, x9⟩, rfl⟩

theorem open_instr {H : Type} {enc : TypeId × Value → H} {w : World} {base : Nat} {spare : Nat → Bool} {held : Bool} {r : Reach} {b0 : Nat} {v : Value} {d : DataW H} {ps : List MemPlace}
    (hv : Value.okWide Try.prog w r b0 27 v) (h : DataW.Trod enc Try.prog w base spare held 27 v d ps) : ∃ i : In, v = iv i := by
  obtain ⟨cs, rfl, hsz⟩ := okWide_struct Try.underlying27 hv
  rw [show Try.prog.cellsOf 27 = 5 from by kernel_rfl] at hsz
  obtain ⟨fuel, hf⟩ := h
  obtain ⟨x0, e0, y0⟩ := leaf_int (d := 4) (k := 0) (e := 3) (by kernel_rfl) Try.underlying3 hf
  obtain ⟨x1, e1, y1⟩ := leaf_int (d := 4) (k := 1) (e := 3) (by kernel_rfl) Try.underlying3 hf
  obtain ⟨x2, e2, y2⟩ := leaf_int (d := 4) (k := 2) (e := 3) (by kernel_rfl) Try.underlying3 hf
  obtain ⟨x3, e3, y3⟩ := leaf_int (d := 4) (k := 3) (e := 3) (by kernel_rfl) Try.underlying3 hf
  obtain ⟨x4, e4, y4⟩ := leaf_int (d := 4) (k := 4) (e := 3) (by kernel_rfl) Try.underlying3 hf
  have hcs : cs = #[.int .i64 x0, .int .i64 x1, .int .i64 x2, .int .i64 x3, .int .i64 x4] := by
    apply Array.ext'
    refine list_of_get (by simpa using hsz) ?_
    intro k hk
    have hk' : k < 5 := by simpa using hk
    have : k = 0 ∨ k = 1 ∨ k = 2 ∨ k = 3 ∨ k = 4 := by omega
    rcases this with rfl | rfl | rfl | rfl | rfl
    all_goals simp_all [Value.cells]
  subst hcs
  exact ⟨⟨x0, x1, x2, x3, x4⟩, rfl⟩

end Go.Proofs.Ytjbbgpacijageaa
