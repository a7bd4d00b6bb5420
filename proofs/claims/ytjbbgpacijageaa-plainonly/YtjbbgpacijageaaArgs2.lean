/- An argument that is a memory, as a value. -/
import Derived.Test.YtjbbgpacijageaaArgs
import Derived.Test.YtjbbgpacijageaaMem
namespace Go.Proofs.Ytjbbgpacijageaa
open Go.ChangeShapes Go.WideShapes Go.ChangeAt Go.RowKit
set_option maxRecDepth 8000
set_option linter.unusedVariables false

theorem mem_leaf : ((List.range 32).all fun k => leafAt Try.prog 4 43 k == some 3) = true := by kernel_rfl

theorem open_mem {H : Type} {enc : TypeId × Value → H} {w : World} {base : Nat} {spare : Nat → Bool} {held : Bool} {r : Reach} {b0 : Nat} {v : Value} {d : DataW H} {ps : List MemPlace}
    (hv : Value.okWide Try.prog w r b0 43 v) (h : DataW.Trod enc Try.prog w base spare held 43 v d ps) : ∃ m : Nat → Int, v = .agg (mc m) := by
  simp only [Value.okWide, Try.underlying43] at hv
  obtain ⟨cs, rfl, hsz, _⟩ := hv
  rw [show Try.prog.cellsOf 43 = 32 from by kernel_rfl] at hsz
  obtain ⟨fuel, hf⟩ := h
  have key : ∀ k, k < 32 → ∃ z : Int, cs[k]? = some (.int .i64 z) := fun k hk => by
    have hl := List.all_eq_true.1 mem_leaf k (by simpa using hk)
    obtain ⟨z, hz, _⟩ := leaf_int (d := 4) (k := k) (e := 3) (by simpa using hl) Try.underlying3 hf
    exact ⟨z, by simpa [Value.cells] using hz⟩
  refine ⟨fun k => match cs[k]? with | some (.int _ z) => z | _ => 0, ?_⟩
  congr 1
  apply Array.ext'
  refine list_of_get (by rw [Array.length_toList, Array.length_toList, hsz]; rfl) ?_
  intro k hk
  have hk' : k < 32 := by simpa [mc] using hk
  obtain ⟨z, hz⟩ := key k hk'
  have h1 := mc_get (fun k => match cs[k]? with | some (.int _ z) => z | _ => 0) hk'
  rw [Array.getElem?_toList, Array.getElem?_toList, h1, hz]

end Go.Proofs.Ytjbbgpacijageaa
