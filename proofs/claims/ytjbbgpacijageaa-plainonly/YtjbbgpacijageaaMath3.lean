/- More plain facts: stores into blocks that were laid ahead of a call. -/
import Derived.Test.YtjbbgpacijageaaMath2
namespace Go.Proofs.Ytjbbgpacijageaa
open Go.RowKit

theorem Up.set {W : World} (u : Up W) (a : Addr) (v : Value) : ∃ u' : Up (W.setCell a v), u.x.setCell a v = u'.x := by
  refine ⟨⟨u.x.setCell a v, ?_⟩, rfl⟩
  have hz : (W.setCell a v).heap.size = W.heap.size := by simp [World.setCell]
  refine ⟨u.h.os, u.h.tape, u.h.output, ?_, fun k hk => ?_⟩
  · simp only [World.setCell, Array.size_modify]; exact u.h.size
  · rw [hz] at hk
    have := u.h.block k hk
    simp only [World.setCell, Array.getElem?_modify]
    rw [this]

/-- A call behind a store of a struct of ten cells into a block that was there. -/
theorem calls_set10 {P : Program} {f : FuncId} {args : Array Value} {Q : Ending → World → Prop} {W : World} {u : Up W} {b : Nat} {c0 c1 c2 c3 c4 c5 c6 c7 c8 c9 : Value} (W' : World)
    (hW' : (((((((((W.setCell ⟨b, 0, none⟩ c0).setCell ⟨b, 1, none⟩ c1).setCell ⟨b, 2, none⟩ c2).setCell ⟨b, 3, none⟩ c3).setCell ⟨b, 4, none⟩ c4).setCell ⟨b, 5, none⟩ c5).setCell ⟨b, 6, none⟩ c6).setCell ⟨b, 7, none⟩ c7).setCell ⟨b, 8, none⟩ c8).setCell ⟨b, 9, none⟩ c9 = W')
    (h : ∀ v : Up W', Calls P f args v.x Q) :
    Calls P f args ((((((((((u.x.setCell ⟨b, 0, none⟩ c0).setCell ⟨b, 1, none⟩ c1).setCell ⟨b, 2, none⟩ c2).setCell ⟨b, 3, none⟩ c3).setCell ⟨b, 4, none⟩ c4).setCell ⟨b, 5, none⟩ c5).setCell ⟨b, 6, none⟩ c6).setCell ⟨b, 7, none⟩ c7).setCell ⟨b, 8, none⟩ c8).setCell ⟨b, 9, none⟩ c9) Q := by
  obtain ⟨v0, h0⟩ := u.set ⟨b, 0, none⟩ c0
  obtain ⟨v1, h1⟩ := v0.set ⟨b, 1, none⟩ c1
  obtain ⟨v2, h2⟩ := v1.set ⟨b, 2, none⟩ c2
  obtain ⟨v3, h3⟩ := v2.set ⟨b, 3, none⟩ c3
  obtain ⟨v4, h4⟩ := v3.set ⟨b, 4, none⟩ c4
  obtain ⟨v5, h5⟩ := v4.set ⟨b, 5, none⟩ c5
  obtain ⟨v6, h6⟩ := v5.set ⟨b, 6, none⟩ c6
  obtain ⟨v7, h7⟩ := v6.set ⟨b, 7, none⟩ c7
  obtain ⟨v8, h8⟩ := v7.set ⟨b, 8, none⟩ c8
  obtain ⟨v9, h9⟩ := v8.set ⟨b, 9, none⟩ c9
  rw [h0, h1, h2, h3, h4, h5, h6, h7, h8, h9]
  subst hW'
  exact h v9

end Go.Proofs.Ytjbbgpacijageaa
