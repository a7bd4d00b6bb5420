/- Helps for loops. No program is named here. -/
import Derived.Test.YtjbbgpacijageaaT13
namespace Go.Proofs.Ytjbbgpacijageaa.M
open Go.RowKit
set_option linter.unusedVariables false

/-- The next round begins so. -/
structure Again {ι : Type} (F : ι → Fr) (Bl : ι → List V) (n : ι → NS) (Iv : ι → Prop) (f : Fr) (bl : List V) (nn : NS) (i : ι) : Prop where
  iv : Iv i
  sub : subF (F i) f
  nn : nn = n i
  bl : ∃ b, b ≤ bl.length ∧ okF b (F i) = true ∧ (bl.take b).map V.norm = Bl i

theorem loop_fam {ι : Type} (F : ι → Fr) (Bl : ι → List V) (n : ι → NS) (μ : ι → Nat) (Iv : ι → Prop) {T : Tab} {S : List (Nat × Spec)} {N fuel : Nat} {a : Code} {k : List It} {f : Fr} {bl : List V} {nn : NS}
    (h0 : ∃ i, Again F Bl n Iv f bl nn i)
    (round : ∀ i, Iv i → run T S N fuel (.code a :: .inv (fun f' bl' nn' => ∃ i', μ i' < μ i ∧ Again F Bl n Iv f' bl' nn' i') :: k) (F i) (Bl i) (n i))
    (hbase : ∀ i, T.base ≤ (Bl i).length := by intro _; first | exact Nat.zero_le _ | exact Nat.le_of_ble_eq_true rfl) :
    (∃ m, rounds (fun I => run T S N fuel (.code a :: .inv I :: k)) m f bl nn) ∨
        ∃ I : Nat → Fr → List V → NS → Prop, (∃ j, Ent T.base (I j) f bl nn) ∧ ∀ j f bl nn, I j f bl nn → run T S N fuel (.code a :: .inv (fun f' bl' nn' => ∃ j', j' < j ∧ Ent T.base (I j') f' bl' nn') :: k) f bl nn := by
  right
  have hbl : ∀ (b : Nat) (bl : List V) (i : ι), b ≤ bl.length → (bl.take b).map V.norm = Bl i → T.base ≤ b := fun b bl i hb ht => by
    have h1 := hbase i
    rw [← ht, List.length_map, List.length_take] at h1
    omega
  refine ⟨fun j f bl nn => ∃ i, j = μ i ∧ Iv i ∧ f = F i ∧ bl = Bl i ∧ nn = n i, ?_, ?_⟩
  · obtain ⟨i, h1, h2, h3, b, h4, h5, h6⟩ := h0
    exact ⟨μ i, ⟨F i, b, hbl b bl i h4 h6, h2, h4, h5, i, rfl, h1, rfl, h6, h3⟩⟩
  · rintro j f bl nn ⟨i, rfl, hi, rfl, rfl, rfl⟩
    have key : (fun (f' : Fr) (bl' : List V) (nn' : NS) => ∃ i', μ i' < μ i ∧ Again F Bl n Iv f' bl' nn' i') = fun f' bl' nn' => ∃ j', j' < μ i ∧ Ent T.base (fun f bl nn => ∃ i, j' = μ i ∧ Iv i ∧ f = F i ∧ bl = Bl i ∧ nn = n i) f' bl' nn' := by
      funext f' bl' nn'
      apply propext
      constructor
      · rintro ⟨i', hlt, h1, h2, h3, b, h4, h5, h6⟩
        exact ⟨μ i', hlt, ⟨F i', b, hbl b bl' i' h4 h6, h2, h4, h5, i', rfl, h1, rfl, h6, h3⟩⟩
      · rintro ⟨j', hlt, ⟨g, b, _, h2, h4, h5, i', rfl, h1, rfl, h6, h3⟩⟩
        exact ⟨i', hlt, h1, h2, h3, b, h4, h5, h6⟩
    have := round i hi
    rw [key] at this
    exact this

theorem wrap_id {z : Int} (h : -9223372036854775808 ≤ z ∧ z ≤ 9223372036854775807) : wrap64 z = z := by unfold wrap64; omega
theorem wrap_succ (k : Nat) (h : k < 9223372036854775807) : wrap64 ((k : Int) + 1) = ((k + 1 : Nat) : Int) := by
  rw [wrap_id (by omega)]; omega

end Go.Proofs.Ytjbbgpacijageaa.M
