/- What a reading tells of a value made of structs and arrays: each cell by its own type. No program is named here. -/
import Derived.ProofKit
import Derived.OpenShut
namespace Go.Proofs.Ytjbbgpacijageaa
open Go.ChangeShapes Go.WideShapes Go.ChangeAt Go.RowKit

/-- The type of the cell number k of a value of type t, through structs and arrays. -/
def leafAt (P : Program) : Nat → TypeId → Nat → Option TypeId
  | 0, _, _ => none
  | d + 1, t, k =>
    match P.underlying t with
    | some (.struct fs) =>
      match fs.toList.find? (fun f => decide (f.offset ≤ k) && decide (k < f.offset + P.cellsOf f.type)) with
      | some f => leafAt P d f.type (k - f.offset)
      | none => none
    | some (.array n e) => if k / P.cellsOf e < n then leafAt P d e (k % P.cellsOf e) else none
    | some (.int _) | some .bool | some (.slice _) => if k = 0 then some t else none
    | _ => none

section
variable {H : Type} {enc : TypeId × Value → H} {P : Program} {w : World} {base : Nat} {spare : Nat → Bool} {held : Bool}

theorem cells_one {t : TypeId} {d : TypeDesc} (ht : P.underlying t = some d) (hd : (match d with | .int _ | .bool | .slice _ => true | _ => false) = true) {fuel : Nat} {cs : List Value} {x : DataW H × List MemPlace}
    (h : DataW.trod enc P w base spare held fuel t cs = some x) : ∃ c, cs = [c] := by
  cases fuel with
  | zero => simp [DataW.trod] at h
  | succ n =>
    unfold DataW.trod at h
    rw [ht] at h
    cases d <;> simp at hd
    all_goals
      split at h <;> simp_all

theorem trod_leaf : ∀ (d : Nat) (t : TypeId) (k : Nat) (e : TypeId) (fuel : Nat) (cs : List Value) (x : DataW H × List MemPlace),
    leafAt P d t k = some e → DataW.trod enc P w base spare held fuel t cs = some x → ∃ m y c, cs[k]? = some c ∧ DataW.trod enc P w base spare held m e [c] = some y := by
  intro d
  induction d with
  | zero => intro t k e fuel cs x hl; simp [leafAt] at hl
  | succ d ih =>
    intro t k e fuel cs x hl h
    unfold leafAt at hl
    split at hl
    · rename_i fs hu
      split at hl
      · rename_i f hf
        obtain ⟨xs, n, rfl, _, hlen, hsz, hall⟩ := DataW.trod_struct hu h
        have hmem := List.mem_of_find?_eq_some hf
        have hp := List.find?_some hf
        simp only [Bool.and_eq_true, decide_eq_true_iff] at hp
        obtain ⟨i, hi⟩ := List.getElem?_of_mem hmem
        have hi' : fs[i]? = some f := by simpa using hi
        have hi2 : i < fs.size := by
          rcases Nat.lt_or_ge i fs.size with h' | h'
          · exact h'
          · rw [Array.getElem?_eq_none h'] at hi'; cases hi'
        have h1 := hall i f hi'
        have hx : ∃ y, xs[i]? = some y := ⟨xs[i]'(by omega), by simp⟩
        obtain ⟨y, hy⟩ := hx
        rw [hy] at h1
        obtain ⟨m, y', c, hc, hm⟩ := ih f.type (k - f.offset) e n _ y hl h1
        refine ⟨m, y', c, ?_, hm⟩
        rw [List.getElem?_take] at hc
        split at hc
        · rw [List.getElem?_drop] at hc
          rwa [show f.offset + (k - f.offset) = k from by omega] at hc
        · cases hc
      · cases hl
    · rename_i n el hu
      split at hl
      · rename_i hk
        obtain ⟨xs, m0, rfl, _, hlen, hsz, hall⟩ := DataW.trod_array hu h
        have h1 := hall (k / P.cellsOf el) hk
        have hx : ∃ y, xs[k / P.cellsOf el]? = some y := ⟨xs[k / P.cellsOf el]'(by omega), by simp⟩
        obtain ⟨y, hy⟩ := hx
        rw [hy] at h1
        obtain ⟨m, y', c, hc, hm⟩ := ih el (k % P.cellsOf el) e m0 _ y hl h1
        refine ⟨m, y', c, ?_, hm⟩
        rw [List.getElem?_take] at hc
        split at hc
        · rw [List.getElem?_drop] at hc
          rwa [show k / P.cellsOf el * P.cellsOf el + k % P.cellsOf el = k from by rw [Nat.mul_comm]; exact Nat.div_add_mod k _] at hc
        · cases hc
      · cases hl
    · rename_i q hu
      split at hl
      · rename_i hk
        cases hl
        obtain ⟨c, rfl⟩ := cells_one hu rfl h
        exact ⟨fuel, x, c, by simp [hk], h⟩
      · cases hl
    · rename_i hu
      split at hl
      · rename_i hk
        cases hl
        obtain ⟨c, rfl⟩ := cells_one hu rfl h
        exact ⟨fuel, x, c, by simp [hk], h⟩
      · cases hl
    · rename_i q hu
      split at hl
      · rename_i hk
        cases hl
        obtain ⟨c, rfl⟩ := cells_one hu rfl h
        exact ⟨fuel, x, c, by simp [hk], h⟩
      · cases hl
    · cases hl

/-- A cell that is a number. -/
theorem leaf_int {d : Nat} {t : TypeId} {k : Nat} {e : TypeId} {q : IntKind} (hl : leafAt P d t k = some e) (he : P.underlying e = some (.int q)) {fuel : Nat} {cs : List Value} {x : DataW H × List MemPlace}
    (h : DataW.trod enc P w base spare held fuel t cs = some x) : ∃ n, cs[k]? = some (.int q n) ∧ (Lit.int q n).wf = true := by
  obtain ⟨m, y, c, hc, hm⟩ := trod_leaf d t k e fuel cs x hl h
  obtain ⟨n, e1, _, hw⟩ := DataW.trod_int he hm
  simp at e1
  exact ⟨n, by rw [hc, e1], hw⟩

theorem leaf_bool {d : Nat} {t : TypeId} {k : Nat} {e : TypeId} (hl : leafAt P d t k = some e) (he : P.underlying e = some .bool) {fuel : Nat} {cs : List Value} {x : DataW H × List MemPlace}
    (h : DataW.trod enc P w base spare held fuel t cs = some x) : ∃ b, cs[k]? = some (.bool b) := by
  obtain ⟨m, y, c, hc, hm⟩ := trod_leaf d t k e fuel cs x hl h
  obtain ⟨n, e1, _⟩ := DataW.trod_bool he hm
  simp at e1
  exact ⟨n, by rw [hc, e1]⟩

end
end Go.Proofs.Ytjbbgpacijageaa
