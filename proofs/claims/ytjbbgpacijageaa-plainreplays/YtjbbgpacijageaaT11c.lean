/- A region that draws its order, and then goes on one by one. No program is named here. -/
import Derived.Test.YtjbbgpacijageaaT11b
namespace Go.Proofs.Ytjbbgpacijageaa.M
open Go.RowKit
set_option linter.unusedVariables false
set_option linter.unusedSimpArgs false

/-- From operation k on each waits for all ahead. -/
def tailOk (ops : List Oper) (k : Nat) : Bool :=
  okRegion ops && (okRegion (ops.take k) && (Nat.ble k ops.length && ((List.range ops.length).all (fun j => Nat.ble (j + 1) k || (List.range j).all fun i => waitsB ops j i) &&
  (ops.take k).all fun o => match o.guard with | none => true | some (j, _) => Nat.ble (j + 1) k)))

section
variable {P : Program} {ops : List Oper} {Q : Exit → Act → World → Prop} {k : Nat}

theorem tail_ok (h : tailOk ops k = true) : okRegion ops = true ∧ okRegion (ops.take k) = true ∧ k ≤ ops.length ∧ (∀ j, j < ops.length → k ≤ j → ∀ i, i < j → waitsB ops j i = true) ∧ ∀ o ∈ ops.take k, ∀ j w, o.guard = some (j, w) → j < k := by
  simp only [tailOk, Bool.and_eq_true, List.all_eq_true, List.mem_range, Bool.or_eq_true] at h
  obtain ⟨h1, h2, h3, h4, h5⟩ := h
  refine ⟨h1, h2, Nat.le_of_ble_eq_true h3, fun j hj hkj i hi => ?_, fun o ho j w hg => ?_⟩
  · rcases h4 j hj with h6 | h6
    · have := Nat.le_of_ble_eq_true h6; omega
    · exact h6 i hi
  · have := h5 o ho
    rw [hg] at this
    exact Nat.le_of_ble_eq_true this

theorem take_get {i : Nat} (hi : i < k) : (ops.take k)[i]? = ops[i]? := by rw [List.getElem?_take, if_pos hi]
theorem take_get_none {i : Nat} (hi : k ≤ i) : (ops.take k)[i]? = none := by rw [List.getElem?_take, if_neg (by omega)]
theorem waits_take {i j : Nat} (hi : i < k) : waitsB (ops.take k) i j = waitsB ops i j := by unfold waitsB; rw [take_get hi]
theorem waits_take_lt {i j : Nat} (h : waitsB (ops.take k) i j = true) : i < k := by
  rcases Nat.lt_or_ge i k with h1 | h1
  · exact h1
  · unfold waitsB at h; rw [take_get_none h1] at h; cases h
theorem wanted_take {o : Oper} (hg : ∀ j w, o.guard = some (j, w) → j < k) (tmps : Array Value) : Region.wanted o (yielded (ops.take k).toArray tmps) = Region.wanted o (yielded ops.toArray tmps) := by
  unfold Region.wanted
  cases h : o.guard with
  | none => rfl
  | some q =>
    obtain ⟨j, w⟩ := q
    have hj := hg j w h
    have : yielded (ops.take k).toArray tmps j = yielded ops.toArray tmps j := by
      unfold yielded
      have e : (ops.take k).toArray[j]? = ops.toArray[j]? := by simp [List.getElem?_take, hj]
      rw [e]
    simp only [this]

theorem wp_region_tail (Inv : (Nat → Bool) → Act → World → Prop) {id : Nat} {a0 : Act} {w0 : World} (hm : P.follows .mixedOrders = true) (ht : tailOk ops k = true)
    (h0 : Inv (fun _ => false) a0 { w0 with drawn := w0.drawn + 1 })
    (hstep : ∀ (i : Nat) (o : Oper), (ops.take k)[i]? = some o → ∀ D a x, Adm (ops.take k) i D → Inv D a x →
      if Region.wanted o (yielded (ops.take k).toArray a.tmps) = true then upon4 P (fun v x' => Inv (setD D i) (a.put o.dst v) x') ((execOp a.eval o).run P x) else Inv (setD D i) (a.put o.dst undef) x)
    (hend : ∀ D a x, (∀ j, j < (ops.take k).length → D j = true) → Inv D a x → tailL P ops.toArray (fun a x => Q .normal a x) (ops.drop k) a x) : (Code.region id ops.toArray true).wp P Q a0 w0 := by
  obtain ⟨t1, t2, t3, t4, t5⟩ := tail_ok ht
  have tailstep : ∀ (i : Nat) (o : Oper), ops[i]? = some o → k ≤ i → ∀ D a x, (∀ m, D m = true ↔ m < i) → tailL P ops.toArray (fun a x => Q .normal a x) (ops.drop i) a x →
      if Region.wanted o (yielded ops.toArray a.tmps) = true then upon4 P (fun v x' => (∀ m, setD D i m = true ↔ m < i + 1) ∧ tailL P ops.toArray (fun a x => Q .normal a x) (ops.drop (i + 1)) (a.put o.dst v) x') ((execOp a.eval o).run P x)
        else (∀ m, setD D i m = true ↔ m < i + 1) ∧ tailL P ops.toArray (fun a x => Q .normal a x) (ops.drop (i + 1)) (a.put o.dst undef) x := by
    intro i o ho hki D a x hD hl
    have hsD : ∀ m, setD D i m = true ↔ m < i + 1 := fun m => by
      unfold setD
      rw [Bool.or_eq_true, hD m, beq_iff_eq]
      omega
    have hi : i < ops.length := lt_of_get ho
    have hdrop : ops.drop i = o :: ops.drop (i + 1) := by
      rw [List.drop_eq_getElem_cons hi]
      congr 1
      exact Option.some.inj (by rw [← ho, List.getElem?_eq_getElem hi])
    rw [hdrop] at hl
    unfold tailL at hl
    split at hl
    · rename_i hw
      rw [if_pos hw]
      exact upon4_mono (fun v x' h => ⟨hsD, h⟩) hl
    · rename_i hw
      rw [if_neg hw]
      exact ⟨hsD, hl⟩
  refine wp_region_inv (fun D a x => ((∀ j, k ≤ j → D j = false) ∧ Inv D a x) ∨ ∃ j, k ≤ j ∧ j ≤ ops.length ∧ (∀ m, D m = true ↔ m < j) ∧ tailL P ops.toArray (fun a x => Q .normal a x) (ops.drop j) a x) hm t1 (Or.inl ⟨fun _ _ => rfl, h0⟩) ?_ ?_
  · intro i o ho D a x hadm hI
    have hi : i < ops.length := lt_of_get ho
    rcases hI with ⟨hno, hI⟩ | ⟨j, hkj, hjl, hD, hl⟩
    · by_cases hik : i < k
      · have ho' : (ops.take k)[i]? = some o := by rw [take_get hik]; exact ho
        have hs := hstep i o ho' D a x ⟨hadm.un, fun m hm => hadm.ahead m (by rw [← waits_take hik]; exact hm), fun m hm => hadm.behind m (by rw [← waits_take (waits_take_lt hm)]; exact hm), fun m q hm hq => hadm.closed m q hm (by rw [← waits_take (waits_take_lt hq)]; exact hq)⟩ hI
        rw [wanted_take (t5 o (List.mem_of_getElem? ho'))] at hs
        have hsD : ∀ j, k ≤ j → setD D i j = false := fun j hj => by
          unfold setD
          rw [hno j hj, Bool.or_false, beq_eq_false_iff_ne]
          omega
        split at hs
        · rename_i hw
          rw [if_pos hw]
          exact upon4_mono (fun v x' h => Or.inl ⟨hsD, h⟩) hs
        · rename_i hw
          rw [if_neg hw]
          exact Or.inl ⟨hsD, hs⟩
      · have hki : k ≤ i := by omega
        have hdone : ∀ m, m < i → D m = true := fun m hm => hadm.ahead m (t4 i hi hki m hm)
        have hik' : i = k := by
          rcases Nat.lt_or_ge k i with h | h
          · have h1 := hdone k h
            rw [hno k (Nat.le_refl _)] at h1
            cases h1
          · omega
        subst hik'
        have hl := hend D a x (fun j hj => hdone j (by simp at hj; omega)) hI
        have hD : ∀ m, D m = true ↔ m < i := fun m => Iff.intro (fun h => by
          rcases Nat.lt_or_ge m i with h1 | h1
          · exact h1
          · rw [hno m h1] at h; cases h) (hdone m)
        have hs := tailstep i o ho (Nat.le_refl _) D a x hD hl
        split at hs
        · rename_i hw
          rw [if_pos hw]
          exact upon4_mono (fun v x' h => Or.inr ⟨i + 1, by omega, by omega, h.1, h.2⟩) hs
        · rename_i hw
          rw [if_neg hw]
          exact Or.inr ⟨i + 1, by omega, by omega, hs.1, hs.2⟩
    · have hji : j = i := by
        have h1 : ¬ i < j := fun h => by have := (hD i).2 h; rw [hadm.un] at this; cases this
        rcases Nat.lt_or_ge j i with h | h
        · have h2 := hadm.ahead j (t4 i hi (by omega) j h)
          have := (hD j).1 h2
          omega
        · omega
      subst hji
      have hs := tailstep j o ho hkj D a x hD hl
      split at hs
      · rename_i hw
        rw [if_pos hw]
        exact upon4_mono (fun v x' h => Or.inr ⟨j + 1, by omega, by omega, h.1, h.2⟩) hs
      · rename_i hw
        rw [if_neg hw]
        exact Or.inr ⟨j + 1, by omega, by omega, hs.1, hs.2⟩
  · intro D a x hall hI
    rcases hI with ⟨hno, hI⟩ | ⟨j, hkj, hjl, hD, hl⟩
    · have hk : k = ops.length := by
        rcases Nat.lt_or_ge k ops.length with h | h
        · have h1 := hall k h
          rw [hno k (Nat.le_refl _)] at h1
          cases h1
        · omega
      have hl := hend D a x (fun j hj => hall j (by simp at hj; omega)) hI
      rw [List.drop_of_length_le (by omega)] at hl
      exact hl
    · have hj : j = ops.length := by
        rcases Nat.lt_or_ge j ops.length with h | h
        · have := (hD j).1 (hall j h)
          omega
        · omega
      rw [List.drop_of_length_le (by omega)] at hl
      exact hl
end

theorem draw_tail {P : Program} {T : Tab} {S : List (Nat × Spec)} {w0 : World} {F0 : Old} {N : Nat} {ops : List Oper} {k : Nat} (hT : TabOk P T) (hS : SpecsOk P S) {id : Nat} {f : Fr} {bl : List V} {nn : NS} {K : Fr → List V → NS → Prop} {c : Cx} {a : Act} (hok : tailOk ops k = true)
    (h : drwK T S N (ops.take k) ((ops.take k).map (·.dst)) (ops.take k) [] f bl nn fun f bl nn => seqK T S N (ops.map (·.dst)) (ops.drop k) f bl nn K) (hr : Real w0 F0 bl nn c) (hf : FR N c f a) (htop : T.top = true → ∀ b e, F0.c.E.F b e → b < w0.heap.size)
    {Q : Exit → Act → World → Prop} (hQ : ∀ a x, Sat w0 F0 N K a x → Q .normal a x) : (Code.region id ops.toArray true).wp P Q a c.x := by
  obtain ⟨t1, t2, t3, t4, t5⟩ := tail_ok hok
  obtain ⟨Inv, h0, hs, he⟩ := draw_inv hT hS t2 h hr hf
  refine wp_region_tail Inv hT.mix hok h0 hs fun D a x hD hI => ?_
  obtain ⟨f', bl', nn', c', hk, hr', hf', rfl⟩ := he D a x hD hI
  exact seqK_tail hT hS htop hQ _ f' bl' nn' c' a hk hr' hf'

end Go.Proofs.Ytjbbgpacijageaa.M
