/- A contract whose lists have other names than the walk gave them. No program is named here. -/
import Derived.Test.YtjbbgpacijageaaT15
namespace Go.Proofs.Ytjbbgpacijageaa.M
open Go.RowKit
set_option linter.unusedVariables false
set_option linter.unusedSimpArgs false

def renH (nn : Nat) (ρ : Nat → Hd) : Hd → Hd
  | .conc v => .conc v
  | .nm k => if k < nn then .nm k else ρ k
def renD (nn : Nat) (ρ : Nat → Hd) : (t : Ty) → t.D → t.D
  | .int, v => v
  | .bool, v => v
  | .one t, v => renD nn ρ t v
  | .pair a b, v => (renD nn ρ a v.1, renD nn ρ b v.2)
  | .arr _ t, f => fun i => renD nn ρ t (f i)
  | .lst t, v => (renH nn ρ v.1, v.2.map (renD nn ρ t))
def renL (nn : Nat) (ρ : Nat → Hd) : (ts : List Ty) → DL ts → DL ts
  | [], _ => ()
  | t :: r, d => (renD nn ρ t d.1, renL nn ρ r d.2)
/-- Names below a number. -/
def Hd.lt (m : Nat) : Hd → Prop
  | .conc _ => True
  | .nm k => k < m
def namD (m : Nat) : (t : Ty) → t.D → Prop
  | .int, _ => True
  | .bool, _ => True
  | .one t, v => namD m t v
  | .pair a b, v => namD m a v.1 ∧ namD m b v.2
  | .arr n t, f => ∀ i, i < n → namD m t (f i)
  | .lst t, v => v.1.lt m ∧ ∀ e ∈ v.2, namD m t e
def namL (m : Nat) : (ts : List Ty) → DL ts → Prop
  | [], _ => True
  | t :: r, d => namD m t d.1 ∧ namL m r d.2
theorem renD_nolst (nn : Nat) (ρ : Nat → Hd) : ∀ (t : Ty) (v : t.D), t.nolst = true → renD nn ρ t v = v
  | .int, _, _ => rfl
  | .bool, _, _ => rfl
  | .one t, v, h => renD_nolst nn ρ t v h
  | .pair a b, v, h => by
    simp only [Ty.nolst, Bool.and_eq_true] at h
    simp only [renD, renD_nolst nn ρ a _ h.1, renD_nolst nn ρ b _ h.2]
  | .arr n t, f, h => funext fun i => renD_nolst nn ρ t (f i) h
  | .lst t, v, h => by cases h
theorem namD_nolst (m : Nat) : ∀ (t : Ty) (v : t.D), t.nolst = true → namD m t v
  | .int, _, _ => trivial
  | .bool, _, _ => trivial
  | .one t, v, h => namD_nolst m t v h
  | .pair a b, v, h => by
    simp only [Ty.nolst, Bool.and_eq_true] at h
    exact ⟨namD_nolst m a _ h.1, namD_nolst m b _ h.2⟩
  | .arr n t, f, h => fun i _ => namD_nolst m t (f i) h
  | .lst t, v, h => by cases h
section
variable {nn m : Nat} {ρ : Nat → Hd} {B B' : Nat → Value} {XB : Nat → Prop} {F : Nat → Nat → Prop} {x : World}
theorem ren_flat (h1 : ∀ k, k < nn → B' k = B k) (h2 : ∀ k, nn ≤ k → k < m → B' k = (ρ k).val B) : ∀ (t : Ty) (v : t.D), namD m t v → flat B' t v = flat B t (renD nn ρ t v)
  | .int, _, _ => rfl
  | .bool, _, _ => rfl
  | .one t, v, h => ren_flat h1 h2 t v h
  | .pair a b, v, h => by simp only [flat, renD]; rw [ren_flat h1 h2 a _ h.1, ren_flat h1 h2 b _ h.2]
  | .arr n t, f, h => rows_congr n fun i hi => ren_flat h1 h2 t (f i) (h i hi)
  | .lst t, v, h => by
    simp only [flat, renD]
    congr 1
    have h3 := h.1
    cases hv : v.1 with
    | conc u => rfl
    | nm k =>
      rw [hv] at h3
      show B' k = (if k < nn then Hd.nm k else ρ k).val B
      by_cases hk : k < nn
      · rw [if_pos hk]; exact h1 k hk
      · rw [if_neg hk]; exact h2 k (by omega) h3
theorem ren_wok (h1 : ∀ k, k < nn → B' k = B k) (h2 : ∀ k, nn ≤ k → k < m → B' k = (ρ k).val B) : ∀ (t : Ty) (v : t.D), namD m t v → wok XB B F x t (renD nn ρ t v) → wok (· < m) B' F x t v
  | .int, _, _, _ => trivial
  | .bool, _, _, _ => trivial
  | .one t, v, h, hw => ren_wok h1 h2 t v h hw
  | .pair a b, v, h, hw => ⟨ren_wok h1 h2 a _ h.1 hw.1, ren_wok h1 h2 b _ h.2 hw.2⟩
  | .arr n t, f, h, hw => fun i hi => ren_wok h1 h2 t (f i) (h i hi) (hw i hi)
  | .lst t, v, h, hw => by
    obtain ⟨h3, h4⟩ := h
    have hval : v.1.val B' = (renH nn ρ v.1).val B := by
      cases hv : v.1 with
      | conc u => rfl
      | nm k =>
        rw [hv] at h3
        show B' k = (if k < nn then Hd.nm k else ρ k).val B
        by_cases hk : k < nn
        · rw [if_pos hk]; exact h1 k hk
        · rw [if_neg hk]; exact h2 k (by omega) h3
    refine ⟨?_, ?_⟩
    · cases hv : v.1 with
      | conc u => trivial
      | nm k => rw [hv] at h3; exact h3
    · rw [hval]
      rcases hw.2 with ⟨g1, g2⟩ | ⟨b, o, cap, g1, g2, g3, g4, g5, g6⟩
      · exact Or.inl ⟨List.map_eq_nil_iff.1 g1, g2⟩
      · have hl : (v.2.map (renD nn ρ t)).length = v.2.length := List.length_map _
        simp only [renD] at g1 g2 g5
        rw [hl] at g1 g2 g5
        refine Or.inr ⟨b, o, cap, g1, g2, g3, g4, g5, fun i e he => ?_⟩
        have hi : (v.2.map (renD nn ρ t))[i]? = some (renD nn ρ t e) := by rw [List.getElem?_map, he]; rfl
        obtain ⟨k1, k2⟩ := g6 i _ hi
        have hn := h4 e (List.mem_of_getElem? he)
        exact ⟨fun j hj => by rw [ren_flat h1 h2 t e hn]; exact k1 j hj, ren_wok h1 h2 t e hn k2⟩
theorem ren_wokL (h1 : ∀ k, k < nn → B' k = B k) (h2 : ∀ k, nn ≤ k → k < m → B' k = (ρ k).val B) : ∀ (ts : List Ty) (d : DL ts), namL m ts d → wokL XB B F x ts (renL nn ρ ts d) → wokL (· < m) B' F x ts d
  | [], _, _, _ => trivial
  | t :: r, d, h, hw => ⟨ren_wok h1 h2 t _ h.1 hw.1, ren_wokL h1 h2 r _ h.2 hw.2⟩
theorem ren_valL (h1 : ∀ k, k < nn → B' k = B k) (h2 : ∀ k, nn ≤ k → k < m → B' k = (ρ k).val B) : ∀ (ts : List Ty) (d : DL ts), namL m ts d → (leafs ts d).map (V.val B') = (leafs ts (renL nn ρ ts d)).map (V.val B)
  | [], _, _ => rfl
  | t :: r, d, h => by
    simp only [leafs, List.map_cons, renL]
    rw [ren_valL h1 h2 r _ h.2]
    congr 1
    have hf := ren_flat h1 h2 t d.1 h.1
    cases ha : t.agg with
    | true => rw [V.val_agg (x := .leaf t d.1) ha, V.val_agg (x := .leaf t (renD nn ρ t d.1)) ha]; simp only [V.cells, hf]
    | false => cases t with
      | int => rfl
      | bool => rfl
      | lst u =>
        have : [Hd.val B' d.1.1] = [Hd.val B (renD nn ρ (.lst u) d.1).1] := hf
        simpa [V.val] using this
      | _ => simp [Ty.agg] at ha
end
theorem retV_congr {B B' : Nat → Value} {l l' : List V} (hl : l.map (V.val B) = l'.map (V.val B')) : retV B l = retV B' l' := by
  match l, l', hl with
  | [], [], _ => rfl
  | [a], [b], hl => simpa [retV] using hl
  | a :: b :: l, c :: d :: l', hl => simp only [retV, hl]
  | [], _ :: _, hl => simp at hl
  | _ :: _, [], hl => simp at hl
  | [a], b :: c :: l, hl => simp at hl
  | b :: c :: l, [a], hl => simp at hl
/-- The end of a function: what it gives back, by other names. -/
structure DoneR (s : Spec) (nn : Nat) (d : s.args |> DL) (r : DL s.res) (nn' : NS) : Prop where
  ex : ∃ ρ : Nat → Hd, eqvL s.res r (renL nn ρ s.res (s.fn nn d))
  nm : namL (nn + s.m d) s.res (s.fn nn d)
theorem doneR_ok (s : Spec) (nn : Nat) (d : DL s.args) (r : DL s.res) (nn' : NS) (h : DoneR s nn d r nn') (B B0 : Nat → Value) (F : Nat → Nat → Prop) (x : World) (hB : ∀ n, n < nn → B n = B0 n) (hw : wokL (· < nn'.n) B F x s.res r) :
    ∃ B', (∀ n, n < nn → B' n = B0 n) ∧ retL B' s.res (s.fn nn d) = retL B s.res r ∧ wokL (· < nn + s.m d) B' F x s.res (s.fn nn d) := by
  obtain ⟨⟨ρ, h1⟩, h2⟩ := h
  have e1 : ∀ k, k < nn → (fun k => if k < nn then B k else (ρ k).val B) k = B k := fun k hk => if_pos hk
  have e2 : ∀ k, nn ≤ k → k < nn + s.m d → (fun k => if k < nn then B k else (ρ k).val B) k = (ρ k).val B := fun k hk _ => if_neg (by omega)
  refine ⟨fun k => if k < nn then B k else (ρ k).val B, fun n hn => (e1 n hn).trans (hB n hn), ?_, ?_⟩
  · unfold retL
    exact retV_congr ((ren_valL e1 e2 _ _ h2).trans (eqvL_val B _ _ _ h1).symm)
  · exact ren_wokL e1 e2 _ _ h2 (eqvL_wok _ _ _ h1 hw)
theorem ctr_ofR (tk : List (Hd × Nat)) (htk : ∃ ss : List Nat, tk = ss.map fun q => (nilH, q)) {P : Program} {T : Tab} {S : List (Nat × Spec)} (hT : TabOk P T) (hS : SpecsOk P S) {g : FuncId} {fn : Func} {cd : Code} (hf : P.funcs[g]? = some fn) (hb : fn.body = some cd) (s : Spec) (hn : s.args.length ≤ fn.ntmps) (nocr : s.cr = false → ∀ d, s.m d = 0)
    (h : ∀ nn d, s.pre d → bndL s.args d → ∃ fuel, initK s.args d 0 fun f => run T S fn.ntmps fuel [.code cd, .fin fn.results.toList s.res fun r _ nn' => DoneR s nn d r nn'] f [] ⟨nn, tk⟩) : Ctr P g s := by
  obtain ⟨ss, rfl⟩ := htk
  exact ctr_gen ss (R := fun s nn d r nn' => DoneR s nn d r nn') (fun s nn d r nn' h => doneR_ok s nn d r nn' h) hT hS hf hb s hn nocr h
theorem ctr_ofT (tk : List (Hd × Nat)) (htk : ∃ ss : List Nat, tk = ss.map fun q => (nilH, q)) {P : Program} {T : Tab} {S : List (Nat × Spec)} (hT : TabOk P T) (hS : SpecsOk P S) {g : FuncId} {fn : Func} {cd : Code} (hf : P.funcs[g]? = some fn) (hb : fn.body = some cd) (s : Spec) (hn : s.args.length ≤ fn.ntmps) (nocr : s.cr = false → ∀ d, s.m d = 0)
    (h : ∀ nn d, s.pre d → bndL s.args d → ∃ fuel, initK s.args d 0 fun f => run T S fn.ntmps fuel [.code cd, .fin fn.results.toList s.res fun r _ nn' => Done s nn d r nn'] f [] ⟨nn, tk⟩) : Ctr P g s := by
  obtain ⟨ss, rfl⟩ := htk
  exact ctr_gen ss (R := fun s nn d r nn' => Done s nn d r nn') (fun s nn d r nn' h => done_ok s nn d r nn' h) hT hS hf hb s hn nocr h

end Go.Proofs.Ytjbbgpacijageaa.M
