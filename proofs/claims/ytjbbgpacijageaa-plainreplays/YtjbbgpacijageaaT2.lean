/- Values in a world: names, blocks, lists; frames. No program is named here. -/
import Derived.Test.YtjbbgpacijageaaT1
namespace Go.Proofs.Ytjbbgpacijageaa.M
open Go.RowKit
set_option linter.unusedVariables false
set_option linter.unusedSimpArgs false

def Hd.ok (XB : Nat → Prop) : Hd → Prop
  | .conc _ => True
  | .nm k => XB k

/-- The lists in a value are there: their cells read so, and lie where nothing is written. -/
def wok (XB : Nat → Prop) (B : Nat → Value) (F : Nat → Nat → Prop) (x : World) : (t : Ty) → t.D → Prop
  | .int, _ => True
  | .bool, _ => True
  | .one t, v => wok XB B F x t v
  | .pair a b, v => wok XB B F x a v.1 ∧ wok XB B F x b v.2
  | .arr n t, f => ∀ i, i < n → wok XB B F x t (f i)
  | .lst t, v => v.1.ok XB ∧ ((v.2 = [] ∧ ∃ ad cap, v.1.val B = .slice ad 0 cap) ∨
      ∃ b o cap, v.1.val B = .slice (some ⟨b, o, none⟩) v.2.length cap ∧ v.2.length ≤ cap ∧ cap ≤ maxLen ∧ b < x.heap.size ∧ (∃ fe, o + v.2.length * t.sz ≤ fe ∧ F b fe) ∧
        ∀ (i : Nat) e, v.2[i]? = some e → (∀ j, j < t.sz → x.cell? ⟨b, o + i * t.sz + j, none⟩ = (flat B t e)[j]?) ∧ wok XB B F x t e)

/-- What lies still in one world is so in another. -/
def Keep (F : Nat → Nat → Prop) (x x' : World) : Prop := ∀ b e, F b e → ∀ j, j < e → x'.cell? ⟨b, j, none⟩ = x.cell? ⟨b, j, none⟩

theorem flat_congr {XB : Nat → Prop} {B B' : Nat → Value} {F : Nat → Nat → Prop} {x : World} (hB : ∀ n, XB n → B' n = B n) : ∀ (t : Ty) (v : t.D), wok XB B F x t v → flat B' t v = flat B t v
  | .int, _, _ => rfl
  | .bool, _, _ => rfl
  | .one t, v, h => flat_congr hB t v h
  | .pair a b, v, h => by simp only [flat]; rw [flat_congr hB a v.1 h.1, flat_congr hB b v.2 h.2]
  | .arr n t, f, h => rows_congr n fun i hi => flat_congr hB t (f i) (h i hi)
  | .lst t, v, h => by
    obtain ⟨h1, _⟩ := h
    simp only [flat]
    cases hv : v.1 with
    | conc u => rfl
    | nm k => rw [hv] at h1; simp only [Hd.val, hB k h1]
theorem hdVal_congr {XB : Nat → Prop} {B B' : Nat → Value} (hB : ∀ n, XB n → B' n = B n) {h : Hd} (hh : h.ok XB) : h.val B' = h.val B := by
  cases h with
  | conc u => rfl
  | nm k => exact hB k hh

theorem wok_mono {XB XB' : Nat → Prop} {B B' : Nat → Value} {F F' : Nat → Nat → Prop} {x x' : World} (hX : ∀ n, XB n → XB' n) (hB : ∀ n, XB n → B' n = B n) (hF : ∀ b e, F b e → F' b e) (hK : Keep F x x') (hs : x.heap.size ≤ x'.heap.size) :
    ∀ (t : Ty) (v : t.D), wok XB B F x t v → wok XB' B' F' x' t v
  | .int, _, _ => trivial
  | .bool, _, _ => trivial
  | .one t, v, h => wok_mono hX hB hF hK hs t v h
  | .pair a b, v, h => ⟨wok_mono hX hB hF hK hs a v.1 h.1, wok_mono hX hB hF hK hs b v.2 h.2⟩
  | .arr n t, f, h => fun i hi => wok_mono hX hB hF hK hs t (f i) (h i hi)
  | .lst t, v, h => by
    obtain ⟨h1, h2⟩ := h
    refine ⟨?_, ?_⟩
    · cases hv : v.1 with
      | conc u => trivial
      | nm k => rw [hv] at h1; exact hX k h1
    · rw [hdVal_congr hB h1]
      rcases h2 with h2 | ⟨b, o, cap, e1, e2, e3, e4, ⟨fe, e7, e5⟩, e6⟩
      · exact Or.inl h2
      · refine Or.inr ⟨b, o, cap, e1, e2, e3, Nat.lt_of_lt_of_le e4 hs, ⟨fe, e7, hF _ _ e5⟩, fun i e he => ?_⟩
        obtain ⟨g1, g2⟩ := e6 i e he
        have hi : i < v.2.length := (List.getElem?_eq_some_iff.1 he).1
        refine ⟨fun j hj => ?_, wok_mono hX hB hF hK hs t e g2⟩
        have hle : i * t.sz + t.sz ≤ v.2.length * t.sz := by rw [← Nat.succ_mul]; exact Nat.mul_le_mul_right _ hi
        rw [hK _ _ e5 _ (by omega), g1 j hj, flat_congr hB t e g2]

def V.ok (XB : Nat → Prop) (B : Nat → Value) (F : Nat → Nat → Prop) (x : World) : V → Prop
  | .leaf t v => wok XB B F x t v
  | .one y => y.ok XB B F x
  | .node y z => y.ok XB B F x ∧ z.ok XB B F x
section
variable {XB XB' : Nat → Prop} {B B' : Nat → Value} {F F' : Nat → Nat → Prop} {x x' : World}
theorem V.ok_mono (hX : ∀ n, XB n → XB' n) (hB : ∀ n, XB n → B' n = B n) (hF : ∀ b e, F b e → F' b e) (hK : Keep F x x') (hs : x.heap.size ≤ x'.heap.size) : ∀ (v : V), v.ok XB B F x → v.ok XB' B' F' x'
  | .leaf t v, h => wok_mono hX hB hF hK hs t v h
  | .one y, h => V.ok_mono hX hB hF hK hs y h
  | .node y z, h => ⟨V.ok_mono hX hB hF hK hs y h.1, V.ok_mono hX hB hF hK hs z h.2⟩
theorem V.cells_congr (hB : ∀ n, XB n → B' n = B n) : ∀ (v : V), v.ok XB B F x → v.cells B' = v.cells B
  | .leaf t v, h => flat_congr hB t v h
  | .one y, h => V.cells_congr hB y h
  | .node y z, h => by simp only [V.cells]; rw [V.cells_congr hB y h.1, V.cells_congr hB z h.2]
theorem V.val_congr (hB : ∀ n, XB n → B' n = B n) (v : V) (h : v.ok XB B F x) : v.val B' = v.val B := by
  have hc := V.cells_congr hB v h
  unfold V.val
  split
  · rfl
  · rfl
  · exact hdVal_congr hB h.1
  · rw [hc]
theorem getV_ok : ∀ (p : List Step) (v y : V) (o : Nat) (u : Ty), getV v p = some y → At v.ty p o u → v.ok XB B F x → y.ok XB B F x
  | [], v, y, o, u, h, ha, hv => by
    have hh : v = y := by unfold getV at h; exact Option.some.inj h
    subst hh; exact hv
  | s :: p, v, y, o, u, h, ha, hv => by
    unfold getV at h
    split at h
    · rename_i h0; cases h0
    · rename_i x' p' h0
      cases h0
      exact getV_ok _ _ _ o u h ha hv
    · rename_i x1 x2 p' h0
      cases h0
      exact getV_ok _ _ _ o u h ha hv.1
    · rename_i x1 x2 p' h0
      cases h0
      obtain ⟨k, hk, rfl⟩ := ha
      exact getV_ok _ _ _ k u h hk hv.2
    · rename_i t v p' h0
      cases h0
      exact getV_ok _ (.leaf t v) _ o u h ha hv
    · rename_i a b v p' h0
      cases h0
      exact getV_ok _ (.leaf a v.1) _ o u h ha hv.1
    · rename_i a b v p' h0
      cases h0
      obtain ⟨k, hk, rfl⟩ := ha
      exact getV_ok _ (.leaf b v.2) _ k u h hk hv.2
    · rename_i n t f i p' h0
      cases h0
      obtain ⟨hi, k, hk, rfl⟩ := ha
      exact getV_ok _ (.leaf t (f i)) _ k u h hk (hv i hi)
    · cases h
end
theorem denK_sound : ∀ (v : V) (t : Ty) (k : t.D → Prop), denK v t k → ∃ d : t.D, k d ∧ v.ty = t ∧ (∀ B, flat B t d = v.cells B) ∧ ∀ XB B F x, v.ok XB B F x → wok XB B F x t d
  | .leaf t' v, t, k, h => by
    unfold denK at h
    split at h
    · rename_i he _
      subst he
      exact ⟨v, h, rfl, fun _ => rfl, fun _ _ _ _ ho => ho⟩
    · exact h.elim
  | .node y z, t, k, h => by
    cases t with
    | pair a b =>
      unfold denK at h
      obtain ⟨u, h1, h2, h3, h4⟩ := denK_sound y a _ h
      obtain ⟨w, g1, g2, g3, g4⟩ := denK_sound z b _ h1
      exact ⟨(u, w), g1, by simp only [V.ty, h2, g2], fun B => by simp only [flat, V.cells, h3, g3], fun XB B F x ho => ⟨h4 _ _ _ _ ho.1, g4 _ _ _ _ ho.2⟩⟩
    | _ => unfold denK at h; exact h.elim
  | .one y, t, k, h => by
    cases t with
    | one t =>
      unfold denK at h
      obtain ⟨u, h1, h2, h3, h4⟩ := denK_sound y t _ h
      exact ⟨u, h1, by simp only [V.ty, h2], fun B => by simp only [flat, V.cells, h3], h4⟩
    | _ => unfold denK at h; exact h.elim

theorem setK_sound : ∀ (p : List Step) (x new : V) (k : V → Prop), setK p x new k → ∃ y, k y ∧ y.ty = x.ty ∧ ∀ o u, At x.ty p o u → new.ty = u ∧ o + u.sz ≤ x.ty.sz ∧ (∀ B, y.cells B = splice (x.cells B) o (new.cells B)) ∧ ∀ XB B F w, x.ok XB B F w → new.ok XB B F w → y.ok XB B F w
  | [], x, new, k, h => by
    unfold setK at h
    split at h
    · rename_i he _
      refine ⟨new, h, he.symm, fun o u ha => ?_⟩
      have ha' : o = 0 ∧ u = x.ty := by unfold At at ha; exact ha
      obtain ⟨rfl, rfl⟩ := ha'
      refine ⟨he.symm, by omega, fun B => ?_, fun _ _ _ _ _ hn => hn⟩
      unfold splice
      rw [List.take_zero, List.drop_of_length_le (by rw [V.cells_len, V.cells_len, he]; omega)]
      simp
    · exact h.elim
  | .inn :: p, x, new, k, h => by
    unfold setK at h
    split at h
    · rename_i x
      obtain ⟨y, h1, h2, h3⟩ := setK_sound p _ _ _ h
      exact ⟨_, h1, by simp only [V.ty, h2], fun o u ha => h3 o u ha⟩
    · rename_i t v
      obtain ⟨y, h1, h2, h3⟩ := setK_sound p (.leaf t v) _ _ h
      exact ⟨_, h1, by simp only [V.ty, h2], fun o u ha => h3 o u ha⟩
    · exact h.elim
  | .fst :: p, x, new, k, h => by
    unfold setK at h
    split at h
    · rename_i x z
      obtain ⟨y, h1, h2, h3⟩ := setK_sound p _ _ _ h
      refine ⟨_, h1, by simp only [V.ty, h2], fun o u ha => ?_⟩
      obtain ⟨g1, g2, g3, g4⟩ := h3 o u ha
      refine ⟨g1, by simp only [V.ty, Ty.sz]; omega, fun B => ?_, fun XB B F w hx hn => ⟨g4 _ _ _ _ hx.1 hn, hx.2⟩⟩
      simp only [V.cells, g3]
      rw [splice_append_left (by rw [V.cells_len, V.cells_len, g1]; exact g2)]
    · rename_i a b v
      obtain ⟨y, h1, h2, h3⟩ := setK_sound p (.leaf a v.1) _ _ h
      refine ⟨_, h1, by simp only [V.ty, h2], fun o u ha => ?_⟩
      obtain ⟨g1, g2, g3, g4⟩ := h3 o u ha
      refine ⟨g1, by simp only [V.ty, Ty.sz] at g2 ⊢; omega, fun B => ?_, fun XB B F w hx hn => ⟨g4 _ _ _ _ hx.1 hn, hx.2⟩⟩
      simp only [V.cells, g3, flat]
      rw [splice_append_left (by rw [V.cells_len, flat_len, g1]; exact g2)]
    · exact h.elim
  | .snd :: p, x, new, k, h => by
    unfold setK at h
    split at h
    · rename_i z x
      obtain ⟨y, h1, h2, h3⟩ := setK_sound p _ _ _ h
      refine ⟨_, h1, by simp only [V.ty, h2], fun o u ha => ?_⟩
      obtain ⟨j, hj, rfl⟩ := ha
      obtain ⟨g1, g2, g3, g4⟩ := h3 j u hj
      refine ⟨g1, by simp only [V.ty, Ty.sz]; omega, fun B => ?_, fun XB B F w hx hn => ⟨hx.1, g4 _ _ _ _ hx.2 hn⟩⟩
      simp only [V.cells, g3]
      rw [← V.cells_len B z, splice_append_right]
    · rename_i a b v
      obtain ⟨y, h1, h2, h3⟩ := setK_sound p (.leaf b v.2) _ _ h
      refine ⟨_, h1, by simp only [V.ty, h2], fun o u ha => ?_⟩
      obtain ⟨j, hj, rfl⟩ := ha
      obtain ⟨g1, g2, g3, g4⟩ := h3 j u hj
      refine ⟨g1, by simp only [V.ty, Ty.sz] at g2 ⊢; omega, fun B => ?_, fun XB B F w hx hn => ⟨hx.1, g4 _ _ _ _ hx.2 hn⟩⟩
      simp only [V.cells, g3, flat]
      rw [← flat_len B a v.1, splice_append_right]
    · exact h.elim
  | .idx i :: p, x, new, k, h => by
    unfold setK at h
    split at h
    · rename_i n t f
      obtain ⟨y, h1, h2, h3⟩ := setK_sound p (.leaf t (f i)) _ _ h
      obtain ⟨d, e1, e2, e3, e4⟩ := denK_sound y t _ h1
      refine ⟨_, e1, rfl, fun o u ha => ?_⟩
      obtain ⟨hi, j, hj, rfl⟩ := ha
      obtain ⟨g1, g2, g3, g4⟩ := h3 j u hj
      have hle : i * t.sz + t.sz ≤ n * t.sz := by rw [← Nat.succ_mul]; exact Nat.mul_le_mul_right _ hi
      have g2' : j + u.sz ≤ t.sz := g2
      refine ⟨g1, by simp only [V.ty, Ty.sz]; omega, fun B => ?_, fun XB B F w hx hn q hq => ?_⟩
      · simp only [V.cells, flat]
        have hrow := rows_set (g := fun i => flat B t (f i)) (s := t.sz) (l := flat B t d) (flat_len B t d) n (fun i _ => flat_len B t (f i)) i hi
        have hfun : (fun k => flat B t (updA f i d k)) = fun k => if k = i then flat B t d else flat B t (f k) := by
          funext k
          unfold updA
          split <;> rfl
        rw [hfun, hrow, e3, g3]
        have hl : (rows n fun i => flat B t (f i)).length = n * t.sz := rows_len n (fun i _ => flat_len B t (f i))
        rw [show V.cells B (.leaf t (f i)) = (List.drop (i * t.sz) (rows n fun i => flat B t (f i))).take t.sz from (rows_get n (g := fun i => flat B t (f i)) (fun i _ => flat_len B t (f i)) i hi).symm]
        rw [splice_splice (by rw [V.cells_len, g1]; exact g2') (by rw [hl]; exact hle)]
      · show wok XB B F w t (updA f i d q)
        unfold updA
        split
        · exact e4 _ _ _ _ (g4 _ _ _ _ (hx i hi) hn)
        · exact hx q hq
    · exact h.elim

end Go.Proofs.Ytjbbgpacijageaa.M
