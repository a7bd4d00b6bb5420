/- Cores stay good. -/
import Derived.Test.YtjbbgpacijageaaD2
namespace Go.Proofs.Ytjbbgpacijageaa.M
open Go.RowKit
set_option linter.unusedVariables false
set_option linter.unusedSimpArgs false

theorem goodP_iff (g : Nat → Int) (a : Int) (o : Bool) : goodP (g, a, o) = true ↔ g 0 = 0 ∧ isW a = true ∧ ∀ r, r < 8 → isW (g r) = true := by
  show (decide (g 0 = 0) && (isW a && (List.range 8).all fun r => isW (g r))) = true ↔ _
  rw [Bool.and_eq_true, Bool.and_eq_true, List.all_eq_true, decide_eq_true_iff]
  exact ⟨fun ⟨h1, h2, h3⟩ => ⟨h1, h2, fun r hr => h3 r (List.mem_range.2 hr)⟩, fun ⟨h1, h2, h3⟩ => ⟨h1, h2, fun r hr => h3 r (List.mem_range.1 hr)⟩⟩
theorem good_next {p : plainT.D} (h : goodP p = true) : goodP (nextF p) = true := by
  obtain ⟨g, a, o⟩ := p
  have h := (goodP_iff g a o).1 h
  exact (goodP_iff g (wd (a + 1)) o).2 ⟨h.1, isW_wd _, h.2.2⟩
theorem good_put {p : plainT.D} (h : goodP p = true) (r n : Int) : goodP (putF p r n) = true := by
  obtain ⟨g, a, o⟩ := p
  unfold putF
  split
  · rename_i hr
    have h := (goodP_iff g a o).1 h
    refine (goodP_iff _ a o).2 ⟨?_, h.2.1, fun q hq => ?_⟩
    · show updA g r.toNat (wd n) 0 = 0
      unfold updA
      rw [if_neg (by omega)]
      exact h.1
    · show isW (updA g r.toNat (wd n) q) = true
      unfold updA
      split
      · exact isW_wd _
      · exact h.2.2 q hq
  · exact h
theorem good_jump {p : plainT.D} {i : instrT.D} (h : goodP p = true) (hi : isW i.2.2.2.2 = true) : goodP (jumpF p i) = true := by
  unfold jumpF
  split
  · obtain ⟨g, a, o⟩ := p
    have h := (goodP_iff g a o).1 h
    exact (goodP_iff g _ o).2 ⟨h.1, hi, h.2.2⟩
  · exact good_next h
theorem goodI_n {i : instrT.D} (h : goodI i = true) : isW i.2.2.2.2 = true := by
  unfold goodI at h
  rw [Bool.and_eq_true, Bool.and_eq_true, Bool.and_eq_true, Bool.and_eq_true] at h
  exact h.2.2.2.2
theorem off_put (p : plainT.D) (r n : Int) : (putF p r n).2 = p.2 := by
  unfold putF
  split <;> rfl
theorem off_jump (p : plainT.D) (i : instrT.D) : (jumpF p i).2.2 = p.2.2 := by
  unfold jumpF
  split <;> rfl
theorem good_alone {p : plainT.D} {i : instrT.D} (h : goodP p = true) (hi : goodI i = true) (h12 : i.1 ≠ 12) (ho : p.2.2 = false) : goodP (aloneF p i).1 = true ∧ (aloneF p i).1.2.2 = false := by
  unfold aloneF
  rw [if_pos ⟨hi, h⟩, if_neg (by rw [ho]; decide)]
  split
  · exact ⟨good_next (good_put h _ _), by show (putF _ _ _).2.2 = false; rw [off_put]; exact ho⟩
  · split
    · exact ⟨good_next (good_put h _ _), by show (putF _ _ _).2.2 = false; rw [off_put]; exact ho⟩
    · split
      · exact ⟨good_next (good_put h _ _), by show (putF _ _ _).2.2 = false; rw [off_put]; exact ho⟩
      · split
        · exact ⟨good_next (good_put h _ _), by show (putF _ _ _).2.2 = false; rw [off_put]; exact ho⟩
        · split
          · exact ⟨good_jump h (goodI_n hi), (off_jump _ _).trans ho⟩
          · exact ⟨h, ho⟩
theorem isW_get {p : plainT.D} (h : goodP p = true) (r : Int) : isW (getF p r) = true := by
  unfold getF
  split
  · obtain ⟨g, a, o⟩ := p
    exact ((goodP_iff g a o).1 h).2.2 _ (by omega)
  · rfl
theorem fetch_ok (l : List instrT.D) (p : plainT.D) : goodI (fetchF l p) = true := by
  unfold fetchF
  split
  · rename_i h
    exact h.2
  · rfl
end Go.Proofs.Ytjbbgpacijageaa.M
