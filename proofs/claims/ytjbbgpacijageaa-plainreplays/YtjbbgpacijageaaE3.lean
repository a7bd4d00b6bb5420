/- Cores and memories stay good. -/
import Derived.Test.YtjbbgpacijageaaE2
import Derived.Test.YtjbbgpacijageaaD3
namespace Go.Proofs.Ytjbbgpacijageaa.M
open Go.RowKit
set_option linter.unusedVariables false
set_option linter.unusedSimpArgs false

theorem goodM_iff (m : Nat → Int) : goodM m = true ↔ ∀ k, k < 32 → isW (m k) = true := by
  unfold goodM
  rw [List.all_eq_true]
  constructor
  · intro h k hk
    exact h (m k) (by simp only [ownL, List.mem_map, List.mem_range]; exact ⟨k, hk, by rw [Nat.zero_add]⟩)
  · intro h z hz
    simp only [ownL, List.mem_map, List.mem_range] at hz
    obtain ⟨k, hk, rfl⟩ := hz
    rw [Nat.zero_add]
    exact h k hk
theorem good_touch {s : stT.D} {i : instrT.D} (h : goodP s.1 = true) (hm : goodM s.2 = true) (ho : s.1.2.2 = false) : goodP (touchF s i).1.1 = true ∧ goodM (touchF s i).1.2 = true ∧ (touchF s i).1.1.2.2 = false := by
  unfold touchF
  split
  · refine ⟨good_next ?_, ?_, ?_⟩
    · split
      · exact good_put h _ _
      · exact h
    · show goodM (if i.1 ≠ 5 then updA s.2 (wordF s.1 i).toNat (getF s.1 i.2.1) else s.2) = true
      split
      · rw [goodM_iff] at hm ⊢
        intro k hk
        unfold updA
        split
        · exact isW_get h _
        · exact hm k hk
      · exact hm
    · show (nextF (if i.1 ≠ 6 then putF s.1 i.2.1 (s.2 (wordF s.1 i).toNat) else s.1)).2.2 = false
      split
      · show (putF _ _ _).2.2 = false
        rw [off_put]; exact ho
      · exact ho
  · exact ⟨h, hm, ho⟩
theorem good_done {s : stT.D} {i : instrT.D} (h : goodP s.1 = true) (hm : goodM s.2 = true) (hi : goodI i = true) (h12 : i.1 ≠ 12) (ho : s.1.2.2 = false) : goodP (doneF s i).1.1 = true ∧ goodM (doneF s i).1.2 = true ∧ (doneF s i).1.1.2.2 = false := by
  unfold doneF
  split
  · exact good_touch h hm ho
  · exact ⟨(good_alone h hi h12 ho).1, hm, (good_alone h hi h12 ho).2⟩
theorem good_inside {s : stT.D} {i : instrT.D} {deep : Int} (h : goodP s.1 = true) (hm : goodM s.2 = true) (hi : goodI i = true) (ho : s.1.2.2 = false) : goodP (insideF s i deep).1.1 = true ∧ goodM (insideF s i deep).1.2 = true ∧ (insideF s i deep).1.1.2.2 = false := by
  unfold insideF
  split
  · exact ⟨good_next h, hm, ho⟩
  · split
    · exact ⟨good_next h, hm, ho⟩
    · split
      · exact ⟨h, hm, ho⟩
      · rename_i h12
        exact good_done h hm hi (fun g => h12 (Or.inr g)) ho
end Go.Proofs.Ytjbbgpacijageaa.M
