/- Desks: writes that are held back. -/
import Derived.Test.YtjbbgpacijageabH5
namespace Go.Proofs.Ytjbbgpacijageab.M
open Go.RowKit
set_option linter.unusedVariables false
set_option linter.unusedSimpArgs false

theorem atW_neg (l : List writeT.D) (word : Int) : atW l word < 0 ↔ ∀ j, j < l.length → (nthD writeT l j).1 ≠ word := by
  constructor
  · intro h j hj hw
    unfold atW at h
    split at h
    · omega
    · rename_i hn
      rw [List.findIdx?_eq_none_iff] at hn
      have := hn (l[j]) (List.getElem_mem hj)
      rw [nthD_eq hj] at hw
      simp [hw] at this
  · intro h
    rw [atW_none h]
    decide
theorem atW_at {l : List writeT.D} {word : Int} (h : 0 ≤ atW l word) : (atW l word).toNat < l.length ∧ (nthD writeT l (atW l word).toNat).1 = word := by
  unfold atW at h ⊢
  split
  · rename_i k hk
    obtain ⟨h1, h2, _⟩ := List.findIdx?_eq_some_iff_getElem.1 hk
    refine ⟨by simpa using h1, ?_⟩
    rw [show ((k : Int)).toNat = k from by omega, nthD_eq h1]
    simpa using h2
  · rename_i hk
    rw [hk] at h
    exact absurd h (by decide)
theorem nth_take {l : List writeT.D} {k j : Nat} (h : j < k) : nthD writeT (l.take k) j = nthD writeT l j := by
  unfold nthD
  rw [List.getElem?_take, if_pos h]
theorem ws_iff (l : List writeT.D) : goodWs l = true ↔ l.length ≤ 4 ∧ ∀ k, k < l.length → ((0 ≤ (nthD writeT l k).1 ∧ (nthD writeT l k).1 < 32) ∧ isW (nthD writeT l k).2 = true) ∧ ∀ j, j < k → (nthD writeT l j).1 ≠ (nthD writeT l k).1 := by
  unfold goodWs
  rw [and2, decide_eq_true_iff, List.all_eq_true]
  refine and_congr_right fun hl => ⟨fun h k hk => ?_, fun h k hk => ?_⟩
  · have := h k (List.mem_range.2 hk)
    unfold okW isB at this
    rw [and2, and2, decide_eq_true_iff, decide_eq_true_iff, atW_neg] at this
    refine ⟨⟨this.1, this.2.1⟩, fun j hj => ?_⟩
    have h3 := this.2.2 j (by rw [List.length_take]; omega)
    rwa [nth_take hj] at h3
  · obtain ⟨⟨h1, h2⟩, h3⟩ := h k (List.mem_range.1 hk)
    unfold okW isB
    rw [and2, and2, decide_eq_true_iff, decide_eq_true_iff, atW_neg]
    refine ⟨h1, h2, fun j hj => ?_⟩
    have hj : j < k := by rw [List.length_take] at hj; omega
    rw [nth_take hj]
    exact h3 j hj
theorem nth_app {l : List writeT.D} {w : writeT.D} (j : Nat) : nthD writeT (l ++ [w]) j = if j = l.length then w else nthD writeT l j := by
  unfold nthD
  rcases Nat.lt_trichotomy j l.length with h | h | h
  · rw [List.getElem?_append_left h, if_neg (by omega)]
  · rw [if_pos h, h, List.getElem?_append_right (Nat.le_refl _), Nat.sub_self]
    rfl
  · rw [if_neg (by omega), List.getElem?_append_right (by omega), List.getElem?_eq_none (show [w].length ≤ j - l.length from by show 1 ≤ _; omega), List.getElem?_eq_none (by omega)]
theorem nth_set {l : List writeT.D} {w : writeT.D} {a : Nat} (ha : a < l.length) (j : Nat) : nthD writeT (l.set a w) j = if j = a then w else nthD writeT l j := by
  unfold nthD
  rw [List.getElem?_set]
  by_cases h : a = j
  · rw [if_pos h, if_pos h.symm, if_pos (by omega)]
    rfl
  · rw [if_neg h, if_neg (fun g => h g.symm)]
theorem ws_held {l : List writeT.D} {word n : Int} (h : goodWs l = true) (hw : 0 ≤ word ∧ word < 32) (hn : isW n = true) (hr : atW l word < 0 → l.length < 4) : goodWs (heldL l (word, n)) = true := by
  rw [ws_iff] at h ⊢
  unfold heldL
  split
  · rename_i h0
    have h0 : atW l word < 0 := h0
    have hl := hr h0
    rw [atW_neg] at h0
    rw [List.length_append]
    refine ⟨(by show l.length + 1 ≤ 4; omega), fun k hk => ?_⟩
    have hk : k < l.length + 1 := hk
    rw [nth_app]
    by_cases he : k = l.length
    · rw [if_pos he]
      refine ⟨⟨hw, hn⟩, fun j hj => ?_⟩
      rw [nth_app, if_neg (by omega)]
      exact h0 j (by omega)
    · rw [if_neg he]
      refine ⟨(h.2 k (by omega)).1, fun j hj => ?_⟩
      rw [nth_app, if_neg (by omega)]
      exact (h.2 k (by omega)).2 j hj
  · rename_i h0
    have h0 : ¬ atW l word < 0 := h0
    obtain ⟨a1, a2⟩ := atW_at (l := l) (word := word) (by omega)
    rw [List.length_set]
    refine ⟨h.1, fun k hk => ?_⟩
    have key : ∀ j, (nthD writeT (l.set (atW l word).toNat (word, n)) j).1 = (nthD writeT l j).1 := fun j => by
      rw [nth_set a1]
      split
      · rename_i e
        rw [e, a2]
      · rfl
    have h1 := h.2 k hk
    refine ⟨⟨?_, ?_⟩, fun j hj => ?_⟩
    · show 0 ≤ (nthD writeT (l.set (atW l word).toNat (word, n)) k).1 ∧ (nthD writeT (l.set (atW l word).toNat (word, n)) k).1 < 32
      rw [key]
      exact h1.1.1
    · show isW (nthD writeT (l.set (atW l word).toNat (word, n)) k).2 = true
      rw [nth_set a1]
      split
      · exact hn
      · exact h1.1.2
    · show (nthD writeT (l.set (atW l word).toNat (word, n)) j).1 ≠ (nthD writeT (l.set (atW l word).toNat (word, n)) k).1
      rw [key, key]
      exact h1.2 j hj
theorem ws_mem {l : List writeT.D} (h : goodWs l = true) (w : writeT.D) (hw : w ∈ l) : (0 ≤ w.1 ∧ w.1 < 32) ∧ (0 ≤ w.2 ∧ w.2 ≤ 4294967295) := by
  obtain ⟨k, hk, rfl⟩ := List.getElem_of_mem hw
  have := (((ws_iff l).1 h).2 k hk).1
  rw [nthD_eq hk] at this
  exact ⟨this.1, of_decide_eq_true this.2⟩
end Go.Proofs.Ytjbbgpacijageab.M
