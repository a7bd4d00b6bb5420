/- Why transactions fail; who works alone. -/
import Derived.Test.YtjbbgpacijageacY1p
namespace Go.Proofs.Ytjbbgpacijageac.M
open Go.RowKit
set_option linter.unusedVariables false
set_option linter.unusedSimpArgs false

section
variable {d : deskT.D} {l : progsT.D} {c : Int}
theorem puts_who {x : deskT.D × Rec} {w n : Int} (hc : 0 ≤ c ∧ c < 2) : ∀ r ∈ (putsF x l c w n).2, r ∈ x.2 ∨ r.2.1 = 1 - c := by
  intro r hr
  unfold putsF at hr
  split at hr
  · rcases List.mem_append.1 hr with h | h
    · exact Or.inl h
    · rw [List.mem_singleton.1 h]
      exact Or.inr (other_eq hc)
  · exact Or.inl hr
theorem all_who (hc : 0 ≤ c ∧ c < 2) : ∀ (ws : List writeT.D) (x : deskT.D × Rec), ∀ r ∈ (putsAll x l c ws).2, r ∈ x.2 ∨ r.2.1 = 1 - c
  | [], x, r, h => Or.inl h
  | w :: ws, x, r, h => by
    rcases all_who hc ws (putsF x l c w.1 w.2) r h with h1 | h1
    · exact puts_who hc r h1
    · exact Or.inr h1
theorem count_who {e : deskT.D} : ∀ r ∈ (countF e c).2, r.1 = 1 := by
  intro r hr
  unfold countF at hr
  split at hr
  · rw [List.mem_singleton.1 hr]
  · cases hr
theorem on_who {e : deskT.D} : ∀ r ∈ (onF e c).2, r.1 = 1 := count_who
theorem one_three {n : Int} (h : n = 1) (h3 : n = 3) : False := by rw [h] at h3; cases h3
theorem stuck_who : ∀ r ∈ (stuckF d l c).2, r.1 = 3 → 0 < (d.1 c.toNat).2.2.1 ∧ r = (3, c, 1003) := by
  intro r hr h3
  unfold stuckF at hr
  split at hr
  · exact ⟨by assumption, List.mem_singleton.1 hr⟩
  · exact (one_three (count_who r hr) h3).elim
def minN (n : Int) : Int := if 1000 < n then 1000 else n
theorem min_rng {n : Int} (h : 0 ≤ n ∧ n ≤ 4294967295) : wrap64 (0 + (if 1000 < n then 1000 else n)) = minN n ∧ 0 ≤ minN n ∧ minN n ≤ 1000 := by
  have h1 : 0 ≤ minN n ∧ minN n ≤ 1000 := by unfold minN; split <;> omega
  refine ⟨?_, h1⟩
  show wrap64 (0 + minN n) = minN n
  rw [wrap_id (by omega)]
  omega
/-- Why one's own transaction fails. -/
def Own (d : deskT.D) (l : progsT.D) (c : Int) (n : Int) : Prop :=
  (n = 1005 ∧ (fetchF (l c.toNat).2 (d.1 c.toNat).1).1 = 9) ∨ n = 1002 ∨
  (n = 1003 ∧ ((fetchF (l c.toNat).2 (d.1 c.toNat).1).1 = 12 ∨ (((fetchF (l c.toNat).2 (d.1 c.toNat).1).1 = 5 ∨ (fetchF (l c.toNat).2 (d.1 c.toNat).1).1 = 6 ∨ (fetchF (l c.toNat).2 (d.1 c.toNat).1).1 = 7) ∧ ¬ wordF (d.1 c.toNat).1 (fetchF (l c.toNat).2 (d.1 c.toNat).1) < 32))) ∨
  ((fetchF (l c.toNat).2 (d.1 c.toNat).1).1 = 11 ∧ n = minN (fetchF (l c.toNat).2 (d.1 c.toNat).1).2.2.2.2 ∧ 0 ≤ n ∧ n ≤ 1000)
theorem oth_no {c : Int} (h : c = 1 - c) : False := by omega
theorem pos_ne {n : Int} (h : 0 < n) : n ≠ 0 := by omega
theorem own_why {nn : Nat} (hc : 0 ≤ c ∧ c < 2) (hg : goodK d = true) : ∀ r ∈ (stepsF nn d l c).2, r.1 = 3 → r.2.1 = c → (d.1 c.toNat).2.2.1 ≠ 0 ∧ Own d l c r.2.2 := by
  intro r hr h3 hrc
  have hk := core_ok hc hg
  have hoth : r.2.1 = 1 - c → False := fun g => oth_no (hrc.symm.trans g)
  unfold stepsF at hr
  split at hr
  · rename_i h9
    rw [List.mem_singleton.1 hr]
    exact ⟨fun h0 => zero_count hk h0 h9, Or.inr (Or.inl rfl)⟩
  · split at hr
    · rename_i h9
      unfold beginF at hr
      split at hr
      · rename_i hd
        rw [List.mem_singleton.1 hr]
        exact ⟨by rw [hd]; decide, Or.inl ⟨rfl, h9⟩⟩
      · exact (one_three (on_who r hr) h3).elim
    · split at hr
      · unfold endF at hr
        split at hr
        · rename_i hd
          exact absurd hd (pos_ne (stuck_who r hr h3).1)
        · split at hr
          · exact (one_three (on_who r hr) h3).elim
          · rcases List.mem_append.1 hr with h | h
            · rcases all_who hc _ _ r h with h1 | h1
              · cases h1
              · exact (hoth h1).elim
            · rw [List.mem_singleton.1 h] at h3
              cases h3
      · split at hr
        · rename_i h11
          unfold giveF at hr
          split at hr
          · rename_i hd
            exact absurd hd (pos_ne (stuck_who r hr h3).1)
          · rename_i hd
            rw [List.mem_singleton.1 hr]
            have hn : 0 ≤ (fetchF (l c.toNat).2 (d.1 c.toNat).1).2.2.2.2 ∧ (fetchF (l c.toNat).2 (d.1 c.toNat).1).2.2.2.2 ≤ 4294967295 := of_decide_eq_true (goodI_n (fetch_ok (l c.toNat).2 (d.1 c.toNat).1))
            obtain ⟨e1, e2, e3⟩ := min_rng hn
            refine ⟨hd, Or.inr (Or.inr (Or.inr ⟨h11, e1, ?_, ?_⟩))⟩
            · show (0 : Int) ≤ wrap64 _
              rw [e1]; exact e2
            · show wrap64 _ ≤ (1000 : Int)
              rw [e1]; exact e3
        · split at hr
          · rename_i hi
            unfold touchT at hr
            split at hr
            · split at hr
              · unfold outF at hr
                split at hr
                · exact (one_three (on_who r hr) h3).elim
                · rcases List.mem_append.1 hr with h | h
                  · rcases puts_who hc r h with h1 | h1
                    · cases h1
                    · exact (hoth h1).elim
                  · exact (one_three (on_who r h) h3).elim
              · rename_i hd
                unfold inF at hr
                split at hr
                · rw [List.mem_singleton.1 hr]
                  exact ⟨hd, Or.inr (Or.inl rfl)⟩
                · exact (one_three (on_who r hr) h3).elim
            · rename_i hw
              obtain ⟨h1, rfl⟩ := stuck_who r hr h3
              exact ⟨pos_ne h1, Or.inr (Or.inr (Or.inl ⟨rfl, Or.inr ⟨hi, hw⟩⟩))⟩
          · unfold aloneT at hr
            split at hr
            · rename_i h12
              obtain ⟨h1, rfl⟩ := stuck_who r hr h3
              exact ⟨pos_ne h1, Or.inr (Or.inr (Or.inl ⟨rfl, Or.inl h12.1⟩))⟩
            · exact (one_three (count_who r hr) h3).elim
end
/-- Why a transaction fails, by what there was. -/
structure WhyOk (d : deskT.D) (l : progsT.D) (a : actT.D) (r : recordT.D) : Prop where
  core : 0 ≤ r.2.1 ∧ r.2.1 < 2
  deep : (d.1 r.2.1.toNat).2.2.1 ≠ 0
  why : (r.2.2 = 1001 ∧ a.1 = 1 ∧ a.2.1 ≠ r.2.1) ∨ (r.2.2 = 1004 ∧ a.1 = 3 ∧ a.2.1 = r.2.1) ∨ (r.2.2 = 1002 ∧ a.1 ≠ 3 ∧ a.2.1 = r.2.1) ∨ (a.1 = 1 ∧ a.2.1 = r.2.1 ∧ Own d l r.2.1 r.2.2)
theorem act_why {nn : Nat} {d : deskT.D} {l : progsT.D} {a : actT.D} (hg : goodK d = true) (h0 : (actF nn d l a).2.2 = 0) : ∀ r ∈ (actF nn d l a).2.1, r.1 = 3 → WhyOk d l a r := by
  intro r hr h3
  unfold actF at hr h0
  split at hr
  · rename_i h1
    rw [if_pos h1] at h0
    rcases (step_ok (nn := nn) (l := l) (c := a.2.1) hg).2 with ⟨g, _⟩ | ⟨_, hc, hS⟩
    · exact absurd h0 g
    · obtain ⟨f, T, q, hl, e, _, hq, _⟩ := hS
      have e' : (stepF nn d l a.2.1).2.1 = othR a.2.1 f ++ q := e
      have hstp : (stepF nn d l a.2.1).2.1 = (stepsF nn d l a.2.1).2 := by
        unfold stepF at h0 ⊢
        split
        · rename_i hr0
          rw [if_pos hr0] at h0
          split
          · rename_i ho
            rw [if_pos ho] at h0
            cases h0
          · rfl
        · rename_i hr0
          rw [if_neg hr0] at h0
          exact absurd h0 hr0
      by_cases hrc : r.2.1 = a.2.1
      · obtain ⟨g1, g2⟩ := own_why (nn := nn) (l := l) hc hg r (by rw [← hstp]; exact hr) h3 hrc
        exact ⟨by rw [hrc]; exact hc, by rw [hrc]; exact g1, Or.inr (Or.inr (Or.inr ⟨h1, hrc.symm, by rw [hrc]; exact g2⟩))⟩
      · rw [e'] at hr
        rcases List.mem_append.1 hr with g | g
        · unfold othR at g
          split at g
          · rename_i hf
            have hr1 := List.mem_singleton.1 g
            rcases hl.oth with ⟨g1, _⟩ | ⟨_, g2, _⟩
            · rw [hf] at g1; cases g1
            · subst hr1
              refine ⟨⟨?_, ?_⟩, g2, Or.inl ⟨rfl, h1, ?_⟩⟩
              · show (0 : Int) ≤ 1 - a.2.1
                have := hc.2
                exact Int.sub_nonneg_of_le (Int.le_of_lt_add_one this)
              · show (1 : Int) - a.2.1 < 2
                exact Int.lt_of_le_of_lt (Int.sub_le_self 1 hc.1) (by decide)
              · exact fun g => hrc g.symm
          · cases g
        · exact absurd (hq r g) hrc
  · rename_i h1
    rw [if_neg h1] at h0
    split at hr
    · rename_i h2
      rw [if_pos h2] at h0
      unfold evictF at hr h0
      split at hr
      · rename_i hr0
        have hc := (ref_ok hr0).2
        split at hr
        · rename_i hw
          split at hr
          · rename_i hrd
            rw [List.mem_singleton.1 hr]
            refine ⟨hc, fun g => ?_, Or.inr (Or.inr (Or.inl ⟨rfl, fun g => ?_, rfl⟩))⟩
            · have h3 := ((core_ok hc hg).out g).2.2.2
              have hwn : a.2.2.toNat < 4 := by
                have a1 := hw.1
                have a2 := hw.2
                exact (Int.toNat_lt a1).2 a2
              have : anyRead (d.1 a.2.1.toNat) = true := (any_iff _).2 ⟨a.2.2.toNat, hwn, hrd⟩
              rw [h3] at this
              cases this
            · rw [h2] at g
              cases g
          · cases hr
        · cases hr
      · cases hr
    · rename_i h2
      rw [if_neg h2] at h0
      split at hr
      · rename_i h3'
        unfold kickF at hr
        split at hr
        · rename_i hr0
          split at hr
          · rename_i hd
            rw [List.mem_singleton.1 hr]
            exact ⟨(ref_ok hr0).2, pos_ne hd, Or.inr (Or.inl ⟨rfl, h3', rfl⟩)⟩
          · cases hr
        · cases hr
      · cases hr
end Go.Proofs.Ytjbbgpacijageac.M
