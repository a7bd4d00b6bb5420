/- What a core has read is as it was, as long as it is read. -/
import Derived.Test.YtjbbgpacijageacUM
import Derived.Test.YtjbbgpacijageacB2
namespace Go.Proofs.Ytjbbgpacijageac.M
open Go.RowKit
set_option linter.unusedVariables false
set_option linter.unusedSimpArgs false

/-- A turn of a core that leaves it in a transaction tells of nothing but failures. -/
def Dp (c : Int) (x : deskT.D × Rec) : Prop := ∀ r ∈ x.2, r.1 = (3 : Int) ∨ (x.1.1 c.toNat).2.2.1 = (0 : Int)
section
variable {c : Int} {d : deskT.D} {l : progsT.D}
theorem dp_count (d : deskT.D) (c : Int) : Dp c (countF d c) := by
  unfold countF
  split
  · rename_i h
    exact fun r _ => Or.inr h
  · exact fun r hr => by cases hr
theorem dp_on (d : deskT.D) (c : Int) : Dp c (onF d c) := dp_count _ _
theorem dp_fail (why : Int) : Dp c (failD d l c why) := fun r hr => Or.inl (by rw [List.mem_singleton.1 hr])
theorem dp_stuck : Dp c (stuckF d l c) := by
  unfold stuckF
  split
  · exact dp_fail _
  · exact dp_count _ _
theorem dp_begin : Dp c (beginF d l c) := by
  unfold beginF
  split
  · exact dp_fail _
  · exact dp_on _ _
theorem dp_give (n : Int) : Dp c (giveF d l c n) := by
  unfold giveF
  split
  · exact dp_stuck
  · exact dp_fail _
theorem dp_alone (i : instrT.D) : Dp c (aloneT d l c i) := by
  unfold aloneT
  split
  · exact dp_stuck
  · exact dp_count _ _
theorem dp_in (nn : Nat) (i : instrT.D) (word : Int) : Dp c (inF nn d l c i word) := by
  unfold inF
  split
  · exact dp_fail _
  · exact dp_on _ _
theorem dp_then {x : deskT.D × Rec} (hx : ∀ r ∈ x.2, r.1 = (3 : Int)) : Dp c (thenOn x c) := fun r hr => by
  rcases List.mem_append.1 hr with h | h
  · exact Or.inl (hx r h)
  · exact dp_on x.1 c r h
theorem puts_3 {x : deskT.D × Rec} {word n : Int} (hx : ∀ r ∈ x.2, r.1 = (3 : Int)) : ∀ r ∈ (putsF x l c word n).2, r.1 = (3 : Int) := by
  unfold putsF
  split
  · intro r hr
    rcases List.mem_append.1 hr with h | h
    · exact hx r h
    · rw [List.mem_singleton.1 h]
  · exact hx
theorem dp_out (i : instrT.D) (word : Int) : Dp c (outF d l c i word) := by
  unfold outF
  split
  · exact dp_on _ _
  · exact dp_then (puts_3 fun r hr => by cases hr)
theorem dp_touch (nn : Nat) (i : instrT.D) : Dp c (touchT nn d l c i) := by
  unfold touchT
  split
  · split
    · exact dp_out _ _
    · exact dp_in _ _ _
  · exact dp_stuck
theorem all_core (hc : 0 ≤ c ∧ c < 2) (l : progsT.D) : ∀ (ws : List writeT.D) (d : deskT.D) (rs : Rec), goodK d = true → (∀ w ∈ ws, (0 ≤ w.1 ∧ w.1 < 32) ∧ (0 ≤ w.2 ∧ w.2 ≤ 4294967295)) →
    sameX ((putsAll (d, rs) l c ws).1.1 c.toNat) (d.1 c.toNat)
  | [], d, rs, hg, _ => ⟨rfl, rfl⟩
  | w :: ws, d, rs, hg, hw => by
    obtain ⟨f, h1, _, e1⟩ := lk_puts hc hg rs l (hw w List.mem_cons_self).1 (hw w List.mem_cons_self).2
    have e2 := all_core hc l ws (putsF (d, rs) l c w.1 w.2).1 (putsF (d, rs) l c w.1 w.2).2 h1.good fun x hx => hw x (List.mem_cons_of_mem _ hx)
    exact ⟨e2.1.trans e1.1, e2.2.trans e1.2⟩
theorem dp_end (hc : 0 ≤ c ∧ c < 2) (hg : goodK d = true) : Dp c (endF d l c) := by
  have hk := core_ok hc hg
  unfold endF
  split
  · exact dp_stuck
  · rename_i h0
    split
    · exact dp_on _ _
    · have h2 : Lk c d (endedD d c) false noT := lk_set hc hg (free_ok (good_next hk.now)) (sameL_freed (goodK_D hg))
      have h3 := all_core hc l (wsOf d c) (endedD d c) [] h2.good fun w hw => ws_mem ((hk.ins h0).2.2.2.2) w hw
      intro r _
      refine Or.inr ?_
      have h4 : ((putsAll (endedD d c, []) l c (wsOf d c)).1.1 c.toNat).2.2.1 = ((endedD d c).1 c.toNat).2.2.1 := congrArg (fun y => y.1) h3.2
      refine h4.trans ?_
      rw [show (endedD d c).1 c.toNat = _ from set_at _ _ _]
      rfl
theorem dp_steps {nn : Nat} (hc : 0 ≤ c ∧ c < 2) (hg : goodK d = true) : Dp c (stepsF nn d l c) := by
  unfold stepsF
  split
  · exact dp_fail _
  · split
    · exact dp_begin
    · split
      · exact dp_end hc hg
      · split
        · exact dp_give _
        · split
          · exact dp_touch _ _
          · exact dp_alone _
theorem dp_step {nn : Nat} (hg : goodK d = true) : Dp c ((stepF nn d l c).1, (stepF nn d l c).2.1) := by
  unfold stepF
  by_cases h : refF d c = 0
  · rw [if_pos h]
    split
    · exact fun r hr => by cases hr
    · exact dp_steps (ref_ok h).2 hg
  · rw [if_neg h]
    exact fun r hr => by cases hr

/-- A line that is there has the words of the memory as it is. -/
theorem val2_line {s L s' L' : Int} {x x' m : Nat → Int} {r r' : Bool} {w n j : Nat} (h : OkC s L x r s' L' m w) (h' : OkC s' L' x' r' s L m w) (hs : s ≠ 0) (hL : L = (n : Int)) (hj : j < 2) :
    val2 s L x s' L' x' m (2 * n + j) = x j ∧ val2 s' L' x' s L x m (2 * n + j) = x j := by
  subst hL
  rcases h with ⟨h0, _⟩ | ⟨a1, a2, a3, a4, a5, _, _, a6, a7⟩
  · exact absurd h0 hs
  have e2 : (2 * n + j) / 2 = n := by omega
  have e3 : (2 * n + j) % 2 = j := by omega
  have ho : ¬ (s' = 3 ∧ L' = ((n : Nat) : Int)) := fun ⟨g1, g2⟩ => by
    rcases h' with ⟨h0, _⟩ | ⟨_, _, _, _, _, _, _, _, b7⟩
    · omega
    · rcases b7 (by omega) with h | h
      · exact hs h
      · exact h g2.symm
  have hm : s ≤ 2 → m (2 * n + j) = x j := fun h => by
    obtain ⟨b0, b1⟩ := a6 h
    rcases (by omega : j = 0 ∨ j = 1) with rfl | rfl
    · exact b0.symm
    · exact b1.symm
  unfold val2
  rw [e2, e3, if_neg ho, if_neg ho]
  by_cases h3 : s = 3
  · rw [if_pos ⟨h3, rfl⟩]
    exact ⟨rfl, rfl⟩
  · rw [if_neg (fun g => h3 g.1), hm (by omega)]
    exact ⟨rfl, rfl⟩
theorem val_line {d : deskT.D} (hg : goodD d = true) {k w : Nat} (hk : k < 2) (hw : w < 4) (hs : (lineAt d k w).1 ≠ (0 : Int)) {j : Nat} (hj : j < 2) :
    valF d ((2 * Int.toNat (lineAt d k w).2.1 + j : Nat) : Int) = (lineAt d k w).2.2.1 j := by
  obtain ⟨_, g2, g3⟩ := good_line hg hk hw hs
  obtain ⟨n, hn⟩ : ∃ n : Nat, (lineAt d k w).2.1 = (n : Int) := ⟨_, (Int.toNat_of_nonneg g2.1).symm⟩
  rw [hn] at g2 g3
  have hn16 : n < 16 := by omega
  have hnw : n % 4 = w := by
    rw [Int.tmod_eq_emod_of_nonneg (by omega)] at g3
    omega
  rw [show Int.toNat (lineAt d k w).2.1 = n from by rw [hn]; rfl, val_eq d _ (by omega), show (2 * n + j) / 2 % 4 = w from by omega]
  have h1 := ((good_iff d).1 hg).2 0 (by omega) w hw
  have h2 := ((good_iff d).1 hg).2 1 (by omega) w hw
  rcases (by omega : k = 0 ∨ k = 1) with rfl | rfl
  · exact (val2_line h1 h2 hs hn hj).1
  · exact (val2_line h2 h1 hs hn hj).2
theorem rd_deep (hg : goodK d = true) {k w : Nat} (hk : k < 2) (hw : w < 4) (hr : rdAt d k w = true) : (d.1 k).2.2.1 ≠ (0 : Int) := fun h0 => by
  have h3 := ((((goodK_iff d).1 hg).1 k hk).out h0).2.2.2
  have : anyRead (d.1 k) = true := (any_iff _).2 ⟨w, hw, hr⟩
  rw [h3] at this
  cases this
theorem rd_hold {o n : Int} (ho : 0 ≤ o ∧ o < 2) (hn : 0 ≤ n ∧ n < 16) (hd : (d.1 o.toNat).2.2.1 ≠ 0) (hh : hasL (lineAt d o.toNat (wayOf n)) n = true) (hr : rdAt d o.toNat (wayOf n) = true) : holdsF d o n = true := by
  unfold holdsF
  rw [if_pos ⟨ho, hd⟩, find_eq ho hn]
  show (hasL (lineAt d o.toNat (wayOf n)) n && rdAt d o.toNat (wayOf n) || _) = true
  rw [hh, hr]
  rfl
/-- Behind a turn, the words of a line that a core has read are as they were. -/
theorem sk_seen {x : deskT.D × Rec} (hc : 0 ≤ c ∧ c < 2) (h : Sk c d x) (hp : Dp c x) {k w : Nat} (hk : k < 2) (hw : w < 4) (hr : rdAt x.1 k w = true) {j : Nat} (hj : j < 2) :
    valF x.1 ((2 * Int.toNat (lineAt x.1 k w).2.1 + j : Nat) : Int) = valF d ((2 * Int.toNat (lineAt x.1 k w).2.1 + j : Nat) : Int) := by
  obtain ⟨f, T, q, h1, h2, _, h4, h5⟩ := h
  refine h1.val _ ?_
  have hd := rd_deep h1.good hk hw hr
  by_cases hkc : k = c.toNat
  · refine h5 (fun r hr => ?_) _
    rcases hp r (by rw [h2]; exact List.mem_append_right _ hr) with g | g
    · exact g
    · rw [hkc] at hd
      exact absurd g hd
  · intro hT
    have hk1 : k = (1 - c).toNat := by omega
    have hs := good_nz (goodK_D h1.good) k w hk hw hr
    obtain ⟨_, g2, g3⟩ := good_line (goodK_D h1.good) hk hw hs
    obtain ⟨n, hn⟩ : ∃ n : Nat, (lineAt x.1 k w).2.1 = (n : Int) := ⟨_, (Int.toNat_of_nonneg g2.1).symm⟩
    have hwy : wayOf ((lineAt x.1 k w).2.1) = w := by
      unfold wayOf
      rw [g3]
      rfl
    have hh : holdsF x.1 (1 - c) (lineAt x.1 k w).2.1 = true := by
      refine rd_hold (by omega) g2 (by rw [← hk1]; exact hd) ?_ ?_
      · rw [← hk1, hwy]
        exact decide_eq_true ⟨hs, rfl⟩
      · rw [← hk1, hwy]
        exact hr
    refine (h1.hold _ hh).2 _ hT ?_
    rw [hn] at g2
    rw [show Int.toNat (lineAt x.1 k w).2.1 = n from by rw [hn]; rfl, lineOf_nat (by omega), show (2 * n + j) / 2 = n from by omega, hn]
theorem evict_val {way : Int} (hg : goodK d = true) {k : Nat} (hk : k < 32) : valF (evictF d l c way).1 (k : Int) = valF d (k : Int) := by
  unfold evictF
  split
  · rename_i h
    have hc := (ref_ok h).2
    split
    · rename_i hw
      split
      · rename_i hr
        have h1 := lk_failc hc hg (rd_deep hg (k := c.toNat) (w := way.toNat) (by omega) (by omega) hr) l 1002
        exact ((dropF_ok (goodK_D h1.good) c way).2 k hk).trans (h1.val _ id)
      · exact (dropF_ok (goodK_D hg) c way).2 k hk
    · rfl
  · rfl
theorem kick_val (hg : goodK d = true) (k : Int) : valF (kickF d l c).1 k = valF d k := by
  unfold kickF
  split
  · rename_i h
    have hc := (ref_ok h).2
    split
    · rename_i h0
      exact (lk_failc hc hg (fun e => by rw [e] at h0; exact absurd h0 (by decide)) l 1004).val _ id
    · rfl
  · rfl
theorem act_goodK {nn : Nat} {a : actT.D} (hg : goodK d = true) : goodK (actF nn d l a).1 = true := by
  unfold actF
  split
  · exact (step_ok hg).1
  · split
    · exact evict_ok hg
    · split
      · exact kick_ok hg
      · exact hg
/-- Whoever runs a transaction sees one memory. -/
theorem act_seen {nn : Nat} {a : actT.D} (hg : goodK d = true) {k w : Nat} (hk : k < 2) (hw : w < 4) (h1 : rdAt d k w = true) (h2 : rdAt (actF nn d l a).1 k w = true)
    (hl : (lineAt (actF nn d l a).1 k w).2.1 = (lineAt d k w).2.1) {j : Nat} (hj : j < 2) : (lineAt (actF nn d l a).1 k w).2.2.1 j = (lineAt d k w).2.2.1 j := by
  have hE := act_goodK (nn := nn) (l := l) (a := a) hg
  have hs := good_nz (goodK_D hE) k w hk hw h2
  obtain ⟨_, g2, g3⟩ := good_line (goodK_D hE) hk hw hs
  rw [← val_line (goodK_D hE) hk hw hs hj, ← val_line (goodK_D hg) hk hw (good_nz (goodK_D hg) k w hk hw h1) hj, ← hl]
  have h32 : 2 * Int.toNat (lineAt (actF nn d l a).1 k w).2.1 + j < 32 := by omega
  generalize hq : 2 * Int.toNat (lineAt (actF nn d l a).1 k w).2.1 + j = q at h32 ⊢
  unfold actF at hq h2 ⊢
  split
  · rename_i ha
    rw [if_pos ha] at hq h2
    rcases (step_ok (nn := nn) (l := l) (c := a.2.1) hg).2 with ⟨_, e⟩ | ⟨_, hc, hsk⟩
    · rw [e]
    · have := sk_seen hc hsk (dp_step hg) hk hw h2 hj
      rw [← hq]
      exact this
  · split
    · exact evict_val hg h32
    · split
      · exact kick_val hg _
      · rfl
end
end Go.Proofs.Ytjbbgpacijageac.M
