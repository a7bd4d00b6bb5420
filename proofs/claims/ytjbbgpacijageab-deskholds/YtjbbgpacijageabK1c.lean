/- Desks whose caches are in order: what Drop, Share, Own and Write make of them. -/
import Derived.Test.YtjbbgpacijageabK1b
namespace Go.Proofs.Ytjbbgpacijageab.M
open Go.RowKit
set_option linter.unusedVariables false
set_option linter.unusedSimpArgs false

/-- Both lines at a way are in order, and what is so of the rest. -/
structure Loc (d d' : deskT.D) (c w : Nat) : Prop where
  far : ∀ c', c' < 2 → ∀ w', w' < 4 → w' ≠ w → lineAt d' c' w' = lineAt d c' w'
  mem : ∀ k, k < 32 → k / 2 % 4 ≠ w → d'.2 k = d.2 k
  wd : ∀ k, k < 32 → Wd (d'.2 k)
  own : OkW d' c (1 - c) w
  beside : OkW d' (1 - c) c w
theorem Loc.good {d d' : deskT.D} {c w : Nat} (hc : c < 2) (hg : goodD d = true) (h : Loc d d' c w) : goodD d' = true := by
  obtain ⟨g1, g2⟩ := (good_iff d).1 hg
  refine (good_iff d').2 ⟨h.wd, fun c' hc' w' hw' => ?_⟩
  by_cases hw : w' = w
  · subst hw
    by_cases e : c' = c
    · subst e; exact h.own
    · have e1 : c' = 1 - c := by omega
      have e2 : 1 - c' = c := by omega
      rw [e2, e1]; exact h.beside
  · have := g2 c' hc' w' hw'
    unfold OkW at this ⊢
    rw [h.far c' hc' w' hw' hw, h.far (1 - c') (by omega) w' hw' hw]
    refine this.other (fun h0 hs k hk => h.mem k ?_ ?_) this.excl
    · have := this.rng h0; omega
    · have := this.rng h0; omega
/-- The words are as they were, if those of that way are. -/
theorem Loc.val {d d' : deskT.D} {c w : Nat} (hc : c < 2) (hg : goodD d = true) (h : Loc d d' c w) {k : Nat} (hk : k < 32) (hv : k / 2 % 4 = w → valW d' c (1 - c) w k = valW d c (1 - c) w k) : valF d' (k : Int) = valF d (k : Int) := by
  obtain ⟨g1, g2⟩ := (good_iff d).1 hg
  rw [val_eq d' k hk, val_eq d k hk]
  by_cases hw : k / 2 % 4 = w
  · rw [hw]
    have hv := hv hw
    have : c = 0 ∨ c = 1 := by omega
    rcases this with rfl | rfl
    · exact hv
    · have e1 := val_comm (x := (lineAt d' 1 w).2.2.1) (x' := (lineAt d' 0 w).2.2.1) (k := k) h.own
      have e2 := val_comm (x := (lineAt d 1 w).2.2.1) (x' := (lineAt d 0 w).2.2.1) (k := k) (g2 1 (by omega) w (by omega))
      exact e1.symm.trans (hv.trans e2)
  · unfold valW
    rw [h.far 0 (by omega) _ (by omega) hw, h.far 1 (by omega) _ (by omega) hw]
    unfold val2
    rw [h.mem k hk hw]
theorem goBack_gb (m : Nat → Int) (l : lineT.D) : goBackF m l = gb l.1 l.2.1 l.2.2.1 m := rfl

section
variable {d : deskT.D} {c w : Nat}
theorem drop_loc (hg : goodD d = true) (hc : c < 2) (hw : w < 4) : Loc d (dropD d c w) c w ∧ lineAt (dropD d c w) c w = lineT.zero ∧ lineAt (dropD d c w) (1 - c) w = lineAt d (1 - c) w ∧ ∀ k : Nat, k < 32 → valF (dropD d c w) (k : Int) = valF d (k : Int) := by
  obtain ⟨g1, g2⟩ := (good_iff d).1 hg
  have ho := g2 c hc w hw
  have hb : OkW d (1 - c) c w := by
    have := g2 (1 - c) (by omega) w hw
    rwa [show 1 - (1 - c) = c from by omega] at this
  have e1 : lineAt (dropD d c w) c w = lineT.zero := line_set_same (d := d)
  have e2 : lineAt (dropD d c w) (1 - c) w = lineAt d (1 - c) w := line_set_other (d := d) (Or.inl (by omega))
  have hl : Loc d (dropD d c w) c w := by
    refine ⟨fun c' hc' w' hw' hne => line_set_other (d := d) (Or.inr hne), fun k hk hf => gb_far ho hf, gb_wd ho g1, ?_, ?_⟩
    · unfold OkW; rw [e1]; exact OkC.zero
    · unfold OkW; rw [e1, e2]; exact drop_ok ho hb
  refine ⟨hl, e1, e2, fun k hk => hl.val hc hg hk fun hkw => ?_⟩
  unfold valW
  rw [e1, e2]
  exact drop_val ho k

theorem take_loc (hg : goodD d = true) (hc : c < 2) {n : Int} (hn : 0 ≤ n ∧ n < 16) (hw : n % 4 = (w : Int)) (h0 : lineAt d c w = lineT.zero) :
    Loc d (takeD d c w n) c w ∧ lineAt (takeD d c w n) c w = ((if hasL (lineAt d (1 - c) w) n = true then 1 else 2), n, memL (takeD d c w n).2 n, false) ∧ ∀ k : Nat, k < 32 → valF (takeD d c w n) (k : Int) = valF d (k : Int) := by
  have hw4 : w < 4 := by omega
  obtain ⟨g1, g2⟩ := (good_iff d).1 hg
  have hb : OkW d (1 - c) c w := by
    have := g2 (1 - c) (by omega) w hw4
    rwa [show 1 - (1 - c) = c from by omega] at this
  have hb : OkC (lineAt d (1 - c) w).1 (lineAt d (1 - c) w).2.1 (lineAt d (1 - c) w).2.2.1 (lineAt d (1 - c) w).2.2.2 0 0 d.2 w := by
    have := hb
    unfold OkW at this
    rw [h0] at this
    exact this
  unfold takeD
  by_cases hh : hasL (lineAt d (1 - c) w) n = true
  · have hh' : (lineAt d (1 - c) w).1 ≠ 0 ∧ (lineAt d (1 - c) w).2.1 = n := of_decide_eq_true hh
    simp only [if_pos hh]
    obtain ⟨o1, o2⟩ := take_both g1 hb hn hw hh'.1 hh'.2
    have e1 : lineAt (setLine (setLine (setMem d (goBackF d.2 (lineAt d (1 - c) w))) (1 - c) w (1, (lineAt d (1 - c) w).2)) c w (1, n, memL (goBackF d.2 (lineAt d (1 - c) w)) n, false)) c w = (1, n, memL (goBackF d.2 (lineAt d (1 - c) w)) n, false) := line_set_same
    have e2 : lineAt (setLine (setLine (setMem d (goBackF d.2 (lineAt d (1 - c) w))) (1 - c) w (1, (lineAt d (1 - c) w).2)) c w (1, n, memL (goBackF d.2 (lineAt d (1 - c) w)) n, false)) (1 - c) w = (1, (lineAt d (1 - c) w).2) := (line_set_other (Or.inl (by omega))).trans line_set_same
    have hl : Loc d (setLine (setLine (setMem d (goBackF d.2 (lineAt d (1 - c) w))) (1 - c) w (1, (lineAt d (1 - c) w).2)) c w (1, n, memL (goBackF d.2 (lineAt d (1 - c) w)) n, false)) c w := by
      refine ⟨fun c' hc' w' hw' hne => (line_set_other (Or.inr hne)).trans (line_set_other (d := setMem d (goBackF d.2 (lineAt d (1 - c) w))) (Or.inr hne)), fun k hk hf => gb_far hb hf, gb_wd hb g1, ?_, ?_⟩
      · unfold OkW; rw [e1, e2]; exact o1
      · unfold OkW; rw [e1, e2]; exact o2
    refine ⟨hl, e1, fun k hk => hl.val hc hg hk fun hkw => ?_⟩
    unfold valW
    rw [e1, e2, h0]
    exact take_both_val hb k
  · have hh' : ¬ ((lineAt d (1 - c) w).1 ≠ 0 ∧ (lineAt d (1 - c) w).2.1 = n) := fun g => hh (decide_eq_true g)
    simp only [if_neg hh]
    obtain ⟨o1, o2⟩ := take_alone g1 hb hn hw hh'
    have e1 : lineAt (setLine d c w (2, n, memL d.2 n, false)) c w = (2, n, memL d.2 n, false) := line_set_same
    have e2 : lineAt (setLine d c w (2, n, memL d.2 n, false)) (1 - c) w = lineAt d (1 - c) w := line_set_other (Or.inl (by omega))
    have hl : Loc d (setLine d c w (2, n, memL d.2 n, false)) c w := by
      refine ⟨fun c' hc' w' hw' hne => line_set_other (Or.inr hne), fun k hk hf => rfl, g1, ?_, ?_⟩
      · unfold OkW; rw [e1, e2]; exact o1
      · unfold OkW; rw [e1, e2]; exact o2
    refine ⟨hl, e1, fun k hk => hl.val hc hg hk fun hkw => ?_⟩
    unfold valW
    rw [e1, e2, h0]
    exact take_alone_val hb k

/-- One's own line is one's own alone. -/
theorem alone_loc (hg : goodD d = true) (hc : c < 2) (hw : w < 4) {n : Int} (hh : hasL (lineAt d c w) n = true) :
    Loc d (aloneD d c w n) c w ∧ (2 ≤ (lineAt (aloneD d c w n) c w).1 ∧ (lineAt (aloneD d c w n) c w).2 = (lineAt d c w).2) ∧ ¬ ((lineAt (aloneD d c w n) (1 - c) w).1 ≠ 0 ∧ (lineAt (aloneD d c w n) (1 - c) w).2.1 = n) ∧ ∀ k : Nat, k < 32 → valF (aloneD d c w n) (k : Int) = valF d (k : Int) := by
  obtain ⟨g1, g2⟩ := (good_iff d).1 hg
  have ho := g2 c hc w hw
  have hb : OkW d (1 - c) c w := by
    have := g2 (1 - c) (by omega) w hw
    rwa [show 1 - (1 - c) = c from by omega] at this
  have hh' : (lineAt d c w).1 ≠ 0 ∧ (lineAt d c w).2.1 = n := of_decide_eq_true hh
  have hs := ho.rng hh'.1
  by_cases hb1 : hasL (lineAt d (1 - c) w) n = true
  · have hb' : (lineAt d (1 - c) w).1 ≠ 0 ∧ (lineAt d (1 - c) w).2.1 = n := of_decide_eq_true hb1
    obtain ⟨s1, s2⟩ := own_both ho hb hh'.1 hb'.1 (by rw [hb'.2, hh'.2])
    have e0 : aloneD d c w n = setLine (setLine d (1 - c) w lineT.zero) c w (2, (lineAt d c w).2) := by
      unfold aloneD alone1 alone2
      rw [if_pos hb1, line_set_other (d := d) (c := 1 - c) (Or.inl (by omega)), if_pos s1]
    rw [e0]
    have e1 : lineAt (setLine (setLine d (1 - c) w lineT.zero) c w (2, (lineAt d c w).2)) c w = (2, (lineAt d c w).2) := line_set_same
    have e2 : lineAt (setLine (setLine d (1 - c) w lineT.zero) c w (2, (lineAt d c w).2)) (1 - c) w = lineT.zero := (line_set_other (Or.inl (by omega))).trans line_set_same
    have hl : Loc d (setLine (setLine d (1 - c) w lineT.zero) c w (2, (lineAt d c w).2)) c w := by
      refine ⟨fun c' hc' w' hw' hne => (line_set_other (Or.inr hne)).trans (line_set_other (Or.inr hne)), fun k hk hf => rfl, g1, ?_, ?_⟩
      · unfold OkW; rw [e1, e2]; exact own_one ho s1 (Or.inl rfl)
      · unfold OkW; rw [e1, e2]; exact OkC.zero
    refine ⟨hl, ⟨by rw [e1]; exact (by decide : (2 : Int) ≤ 2), by rw [e1]⟩, by rw [e2]; exact fun g => g.1 rfl, fun k hk => hl.val hc hg hk fun hkw => ?_⟩
    unfold valW
    rw [e1, e2]
    show val2 2 _ _ 0 0 _ _ k = val2 (lineAt d c w).1 _ _ (lineAt d (1 - c) w).1 _ _ _ k
    rw [s1, s2]
    unfold val2
    rw [if_neg (by omega), if_neg (by omega), if_neg (by omega), if_neg (by omega)]
    rfl
  · have hb' : ¬ ((lineAt d (1 - c) w).1 ≠ 0 ∧ (lineAt d (1 - c) w).2.1 = n) := fun g => hb1 (decide_eq_true g)
    by_cases s1 : (lineAt d c w).1 = 1
    · have e0 : aloneD d c w n = setLine d c w (2, (lineAt d c w).2) := by
        unfold aloneD alone1 alone2
        rw [if_neg hb1, if_pos s1]
      rw [e0]
      have e1 : lineAt (setLine d c w (2, (lineAt d c w).2)) c w = (2, (lineAt d c w).2) := line_set_same
      have e2 : lineAt (setLine d c w (2, (lineAt d c w).2)) (1 - c) w = lineAt d (1 - c) w := line_set_other (Or.inl (by omega))
      have hne : (lineAt d (1 - c) w).1 = 0 ∨ (lineAt d (1 - c) w).2.1 ≠ (lineAt d c w).2.1 := by
        rw [hh'.2]
        by_cases hz : (lineAt d (1 - c) w).1 = 0
        · exact Or.inl hz
        · exact Or.inr fun g => hb' ⟨hz, g⟩
      have hl : Loc d (setLine d c w (2, (lineAt d c w).2)) c w := by
        refine ⟨fun c' hc' w' hw' hne => line_set_other (Or.inr hne), fun k hk hf => rfl, g1, ?_, ?_⟩
        · unfold OkW; rw [e1, e2]; exact own_one ho s1 hne
        · unfold OkW; rw [e1, e2]; exact hb.other (fun _ _ _ _ => rfl) fun h2 => Or.inr (fun g => by
            rcases hne with h | h
            · rw [h] at h2
              exact absurd h2 (by decide)
            · exact h g.symm)
      refine ⟨hl, ⟨by rw [e1]; exact (by decide : (2 : Int) ≤ 2), by rw [e1]⟩, by rw [e2]; exact hb', fun k hk => hl.val hc hg hk fun hkw => ?_⟩
      unfold valW
      rw [e1, e2]
      show val2 2 _ _ (lineAt d (1 - c) w).1 _ _ _ k = val2 (lineAt d c w).1 _ _ (lineAt d (1 - c) w).1 _ _ _ k
      rw [s1]
      unfold val2
      rw [if_neg (show ¬ ((2 : Int) = 3 ∧ _) from by omega), if_neg (show ¬ ((1 : Int) = 3 ∧ _) from by omega)]
      rfl
    · have e0 : aloneD d c w n = d := by
        unfold aloneD alone1 alone2
        rw [if_neg hb1, if_neg s1]
      rw [e0]
      refine ⟨⟨fun _ _ _ _ _ => rfl, fun _ _ _ => rfl, g1, ho, hb⟩, ⟨?_, rfl⟩, hb', fun _ _ => rfl⟩
      have := hs.1
      have h2 : @LE.le Int _ 2 (lineAt d c w).1 := by
        have h3 : @Ne Int (lineAt d c w).1 1 := s1
        omega
      exact h2

theorem set_set (d : deskT.D) (c w : Nat) (l l' : lineT.D) : setLine (setLine d c w l) c w l' = setLine d c w l' := by
  unfold setLine
  simp only []
  congr 1
  funext q
  unfold updA
  split
  · simp only [if_pos]
    congr 2
    funext z
    split <;> rfl
  · rfl
theorem write_loc (hg : goodD d = true) (hc : c < 2) (hw : w < 4) {word : Nat} (hk : word < 32) {v : Int} (hv : Wd v) (hh : hasL (lineAt d c w) ((word / 2 : Nat) : Int) = true) (hs : (lineAt d c w).1 ≠ 1) :
    goodD (setM (putW d c w (word % 2) v) c w) = true ∧ ∀ k : Nat, k < 32 → valF (setM (putW d c w (word % 2) v) c w) (k : Int) = if k = word then v else valF d (k : Int) := by
  obtain ⟨g1, g2⟩ := (good_iff d).1 hg
  have ho := g2 c hc w hw
  have hb : OkW d (1 - c) c w := by
    have := g2 (1 - c) (by omega) w hw
    rwa [show 1 - (1 - c) = c from by omega] at this
  have hh' : (lineAt d c w).1 ≠ 0 ∧ (lineAt d c w).2.1 = ((word / 2 : Nat) : Int) := of_decide_eq_true hh
  have hr := ho.rng hh'.1
  have h2 : @LE.le Int _ 2 (lineAt d c w).1 := by
    have h3 : @Ne Int (lineAt d c w).1 1 := hs
    omega
  have e0 : setM (putW d c w (word % 2) v) c w = setLine d c w (3, (lineAt d c w).2.1, updA (lineAt d c w).2.2.1 (word % 2) v, (lineAt d c w).2.2.2) := by
    unfold setM putW
    rw [line_set_same, set_set]
  rw [e0]
  have e1 : lineAt (setLine d c w (3, (lineAt d c w).2.1, updA (lineAt d c w).2.2.1 (word % 2) v, (lineAt d c w).2.2.2)) c w = (3, (lineAt d c w).2.1, updA (lineAt d c w).2.2.1 (word % 2) v, (lineAt d c w).2.2.2) := line_set_same
  have e2 : lineAt (setLine d c w (3, (lineAt d c w).2.1, updA (lineAt d c w).2.2.1 (word % 2) v, (lineAt d c w).2.2.2)) (1 - c) w = lineAt d (1 - c) w := line_set_other (Or.inl (by omega))
  have hl : Loc d (setLine d c w (3, (lineAt d c w).2.1, updA (lineAt d c w).2.2.1 (word % 2) v, (lineAt d c w).2.2.2)) c w := by
    refine ⟨fun c' hc' w' hw' hne => line_set_other (Or.inr hne), fun k hk hf => rfl, g1, ?_, ?_⟩
    · unfold OkW; rw [e1, e2]; exact write_ok ho h2 hv
    · unfold OkW; rw [e1, e2]; exact hb.other (fun _ _ _ _ => rfl) fun h => Or.inr (fun g => by
        have h5 := hb.excl h
        rcases h5 with h5 | h5
        · exact hh'.1 h5
        · exact h5 g)
  have hgood := hl.good hc hg
  refine ⟨hgood, fun k hk => ?_⟩
  by_cases hkw : k / 2 % 4 = w
  · have hval : valW (setLine d c w (3, (lineAt d c w).2.1, updA (lineAt d c w).2.2.1 (word % 2) v, (lineAt d c w).2.2.2)) c (1 - c) w k = if k = word then v else valW d c (1 - c) w k := by
      unfold valW
      rw [e1, e2]
      exact write_val ho h2 hh'.2 k
    have : c = 0 ∨ c = 1 := by omega
    rw [val_eq _ k hk, val_eq d k hk, hkw]
    rcases this with rfl | rfl
    · exact hval
    · have c1 := val_comm (x := (lineAt d 1 w).2.2.1) (x' := (lineAt d 0 w).2.2.1) (k := k) ho
      have c2 := val_comm (x := (lineAt (setLine d 1 w (3, (lineAt d 1 w).2.1, updA (lineAt d 1 w).2.2.1 (word % 2) v, (lineAt d 1 w).2.2.2)) 1 w).2.2.1) (x' := (lineAt (setLine d 1 w (3, (lineAt d 1 w).2.1, updA (lineAt d 1 w).2.2.1 (word % 2) v, (lineAt d 1 w).2.2.2)) 0 w).2.2.1) (k := k) hl.own
      exact c2.symm.trans (hval.trans (by rw [show valW d 1 (1 - 1) w k = valW d 0 1 w k from c1]))
  · rw [hl.val hc hg hk (fun h => absurd h hkw), if_neg]
    rintro rfl
    apply hkw
    have h9 : (((k / 2 : Nat) : Int) % 4 = (w : Int)) := by rw [← hh'.2]; exact hr.2.2.2.2
    omega

theorem zero_line : (lineT.zero : lineT.D).1 = 0 := rfl
/-- What Drop, Share, Own and Write make of a desk whose caches are in order. -/
theorem dropF_ok (hg : goodD d = true) (c' n : Int) : goodD (dropF d c' n) = true ∧ ∀ k : Nat, k < 32 → valF (dropF d c' n) (k : Int) = valF d (k : Int) := by
  unfold dropF
  split
  · rename_i h
    obtain ⟨h1, _, _, h4⟩ := drop_loc hg (c := c'.toNat) (w := n.toNat) (by omega) (by omega)
    exact ⟨h1.good (by omega) hg, h4⟩
  · exact ⟨hg, fun _ _ => rfl⟩
theorem has_take {d : deskT.D} {c w : Nat} {n : Int} (h : lineAt (takeD d c w n) c w = ((if hasL (lineAt d (1 - c) w) n = true then 1 else 2), n, memL (takeD d c w n).2 n, false)) : hasL (lineAt (takeD d c w n) c w) n = true := by
  rw [h]
  refine (has_iff _ _ _ _ _).2 ⟨?_, rfl⟩
  split <;> decide
theorem shareF_ok (hg : goodD d = true) (c' n : Int) : goodD (shareF d c' n) = true ∧ (∀ k : Nat, k < 32 → valF (shareF d c' n) (k : Int) = valF d (k : Int)) ∧ ((0 ≤ c' ∧ c' < 2) → (0 ≤ n ∧ n < 16) → hasL (lineAt (shareF d c' n) c'.toNat (wayOf n)) n = true) := by
  unfold shareF
  split
  · rename_i h
    have hw := way_lt h.2.2.1
    have hw' : n % 4 = (wayOf n : Int) := by rw [← way_of h.2.2.1, Int.tmod_eq_emod_of_nonneg h.2.2.1]
    split
    · rename_i hh
      exact ⟨hg, fun _ _ => rfl, fun _ _ => hh⟩
    · obtain ⟨h1, h2, _, h4⟩ := drop_loc hg (c := c'.toNat) (w := wayOf n) (by omega) hw
      have hg1 := h1.good (by omega) hg
      obtain ⟨t1, t2, t3⟩ := take_loc hg1 (c := c'.toNat) (by omega) h.2.2 hw' h2
      exact ⟨t1.good (by omega) hg1, fun k hk => (t3 k hk).trans (h4 k hk), fun _ _ => has_take t2⟩
  · rename_i h
    exact ⟨hg, fun _ _ => rfl, fun h1 h2 => absurd ⟨hg, h1, h2⟩ h⟩
theorem ownF_ok (hg : goodD d = true) (c' n : Int) : goodD (ownF d c' n) = true ∧ (∀ k : Nat, k < 32 → valF (ownF d c' n) (k : Int) = valF d (k : Int)) ∧ ((0 ≤ c' ∧ c' < 2) → (0 ≤ n ∧ n < 16) → hasL (lineAt (ownF d c' n) c'.toNat (wayOf n)) n = true ∧ @LE.le Int _ 2 (lineAt (ownF d c' n) c'.toNat (wayOf n)).1 ∧ hasL (lineAt (ownF d c' n) (1 - c'.toNat) (wayOf n)) n = false) := by
  obtain ⟨s1, s2, s3⟩ := shareF_ok hg c' n
  unfold ownF
  split
  · rename_i h
    have hr := find_yes h.2
    have hh := s3 hr.1 hr.2
    have hw := way_lt hr.2.1
    rw [find_eq hr.1 hr.2]
    show goodD (aloneD (shareF d c' n) c'.toNat (wayOf n) n) = true ∧ (∀ k : Nat, k < 32 → valF (aloneD (shareF d c' n) c'.toNat (wayOf n) n) (k : Int) = valF d (k : Int)) ∧ ((0 ≤ c' ∧ c' < 2) → (0 ≤ n ∧ n < 16) → hasL (lineAt (aloneD (shareF d c' n) c'.toNat (wayOf n) n) c'.toNat (wayOf n)) n = true ∧ @LE.le Int _ 2 (lineAt (aloneD (shareF d c' n) c'.toNat (wayOf n) n) c'.toNat (wayOf n)).1 ∧ hasL (lineAt (aloneD (shareF d c' n) c'.toNat (wayOf n) n) (1 - c'.toNat) (wayOf n)) n = false)
    obtain ⟨a1, a2, a3, a4⟩ := alone_loc s1 (c := c'.toNat) (w := wayOf n) (by omega) hw hh
    refine ⟨a1.good (by omega) s1, fun k hk => (a4 k hk).trans (s2 k hk), fun _ _ => ⟨decide_eq_true ⟨?_, ?_⟩, a2.1, decide_eq_false a3⟩⟩
    · intro h0
      have := a2.1
      rw [h0] at this
      exact absurd this (by decide)
    · rw [a2.2]
      exact (of_decide_eq_true hh : _ ∧ _).2
  · rename_i h
    refine ⟨s1, s2, fun h1 h2 => absurd ⟨s1, ?_⟩ h⟩
    rw [find_eq h1 h2]
    exact s3 h1 h2
theorem writeF_ok (hg : goodD d = true) (c' : Int) {word : Nat} (hk : word < 32) {v : Int} (hv : 0 ≤ v ∧ v ≤ 4294967295) (hc : 0 ≤ c' ∧ c' < 2) (hh : hasL (lineAt d c'.toNat (wayOf ((word / 2 : Nat) : Int))) ((word / 2 : Nat) : Int) = true) (hs : @LE.le Int _ 2 (lineAt d c'.toNat (wayOf ((word / 2 : Nat) : Int))).1) :
    goodD (writeF d c' (word : Int) v) = true ∧ ∀ k : Nat, k < 32 → valF (writeF d c' (word : Int) v) (k : Int) = if k = word then v else valF d (k : Int) := by
  have h1 : (word : Int).tdiv 2 = ((word / 2 : Nat) : Int) := by rw [Int.tdiv_eq_ediv_of_nonneg (by omega)]; omega
  have h2 : ((word : Int).tmod 2).toNat = word % 2 := by rw [Int.tmod_eq_emod_of_nonneg (by omega)]; omega
  have hn : 0 ≤ ((word / 2 : Nat) : Int) ∧ ((word / 2 : Nat) : Int) < 16 := by omega
  have hne : (lineAt d c'.toNat (wayOf ((word / 2 : Nat) : Int))).1 ≠ 1 := fun h => by
    rw [h] at hs
    exact absurd hs (by decide)
  have e : writeF d c' (word : Int) v = setM (putW d c'.toNat (wayOf ((word / 2 : Nat) : Int)) (word % 2) v) c'.toNat (wayOf ((word / 2 : Nat) : Int)) := by
    unfold writeF
    rw [if_pos ⟨hg, by omega, hv⟩, h1, h2, find_eq hc hn]
    exact if_pos ⟨hh, hne⟩
  rw [e]
  exact write_loc hg (by omega) (way_lt hn.1) hk hv hh hne
end

end Go.Proofs.Ytjbbgpacijageab.M
