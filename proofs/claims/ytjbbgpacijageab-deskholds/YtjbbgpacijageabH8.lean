/- Desks: what steps, lines let go and kicks do. -/
import Derived.Test.YtjbbgpacijageabH7
namespace Go.Proofs.Ytjbbgpacijageab.M
open Go.RowKit
set_option linter.unusedVariables false
set_option linter.unusedSimpArgs false
variable {c : Int} {d : deskT.D} {l : progsT.D}

/-- Lines of a core are those of a desk, but for what is read. -/
def LC (c : Nat) (e : deskT.D) (x : coreT.D) : Prop := ∀ w, w < 4 → (x.2.1 w).1 = (lineAt e c w).1 ∧ (x.2.1 w).2.1 = (lineAt e c w).2.1 ∧ (x.2.1 w).2.2.1 = (lineAt e c w).2.2.1 ∧ ((x.2.1 w).2.2.2 = true → (lineAt e c w).1 ≠ 0)
theorem lc_keep {e : deskT.D} (hg : goodK e = true) {k : Nat} (hk : k < 2) {x : coreT.D} (h : x.2.1 = (e.1 k).2.1) : LC k e x := fun w hw => by
  rw [h]
  exact ⟨rfl, rfl, rfl, fun hr => good_nz (goodK_D hg) k w hk hw hr⟩
theorem lc_cnt {k : Nat} {e : deskT.D} {x : coreT.D} (h : LC k e x) : LC k e (cntC x) := by
  unfold cntC
  split
  · exact h
  · exact h
/-- Between a look and a write of a transaction. -/
def Mid (c : Int) (d D : deskT.D) : Prop := ∃ e x, D = setCore e c.toNat x ∧ Lk c d e false noT ∧ CoreW x ∧ LC c.toNat e x ∧ x.2.2 = (d.1 c.toNat).2.2
theorem mid_seen (hc : 0 ≤ c ∧ c < 2) (hg : goodK d = true) (h9 : (d.1 c.toNat).2.2.2.2.2 ≠ 399) (h0 : (d.1 c.toNat).2.2.1 ≠ 0) (i : instrT.D) {word : Int} (hw : 0 ≤ word ∧ word < 32) : Mid c d (seenF d c i word) := by
  have hk := core_ok hc hg
  have ho : (d.1 c.toNat).1.2.2 = false := (hk.ins h0).2.2.1
  unfold seenF
  split
  · unfold loadsF
    split
    · exact ⟨d, _, rfl, Lk.refl hg, (hk.weak h9).set (good_put hk.now _ _) (fun _ => by rw [off_put]; exact ho), lc_keep hg (by omega) rfl, rfl⟩
    · have hs := lk_share (c := c) hg (lineOf word)
      have hks := core_ok hc hs.good
      have e2 := (share_core d c (lineOf word) c.toNat).2
      have h9' : ((shareF d c (lineOf word)).1 c.toNat).2.2.2.2.2 ≠ 399 := by rw [e2]; exact h9
      have h0' : ((shareF d c (lineOf word)).1 c.toNat).2.2.1 ≠ 0 := by rw [e2]; exact h0
      have hl : 0 ≤ lineOf word ∧ lineOf word < 16 := by
        obtain ⟨w, rfl⟩ : ∃ w : Nat, word = (w : Int) := ⟨word.toNat, by omega⟩
        rw [lineOf_nat (by omega)]
        omega
      have hhas := (shareF_ok (goodK_D hg) c (lineOf word)).2.2 hc hl
      have hway : (findF (shareF d c (lineOf word)) c (lineOf word)).1.toNat = wayOf (lineOf word) := by rw [find_eq hc hl]; rfl
      unfold readD withNow
      rw [set_at, set_twice, hway]
      have hW := hks.weak h9'
      refine ⟨shareF d c (lineOf word), _, rfl, hs, ⟨good_put hks.now _ _, hks.lo, hks.hi, fun g => absurd g h0', fun _ => ?_⟩, fun w hw' => ?_, e2⟩
      · obtain ⟨g1, g2, g3, g4, g5⟩ := hW.ins h0'
        exact ⟨g1, g2, by show (putF ((shareF d c (lineOf word)).1 c.toNat).1 _ _).2.2 = false; rw [off_put]; exact g3, g4, g5⟩
      · show (updA ((shareF d c (lineOf word)).1 c.toNat).2.1 (wayOf (lineOf word)) _ w).1 = _ ∧ (updA ((shareF d c (lineOf word)).1 c.toNat).2.1 (wayOf (lineOf word)) _ w).2.1 = _ ∧ (updA ((shareF d c (lineOf word)).1 c.toNat).2.1 (wayOf (lineOf word)) _ w).2.2.1 = _ ∧ ((updA ((shareF d c (lineOf word)).1 c.toNat).2.1 (wayOf (lineOf word)) _ w).2.2.2 = true → _)
        by_cases e : w = wayOf (lineOf word)
        · rw [e, updA_at]
          exact ⟨rfl, rfl, rfl, fun _ => (of_decide_eq_true hhas : _ ∧ _).1⟩
        · rw [updA_ne e]
          exact ⟨rfl, rfl, rfl, fun hr => good_nz (goodK_D hs.good) c.toNat w (by omega) hw' hr⟩
  · exact ⟨d, d.1 c.toNat, (set_self d _).symm, Lk.refl hg, hk.weak h9, lc_keep hg (by omega) rfl, rfl⟩
theorem mid_kept {nn : Nat} {D : deskT.D} (hc : 0 ≤ c ∧ c < 2) (hg : goodK d = true) (h0 : (d.1 c.toNat).2.2.1 ≠ 0) (hm : Mid c d D) {i : instrT.D} {word n : Int} (hw : 0 ≤ word ∧ word < 32) (hn : isW n = true) (hr : i.1 ≠ 5 → atW (wsOf d c) word < 0 → (wsOf d c).length < 4) : ∃ e x, keptF nn D c i word n = setCore e c.toNat x ∧ Lk c d e false noT ∧ CoreW x ∧ LC c.toNat e x ∧ x.2.2.1 = (d.1 c.toNat).2.2.1 := by
  obtain ⟨e, x, rfl, h1, h2, h3, h4⟩ := hm
  unfold keptF
  split
  · rename_i h5
    unfold putWs wsOf
    rw [set_at, set_twice]
    refine ⟨e, _, rfl, h1, ⟨h2.now, h2.lo, h2.hi, fun g => absurd g (by show x.2.2.1 ≠ 0; rw [h4]; exact h0), fun g => ?_⟩, h3, by show x.2.2.1 = _; rw [h4]⟩
    obtain ⟨g1, g2, g3, g4, g5⟩ := h2.ins (by rw [h4]; exact h0)
    refine ⟨g1, g2, g3, g4, ?_⟩
    show goodWs (heldL x.2.2.2.2.1.2 (word, n)) = true
    refine ws_held g5 hw hn ?_
    rw [h4]
    exact hr h5
  · exact ⟨e, x, rfl, h1, h2, h3, by rw [h4]⟩
theorem sk_in {nn : Nat} (hc : 0 ≤ c ∧ c < 2) (hg : goodK d = true) (h9 : (d.1 c.toNat).2.2.2.2.2 ≠ 399) (h0 : (d.1 c.toNat).2.2.1 ≠ 0) (i : instrT.D) {word : Int} (hw : 0 ≤ word ∧ word < 32) : Sk c d (inF nn d l c i word) := by
  have hk := core_ok hc hg
  unfold inF
  split
  · exact sk_fail hc hg h0 _
  · rename_i hroom
    obtain ⟨e, x, he, h1, h2, h3, h4⟩ := mid_kept (nn := nn) hc hg h0 (mid_seen hc hg h9 h0 i hw) (i := i) hw (isW_get hk.now i.2.1) (fun h5 ha => by
      have hle : (wsOf d c).length ≤ 4 := good_ws hg hc
      unfold roomF at hroom
      rw [if_neg (by omega)] at hroom
      split at hroom
      · exact absurd rfl hroom
      · have : ¬ (i.1 ≠ 5 ∧ ((wsOf d c).length : Int) = 4) := fun g => hroom (decide_eq_true g)
        have : ¬ ((wsOf d c).length : Int) = 4 := fun g => this ⟨h5, g⟩
        omega)
    rw [he, on_set]
    have := sk_on (f := false) hc h1 h2.next (sameL_set (goodK_D h1.good) (lc_cnt (x := (nextF x.1, x.2)) h3)) (Or.inr fun _ h => h)
    exact this
theorem sk_touch {nn : Nat} (hc : 0 ≤ c ∧ c < 2) (hg : goodK d = true) (h9 : (d.1 c.toNat).2.2.2.2.2 ≠ 399) (i : instrT.D) : Sk c d (touchT nn d l c i) := by
  unfold touchT
  split
  · rename_i hw
    have hw : 0 ≤ wordF (d.1 c.toNat).1 i ∧ wordF (d.1 c.toNat).1 i < 32 := ⟨(wd_rng _).1, hw⟩
    split
    · rename_i h0
      exact sk_out hc hg h0 i hw
    · rename_i h0
      exact sk_in hc hg h9 h0 i hw
  · exact sk_stuck hc hg h9
theorem sk_steps {nn : Nat} (hc : 0 ≤ c ∧ c < 2) (hg : goodK d = true) (ho : (d.1 c.toNat).1.2.2 = false) : Sk c d (stepsF nn d l c) := by
  have hk := core_ok hc hg
  unfold stepsF
  by_cases h9 : (d.1 c.toNat).2.2.2.2.2 = 399
  · rw [if_pos h9]
    exact sk_fail hc hg (fun h0 => zero_count hk h0 h9) _
  · rw [if_neg h9]
    split
    · exact sk_begin hc hg h9 ho
    · split
      · exact sk_end hc hg h9
      · split
        · exact sk_give hc hg h9 _
        · split
          · exact sk_touch hc hg h9 _
          · exact sk_alone hc hg h9 ho (fetch_ok _ _)
/-- What a step answers. -/
theorem step_ok {nn : Nat} (hg : goodK d = true) : goodK (stepF nn d l c).1 = true ∧ (((stepF nn d l c).2.2 ≠ 0 ∧ (stepF nn d l c).1 = d) ∨ ((stepF nn d l c).2.2 = 0 ∧ (0 ≤ c ∧ c < 2) ∧ Sk c d ((stepF nn d l c).1, (stepF nn d l c).2.1))) := by
  unfold stepF
  by_cases h : refF d c = 0
  · rw [if_pos h]
    split
    · exact ⟨hg, Or.inl ⟨(show ¬ (4 : Int) = 0 by decide), rfl⟩⟩
    · rename_i ho
      have hs := sk_steps (nn := nn) (l := l) (ref_ok h).2 hg (Bool.eq_false_iff.2 ho)
      obtain ⟨f, T, q, h1, _⟩ := id hs
      exact ⟨h1.good, Or.inr ⟨rfl, (ref_ok h).2, hs⟩⟩
  · rw [if_neg h]
    exact ⟨hg, Or.inl ⟨h, rfl⟩⟩
theorem step_ref {nn : Nat} (hg : goodK d = false) : (stepF nn d l c).2.2 = 1 ∧ (stepF nn d l c).1 = d := by
  unfold stepF
  have h : refF d c = 1 := by
    unfold refF
    rw [if_neg (by rw [hg]; decide)]
  rw [h]
  exact ⟨rfl, rfl⟩
theorem step_zero {nn : Nat} (h : (stepF nn d l c).2.2 = 0) : goodK d = true := by
  cases hg : goodK d with
  | true => rfl
  | false =>
    rw [(step_ref hg).1] at h
    cases h
theorem evict_ok {way : Int} (hg : goodK d = true) : goodK (evictF d l c way).1 = true := by
  have hd : ∀ e : deskT.D, goodK e = true → goodK (dropF e c way) = true := fun e he =>
    goodK_mv he (mv_dropF (good_nz (goodK_D he)) c way) (dropF_ok (goodK_D he) c way).1
  unfold evictF
  split
  · rename_i h
    have hc := (ref_ok h).2
    split
    · rename_i hw
      split
      · rename_i hr
        refine hd _ (lk_failc hc hg (fun h0 => ?_) l 1002).good
        have h3 := ((core_ok hc hg).out h0).2.2.2
        have : anyRead (d.1 c.toNat) = true := (any_iff _).2 ⟨way.toNat, by omega, hr⟩
        rw [h3] at this
        cases this
      · exact hd _ hg
    · exact hg
  · exact hg
theorem evict_ref {way : Int} (hg : goodK d = false) : (evictF d l c way).2.2 = 1 := by
  unfold evictF
  have h : refF d c = 1 := by
    unfold refF
    rw [if_neg (by rw [hg]; decide)]
  rw [h]
  rfl
theorem kick_ok (hg : goodK d = true) : goodK (kickF d l c).1 = true := by
  unfold kickF
  split
  · rename_i h
    have hc := (ref_ok h).2
    split
    · rename_i h0
      exact (lk_failc hc hg (fun e => by rw [e] at h0; exact absurd h0 (by decide)) l 1004).good
    · exact hg
  · exact hg
theorem kick_ref (hg : goodK d = false) : (kickF d l c).2.2 = 1 := by
  unfold kickF
  have h : refF d c = 1 := by
    unfold refF
    rw [if_neg (by rw [hg]; decide)]
  rw [h]
  rfl
end Go.Proofs.Ytjbbgpacijageab.M
