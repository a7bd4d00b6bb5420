/- Desks: what a core leaves of the other one, and of the words. -/
import Derived.Test.YtjbbgpacijageabH3
namespace Go.Proofs.Ytjbbgpacijageab.M
open Go.RowKit
set_option linter.unusedVariables false
set_option linter.unusedSimpArgs false

theorem way_lt4 {n : Int} (h : 0 ≤ n ∧ n < 16) : wayOf n < 4 := by
  unfold wayOf
  rw [Int.tmod_eq_emod_of_nonneg h.1]
  omega
theorem holds_mv {d e : deskT.D} (hz : Nz d) (hm : Mv d e) {o n : Int} (h : holdsF e o n = true) : holdsF d o n = true := by
  unfold holdsF at h ⊢
  have e2 := (hm.core o.toNat).2
  rw [e2] at h
  by_cases hc : (0 ≤ o ∧ o < 2) ∧ (d.1 o.toNat).2.2.1 ≠ 0
  · rw [if_pos hc] at h ⊢
    rw [Bool.or_eq_true] at h ⊢
    rcases h with h | h
    · refine Or.inl ?_
      rw [Bool.and_eq_true] at h ⊢
      obtain ⟨h1, h2⟩ := h
      obtain ⟨ho, hn⟩ := find_yes h1
      rw [find_eq ho hn] at h1 h2 ⊢
      have h1 : hasL (lineAt e o.toNat (wayOf n)) n = true := h1
      have h2 : rdAt e o.toNat (wayOf n) = true := h2
      obtain ⟨g1, g2, g3⟩ := hm.rd o.toNat (wayOf n) (by omega) (way_lt4 hn) h2
      refine ⟨?_, g1⟩
      show hasL (lineAt d o.toNat (wayOf n)) n = true
      have := of_decide_eq_true h1
      exact decide_eq_true ⟨hz _ _ (by omega) (way_lt4 hn) g1, by rw [← g2]; exact this.2⟩
    · exact Or.inr h
  · rw [if_neg hc] at h
    cases h
theorem holds_deep {d : deskT.D} {o n : Int} (h : (d.1 o.toNat).2.2.1 = 0) : holdsF d o n = false := by
  unfold holdsF
  rw [if_neg (fun g => g.2 h)]
theorem holds_yes {d : deskT.D} {o n : Int} (h : holdsF d o n = true) : (0 ≤ o ∧ o < 2) ∧ (d.1 o.toNat).2.2.1 ≠ 0 := by
  unfold holdsF at h
  split at h
  · assumption
  · cases h
theorem holds_core {d e : deskT.D} {o n : Int} (h : e.1 o.toNat = d.1 o.toNat) : holdsF e o n = holdsF d o n := by
  unfold holdsF findF
  rw [h]

structure Lk (c : Int) (D E : deskT.D) (f : Bool) (T : Int → Prop) : Prop where
  good : goodK E = true
  oth : (f = false ∧ sameX (E.1 (1 - c).toNat) (D.1 (1 - c).toNat)) ∨ (f = true ∧ (D.1 (1 - c).toNat).2.2.1 ≠ 0 ∧ (E.1 (1 - c).toNat).2.2.1 = 0)
  val : ∀ k, ¬ T k → valF E k = valF D k
  hold : ∀ n, holdsF E (1 - c) n = true → holdsF D (1 - c) n = true ∧ ∀ k, T k → lineOf k ≠ n
abbrev noT : Int → Prop := fun _ => False
theorem Lk.refl {c : Int} {d : deskT.D} (hg : goodK d = true) : Lk c d d false noT := ⟨hg, Or.inl ⟨rfl, rfl, rfl⟩, fun _ _ => rfl, fun n h => ⟨h, fun _ h => h.elim⟩⟩
theorem Lk.trans {c : Int} {D E G : deskT.D} {f g : Bool} {T S : Int → Prop} (h : Lk c D E f T) (k : Lk c E G g S) : Lk c D G (f || g) (fun x => T x ∨ S x) := by
  refine ⟨k.good, ?_, fun x hx => ?_, fun n hn => ?_⟩
  · rcases h.oth with ⟨hf, h1⟩ | ⟨hf, h1, h2⟩
    · rcases k.oth with ⟨kf, k1⟩ | ⟨kf, k1, k2⟩
      · exact Or.inl ⟨by rw [hf, kf]; rfl, k1.1.trans h1.1, k1.2.trans h1.2⟩
      · refine Or.inr ⟨by rw [hf, kf]; rfl, ?_, k2⟩
        rw [← h1.2]; exact k1
    · rcases k.oth with ⟨kf, k1⟩ | ⟨kf, k1, k2⟩
      · refine Or.inr ⟨by rw [hf, kf]; rfl, h1, ?_⟩
        rw [k1.2]; exact h2
      · exact absurd h2 k1
  · rw [k.val x fun g => hx (Or.inr g), h.val x fun g => hx (Or.inl g)]
  · obtain ⟨k1, k2⟩ := k.hold n hn
    obtain ⟨h1, h2⟩ := h.hold n k1
    exact ⟨h1, fun x hx => hx.elim (h2 x) (k2 x)⟩
theorem Lk.cast {c : Int} {D E : deskT.D} {f g : Bool} {T S : Int → Prop} (h : Lk c D E f T) (hf : f = g) (hT : ∀ x, T x ↔ S x) : Lk c D E g S := by
  subst hf
  exact ⟨h.good, h.oth, fun k hk => h.val k fun g => hk ((hT k).1 g), fun n hn => ⟨(h.hold n hn).1, fun k hk => (h.hold n hn).2 k ((hT k).2 hk)⟩⟩
theorem lk_set {c : Int} (hc : 0 ≤ c ∧ c < 2) {d : deskT.D} (hg : goodK d = true) {x : coreT.D} (hx : CoreOk x) (hs : SameL d (setCore d c.toNat x)) : Lk c d (setCore d c.toNat x) false noT := by
  have he : (setCore d c.toNat x).1 (1 - c).toNat = d.1 (1 - c).toNat := set_ne d x (by omega)
  refine ⟨goodK_set hg hx hs, Or.inl ⟨rfl, by rw [he]; exact ⟨rfl, rfl⟩⟩, fun k _ => val_same hs k, fun n hn => ⟨?_, fun _ h => h.elim⟩⟩
  rw [holds_core he] at hn
  exact hn
theorem val_all' {d d' : deskT.D} (h : ∀ k : Nat, k < 32 → valF d' (k : Int) = valF d (k : Int)) (n : Int) : valF d' n = valF d n := by
  by_cases hn : 0 ≤ n ∧ n < 32
  · have := h n.toNat (by omega)
    rwa [show ((n.toNat : Nat) : Int) = n from by omega] at this
  · unfold valF
    rw [if_neg hn, if_neg hn]
theorem lk_mv {c : Int} {d e : deskT.D} (hg : goodK d = true) (hm : Mv d e) (hge : goodD e = true) (hv : ∀ k : Nat, k < 32 → valF e (k : Int) = valF d (k : Int)) : Lk c d e false noT :=
  ⟨goodK_mv hg hm hge, Or.inl ⟨rfl, hm.core _⟩, fun k _ => val_all' hv k, fun n hn => ⟨holds_mv (good_nz (goodK_D hg)) hm hn, fun _ h => h.elim⟩⟩
theorem lk_share {c : Int} {d : deskT.D} (hg : goodK d = true) (n : Int) : Lk c d (shareF d c n) false noT :=
  lk_mv hg (mv_share (good_nz (goodK_D hg)) c n) (shareF_ok (goodK_D hg) c n).1 (shareF_ok (goodK_D hg) c n).2.1
theorem lk_own {c : Int} {d : deskT.D} (hg : goodK d = true) (n : Int) : Lk c d (ownF d c n) false noT :=
  lk_mv hg (mv_own (good_nz (goodK_D hg)) c n) (ownF_ok (goodK_D hg) c n).1 (ownF_ok (goodK_D hg) c n).2.1
theorem lk_fail {c : Int} (hc : 0 ≤ c ∧ c < 2) {d : deskT.D} (hg : goodK d = true) (hd : (d.1 (1 - c).toNat).2.2.1 ≠ 0) (l : progsT.D) (why : Int) : Lk c d (failD d l (1 - c) why).1 true noT := by
  have he : ((failD d l (1 - c) why).1.1 (1 - c).toNat).2.2.1 = 0 := by
    show ((setCore d (1 - c).toNat _).1 (1 - c).toNat).2.2.1 = 0
    rw [set_at]
    rfl
  refine ⟨fail_good hg (by omega) hd _ _, Or.inr ⟨rfl, hd, he⟩, fun k _ => val_same (fail_same (goodK_D hg) _ _ _) k, fun n hn => ?_⟩
  rw [holds_deep he] at hn
  cases hn
theorem lineOf_nat {w : Nat} (h : w < 32) : lineOf (w : Int) = ((w / 2 : Nat) : Int) := by
  unfold lineOf
  rw [half_eq (by omega), Int.tdiv_eq_ediv_of_nonneg (by omega)]
  omega
/-- A line is one's own, and is written into. -/
theorem lk_put {c : Int} (hc : 0 ≤ c ∧ c < 2) {d : deskT.D} (hg : goodK d = true) {word n : Int} (hw : 0 ≤ word ∧ word < 32) (hn : 0 ≤ n ∧ n ≤ 4294967295) (hh : holdsF d (1 - c) (lineOf word) = false) :
    Lk c d (writeF (ownF d c (lineOf word)) c word n) false (fun k => k = word) ∧ valF (writeF (ownF d c (lineOf word)) c word n) word = n := by
  obtain ⟨w, rfl⟩ : ∃ w : Nat, word = (w : Int) := ⟨word.toNat, by omega⟩
  have hw' : w < 32 := by omega
  have h1 := lk_own (c := c) hg (lineOf (w : Int))
  have hl := lineOf_nat hw'
  obtain ⟨o1, o2, o3⟩ := ownF_ok (goodK_D hg) c (lineOf (w : Int))
  obtain ⟨o4, o5, o6⟩ := o3 hc (by rw [hl]; omega)
  rw [hl] at o1 o4 o5 h1 hh ⊢
  obtain ⟨w1, w2⟩ := writeF_ok o1 c (word := w) hw' hn hc o4 o5
  have hm := mv_write (good_nz o1) c (w : Int) n
  refine ⟨(h1.trans (⟨goodK_mv h1.good hm w1, Or.inl ⟨rfl, hm.core _⟩, fun k hk => ?_, fun m hm' => ?_⟩ : Lk c _ _ false (fun k => k = (w : Int)))).cast rfl (fun x => ⟨fun h => h.elim False.elim id, Or.inr⟩), ?_⟩
  · by_cases hk' : 0 ≤ k ∧ k < 32
    · have e := w2 k.toNat (by omega)
      rwa [if_neg (by omega), show ((k.toNat : Nat) : Int) = k from by omega] at e
    · unfold valF
      rw [if_neg hk', if_neg hk']
  · have g := holds_mv (good_nz o1) hm hm'
    refine ⟨g, fun k hk hkm => ?_⟩
    have g2 := (h1.hold m g).1
    rw [← hkm, hk, hl, hh] at g2
    cases g2
  · have e := w2 w hw'
    rwa [if_pos rfl] at e
end Go.Proofs.Ytjbbgpacijageab.M
