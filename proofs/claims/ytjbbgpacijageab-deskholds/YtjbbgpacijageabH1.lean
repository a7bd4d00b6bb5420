/- Desks: what cache moves leave as it is. -/
import Derived.Test.YtjbbgpacijageabG8
import Derived.Test.YtjbbgpacijageabK1c
import Derived.Test.YtjbbgpacijageabD3
namespace Go.Proofs.Ytjbbgpacijageab.M
open Go.RowKit
set_option linter.unusedVariables false
set_option linter.unusedSimpArgs false

def rdAt (d : deskT.D) (k w : Nat) : Bool := (lineAt d k w).2.2.2
/-- All of a core but its cache. -/
def sameX (x y : coreT.D) : Prop := x.1 = y.1 ∧ x.2.2 = y.2.2
def Nz (d : deskT.D) : Prop := ∀ k w, k < 2 → w < 4 → rdAt d k w = true → (lineAt d k w).1 ≠ 0
/-- Cores are as they were, but for their caches; what is read there was read. -/
structure Mv (d e : deskT.D) : Prop where
  core : ∀ k, sameX (e.1 k) (d.1 k)
  rd : ∀ k w, k < 2 → w < 4 → rdAt e k w = true → rdAt d k w = true ∧ (lineAt e k w).2.1 = (lineAt d k w).2.1 ∧ (lineAt e k w).1 ≠ 0
theorem Mv.refl {d : deskT.D} (h : Nz d) : Mv d d := ⟨fun _ => ⟨rfl, rfl⟩, fun k w hk hw hr => ⟨hr, rfl, h k w hk hw hr⟩⟩
theorem Mv.trans {d e f : deskT.D} (h : Mv d e) (g : Mv e f) : Mv d f :=
  ⟨fun k => ⟨(g.core k).1.trans (h.core k).1, (g.core k).2.trans (h.core k).2⟩, fun k w hk hw hr => by
    obtain ⟨a, b, n⟩ := g.rd k w hk hw hr
    obtain ⟨a', b', _⟩ := h.rd k w hk hw a
    exact ⟨a', b.trans b', n⟩⟩
theorem line_set (d : deskT.D) (c w : Nat) (l : lineT.D) (k v : Nat) : lineAt (setLine d c w l) k v = if k = c ∧ v = w then l else lineAt d k v := by
  by_cases h : k = c ∧ v = w
  · rw [if_pos h, h.1, h.2]; exact line_set_same
  · rw [if_neg h]
    refine line_set_other ?_
    by_cases hk : k = c
    · exact Or.inr fun hv => h ⟨hk, hv⟩
    · exact Or.inl hk
theorem setLine_core (d : deskT.D) (c w : Nat) (l : lineT.D) (k : Nat) : sameX ((setLine d c w l).1 k) (d.1 k) := by
  show (updA d.1 c _ k).1 = _ ∧ (updA d.1 c _ k).2.2 = _
  unfold updA
  by_cases h : k = c
  · rw [if_pos h, h]; exact ⟨rfl, rfl⟩
  · rw [if_neg h]; exact ⟨rfl, rfl⟩
/-- One line is another, that is not read, or as it was but for its share and words. -/
theorem mv_set {d : deskT.D} (hz : Nz d) {c w : Nat} {l : lineT.D} (hl : l.2.2.2 = true → (lineAt d c w).2.2.2 = true ∧ l.2.1 = (lineAt d c w).2.1 ∧ l.1 ≠ 0) : Mv d (setLine d c w l) := by
  refine ⟨fun k => setLine_core d c w l k, fun k v hk hv hr => ?_⟩
  unfold rdAt at *
  rw [line_set] at hr ⊢
  split at hr
  · rename_i h
    rw [if_pos h, h.1, h.2]
    exact hl hr
  · rename_i h
    rw [if_neg h]
    exact ⟨hr, rfl, hz k v hk hv hr⟩
theorem mv_mem {d : deskT.D} (hz : Nz d) (m : Nat → Int) : Mv d (setMem d m) := ⟨fun _ => ⟨rfl, rfl⟩, fun k w hk hw hr => ⟨hr, rfl, hz k w hk hw hr⟩⟩
theorem Mv.nz {d e : deskT.D} (h : Mv d e) : Nz e := fun k w hk hw hr => (h.rd k w hk hw hr).2.2
theorem mv_drop {d : deskT.D} (hz : Nz d) (c w : Nat) : Mv d (dropD d c w) := by
  unfold dropD
  have h1 := mv_set hz (c := c) (w := w) (l := lineT.zero) (fun h => by cases h)
  exact h1.trans (mv_mem h1.nz _)
theorem mv_dropF {d : deskT.D} (hz : Nz d) (c w : Int) : Mv d (dropF d c w) := by
  unfold dropF
  split
  · exact mv_drop hz _ _
  · exact Mv.refl hz
theorem mv_take {d : deskT.D} (hz : Nz d) (c w : Nat) (n : Int) : Mv d (takeD d c w n) := by
  unfold takeD
  split
  · have h1 := mv_mem hz (goBackF d.2 (lineAt d (1 - c) w))
    have h2 := h1.trans (mv_set h1.nz (c := 1 - c) (w := w) (l := (1, (lineAt d (1 - c) w).2)) (fun h => ⟨h, rfl, by show (1 : Int) ≠ 0; decide⟩))
    exact h2.trans (mv_set h2.nz (fun h => by cases h))
  · exact mv_set hz (fun h => by cases h)
theorem mv_share {d : deskT.D} (hz : Nz d) (c n : Int) : Mv d (shareF d c n) := by
  unfold shareF
  split
  · split
    · exact Mv.refl hz
    · have h1 := mv_drop hz c.toNat (wayOf n)
      exact h1.trans (mv_take h1.nz _ _ _)
  · exact Mv.refl hz
theorem mv_own {d : deskT.D} (hz : Nz d) (c n : Int) : Mv d (ownF d c n) := by
  have h1 := mv_share hz c n
  unfold ownF
  split
  · refine h1.trans ?_
    unfold aloneD alone1 alone2
    split
    · have h2 := mv_set h1.nz (c := 1 - c.toNat) (w := (findF (shareF d c n) c n).1.toNat) (l := lineT.zero) (fun h => by cases h)
      split
      · exact h2.trans (mv_set h2.nz (fun h => ⟨h, rfl, by show (2 : Int) ≠ 0; decide⟩))
      · exact h2
    · split
      · exact mv_set h1.nz (fun h => ⟨h, rfl, by show (2 : Int) ≠ 0; decide⟩)
      · exact Mv.refl h1.nz
  · exact h1
theorem mv_write {d : deskT.D} (hz : Nz d) (c word n : Int) : Mv d (writeF d c word n) := by
  unfold writeF
  split
  · split
    · unfold setM putW
      have h1 := mv_set hz (c := c.toNat) (w := (findF d c (word.tdiv 2)).1.toNat) (l := ((lineAt d c.toNat (findF d c (word.tdiv 2)).1.toNat).1, (lineAt d c.toNat (findF d c (word.tdiv 2)).1.toNat).2.1, updA (lineAt d c.toNat (findF d c (word.tdiv 2)).1.toNat).2.2.1 (word.tmod 2).toNat n, (lineAt d c.toNat (findF d c (word.tdiv 2)).1.toNat).2.2.2)) (fun h => ⟨h, rfl, by
        rename_i h2 h3
        have hr := find_yes h3.1
        have hl := h3.1
        rw [find_eq hr.1 hr.2] at hl ⊢
        exact (of_decide_eq_true hl : _ ∧ _).1⟩)
      exact h1.trans (mv_set h1.nz (fun h => ⟨h, rfl, by show (3 : Int) ≠ 0; decide⟩))
    · exact Mv.refl hz
  · exact Mv.refl hz
/-- Of a good desk. -/
theorem good_nz {d : deskT.D} (hg : goodD d = true) : Nz d := by
  intro k w hk hw hr h0
  have h1 := ((good_iff d).1 hg).2 k hk w hw
  rcases h1 with ⟨_, _, _, _, h5⟩ | ⟨h1, _⟩
  · unfold rdAt at hr
    rw [h5] at hr
    cases hr
  · rw [h0] at h1
    exact absurd h1 (by decide)
end Go.Proofs.Ytjbbgpacijageab.M
