/- Several texts in one. -/
import Derived.Test.YtjbbgpacijageabGreatUL
/- Desks: words that are put, cores that go on. -/
namespace Go.Proofs.YtjbbgpacijageabGreat.M
open Go.RowKit
set_option linter.unusedVariables false
set_option linter.unusedSimpArgs false

def othR (c : Int) (f : Bool) : Rec := if f = true then [(3, 1 - c, 1001)] else []
theorem lk_puts {c : Int} (hc : 0 ≤ c ∧ c < 2) {d : deskT.D} (hg : goodK d = true) (rs : Rec) (l : progsT.D) {word n : Int} (hw : 0 ≤ word ∧ word < 32) (hn : 0 ≤ n ∧ n ≤ 4294967295) :
    ∃ f, Lk c d (putsF (d, rs) l c word n).1 f (fun k => k = word) ∧ (putsF (d, rs) l c word n).2 = rs ++ othR c f ∧ sameX ((putsF (d, rs) l c word n).1.1 c.toNat) (d.1 c.toNat) := by
  have hown : ∀ e : deskT.D, goodK e = true → sameX ((writeF (ownF e c (lineOf word)) c word n).1 c.toNat) (e.1 c.toNat) := fun e he => by
    have h1 := mv_own (good_nz (goodK_D he)) c (lineOf word)
    exact (h1.trans (mv_write h1.nz c word n)).core _
  unfold putsF
  rw [other_eq hc]
  by_cases h : holdsF d (1 - c) (lineOf word) = true
  · rw [if_pos h]
    have hf := lk_fail hc hg (holds_yes h).2 l 1001
    have he : ((failD d l (1 - c) 1001).1.1 (1 - c).toNat).2.2.1 = 0 := by
      show ((setCore d (1 - c).toNat _).1 (1 - c).toNat).2.2.1 = 0
      rw [set_at]
      rfl
    have hp := lk_put hc hf.good hw hn (holds_deep he)
    refine ⟨true, (hf.trans hp.1).cast rfl (fun x => ⟨fun h => h.elim False.elim id, Or.inr⟩), rfl, ?_⟩
    have e1 := hown _ hf.good
    rw [show (failD d l (1 - c) 1001).1.1 c.toNat = d.1 c.toNat from set_ne d _ (by omega)] at e1
    exact e1
  · rw [if_neg h]
    have hp := lk_put hc hg hw hn (Bool.eq_false_iff.2 h)
    exact ⟨false, hp.1, by show rs = rs ++ []; rw [List.append_nil], hown d hg⟩
theorem set_twice (d : deskT.D) (c : Nat) (x y : coreT.D) : setCore (setCore d c x) c y = setCore d c y := by
  unfold setCore
  rw [updA_twice]
def cntC (x : coreT.D) : coreT.D := if x.2.2.1 = 0 then x else bump x
theorem count_set (d : deskT.D) (c : Int) (x : coreT.D) : countF (setCore d c.toNat x) c = (setCore d c.toNat (cntC x), if x.2.2.1 = 0 then [(1, c, 0)] else []) := by
  unfold countF cntC
  rw [set_at]
  split
  · rfl
  · rw [set_twice]
theorem on_set (d : deskT.D) (c : Int) (x : coreT.D) : onF (setCore d c.toNat x) c = (setCore d c.toNat (cntC (nextF x.1, x.2)), if x.2.2.1 = 0 then [(1, c, 0)] else []) := by
  unfold onF withNow
  rw [set_at, set_twice, count_set]
theorem set_self (d : deskT.D) (c : Nat) : setCore d c (d.1 c) = d := by
  unfold setCore
  refine Prod.ext ?_ rfl
  funext k
  show updA d.1 c (d.1 c) k = d.1 k
  unfold updA
  split
  · rename_i h; rw [h]
  · rfl
theorem on_self (d : deskT.D) (c : Int) : onF d c = (setCore d c.toNat (cntC (nextF (d.1 c.toNat).1, (d.1 c.toNat).2)), if (d.1 c.toNat).2.2.1 = 0 then [(1, c, 0)] else []) := by
  conv => lhs; rw [← set_self d c.toNat]
  exact on_set d c _
structure CoreW (x : coreT.D) : Prop where
  now : goodP x.1 = true
  lo : 0 ≤ x.2.2.1
  hi : x.2.2.1 ≤ 3
  out : x.2.2.1 = 0 → eqT plainT x.2.2.2.1 plainT.zero = true ∧ x.2.2.2.2.1.2 = [] ∧ x.2.2.2.2.2 = 0 ∧ anyRead x = false
  ins : x.2.2.1 ≠ 0 → goodP x.2.2.2.1 = true ∧ x.2.2.2.1.2.2 = false ∧ x.1.2.2 = false ∧ (0 ≤ x.2.2.2.2.2 ∧ x.2.2.2.2.2 < 399) ∧ goodWs x.2.2.2.2.1.2 = true
theorem CoreW.set {x : coreT.D} (h : CoreW x) {p : plainT.D} (hp : goodP p = true) (ho : x.2.2.1 ≠ 0 → p.2.2 = false) : CoreW (p, x.2) :=
  ⟨hp, h.lo, h.hi, h.out, fun h0 => by
    obtain ⟨g1, g2, g3, g4, g5⟩ := h.ins h0
    exact ⟨g1, g2, ho h0, g4, g5⟩⟩
theorem CoreW.next {x : coreT.D} (h : CoreW x) : CoreW (nextF x.1, x.2) := h.set (good_next h.now) fun h0 => (h.ins h0).2.2.1
end Go.Proofs.YtjbbgpacijageabGreat.M

/- Desks: writes that are held back. -/
namespace Go.Proofs.YtjbbgpacijageabGreat.M
open Go.RowKit
set_option linter.unusedVariables false
set_option linter.unusedSimpArgs false

theorem atW_neg (l : List writeT.D) (word : Int) : atW l word < 0 ↔ ∀ j, j < l.length → (nthD writeT l j).1 ≠ word := by
  constructor
  · intro h j hj hw
    unfold atW at h
    split at h
    · omega
    · rename_i hn
      rw [List.findIdx?_eq_none_iff] at hn
      have := hn (l[j]) (List.getElem_mem hj)
      rw [nthD_eq hj] at hw
      simp [hw] at this
  · intro h
    rw [atW_none h]
    decide
theorem atW_at {l : List writeT.D} {word : Int} (h : 0 ≤ atW l word) : (atW l word).toNat < l.length ∧ (nthD writeT l (atW l word).toNat).1 = word := by
  unfold atW at h ⊢
  split
  · rename_i k hk
    obtain ⟨h1, h2, _⟩ := List.findIdx?_eq_some_iff_getElem.1 hk
    refine ⟨by simpa using h1, ?_⟩
    rw [show ((k : Int)).toNat = k from by omega, nthD_eq h1]
    simpa using h2
  · rename_i hk
    rw [hk] at h
    exact absurd h (by decide)
theorem nth_take {l : List writeT.D} {k j : Nat} (h : j < k) : nthD writeT (l.take k) j = nthD writeT l j := by
  unfold nthD
  rw [List.getElem?_take, if_pos h]
theorem ws_iff (l : List writeT.D) : goodWs l = true ↔ l.length ≤ 4 ∧ ∀ k, k < l.length → ((0 ≤ (nthD writeT l k).1 ∧ (nthD writeT l k).1 < 32) ∧ isW (nthD writeT l k).2 = true) ∧ ∀ j, j < k → (nthD writeT l j).1 ≠ (nthD writeT l k).1 := by
  unfold goodWs
  rw [and2, decide_eq_true_iff, List.all_eq_true]
  refine and_congr_right fun hl => ⟨fun h k hk => ?_, fun h k hk => ?_⟩
  · have := h k (List.mem_range.2 hk)
    unfold okW isB at this
    rw [and2, and2, decide_eq_true_iff, decide_eq_true_iff, atW_neg] at this
    refine ⟨⟨this.1, this.2.1⟩, fun j hj => ?_⟩
    have h3 := this.2.2 j (by rw [List.length_take]; omega)
    rwa [nth_take hj] at h3
  · obtain ⟨⟨h1, h2⟩, h3⟩ := h k (List.mem_range.1 hk)
    unfold okW isB
    rw [and2, and2, decide_eq_true_iff, decide_eq_true_iff, atW_neg]
    refine ⟨h1, h2, fun j hj => ?_⟩
    have hj : j < k := by rw [List.length_take] at hj; omega
    rw [nth_take hj]
    exact h3 j hj
theorem ws_mem {l : List writeT.D} (h : goodWs l = true) (w : writeT.D) (hw : w ∈ l) : (0 ≤ w.1 ∧ w.1 < 32) ∧ (0 ≤ w.2 ∧ w.2 ≤ 4294967295) := by
  obtain ⟨k, hk, rfl⟩ := List.getElem_of_mem hw
  have := (((ws_iff l).1 h).2 k hk).1
  rw [nthD_eq hk] at this
  exact ⟨this.1, of_decide_eq_true this.2⟩
end Go.Proofs.YtjbbgpacijageabGreat.M

/- Desks: what a step does. -/
namespace Go.Proofs.YtjbbgpacijageabGreat.M
open Go.RowKit
set_option linter.unusedVariables false
set_option linter.unusedSimpArgs false

variable {c : Int} {d : deskT.D} {l : progsT.D}
theorem core_ok (hc : 0 ≤ c ∧ c < 2) (hg : goodK d = true) : CoreOk (d.1 c.toNat) := ((goodK_iff d).1 hg).1 c.toNat (by omega)
theorem deep_i1 {n : Int} (h : 0 ≤ n) (g : n ≤ 3) (k : n ≠ 3) : 0 ≤ wrap64 (n + 1) ∧ wrap64 (n + 1) ≤ 3 ∧ wrap64 (n + 1) ≠ 0 := by
  rw [wrap_id (by omega)]
  omega
theorem deep_i2 {n : Int} (h : 1 < n) (g : n ≤ 3) : 0 ≤ wrap64 (n - 1) ∧ wrap64 (n - 1) ≤ 3 ∧ wrap64 (n - 1) ≠ 0 := by
  rw [wrap_id (by omega)]
  omega
theorem deep_i3 {n : Int} (h : 0 ≤ n) (g : n ≠ 0) : 0 < n := by omega
theorem zero_count {x : coreT.D} (h : CoreOk x) (h0 : x.2.2.1 = 0) : x.2.2.2.2.2 ≠ 399 := by
  rw [(h.out h0).2.2.1]
  decide
end Go.Proofs.YtjbbgpacijageabGreat.M

/- Desks: what steps, lines let go and kicks do. -/
namespace Go.Proofs.YtjbbgpacijageabGreat.M
open Go.RowKit
set_option linter.unusedVariables false
set_option linter.unusedSimpArgs false
variable {c : Int} {d : deskT.D} {l : progsT.D}

end Go.Proofs.YtjbbgpacijageabGreat.M
