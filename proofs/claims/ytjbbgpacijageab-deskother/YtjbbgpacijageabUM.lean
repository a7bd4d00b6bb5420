/- Several texts in one. -/
import Derived.Test.YtjbbgpacijageabUL
/- Desks: words that are put, cores that go on. -/
namespace Go.Proofs.Ytjbbgpacijageab.M
open Go.RowKit
set_option linter.unusedVariables false
set_option linter.unusedSimpArgs false

/-- Records of the other one's failure. -/
def othR (c : Int) (f : Bool) : Rec := if f = true then [(3, 1 - c, 1001)] else []
theorem lk_puts {c : Int} (hc : 0 ≤ c ∧ c < 2) {d : deskT.D} (hg : goodK d = true) (rs : Rec) (l : progsT.D) {word n : Int} (hw : 0 ≤ word ∧ word < 32) (hn : 0 ≤ n ∧ n ≤ 4294967295) :
    ∃ f, Lk c d (putsF (d, rs) l c word n).1 f (fun k => k = word) ∧ (putsF (d, rs) l c word n).2 = rs ++ othR c f ∧ sameX ((putsF (d, rs) l c word n).1.1 c.toNat) (d.1 c.toNat) := by
  have hown : ∀ e : deskT.D, goodK e = true → sameX ((writeF (ownF e c (lineOf word)) c word n).1 c.toNat) (e.1 c.toNat) := fun e he => by
    have h1 := mv_own (good_nz (goodK_D he)) c (lineOf word)
    exact (h1.trans (mv_write h1.nz c word n)).core _
  unfold putsF
  rw [other_eq hc]
  by_cases h : holdsF d (1 - c) (lineOf word) = true
  · rw [if_pos h]
    have hf := lk_fail hc hg (holds_yes h).2 l 1001
    have he : ((failD d l (1 - c) 1001).1.1 (1 - c).toNat).2.2.1 = 0 := by
      show ((setCore d (1 - c).toNat _).1 (1 - c).toNat).2.2.1 = 0
      rw [set_at]
      rfl
    have hp := lk_put hc hf.good hw hn (holds_deep he)
    refine ⟨true, (hf.trans hp.1).cast rfl (fun x => ⟨fun h => h.elim False.elim id, Or.inr⟩), rfl, ?_⟩
    have e1 := hown _ hf.good
    rw [show (failD d l (1 - c) 1001).1.1 c.toNat = d.1 c.toNat from set_ne d _ (by omega)] at e1
    exact e1
  · rw [if_neg h]
    have hp := lk_put hc hg hw hn (Bool.eq_false_iff.2 h)
    exact ⟨false, hp.1, by show rs = rs ++ []; rw [List.append_nil], hown d hg⟩
theorem lk_all {c : Int} (hc : 0 ≤ c ∧ c < 2) (l : progsT.D) : ∀ (ws : List writeT.D) (d : deskT.D) (rs : Rec), goodK d = true → (∀ w ∈ ws, (0 ≤ w.1 ∧ w.1 < 32) ∧ (0 ≤ w.2 ∧ w.2 ≤ 4294967295)) →
    ∃ f T, Lk c d (putsAll (d, rs) l c ws).1 f T ∧ (putsAll (d, rs) l c ws).2 = rs ++ othR c f
  | [], d, rs, hg, _ => ⟨false, noT, Lk.refl hg, by show rs = rs ++ []; rw [List.append_nil]⟩
  | w :: ws, d, rs, hg, hw => by
    obtain ⟨f, h1, e1, _⟩ := lk_puts hc hg rs l (hw w List.mem_cons_self).1 (hw w List.mem_cons_self).2
    obtain ⟨g, T, h2, e2⟩ := lk_all hc l ws (putsF (d, rs) l c w.1 w.2).1 (putsF (d, rs) l c w.1 w.2).2 h1.good fun x hx => hw x (List.mem_cons_of_mem _ hx)
    refine ⟨f || g, _, h1.trans h2, ?_⟩
    show (putsAll (putsF (d, rs) l c w.1 w.2) l c ws).2 = _
    rw [e2, e1, List.append_assoc]
    congr 1
    cases f with
    | false => rfl
    | true =>
      cases g with
      | false => rfl
      | true =>
        exfalso
        rcases h1.oth with ⟨h, _⟩ | ⟨_, _, h⟩
        · cases h
        · rcases h2.oth with ⟨k, _⟩ | ⟨_, k, _⟩
          · cases k
          · exact k h
/-- A core that goes on. -/
def onC (x : coreT.D) : coreT.D := if x.2.2.1 = 0 then (nextF x.1, x.2) else bump (nextF x.1, x.2)
theorem set_twice (d : deskT.D) (c : Nat) (x y : coreT.D) : setCore (setCore d c x) c y = setCore d c y := by
  unfold setCore
  rw [updA_twice]
def cntC (x : coreT.D) : coreT.D := if x.2.2.1 = 0 then x else bump x
theorem count_set (d : deskT.D) (c : Int) (x : coreT.D) : countF (setCore d c.toNat x) c = (setCore d c.toNat (cntC x), if x.2.2.1 = 0 then [(1, c, 0)] else []) := by
  unfold countF cntC
  rw [set_at]
  split
  · rfl
  · rw [set_twice]
theorem on_set (d : deskT.D) (c : Int) (x : coreT.D) : onF (setCore d c.toNat x) c = (setCore d c.toNat (cntC (nextF x.1, x.2)), if x.2.2.1 = 0 then [(1, c, 0)] else []) := by
  unfold onF withNow
  rw [set_at, set_twice, count_set]
theorem set_self (d : deskT.D) (c : Nat) : setCore d c (d.1 c) = d := by
  unfold setCore
  refine Prod.ext ?_ rfl
  funext k
  show updA d.1 c (d.1 c) k = d.1 k
  unfold updA
  split
  · rename_i h; rw [h]
  · rfl
theorem count_self (d : deskT.D) (c : Int) : countF d c = (setCore d c.toNat (cntC (d.1 c.toNat)), if (d.1 c.toNat).2.2.1 = 0 then [(1, c, 0)] else []) := by
  conv => lhs; rw [← set_self d c.toNat]
  exact count_set d c _
theorem on_self (d : deskT.D) (c : Int) : onF d c = (setCore d c.toNat (cntC (nextF (d.1 c.toNat).1, (d.1 c.toNat).2)), if (d.1 c.toNat).2.2.1 = 0 then [(1, c, 0)] else []) := by
  conv => lhs; rw [← set_self d c.toNat]
  exact on_set d c _
/-- A core whose next instruction is counted. -/
structure CoreW (x : coreT.D) : Prop where
  now : goodP x.1 = true
  lo : 0 ≤ x.2.2.1
  hi : x.2.2.1 ≤ 3
  out : x.2.2.1 = 0 → eqT plainT x.2.2.2.1 plainT.zero = true ∧ x.2.2.2.2.1.2 = [] ∧ x.2.2.2.2.2 = 0 ∧ anyRead x = false
  ins : x.2.2.1 ≠ 0 → goodP x.2.2.2.1 = true ∧ x.2.2.2.1.2.2 = false ∧ x.1.2.2 = false ∧ (0 ≤ x.2.2.2.2.2 ∧ x.2.2.2.2.2 < 399) ∧ goodWs x.2.2.2.2.1.2 = true
theorem cnt_i1 {n : Int} (h : n ≠ 399) (g : 1 ≤ n ∧ n < 400) : 0 ≤ n ∧ n < 399 := by omega
theorem cnt_i2 {n : Int} (g : 0 ≤ n ∧ n < 399) : 1 ≤ wrap64 (n + 1) ∧ wrap64 (n + 1) < 400 := by
  rw [wrap_id (by omega)]
  omega
theorem CoreOk.weak {x : coreT.D} (h : CoreOk x) (h9 : x.2.2.2.2.2 ≠ 399) : CoreW x := by
  refine ⟨h.now, h.lo, h.hi, h.out, fun h0 => ?_⟩
  obtain ⟨g1, g2, g3, g4, g5⟩ := h.ins h0
  exact ⟨g1, g2, g3, cnt_i1 h9 g4, g5⟩
theorem CoreW.cnt {x : coreT.D} (h : CoreW x) : CoreOk (cntC x) := by
  unfold cntC
  split
  · rename_i h0
    exact ⟨h.now, h.lo, h.hi, fun _ _ => trivial, h.out, fun g => absurd h0 g⟩
  · rename_i h0
    obtain ⟨g1, g2, g3, g4, g5⟩ := h.ins h0
    exact ⟨h.now, h.lo, h.hi, fun _ _ => trivial, fun g => absurd g h0, fun _ => ⟨g1, g2, g3, cnt_i2 g4, g5⟩⟩
theorem CoreW.set {x : coreT.D} (h : CoreW x) {p : plainT.D} (hp : goodP p = true) (ho : x.2.2.1 ≠ 0 → p.2.2 = false) : CoreW (p, x.2) :=
  ⟨hp, h.lo, h.hi, h.out, fun h0 => by
    obtain ⟨g1, g2, g3, g4, g5⟩ := h.ins h0
    exact ⟨g1, g2, ho h0, g4, g5⟩⟩
theorem CoreW.next {x : coreT.D} (h : CoreW x) : CoreW (nextF x.1, x.2) := h.set (good_next h.now) fun h0 => (h.ins h0).2.2.1
/-- What is kept of lines when a core is another one. -/
theorem keepL {d : deskT.D} (hg : goodD d = true) {c : Int} (hc : 0 ≤ c ∧ c < 2) {x : coreT.D} (hx : x.2.1 = (d.1 c.toNat).2.1) : SameL d (setCore d c.toNat (cntC x)) := by
  refine sameL_keep hg (by omega) ?_
  unfold cntC
  split
  · exact hx
  · exact hx
theorem lk_cnt {c : Int} (hc : 0 ≤ c ∧ c < 2) {d : deskT.D} (hg : goodK d = true) {x : coreT.D} (hw : CoreW x) (hx : x.2.1 = (d.1 c.toNat).2.1) : Lk c d (setCore d c.toNat (cntC x)) false noT := lk_set hc hg hw.cnt (keepL (goodK_D hg) hc hx)
theorem lk_failc {c : Int} (hc : 0 ≤ c ∧ c < 2) {d : deskT.D} (hg : goodK d = true) (hd : (d.1 c.toNat).2.2.1 ≠ 0) (l : progsT.D) (why : Int) : Lk c d (failD d l c why).1 false noT := by
  refine lk_set hc hg ?_ (fail_same (goodK_D hg) _ _ _)
  rw [failC_eq]
  exact free_ok (failP_good ((((goodK_iff d).1 hg).1 c.toNat (by omega)).ins hd).1 _ _)
end Go.Proofs.Ytjbbgpacijageab.M

/- Desks: writes that are held back. -/
namespace Go.Proofs.Ytjbbgpacijageab.M
open Go.RowKit
set_option linter.unusedVariables false
set_option linter.unusedSimpArgs false

theorem atW_neg (l : List writeT.D) (word : Int) : atW l word < 0 ↔ ∀ j, j < l.length → (nthD writeT l j).1 ≠ word := by
  constructor
  · intro h j hj hw
    unfold atW at h
    split at h
    · omega
    · rename_i hn
      rw [List.findIdx?_eq_none_iff] at hn
      have := hn (l[j]) (List.getElem_mem hj)
      rw [nthD_eq hj] at hw
      simp [hw] at this
  · intro h
    rw [atW_none h]
    decide
theorem atW_at {l : List writeT.D} {word : Int} (h : 0 ≤ atW l word) : (atW l word).toNat < l.length ∧ (nthD writeT l (atW l word).toNat).1 = word := by
  unfold atW at h ⊢
  split
  · rename_i k hk
    obtain ⟨h1, h2, _⟩ := List.findIdx?_eq_some_iff_getElem.1 hk
    refine ⟨by simpa using h1, ?_⟩
    rw [show ((k : Int)).toNat = k from by omega, nthD_eq h1]
    simpa using h2
  · rename_i hk
    rw [hk] at h
    exact absurd h (by decide)
theorem nth_take {l : List writeT.D} {k j : Nat} (h : j < k) : nthD writeT (l.take k) j = nthD writeT l j := by
  unfold nthD
  rw [List.getElem?_take, if_pos h]
theorem ws_iff (l : List writeT.D) : goodWs l = true ↔ l.length ≤ 4 ∧ ∀ k, k < l.length → ((0 ≤ (nthD writeT l k).1 ∧ (nthD writeT l k).1 < 32) ∧ isW (nthD writeT l k).2 = true) ∧ ∀ j, j < k → (nthD writeT l j).1 ≠ (nthD writeT l k).1 := by
  unfold goodWs
  rw [and2, decide_eq_true_iff, List.all_eq_true]
  refine and_congr_right fun hl => ⟨fun h k hk => ?_, fun h k hk => ?_⟩
  · have := h k (List.mem_range.2 hk)
    unfold okW isB at this
    rw [and2, and2, decide_eq_true_iff, decide_eq_true_iff, atW_neg] at this
    refine ⟨⟨this.1, this.2.1⟩, fun j hj => ?_⟩
    have h3 := this.2.2 j (by rw [List.length_take]; omega)
    rwa [nth_take hj] at h3
  · obtain ⟨⟨h1, h2⟩, h3⟩ := h k (List.mem_range.1 hk)
    unfold okW isB
    rw [and2, and2, decide_eq_true_iff, decide_eq_true_iff, atW_neg]
    refine ⟨h1, h2, fun j hj => ?_⟩
    have hj : j < k := by rw [List.length_take] at hj; omega
    rw [nth_take hj]
    exact h3 j hj
theorem nth_app {l : List writeT.D} {w : writeT.D} (j : Nat) : nthD writeT (l ++ [w]) j = if j = l.length then w else nthD writeT l j := by
  unfold nthD
  rcases Nat.lt_trichotomy j l.length with h | h | h
  · rw [List.getElem?_append_left h, if_neg (by omega)]
  · rw [if_pos h, h, List.getElem?_append_right (Nat.le_refl _), Nat.sub_self]
    rfl
  · rw [if_neg (by omega), List.getElem?_append_right (by omega), List.getElem?_eq_none (show [w].length ≤ j - l.length from by show 1 ≤ _; omega), List.getElem?_eq_none (by omega)]
theorem nth_set {l : List writeT.D} {w : writeT.D} {a : Nat} (ha : a < l.length) (j : Nat) : nthD writeT (l.set a w) j = if j = a then w else nthD writeT l j := by
  unfold nthD
  rw [List.getElem?_set]
  by_cases h : a = j
  · rw [if_pos h, if_pos h.symm, if_pos (by omega)]
    rfl
  · rw [if_neg h, if_neg (fun g => h g.symm)]
theorem ws_held {l : List writeT.D} {word n : Int} (h : goodWs l = true) (hw : 0 ≤ word ∧ word < 32) (hn : isW n = true) (hr : atW l word < 0 → l.length < 4) : goodWs (heldL l (word, n)) = true := by
  rw [ws_iff] at h ⊢
  unfold heldL
  split
  · rename_i h0
    have h0 : atW l word < 0 := h0
    have hl := hr h0
    rw [atW_neg] at h0
    rw [List.length_append]
    refine ⟨(by show l.length + 1 ≤ 4; omega), fun k hk => ?_⟩
    have hk : k < l.length + 1 := hk
    rw [nth_app]
    by_cases he : k = l.length
    · rw [if_pos he]
      refine ⟨⟨hw, hn⟩, fun j hj => ?_⟩
      rw [nth_app, if_neg (by omega)]
      exact h0 j (by omega)
    · rw [if_neg he]
      refine ⟨(h.2 k (by omega)).1, fun j hj => ?_⟩
      rw [nth_app, if_neg (by omega)]
      exact (h.2 k (by omega)).2 j hj
  · rename_i h0
    have h0 : ¬ atW l word < 0 := h0
    obtain ⟨a1, a2⟩ := atW_at (l := l) (word := word) (by omega)
    rw [List.length_set]
    refine ⟨h.1, fun k hk => ?_⟩
    have key : ∀ j, (nthD writeT (l.set (atW l word).toNat (word, n)) j).1 = (nthD writeT l j).1 := fun j => by
      rw [nth_set a1]
      split
      · rename_i e
        rw [e, a2]
      · rfl
    have h1 := h.2 k hk
    refine ⟨⟨?_, ?_⟩, fun j hj => ?_⟩
    · show 0 ≤ (nthD writeT (l.set (atW l word).toNat (word, n)) k).1 ∧ (nthD writeT (l.set (atW l word).toNat (word, n)) k).1 < 32
      rw [key]
      exact h1.1.1
    · show isW (nthD writeT (l.set (atW l word).toNat (word, n)) k).2 = true
      rw [nth_set a1]
      split
      · exact hn
      · exact h1.1.2
    · show (nthD writeT (l.set (atW l word).toNat (word, n)) j).1 ≠ (nthD writeT (l.set (atW l word).toNat (word, n)) k).1
      rw [key, key]
      exact h1.2 j hj
theorem ws_mem {l : List writeT.D} (h : goodWs l = true) (w : writeT.D) (hw : w ∈ l) : (0 ≤ w.1 ∧ w.1 < 32) ∧ (0 ≤ w.2 ∧ w.2 ≤ 4294967295) := by
  obtain ⟨k, hk, rfl⟩ := List.getElem_of_mem hw
  have := (((ws_iff l).1 h).2 k hk).1
  rw [nthD_eq hk] at this
  exact ⟨this.1, of_decide_eq_true this.2⟩
end Go.Proofs.Ytjbbgpacijageab.M

/- Desks: what a step does. -/
namespace Go.Proofs.Ytjbbgpacijageab.M
open Go.RowKit
set_option linter.unusedVariables false
set_option linter.unusedSimpArgs false

/-- What comes of a turn of a core. -/
def Sk (c : Int) (d : deskT.D) (x : deskT.D × Rec) : Prop :=
  ∃ f T q, Lk c d x.1 f T ∧ x.2 = othR c f ++ q ∧ q.length ≤ 1 ∧ (∀ r ∈ q, r.2.1 = c) ∧ ((∀ r ∈ q, r.1 = 3) → ∀ k, ¬ T k)
variable {c : Int} {d : deskT.D} {l : progsT.D}
theorem one_of {r : recordT.D} (h : r.2.1 = c) : ([r] : Rec).length ≤ 1 ∧ ∀ s ∈ ([r] : Rec), s.2.1 = c := ⟨Nat.le_refl _, fun s hs => by rw [List.mem_singleton.1 hs]; exact h⟩
theorem sk_fail (hc : 0 ≤ c ∧ c < 2) (hg : goodK d = true) (hd : (d.1 c.toNat).2.2.1 ≠ 0) (why : Int) : Sk c d (failD d l c why) :=
  ⟨false, noT, [(3, c, why)], lk_failc hc hg hd l why, rfl, (one_of rfl).1, (one_of rfl).2, fun _ _ h => h⟩
theorem sk_if {P : Prop} [Decidable P] : ((if P then [(1, c, 0)] else []) : Rec).length ≤ 1 ∧ ∀ r ∈ ((if P then [(1, c, 0)] else []) : Rec), r.2.1 = c := by
  split
  · exact one_of rfl
  · exact ⟨Nat.zero_le _, fun r hr => by cases hr⟩
/-- One goes on at a desk that one left as it may be. -/
theorem sk_on {e : deskT.D} {x : coreT.D} {f : Bool} {T : Int → Prop} (hc : 0 ≤ c ∧ c < 2) (h : Lk c d e f T) (hw : CoreW x) (hs : SameL e (setCore e c.toNat (cntC x))) (hT : x.2.2.1 = 0 ∨ ∀ k, ¬ T k) :
    Sk c d (setCore e c.toNat (cntC x), othR c f ++ if x.2.2.1 = 0 then [(1, c, 0)] else []) := by
  refine ⟨f, T, _, (h.trans (lk_set hc h.good hw.cnt hs)).cast (by cases f <;> rfl) (fun k => ⟨fun g => g.elim id False.elim, Or.inl⟩), rfl, sk_if.1, sk_if.2, fun g k => ?_⟩
  rcases hT with h0 | h0
  · rw [if_pos h0] at g
    exact absurd (g _ (List.mem_singleton.2 rfl)) (show ¬ (1 : Int) = 3 by decide)
  · exact h0 k
theorem core_ok (hc : 0 ≤ c ∧ c < 2) (hg : goodK d = true) : CoreOk (d.1 c.toNat) := ((goodK_iff d).1 hg).1 c.toNat (by omega)
theorem sk_cnt {x : coreT.D} (hc : 0 ≤ c ∧ c < 2) (hg : goodK d = true) (hw : CoreW x) (hx : x.2.1 = (d.1 c.toNat).2.1) : Sk c d (setCore d c.toNat (cntC x), if x.2.2.1 = 0 then [(1, c, 0)] else []) :=
  sk_on (f := false) hc (Lk.refl hg) hw (keepL (goodK_D hg) hc hx) (Or.inr fun _ h => h)
theorem goodP_off {p : plainT.D} (h : goodP p = true) (o : Bool) : goodP (p.1, p.2.1, o) = true := by
  obtain ⟨g, a, o'⟩ := p
  exact (goodP_iff g a o).2 ((goodP_iff g a o').1 h)
theorem sk_stuck (hc : 0 ≤ c ∧ c < 2) (hg : goodK d = true) (h9 : (d.1 c.toNat).2.2.2.2.2 ≠ 399) : Sk c d (stuckF d l c) := by
  have hk := core_ok hc hg
  unfold stuckF
  split
  · rename_i h
    exact sk_fail hc hg (fun h0 => by rw [h0] at h; exact absurd h (by decide)) _
  · rename_i h
    have h0 : (d.1 c.toNat).2.2.1 = 0 := Int.le_antisymm (Int.not_lt.1 h) hk.lo
    unfold withNow
    rw [count_set]
    exact sk_cnt hc hg ((hk.weak h9).set (goodP_off hk.now true) fun g => absurd h0 g) rfl
theorem deep_i1 {n : Int} (h : 0 ≤ n) (g : n ≤ 3) (k : n ≠ 3) : 0 ≤ wrap64 (n + 1) ∧ wrap64 (n + 1) ≤ 3 ∧ wrap64 (n + 1) ≠ 0 := by
  rw [wrap_id (by omega)]
  omega
theorem deep_i2 {n : Int} (h : 1 < n) (g : n ≤ 3) : 0 ≤ wrap64 (n - 1) ∧ wrap64 (n - 1) ≤ 3 ∧ wrap64 (n - 1) ≠ 0 := by
  rw [wrap_id (by omega)]
  omega
theorem deep_i3 {n : Int} (h : 0 ≤ n) (g : n ≠ 0) : 0 < n := by omega
theorem began_w {x : coreT.D} (hk : CoreOk x) (h9 : x.2.2.2.2.2 ≠ 399) (ho : x.1.2.2 = false) (h3 : x.2.2.1 ≠ 3) : CoreW (beganC x) := by
  obtain ⟨i1, i2, i3⟩ := deep_i1 hk.lo hk.hi h3
  refine ⟨hk.now, i1, i2, fun g => absurd g i3, fun _ => ?_⟩
  show goodP (if x.2.2.1 = 0 then x.1 else x.2.2.2.1) = true ∧ (if x.2.2.1 = 0 then x.1 else x.2.2.2.1).2.2 = false ∧ x.1.2.2 = false ∧ _ ∧ goodWs x.2.2.2.2.1.2 = true
  by_cases h0 : x.2.2.1 = 0
  · obtain ⟨g1, g2, g3, g4⟩ := hk.out h0
    rw [if_pos h0, g2]
    refine ⟨hk.now, ho, ho, ?_, rfl⟩
    show (0 : Int) ≤ x.2.2.2.2.2 ∧ @LT.lt Int _ x.2.2.2.2.2 399
    rw [g3]
    decide
  · obtain ⟨g1, g2, g3, g4, g5⟩ := (hk.weak h9).ins h0
    rw [if_neg h0]
    exact ⟨g1, g2, g3, g4, g5⟩
theorem sk_begin (hc : 0 ≤ c ∧ c < 2) (hg : goodK d = true) (h9 : (d.1 c.toNat).2.2.2.2.2 ≠ 399) (ho : (d.1 c.toNat).1.2.2 = false) : Sk c d (beginF d l c) := by
  have hk := core_ok hc hg
  unfold beginF
  split
  · rename_i h
    exact sk_fail hc hg (by rw [h]; decide) _
  · rename_i h
    rw [on_set]
    exact sk_cnt hc hg (began_w hk h9 ho h).next rfl
theorem sk_end (hc : 0 ≤ c ∧ c < 2) (hg : goodK d = true) (h9 : (d.1 c.toNat).2.2.2.2.2 ≠ 399) : Sk c d (endF d l c) := by
  have hk := core_ok hc hg
  unfold endF
  split
  · exact sk_stuck hc hg h9
  · rename_i h0
    split
    · rename_i h1
      obtain ⟨i1, i2, i3⟩ := deep_i2 h1 hk.hi
      rw [on_set]
      have hw : CoreW (downC (d.1 c.toNat)) := ⟨hk.now, i1, i2, fun g => absurd g i3, fun _ => (hk.weak h9).ins h0⟩
      exact sk_cnt hc hg hw.next rfl
    · rename_i h1
      have h2 : Lk c d (endedD d c) false noT := lk_set hc hg (free_ok (good_next hk.now)) (sameL_freed (goodK_D hg))
      obtain ⟨f, T, h3, e3⟩ := lk_all hc l (wsOf d c) (endedD d c) [] h2.good fun w hw => ws_mem ((hk.ins h0).2.2.2.2) w hw
      refine ⟨f, _, [(2, c, wrap64 ((d.1 c.toNat).2.2.2.2.2 + 1))], (h2.trans h3).cast (by cases f <;> rfl) (fun k => Iff.rfl), ?_, (one_of rfl).1, (one_of rfl).2, fun g => absurd (g _ (List.mem_singleton.2 rfl)) (show ¬ (2 : Int) = 3 by decide)⟩
      show _ ++ _ = _
      rw [e3]
      rfl
theorem sk_give (hc : 0 ≤ c ∧ c < 2) (hg : goodK d = true) (h9 : (d.1 c.toNat).2.2.2.2.2 ≠ 399) (n : Int) : Sk c d (giveF d l c n) := by
  unfold giveF
  split
  · exact sk_stuck hc hg h9
  · rename_i h
    exact sk_fail hc hg h _
theorem alone_any {p : plainT.D} {i : instrT.D} (h : goodP p = true) (hi : goodI i = true) (ho : p.2.2 = false) : goodP (aloneF p i).1 = true := by
  by_cases h12 : i.1 = 12
  · unfold aloneF
    rw [if_pos ⟨hi, h⟩, if_neg (by rw [ho]; decide), h12, if_neg (by decide), if_neg (by decide), if_neg (by decide), if_neg (by decide), if_neg (by decide), if_pos rfl]
    exact goodP_off h true
  · exact (good_alone h hi h12 ho).1
theorem sk_alone (hc : 0 ≤ c ∧ c < 2) (hg : goodK d = true) (h9 : (d.1 c.toNat).2.2.2.2.2 ≠ 399) (ho : (d.1 c.toNat).1.2.2 = false) {i : instrT.D} (hi : goodI i = true) : Sk c d (aloneT d l c i) := by
  have hk := core_ok hc hg
  unfold aloneT
  split
  · exact sk_stuck hc hg h9
  · rename_i h
    unfold withNow
    rw [count_set]
    refine sk_cnt hc hg ((hk.weak h9).set (alone_any hk.now hi ho) fun g => ?_) rfl
    refine (good_alone hk.now hi (fun h12 => h ⟨h12, ?_⟩) ho).2
    have := hk.lo
    exact deep_i3 this g
/-- Outside of transactions. -/
theorem zero_count {x : coreT.D} (h : CoreOk x) (h0 : x.2.2.1 = 0) : x.2.2.2.2.2 ≠ 399 := by
  rw [(h.out h0).2.2.1]
  decide
theorem sk_out (hc : 0 ≤ c ∧ c < 2) (hg : goodK d = true) (h0 : (d.1 c.toNat).2.2.1 = 0) (i : instrT.D) {word : Int} (hw : 0 ≤ word ∧ word < 32) : Sk c d (outF d l c i word) := by
  have hk := core_ok hc hg
  have hz : (d.1 c.toNat).2.2.2.2.2 ≠ 399 := zero_count hk h0
  have h1 : Lk c d (hadF d c i word) false noT ∧ ((hadF d c i word).1 c.toNat).2.2 = (d.1 c.toNat).2.2 := by
    unfold hadF
    split
    · refine ⟨lk_set hc hg ?_ (sameL_keep (goodK_D hg) (by omega) rfl), by unfold withNow; rw [set_at]⟩
      exact ⟨good_put hk.now _ _, hk.lo, hk.hi, fun _ _ => trivial, hk.out, fun g => absurd h0 g⟩
    · exact ⟨Lk.refl hg, rfl⟩
  have hon : ∀ (e : deskT.D) (f : Bool) (T : Int → Prop), Lk c d e f T → (e.1 c.toNat).2.2 = (d.1 c.toNat).2.2 → Sk c d ((onF e c).1, othR c f ++ (onF e c).2) := fun e f T he h2 => by
    have hk2 := core_ok hc he.good
    rw [on_self]
    have h02 : (e.1 c.toNat).2.2.1 = 0 := by rw [h2]; exact h0
    exact sk_on hc he (hk2.weak (zero_count hk2 h02)).next (keepL (goodK_D he.good) hc rfl) (Or.inl h02)
  unfold outF
  split
  · have h2 := h1.1.trans (lk_share (c := c) h1.1.good (lineOf word))
    have := hon _ _ _ h2 (by rw [(share_core _ _ _ _).2]; exact h1.2)
    exact this
  · obtain ⟨f, h2, e2, e3⟩ := lk_puts hc h1.1.good [] l hw (of_decide_eq_true (isW_get hk.now i.2.1))
    have := hon _ _ _ (h1.1.trans h2) (by rw [e3.2]; exact h1.2)
    unfold thenOn
    rw [e2]
    have e : (false || f) = f := by cases f <;> rfl
    rw [e] at this
    exact this
end Go.Proofs.Ytjbbgpacijageab.M

/- Desks: what steps, lines let go and kicks do. -/
namespace Go.Proofs.Ytjbbgpacijageab.M
open Go.RowKit
set_option linter.unusedVariables false
set_option linter.unusedSimpArgs false
variable {c : Int} {d : deskT.D} {l : progsT.D}

/-- Lines of a core are those of a desk, but for what is read. -/
def LC (c : Nat) (e : deskT.D) (x : coreT.D) : Prop := ∀ w, w < 4 → (x.2.1 w).1 = (lineAt e c w).1 ∧ (x.2.1 w).2.1 = (lineAt e c w).2.1 ∧ (x.2.1 w).2.2.1 = (lineAt e c w).2.2.1 ∧ ((x.2.1 w).2.2.2 = true → (lineAt e c w).1 ≠ 0)
theorem lc_keep {e : deskT.D} (hg : goodK e = true) {k : Nat} (hk : k < 2) {x : coreT.D} (h : x.2.1 = (e.1 k).2.1) : LC k e x := fun w hw => by
  rw [h]
  exact ⟨rfl, rfl, rfl, fun hr => good_nz (goodK_D hg) k w hk hw hr⟩
theorem lc_cnt {k : Nat} {e : deskT.D} {x : coreT.D} (h : LC k e x) : LC k e (cntC x) := by
  unfold cntC
  split
  · exact h
  · exact h
/-- Between a look and a write of a transaction. -/
def Mid (c : Int) (d D : deskT.D) : Prop := ∃ e x, D = setCore e c.toNat x ∧ Lk c d e false noT ∧ CoreW x ∧ LC c.toNat e x ∧ x.2.2 = (d.1 c.toNat).2.2
theorem mid_seen (hc : 0 ≤ c ∧ c < 2) (hg : goodK d = true) (h9 : (d.1 c.toNat).2.2.2.2.2 ≠ 399) (h0 : (d.1 c.toNat).2.2.1 ≠ 0) (i : instrT.D) {word : Int} (hw : 0 ≤ word ∧ word < 32) : Mid c d (seenF d c i word) := by
  have hk := core_ok hc hg
  have ho : (d.1 c.toNat).1.2.2 = false := (hk.ins h0).2.2.1
  unfold seenF
  split
  · unfold loadsF
    split
    · exact ⟨d, _, rfl, Lk.refl hg, (hk.weak h9).set (good_put hk.now _ _) (fun _ => by rw [off_put]; exact ho), lc_keep hg (by omega) rfl, rfl⟩
    · have hs := lk_share (c := c) hg (lineOf word)
      have hks := core_ok hc hs.good
      have e2 := (share_core d c (lineOf word) c.toNat).2
      have h9' : ((shareF d c (lineOf word)).1 c.toNat).2.2.2.2.2 ≠ 399 := by rw [e2]; exact h9
      have h0' : ((shareF d c (lineOf word)).1 c.toNat).2.2.1 ≠ 0 := by rw [e2]; exact h0
      have hl : 0 ≤ lineOf word ∧ lineOf word < 16 := by
        obtain ⟨w, rfl⟩ : ∃ w : Nat, word = (w : Int) := ⟨word.toNat, by omega⟩
        rw [lineOf_nat (by omega)]
        omega
      have hhas := (shareF_ok (goodK_D hg) c (lineOf word)).2.2 hc hl
      have hway : (findF (shareF d c (lineOf word)) c (lineOf word)).1.toNat = wayOf (lineOf word) := by rw [find_eq hc hl]; rfl
      unfold readD withNow
      rw [set_at, set_twice, hway]
      have hW := hks.weak h9'
      refine ⟨shareF d c (lineOf word), _, rfl, hs, ⟨good_put hks.now _ _, hks.lo, hks.hi, fun g => absurd g h0', fun _ => ?_⟩, fun w hw' => ?_, e2⟩
      · obtain ⟨g1, g2, g3, g4, g5⟩ := hW.ins h0'
        exact ⟨g1, g2, by show (putF ((shareF d c (lineOf word)).1 c.toNat).1 _ _).2.2 = false; rw [off_put]; exact g3, g4, g5⟩
      · show (updA ((shareF d c (lineOf word)).1 c.toNat).2.1 (wayOf (lineOf word)) _ w).1 = _ ∧ (updA ((shareF d c (lineOf word)).1 c.toNat).2.1 (wayOf (lineOf word)) _ w).2.1 = _ ∧ (updA ((shareF d c (lineOf word)).1 c.toNat).2.1 (wayOf (lineOf word)) _ w).2.2.1 = _ ∧ ((updA ((shareF d c (lineOf word)).1 c.toNat).2.1 (wayOf (lineOf word)) _ w).2.2.2 = true → _)
        by_cases e : w = wayOf (lineOf word)
        · rw [e, updA_at]
          exact ⟨rfl, rfl, rfl, fun _ => (of_decide_eq_true hhas : _ ∧ _).1⟩
        · rw [updA_ne e]
          exact ⟨rfl, rfl, rfl, fun hr => good_nz (goodK_D hs.good) c.toNat w (by omega) hw' hr⟩
  · exact ⟨d, d.1 c.toNat, (set_self d _).symm, Lk.refl hg, hk.weak h9, lc_keep hg (by omega) rfl, rfl⟩
theorem mid_kept {nn : Nat} {D : deskT.D} (hc : 0 ≤ c ∧ c < 2) (hg : goodK d = true) (h0 : (d.1 c.toNat).2.2.1 ≠ 0) (hm : Mid c d D) {i : instrT.D} {word n : Int} (hw : 0 ≤ word ∧ word < 32) (hn : isW n = true) (hr : i.1 ≠ 5 → atW (wsOf d c) word < 0 → (wsOf d c).length < 4) : ∃ e x, keptF nn D c i word n = setCore e c.toNat x ∧ Lk c d e false noT ∧ CoreW x ∧ LC c.toNat e x ∧ x.2.2.1 = (d.1 c.toNat).2.2.1 := by
  obtain ⟨e, x, rfl, h1, h2, h3, h4⟩ := hm
  unfold keptF
  split
  · rename_i h5
    unfold putWs wsOf
    rw [set_at, set_twice]
    refine ⟨e, _, rfl, h1, ⟨h2.now, h2.lo, h2.hi, fun g => absurd g (by show x.2.2.1 ≠ 0; rw [h4]; exact h0), fun g => ?_⟩, h3, by show x.2.2.1 = _; rw [h4]⟩
    obtain ⟨g1, g2, g3, g4, g5⟩ := h2.ins (by rw [h4]; exact h0)
    refine ⟨g1, g2, g3, g4, ?_⟩
    show goodWs (heldL x.2.2.2.2.1.2 (word, n)) = true
    refine ws_held g5 hw hn ?_
    rw [h4]
    exact hr h5
  · exact ⟨e, x, rfl, h1, h2, h3, by rw [h4]⟩
theorem sk_in {nn : Nat} (hc : 0 ≤ c ∧ c < 2) (hg : goodK d = true) (h9 : (d.1 c.toNat).2.2.2.2.2 ≠ 399) (h0 : (d.1 c.toNat).2.2.1 ≠ 0) (i : instrT.D) {word : Int} (hw : 0 ≤ word ∧ word < 32) : Sk c d (inF nn d l c i word) := by
  have hk := core_ok hc hg
  unfold inF
  split
  · exact sk_fail hc hg h0 _
  · rename_i hroom
    obtain ⟨e, x, he, h1, h2, h3, h4⟩ := mid_kept (nn := nn) hc hg h0 (mid_seen hc hg h9 h0 i hw) (i := i) hw (isW_get hk.now i.2.1) (fun h5 ha => by
      have hle : (wsOf d c).length ≤ 4 := good_ws hg hc
      unfold roomF at hroom
      rw [if_neg (by omega)] at hroom
      split at hroom
      · exact absurd rfl hroom
      · have : ¬ (i.1 ≠ 5 ∧ ((wsOf d c).length : Int) = 4) := fun g => hroom (decide_eq_true g)
        have : ¬ ((wsOf d c).length : Int) = 4 := fun g => this ⟨h5, g⟩
        omega)
    rw [he, on_set]
    have := sk_on (f := false) hc h1 h2.next (sameL_set (goodK_D h1.good) (lc_cnt (x := (nextF x.1, x.2)) h3)) (Or.inr fun _ h => h)
    exact this
theorem sk_touch {nn : Nat} (hc : 0 ≤ c ∧ c < 2) (hg : goodK d = true) (h9 : (d.1 c.toNat).2.2.2.2.2 ≠ 399) (i : instrT.D) : Sk c d (touchT nn d l c i) := by
  unfold touchT
  split
  · rename_i hw
    have hw : 0 ≤ wordF (d.1 c.toNat).1 i ∧ wordF (d.1 c.toNat).1 i < 32 := ⟨(wd_rng _).1, hw⟩
    split
    · rename_i h0
      exact sk_out hc hg h0 i hw
    · rename_i h0
      exact sk_in hc hg h9 h0 i hw
  · exact sk_stuck hc hg h9
theorem sk_steps {nn : Nat} (hc : 0 ≤ c ∧ c < 2) (hg : goodK d = true) (ho : (d.1 c.toNat).1.2.2 = false) : Sk c d (stepsF nn d l c) := by
  have hk := core_ok hc hg
  unfold stepsF
  by_cases h9 : (d.1 c.toNat).2.2.2.2.2 = 399
  · rw [if_pos h9]
    exact sk_fail hc hg (fun h0 => zero_count hk h0 h9) _
  · rw [if_neg h9]
    split
    · exact sk_begin hc hg h9 ho
    · split
      · exact sk_end hc hg h9
      · split
        · exact sk_give hc hg h9 _
        · split
          · exact sk_touch hc hg h9 _
          · exact sk_alone hc hg h9 ho (fetch_ok _ _)
/-- What a step answers. -/
theorem step_ok {nn : Nat} (hg : goodK d = true) : goodK (stepF nn d l c).1 = true ∧ (((stepF nn d l c).2.2 ≠ 0 ∧ (stepF nn d l c).1 = d) ∨ ((stepF nn d l c).2.2 = 0 ∧ (0 ≤ c ∧ c < 2) ∧ Sk c d ((stepF nn d l c).1, (stepF nn d l c).2.1))) := by
  unfold stepF
  by_cases h : refF d c = 0
  · rw [if_pos h]
    split
    · exact ⟨hg, Or.inl ⟨(show ¬ (4 : Int) = 0 by decide), rfl⟩⟩
    · rename_i ho
      have hs := sk_steps (nn := nn) (l := l) (ref_ok h).2 hg (Bool.eq_false_iff.2 ho)
      obtain ⟨f, T, q, h1, _⟩ := id hs
      exact ⟨h1.good, Or.inr ⟨rfl, (ref_ok h).2, hs⟩⟩
  · rw [if_neg h]
    exact ⟨hg, Or.inl ⟨h, rfl⟩⟩
theorem step_ref {nn : Nat} (hg : goodK d = false) : (stepF nn d l c).2.2 = 1 ∧ (stepF nn d l c).1 = d := by
  unfold stepF
  have h : refF d c = 1 := by
    unfold refF
    rw [if_neg (by rw [hg]; decide)]
  rw [h]
  exact ⟨rfl, rfl⟩
theorem step_zero {nn : Nat} (h : (stepF nn d l c).2.2 = 0) : goodK d = true := by
  cases hg : goodK d with
  | true => rfl
  | false =>
    rw [(step_ref hg).1] at h
    cases h
theorem evict_ok {way : Int} (hg : goodK d = true) : goodK (evictF d l c way).1 = true := by
  have hd : ∀ e : deskT.D, goodK e = true → goodK (dropF e c way) = true := fun e he =>
    goodK_mv he (mv_dropF (good_nz (goodK_D he)) c way) (dropF_ok (goodK_D he) c way).1
  unfold evictF
  split
  · rename_i h
    have hc := (ref_ok h).2
    split
    · rename_i hw
      split
      · rename_i hr
        refine hd _ (lk_failc hc hg (fun h0 => ?_) l 1002).good
        have h3 := ((core_ok hc hg).out h0).2.2.2
        have : anyRead (d.1 c.toNat) = true := (any_iff _).2 ⟨way.toNat, by omega, hr⟩
        rw [h3] at this
        cases this
      · exact hd _ hg
    · exact hg
  · exact hg
theorem evict_ref {way : Int} (hg : goodK d = false) : (evictF d l c way).2.2 = 1 := by
  unfold evictF
  have h : refF d c = 1 := by
    unfold refF
    rw [if_neg (by rw [hg]; decide)]
  rw [h]
  rfl
theorem kick_ok (hg : goodK d = true) : goodK (kickF d l c).1 = true := by
  unfold kickF
  split
  · rename_i h
    have hc := (ref_ok h).2
    split
    · rename_i h0
      exact (lk_failc hc hg (fun e => by rw [e] at h0; exact absurd h0 (by decide)) l 1004).good
    · exact hg
  · exact hg
theorem kick_ref (hg : goodK d = false) : (kickF d l c).2.2 = 1 := by
  unfold kickF
  have h : refF d c = 1 := by
    unfold refF
    rw [if_neg (by rw [hg]; decide)]
  rw [h]
  rfl
end Go.Proofs.Ytjbbgpacijageab.M
