/- Desks: words that are put, cores that go on. -/
import Derived.Test.YtjbbgpacijageabH4
namespace Go.Proofs.Ytjbbgpacijageab.M
open Go.RowKit
set_option linter.unusedVariables false
set_option linter.unusedSimpArgs false

/-- Records of the other one's failure. -/
def othR (c : Int) (f : Bool) : Rec := if f = true then [(3, 1 - c, 1001)] else []
theorem lk_puts {c : Int} (hc : 0 ≤ c ∧ c < 2) {d : deskT.D} (hg : goodK d = true) (rs : Rec) (l : progsT.D) {word n : Int} (hw : 0 ≤ word ∧ word < 32) (hn : 0 ≤ n ∧ n ≤ 4294967295) :
    ∃ f, Lk c d (putsF (d, rs) l c word n).1 f (fun k => k = word) ∧ (putsF (d, rs) l c word n).2 = rs ++ othR c f ∧ sameX ((putsF (d, rs) l c word n).1.1 c.toNat) (d.1 c.toNat) := by
  have hown : ∀ e : deskT.D, goodK e = true → sameX ((writeF (ownF e c (lineOf word)) c word n).1 c.toNat) (e.1 c.toNat) := fun e he => by
    have h1 := mv_own (good_nz (goodK_D he)) c (lineOf word)
    exact (h1.trans (mv_write h1.nz c word n)).core _
  unfold putsF
  rw [other_eq hc]
  by_cases h : holdsF d (1 - c) (lineOf word) = true
  · rw [if_pos h]
    have hf := lk_fail hc hg (holds_yes h).2 l 1001
    have he : ((failD d l (1 - c) 1001).1.1 (1 - c).toNat).2.2.1 = 0 := by
      show ((setCore d (1 - c).toNat _).1 (1 - c).toNat).2.2.1 = 0
      rw [set_at]
      rfl
    have hp := lk_put hc hf.good hw hn (holds_deep he)
    refine ⟨true, (hf.trans hp.1).cast rfl (fun x => ⟨fun h => h.elim False.elim id, Or.inr⟩), rfl, ?_⟩
    have e1 := hown _ hf.good
    rw [show (failD d l (1 - c) 1001).1.1 c.toNat = d.1 c.toNat from set_ne d _ (by omega)] at e1
    exact e1
  · rw [if_neg h]
    have hp := lk_put hc hg hw hn (Bool.eq_false_iff.2 h)
    exact ⟨false, hp.1, by show rs = rs ++ []; rw [List.append_nil], hown d hg⟩
theorem lk_all {c : Int} (hc : 0 ≤ c ∧ c < 2) (l : progsT.D) : ∀ (ws : List writeT.D) (d : deskT.D) (rs : Rec), goodK d = true → (∀ w ∈ ws, (0 ≤ w.1 ∧ w.1 < 32) ∧ (0 ≤ w.2 ∧ w.2 ≤ 4294967295)) →
    ∃ f T, Lk c d (putsAll (d, rs) l c ws).1 f T ∧ (putsAll (d, rs) l c ws).2 = rs ++ othR c f
  | [], d, rs, hg, _ => ⟨false, noT, Lk.refl hg, by show rs = rs ++ []; rw [List.append_nil]⟩
  | w :: ws, d, rs, hg, hw => by
    obtain ⟨f, h1, e1, _⟩ := lk_puts hc hg rs l (hw w List.mem_cons_self).1 (hw w List.mem_cons_self).2
    obtain ⟨g, T, h2, e2⟩ := lk_all hc l ws (putsF (d, rs) l c w.1 w.2).1 (putsF (d, rs) l c w.1 w.2).2 h1.good fun x hx => hw x (List.mem_cons_of_mem _ hx)
    refine ⟨f || g, _, h1.trans h2, ?_⟩
    show (putsAll (putsF (d, rs) l c w.1 w.2) l c ws).2 = _
    rw [e2, e1, List.append_assoc]
    congr 1
    cases f with
    | false => rfl
    | true =>
      cases g with
      | false => rfl
      | true =>
        exfalso
        rcases h1.oth with ⟨h, _⟩ | ⟨_, _, h⟩
        · cases h
        · rcases h2.oth with ⟨k, _⟩ | ⟨_, k, _⟩
          · cases k
          · exact k h
/-- A core that goes on. -/
def onC (x : coreT.D) : coreT.D := if x.2.2.1 = 0 then (nextF x.1, x.2) else bump (nextF x.1, x.2)
theorem set_twice (d : deskT.D) (c : Nat) (x y : coreT.D) : setCore (setCore d c x) c y = setCore d c y := by
  unfold setCore
  rw [updA_twice]
def cntC (x : coreT.D) : coreT.D := if x.2.2.1 = 0 then x else bump x
theorem count_set (d : deskT.D) (c : Int) (x : coreT.D) : countF (setCore d c.toNat x) c = (setCore d c.toNat (cntC x), if x.2.2.1 = 0 then [(1, c, 0)] else []) := by
  unfold countF cntC
  rw [set_at]
  split
  · rfl
  · rw [set_twice]
theorem on_set (d : deskT.D) (c : Int) (x : coreT.D) : onF (setCore d c.toNat x) c = (setCore d c.toNat (cntC (nextF x.1, x.2)), if x.2.2.1 = 0 then [(1, c, 0)] else []) := by
  unfold onF withNow
  rw [set_at, set_twice, count_set]
theorem set_self (d : deskT.D) (c : Nat) : setCore d c (d.1 c) = d := by
  unfold setCore
  refine Prod.ext ?_ rfl
  funext k
  show updA d.1 c (d.1 c) k = d.1 k
  unfold updA
  split
  · rename_i h; rw [h]
  · rfl
theorem count_self (d : deskT.D) (c : Int) : countF d c = (setCore d c.toNat (cntC (d.1 c.toNat)), if (d.1 c.toNat).2.2.1 = 0 then [(1, c, 0)] else []) := by
  conv => lhs; rw [← set_self d c.toNat]
  exact count_set d c _
theorem on_self (d : deskT.D) (c : Int) : onF d c = (setCore d c.toNat (cntC (nextF (d.1 c.toNat).1, (d.1 c.toNat).2)), if (d.1 c.toNat).2.2.1 = 0 then [(1, c, 0)] else []) := by
  conv => lhs; rw [← set_self d c.toNat]
  exact on_set d c _
/-- A core whose next instruction is counted. -/
structure CoreW (x : coreT.D) : Prop where
  now : goodP x.1 = true
  lo : 0 ≤ x.2.2.1
  hi : x.2.2.1 ≤ 3
  out : x.2.2.1 = 0 → eqT plainT x.2.2.2.1 plainT.zero = true ∧ x.2.2.2.2.1.2 = [] ∧ x.2.2.2.2.2 = 0 ∧ anyRead x = false
  ins : x.2.2.1 ≠ 0 → goodP x.2.2.2.1 = true ∧ x.2.2.2.1.2.2 = false ∧ x.1.2.2 = false ∧ (0 ≤ x.2.2.2.2.2 ∧ x.2.2.2.2.2 < 399) ∧ goodWs x.2.2.2.2.1.2 = true
theorem cnt_i1 {n : Int} (h : n ≠ 399) (g : 1 ≤ n ∧ n < 400) : 0 ≤ n ∧ n < 399 := by omega
theorem cnt_i2 {n : Int} (g : 0 ≤ n ∧ n < 399) : 1 ≤ wrap64 (n + 1) ∧ wrap64 (n + 1) < 400 := by
  rw [wrap_id (by omega)]
  omega
theorem CoreOk.weak {x : coreT.D} (h : CoreOk x) (h9 : x.2.2.2.2.2 ≠ 399) : CoreW x := by
  refine ⟨h.now, h.lo, h.hi, h.out, fun h0 => ?_⟩
  obtain ⟨g1, g2, g3, g4, g5⟩ := h.ins h0
  exact ⟨g1, g2, g3, cnt_i1 h9 g4, g5⟩
theorem CoreW.cnt {x : coreT.D} (h : CoreW x) : CoreOk (cntC x) := by
  unfold cntC
  split
  · rename_i h0
    exact ⟨h.now, h.lo, h.hi, fun _ _ => trivial, h.out, fun g => absurd h0 g⟩
  · rename_i h0
    obtain ⟨g1, g2, g3, g4, g5⟩ := h.ins h0
    exact ⟨h.now, h.lo, h.hi, fun _ _ => trivial, fun g => absurd g h0, fun _ => ⟨g1, g2, g3, cnt_i2 g4, g5⟩⟩
theorem CoreW.set {x : coreT.D} (h : CoreW x) {p : plainT.D} (hp : goodP p = true) (ho : x.2.2.1 ≠ 0 → p.2.2 = false) : CoreW (p, x.2) :=
  ⟨hp, h.lo, h.hi, h.out, fun h0 => by
    obtain ⟨g1, g2, g3, g4, g5⟩ := h.ins h0
    exact ⟨g1, g2, ho h0, g4, g5⟩⟩
theorem CoreW.next {x : coreT.D} (h : CoreW x) : CoreW (nextF x.1, x.2) := h.set (good_next h.now) fun h0 => (h.ins h0).2.2.1
/-- What is kept of lines when a core is another one. -/
theorem keepL {d : deskT.D} (hg : goodD d = true) {c : Int} (hc : 0 ≤ c ∧ c < 2) {x : coreT.D} (hx : x.2.1 = (d.1 c.toNat).2.1) : SameL d (setCore d c.toNat (cntC x)) := by
  refine sameL_keep hg (by omega) ?_
  unfold cntC
  split
  · exact hx
  · exact hx
theorem lk_cnt {c : Int} (hc : 0 ≤ c ∧ c < 2) {d : deskT.D} (hg : goodK d = true) {x : coreT.D} (hw : CoreW x) (hx : x.2.1 = (d.1 c.toNat).2.1) : Lk c d (setCore d c.toNat (cntC x)) false noT := lk_set hc hg hw.cnt (keepL (goodK_D hg) hc hx)
theorem lk_failc {c : Int} (hc : 0 ≤ c ∧ c < 2) {d : deskT.D} (hg : goodK d = true) (hd : (d.1 c.toNat).2.2.1 ≠ 0) (l : progsT.D) (why : Int) : Lk c d (failD d l c why).1 false noT := by
  refine lk_set hc hg ?_ (fail_same (goodK_D hg) _ _ _)
  rw [failC_eq]
  exact free_ok (failP_good ((((goodK_iff d).1 hg).1 c.toNat (by omega)).ins hd).1 _ _)
end Go.Proofs.Ytjbbgpacijageab.M
