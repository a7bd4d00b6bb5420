/- Desks: what a step does. -/
import Derived.Test.YtjbbgpacijageabH6
namespace Go.Proofs.Ytjbbgpacijageab.M
open Go.RowKit
set_option linter.unusedVariables false
set_option linter.unusedSimpArgs false

/-- What comes of a turn of a core. -/
def Sk (c : Int) (d : deskT.D) (x : deskT.D × Rec) : Prop :=
  ∃ f T q, Lk c d x.1 f T ∧ x.2 = othR c f ++ q ∧ q.length ≤ 1 ∧ (∀ r ∈ q, r.2.1 = c) ∧ ((∀ r ∈ q, r.1 = 3) → ∀ k, ¬ T k)
variable {c : Int} {d : deskT.D} {l : progsT.D}
theorem one_of {r : recordT.D} (h : r.2.1 = c) : ([r] : Rec).length ≤ 1 ∧ ∀ s ∈ ([r] : Rec), s.2.1 = c := ⟨Nat.le_refl _, fun s hs => by rw [List.mem_singleton.1 hs]; exact h⟩
theorem sk_fail (hc : 0 ≤ c ∧ c < 2) (hg : goodK d = true) (hd : (d.1 c.toNat).2.2.1 ≠ 0) (why : Int) : Sk c d (failD d l c why) :=
  ⟨false, noT, [(3, c, why)], lk_failc hc hg hd l why, rfl, (one_of rfl).1, (one_of rfl).2, fun _ _ h => h⟩
theorem sk_if {P : Prop} [Decidable P] : ((if P then [(1, c, 0)] else []) : Rec).length ≤ 1 ∧ ∀ r ∈ ((if P then [(1, c, 0)] else []) : Rec), r.2.1 = c := by
  split
  · exact one_of rfl
  · exact ⟨Nat.zero_le _, fun r hr => by cases hr⟩
/-- One goes on at a desk that one left as it may be. -/
theorem sk_on {e : deskT.D} {x : coreT.D} {f : Bool} {T : Int → Prop} (hc : 0 ≤ c ∧ c < 2) (h : Lk c d e f T) (hw : CoreW x) (hs : SameL e (setCore e c.toNat (cntC x))) (hT : x.2.2.1 = 0 ∨ ∀ k, ¬ T k) :
    Sk c d (setCore e c.toNat (cntC x), othR c f ++ if x.2.2.1 = 0 then [(1, c, 0)] else []) := by
  refine ⟨f, T, _, (h.trans (lk_set hc h.good hw.cnt hs)).cast (by cases f <;> rfl) (fun k => ⟨fun g => g.elim id False.elim, Or.inl⟩), rfl, sk_if.1, sk_if.2, fun g k => ?_⟩
  rcases hT with h0 | h0
  · rw [if_pos h0] at g
    exact absurd (g _ (List.mem_singleton.2 rfl)) (show ¬ (1 : Int) = 3 by decide)
  · exact h0 k
theorem core_ok (hc : 0 ≤ c ∧ c < 2) (hg : goodK d = true) : CoreOk (d.1 c.toNat) := ((goodK_iff d).1 hg).1 c.toNat (by omega)
theorem sk_cnt {x : coreT.D} (hc : 0 ≤ c ∧ c < 2) (hg : goodK d = true) (hw : CoreW x) (hx : x.2.1 = (d.1 c.toNat).2.1) : Sk c d (setCore d c.toNat (cntC x), if x.2.2.1 = 0 then [(1, c, 0)] else []) :=
  sk_on (f := false) hc (Lk.refl hg) hw (keepL (goodK_D hg) hc hx) (Or.inr fun _ h => h)
theorem goodP_off {p : plainT.D} (h : goodP p = true) (o : Bool) : goodP (p.1, p.2.1, o) = true := by
  obtain ⟨g, a, o'⟩ := p
  exact (goodP_iff g a o).2 ((goodP_iff g a o').1 h)
theorem sk_stuck (hc : 0 ≤ c ∧ c < 2) (hg : goodK d = true) (h9 : (d.1 c.toNat).2.2.2.2.2 ≠ 399) : Sk c d (stuckF d l c) := by
  have hk := core_ok hc hg
  unfold stuckF
  split
  · rename_i h
    exact sk_fail hc hg (fun h0 => by rw [h0] at h; exact absurd h (by decide)) _
  · rename_i h
    have h0 : (d.1 c.toNat).2.2.1 = 0 := Int.le_antisymm (Int.not_lt.1 h) hk.lo
    unfold withNow
    rw [count_set]
    exact sk_cnt hc hg ((hk.weak h9).set (goodP_off hk.now true) fun g => absurd h0 g) rfl
theorem deep_i1 {n : Int} (h : 0 ≤ n) (g : n ≤ 3) (k : n ≠ 3) : 0 ≤ wrap64 (n + 1) ∧ wrap64 (n + 1) ≤ 3 ∧ wrap64 (n + 1) ≠ 0 := by
  rw [wrap_id (by omega)]
  omega
theorem deep_i2 {n : Int} (h : 1 < n) (g : n ≤ 3) : 0 ≤ wrap64 (n - 1) ∧ wrap64 (n - 1) ≤ 3 ∧ wrap64 (n - 1) ≠ 0 := by
  rw [wrap_id (by omega)]
  omega
theorem deep_i3 {n : Int} (h : 0 ≤ n) (g : n ≠ 0) : 0 < n := by omega
theorem began_w {x : coreT.D} (hk : CoreOk x) (h9 : x.2.2.2.2.2 ≠ 399) (ho : x.1.2.2 = false) (h3 : x.2.2.1 ≠ 3) : CoreW (beganC x) := by
  obtain ⟨i1, i2, i3⟩ := deep_i1 hk.lo hk.hi h3
  refine ⟨hk.now, i1, i2, fun g => absurd g i3, fun _ => ?_⟩
  show goodP (if x.2.2.1 = 0 then x.1 else x.2.2.2.1) = true ∧ (if x.2.2.1 = 0 then x.1 else x.2.2.2.1).2.2 = false ∧ x.1.2.2 = false ∧ _ ∧ goodWs x.2.2.2.2.1.2 = true
  by_cases h0 : x.2.2.1 = 0
  · obtain ⟨g1, g2, g3, g4⟩ := hk.out h0
    rw [if_pos h0, g2]
    refine ⟨hk.now, ho, ho, ?_, rfl⟩
    show (0 : Int) ≤ x.2.2.2.2.2 ∧ @LT.lt Int _ x.2.2.2.2.2 399
    rw [g3]
    decide
  · obtain ⟨g1, g2, g3, g4, g5⟩ := (hk.weak h9).ins h0
    rw [if_neg h0]
    exact ⟨g1, g2, g3, g4, g5⟩
theorem sk_begin (hc : 0 ≤ c ∧ c < 2) (hg : goodK d = true) (h9 : (d.1 c.toNat).2.2.2.2.2 ≠ 399) (ho : (d.1 c.toNat).1.2.2 = false) : Sk c d (beginF d l c) := by
  have hk := core_ok hc hg
  unfold beginF
  split
  · rename_i h
    exact sk_fail hc hg (by rw [h]; decide) _
  · rename_i h
    rw [on_set]
    exact sk_cnt hc hg (began_w hk h9 ho h).next rfl
theorem sk_end (hc : 0 ≤ c ∧ c < 2) (hg : goodK d = true) (h9 : (d.1 c.toNat).2.2.2.2.2 ≠ 399) : Sk c d (endF d l c) := by
  have hk := core_ok hc hg
  unfold endF
  split
  · exact sk_stuck hc hg h9
  · rename_i h0
    split
    · rename_i h1
      obtain ⟨i1, i2, i3⟩ := deep_i2 h1 hk.hi
      rw [on_set]
      have hw : CoreW (downC (d.1 c.toNat)) := ⟨hk.now, i1, i2, fun g => absurd g i3, fun _ => (hk.weak h9).ins h0⟩
      exact sk_cnt hc hg hw.next rfl
    · rename_i h1
      have h2 : Lk c d (endedD d c) false noT := lk_set hc hg (free_ok (good_next hk.now)) (sameL_freed (goodK_D hg))
      obtain ⟨f, T, h3, e3⟩ := lk_all hc l (wsOf d c) (endedD d c) [] h2.good fun w hw => ws_mem ((hk.ins h0).2.2.2.2) w hw
      refine ⟨f, _, [(2, c, wrap64 ((d.1 c.toNat).2.2.2.2.2 + 1))], (h2.trans h3).cast (by cases f <;> rfl) (fun k => Iff.rfl), ?_, (one_of rfl).1, (one_of rfl).2, fun g => absurd (g _ (List.mem_singleton.2 rfl)) (show ¬ (2 : Int) = 3 by decide)⟩
      show _ ++ _ = _
      rw [e3]
      rfl
theorem sk_give (hc : 0 ≤ c ∧ c < 2) (hg : goodK d = true) (h9 : (d.1 c.toNat).2.2.2.2.2 ≠ 399) (n : Int) : Sk c d (giveF d l c n) := by
  unfold giveF
  split
  · exact sk_stuck hc hg h9
  · rename_i h
    exact sk_fail hc hg h _
theorem alone_any {p : plainT.D} {i : instrT.D} (h : goodP p = true) (hi : goodI i = true) (ho : p.2.2 = false) : goodP (aloneF p i).1 = true := by
  by_cases h12 : i.1 = 12
  · unfold aloneF
    rw [if_pos ⟨hi, h⟩, if_neg (by rw [ho]; decide), h12, if_neg (by decide), if_neg (by decide), if_neg (by decide), if_neg (by decide), if_neg (by decide), if_pos rfl]
    exact goodP_off h true
  · exact (good_alone h hi h12 ho).1
theorem sk_alone (hc : 0 ≤ c ∧ c < 2) (hg : goodK d = true) (h9 : (d.1 c.toNat).2.2.2.2.2 ≠ 399) (ho : (d.1 c.toNat).1.2.2 = false) {i : instrT.D} (hi : goodI i = true) : Sk c d (aloneT d l c i) := by
  have hk := core_ok hc hg
  unfold aloneT
  split
  · exact sk_stuck hc hg h9
  · rename_i h
    unfold withNow
    rw [count_set]
    refine sk_cnt hc hg ((hk.weak h9).set (alone_any hk.now hi ho) fun g => ?_) rfl
    refine (good_alone hk.now hi (fun h12 => h ⟨h12, ?_⟩) ho).2
    have := hk.lo
    exact deep_i3 this g
/-- Outside of transactions. -/
theorem zero_count {x : coreT.D} (h : CoreOk x) (h0 : x.2.2.1 = 0) : x.2.2.2.2.2 ≠ 399 := by
  rw [(h.out h0).2.2.1]
  decide
theorem sk_out (hc : 0 ≤ c ∧ c < 2) (hg : goodK d = true) (h0 : (d.1 c.toNat).2.2.1 = 0) (i : instrT.D) {word : Int} (hw : 0 ≤ word ∧ word < 32) : Sk c d (outF d l c i word) := by
  have hk := core_ok hc hg
  have hz : (d.1 c.toNat).2.2.2.2.2 ≠ 399 := zero_count hk h0
  have h1 : Lk c d (hadF d c i word) false noT ∧ ((hadF d c i word).1 c.toNat).2.2 = (d.1 c.toNat).2.2 := by
    unfold hadF
    split
    · refine ⟨lk_set hc hg ?_ (sameL_keep (goodK_D hg) (by omega) rfl), by unfold withNow; rw [set_at]⟩
      exact ⟨good_put hk.now _ _, hk.lo, hk.hi, fun _ _ => trivial, hk.out, fun g => absurd h0 g⟩
    · exact ⟨Lk.refl hg, rfl⟩
  have hon : ∀ (e : deskT.D) (f : Bool) (T : Int → Prop), Lk c d e f T → (e.1 c.toNat).2.2 = (d.1 c.toNat).2.2 → Sk c d ((onF e c).1, othR c f ++ (onF e c).2) := fun e f T he h2 => by
    have hk2 := core_ok hc he.good
    rw [on_self]
    have h02 : (e.1 c.toNat).2.2.1 = 0 := by rw [h2]; exact h0
    exact sk_on hc he (hk2.weak (zero_count hk2 h02)).next (keepL (goodK_D he.good) hc rfl) (Or.inl h02)
  unfold outF
  split
  · have h2 := h1.1.trans (lk_share (c := c) h1.1.good (lineOf word))
    have := hon _ _ _ h2 (by rw [(share_core _ _ _ _).2]; exact h1.2)
    exact this
  · obtain ⟨f, h2, e2, e3⟩ := lk_puts hc h1.1.good [] l hw (of_decide_eq_true (isW_get hk.now i.2.1))
    have := hon _ _ _ (h1.1.trans h2) (by rw [e3.2]; exact h1.2)
    unfold thenOn
    rw [e2]
    have e : (false || f) = f := by cases f <;> rfl
    rw [e] at this
    exact this
end Go.Proofs.Ytjbbgpacijageab.M
