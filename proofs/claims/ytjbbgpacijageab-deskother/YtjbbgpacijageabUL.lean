/- Several texts in one. -/
import Derived.Test.YtjbbgpacijageabUI
import Derived.Test.YtjbbgpacijageabUK
import Derived.Test.YtjbbgpacijageabUF
/- Desks: what cache moves leave as it is. -/
namespace Go.Proofs.Ytjbbgpacijageab.M
open Go.RowKit
set_option linter.unusedVariables false
set_option linter.unusedSimpArgs false

def rdAt (d : deskT.D) (k w : Nat) : Bool := (lineAt d k w).2.2.2
/-- All of a core but its cache. -/
def sameX (x y : coreT.D) : Prop := x.1 = y.1 ∧ x.2.2 = y.2.2
def Nz (d : deskT.D) : Prop := ∀ k w, k < 2 → w < 4 → rdAt d k w = true → (lineAt d k w).1 ≠ 0
/-- Cores are as they were, but for their caches; what is read there was read. -/
structure Mv (d e : deskT.D) : Prop where
  core : ∀ k, sameX (e.1 k) (d.1 k)
  rd : ∀ k w, k < 2 → w < 4 → rdAt e k w = true → rdAt d k w = true ∧ (lineAt e k w).2.1 = (lineAt d k w).2.1 ∧ (lineAt e k w).1 ≠ 0
theorem Mv.refl {d : deskT.D} (h : Nz d) : Mv d d := ⟨fun _ => ⟨rfl, rfl⟩, fun k w hk hw hr => ⟨hr, rfl, h k w hk hw hr⟩⟩
theorem Mv.trans {d e f : deskT.D} (h : Mv d e) (g : Mv e f) : Mv d f :=
  ⟨fun k => ⟨(g.core k).1.trans (h.core k).1, (g.core k).2.trans (h.core k).2⟩, fun k w hk hw hr => by
    obtain ⟨a, b, n⟩ := g.rd k w hk hw hr
    obtain ⟨a', b', _⟩ := h.rd k w hk hw a
    exact ⟨a', b.trans b', n⟩⟩
theorem line_set (d : deskT.D) (c w : Nat) (l : lineT.D) (k v : Nat) : lineAt (setLine d c w l) k v = if k = c ∧ v = w then l else lineAt d k v := by
  by_cases h : k = c ∧ v = w
  · rw [if_pos h, h.1, h.2]; exact line_set_same
  · rw [if_neg h]
    refine line_set_other ?_
    by_cases hk : k = c
    · exact Or.inr fun hv => h ⟨hk, hv⟩
    · exact Or.inl hk
theorem setLine_core (d : deskT.D) (c w : Nat) (l : lineT.D) (k : Nat) : sameX ((setLine d c w l).1 k) (d.1 k) := by
  show (updA d.1 c _ k).1 = _ ∧ (updA d.1 c _ k).2.2 = _
  unfold updA
  by_cases h : k = c
  · rw [if_pos h, h]; exact ⟨rfl, rfl⟩
  · rw [if_neg h]; exact ⟨rfl, rfl⟩
/-- One line is another, that is not read, or as it was but for its share and words. -/
theorem mv_set {d : deskT.D} (hz : Nz d) {c w : Nat} {l : lineT.D} (hl : l.2.2.2 = true → (lineAt d c w).2.2.2 = true ∧ l.2.1 = (lineAt d c w).2.1 ∧ l.1 ≠ 0) : Mv d (setLine d c w l) := by
  refine ⟨fun k => setLine_core d c w l k, fun k v hk hv hr => ?_⟩
  unfold rdAt at *
  rw [line_set] at hr ⊢
  split at hr
  · rename_i h
    rw [if_pos h, h.1, h.2]
    exact hl hr
  · rename_i h
    rw [if_neg h]
    exact ⟨hr, rfl, hz k v hk hv hr⟩
theorem mv_mem {d : deskT.D} (hz : Nz d) (m : Nat → Int) : Mv d (setMem d m) := ⟨fun _ => ⟨rfl, rfl⟩, fun k w hk hw hr => ⟨hr, rfl, hz k w hk hw hr⟩⟩
theorem Mv.nz {d e : deskT.D} (h : Mv d e) : Nz e := fun k w hk hw hr => (h.rd k w hk hw hr).2.2
theorem mv_drop {d : deskT.D} (hz : Nz d) (c w : Nat) : Mv d (dropD d c w) := by
  unfold dropD
  have h1 := mv_set hz (c := c) (w := w) (l := lineT.zero) (fun h => by cases h)
  exact h1.trans (mv_mem h1.nz _)
theorem mv_dropF {d : deskT.D} (hz : Nz d) (c w : Int) : Mv d (dropF d c w) := by
  unfold dropF
  split
  · exact mv_drop hz _ _
  · exact Mv.refl hz
theorem mv_take {d : deskT.D} (hz : Nz d) (c w : Nat) (n : Int) : Mv d (takeD d c w n) := by
  unfold takeD
  split
  · have h1 := mv_mem hz (goBackF d.2 (lineAt d (1 - c) w))
    have h2 := h1.trans (mv_set h1.nz (c := 1 - c) (w := w) (l := (1, (lineAt d (1 - c) w).2)) (fun h => ⟨h, rfl, by show (1 : Int) ≠ 0; decide⟩))
    exact h2.trans (mv_set h2.nz (fun h => by cases h))
  · exact mv_set hz (fun h => by cases h)
theorem mv_share {d : deskT.D} (hz : Nz d) (c n : Int) : Mv d (shareF d c n) := by
  unfold shareF
  split
  · split
    · exact Mv.refl hz
    · have h1 := mv_drop hz c.toNat (wayOf n)
      exact h1.trans (mv_take h1.nz _ _ _)
  · exact Mv.refl hz
theorem mv_own {d : deskT.D} (hz : Nz d) (c n : Int) : Mv d (ownF d c n) := by
  have h1 := mv_share hz c n
  unfold ownF
  split
  · refine h1.trans ?_
    unfold aloneD alone1 alone2
    split
    · have h2 := mv_set h1.nz (c := 1 - c.toNat) (w := (findF (shareF d c n) c n).1.toNat) (l := lineT.zero) (fun h => by cases h)
      split
      · exact h2.trans (mv_set h2.nz (fun h => ⟨h, rfl, by show (2 : Int) ≠ 0; decide⟩))
      · exact h2
    · split
      · exact mv_set h1.nz (fun h => ⟨h, rfl, by show (2 : Int) ≠ 0; decide⟩)
      · exact Mv.refl h1.nz
  · exact h1
theorem mv_write {d : deskT.D} (hz : Nz d) (c word n : Int) : Mv d (writeF d c word n) := by
  unfold writeF
  split
  · split
    · unfold setM putW
      have h1 := mv_set hz (c := c.toNat) (w := (findF d c (word.tdiv 2)).1.toNat) (l := ((lineAt d c.toNat (findF d c (word.tdiv 2)).1.toNat).1, (lineAt d c.toNat (findF d c (word.tdiv 2)).1.toNat).2.1, updA (lineAt d c.toNat (findF d c (word.tdiv 2)).1.toNat).2.2.1 (word.tmod 2).toNat n, (lineAt d c.toNat (findF d c (word.tdiv 2)).1.toNat).2.2.2)) (fun h => ⟨h, rfl, by
        rename_i h2 h3
        have hr := find_yes h3.1
        have hl := h3.1
        rw [find_eq hr.1 hr.2] at hl ⊢
        exact (of_decide_eq_true hl : _ ∧ _).1⟩)
      exact h1.trans (mv_set h1.nz (fun h => ⟨h, rfl, by show (3 : Int) ≠ 0; decide⟩))
    · exact Mv.refl hz
  · exact Mv.refl hz
/-- Of a good desk. -/
theorem good_nz {d : deskT.D} (hg : goodD d = true) : Nz d := by
  intro k w hk hw hr h0
  have h1 := ((good_iff d).1 hg).2 k hk w hw
  rcases h1 with ⟨_, _, _, _, h5⟩ | ⟨h1, _⟩
  · unfold rdAt at hr
    rw [h5] at hr
    cases hr
  · rw [h0] at h1
    exact absurd h1 (by decide)
end Go.Proofs.Ytjbbgpacijageab.M

/- Desks: what keeps them good. -/
namespace Go.Proofs.Ytjbbgpacijageab.M
open Go.RowKit
set_option linter.unusedVariables false
set_option linter.unusedSimpArgs false

theorem and2 {a b : Bool} : (a && b) = true ↔ a = true ∧ b = true := by cases a <;> cases b <;> simp
/-- What makes a core good. -/
structure CoreOk (x : coreT.D) : Prop where
  now : goodP x.1 = true
  lo : 0 ≤ x.2.2.1
  hi : x.2.2.1 ≤ 3
  free : x.2.2.1 = 0 → x.2.2.2.1 = plainT.zero → True
  out : x.2.2.1 = 0 → eqT plainT x.2.2.2.1 plainT.zero = true ∧ x.2.2.2.2.1.2 = [] ∧ x.2.2.2.2.2 = 0 ∧ anyRead x = false
  ins : x.2.2.1 ≠ 0 → goodP x.2.2.2.1 = true ∧ x.2.2.2.1.2.2 = false ∧ x.1.2.2 = false ∧ (1 ≤ x.2.2.2.2.2 ∧ x.2.2.2.2.2 < 400) ∧ goodWs x.2.2.2.2.1.2 = true
theorem goodC_iff (x : coreT.D) : goodC x = true ↔ CoreOk x := by
  unfold goodC
  rw [and2, and2, decide_eq_true_iff]
  constructor
  · rintro ⟨h1, ⟨h2, h3⟩, h4⟩
    refine ⟨h1, h2, h3, fun _ _ => trivial, fun h0 => ?_, fun h0 => ?_⟩
    · rw [if_pos h0] at h4
      unfold freeF at h4
      rw [and2, and2, and2, decide_eq_true_iff, decide_eq_true_iff] at h4
      exact ⟨h4.1, List.length_eq_zero_iff.1 h4.2.1, h4.2.2.1, not_t' h4.2.2.2⟩
    · rw [if_neg h0, and2, and2, and2, and2, decide_eq_true_iff] at h4
      exact ⟨h4.1, not_t' h4.2.1, not_t' h4.2.2.1, h4.2.2.2.1, h4.2.2.2.2⟩
  · rintro ⟨h1, h2, h3, _, h4, h5⟩
    refine ⟨h1, ⟨h2, h3⟩, ?_⟩
    by_cases h0 : x.2.2.1 = 0
    · rw [if_pos h0]
      obtain ⟨g1, g2, g3, g4⟩ := h4 h0
      unfold freeF
      rw [g1, g2, g4, decide_eq_true g3]
      rfl
    · rw [if_neg h0]
      obtain ⟨g1, g2, g3, g4, g5⟩ := h5 h0
      rw [g1, g2, g3, g5, decide_eq_true g4]
      rfl
theorem goodK_iff (d : deskT.D) : goodK d = true ↔ (∀ k, k < 2 → CoreOk (d.1 k)) ∧ goodD d = true := by
  unfold goodK
  rw [and2, and2, goodC_iff, goodC_iff]
  constructor
  · rintro ⟨h0, h1, h2⟩
    refine ⟨fun k hk => ?_, h2⟩
    have : k = 0 ∨ k = 1 := by omega
    rcases this with rfl | rfl
    · exact h0
    · exact h1
  · rintro ⟨h, h2⟩
    exact ⟨h 0 (by decide), h 1 (by decide), h2⟩
theorem any_iff (x : coreT.D) : anyRead x = true ↔ ∃ w, w < 4 ∧ (x.2.1 w).2.2.2 = true := by
  unfold anyRead
  rw [List.any_eq_true]
  constructor
  · rintro ⟨w, hw, h⟩
    exact ⟨w, List.mem_range.1 hw, h⟩
  · rintro ⟨w, hw, h⟩
    exact ⟨w, List.mem_range.2 hw, h⟩
theorem any_false {x : coreT.D} (h : ∀ w, w < 4 → (x.2.1 w).2.2.2 = false) : anyRead x = false := by
  rw [← Bool.not_eq_true, any_iff]
  rintro ⟨w, hw, g⟩
  rw [h w hw] at g
  cases g
theorem CoreOk.mv {x y : coreT.D} (h : CoreOk y) (hs : sameX x y) (hr : ∀ w, w < 4 → (x.2.1 w).2.2.2 = true → (y.2.1 w).2.2.2 = true) : CoreOk x := by
  obtain ⟨e1, e2⟩ := hs
  refine ⟨by rw [e1]; exact h.now, by rw [e2]; exact h.lo, by rw [e2]; exact h.hi, fun _ _ => trivial, fun h0 => ?_, fun h0 => ?_⟩
  · rw [e2] at h0 ⊢
    obtain ⟨g1, g2, g3, g4⟩ := h.out h0
    refine ⟨g1, g2, g3, any_false fun w hw => ?_⟩
    cases hx : (x.2.1 w).2.2.2 with
    | false => rfl
    | true =>
      exfalso
      have : anyRead y = true := (any_iff y).2 ⟨w, hw, hr w hw hx⟩
      rw [g4] at this
      cases this
  · rw [e2] at h0 ⊢
    rw [e1]
    exact h.ins h0
theorem goodK_mv {d e : deskT.D} (hg : goodK d = true) (hm : Mv d e) (hge : goodD e = true) : goodK e = true := by
  rw [goodK_iff] at hg ⊢
  exact ⟨fun k hk => (hg.1 k hk).mv (hm.core k) fun w hw hr => (hm.rd k w hk hw hr).1, hge⟩
theorem goodK_D {d : deskT.D} (hg : goodK d = true) : goodD d = true := ((goodK_iff d).1 hg).2

/-- Lines and memory are as they were, but for what is read. -/
structure SameL (d e : deskT.D) : Prop where
  mem : e.2 = d.2
  ln : ∀ k w, k < 2 → w < 4 → (lineAt e k w).1 = (lineAt d k w).1 ∧ (lineAt e k w).2.1 = (lineAt d k w).2.1 ∧ (lineAt e k w).2.2.1 = (lineAt d k w).2.2.1
  rd : ∀ k w, k < 2 → w < 4 → rdAt e k w = true → (lineAt d k w).1 ≠ 0
theorem goodD_same {d e : deskT.D} (hg : goodD d = true) (h : SameL d e) : goodD e = true := by
  rw [good_iff] at hg ⊢
  refine ⟨fun k hk => by rw [h.mem]; exact hg.1 k hk, fun c hc w hw => ?_⟩
  have h1 := hg.2 c hc w hw
  obtain ⟨a1, a2, a3⟩ := h.ln c w hc hw
  obtain ⟨b1, b2, b3⟩ := h.ln (1 - c) w (by omega) hw
  show OkC (lineAt e c w).1 (lineAt e c w).2.1 (lineAt e c w).2.2.1 (lineAt e c w).2.2.2 (lineAt e (1 - c) w).1 (lineAt e (1 - c) w).2.1 e.2 w
  have h1 : OkC (lineAt d c w).1 (lineAt d c w).2.1 (lineAt d c w).2.2.1 (lineAt d c w).2.2.2 (lineAt d (1 - c) w).1 (lineAt d (1 - c) w).2.1 d.2 w := h1
  rw [a1, a2, a3, b1, b2, h.mem]
  rcases h1 with ⟨g1, g2, g3, g4, g5⟩ | h1
  · refine Or.inl ⟨g1, g2, g3, g4, ?_⟩
    cases hr : (lineAt e c w).2.2.2 with
    | false => rfl
    | true => exact absurd g1 (h.rd c w hc hw hr)
  · exact Or.inr h1
theorem val_same {d e : deskT.D} (h : SameL d e) (n : Int) : valF e n = valF d n := by
  by_cases hn : 0 ≤ n ∧ n < 32
  · obtain ⟨k, rfl⟩ : ∃ k : Nat, n = (k : Int) := ⟨n.toNat, by omega⟩
    have hk : k < 32 := by omega
    rw [val_eq e k hk, val_eq d k hk]
    obtain ⟨a1, a2, a3⟩ := h.ln 0 (k / 2 % 4) (by decide) (by omega)
    obtain ⟨b1, b2, b3⟩ := h.ln 1 (k / 2 % 4) (by decide) (by omega)
    show val2 (lineAt e 0 (k / 2 % 4)).1 (lineAt e 0 (k / 2 % 4)).2.1 (lineAt e 0 (k / 2 % 4)).2.2.1 (lineAt e 1 (k / 2 % 4)).1 (lineAt e 1 (k / 2 % 4)).2.1 (lineAt e 1 (k / 2 % 4)).2.2.1 e.2 k = val2 (lineAt d 0 (k / 2 % 4)).1 (lineAt d 0 (k / 2 % 4)).2.1 (lineAt d 0 (k / 2 % 4)).2.2.1 (lineAt d 1 (k / 2 % 4)).1 (lineAt d 1 (k / 2 % 4)).2.1 (lineAt d 1 (k / 2 % 4)).2.2.1 d.2 k
    rw [a1, a2, a3, b1, b2, b3, h.mem]
  · unfold valF
    rw [if_neg hn, if_neg hn]
theorem set_ne (d : deskT.D) {c k : Nat} (x : coreT.D) (h : k ≠ c) : (setCore d c x).1 k = d.1 k := updA_ne h
/-- A core is another one, its lines as they were. -/
theorem sameL_set {d : deskT.D} (hg : goodD d = true) {c : Nat} {x : coreT.D} (hl : ∀ w, w < 4 → (x.2.1 w).1 = (lineAt d c w).1 ∧ (x.2.1 w).2.1 = (lineAt d c w).2.1 ∧ (x.2.1 w).2.2.1 = (lineAt d c w).2.2.1 ∧ ((x.2.1 w).2.2.2 = true → (lineAt d c w).1 ≠ 0)) : SameL d (setCore d c x) := by
  refine ⟨rfl, fun k w hk hw => ?_, fun k w hk hw hr => ?_⟩
  · unfold lineAt
    by_cases h : k = c
    · rw [h, set_at]
      exact ⟨(hl w hw).1, (hl w hw).2.1, (hl w hw).2.2.1⟩
    · rw [set_ne d x h]
      exact ⟨rfl, rfl, rfl⟩
  · unfold rdAt lineAt at hr
    by_cases h : k = c
    · rw [h, set_at] at hr
      rw [h]
      exact (hl w hw).2.2.2 hr
    · rw [set_ne d x h] at hr
      exact good_nz hg k w hk hw hr
theorem sameL_keep {d : deskT.D} (hg : goodD d = true) {c : Nat} (hc : c < 2) {x : coreT.D} (hx : x.2.1 = (d.1 c).2.1) : SameL d (setCore d c x) :=
  sameL_set hg fun w hw => by
    rw [hx]
    exact ⟨rfl, rfl, rfl, fun hr => good_nz hg c w hc hw hr⟩
theorem goodK_set {d : deskT.D} (hg : goodK d = true) {c : Nat} {x : coreT.D} (hx : CoreOk x) (hs : SameL d (setCore d c x)) : goodK (setCore d c x) = true := by
  rw [goodK_iff] at hg ⊢
  refine ⟨fun k hk => ?_, goodD_same hg.2 hs⟩
  by_cases h : k = c
  · rw [h, set_at]; exact hx
  · rw [set_ne d x h]; exact hg.1 k hk
/-- A core that is freed. -/
theorem sameL_freed {d : deskT.D} (hg : goodD d = true) {c : Nat} {p : plainT.D} : SameL d (setCore d c (p, (freedF (d.1 c)).2)) :=
  sameL_set hg fun w hw => by
    show (noRead (d.1 c).2.1 w).1 = _ ∧ (noRead (d.1 c).2.1 w).2.1 = _ ∧ (noRead (d.1 c).2.1 w).2.2.1 = _ ∧ ((noRead (d.1 c).2.1 w).2.2.2 = true → _)
    unfold noRead
    rw [if_pos hw]
    exact ⟨rfl, rfl, rfl, fun h => by cases h⟩
theorem free_ok {x : coreT.D} {p : plainT.D} (hp : goodP p = true) : CoreOk (p, (freedF x).2) := by
  refine ⟨hp, Int.le_refl _, (by decide : (0 : Int) ≤ 3), fun _ _ => trivial, fun _ => ⟨rfl, rfl, rfl, any_false fun w hw => ?_⟩, fun h => absurd rfl h⟩
  show (noRead x.2.1 w).2.2.2 = false
  unfold noRead
  rw [if_pos hw]
end Go.Proofs.Ytjbbgpacijageab.M

/- Desks: transactions that fail. -/
namespace Go.Proofs.Ytjbbgpacijageab.M
open Go.RowKit
set_option linter.unusedVariables false
set_option linter.unusedSimpArgs false

def failP (x : coreT.D) (l : List instrT.D) (why : Int) : plainT.D := ((putF x.2.2.2.1 (fetchF l x.2.2.2.1).2.1 why).1, (fetchF l x.2.2.2.1).2.2.2.2, (putF x.2.2.2.1 (fetchF l x.2.2.2.1).2.1 why).2.2)
theorem failC_eq (x : coreT.D) (l : List instrT.D) (why : Int) : failC x l why = (failP x l why, (freedF x).2) := rfl
theorem failP_good {x : coreT.D} (h : goodP x.2.2.2.1 = true) (l : List instrT.D) (why : Int) : goodP (failP x l why) = true := by
  have h1 := good_put h (fetchF l x.2.2.2.1).2.1 why
  have h2 := goodI_n (fetch_ok l x.2.2.2.1)
  unfold failP
  rw [show putF x.2.2.2.1 (fetchF l x.2.2.2.1).2.1 why = ((putF x.2.2.2.1 (fetchF l x.2.2.2.1).2.1 why).1, (putF x.2.2.2.1 (fetchF l x.2.2.2.1).2.1 why).2.1, (putF x.2.2.2.1 (fetchF l x.2.2.2.1).2.1 why).2.2) from rfl, goodP_iff] at h1
  rw [goodP_iff]
  exact ⟨h1.1, h2, h1.2.2⟩
theorem fail_same {d : deskT.D} (hg : goodD d = true) (k : Nat) (l : List instrT.D) (why : Int) : SameL d (setCore d k (failC (d.1 k) l why)) := by
  rw [failC_eq]
  exact sameL_freed hg
theorem fail_good {d : deskT.D} (hg : goodK d = true) {k : Nat} (hk : k < 2) (hd : (d.1 k).2.2.1 ≠ 0) (l : List instrT.D) (why : Int) : goodK (setCore d k (failC (d.1 k) l why)) = true := by
  refine goodK_set hg ?_ (fail_same (goodK_D hg) k l why)
  rw [failC_eq]
  exact free_ok (failP_good ((((goodK_iff d).1 hg).1 k hk).ins hd).1 l why)
theorem eqD_refl : ∀ (t : Ty), t.nolst = true → ∀ a : t.D, eqT t a a = true
  | .int, _, a => decide_eq_true rfl
  | .bool, _, a => decide_eq_true rfl
  | .one t, h, a => eqD_refl t h a
  | .pair s t, h, a => by
    simp only [Ty.nolst, Bool.and_eq_true] at h
    show (eqT s a.1 a.1 && eqT t a.2 a.2) = true
    rw [eqD_refl s h.1, eqD_refl t h.2]
    rfl
  | .arr n t, h, f => by
    show ((List.range n).all fun i => eqT t (f i) (f i)) = true
    rw [List.all_eq_true]
    exact fun i _ => eqD_refl t h (f i)
  | .lst t, h, a => by cases h
theorem vals_same {d e : deskT.D} (h : ∀ n : Int, valF e n = valF d n) : eqT (Ty.arr 32 .int) (fun q => valF e (q : Nat)) (fun q => valF d (q : Nat)) = true := by
  rw [show (fun q : Nat => valF e (q : Int)) = (fun q : Nat => valF d (q : Int)) from funext fun q => h q]
  exact eqD_refl _ rfl _
end Go.Proofs.Ytjbbgpacijageab.M

/- Desks: what a core leaves of the other one, and of the words. -/
namespace Go.Proofs.Ytjbbgpacijageab.M
open Go.RowKit
set_option linter.unusedVariables false
set_option linter.unusedSimpArgs false

theorem way_lt4 {n : Int} (h : 0 ≤ n ∧ n < 16) : wayOf n < 4 := by
  unfold wayOf
  rw [Int.tmod_eq_emod_of_nonneg h.1]
  omega
theorem holds_mv {d e : deskT.D} (hz : Nz d) (hm : Mv d e) {o n : Int} (h : holdsF e o n = true) : holdsF d o n = true := by
  unfold holdsF at h ⊢
  have e2 := (hm.core o.toNat).2
  rw [e2] at h
  by_cases hc : (0 ≤ o ∧ o < 2) ∧ (d.1 o.toNat).2.2.1 ≠ 0
  · rw [if_pos hc] at h ⊢
    rw [Bool.or_eq_true] at h ⊢
    rcases h with h | h
    · refine Or.inl ?_
      rw [Bool.and_eq_true] at h ⊢
      obtain ⟨h1, h2⟩ := h
      obtain ⟨ho, hn⟩ := find_yes h1
      rw [find_eq ho hn] at h1 h2 ⊢
      have h1 : hasL (lineAt e o.toNat (wayOf n)) n = true := h1
      have h2 : rdAt e o.toNat (wayOf n) = true := h2
      obtain ⟨g1, g2, g3⟩ := hm.rd o.toNat (wayOf n) (by omega) (way_lt4 hn) h2
      refine ⟨?_, g1⟩
      show hasL (lineAt d o.toNat (wayOf n)) n = true
      have := of_decide_eq_true h1
      exact decide_eq_true ⟨hz _ _ (by omega) (way_lt4 hn) g1, by rw [← g2]; exact this.2⟩
    · exact Or.inr h
  · rw [if_neg hc] at h
    cases h
theorem holds_deep {d : deskT.D} {o n : Int} (h : (d.1 o.toNat).2.2.1 = 0) : holdsF d o n = false := by
  unfold holdsF
  rw [if_neg (fun g => g.2 h)]
theorem holds_yes {d : deskT.D} {o n : Int} (h : holdsF d o n = true) : (0 ≤ o ∧ o < 2) ∧ (d.1 o.toNat).2.2.1 ≠ 0 := by
  unfold holdsF at h
  split at h
  · assumption
  · cases h
theorem holds_core {d e : deskT.D} {o n : Int} (h : e.1 o.toNat = d.1 o.toNat) : holdsF e o n = holdsF d o n := by
  unfold holdsF findF
  rw [h]

structure Lk (c : Int) (D E : deskT.D) (f : Bool) (T : Int → Prop) : Prop where
  good : goodK E = true
  oth : (f = false ∧ sameX (E.1 (1 - c).toNat) (D.1 (1 - c).toNat)) ∨ (f = true ∧ (D.1 (1 - c).toNat).2.2.1 ≠ 0 ∧ (E.1 (1 - c).toNat).2.2.1 = 0)
  val : ∀ k, ¬ T k → valF E k = valF D k
  hold : ∀ n, holdsF E (1 - c) n = true → holdsF D (1 - c) n = true ∧ ∀ k, T k → lineOf k ≠ n
abbrev noT : Int → Prop := fun _ => False
theorem Lk.refl {c : Int} {d : deskT.D} (hg : goodK d = true) : Lk c d d false noT := ⟨hg, Or.inl ⟨rfl, rfl, rfl⟩, fun _ _ => rfl, fun n h => ⟨h, fun _ h => h.elim⟩⟩
theorem Lk.trans {c : Int} {D E G : deskT.D} {f g : Bool} {T S : Int → Prop} (h : Lk c D E f T) (k : Lk c E G g S) : Lk c D G (f || g) (fun x => T x ∨ S x) := by
  refine ⟨k.good, ?_, fun x hx => ?_, fun n hn => ?_⟩
  · rcases h.oth with ⟨hf, h1⟩ | ⟨hf, h1, h2⟩
    · rcases k.oth with ⟨kf, k1⟩ | ⟨kf, k1, k2⟩
      · exact Or.inl ⟨by rw [hf, kf]; rfl, k1.1.trans h1.1, k1.2.trans h1.2⟩
      · refine Or.inr ⟨by rw [hf, kf]; rfl, ?_, k2⟩
        rw [← h1.2]; exact k1
    · rcases k.oth with ⟨kf, k1⟩ | ⟨kf, k1, k2⟩
      · refine Or.inr ⟨by rw [hf, kf]; rfl, h1, ?_⟩
        rw [k1.2]; exact h2
      · exact absurd h2 k1
  · rw [k.val x fun g => hx (Or.inr g), h.val x fun g => hx (Or.inl g)]
  · obtain ⟨k1, k2⟩ := k.hold n hn
    obtain ⟨h1, h2⟩ := h.hold n k1
    exact ⟨h1, fun x hx => hx.elim (h2 x) (k2 x)⟩
theorem Lk.cast {c : Int} {D E : deskT.D} {f g : Bool} {T S : Int → Prop} (h : Lk c D E f T) (hf : f = g) (hT : ∀ x, T x ↔ S x) : Lk c D E g S := by
  subst hf
  exact ⟨h.good, h.oth, fun k hk => h.val k fun g => hk ((hT k).1 g), fun n hn => ⟨(h.hold n hn).1, fun k hk => (h.hold n hn).2 k ((hT k).2 hk)⟩⟩
theorem lk_set {c : Int} (hc : 0 ≤ c ∧ c < 2) {d : deskT.D} (hg : goodK d = true) {x : coreT.D} (hx : CoreOk x) (hs : SameL d (setCore d c.toNat x)) : Lk c d (setCore d c.toNat x) false noT := by
  have he : (setCore d c.toNat x).1 (1 - c).toNat = d.1 (1 - c).toNat := set_ne d x (by omega)
  refine ⟨goodK_set hg hx hs, Or.inl ⟨rfl, by rw [he]; exact ⟨rfl, rfl⟩⟩, fun k _ => val_same hs k, fun n hn => ⟨?_, fun _ h => h.elim⟩⟩
  rw [holds_core he] at hn
  exact hn
theorem val_all' {d d' : deskT.D} (h : ∀ k : Nat, k < 32 → valF d' (k : Int) = valF d (k : Int)) (n : Int) : valF d' n = valF d n := by
  by_cases hn : 0 ≤ n ∧ n < 32
  · have := h n.toNat (by omega)
    rwa [show ((n.toNat : Nat) : Int) = n from by omega] at this
  · unfold valF
    rw [if_neg hn, if_neg hn]
theorem lk_mv {c : Int} {d e : deskT.D} (hg : goodK d = true) (hm : Mv d e) (hge : goodD e = true) (hv : ∀ k : Nat, k < 32 → valF e (k : Int) = valF d (k : Int)) : Lk c d e false noT :=
  ⟨goodK_mv hg hm hge, Or.inl ⟨rfl, hm.core _⟩, fun k _ => val_all' hv k, fun n hn => ⟨holds_mv (good_nz (goodK_D hg)) hm hn, fun _ h => h.elim⟩⟩
theorem lk_share {c : Int} {d : deskT.D} (hg : goodK d = true) (n : Int) : Lk c d (shareF d c n) false noT :=
  lk_mv hg (mv_share (good_nz (goodK_D hg)) c n) (shareF_ok (goodK_D hg) c n).1 (shareF_ok (goodK_D hg) c n).2.1
theorem lk_own {c : Int} {d : deskT.D} (hg : goodK d = true) (n : Int) : Lk c d (ownF d c n) false noT :=
  lk_mv hg (mv_own (good_nz (goodK_D hg)) c n) (ownF_ok (goodK_D hg) c n).1 (ownF_ok (goodK_D hg) c n).2.1
theorem lk_fail {c : Int} (hc : 0 ≤ c ∧ c < 2) {d : deskT.D} (hg : goodK d = true) (hd : (d.1 (1 - c).toNat).2.2.1 ≠ 0) (l : progsT.D) (why : Int) : Lk c d (failD d l (1 - c) why).1 true noT := by
  have he : ((failD d l (1 - c) why).1.1 (1 - c).toNat).2.2.1 = 0 := by
    show ((setCore d (1 - c).toNat _).1 (1 - c).toNat).2.2.1 = 0
    rw [set_at]
    rfl
  refine ⟨fail_good hg (by omega) hd _ _, Or.inr ⟨rfl, hd, he⟩, fun k _ => val_same (fail_same (goodK_D hg) _ _ _) k, fun n hn => ?_⟩
  rw [holds_deep he] at hn
  cases hn
theorem lineOf_nat {w : Nat} (h : w < 32) : lineOf (w : Int) = ((w / 2 : Nat) : Int) := by
  unfold lineOf
  rw [half_eq (by omega), Int.tdiv_eq_ediv_of_nonneg (by omega)]
  omega
/-- A line is one's own, and is written into. -/
theorem lk_put {c : Int} (hc : 0 ≤ c ∧ c < 2) {d : deskT.D} (hg : goodK d = true) {word n : Int} (hw : 0 ≤ word ∧ word < 32) (hn : 0 ≤ n ∧ n ≤ 4294967295) (hh : holdsF d (1 - c) (lineOf word) = false) :
    Lk c d (writeF (ownF d c (lineOf word)) c word n) false (fun k => k = word) ∧ valF (writeF (ownF d c (lineOf word)) c word n) word = n := by
  obtain ⟨w, rfl⟩ : ∃ w : Nat, word = (w : Int) := ⟨word.toNat, by omega⟩
  have hw' : w < 32 := by omega
  have h1 := lk_own (c := c) hg (lineOf (w : Int))
  have hl := lineOf_nat hw'
  obtain ⟨o1, o2, o3⟩ := ownF_ok (goodK_D hg) c (lineOf (w : Int))
  obtain ⟨o4, o5, o6⟩ := o3 hc (by rw [hl]; omega)
  rw [hl] at o1 o4 o5 h1 hh ⊢
  obtain ⟨w1, w2⟩ := writeF_ok o1 c (word := w) hw' hn hc o4 o5
  have hm := mv_write (good_nz o1) c (w : Int) n
  refine ⟨(h1.trans (⟨goodK_mv h1.good hm w1, Or.inl ⟨rfl, hm.core _⟩, fun k hk => ?_, fun m hm' => ?_⟩ : Lk c _ _ false (fun k => k = (w : Int)))).cast rfl (fun x => ⟨fun h => h.elim False.elim id, Or.inr⟩), ?_⟩
  · by_cases hk' : 0 ≤ k ∧ k < 32
    · have e := w2 k.toNat (by omega)
      rwa [if_neg (by omega), show ((k.toNat : Nat) : Int) = k from by omega] at e
    · unfold valF
      rw [if_neg hk', if_neg hk']
  · have g := holds_mv (good_nz o1) hm hm'
    refine ⟨g, fun k hk hkm => ?_⟩
    have g2 := (h1.hold m g).1
    rw [← hkm, hk, hl, hh] at g2
    cases g2
  · have e := w2 w hw'
    rwa [if_pos rfl] at e
end Go.Proofs.Ytjbbgpacijageab.M
