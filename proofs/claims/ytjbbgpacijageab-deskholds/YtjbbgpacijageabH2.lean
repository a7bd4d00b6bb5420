/- Desks: what keeps them good. -/
import Derived.Test.YtjbbgpacijageabH1
namespace Go.Proofs.Ytjbbgpacijageab.M
open Go.RowKit
set_option linter.unusedVariables false
set_option linter.unusedSimpArgs false

theorem and2 {a b : Bool} : (a && b) = true ↔ a = true ∧ b = true := by cases a <;> cases b <;> simp
/-- What makes a core good. -/
structure CoreOk (x : coreT.D) : Prop where
  now : goodP x.1 = true
  lo : 0 ≤ x.2.2.1
  hi : x.2.2.1 ≤ 3
  free : x.2.2.1 = 0 → x.2.2.2.1 = plainT.zero → True
  out : x.2.2.1 = 0 → eqT plainT x.2.2.2.1 plainT.zero = true ∧ x.2.2.2.2.1.2 = [] ∧ x.2.2.2.2.2 = 0 ∧ anyRead x = false
  ins : x.2.2.1 ≠ 0 → goodP x.2.2.2.1 = true ∧ x.2.2.2.1.2.2 = false ∧ x.1.2.2 = false ∧ (1 ≤ x.2.2.2.2.2 ∧ x.2.2.2.2.2 < 400) ∧ goodWs x.2.2.2.2.1.2 = true
theorem goodC_iff (x : coreT.D) : goodC x = true ↔ CoreOk x := by
  unfold goodC
  rw [and2, and2, decide_eq_true_iff]
  constructor
  · rintro ⟨h1, ⟨h2, h3⟩, h4⟩
    refine ⟨h1, h2, h3, fun _ _ => trivial, fun h0 => ?_, fun h0 => ?_⟩
    · rw [if_pos h0] at h4
      unfold freeF at h4
      rw [and2, and2, and2, decide_eq_true_iff, decide_eq_true_iff] at h4
      exact ⟨h4.1, List.length_eq_zero_iff.1 h4.2.1, h4.2.2.1, not_t' h4.2.2.2⟩
    · rw [if_neg h0, and2, and2, and2, and2, decide_eq_true_iff] at h4
      exact ⟨h4.1, not_t' h4.2.1, not_t' h4.2.2.1, h4.2.2.2.1, h4.2.2.2.2⟩
  · rintro ⟨h1, h2, h3, _, h4, h5⟩
    refine ⟨h1, ⟨h2, h3⟩, ?_⟩
    by_cases h0 : x.2.2.1 = 0
    · rw [if_pos h0]
      obtain ⟨g1, g2, g3, g4⟩ := h4 h0
      unfold freeF
      rw [g1, g2, g4, decide_eq_true g3]
      rfl
    · rw [if_neg h0]
      obtain ⟨g1, g2, g3, g4, g5⟩ := h5 h0
      rw [g1, g2, g3, g5, decide_eq_true g4]
      rfl
theorem goodK_iff (d : deskT.D) : goodK d = true ↔ (∀ k, k < 2 → CoreOk (d.1 k)) ∧ goodD d = true := by
  unfold goodK
  rw [and2, and2, goodC_iff, goodC_iff]
  constructor
  · rintro ⟨h0, h1, h2⟩
    refine ⟨fun k hk => ?_, h2⟩
    have : k = 0 ∨ k = 1 := by omega
    rcases this with rfl | rfl
    · exact h0
    · exact h1
  · rintro ⟨h, h2⟩
    exact ⟨h 0 (by decide), h 1 (by decide), h2⟩
theorem any_iff (x : coreT.D) : anyRead x = true ↔ ∃ w, w < 4 ∧ (x.2.1 w).2.2.2 = true := by
  unfold anyRead
  rw [List.any_eq_true]
  constructor
  · rintro ⟨w, hw, h⟩
    exact ⟨w, List.mem_range.1 hw, h⟩
  · rintro ⟨w, hw, h⟩
    exact ⟨w, List.mem_range.2 hw, h⟩
theorem any_false {x : coreT.D} (h : ∀ w, w < 4 → (x.2.1 w).2.2.2 = false) : anyRead x = false := by
  rw [← Bool.not_eq_true, any_iff]
  rintro ⟨w, hw, g⟩
  rw [h w hw] at g
  cases g
theorem CoreOk.mv {x y : coreT.D} (h : CoreOk y) (hs : sameX x y) (hr : ∀ w, w < 4 → (x.2.1 w).2.2.2 = true → (y.2.1 w).2.2.2 = true) : CoreOk x := by
  obtain ⟨e1, e2⟩ := hs
  refine ⟨by rw [e1]; exact h.now, by rw [e2]; exact h.lo, by rw [e2]; exact h.hi, fun _ _ => trivial, fun h0 => ?_, fun h0 => ?_⟩
  · rw [e2] at h0 ⊢
    obtain ⟨g1, g2, g3, g4⟩ := h.out h0
    refine ⟨g1, g2, g3, any_false fun w hw => ?_⟩
    cases hx : (x.2.1 w).2.2.2 with
    | false => rfl
    | true =>
      exfalso
      have : anyRead y = true := (any_iff y).2 ⟨w, hw, hr w hw hx⟩
      rw [g4] at this
      cases this
  · rw [e2] at h0 ⊢
    rw [e1]
    exact h.ins h0
theorem goodK_mv {d e : deskT.D} (hg : goodK d = true) (hm : Mv d e) (hge : goodD e = true) : goodK e = true := by
  rw [goodK_iff] at hg ⊢
  exact ⟨fun k hk => (hg.1 k hk).mv (hm.core k) fun w hw hr => (hm.rd k w hk hw hr).1, hge⟩
theorem goodK_D {d : deskT.D} (hg : goodK d = true) : goodD d = true := ((goodK_iff d).1 hg).2

/-- Lines and memory are as they were, but for what is read. -/
structure SameL (d e : deskT.D) : Prop where
  mem : e.2 = d.2
  ln : ∀ k w, k < 2 → w < 4 → (lineAt e k w).1 = (lineAt d k w).1 ∧ (lineAt e k w).2.1 = (lineAt d k w).2.1 ∧ (lineAt e k w).2.2.1 = (lineAt d k w).2.2.1
  rd : ∀ k w, k < 2 → w < 4 → rdAt e k w = true → (lineAt d k w).1 ≠ 0
theorem goodD_same {d e : deskT.D} (hg : goodD d = true) (h : SameL d e) : goodD e = true := by
  rw [good_iff] at hg ⊢
  refine ⟨fun k hk => by rw [h.mem]; exact hg.1 k hk, fun c hc w hw => ?_⟩
  have h1 := hg.2 c hc w hw
  obtain ⟨a1, a2, a3⟩ := h.ln c w hc hw
  obtain ⟨b1, b2, b3⟩ := h.ln (1 - c) w (by omega) hw
  show OkC (lineAt e c w).1 (lineAt e c w).2.1 (lineAt e c w).2.2.1 (lineAt e c w).2.2.2 (lineAt e (1 - c) w).1 (lineAt e (1 - c) w).2.1 e.2 w
  have h1 : OkC (lineAt d c w).1 (lineAt d c w).2.1 (lineAt d c w).2.2.1 (lineAt d c w).2.2.2 (lineAt d (1 - c) w).1 (lineAt d (1 - c) w).2.1 d.2 w := h1
  rw [a1, a2, a3, b1, b2, h.mem]
  rcases h1 with ⟨g1, g2, g3, g4, g5⟩ | h1
  · refine Or.inl ⟨g1, g2, g3, g4, ?_⟩
    cases hr : (lineAt e c w).2.2.2 with
    | false => rfl
    | true => exact absurd g1 (h.rd c w hc hw hr)
  · exact Or.inr h1
theorem val_same {d e : deskT.D} (h : SameL d e) (n : Int) : valF e n = valF d n := by
  by_cases hn : 0 ≤ n ∧ n < 32
  · obtain ⟨k, rfl⟩ : ∃ k : Nat, n = (k : Int) := ⟨n.toNat, by omega⟩
    have hk : k < 32 := by omega
    rw [val_eq e k hk, val_eq d k hk]
    obtain ⟨a1, a2, a3⟩ := h.ln 0 (k / 2 % 4) (by decide) (by omega)
    obtain ⟨b1, b2, b3⟩ := h.ln 1 (k / 2 % 4) (by decide) (by omega)
    show val2 (lineAt e 0 (k / 2 % 4)).1 (lineAt e 0 (k / 2 % 4)).2.1 (lineAt e 0 (k / 2 % 4)).2.2.1 (lineAt e 1 (k / 2 % 4)).1 (lineAt e 1 (k / 2 % 4)).2.1 (lineAt e 1 (k / 2 % 4)).2.2.1 e.2 k = val2 (lineAt d 0 (k / 2 % 4)).1 (lineAt d 0 (k / 2 % 4)).2.1 (lineAt d 0 (k / 2 % 4)).2.2.1 (lineAt d 1 (k / 2 % 4)).1 (lineAt d 1 (k / 2 % 4)).2.1 (lineAt d 1 (k / 2 % 4)).2.2.1 d.2 k
    rw [a1, a2, a3, b1, b2, b3, h.mem]
  · unfold valF
    rw [if_neg hn, if_neg hn]
theorem set_ne (d : deskT.D) {c k : Nat} (x : coreT.D) (h : k ≠ c) : (setCore d c x).1 k = d.1 k := updA_ne h
/-- A core is another one, its lines as they were. -/
theorem sameL_set {d : deskT.D} (hg : goodD d = true) {c : Nat} {x : coreT.D} (hl : ∀ w, w < 4 → (x.2.1 w).1 = (lineAt d c w).1 ∧ (x.2.1 w).2.1 = (lineAt d c w).2.1 ∧ (x.2.1 w).2.2.1 = (lineAt d c w).2.2.1 ∧ ((x.2.1 w).2.2.2 = true → (lineAt d c w).1 ≠ 0)) : SameL d (setCore d c x) := by
  refine ⟨rfl, fun k w hk hw => ?_, fun k w hk hw hr => ?_⟩
  · unfold lineAt
    by_cases h : k = c
    · rw [h, set_at]
      exact ⟨(hl w hw).1, (hl w hw).2.1, (hl w hw).2.2.1⟩
    · rw [set_ne d x h]
      exact ⟨rfl, rfl, rfl⟩
  · unfold rdAt lineAt at hr
    by_cases h : k = c
    · rw [h, set_at] at hr
      rw [h]
      exact (hl w hw).2.2.2 hr
    · rw [set_ne d x h] at hr
      exact good_nz hg k w hk hw hr
theorem sameL_keep {d : deskT.D} (hg : goodD d = true) {c : Nat} (hc : c < 2) {x : coreT.D} (hx : x.2.1 = (d.1 c).2.1) : SameL d (setCore d c x) :=
  sameL_set hg fun w hw => by
    rw [hx]
    exact ⟨rfl, rfl, rfl, fun hr => good_nz hg c w hc hw hr⟩
theorem goodK_set {d : deskT.D} (hg : goodK d = true) {c : Nat} {x : coreT.D} (hx : CoreOk x) (hs : SameL d (setCore d c x)) : goodK (setCore d c x) = true := by
  rw [goodK_iff] at hg ⊢
  refine ⟨fun k hk => ?_, goodD_same hg.2 hs⟩
  by_cases h : k = c
  · rw [h, set_at]; exact hx
  · rw [set_ne d x h]; exact hg.1 k hk
/-- A core that is freed. -/
theorem sameL_freed {d : deskT.D} (hg : goodD d = true) {c : Nat} {p : plainT.D} : SameL d (setCore d c (p, (freedF (d.1 c)).2)) :=
  sameL_set hg fun w hw => by
    show (noRead (d.1 c).2.1 w).1 = _ ∧ (noRead (d.1 c).2.1 w).2.1 = _ ∧ (noRead (d.1 c).2.1 w).2.2.1 = _ ∧ ((noRead (d.1 c).2.1 w).2.2.2 = true → _)
    unfold noRead
    rw [if_pos hw]
    exact ⟨rfl, rfl, rfl, fun h => by cases h⟩
theorem free_ok {x : coreT.D} {p : plainT.D} (hp : goodP p = true) : CoreOk (p, (freedF x).2) := by
  refine ⟨hp, Int.le_refl _, (by decide : (0 : Int) ≤ 3), fun _ _ => trivial, fun _ => ⟨rfl, rfl, rfl, any_false fun w hw => ?_⟩, fun h => absurd rfl h⟩
  show (noRead x.2.1 w).2.2.2 = false
  unfold noRead
  rw [if_pos hw]
end Go.Proofs.Ytjbbgpacijageab.M
