/- Caches in order: what each way of them says. No program is named here beyond what the functions mean. -/
import Derived.Test.YtjbbgpacijageabC9
namespace Go.Proofs.Ytjbbgpacijageab.M
open Go.RowKit
set_option linter.unusedVariables false
set_option linter.unusedSimpArgs false

def Wd (z : Int) : Prop := 0 ≤ z ∧ z ≤ 4294967295
/-- A line of share s, number L, words x, read r beside one of share s', number L'. -/
def OkC (s L : Int) (x : Nat → Int) (r : Bool) (s' L' : Int) (m : Nat → Int) (w : Nat) : Prop :=
  (s = 0 ∧ L = 0 ∧ x 0 = 0 ∧ x 1 = 0 ∧ r = false) ∨
  (1 ≤ s ∧ s ≤ 3 ∧ 0 ≤ L ∧ L < 16 ∧ L % 4 = (w : Int) ∧ Wd (x 0) ∧ Wd (x 1) ∧
    (s ≤ 2 → x 0 = m (2 * L.toNat) ∧ x 1 = m (2 * L.toNat + 1)) ∧ (2 ≤ s → s' = 0 ∨ L' ≠ L))
theorem range2 (p : Nat → Bool) : (List.range 2).all p = (p 0 && p 1) := by simp [List.range_succ]
theorem eqI (a b : Int) : eqT .int a b = true ↔ a = b := ⟨fun h => of_decide_eq_true h, fun h => decide_eq_true h⟩
theorem eqBo (a b : Bool) : eqT .bool a b = true ↔ a = b := ⟨fun h => of_decide_eq_true h, fun h => decide_eq_true h⟩
theorem eqA2 (f g : Nat → Int) : eqT (.arr 2 .int) f g = true ↔ f 0 = g 0 ∧ f 1 = g 1 := by
  unfold eqT
  rw [range2, Bool.and_eq_true]
  exact and_congr (eqI _ _) (eqI _ _)
theorem eqLine (s L : Int) (x : Nat → Int) (r : Bool) (s' L' : Int) (x' : Nat → Int) (r' : Bool) : eqT lineT (s, L, x, r) (s', L', x', r') = true ↔ s = s' ∧ L = L' ∧ (x 0 = x' 0 ∧ x 1 = x' 1) ∧ r = r' := by
  show (eqT .int s s' && (eqT .int L L' && (eqT (.arr 2 .int) x x' && eqT .bool r r'))) = true ↔ _
  rw [Bool.and_eq_true, Bool.and_eq_true, Bool.and_eq_true, eqI, eqI, eqA2, eqBo]
theorem has_iff (s L : Int) (x : Nat → Int) (r : Bool) (n : Int) : hasL (s, L, x, r) n = true ↔ s ≠ 0 ∧ L = n := ⟨fun h => of_decide_eq_true h, fun h => decide_eq_true h⟩
theorem isW_iff (z : Int) : isW z = true ↔ Wd z := by
  unfold isW Wd
  exact decide_eq_true_iff
theorem ok_iff (s L : Int) (x : Nat → Int) (r : Bool) (s' L' : Int) (x' : Nat → Int) (r' : Bool) (m : Nat → Int) (w : Nat) :
    (goodLn (s, L, x, r) w && agreesF (s, L, x, r) (s', L', x', r') m) = true ↔ OkC s L x r s' L' m w := by
  unfold OkC
  have hnb : ∀ b : Bool, (!b) = true ↔ ¬ b = true := fun b => by cases b <;> simp
  have hag0 : s ≠ 1 → s ≠ 2 → s ≠ 3 → agreesF (s, L, x, r) (s', L', x', r') m = true := fun h1 h2 h3 => by
    unfold agreesF
    rw [if_neg h1, if_neg h2, if_neg h3]
  by_cases h0 : s = 0
  · subst h0
    rw [hag0 (by decide) (by decide) (by decide), Bool.and_true]
    have : goodLn (0, L, x, r) w = eqT lineT (0, L, x, r) (0, 0, fun _ => 0, false) := by
      unfold goodLn
      rw [show decide (((0 : Int), L, x, r).1 = 0) = true from rfl]
      rfl
    rw [this, eqLine]
    constructor
    · rintro ⟨h1, h2, ⟨h3, h4⟩, h5⟩
      exact Or.inl ⟨h1, h2, h3, h4, h5⟩
    · rintro (⟨h1, h2, h3, h4, h5⟩ | ⟨h1, _⟩)
      · exact ⟨h1, h2, ⟨h3, h4⟩, h5⟩
      · omega
  · have htm : 0 ≤ L → L.tmod 4 = L % 4 := fun h => Int.tmod_eq_emod_of_nonneg h
    have hown : (ownL .int x 0 2).all isW = (isW (x 0) && isW (x 1)) := by
      show (isW (x (0 + 0)) && (isW (x (0 + 1)) && true)) = _
      rw [Bool.and_true]
    have hgood : goodLn (s, L, x, r) w = true ↔ (1 ≤ s ∧ s ≤ 3 ∧ 0 ≤ L ∧ L < 16 ∧ L % 4 = (w : Int) ∧ Wd (x 0) ∧ Wd (x 1)) := by
      have : goodLn (s, L, x, r) w = (decide (1 ≤ s ∧ s ≤ 3 ∧ (0 ≤ L ∧ L < 16) ∧ L.tmod 4 = (w : Int)) && (ownL .int x 0 2).all isW) := by
        unfold goodLn
        rw [show decide ((s, L, x, r).1 = 0) = false from decide_eq_false h0]
        rfl
      rw [this, hown, Bool.and_eq_true, Bool.and_eq_true, isW_iff, isW_iff, decide_eq_true_iff]
      constructor
      · rintro ⟨⟨h1, h2, ⟨h3, h4⟩, h5⟩, h6, h7⟩
        rw [htm h3] at h5
        exact ⟨h1, h2, h3, h4, h5, h6, h7⟩
      · rintro ⟨h1, h2, h3, h4, h5, h6, h7⟩
        exact ⟨⟨h1, h2, ⟨h3, h4⟩, by rw [htm h3]; exact h5⟩, h6, h7⟩
    have g1 : s = 1 → (agreesF (s, L, x, r) (s', L', x', r') m = true ↔ x 0 = m (2 * L.toNat) ∧ x 1 = m (2 * L.toNat + 1)) := fun h => by
      unfold agreesF
      rw [if_pos h, eqA2]
      rfl
    have g2 : s = 2 → (agreesF (s, L, x, r) (s', L', x', r') m = true ↔ (x 0 = m (2 * L.toNat) ∧ x 1 = m (2 * L.toNat + 1)) ∧ ¬ (s' ≠ 0 ∧ L' = L)) := fun h => by
      unfold agreesF
      rw [if_neg (show ¬ (s, L, x, r).1 = 1 from by show ¬ s = 1; omega), if_pos h, Bool.and_eq_true, eqA2, hnb, has_iff]
      exact Iff.rfl
    have g3 : s = 3 → (agreesF (s, L, x, r) (s', L', x', r') m = true ↔ ¬ (s' ≠ 0 ∧ L' = L)) := fun h => by
      unfold agreesF
      rw [if_neg (show ¬ (s, L, x, r).1 = 1 from by show ¬ s = 1; omega), if_neg (show ¬ (s, L, x, r).1 = 2 from by show ¬ s = 2; omega), if_pos h, hnb, has_iff]
    have hex : ¬ (s' ≠ 0 ∧ L' = L) ↔ (s' = 0 ∨ L' ≠ L) := by omega
    rw [Bool.and_eq_true, hgood]
    constructor
    · rintro ⟨⟨h1, h2, h3, h4, h5, h6, h7⟩, hag⟩
      refine Or.inr ⟨h1, h2, h3, h4, h5, h6, h7, fun hs => ?_, fun hs => ?_⟩
      · have : s = 1 ∨ s = 2 := by omega
        rcases this with h | h
        · exact (g1 h).1 hag
        · exact ((g2 h).1 hag).1
      · have : s = 2 ∨ s = 3 := by omega
        rcases this with h | h
        · exact hex.1 ((g2 h).1 hag).2
        · exact hex.1 ((g3 h).1 hag)
    · rintro (⟨h, _⟩ | ⟨h1, h2, h3, h4, h5, h6, h7, h8, h9⟩)
      · exact absurd h h0
      · refine ⟨⟨h1, h2, h3, h4, h5, h6, h7⟩, ?_⟩
        have : s = 1 ∨ s = 2 ∨ s = 3 := by omega
        rcases this with h | h | h
        · exact (g1 h).2 (h8 (by omega))
        · exact (g2 h).2 ⟨h8 (by omega), hex.2 (h9 (by omega))⟩
        · exact (g3 h).2 (hex.2 (h9 (by omega)))
abbrev OkW (d : deskT.D) (c c' w : Nat) : Prop := OkC (lineAt d c w).1 (lineAt d c w).2.1 (lineAt d c w).2.2.1 (lineAt d c w).2.2.2 (lineAt d c' w).1 (lineAt d c' w).2.1 d.2 w
theorem okAt_iff (d : deskT.D) (c w : Nat) : okAt d c w = true ↔ OkW d c (1 - c) w := ok_iff _ _ _ _ _ _ _ _ _ _
theorem good_iff (d : deskT.D) : goodD d = true ↔ (∀ k, k < 32 → Wd (d.2 k)) ∧ ∀ c, c < 2 → ∀ w, w < 4 → OkW d c (1 - c) w := by
  unfold goodD
  rw [Bool.and_eq_true, List.all_eq_true, List.all_eq_true]
  constructor
  · rintro ⟨h1, h2⟩
    refine ⟨fun k hk => ?_, fun c hc w hw => (okAt_iff d c w).1 (List.all_eq_true.1 (h2 c (List.mem_range.2 hc)) w (List.mem_range.2 hw))⟩
    have := h1 (d.2 k) (by simp [ownL]; exact ⟨k, hk, rfl⟩)
    exact (isW_iff _).1 this
  · rintro ⟨h1, h2⟩
    refine ⟨fun z hz => ?_, fun c hc => List.all_eq_true.2 fun w hw => (okAt_iff d c w).2 (h2 c (List.mem_range.1 hc) w (List.mem_range.1 hw))⟩
    simp only [ownL, List.mem_map, List.mem_range] at hz
    obtain ⟨k, hk, rfl⟩ := hz
    rw [Nat.zero_add]
    exact (isW_iff _).2 (h1 k hk)

/-- A word as it is, by the two lines at its way. -/
def val2 (s L : Int) (x : Nat → Int) (s' L' : Int) (x' : Nat → Int) (m : Nat → Int) (k : Nat) : Int :=
  if s = 3 ∧ L = ((k / 2 : Nat) : Int) then x (k % 2) else if s' = 3 ∧ L' = ((k / 2 : Nat) : Int) then x' (k % 2) else m k
abbrev valW (d : deskT.D) (c c' w k : Nat) : Int := val2 (lineAt d c w).1 (lineAt d c w).2.1 (lineAt d c w).2.2.1 (lineAt d c' w).1 (lineAt d c' w).2.1 (lineAt d c' w).2.2.1 d.2 k
theorem val_eq (d : deskT.D) (k : Nat) (hk : k < 32) : valF d (k : Int) = valW d 0 1 (k / 2 % 4) k := by
  have h1 : (k : Int).tdiv 2 = ((k / 2 : Nat) : Int) := by rw [Int.tdiv_eq_ediv_of_nonneg (by omega)]; omega
  have h2 : ((k : Int).tmod 2).toNat = k % 2 := by rw [Int.tmod_eq_emod_of_nonneg (by omega)]; omega
  have h3 : (((k / 2 : Nat) : Int).tmod 4) = ((k / 2 % 4 : Nat) : Int) := by rw [Int.tmod_eq_emod_of_nonneg (by omega)]; omega
  have hf : ∀ c : Int, 0 ≤ c ∧ c < 2 → findF d c ((k / 2 : Nat) : Int) = (((k / 2 % 4 : Nat) : Int), hasL (lineAt d c.toNat (k / 2 % 4)) ((k / 2 : Nat) : Int)) := fun c hc => by
    unfold findF
    rw [if_pos ⟨hc, by omega⟩, h3]
    rfl
  unfold valF valW val2
  rw [if_pos (by omega), h1, hf 0 (by decide), hf 1 (by decide), h2]
  simp only [Int.toNat_natCast, hasL, decide_eq_true_eq]
  have e0 : ∀ l : lineT.D, ((l.1 ≠ 0 ∧ l.2.1 = ((k / 2 : Nat) : Int)) ∧ l.1 = 3) = (l.1 = 3 ∧ l.2.1 = ((k / 2 : Nat) : Int)) := fun l => by
    apply propext
    constructor
    · rintro ⟨⟨_, h⟩, h'⟩; exact ⟨h', h⟩
    · rintro ⟨h, h'⟩; exact ⟨⟨by rw [h]; decide, h'⟩, h⟩
  simp only [show ∀ w, (d.1 0).2.1 w = lineAt d 0 w from fun _ => rfl, show ∀ w, (d.1 1).2.1 w = lineAt d 1 w from fun _ => rfl, show Int.toNat 0 = 0 from rfl, show Int.toNat 1 = 1 from rfl, e0]
end Go.Proofs.Ytjbbgpacijageab.M
