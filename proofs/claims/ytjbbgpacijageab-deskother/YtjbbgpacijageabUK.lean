/- Several texts in one. -/
import Derived.Test.YtjbbgpacijageabUE
/- Caches in order: what each way of them says. No program is named here beyond what the functions mean. -/
namespace Go.Proofs.Ytjbbgpacijageab.M
open Go.RowKit
set_option linter.unusedVariables false
set_option linter.unusedSimpArgs false

def Wd (z : Int) : Prop := 0 ≤ z ∧ z ≤ 4294967295
/-- A line of share s, number L, words x, read r beside one of share s', number L'. -/
def OkC (s L : Int) (x : Nat → Int) (r : Bool) (s' L' : Int) (m : Nat → Int) (w : Nat) : Prop :=
  (s = 0 ∧ L = 0 ∧ x 0 = 0 ∧ x 1 = 0 ∧ r = false) ∨
  (1 ≤ s ∧ s ≤ 3 ∧ 0 ≤ L ∧ L < 16 ∧ L % 4 = (w : Int) ∧ Wd (x 0) ∧ Wd (x 1) ∧
    (s ≤ 2 → x 0 = m (2 * L.toNat) ∧ x 1 = m (2 * L.toNat + 1)) ∧ (2 ≤ s → s' = 0 ∨ L' ≠ L))
theorem range2 (p : Nat → Bool) : (List.range 2).all p = (p 0 && p 1) := by simp [List.range_succ]
theorem eqI (a b : Int) : eqT .int a b = true ↔ a = b := ⟨fun h => of_decide_eq_true h, fun h => decide_eq_true h⟩
theorem eqBo (a b : Bool) : eqT .bool a b = true ↔ a = b := ⟨fun h => of_decide_eq_true h, fun h => decide_eq_true h⟩
theorem eqA2 (f g : Nat → Int) : eqT (.arr 2 .int) f g = true ↔ f 0 = g 0 ∧ f 1 = g 1 := by
  unfold eqT
  rw [range2, Bool.and_eq_true]
  exact and_congr (eqI _ _) (eqI _ _)
theorem eqLine (s L : Int) (x : Nat → Int) (r : Bool) (s' L' : Int) (x' : Nat → Int) (r' : Bool) : eqT lineT (s, L, x, r) (s', L', x', r') = true ↔ s = s' ∧ L = L' ∧ (x 0 = x' 0 ∧ x 1 = x' 1) ∧ r = r' := by
  show (eqT .int s s' && (eqT .int L L' && (eqT (.arr 2 .int) x x' && eqT .bool r r'))) = true ↔ _
  rw [Bool.and_eq_true, Bool.and_eq_true, Bool.and_eq_true, eqI, eqI, eqA2, eqBo]
theorem has_iff (s L : Int) (x : Nat → Int) (r : Bool) (n : Int) : hasL (s, L, x, r) n = true ↔ s ≠ 0 ∧ L = n := ⟨fun h => of_decide_eq_true h, fun h => decide_eq_true h⟩
theorem isW_iff (z : Int) : isW z = true ↔ Wd z := by
  unfold isW Wd
  exact decide_eq_true_iff
theorem ok_iff (s L : Int) (x : Nat → Int) (r : Bool) (s' L' : Int) (x' : Nat → Int) (r' : Bool) (m : Nat → Int) (w : Nat) :
    (goodLn (s, L, x, r) w && agreesF (s, L, x, r) (s', L', x', r') m) = true ↔ OkC s L x r s' L' m w := by
  unfold OkC
  have hnb : ∀ b : Bool, (!b) = true ↔ ¬ b = true := fun b => by cases b <;> simp
  have hag0 : s ≠ 1 → s ≠ 2 → s ≠ 3 → agreesF (s, L, x, r) (s', L', x', r') m = true := fun h1 h2 h3 => by
    unfold agreesF
    rw [if_neg h1, if_neg h2, if_neg h3]
  by_cases h0 : s = 0
  · subst h0
    rw [hag0 (by decide) (by decide) (by decide), Bool.and_true]
    have : goodLn (0, L, x, r) w = eqT lineT (0, L, x, r) (0, 0, fun _ => 0, false) := by
      unfold goodLn
      rw [show decide (((0 : Int), L, x, r).1 = 0) = true from rfl]
      rfl
    rw [this, eqLine]
    constructor
    · rintro ⟨h1, h2, ⟨h3, h4⟩, h5⟩
      exact Or.inl ⟨h1, h2, h3, h4, h5⟩
    · rintro (⟨h1, h2, h3, h4, h5⟩ | ⟨h1, _⟩)
      · exact ⟨h1, h2, ⟨h3, h4⟩, h5⟩
      · omega
  · have htm : 0 ≤ L → L.tmod 4 = L % 4 := fun h => Int.tmod_eq_emod_of_nonneg h
    have hown : (ownL .int x 0 2).all isW = (isW (x 0) && isW (x 1)) := by
      show (isW (x (0 + 0)) && (isW (x (0 + 1)) && true)) = _
      rw [Bool.and_true]
    have hgood : goodLn (s, L, x, r) w = true ↔ (1 ≤ s ∧ s ≤ 3 ∧ 0 ≤ L ∧ L < 16 ∧ L % 4 = (w : Int) ∧ Wd (x 0) ∧ Wd (x 1)) := by
      have : goodLn (s, L, x, r) w = (decide (1 ≤ s ∧ s ≤ 3 ∧ (0 ≤ L ∧ L < 16) ∧ L.tmod 4 = (w : Int)) && (ownL .int x 0 2).all isW) := by
        unfold goodLn
        rw [show decide ((s, L, x, r).1 = 0) = false from decide_eq_false h0]
        rfl
      rw [this, hown, Bool.and_eq_true, Bool.and_eq_true, isW_iff, isW_iff, decide_eq_true_iff]
      constructor
      · rintro ⟨⟨h1, h2, ⟨h3, h4⟩, h5⟩, h6, h7⟩
        rw [htm h3] at h5
        exact ⟨h1, h2, h3, h4, h5, h6, h7⟩
      · rintro ⟨h1, h2, h3, h4, h5, h6, h7⟩
        exact ⟨⟨h1, h2, ⟨h3, h4⟩, by rw [htm h3]; exact h5⟩, h6, h7⟩
    have g1 : s = 1 → (agreesF (s, L, x, r) (s', L', x', r') m = true ↔ x 0 = m (2 * L.toNat) ∧ x 1 = m (2 * L.toNat + 1)) := fun h => by
      unfold agreesF
      rw [if_pos h, eqA2]
      rfl
    have g2 : s = 2 → (agreesF (s, L, x, r) (s', L', x', r') m = true ↔ (x 0 = m (2 * L.toNat) ∧ x 1 = m (2 * L.toNat + 1)) ∧ ¬ (s' ≠ 0 ∧ L' = L)) := fun h => by
      unfold agreesF
      rw [if_neg (show ¬ (s, L, x, r).1 = 1 from by show ¬ s = 1; omega), if_pos h, Bool.and_eq_true, eqA2, hnb, has_iff]
      exact Iff.rfl
    have g3 : s = 3 → (agreesF (s, L, x, r) (s', L', x', r') m = true ↔ ¬ (s' ≠ 0 ∧ L' = L)) := fun h => by
      unfold agreesF
      rw [if_neg (show ¬ (s, L, x, r).1 = 1 from by show ¬ s = 1; omega), if_neg (show ¬ (s, L, x, r).1 = 2 from by show ¬ s = 2; omega), if_pos h, hnb, has_iff]
    have hex : ¬ (s' ≠ 0 ∧ L' = L) ↔ (s' = 0 ∨ L' ≠ L) := by omega
    rw [Bool.and_eq_true, hgood]
    constructor
    · rintro ⟨⟨h1, h2, h3, h4, h5, h6, h7⟩, hag⟩
      refine Or.inr ⟨h1, h2, h3, h4, h5, h6, h7, fun hs => ?_, fun hs => ?_⟩
      · have : s = 1 ∨ s = 2 := by omega
        rcases this with h | h
        · exact (g1 h).1 hag
        · exact ((g2 h).1 hag).1
      · have : s = 2 ∨ s = 3 := by omega
        rcases this with h | h
        · exact hex.1 ((g2 h).1 hag).2
        · exact hex.1 ((g3 h).1 hag)
    · rintro (⟨h, _⟩ | ⟨h1, h2, h3, h4, h5, h6, h7, h8, h9⟩)
      · exact absurd h h0
      · refine ⟨⟨h1, h2, h3, h4, h5, h6, h7⟩, ?_⟩
        have : s = 1 ∨ s = 2 ∨ s = 3 := by omega
        rcases this with h | h | h
        · exact (g1 h).2 (h8 (by omega))
        · exact (g2 h).2 ⟨h8 (by omega), hex.2 (h9 (by omega))⟩
        · exact (g3 h).2 (hex.2 (h9 (by omega)))
abbrev OkW (d : deskT.D) (c c' w : Nat) : Prop := OkC (lineAt d c w).1 (lineAt d c w).2.1 (lineAt d c w).2.2.1 (lineAt d c w).2.2.2 (lineAt d c' w).1 (lineAt d c' w).2.1 d.2 w
theorem okAt_iff (d : deskT.D) (c w : Nat) : okAt d c w = true ↔ OkW d c (1 - c) w := ok_iff _ _ _ _ _ _ _ _ _ _
theorem good_iff (d : deskT.D) : goodD d = true ↔ (∀ k, k < 32 → Wd (d.2 k)) ∧ ∀ c, c < 2 → ∀ w, w < 4 → OkW d c (1 - c) w := by
  unfold goodD
  rw [Bool.and_eq_true, List.all_eq_true, List.all_eq_true]
  constructor
  · rintro ⟨h1, h2⟩
    refine ⟨fun k hk => ?_, fun c hc w hw => (okAt_iff d c w).1 (List.all_eq_true.1 (h2 c (List.mem_range.2 hc)) w (List.mem_range.2 hw))⟩
    have := h1 (d.2 k) (by simp [ownL]; exact ⟨k, hk, rfl⟩)
    exact (isW_iff _).1 this
  · rintro ⟨h1, h2⟩
    refine ⟨fun z hz => ?_, fun c hc => List.all_eq_true.2 fun w hw => (okAt_iff d c w).2 (h2 c (List.mem_range.1 hc) w (List.mem_range.1 hw))⟩
    simp only [ownL, List.mem_map, List.mem_range] at hz
    obtain ⟨k, hk, rfl⟩ := hz
    rw [Nat.zero_add]
    exact (isW_iff _).2 (h1 k hk)

/-- A word as it is, by the two lines at its way. -/
def val2 (s L : Int) (x : Nat → Int) (s' L' : Int) (x' : Nat → Int) (m : Nat → Int) (k : Nat) : Int :=
  if s = 3 ∧ L = ((k / 2 : Nat) : Int) then x (k % 2) else if s' = 3 ∧ L' = ((k / 2 : Nat) : Int) then x' (k % 2) else m k
abbrev valW (d : deskT.D) (c c' w k : Nat) : Int := val2 (lineAt d c w).1 (lineAt d c w).2.1 (lineAt d c w).2.2.1 (lineAt d c' w).1 (lineAt d c' w).2.1 (lineAt d c' w).2.2.1 d.2 k
theorem val_eq (d : deskT.D) (k : Nat) (hk : k < 32) : valF d (k : Int) = valW d 0 1 (k / 2 % 4) k := by
  have h1 : (k : Int).tdiv 2 = ((k / 2 : Nat) : Int) := by rw [Int.tdiv_eq_ediv_of_nonneg (by omega)]; omega
  have h2 : ((k : Int).tmod 2).toNat = k % 2 := by rw [Int.tmod_eq_emod_of_nonneg (by omega)]; omega
  have h3 : (((k / 2 : Nat) : Int).tmod 4) = ((k / 2 % 4 : Nat) : Int) := by rw [Int.tmod_eq_emod_of_nonneg (by omega)]; omega
  have hf : ∀ c : Int, 0 ≤ c ∧ c < 2 → findF d c ((k / 2 : Nat) : Int) = (((k / 2 % 4 : Nat) : Int), hasL (lineAt d c.toNat (k / 2 % 4)) ((k / 2 : Nat) : Int)) := fun c hc => by
    unfold findF
    rw [if_pos ⟨hc, by omega⟩, h3]
    rfl
  unfold valF valW val2
  rw [if_pos (by omega), h1, hf 0 (by decide), hf 1 (by decide), h2]
  simp only [Int.toNat_natCast, hasL, decide_eq_true_eq]
  have e0 : ∀ l : lineT.D, ((l.1 ≠ 0 ∧ l.2.1 = ((k / 2 : Nat) : Int)) ∧ l.1 = 3) = (l.1 = 3 ∧ l.2.1 = ((k / 2 : Nat) : Int)) := fun l => by
    apply propext
    constructor
    · rintro ⟨⟨_, h⟩, h'⟩; exact ⟨h', h⟩
    · rintro ⟨h, h'⟩; exact ⟨⟨by rw [h]; decide, h'⟩, h⟩
  simp only [show ∀ w, (d.1 0).2.1 w = lineAt d 0 w from fun _ => rfl, show ∀ w, (d.1 1).2.1 w = lineAt d 1 w from fun _ => rfl, show Int.toNat 0 = 0 from rfl, show Int.toNat 1 = 1 from rfl, e0]
end Go.Proofs.Ytjbbgpacijageab.M

/- Lines come and go: the two lines at a way, and the memory. -/
namespace Go.Proofs.Ytjbbgpacijageab.M
open Go.RowKit
set_option linter.unusedVariables false
set_option linter.unusedSimpArgs false

def gb (s L : Int) (x m : Nat → Int) : Nat → Int := if s = 3 then cpy m (2 * L.toNat) 2 x else m
theorem gb_at (s L : Int) (x m : Nat → Int) (k : Nat) : gb s L x m k = if s = 3 ∧ L.toNat = k / 2 then x (k % 2) else m k := by
  unfold gb
  by_cases h : s = 3
  · rw [if_pos h]
    unfold cpy
    by_cases h2 : L.toNat = k / 2
    · rw [if_pos (by omega), if_pos ⟨h, h2⟩, show k - 2 * L.toNat = k % 2 from by omega]
    · rw [if_neg (by omega), if_neg (fun g => h2 g.2)]
  · rw [if_neg h, if_neg (fun g => h g.1)]
theorem gb_yes {s L : Int} {x m : Nat → Int} {k : Nat} (h : s = 3) (h2 : L.toNat = k / 2) : gb s L x m k = x (k % 2) := by rw [gb_at, if_pos ⟨h, h2⟩]
theorem gb_no {s L : Int} {x m : Nat → Int} {k : Nat} (h : ¬ (s = 3 ∧ L.toNat = k / 2)) : gb s L x m k = m k := by rw [gb_at, if_neg h]

section
variable {s L s' L' : Int} {x x' m : Nat → Int} {r r' : Bool} {w : Nat}
theorem two_cases {p : Nat → Prop} (h0 : p 0) (h1 : p 1) (k : Nat) : p (k % 2) := by
  have : k % 2 = 0 ∨ k % 2 = 1 := by omega
  rcases this with e | e <;> rw [e] <;> assumption

theorem OkC.wd (h : OkC s L x r s' L' m w) (k : Nat) : Wd (x (k % 2)) := by
  rcases h with ⟨_, _, h3, h4, _⟩ | ⟨_, _, _, _, _, h6, h7, _⟩
  · exact two_cases (p := fun i => Wd (x i)) (by rw [h3]; exact ⟨by decide, by decide⟩) (by rw [h4]; exact ⟨by decide, by decide⟩) k
  · exact two_cases (p := fun i => Wd (x i)) h6 h7 k
theorem OkC.zero : OkC 0 0 (fun _ => 0) false s' L' m w := Or.inl ⟨rfl, rfl, rfl, rfl, rfl⟩
/-- Another memory that is the same there, another line beside it that is not that one. -/
theorem OkC.other {s'' L'' : Int} {m' : Nat → Int} (h : OkC s L x r s' L' m w) (hm : s ≠ 0 → s ≤ 2 → ∀ k, k / 2 = L.toNat → m' k = m k) (hb : 2 ≤ s → s'' = 0 ∨ L'' ≠ L) : OkC s L x r s'' L'' m' w := by
  rcases h with h | ⟨h1, h2, h3, h4, h5, h6, h7, h8, h9⟩
  · exact Or.inl h
  · refine Or.inr ⟨h1, h2, h3, h4, h5, h6, h7, fun hs => ?_, hb⟩
    obtain ⟨e1, e2⟩ := h8 hs
    have hm := hm (by omega) hs
    exact ⟨by rw [hm _ (by omega)]; exact e1, by rw [hm _ (by omega)]; exact e2⟩
theorem OkC.rng (h : OkC s L x r s' L' m w) (hs : s ≠ 0) : 1 ≤ s ∧ s ≤ 3 ∧ 0 ≤ L ∧ L < 16 ∧ L % 4 = (w : Int) := by
  rcases h with ⟨h, _⟩ | ⟨h1, h2, h3, h4, h5, _⟩
  · exact absurd h hs
  · exact ⟨h1, h2, h3, h4, h5⟩
theorem OkC.excl (h : OkC s L x r s' L' m w) (hs : 2 ≤ s) : s' = 0 ∨ L' ≠ L := by
  rcases h with ⟨h, _⟩ | ⟨_, _, _, _, _, _, _, _, h9⟩
  · omega
  · exact h9 hs
theorem OkC.agree (h : OkC s L x r s' L' m w) (h0 : s ≠ 0) (hs : s ≤ 2) (k : Nat) (hk : k / 2 = L.toNat) : x (k % 2) = m k := by
  rcases h with ⟨h, _⟩ | ⟨_, _, _, _, _, _, _, h8, _⟩
  · exact absurd h h0
  · obtain ⟨e1, e2⟩ := h8 hs
    have : k = 2 * L.toNat ∧ k % 2 = 0 ∨ k = 2 * L.toNat + 1 ∧ k % 2 = 1 := by omega
    rcases this with ⟨h, h'⟩ | ⟨h, h'⟩ <;> rw [h', h]
    · exact e1
    · exact e2
theorem gb_wd (h : OkC s L x r s' L' m w) (hm : ∀ k, k < 32 → Wd (m k)) : ∀ k, k < 32 → Wd (gb s L x m k) := fun k hk => by
  rw [gb_at]
  split
  · exact h.wd k
  · exact hm k hk
theorem gb_far (h : OkC s L x r s' L' m w) {k : Nat} (hk : k / 2 % 4 ≠ w) : gb s L x m k = m k := gb_no fun ⟨h1, h2⟩ => by
  have := h.rng (by omega)
  omega

/-- Drop. -/
theorem drop_ok (h : OkC s L x r s' L' m w) (h' : OkC s' L' x' r' s L m w) : OkC s' L' x' r' 0 0 (gb s L x m) w := by
  refine h'.other (fun h0 hs k hk => gb_no fun ⟨h1, h2⟩ => ?_) (fun _ => Or.inl rfl)
  have h3 := h.rng (by omega)
  have h4 := h'.rng h0
  rcases h.excl (by omega) with h5 | h5
  · exact h0 h5
  · omega
theorem drop_val {y : Nat → Int} (h : OkC s L x r s' L' m w) (k : Nat) : val2 0 0 y s' L' x' (gb s L x m) k = val2 s L x s' L' x' m k := by
  unfold val2
  rw [if_neg (by omega)]
  by_cases h1 : s = 3 ∧ L = ((k / 2 : Nat) : Int)
  · rw [if_pos h1]
    have h2 := h.excl (by omega)
    rw [if_neg (by omega), gb_yes h1.1 (by omega)]
  · rw [if_neg h1]
    by_cases h2 : s' = 3 ∧ L' = ((k / 2 : Nat) : Int)
    · rw [if_pos h2, if_pos h2]
    · rw [if_neg h2, if_neg h2, gb_no]
      rintro ⟨h3, h4⟩
      have := h.rng (by omega)
      omega
theorem val_comm (h : OkC s L x r s' L' m w) (k : Nat) : val2 s L x s' L' x' m k = val2 s' L' x' s L x m k := by
  unfold val2
  by_cases h1 : s = 3 ∧ L = ((k / 2 : Nat) : Int)
  · have h2 := h.excl (by omega)
    rw [if_pos h1, if_neg (by omega), if_pos h1]
  · rw [if_neg h1, if_neg h1]

/-- A line comes in, that nobody has. -/
theorem take_alone (hm : ∀ k, k < 32 → Wd (m k)) (h' : OkC s' L' x' r' 0 0 m w) {n : Int} (hn : 0 ≤ n ∧ n < 16) (hw : n % 4 = (w : Int)) (hno : ¬ (s' ≠ 0 ∧ L' = n)) :
    OkC 2 n (memL m n) false s' L' m w ∧ OkC s' L' x' r' 2 n m w := by
  refine ⟨Or.inr ⟨by decide, by decide, hn.1, hn.2, hw, hm _ (by omega), hm _ (by omega), fun _ => ⟨rfl, rfl⟩, fun _ => by omega⟩, h'.other (fun _ _ _ _ => rfl) fun hs => ?_⟩
  omega
theorem take_alone_val {y : Nat → Int} (h' : OkC s' L' x' r' 0 0 m w) {n : Int} (k : Nat) : val2 2 n y s' L' x' m k = val2 0 0 x s' L' x' m k := by
  unfold val2
  rw [if_neg (show ¬ ((2 : Int) = 3 ∧ n = ((k / 2 : Nat) : Int)) from by omega), if_neg (show ¬ ((0 : Int) = 3 ∧ (0 : Int) = ((k / 2 : Nat) : Int)) from by omega)]
/-- A line comes in, that the other one has. -/
theorem take_both (hm : ∀ k, k < 32 → Wd (m k)) (h' : OkC s' L' x' r' 0 0 m w) {n : Int} (hn : 0 ≤ n ∧ n < 16) (hw : n % 4 = (w : Int)) (hs : s' ≠ 0) (hL : L' = n) :
    OkC 1 n (memL (gb s' L' x' m) n) false 1 L' (gb s' L' x' m) w ∧ OkC 1 L' x' r' 1 n (gb s' L' x' m) w := by
  have hg := gb_wd h' hm
  refine ⟨Or.inr ⟨by decide, by decide, hn.1, hn.2, hw, hg _ (by omega), hg _ (by omega), fun _ => ⟨rfl, rfl⟩, fun h => by omega⟩, ?_⟩
  have hx := h'.wd
  have hrng := h'.rng hs
  refine Or.inr ⟨by decide, by decide, hrng.2.2.1, hrng.2.2.2.1, hrng.2.2.2.2, hx 0, hx 1, fun _ => ?_, fun h => by omega⟩
  have key : ∀ k, k / 2 = L'.toNat → x' (k % 2) = gb s' L' x' m k := fun k hk => by
    by_cases h3 : s' = 3
    · rw [gb_yes h3 hk.symm]
    · rw [gb_no (fun g => h3 g.1)]
      exact h'.agree hs (by omega) k hk
  have k0 := key (2 * L'.toNat) (by omega)
  have k1 := key (2 * L'.toNat + 1) (by omega)
  rw [show 2 * L'.toNat % 2 = 0 from by omega] at k0
  rw [show (2 * L'.toNat + 1) % 2 = 1 from by omega] at k1
  exact ⟨k0, k1⟩
theorem take_both_val {y : Nat → Int} (h' : OkC s' L' x' r' 0 0 m w) {n : Int} (k : Nat) : val2 1 n y 1 L' x' (gb s' L' x' m) k = val2 0 0 x s' L' x' m k := by
  unfold val2
  rw [if_neg (by omega), if_neg (by omega), if_neg (by omega)]
  by_cases h2 : s' = 3 ∧ L' = ((k / 2 : Nat) : Int)
  · rw [if_pos h2, gb_yes h2.1 (by omega)]
  · rw [if_neg h2, gb_no]
    rintro ⟨h3, h4⟩
    have := h'.rng (by omega)
    omega
/-- A line that both have is one's own alone. -/
theorem own_both (h : OkC s L x r s' L' m w) (h' : OkC s' L' x' r' s L m w) (hs : s ≠ 0) (hs' : s' ≠ 0) (hL : L' = L) : s = 1 ∧ s' = 1 := by
  have h1 := h.rng hs
  have h2 := h'.rng hs'
  have h3 := h.excl
  have h4 := h'.excl
  omega
theorem own_one {s'' L'' : Int} (h : OkC s L x r s' L' m w) (hs : s = 1) (hno : s'' = 0 ∨ L'' ≠ L) : OkC 2 L x r s'' L'' m w := by
  rcases h with ⟨h, _⟩ | ⟨h1, h2, h3, h4, h5, h6, h7, h8, h9⟩
  · omega
  · exact Or.inr ⟨by decide, by decide, h3, h4, h5, h6, h7, fun _ => h8 (by omega), fun _ => hno⟩
/-- A word is written. -/
theorem write_ok {i : Nat} {v : Int} (h : OkC s L x r s' L' m w) (hs : 2 ≤ s) (hv : Wd v) : OkC 3 L (updA x i v) r s' L' m w := by
  have hu : ∀ q, Wd (x q) → Wd (updA x i v q) := fun q hq => by
    unfold updA
    split
    · exact hv
    · exact hq
  rcases h with ⟨h, _⟩ | ⟨h1, h2, h3, h4, h5, h6, h7, h8, h9⟩
  · omega
  · exact Or.inr ⟨by decide, by decide, h3, h4, h5, hu _ h6, hu _ h7, fun h => by omega, fun _ => h9 hs⟩
theorem write_val {v : Int} {word : Nat} (h : OkC s L x r s' L' m w) (hs : 2 ≤ s) (hL : L = ((word / 2 : Nat) : Int)) (k : Nat) : val2 3 L (updA x (word % 2) v) s' L' x' m k = if k = word then v else val2 s L x s' L' x' m k := by
  have h2 := h.excl hs
  have hr := h.rng (by omega)
  unfold val2
  by_cases h1 : L = ((k / 2 : Nat) : Int)
  · rw [if_pos ⟨rfl, h1⟩]
    unfold updA
    by_cases hk : k = word
    · rw [if_pos (by omega), if_pos hk]
    · rw [if_neg (by omega), if_neg hk]
      by_cases h3 : s = 3
      · rw [if_pos ⟨h3, h1⟩]
      · rw [if_neg (fun g => h3 g.1), if_neg (by omega)]
        exact h.agree (by omega) (by omega) k (by omega)
  · rw [if_neg (show ¬ ((3 : Int) = 3 ∧ L = ((k / 2 : Nat) : Int)) from fun g => h1 g.2), if_neg (show ¬ k = word from by omega), if_neg (show ¬ (s = 3 ∧ L = ((k / 2 : Nat) : Int)) from fun g => h1 g.2)]
end

end Go.Proofs.Ytjbbgpacijageab.M

/- Desks whose caches are in order: what Drop, Share, Own and Write make of them. -/
namespace Go.Proofs.Ytjbbgpacijageab.M
open Go.RowKit
set_option linter.unusedVariables false
set_option linter.unusedSimpArgs false

/-- Both lines at a way are in order, and what is so of the rest. -/
structure Loc (d d' : deskT.D) (c w : Nat) : Prop where
  far : ∀ c', c' < 2 → ∀ w', w' < 4 → w' ≠ w → lineAt d' c' w' = lineAt d c' w'
  mem : ∀ k, k < 32 → k / 2 % 4 ≠ w → d'.2 k = d.2 k
  wd : ∀ k, k < 32 → Wd (d'.2 k)
  own : OkW d' c (1 - c) w
  beside : OkW d' (1 - c) c w
theorem Loc.good {d d' : deskT.D} {c w : Nat} (hc : c < 2) (hg : goodD d = true) (h : Loc d d' c w) : goodD d' = true := by
  obtain ⟨g1, g2⟩ := (good_iff d).1 hg
  refine (good_iff d').2 ⟨h.wd, fun c' hc' w' hw' => ?_⟩
  by_cases hw : w' = w
  · subst hw
    by_cases e : c' = c
    · subst e; exact h.own
    · have e1 : c' = 1 - c := by omega
      have e2 : 1 - c' = c := by omega
      rw [e2, e1]; exact h.beside
  · have := g2 c' hc' w' hw'
    unfold OkW at this ⊢
    rw [h.far c' hc' w' hw' hw, h.far (1 - c') (by omega) w' hw' hw]
    refine this.other (fun h0 hs k hk => h.mem k ?_ ?_) this.excl
    · have := this.rng h0; omega
    · have := this.rng h0; omega
/-- The words are as they were, if those of that way are. -/
theorem Loc.val {d d' : deskT.D} {c w : Nat} (hc : c < 2) (hg : goodD d = true) (h : Loc d d' c w) {k : Nat} (hk : k < 32) (hv : k / 2 % 4 = w → valW d' c (1 - c) w k = valW d c (1 - c) w k) : valF d' (k : Int) = valF d (k : Int) := by
  obtain ⟨g1, g2⟩ := (good_iff d).1 hg
  rw [val_eq d' k hk, val_eq d k hk]
  by_cases hw : k / 2 % 4 = w
  · rw [hw]
    have hv := hv hw
    have : c = 0 ∨ c = 1 := by omega
    rcases this with rfl | rfl
    · exact hv
    · have e1 := val_comm (x := (lineAt d' 1 w).2.2.1) (x' := (lineAt d' 0 w).2.2.1) (k := k) h.own
      have e2 := val_comm (x := (lineAt d 1 w).2.2.1) (x' := (lineAt d 0 w).2.2.1) (k := k) (g2 1 (by omega) w (by omega))
      exact e1.symm.trans (hv.trans e2)
  · unfold valW
    rw [h.far 0 (by omega) _ (by omega) hw, h.far 1 (by omega) _ (by omega) hw]
    unfold val2
    rw [h.mem k hk hw]
theorem goBack_gb (m : Nat → Int) (l : lineT.D) : goBackF m l = gb l.1 l.2.1 l.2.2.1 m := rfl

section
variable {d : deskT.D} {c w : Nat}
theorem drop_loc (hg : goodD d = true) (hc : c < 2) (hw : w < 4) : Loc d (dropD d c w) c w ∧ lineAt (dropD d c w) c w = lineT.zero ∧ lineAt (dropD d c w) (1 - c) w = lineAt d (1 - c) w ∧ ∀ k : Nat, k < 32 → valF (dropD d c w) (k : Int) = valF d (k : Int) := by
  obtain ⟨g1, g2⟩ := (good_iff d).1 hg
  have ho := g2 c hc w hw
  have hb : OkW d (1 - c) c w := by
    have := g2 (1 - c) (by omega) w hw
    rwa [show 1 - (1 - c) = c from by omega] at this
  have e1 : lineAt (dropD d c w) c w = lineT.zero := line_set_same (d := d)
  have e2 : lineAt (dropD d c w) (1 - c) w = lineAt d (1 - c) w := line_set_other (d := d) (Or.inl (by omega))
  have hl : Loc d (dropD d c w) c w := by
    refine ⟨fun c' hc' w' hw' hne => line_set_other (d := d) (Or.inr hne), fun k hk hf => gb_far ho hf, gb_wd ho g1, ?_, ?_⟩
    · unfold OkW; rw [e1]; exact OkC.zero
    · unfold OkW; rw [e1, e2]; exact drop_ok ho hb
  refine ⟨hl, e1, e2, fun k hk => hl.val hc hg hk fun hkw => ?_⟩
  unfold valW
  rw [e1, e2]
  exact drop_val ho k

theorem take_loc (hg : goodD d = true) (hc : c < 2) {n : Int} (hn : 0 ≤ n ∧ n < 16) (hw : n % 4 = (w : Int)) (h0 : lineAt d c w = lineT.zero) :
    Loc d (takeD d c w n) c w ∧ lineAt (takeD d c w n) c w = ((if hasL (lineAt d (1 - c) w) n = true then 1 else 2), n, memL (takeD d c w n).2 n, false) ∧ ∀ k : Nat, k < 32 → valF (takeD d c w n) (k : Int) = valF d (k : Int) := by
  have hw4 : w < 4 := by omega
  obtain ⟨g1, g2⟩ := (good_iff d).1 hg
  have hb : OkW d (1 - c) c w := by
    have := g2 (1 - c) (by omega) w hw4
    rwa [show 1 - (1 - c) = c from by omega] at this
  have hb : OkC (lineAt d (1 - c) w).1 (lineAt d (1 - c) w).2.1 (lineAt d (1 - c) w).2.2.1 (lineAt d (1 - c) w).2.2.2 0 0 d.2 w := by
    have := hb
    unfold OkW at this
    rw [h0] at this
    exact this
  unfold takeD
  by_cases hh : hasL (lineAt d (1 - c) w) n = true
  · have hh' : (lineAt d (1 - c) w).1 ≠ 0 ∧ (lineAt d (1 - c) w).2.1 = n := of_decide_eq_true hh
    simp only [if_pos hh]
    obtain ⟨o1, o2⟩ := take_both g1 hb hn hw hh'.1 hh'.2
    have e1 : lineAt (setLine (setLine (setMem d (goBackF d.2 (lineAt d (1 - c) w))) (1 - c) w (1, (lineAt d (1 - c) w).2)) c w (1, n, memL (goBackF d.2 (lineAt d (1 - c) w)) n, false)) c w = (1, n, memL (goBackF d.2 (lineAt d (1 - c) w)) n, false) := line_set_same
    have e2 : lineAt (setLine (setLine (setMem d (goBackF d.2 (lineAt d (1 - c) w))) (1 - c) w (1, (lineAt d (1 - c) w).2)) c w (1, n, memL (goBackF d.2 (lineAt d (1 - c) w)) n, false)) (1 - c) w = (1, (lineAt d (1 - c) w).2) := (line_set_other (Or.inl (by omega))).trans line_set_same
    have hl : Loc d (setLine (setLine (setMem d (goBackF d.2 (lineAt d (1 - c) w))) (1 - c) w (1, (lineAt d (1 - c) w).2)) c w (1, n, memL (goBackF d.2 (lineAt d (1 - c) w)) n, false)) c w := by
      refine ⟨fun c' hc' w' hw' hne => (line_set_other (Or.inr hne)).trans (line_set_other (d := setMem d (goBackF d.2 (lineAt d (1 - c) w))) (Or.inr hne)), fun k hk hf => gb_far hb hf, gb_wd hb g1, ?_, ?_⟩
      · unfold OkW; rw [e1, e2]; exact o1
      · unfold OkW; rw [e1, e2]; exact o2
    refine ⟨hl, e1, fun k hk => hl.val hc hg hk fun hkw => ?_⟩
    unfold valW
    rw [e1, e2, h0]
    exact take_both_val hb k
  · have hh' : ¬ ((lineAt d (1 - c) w).1 ≠ 0 ∧ (lineAt d (1 - c) w).2.1 = n) := fun g => hh (decide_eq_true g)
    simp only [if_neg hh]
    obtain ⟨o1, o2⟩ := take_alone g1 hb hn hw hh'
    have e1 : lineAt (setLine d c w (2, n, memL d.2 n, false)) c w = (2, n, memL d.2 n, false) := line_set_same
    have e2 : lineAt (setLine d c w (2, n, memL d.2 n, false)) (1 - c) w = lineAt d (1 - c) w := line_set_other (Or.inl (by omega))
    have hl : Loc d (setLine d c w (2, n, memL d.2 n, false)) c w := by
      refine ⟨fun c' hc' w' hw' hne => line_set_other (Or.inr hne), fun k hk hf => rfl, g1, ?_, ?_⟩
      · unfold OkW; rw [e1, e2]; exact o1
      · unfold OkW; rw [e1, e2]; exact o2
    refine ⟨hl, e1, fun k hk => hl.val hc hg hk fun hkw => ?_⟩
    unfold valW
    rw [e1, e2, h0]
    exact take_alone_val hb k

/-- One's own line is one's own alone. -/
theorem alone_loc (hg : goodD d = true) (hc : c < 2) (hw : w < 4) {n : Int} (hh : hasL (lineAt d c w) n = true) :
    Loc d (aloneD d c w n) c w ∧ (2 ≤ (lineAt (aloneD d c w n) c w).1 ∧ (lineAt (aloneD d c w n) c w).2 = (lineAt d c w).2) ∧ ¬ ((lineAt (aloneD d c w n) (1 - c) w).1 ≠ 0 ∧ (lineAt (aloneD d c w n) (1 - c) w).2.1 = n) ∧ ∀ k : Nat, k < 32 → valF (aloneD d c w n) (k : Int) = valF d (k : Int) := by
  obtain ⟨g1, g2⟩ := (good_iff d).1 hg
  have ho := g2 c hc w hw
  have hb : OkW d (1 - c) c w := by
    have := g2 (1 - c) (by omega) w hw
    rwa [show 1 - (1 - c) = c from by omega] at this
  have hh' : (lineAt d c w).1 ≠ 0 ∧ (lineAt d c w).2.1 = n := of_decide_eq_true hh
  have hs := ho.rng hh'.1
  by_cases hb1 : hasL (lineAt d (1 - c) w) n = true
  · have hb' : (lineAt d (1 - c) w).1 ≠ 0 ∧ (lineAt d (1 - c) w).2.1 = n := of_decide_eq_true hb1
    obtain ⟨s1, s2⟩ := own_both ho hb hh'.1 hb'.1 (by rw [hb'.2, hh'.2])
    have e0 : aloneD d c w n = setLine (setLine d (1 - c) w lineT.zero) c w (2, (lineAt d c w).2) := by
      unfold aloneD alone1 alone2
      rw [if_pos hb1, line_set_other (d := d) (c := 1 - c) (Or.inl (by omega)), if_pos s1]
    rw [e0]
    have e1 : lineAt (setLine (setLine d (1 - c) w lineT.zero) c w (2, (lineAt d c w).2)) c w = (2, (lineAt d c w).2) := line_set_same
    have e2 : lineAt (setLine (setLine d (1 - c) w lineT.zero) c w (2, (lineAt d c w).2)) (1 - c) w = lineT.zero := (line_set_other (Or.inl (by omega))).trans line_set_same
    have hl : Loc d (setLine (setLine d (1 - c) w lineT.zero) c w (2, (lineAt d c w).2)) c w := by
      refine ⟨fun c' hc' w' hw' hne => (line_set_other (Or.inr hne)).trans (line_set_other (Or.inr hne)), fun k hk hf => rfl, g1, ?_, ?_⟩
      · unfold OkW; rw [e1, e2]; exact own_one ho s1 (Or.inl rfl)
      · unfold OkW; rw [e1, e2]; exact OkC.zero
    refine ⟨hl, ⟨by rw [e1]; exact (by decide : (2 : Int) ≤ 2), by rw [e1]⟩, by rw [e2]; exact fun g => g.1 rfl, fun k hk => hl.val hc hg hk fun hkw => ?_⟩
    unfold valW
    rw [e1, e2]
    show val2 2 _ _ 0 0 _ _ k = val2 (lineAt d c w).1 _ _ (lineAt d (1 - c) w).1 _ _ _ k
    rw [s1, s2]
    unfold val2
    rw [if_neg (by omega), if_neg (by omega), if_neg (by omega), if_neg (by omega)]
    rfl
  · have hb' : ¬ ((lineAt d (1 - c) w).1 ≠ 0 ∧ (lineAt d (1 - c) w).2.1 = n) := fun g => hb1 (decide_eq_true g)
    by_cases s1 : (lineAt d c w).1 = 1
    · have e0 : aloneD d c w n = setLine d c w (2, (lineAt d c w).2) := by
        unfold aloneD alone1 alone2
        rw [if_neg hb1, if_pos s1]
      rw [e0]
      have e1 : lineAt (setLine d c w (2, (lineAt d c w).2)) c w = (2, (lineAt d c w).2) := line_set_same
      have e2 : lineAt (setLine d c w (2, (lineAt d c w).2)) (1 - c) w = lineAt d (1 - c) w := line_set_other (Or.inl (by omega))
      have hne : (lineAt d (1 - c) w).1 = 0 ∨ (lineAt d (1 - c) w).2.1 ≠ (lineAt d c w).2.1 := by
        rw [hh'.2]
        by_cases hz : (lineAt d (1 - c) w).1 = 0
        · exact Or.inl hz
        · exact Or.inr fun g => hb' ⟨hz, g⟩
      have hl : Loc d (setLine d c w (2, (lineAt d c w).2)) c w := by
        refine ⟨fun c' hc' w' hw' hne => line_set_other (Or.inr hne), fun k hk hf => rfl, g1, ?_, ?_⟩
        · unfold OkW; rw [e1, e2]; exact own_one ho s1 hne
        · unfold OkW; rw [e1, e2]; exact hb.other (fun _ _ _ _ => rfl) fun h2 => Or.inr (fun g => by
            rcases hne with h | h
            · rw [h] at h2
              exact absurd h2 (by decide)
            · exact h g.symm)
      refine ⟨hl, ⟨by rw [e1]; exact (by decide : (2 : Int) ≤ 2), by rw [e1]⟩, by rw [e2]; exact hb', fun k hk => hl.val hc hg hk fun hkw => ?_⟩
      unfold valW
      rw [e1, e2]
      show val2 2 _ _ (lineAt d (1 - c) w).1 _ _ _ k = val2 (lineAt d c w).1 _ _ (lineAt d (1 - c) w).1 _ _ _ k
      rw [s1]
      unfold val2
      rw [if_neg (show ¬ ((2 : Int) = 3 ∧ _) from by omega), if_neg (show ¬ ((1 : Int) = 3 ∧ _) from by omega)]
      rfl
    · have e0 : aloneD d c w n = d := by
        unfold aloneD alone1 alone2
        rw [if_neg hb1, if_neg s1]
      rw [e0]
      refine ⟨⟨fun _ _ _ _ _ => rfl, fun _ _ _ => rfl, g1, ho, hb⟩, ⟨?_, rfl⟩, hb', fun _ _ => rfl⟩
      have := hs.1
      have h2 : @LE.le Int _ 2 (lineAt d c w).1 := by
        have h3 : @Ne Int (lineAt d c w).1 1 := s1
        omega
      exact h2

theorem set_set (d : deskT.D) (c w : Nat) (l l' : lineT.D) : setLine (setLine d c w l) c w l' = setLine d c w l' := by
  unfold setLine
  simp only []
  congr 1
  funext q
  unfold updA
  split
  · simp only [if_pos]
    congr 2
    funext z
    split <;> rfl
  · rfl
theorem write_loc (hg : goodD d = true) (hc : c < 2) (hw : w < 4) {word : Nat} (hk : word < 32) {v : Int} (hv : Wd v) (hh : hasL (lineAt d c w) ((word / 2 : Nat) : Int) = true) (hs : (lineAt d c w).1 ≠ 1) :
    goodD (setM (putW d c w (word % 2) v) c w) = true ∧ ∀ k : Nat, k < 32 → valF (setM (putW d c w (word % 2) v) c w) (k : Int) = if k = word then v else valF d (k : Int) := by
  obtain ⟨g1, g2⟩ := (good_iff d).1 hg
  have ho := g2 c hc w hw
  have hb : OkW d (1 - c) c w := by
    have := g2 (1 - c) (by omega) w hw
    rwa [show 1 - (1 - c) = c from by omega] at this
  have hh' : (lineAt d c w).1 ≠ 0 ∧ (lineAt d c w).2.1 = ((word / 2 : Nat) : Int) := of_decide_eq_true hh
  have hr := ho.rng hh'.1
  have h2 : @LE.le Int _ 2 (lineAt d c w).1 := by
    have h3 : @Ne Int (lineAt d c w).1 1 := hs
    omega
  have e0 : setM (putW d c w (word % 2) v) c w = setLine d c w (3, (lineAt d c w).2.1, updA (lineAt d c w).2.2.1 (word % 2) v, (lineAt d c w).2.2.2) := by
    unfold setM putW
    rw [line_set_same, set_set]
  rw [e0]
  have e1 : lineAt (setLine d c w (3, (lineAt d c w).2.1, updA (lineAt d c w).2.2.1 (word % 2) v, (lineAt d c w).2.2.2)) c w = (3, (lineAt d c w).2.1, updA (lineAt d c w).2.2.1 (word % 2) v, (lineAt d c w).2.2.2) := line_set_same
  have e2 : lineAt (setLine d c w (3, (lineAt d c w).2.1, updA (lineAt d c w).2.2.1 (word % 2) v, (lineAt d c w).2.2.2)) (1 - c) w = lineAt d (1 - c) w := line_set_other (Or.inl (by omega))
  have hl : Loc d (setLine d c w (3, (lineAt d c w).2.1, updA (lineAt d c w).2.2.1 (word % 2) v, (lineAt d c w).2.2.2)) c w := by
    refine ⟨fun c' hc' w' hw' hne => line_set_other (Or.inr hne), fun k hk hf => rfl, g1, ?_, ?_⟩
    · unfold OkW; rw [e1, e2]; exact write_ok ho h2 hv
    · unfold OkW; rw [e1, e2]; exact hb.other (fun _ _ _ _ => rfl) fun h => Or.inr (fun g => by
        have h5 := hb.excl h
        rcases h5 with h5 | h5
        · exact hh'.1 h5
        · exact h5 g)
  have hgood := hl.good hc hg
  refine ⟨hgood, fun k hk => ?_⟩
  by_cases hkw : k / 2 % 4 = w
  · have hval : valW (setLine d c w (3, (lineAt d c w).2.1, updA (lineAt d c w).2.2.1 (word % 2) v, (lineAt d c w).2.2.2)) c (1 - c) w k = if k = word then v else valW d c (1 - c) w k := by
      unfold valW
      rw [e1, e2]
      exact write_val ho h2 hh'.2 k
    have : c = 0 ∨ c = 1 := by omega
    rw [val_eq _ k hk, val_eq d k hk, hkw]
    rcases this with rfl | rfl
    · exact hval
    · have c1 := val_comm (x := (lineAt d 1 w).2.2.1) (x' := (lineAt d 0 w).2.2.1) (k := k) ho
      have c2 := val_comm (x := (lineAt (setLine d 1 w (3, (lineAt d 1 w).2.1, updA (lineAt d 1 w).2.2.1 (word % 2) v, (lineAt d 1 w).2.2.2)) 1 w).2.2.1) (x' := (lineAt (setLine d 1 w (3, (lineAt d 1 w).2.1, updA (lineAt d 1 w).2.2.1 (word % 2) v, (lineAt d 1 w).2.2.2)) 0 w).2.2.1) (k := k) hl.own
      exact c2.symm.trans (hval.trans (by rw [show valW d 1 (1 - 1) w k = valW d 0 1 w k from c1]))
  · rw [hl.val hc hg hk (fun h => absurd h hkw), if_neg]
    rintro rfl
    apply hkw
    have h9 : (((k / 2 : Nat) : Int) % 4 = (w : Int)) := by rw [← hh'.2]; exact hr.2.2.2.2
    omega

theorem zero_line : (lineT.zero : lineT.D).1 = 0 := rfl
/-- What Drop, Share, Own and Write make of a desk whose caches are in order. -/
theorem dropF_ok (hg : goodD d = true) (c' n : Int) : goodD (dropF d c' n) = true ∧ ∀ k : Nat, k < 32 → valF (dropF d c' n) (k : Int) = valF d (k : Int) := by
  unfold dropF
  split
  · rename_i h
    obtain ⟨h1, _, _, h4⟩ := drop_loc hg (c := c'.toNat) (w := n.toNat) (by omega) (by omega)
    exact ⟨h1.good (by omega) hg, h4⟩
  · exact ⟨hg, fun _ _ => rfl⟩
theorem has_take {d : deskT.D} {c w : Nat} {n : Int} (h : lineAt (takeD d c w n) c w = ((if hasL (lineAt d (1 - c) w) n = true then 1 else 2), n, memL (takeD d c w n).2 n, false)) : hasL (lineAt (takeD d c w n) c w) n = true := by
  rw [h]
  refine (has_iff _ _ _ _ _).2 ⟨?_, rfl⟩
  split <;> decide
theorem shareF_ok (hg : goodD d = true) (c' n : Int) : goodD (shareF d c' n) = true ∧ (∀ k : Nat, k < 32 → valF (shareF d c' n) (k : Int) = valF d (k : Int)) ∧ ((0 ≤ c' ∧ c' < 2) → (0 ≤ n ∧ n < 16) → hasL (lineAt (shareF d c' n) c'.toNat (wayOf n)) n = true) := by
  unfold shareF
  split
  · rename_i h
    have hw := way_lt h.2.2.1
    have hw' : n % 4 = (wayOf n : Int) := by rw [← way_of h.2.2.1, Int.tmod_eq_emod_of_nonneg h.2.2.1]
    split
    · rename_i hh
      exact ⟨hg, fun _ _ => rfl, fun _ _ => hh⟩
    · obtain ⟨h1, h2, _, h4⟩ := drop_loc hg (c := c'.toNat) (w := wayOf n) (by omega) hw
      have hg1 := h1.good (by omega) hg
      obtain ⟨t1, t2, t3⟩ := take_loc hg1 (c := c'.toNat) (by omega) h.2.2 hw' h2
      exact ⟨t1.good (by omega) hg1, fun k hk => (t3 k hk).trans (h4 k hk), fun _ _ => has_take t2⟩
  · rename_i h
    exact ⟨hg, fun _ _ => rfl, fun h1 h2 => absurd ⟨hg, h1, h2⟩ h⟩
theorem ownF_ok (hg : goodD d = true) (c' n : Int) : goodD (ownF d c' n) = true ∧ (∀ k : Nat, k < 32 → valF (ownF d c' n) (k : Int) = valF d (k : Int)) ∧ ((0 ≤ c' ∧ c' < 2) → (0 ≤ n ∧ n < 16) → hasL (lineAt (ownF d c' n) c'.toNat (wayOf n)) n = true ∧ @LE.le Int _ 2 (lineAt (ownF d c' n) c'.toNat (wayOf n)).1 ∧ hasL (lineAt (ownF d c' n) (1 - c'.toNat) (wayOf n)) n = false) := by
  obtain ⟨s1, s2, s3⟩ := shareF_ok hg c' n
  unfold ownF
  split
  · rename_i h
    have hr := find_yes h.2
    have hh := s3 hr.1 hr.2
    have hw := way_lt hr.2.1
    rw [find_eq hr.1 hr.2]
    show goodD (aloneD (shareF d c' n) c'.toNat (wayOf n) n) = true ∧ (∀ k : Nat, k < 32 → valF (aloneD (shareF d c' n) c'.toNat (wayOf n) n) (k : Int) = valF d (k : Int)) ∧ ((0 ≤ c' ∧ c' < 2) → (0 ≤ n ∧ n < 16) → hasL (lineAt (aloneD (shareF d c' n) c'.toNat (wayOf n) n) c'.toNat (wayOf n)) n = true ∧ @LE.le Int _ 2 (lineAt (aloneD (shareF d c' n) c'.toNat (wayOf n) n) c'.toNat (wayOf n)).1 ∧ hasL (lineAt (aloneD (shareF d c' n) c'.toNat (wayOf n) n) (1 - c'.toNat) (wayOf n)) n = false)
    obtain ⟨a1, a2, a3, a4⟩ := alone_loc s1 (c := c'.toNat) (w := wayOf n) (by omega) hw hh
    refine ⟨a1.good (by omega) s1, fun k hk => (a4 k hk).trans (s2 k hk), fun _ _ => ⟨decide_eq_true ⟨?_, ?_⟩, a2.1, decide_eq_false a3⟩⟩
    · intro h0
      have := a2.1
      rw [h0] at this
      exact absurd this (by decide)
    · rw [a2.2]
      exact (of_decide_eq_true hh : _ ∧ _).2
  · rename_i h
    refine ⟨s1, s2, fun h1 h2 => absurd ⟨s1, ?_⟩ h⟩
    rw [find_eq h1 h2]
    exact s3 h1 h2
theorem writeF_ok (hg : goodD d = true) (c' : Int) {word : Nat} (hk : word < 32) {v : Int} (hv : 0 ≤ v ∧ v ≤ 4294967295) (hc : 0 ≤ c' ∧ c' < 2) (hh : hasL (lineAt d c'.toNat (wayOf ((word / 2 : Nat) : Int))) ((word / 2 : Nat) : Int) = true) (hs : @LE.le Int _ 2 (lineAt d c'.toNat (wayOf ((word / 2 : Nat) : Int))).1) :
    goodD (writeF d c' (word : Int) v) = true ∧ ∀ k : Nat, k < 32 → valF (writeF d c' (word : Int) v) (k : Int) = if k = word then v else valF d (k : Int) := by
  have h1 : (word : Int).tdiv 2 = ((word / 2 : Nat) : Int) := by rw [Int.tdiv_eq_ediv_of_nonneg (by omega)]; omega
  have h2 : ((word : Int).tmod 2).toNat = word % 2 := by rw [Int.tmod_eq_emod_of_nonneg (by omega)]; omega
  have hn : 0 ≤ ((word / 2 : Nat) : Int) ∧ ((word / 2 : Nat) : Int) < 16 := by omega
  have hne : (lineAt d c'.toNat (wayOf ((word / 2 : Nat) : Int))).1 ≠ 1 := fun h => by
    rw [h] at hs
    exact absurd hs (by decide)
  have e : writeF d c' (word : Int) v = setM (putW d c'.toNat (wayOf ((word / 2 : Nat) : Int)) (word % 2) v) c'.toNat (wayOf ((word / 2 : Nat) : Int)) := by
    unfold writeF
    rw [if_pos ⟨hg, by omega, hv⟩, h1, h2, find_eq hc hn]
    exact if_pos ⟨hh, hne⟩
  rw [e]
  exact write_loc hg (by omega) (way_lt hn.1) hk hv hh hne
end

end Go.Proofs.Ytjbbgpacijageab.M
