/- Lines come and go: the two lines at a way, and the memory. -/
import Derived.Test.YtjbbgpacijageabK1
namespace Go.Proofs.Ytjbbgpacijageab.M
open Go.RowKit
set_option linter.unusedVariables false
set_option linter.unusedSimpArgs false

def gb (s L : Int) (x m : Nat → Int) : Nat → Int := if s = 3 then cpy m (2 * L.toNat) 2 x else m
theorem gb_at (s L : Int) (x m : Nat → Int) (k : Nat) : gb s L x m k = if s = 3 ∧ L.toNat = k / 2 then x (k % 2) else m k := by
  unfold gb
  by_cases h : s = 3
  · rw [if_pos h]
    unfold cpy
    by_cases h2 : L.toNat = k / 2
    · rw [if_pos (by omega), if_pos ⟨h, h2⟩, show k - 2 * L.toNat = k % 2 from by omega]
    · rw [if_neg (by omega), if_neg (fun g => h2 g.2)]
  · rw [if_neg h, if_neg (fun g => h g.1)]
theorem gb_yes {s L : Int} {x m : Nat → Int} {k : Nat} (h : s = 3) (h2 : L.toNat = k / 2) : gb s L x m k = x (k % 2) := by rw [gb_at, if_pos ⟨h, h2⟩]
theorem gb_no {s L : Int} {x m : Nat → Int} {k : Nat} (h : ¬ (s = 3 ∧ L.toNat = k / 2)) : gb s L x m k = m k := by rw [gb_at, if_neg h]

section
variable {s L s' L' : Int} {x x' m : Nat → Int} {r r' : Bool} {w : Nat}
theorem two_cases {p : Nat → Prop} (h0 : p 0) (h1 : p 1) (k : Nat) : p (k % 2) := by
  have : k % 2 = 0 ∨ k % 2 = 1 := by omega
  rcases this with e | e <;> rw [e] <;> assumption

theorem OkC.wd (h : OkC s L x r s' L' m w) (k : Nat) : Wd (x (k % 2)) := by
  rcases h with ⟨_, _, h3, h4, _⟩ | ⟨_, _, _, _, _, h6, h7, _⟩
  · exact two_cases (p := fun i => Wd (x i)) (by rw [h3]; exact ⟨by decide, by decide⟩) (by rw [h4]; exact ⟨by decide, by decide⟩) k
  · exact two_cases (p := fun i => Wd (x i)) h6 h7 k
theorem OkC.zero : OkC 0 0 (fun _ => 0) false s' L' m w := Or.inl ⟨rfl, rfl, rfl, rfl, rfl⟩
/-- Another memory that is the same there, another line beside it that is not that one. -/
theorem OkC.other {s'' L'' : Int} {m' : Nat → Int} (h : OkC s L x r s' L' m w) (hm : s ≠ 0 → s ≤ 2 → ∀ k, k / 2 = L.toNat → m' k = m k) (hb : 2 ≤ s → s'' = 0 ∨ L'' ≠ L) : OkC s L x r s'' L'' m' w := by
  rcases h with h | ⟨h1, h2, h3, h4, h5, h6, h7, h8, h9⟩
  · exact Or.inl h
  · refine Or.inr ⟨h1, h2, h3, h4, h5, h6, h7, fun hs => ?_, hb⟩
    obtain ⟨e1, e2⟩ := h8 hs
    have hm := hm (by omega) hs
    exact ⟨by rw [hm _ (by omega)]; exact e1, by rw [hm _ (by omega)]; exact e2⟩
theorem OkC.rng (h : OkC s L x r s' L' m w) (hs : s ≠ 0) : 1 ≤ s ∧ s ≤ 3 ∧ 0 ≤ L ∧ L < 16 ∧ L % 4 = (w : Int) := by
  rcases h with ⟨h, _⟩ | ⟨h1, h2, h3, h4, h5, _⟩
  · exact absurd h hs
  · exact ⟨h1, h2, h3, h4, h5⟩
theorem OkC.excl (h : OkC s L x r s' L' m w) (hs : 2 ≤ s) : s' = 0 ∨ L' ≠ L := by
  rcases h with ⟨h, _⟩ | ⟨_, _, _, _, _, _, _, _, h9⟩
  · omega
  · exact h9 hs
theorem OkC.agree (h : OkC s L x r s' L' m w) (h0 : s ≠ 0) (hs : s ≤ 2) (k : Nat) (hk : k / 2 = L.toNat) : x (k % 2) = m k := by
  rcases h with ⟨h, _⟩ | ⟨_, _, _, _, _, _, _, h8, _⟩
  · exact absurd h h0
  · obtain ⟨e1, e2⟩ := h8 hs
    have : k = 2 * L.toNat ∧ k % 2 = 0 ∨ k = 2 * L.toNat + 1 ∧ k % 2 = 1 := by omega
    rcases this with ⟨h, h'⟩ | ⟨h, h'⟩ <;> rw [h', h]
    · exact e1
    · exact e2
theorem gb_wd (h : OkC s L x r s' L' m w) (hm : ∀ k, k < 32 → Wd (m k)) : ∀ k, k < 32 → Wd (gb s L x m k) := fun k hk => by
  rw [gb_at]
  split
  · exact h.wd k
  · exact hm k hk
theorem gb_far (h : OkC s L x r s' L' m w) {k : Nat} (hk : k / 2 % 4 ≠ w) : gb s L x m k = m k := gb_no fun ⟨h1, h2⟩ => by
  have := h.rng (by omega)
  omega

/-- Drop. -/
theorem drop_ok (h : OkC s L x r s' L' m w) (h' : OkC s' L' x' r' s L m w) : OkC s' L' x' r' 0 0 (gb s L x m) w := by
  refine h'.other (fun h0 hs k hk => gb_no fun ⟨h1, h2⟩ => ?_) (fun _ => Or.inl rfl)
  have h3 := h.rng (by omega)
  have h4 := h'.rng h0
  rcases h.excl (by omega) with h5 | h5
  · exact h0 h5
  · omega
theorem drop_val {y : Nat → Int} (h : OkC s L x r s' L' m w) (k : Nat) : val2 0 0 y s' L' x' (gb s L x m) k = val2 s L x s' L' x' m k := by
  unfold val2
  rw [if_neg (by omega)]
  by_cases h1 : s = 3 ∧ L = ((k / 2 : Nat) : Int)
  · rw [if_pos h1]
    have h2 := h.excl (by omega)
    rw [if_neg (by omega), gb_yes h1.1 (by omega)]
  · rw [if_neg h1]
    by_cases h2 : s' = 3 ∧ L' = ((k / 2 : Nat) : Int)
    · rw [if_pos h2, if_pos h2]
    · rw [if_neg h2, if_neg h2, gb_no]
      rintro ⟨h3, h4⟩
      have := h.rng (by omega)
      omega
theorem val_comm (h : OkC s L x r s' L' m w) (k : Nat) : val2 s L x s' L' x' m k = val2 s' L' x' s L x m k := by
  unfold val2
  by_cases h1 : s = 3 ∧ L = ((k / 2 : Nat) : Int)
  · have h2 := h.excl (by omega)
    rw [if_pos h1, if_neg (by omega), if_pos h1]
  · rw [if_neg h1, if_neg h1]

/-- A line comes in, that nobody has. -/
theorem take_alone (hm : ∀ k, k < 32 → Wd (m k)) (h' : OkC s' L' x' r' 0 0 m w) {n : Int} (hn : 0 ≤ n ∧ n < 16) (hw : n % 4 = (w : Int)) (hno : ¬ (s' ≠ 0 ∧ L' = n)) :
    OkC 2 n (memL m n) false s' L' m w ∧ OkC s' L' x' r' 2 n m w := by
  refine ⟨Or.inr ⟨by decide, by decide, hn.1, hn.2, hw, hm _ (by omega), hm _ (by omega), fun _ => ⟨rfl, rfl⟩, fun _ => by omega⟩, h'.other (fun _ _ _ _ => rfl) fun hs => ?_⟩
  omega
theorem take_alone_val {y : Nat → Int} (h' : OkC s' L' x' r' 0 0 m w) {n : Int} (k : Nat) : val2 2 n y s' L' x' m k = val2 0 0 x s' L' x' m k := by
  unfold val2
  rw [if_neg (show ¬ ((2 : Int) = 3 ∧ n = ((k / 2 : Nat) : Int)) from by omega), if_neg (show ¬ ((0 : Int) = 3 ∧ (0 : Int) = ((k / 2 : Nat) : Int)) from by omega)]
/-- A line comes in, that the other one has. -/
theorem take_both (hm : ∀ k, k < 32 → Wd (m k)) (h' : OkC s' L' x' r' 0 0 m w) {n : Int} (hn : 0 ≤ n ∧ n < 16) (hw : n % 4 = (w : Int)) (hs : s' ≠ 0) (hL : L' = n) :
    OkC 1 n (memL (gb s' L' x' m) n) false 1 L' (gb s' L' x' m) w ∧ OkC 1 L' x' r' 1 n (gb s' L' x' m) w := by
  have hg := gb_wd h' hm
  refine ⟨Or.inr ⟨by decide, by decide, hn.1, hn.2, hw, hg _ (by omega), hg _ (by omega), fun _ => ⟨rfl, rfl⟩, fun h => by omega⟩, ?_⟩
  have hx := h'.wd
  have hrng := h'.rng hs
  refine Or.inr ⟨by decide, by decide, hrng.2.2.1, hrng.2.2.2.1, hrng.2.2.2.2, hx 0, hx 1, fun _ => ?_, fun h => by omega⟩
  have key : ∀ k, k / 2 = L'.toNat → x' (k % 2) = gb s' L' x' m k := fun k hk => by
    by_cases h3 : s' = 3
    · rw [gb_yes h3 hk.symm]
    · rw [gb_no (fun g => h3 g.1)]
      exact h'.agree hs (by omega) k hk
  have k0 := key (2 * L'.toNat) (by omega)
  have k1 := key (2 * L'.toNat + 1) (by omega)
  rw [show 2 * L'.toNat % 2 = 0 from by omega] at k0
  rw [show (2 * L'.toNat + 1) % 2 = 1 from by omega] at k1
  exact ⟨k0, k1⟩
theorem take_both_val {y : Nat → Int} (h' : OkC s' L' x' r' 0 0 m w) {n : Int} (k : Nat) : val2 1 n y 1 L' x' (gb s' L' x' m) k = val2 0 0 x s' L' x' m k := by
  unfold val2
  rw [if_neg (by omega), if_neg (by omega), if_neg (by omega)]
  by_cases h2 : s' = 3 ∧ L' = ((k / 2 : Nat) : Int)
  · rw [if_pos h2, gb_yes h2.1 (by omega)]
  · rw [if_neg h2, gb_no]
    rintro ⟨h3, h4⟩
    have := h'.rng (by omega)
    omega
/-- A line that both have is one's own alone. -/
theorem own_both (h : OkC s L x r s' L' m w) (h' : OkC s' L' x' r' s L m w) (hs : s ≠ 0) (hs' : s' ≠ 0) (hL : L' = L) : s = 1 ∧ s' = 1 := by
  have h1 := h.rng hs
  have h2 := h'.rng hs'
  have h3 := h.excl
  have h4 := h'.excl
  omega
theorem own_one {s'' L'' : Int} (h : OkC s L x r s' L' m w) (hs : s = 1) (hno : s'' = 0 ∨ L'' ≠ L) : OkC 2 L x r s'' L'' m w := by
  rcases h with ⟨h, _⟩ | ⟨h1, h2, h3, h4, h5, h6, h7, h8, h9⟩
  · omega
  · exact Or.inr ⟨by decide, by decide, h3, h4, h5, h6, h7, fun _ => h8 (by omega), fun _ => hno⟩
/-- A word is written. -/
theorem write_ok {i : Nat} {v : Int} (h : OkC s L x r s' L' m w) (hs : 2 ≤ s) (hv : Wd v) : OkC 3 L (updA x i v) r s' L' m w := by
  have hu : ∀ q, Wd (x q) → Wd (updA x i v q) := fun q hq => by
    unfold updA
    split
    · exact hv
    · exact hq
  rcases h with ⟨h, _⟩ | ⟨h1, h2, h3, h4, h5, h6, h7, h8, h9⟩
  · omega
  · exact Or.inr ⟨by decide, by decide, h3, h4, h5, hu _ h6, hu _ h7, fun h => by omega, fun _ => h9 hs⟩
theorem write_val {v : Int} {word : Nat} (h : OkC s L x r s' L' m w) (hs : 2 ≤ s) (hL : L = ((word / 2 : Nat) : Int)) (k : Nat) : val2 3 L (updA x (word % 2) v) s' L' x' m k = if k = word then v else val2 s L x s' L' x' m k := by
  have h2 := h.excl hs
  have hr := h.rng (by omega)
  unfold val2
  by_cases h1 : L = ((k / 2 : Nat) : Int)
  · rw [if_pos ⟨rfl, h1⟩]
    unfold updA
    by_cases hk : k = word
    · rw [if_pos (by omega), if_pos hk]
    · rw [if_neg (by omega), if_neg hk]
      by_cases h3 : s = 3
      · rw [if_pos ⟨h3, h1⟩]
      · rw [if_neg (fun g => h3 g.1), if_neg (by omega)]
        exact h.agree (by omega) (by omega) k (by omega)
  · rw [if_neg (show ¬ ((3 : Int) = 3 ∧ L = ((k / 2 : Nat) : Int)) from fun g => h1 g.2), if_neg (show ¬ k = word from by omega), if_neg (show ¬ (s = 3 ∧ L = ((k / 2 : Nat) : Int)) from fun g => h1 g.2)]
end

end Go.Proofs.Ytjbbgpacijageab.M
