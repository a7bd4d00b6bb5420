/- Lists of instructions in memory; Fetch. -/
import Derived.Test.YtjbbgpacijageaaP2
import Derived.Test.YtjbbgpacijageaaMath3
namespace Go.Proofs.Ytjbbgpacijageaa
open Go.RowKit
set_option linter.unusedSimpArgs false
set_option linter.unusedVariables false
attribute [local go_sem ↓] eql_plain eql_instr

/-- An instruction's cells lie in a block from an offset on. -/
structure InAt (w : World) (b o : Nat) (i : In) : Prop where
  c0 : w.cell? ⟨b, o, none⟩ = some (.int .i64 i.op)
  c1 : w.cell? ⟨b, o + 1, none⟩ = some (.int .i64 i.a)
  c2 : w.cell? ⟨b, o + 2, none⟩ = some (.int .i64 i.b)
  c3 : w.cell? ⟨b, o + 3, none⟩ = some (.int .i64 i.c)
  c4 : w.cell? ⟨b, o + 4, none⟩ = some (.int .i64 i.n)

/-- A slice reads as this list. -/
def Lst (w : World) (v : Value) (l : List In) : Prop :=
  (l = [] ∧ ∃ ad cap, v = .slice ad 0 cap) ∨
  ∃ b off cap, v = .slice (some ⟨b, off, none⟩) l.length cap ∧ l.length ≤ cap ∧ cap ≤ maxLen ∧ b < w.heap.size ∧ ∀ (j : Nat) (i : In), l[j]? = some i → InAt w b (off + j * 5) i

theorem Lst.below {w w' : World} {v : Value} {l : List In} (h : Lst w v l) (hb : Below w.heap.size w w') : Lst w' v l := by
  rcases h with h | ⟨b, off, cap, h1, h2, h3, h4, h5⟩
  · exact Or.inl h
  · refine Or.inr ⟨b, off, cap, h1, h2, h3, Nat.lt_of_lt_of_le h4 hb.size, fun j i hi => ?_⟩
    obtain ⟨c0, c1, c2, c3, c4⟩ := h5 j i hi
    have hc : ∀ o, w'.cell? ⟨b, o, none⟩ = w.cell? ⟨b, o, none⟩ := fun o => hb.cell (p := ⟨b, o, none⟩) h4
    exact ⟨by rw [hc]; exact c0, by rw [hc]; exact c1, by rw [hc]; exact c2, by rw [hc]; exact c3, by rw [hc]; exact c4⟩

def haltI : In := ⟨12, 0, 0, 0, 0⟩
/-- The instruction that comes next. -/
def fetch (l : List In) (p : Pl) : In :=
  if 0 ≤ p.a then (match l[p.a.toNat]? with | some i => if goodI i = true then i else haltI | none => haltI) else haltI

set_option maxHeartbeats 1000000 in
theorem c_Fetch_low (v : Value) (l : List In) (p : Pl) (w : World) (hl : Lst w v l) (h : p.a < 0) :
    Calls Try.prog 21 #[v, pv p] w fun e w' => e = .returned (iv haltI) ∧ Below w.heap.size w w' := by
  have hd : decide (p.a < 0) = true := by simp [h]
  rcases hl with ⟨rfl, ad, cap, rfl⟩ | ⟨b, off, cap, rfl, h2, h3, h4, h5⟩
  all_goals
    go_enter Try.func21, Try.ntmps21
    go_wp2_with fail
    go_returns
    exact ⟨rfl, by go_grown⟩

set_option maxHeartbeats 1000000 in
theorem c_Fetch_high (v : Value) (l : List In) (p : Pl) (w : World) (hl : Lst w v l) (h0 : 0 ≤ p.a) (h : (l.length : Int) ≤ p.a) :
    Calls Try.prog 21 #[v, pv p] w fun e w' => e = .returned (iv haltI) ∧ Below w.heap.size w w' := by
  rcases hl with ⟨rfl, ad, cap, rfl⟩ | ⟨b, off, cap, rfl, h2, h3, h4, h5⟩
  · simp at h
    go_enter Try.func21, Try.ntmps21
    go_wp2_with fail
    go_returns
    exact ⟨rfl, by go_grown⟩
  · clear h5
    go_enter Try.func21, Try.ntmps21
    go_wp2_with fail
    go_returns
    exact ⟨rfl, by go_grown⟩

set_option maxHeartbeats 1000000 in
theorem c_Fetch_in (b off cap : Nat) (l : List In) (p : Pl) (i : In) (w : World) (h2 : l.length ≤ cap) (h4 : b < w.heap.size) (k : Nat) (hk : k < l.length) (hp : p.a = k) (hi : InAt w b (off + k * 5) i) :
    Calls Try.prog 21 #[.slice (some ⟨b, off, none⟩) l.length cap, pv p] w fun e w' => e = .returned (iv (if goodI i = true then i else haltI)) ∧ Below w.heap.size w w' := by
  obtain ⟨r, a, o⟩ := p
  simp only at hp
  subst hp
  obtain ⟨c0, c1, c2, c3, c4⟩ := hi
  have g0 : (0 : Int) ≤ (k : Int) := by omega
  have g1 : (k : Int) < (l.length : Int) := by omega
  have g2 : decide ((k : Int) < 0) = false := by simp
  have g3 : decide (l.length ≤ k) = false := by simp; omega
  go_enter Try.func21, Try.ntmps21
  go_wp2_with fail
  refine (c_Good i _).mono ?_
  rintro e w1 ⟨rfl, hb⟩
  obtain ⟨u, rfl⟩ := to_up hb
  obtain ⟨hne, hc0, hf0, hs0, hc1, hf1, hs1, hbl⟩ := u.f2
  have hold : ∀ o, u.x.cell? ⟨b, o, none⟩ = w.cell? ⟨b, o, none⟩ := fun o => (hbl u).cell (p := ⟨b, o, none⟩) h4
  have d0 := (hold _).trans c0
  have d1 := (hold _).trans c1
  have d2 := (hold _).trans c2
  have d3 := (hold _).trans c3
  have d4 := (hold _).trans c4
  clear hb hold
  cases hg : goodI i
  · go_wp2_with fail
    all_goals refine bodyPost_ret (v := iv haltI) (by simp [results, Try.results21, go_sem, hc0, hc1, haltI]) rfl ?_
    all_goals exact ⟨by simp, by go_grown; exact hbl u⟩
  · go_wp2_with fail
    all_goals refine bodyPost_ret (v := iv i) (by simp [results, Try.results21, go_sem, hc0, hc1]) rfl ?_
    all_goals exact ⟨by simp, by go_grown; exact hbl u⟩

theorem c_Fetch (v : Value) (l : List In) (p : Pl) (w : World) (hl : Lst w v l) :
    Calls Try.prog 21 #[v, pv p] w fun e w' => e = .returned (iv (fetch l p)) ∧ Below w.heap.size w w' := by
  by_cases h0 : 0 ≤ p.a
  · by_cases h1 : (l.length : Int) ≤ p.a
    · have : fetch l p = haltI := by
        unfold fetch
        rw [if_pos h0, List.getElem?_eq_none (by omega)]
      rw [this]
      exact c_Fetch_high v l p w hl h0 h1
    · have hk : p.a.toNat < l.length := by omega
      have hi : l[p.a.toNat]? = some l[p.a.toNat] := by simp [hk]
      have : fetch l p = if goodI l[p.a.toNat] = true then l[p.a.toNat] else haltI := by
        unfold fetch
        rw [if_pos h0, hi]
      rw [this]
      rcases hl with ⟨rfl, ad, cap, rfl⟩ | ⟨b, off, cap, rfl, h2, h3, h4, h5⟩
      · simp at hk
      · exact c_Fetch_in b off cap l p _ w h2 h4 p.a.toNat hk (by omega) (h5 _ _ hi)
  · have : fetch l p = haltI := by unfold fetch; rw [if_neg h0]
    rw [this]
    exact c_Fetch_low v l p w hl (by omega)

end Go.Proofs.Ytjbbgpacijageaa
