/- NextInstr: a loop over a list of instructions. -/
import Derived.Test.YtjbbgpacijageaaL1
namespace Go.Proofs.Ytjbbgpacijageaa
open Go.RowKit
set_option linter.unusedSimpArgs false
set_option linter.unusedVariables false
attribute [local go_sem ↓] eql_plain eql_instr

/-- Ahead of k there is no instruction that comes next. -/
def noneTo (l : List In) (a : Int) (k : Nat) : Prop := ∀ (j : Nat) (i : In), j < k → l[j]? = some i → a = j → goodI i = false

theorem fetch_none {l : List In} {p : Pl} (h : noneTo l p.a l.length) : fetch l p = haltI := by
  unfold fetch
  split
  · rename_i h0
    split
    · rename_i i hi
      have hk : p.a.toNat < l.length := by
        rcases Nat.lt_or_ge p.a.toNat l.length with h' | h'
        · exact h'
        · rw [List.getElem?_eq_none h'] at hi; cases hi
      rw [h _ i hk hi (by omega)]
      rfl
    · rfl
  · rfl

theorem fetch_some {l : List In} {p : Pl} {k : Nat} {i : In} (hk : p.a = k) (hi : l[k]? = some i) (hg : goodI i = true) : fetch l p = i := by
  unfold fetch
  rw [if_pos (by omega), hk]
  simp [hi, hg]

theorem noneTo_succ {l : List In} {a : Int} {k : Nat} {i : In} (h : noneTo l a k) (hi : l[k]? = some i) (hg : a = k → goodI i = false) : noneTo l a (k + 1) := by
  intro j i' hj hi' ha
  by_cases hjk : j = k
  · subst hjk; rw [hi] at hi'; cases hi'; exact hg ha
  · exact h j i' (by omega) hi' ha

theorem up_keepf {W : World} {ob : Obj} (_ : Up (W.alloc ob)) {b : Nat} (hb : b < W.heap.size) (h : ∀ j, W.frozen? ⟨b, j, none⟩ = false) :
    ∀ (v : Up (W.alloc ob)) (j : Nat), v.x.frozen? ⟨b, j, none⟩ = false := fun v j =>
  (v.frozen b j (by rw [size_alloc']; omega)).trans ((World.frozen?_alloc_old _ _ _ (by simp; omega)).trans (h j))

set_option maxHeartbeats 2000000 in
theorem c_NextInstr_some (b off cap : Nat) (l : List In) (p : Pl) (w : World) (h2 : l.length ≤ cap) (h3 : cap ≤ maxLen) (h4 : b < w.heap.size) (h5 : ∀ (j : Nat) (i : In), l[j]? = some i → InAt w b (off + j * 5) i) :
    Calls Try.prog 22 #[.slice (some ⟨b, off, none⟩) l.length cap, pv p] w fun e w' => e = .returned (iv (fetch l p)) ∧ Below w.heap.size w w' := by
  have HI : Hid (∀ (j : Nat) (i : In), l[j]? = some i → InAt w b (off + j * 5) i) := h5
  clear h5
  unfold maxLen at h3
  generalize hn : l.length = n at *
  have HN : Hid (l.length = n) := hn
  clear hn
  go_enter Try.func22, Try.ntmps22
  go_wp2
  go_loopw [9] (fun c w' => ∃ (k : Nat) (u : Up ((w.alloc (.cells #[.int .i64 (p.r 0), .int .i64 (p.r 1), .int .i64 (p.r 2), .int .i64 (p.r 3), .int .i64 (p.r 4), .int .i64 (p.r 5), .int .i64 (p.r 6), .int .i64 (p.r 7), .int .i64 p.a, .bool p.o] 25)).alloc (.cells #[.int .i64 0, .int .i64 0, .int .i64 0, .int .i64 0, .int .i64 0] 27))), k ≤ n ∧ c = .int .i64 k ∧ w' = u.x ∧ noneTo l p.a k) (fun c _ => n - (intOf c).toNat)
  case atStart => exact ⟨0, ⟨_, Below.refl _ _⟩, Nat.zero_le _, rfl, rfl, fun j i hj => by omega⟩
  case round =>
    obtain ⟨k, u, hk, rfl, rfl, hnone⟩ := hrel
    obtain ⟨hne, hc0, hf0, hs0, hc1, hf1, hs1, hbl⟩ := u.f2
    have t0 := hs0 u
    have t1 := hs1 u
    have HNO : Hid (noneTo l p.a k) := hnone
    clear hnone
    by_cases hlt : k < n
    · have hi : l[k]? = some (l[k]'(by rw [HN.out]; exact hlt)) := by simp
      generalize l[k]'(by rw [HN.out]; exact hlt) = i at hi
      obtain ⟨c0, c1, c2, c3, c4⟩ := HI.out k i hi
      have hold : ∀ o, u.x.cell? ⟨b, o, none⟩ = w.cell? ⟨b, o, none⟩ := fun o => (hbl u).cell (p := ⟨b, o, none⟩) h4
      have d0 := (hold _).trans c0
      have d1 := (hold _).trans c1
      have d2 := (hold _).trans c2
      have d3 := (hold _).trans c3
      have d4 := (hold _).trans c4
      clear hold c0 c1 c2 c3 c4
      have HK : Hid (l[k]? = some i) := hi
      clear hi
      by_cases ha : p.a = k
      · have ha' : ((k : Int) == p.a) = true := by simp [ha]
        have HA : Hid (p.a = k) := ha
        clear ha
        go_wp2_with fail
        refine (c_IsInstr i _).mono ?_
        rintro e w1 ⟨rfl, hb⟩
        obtain ⟨u2, rfl⟩ := to_up hb
        have k0 := up_keep u2 t0 (hc0 u)
        have k1 := up_keep u2 t1 (hc1 u)
        have k2 := up_new u2
        have m1 := up_keepf u2 t1 (hf1 u)
        have hB := up_below ((hbl u).alloc (by omega) _) u2
        have hB2 : Below _ _ u2.x := below_trans (below_trans u.h ((Below.refl _ _).alloc (Nat.le_refl _) _)) u2.h
        clear hb d0 d1 d2 d3 d4 hc0 hf0 hs0 hc1 hf1 hs1 hne
        cases hg : goodI i
        · go_wp2_with fail
          go_roundw
          case rel => exact ⟨k + 1, ⟨u2.x, hB2⟩, by omega, by go_num, rfl, noneTo_succ HNO.out HK.out (fun _ => hg)⟩
          case measure => simp [intOf]; omega
        · go_wp2_with fail
          refine bodyPost_ret (v := iv i) (by simp [results, Try.results22, go_sem, k1, k2, m1]) rfl ?_
          exact ⟨by rw [fetch_some HA.out HK.out hg], by go_grown⟩
      · have ha' : ((k : Int) == p.a) = false := by simp; omega
        have HA : Hid (¬ p.a = k) := ha
        clear ha
        have hB2 : Below _ _ (u.x.alloc (.cells #[.int .i64 i.op, .int .i64 i.a, .int .i64 i.b, .int .i64 i.c, .int .i64 i.n] 27)) := below_trans u.h ((Below.refl _ _).alloc (Nat.le_refl _) _)
        go_wp2_with fail
        go_roundw
        case rel => exact ⟨k + 1, ⟨_, hB2⟩, by omega, by go_num, rfl, noneTo_succ HNO.out HK.out (fun h => absurd h HA.out)⟩
        case measure => simp [intOf]; omega
    · go_wp2_with fail
      refine bodyPost_ret (v := iv haltI) (by simp [results, Try.results22, go_sem, hc1, hf1, haltI]) rfl ?_
      refine ⟨?_, by go_grown; exact hbl u⟩
      have hkn : k = n := by omega
      subst hkn
      have hno := HNO.out
      rw [← HN.out] at hno
      rw [fetch_none hno]

set_option maxHeartbeats 1000000 in
theorem c_NextInstr_nil (ad : Option Addr) (cap : Nat) (p : Pl) (w : World) :
    Calls Try.prog 22 #[.slice ad 0 cap, pv p] w fun e w' => e = .returned (iv haltI) ∧ Below w.heap.size w w' := by
  go_enter Try.func22, Try.ntmps22
  go_wp2
  refine wp_loop_rounds 1 ?_
  rw [rounds_succ]
  go_wp2
  go_returns
  exact ⟨rfl, by go_grown⟩

theorem c_NextInstr (v : Value) (l : List In) (p : Pl) (w : World) (hl : Lst w v l) :
    Calls Try.prog 22 #[v, pv p] w fun e w' => e = .returned (iv (fetch l p)) ∧ Below w.heap.size w w' := by
  rcases hl with ⟨rfl, ad, cap, rfl⟩ | ⟨b, off, cap, rfl, h2, h3, h4, h5⟩
  · rw [fetch_none (l := []) (p := p) (fun j i hj => by simp at hj)]
    exact c_NextInstr_nil ad cap p w
  · exact c_NextInstr_some b off cap l p w h2 h3 h4 h5

end Go.Proofs.Ytjbbgpacijageaa
