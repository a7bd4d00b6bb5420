/- A bench at play, as a function of what it is given. -/
import Derived.Test.YtjbbgpacijageacB2
namespace Go.Proofs.Ytjbbgpacijageac.M
open Go.RowKit
set_option linter.unusedVariables false
set_option linter.unusedSimpArgs false

def nL (l : progsT.D) : progsT.D := fun k => (nilH, if k < 2 then (l k).2 else [])
theorem nL_at (l : progsT.D) {k : Nat} (hk : k < 2) : (nL l k).2 = (l k).2 := if_pos hk
theorem nh_newL (n : Nat) (l : progsT.D) : nhP (newL n l) = nL l := by
  funext k
  unfold nhP nL newL updA
  by_cases h1 : k = 1
  · subst h1; rfl
  · rw [if_neg h1]
    by_cases h0 : k = 0
    · subst h0; rfl
    · rw [if_neg h0, if_neg (by omega)]
      rfl
theorem nL_prog {l l' : progsT.D} (h : ∀ k, (l' k).2 = (l k).2) : nL l' = nL l := by
  funext k
  unfold nL
  rw [h]
theorem newE_prog {l l' : progsT.D} (h : ∀ k, (l' k).2 = (l k).2) (m : Nat → Int) : newE l' m = newE l m := by
  unfold newE
  rw [h 0, h 1]
theorem nh_act (nn mm : Nat) (d : deskT.D) (L : progsT.D) (a : actT.D) : AlE (actF nn d L a) (actF mm (nhD d) (nhP L) a) := by
  unfold actF
  split
  · exact nh_step nn mm d L _
  · split
    · exact nh_evict d L _ _
    · split
      · exact nh_kick d L _
      · exact ⟨rfl, rfl⟩
abbrev StT : Type := deskT.D × Rec × Int
def stp (L : progsT.D) (s : StT) (a : actT.D) : StT := (nhD (doD 0 L s.1 s.2.2 a), doR 0 L s.1 s.2.1 s.2.2 a, doK s.2.2)
def pl (L : progsT.D) (m : Nat → Int) (acts : List actT.D) : Nat → StT
  | 0 => ((deskT.zero.1, m), [], 0)
  | n + 1 => stp L (pl L m acts n) (nthD actT acts n)
/-- What a bench is, but for the names of its lists. -/
structure Is (M : progsT.D) (s : StT) (L : progsT.D) (D : deskT.D) (rs : Rec) (k : Int) : Prop where
  l : nhP L = M
  d : nhD D = s.1
  r : rs = s.2.1
  k : k = s.2.2
theorem Is.init (n : Nat) (l : progsT.D) (m : Nat → Int) (acts : List actT.D) : Is (nL l) (pl (nL l) m acts 0) (newL n l) (deskT.zero.1, m) [] 0 := ⟨nh_newL n l, rfl, rfl, rfl⟩
section
variable {M L : progsT.D} {s : StT} {D D' : deskT.D} {rs R' : Rec} {k k' : Int} {nn : Nat} {a : actT.D} {r : replyT.D}
theorem Is.eqs (h : Is M s L D rs k) (nn : Nat) (a : actT.D) : nhD (doD nn L D k a) = (stp M s a).1 ∧ doR nn L D rs k a = (stp M s a).2.1 ∧ repF nn L D k a = repF 0 M s.1 s.2.2 a := by
  have h1 := nh_act nn 0 D L a
  rw [h.l, h.d] at h1
  unfold stp doD doR repF
  rw [h.k, h.r, h1.r]
  refine ⟨?_, rfl, rfl⟩
  split
  · rw [h.d]
    show _ = nhD s.1
    rw [← h.d]
    rfl
  · split
    · exact h1.d
    · show _ = nhD s.1
      rw [← h.d]
      rfl
theorem Is.next (h : Is M s L D rs k) (o : DoOut nn L D rs k a r D' R' k') : Is M (stp M s a) L D' R' k' ∧ r = repF 0 M s.1 s.2.2 a := by
  obtain ⟨e1, e2, e3⟩ := h.eqs nn a
  refine ⟨⟨h.l, ?_, ?_, ?_⟩, ?_⟩
  · rw [o.d]; exact e1
  · rw [o.rs]; exact e2
  · rw [o.k, h.k]; rfl
  · rw [o.r]; exact e3
theorem Is.good (h : Is M s L D rs k) : goodK D = goodK s.1 := by rw [← h.d]; rfl
end
section
variable {L : progsT.D} {m : Nat → Int} {acts : List actT.D}
theorem pl_k : ∀ n : Nat, n ≤ 400 → (pl L m acts n).2.2 = (n : Int)
  | 0, _ => rfl
  | n + 1, h => by
    show doK (pl L m acts n).2.2 = _
    rw [pl_k n (by omega)]
    unfold doK
    rw [if_neg (by omega)]
    exact wrap_succ n (by omega)
theorem pl_len : ∀ n : Nat, (pl L m acts n).2.1.length ≤ 2 * n
  | 0 => Nat.zero_le _
  | n + 1 => by
    have h1 := do_len (nn := 0) (L := L) (D := (pl L m acts n).1) (rs := (pl L m acts n).2.1) (k := (pl L m acts n).2.2) (a := nthD actT acts n)
    have h2 := pl_len n
    show (doR 0 L (pl L m acts n).1 (pl L m acts n).2.1 (pl L m acts n).2.2 (nthD actT acts n)).length ≤ _
    omega
theorem act_good {nn : Nat} {d : deskT.D} {a : actT.D} (hg : goodK d = true) : goodK (actF nn d L a).1 = true := by
  unfold actF
  split
  · exact (step_ok hg).1
  · split
    · exact evict_ok hg
    · split
      · exact kick_ok hg
      · exact hg
theorem do_good {nn : Nat} {d : deskT.D} {k : Int} {a : actT.D} (hg : goodK d = true) : goodK (doD nn L d k a) = true := by
  unfold doD
  split
  · exact hg
  · split
    · exact act_good hg
    · exact hg
theorem pl_good (h : goodK (deskT.zero.1, m) = true) : ∀ n : Nat, goodK (pl L m acts n).1 = true
  | 0 => h
  | n + 1 => do_good (nn := 0) (pl_good h n)
end
theorem good_len {D : deskT.D} (h : goodK D = true) (c : Nat) (hc : c < 2) : (D.1 c).2.2.2.2.1.2.length ≤ 4 := by
  have := good_ws (c := (c : Int)) h (by omega)
  exact this
end Go.Proofs.Ytjbbgpacijageac.M
