/- Package bench: what comes of an act. -/
import Derived.Test.YtjbbgpacijageacGreatB1
namespace Go.Proofs.YtjbbgpacijageacGreat.M
open Go.RowKit
set_option linter.unusedVariables false
set_option linter.unusedSimpArgs false

abbrev tabB : Tab := { tab with tks := [38] }
theorem tabBOk : TabOk Tryz.prog tabB := ⟨tabOk.ty, tabOk.eq, tabOk.mix, tabOk.ptr⟩
def actF (nn : Nat) (d : deskT.D) (l : progsT.D) (a : actT.D) : deskT.D × Rec × Int :=
  if a.1 = 1 then stepF nn d l a.2.1 else if a.1 = 2 then evictF d l a.2.1 a.2.2 else if a.1 = 3 then kickF d l a.2.1 else (d, [], 3)
def doD (nn : Nat) (L : progsT.D) (D : deskT.D) (k : Int) (a : actT.D) : deskT.D := if k = 400 then D else if (actF nn D L a).2.2 = 0 then (actF nn D L a).1 else D
def doR (nn : Nat) (L : progsT.D) (D : deskT.D) (rs : Rec) (k : Int) (a : actT.D) : Rec := if k = 400 then rs else if (actF nn D L a).2.2 = 0 then rs ++ (actF nn D L a).2.1 else rs
def doK (k : Int) : Int := if k = 400 then k else wrap64 (k + 1)
abbrev doB (nn : Nat) (H : Hd) (L : progsT.D) (D : deskT.D) (rs : Rec) (k : Int) (a : actT.D) : benchT.D := (L, doD nn L D k a, (H, doR nn L D rs k a), doK k)
def repF (nn : Nat) (L : progsT.D) (D : deskT.D) (k : Int) (a : actT.D) : replyT.D :=
  if k = 400 then (6, 0) else if (actF nn D L a).2.2 = 0 then (0, whyF (actF nn D L a).2.1) else ((actF nn D L a).2.2, 0)
structure DoOut (nn : Nat) (L : progsT.D) (D : deskT.D) (rs : Rec) (k : Int) (a : actT.D) (r : replyT.D) (D' : deskT.D) (R' : Rec) (k' : Int) : Prop where
  r : r = repF nn L D k a
  d : D' = doD nn L D k a
  rs : R' = doR nn L D rs k a
  k : k' = doK k
theorem sk_len2 {c : Int} {d : deskT.D} {x : deskT.D × Rec} (h : Sk c d x) : x.2.length ≤ 2 := by
  obtain ⟨f, T, q, _, e, hq, _⟩ := h
  rw [e, List.length_append]
  unfold othR
  split
  · show 1 + q.length ≤ 2; omega
  · show 0 + q.length ≤ 2; omega
theorem step_len {nn : Nat} {d : deskT.D} {l : progsT.D} {c : Int} : (stepF nn d l c).2.1.length ≤ 2 := by
  unfold stepF
  split
  · rename_i h
    split
    · exact Nat.zero_le _
    · rename_i ho
      exact sk_len2 (sk_steps (nn := nn) (l := l) (ref_ok h).2 (ref_ok h).1 (by simpa using ho))
  · exact Nat.zero_le _
theorem act_len {nn : Nat} {d : deskT.D} {l : progsT.D} {a : actT.D} : (actF nn d l a).2.1.length ≤ 2 := by
  unfold actF
  split
  · exact step_len
  · split
    · unfold evictF
      split
      · split
        · split
          · show 1 ≤ 2; omega
          · exact Nat.zero_le _
        · exact Nat.zero_le _
      · exact Nat.zero_le _
    · split
      · unfold kickF
        split
        · split
          · show 1 ≤ 2; omega
          · exact Nat.zero_le _
        · exact Nat.zero_le _
      · exact Nat.zero_le _
theorem do_len {nn : Nat} {L : progsT.D} {D : deskT.D} {rs : Rec} {k : Int} {a : actT.D} : (doR nn L D rs k a).length ≤ rs.length + 2 := by
  unfold doR
  have := act_len (nn := nn) (d := D) (l := L) (a := a)
  split
  · omega
  · split
    · rw [List.length_append]; omega
    · omega
theorem specA : SpecsOk Tryz.prog [(47, stepS), (64, evictS), (65, kickS)] := SpecsOk.cons c_Step (by kernel_rfl) (SpecsOk.cons c_Evict (by kernel_rfl) (SpecsOk.cons c_Kick (by kernel_rfl) (SpecsOk.nil _)))
abbrev aftTr : MTr := Inl tabB [(47, stepS), (64, evictS), (65, kickS)] Tryz.f41 [deskT, .lst recordT, .int]
abbrev doTr : MTr := Lax (Inl tabB [(41, mutS aftTr), (42, whyS)] Tryz.f18 [replyT])
theorem doOk : MOk Tryz.prog 18 doTr := lax_ok (inl_ok tabBOk (SpecsOk.mut (inl_ok tabBOk specA Tryz.func41 [deskT, .lst recordT, .int]) (by kernel_rfl) (SpecsOk.cons c_firstWhy (by kernel_rfl) (SpecsOk.nil _))) Tryz.func18 [replyT])
section
variable {L : progsT.D} {D : deskT.D} {H : Hd} {rs : Rec} {k : Int} {a : actT.D} {n : Nat} {x : deskT.D × Rec × Int}
theorem act_1 (h : a.1 = 1) : actF n D L a = stepF n D L a.2.1 := if_pos h
theorem act_2 (h : ¬ a.1 = 1) (h2 : a.1 = 2) : actF n D L a = evictF D L a.2.1 a.2.2 := by unfold actF; rw [if_neg h, if_pos h2]
theorem act_3 (h : ¬ a.1 = 1) (h2 : ¬ a.1 = 2) (h3 : a.1 = 3) : actF n D L a = kickF D L a.2.1 := by unfold actF; rw [if_neg h, if_neg h2, if_pos h3]
theorem act_4 (h : ¬ a.1 = 1) (h2 : ¬ a.1 = 2) (h3 : ¬ a.1 = 3) : actF n D L a = (D, [], 3) := by unfold actF; rw [if_neg h, if_neg h2, if_neg h3]
theorem act_small1 (hrs : rs.length ≤ 10000) (h : actF n D L a = x) : rs.length + x.2.1.length ≤ 140737488355328 ∧ (rs.length + x.2.1.length) * recordT.byt ≤ 140737488355328 := by
  have h1 := act_len (nn := n) (d := D) (l := L) (a := a)
  rw [h] at h1
  exact ⟨by omega, by show (rs.length + x.2.1.length) * 24 ≤ _; omega⟩
theorem rep_full (h : k = 400) : ((6, 0) : replyT.D) = repF n L D k a := (if_pos h).symm
theorem do_full (h : k = 400) : ((L, D, (H, rs), k) : benchT.D) = doB n H L D rs k a := by unfold doB doD doR doK; rw [if_pos h, if_pos h, if_pos h]
theorem rep_err (h : ¬ k = 400) (hx : actF n D L a = x) (he : ¬ x.2.2 = 0) : ((x.2.2, 0) : replyT.D) = repF n L D k a := by unfold repF; rw [if_neg h, hx, if_neg he]
theorem do_err (h : ¬ k = 400) (hx : actF n D L a = x) (he : ¬ x.2.2 = 0) : ((L, D, (H, rs), wrap64 (k + 1)) : benchT.D) = doB n H L D rs k a := by unfold doB doD doR doK; rw [if_neg h, if_neg h, if_neg h, hx, if_neg he, if_neg he]
theorem rep_ok (h : ¬ k = 400) (hx : actF n D L a = x) (he : x.2.2 = 0) : ((0, whyF x.2.1) : replyT.D) = repF n L D k a := by unfold repF; rw [if_neg h, hx, if_pos he]
theorem do_ok (h : ¬ k = 400) (hx : actF n D L a = x) (he : x.2.2 = 0) : ((L, x.1, (H, rs ++ x.2.1), wrap64 (k + 1)) : benchT.D) = doB n H L D rs k a := by unfold doB doD doR doK; rw [if_neg h, if_neg h, if_neg h, hx, if_pos he, if_pos he]
end
abbrev newTr : MTr := Lax (InlA tabB [(36, refPS), (37, cloneS instrT), (38, goodKS)] Tryz.f15)
theorem newOk : MOk Tryz.prog 15 newTr := lax_ok (inlA_ok tabBOk (SpecsOk.cons c_bRefused (by kernel_rfl) (SpecsOk.cons c_cloneI (by kernel_rfl) (SpecsOk.cons c_dGood (by kernel_rfl) (SpecsOk.nil _)))) Tryz.func15)
theorem ref_small {l : List instrT.D} (h : refP l = 0) : l.length ≤ 140737488355328 ∧ l.length * instrT.byt ≤ 140737488355328 := by
  unfold refP at h
  split at h
  · cases h
  · exact ⟨by omega, by show l.length * 40 ≤ _; omega⟩
def newE (l : progsT.D) (m : Nat → Int) : Int := if refP (l 0).2 = 0 then (if refP (l 1).2 = 0 then (if goodK (deskT.zero.1, m) = true then 0 else 1) else refP (l 1).2) else refP (l 0).2
section
variable {l : progsT.D} {m : Nat → Int}
theorem newE_0 (h : ¬ refP (l (Int.toNat 0)).2 = 0) : newE l m = refP (l (Int.toNat 0)).2 := if_neg h
theorem newE_1 (h : refP (l (Int.toNat 0)).2 = 0) (h1 : ¬ refP (l (wrap64 (0 + 1)).toNat).2 = 0) : newE l m = refP (l (wrap64 (0 + 1)).toNat).2 := by
  unfold newE
  rw [if_pos (show refP (l 0).2 = 0 from h)]
  exact if_neg h1
theorem newE_2 (h : refP (l (Int.toNat 0)).2 = 0) (h1 : refP (l (wrap64 (0 + 1)).toNat).2 = 0) (h2 : (!goodK (deskT.zero.1, m)) = true) : newE l m = 1 := by
  unfold newE
  rw [if_pos (show refP (l 0).2 = 0 from h), if_pos (show refP (l 1).2 = 0 from h1), if_neg (by rw [not_t' h2]; decide)]
theorem newE_3 (h : refP (l (Int.toNat 0)).2 = 0) (h1 : refP (l (wrap64 (0 + 1)).toNat).2 = 0) (h2 : (!goodK (deskT.zero.1, m)) = false) : newE l m = 0 := by
  unfold newE
  rw [if_pos (show refP (l 0).2 = 0 from h), if_pos (show refP (l 1).2 = 0 from h1), if_pos (not_f' h2)]
theorem newE_good (h : newE l m = 0) : goodK (deskT.zero.1, m) = true := by
  unfold newE at h
  split at h
  · split at h
    · split at h
      · assumption
      · cases h
    · exact absurd h (by assumption)
  · exact absurd h (by assumption)
def newL (n : Nat) (l : progsT.D) : progsT.D := updA (updA progsT.zero 0 (.nm n, (l 0).2)) 1 (.nm (n + 1), (l 1).2)
end
section
variable {D : deskT.D}
end
end Go.Proofs.YtjbbgpacijageacGreat.M
