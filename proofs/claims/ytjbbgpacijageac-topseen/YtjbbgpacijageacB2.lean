/- Package bench: what comes of an act. -/
import Derived.Test.YtjbbgpacijageacB1
namespace Go.Proofs.Ytjbbgpacijageac.M
open Go.RowKit
set_option linter.unusedVariables false
set_option linter.unusedSimpArgs false

abbrev tabB : Tab := { tab with tks := [55] }
theorem tabBOk : TabOk Try.prog tabB := ⟨tabOk.ty, tabOk.eq, tabOk.mix, tabOk.ptr⟩
/-- What comes of an act: the desk, what is recorded, an error. -/
def actF (nn : Nat) (d : deskT.D) (l : progsT.D) (a : actT.D) : deskT.D × Rec × Int :=
  if a.1 = 1 then stepF nn d l a.2.1 else if a.1 = 2 then evictF d l a.2.1 a.2.2 else if a.1 = 3 then kickF d l a.2.1 else (d, [], 3)
def doD (nn : Nat) (L : progsT.D) (D : deskT.D) (k : Int) (a : actT.D) : deskT.D := if k = 400 then D else if (actF nn D L a).2.2 = 0 then (actF nn D L a).1 else D
def doR (nn : Nat) (L : progsT.D) (D : deskT.D) (rs : Rec) (k : Int) (a : actT.D) : Rec := if k = 400 then rs else if (actF nn D L a).2.2 = 0 then rs ++ (actF nn D L a).2.1 else rs
def doK (k : Int) : Int := if k = 400 then k else wrap64 (k + 1)
abbrev doB (nn : Nat) (H : Hd) (L : progsT.D) (D : deskT.D) (rs : Rec) (k : Int) (a : actT.D) : benchT.D := (L, doD nn L D k a, (H, doR nn L D rs k a), doK k)
def repF (nn : Nat) (L : progsT.D) (D : deskT.D) (k : Int) (a : actT.D) : replyT.D :=
  if k = 400 then (6, 0) else if (actF nn D L a).2.2 = 0 then (0, whyF (actF nn D L a).2.1) else ((actF nn D L a).2.2, 0)
/-- What comes of it, by letters. -/
structure DoOut (nn : Nat) (L : progsT.D) (D : deskT.D) (rs : Rec) (k : Int) (a : actT.D) (r : replyT.D) (D' : deskT.D) (R' : Rec) (k' : Int) : Prop where
  r : r = repF nn L D k a
  d : D' = doD nn L D k a
  rs : R' = doR nn L D rs k a
  k : k' = doK k
theorem sk_len2 {c : Int} {d : deskT.D} {x : deskT.D × Rec} (h : Sk c d x) : x.2.length ≤ 2 := by
  obtain ⟨f, T, q, _, e, hq, _⟩ := h
  rw [e, List.length_append]
  unfold othR
  split
  · show 1 + q.length ≤ 2; omega
  · show 0 + q.length ≤ 2; omega
theorem step_len {nn : Nat} {d : deskT.D} {l : progsT.D} {c : Int} : (stepF nn d l c).2.1.length ≤ 2 := by
  unfold stepF
  split
  · rename_i h
    split
    · exact Nat.zero_le _
    · rename_i ho
      exact sk_len2 (sk_steps (nn := nn) (l := l) (ref_ok h).2 (ref_ok h).1 (by simpa using ho))
  · exact Nat.zero_le _
theorem act_len {nn : Nat} {d : deskT.D} {l : progsT.D} {a : actT.D} : (actF nn d l a).2.1.length ≤ 2 := by
  unfold actF
  split
  · exact step_len
  · split
    · unfold evictF
      split
      · split
        · split
          · show 1 ≤ 2; omega
          · exact Nat.zero_le _
        · exact Nat.zero_le _
      · exact Nat.zero_le _
    · split
      · unfold kickF
        split
        · split
          · show 1 ≤ 2; omega
          · exact Nat.zero_le _
        · exact Nat.zero_le _
      · exact Nat.zero_le _
theorem do_len {nn : Nat} {L : progsT.D} {D : deskT.D} {rs : Rec} {k : Int} {a : actT.D} : (doR nn L D rs k a).length ≤ rs.length + 2 := by
  unfold doR
  have := act_len (nn := nn) (d := D) (l := L) (a := a)
  split
  · omega
  · split
    · rw [List.length_append]; omega
    · omega
theorem specA : SpecsOk Try.prog [(50, stepS), (51, evictS), (52, kickS)] := SpecsOk.cons c_Step (by kernel_rfl) (SpecsOk.cons c_Evict (by kernel_rfl) (SpecsOk.cons c_Kick (by kernel_rfl) (SpecsOk.nil _)))
abbrev aftTr : MTr := Inl tabB [(50, stepS), (51, evictS), (52, kickS)] Try.f34 [deskT, .lst recordT, .int]
abbrev doTr : MTr := Lax (Inl tabB [(34, mutS aftTr), (35, whyS)] Try.f21 [replyT])
theorem doOk : MOk Try.prog 21 doTr := lax_ok (inl_ok tabBOk (SpecsOk.mut (inl_ok tabBOk specA Try.func34 [deskT, .lst recordT, .int]) (by kernel_rfl) (SpecsOk.cons c_firstWhy (by kernel_rfl) (SpecsOk.nil _))) Try.func21 [replyT])
section
variable {L : progsT.D} {D : deskT.D} {H : Hd} {rs : Rec} {k : Int} {a : actT.D} {n : Nat} {x : deskT.D × Rec × Int}
theorem act_1 (h : a.1 = 1) : actF n D L a = stepF n D L a.2.1 := if_pos h
theorem act_2 (h : ¬ a.1 = 1) (h2 : a.1 = 2) : actF n D L a = evictF D L a.2.1 a.2.2 := by unfold actF; rw [if_neg h, if_pos h2]
theorem act_3 (h : ¬ a.1 = 1) (h2 : ¬ a.1 = 2) (h3 : a.1 = 3) : actF n D L a = kickF D L a.2.1 := by unfold actF; rw [if_neg h, if_neg h2, if_pos h3]
theorem act_4 (h : ¬ a.1 = 1) (h2 : ¬ a.1 = 2) (h3 : ¬ a.1 = 3) : actF n D L a = (D, [], 3) := by unfold actF; rw [if_neg h, if_neg h2, if_neg h3]
theorem act_small1 (hrs : rs.length ≤ 10000) (h : actF n D L a = x) : rs.length + x.2.1.length ≤ 140737488355328 ∧ (rs.length + x.2.1.length) * recordT.byt ≤ 140737488355328 := by
  have h1 := act_len (nn := n) (d := D) (l := L) (a := a)
  rw [h] at h1
  exact ⟨by omega, by show (rs.length + x.2.1.length) * 24 ≤ _; omega⟩
theorem rep_full (h : k = 400) : ((6, 0) : replyT.D) = repF n L D k a := (if_pos h).symm
theorem do_full (h : k = 400) : ((L, D, (H, rs), k) : benchT.D) = doB n H L D rs k a := by unfold doB doD doR doK; rw [if_pos h, if_pos h, if_pos h]
theorem rep_err (h : ¬ k = 400) (hx : actF n D L a = x) (he : ¬ x.2.2 = 0) : ((x.2.2, 0) : replyT.D) = repF n L D k a := by unfold repF; rw [if_neg h, hx, if_neg he]
theorem do_err (h : ¬ k = 400) (hx : actF n D L a = x) (he : ¬ x.2.2 = 0) : ((L, D, (H, rs), wrap64 (k + 1)) : benchT.D) = doB n H L D rs k a := by unfold doB doD doR doK; rw [if_neg h, if_neg h, if_neg h, hx, if_neg he, if_neg he]
theorem rep_ok (h : ¬ k = 400) (hx : actF n D L a = x) (he : x.2.2 = 0) : ((0, whyF x.2.1) : replyT.D) = repF n L D k a := by unfold repF; rw [if_neg h, hx, if_pos he]
theorem do_ok (h : ¬ k = 400) (hx : actF n D L a = x) (he : x.2.2 = 0) : ((L, x.1, (H, rs ++ x.2.1), wrap64 (k + 1)) : benchT.D) = doB n H L D rs k a := by unfold doB doD doR doK; rw [if_neg h, if_neg h, if_neg h, hx, if_pos he, if_pos he]
end
/-- Records, Desk, New: as they are walked. -/
abbrev rcsTr : MTr := Lax (Inl tabB [(30, cloneS recordT)] Try.f17 [.lst recordT])
theorem rcsOk : MOk Try.prog 17 rcsTr := lax_ok (inl_ok tabBOk (SpecsOk.cons c_cloneR (by kernel_rfl) (SpecsOk.nil _)) Try.func17 [.lst recordT])
abbrev deskTr : MTr := Lax (Inl tabB [(29, cloneS writeT)] Try.f14 [deskT])
theorem deskOk : MOk Try.prog 14 deskTr := lax_ok (inl_ok tabBOk (SpecsOk.cons c_cloneW (by kernel_rfl) (SpecsOk.nil _)) Try.func14 [deskT])
abbrev newTr : MTr := Lax (InlA tabB [(39, refPS), (40, cloneS instrT), (13, goodKS)] Try.f26)
theorem newOk : MOk Try.prog 26 newTr := lax_ok (inlA_ok tabBOk (SpecsOk.cons c_bRefused (by kernel_rfl) (SpecsOk.cons c_cloneI (by kernel_rfl) (SpecsOk.cons c_dGood (by kernel_rfl) (SpecsOk.nil _)))) Try.func26)
theorem ref_small {l : List instrT.D} (h : refP l = 0) : l.length ≤ 140737488355328 ∧ l.length * instrT.byt ≤ 140737488355328 := by
  unfold refP at h
  split at h
  · cases h
  · exact ⟨by omega, by show l.length * 40 ≤ _; omega⟩
/-- Why there is no bench. -/
def newE (l : progsT.D) (m : Nat → Int) : Int := if refP (l 0).2 = 0 then (if refP (l 1).2 = 0 then (if goodK (deskT.zero.1, m) = true then 0 else 1) else refP (l 1).2) else refP (l 0).2
section
variable {l : progsT.D} {m : Nat → Int}
theorem newE_0 (h : ¬ refP (l (Int.toNat 0)).2 = 0) : newE l m = refP (l (Int.toNat 0)).2 := if_neg h
theorem newE_1 (h : refP (l (Int.toNat 0)).2 = 0) (h1 : ¬ refP (l (wrap64 (0 + 1)).toNat).2 = 0) : newE l m = refP (l (wrap64 (0 + 1)).toNat).2 := by
  unfold newE
  rw [if_pos (show refP (l 0).2 = 0 from h)]
  exact if_neg h1
theorem newE_2 (h : refP (l (Int.toNat 0)).2 = 0) (h1 : refP (l (wrap64 (0 + 1)).toNat).2 = 0) (h2 : (!goodK (deskT.zero.1, m)) = true) : newE l m = 1 := by
  unfold newE
  rw [if_pos (show refP (l 0).2 = 0 from h), if_pos (show refP (l 1).2 = 0 from h1), if_neg (by rw [not_t' h2]; decide)]
theorem newE_3 (h : refP (l (Int.toNat 0)).2 = 0) (h1 : refP (l (wrap64 (0 + 1)).toNat).2 = 0) (h2 : (!goodK (deskT.zero.1, m)) = false) : newE l m = 0 := by
  unfold newE
  rw [if_pos (show refP (l 0).2 = 0 from h), if_pos (show refP (l 1).2 = 0 from h1), if_pos (not_f' h2)]
theorem newE_good (h : newE l m = 0) : goodK (deskT.zero.1, m) = true := by
  unfold newE at h
  split at h
  · split at h
    · split at h
      · assumption
      · cases h
    · exact absurd h (by assumption)
  · exact absurd h (by assumption)
def newL (n : Nat) (l : progsT.D) : progsT.D := updA (updA progsT.zero 0 (.nm n, (l 0).2)) 1 (.nm (n + 1), (l 1).2)
theorem new_progs {n : Nat} : ∀ k, k < 2 → (newL n l k).2 = (l k).2 := fun k hk => by
  have : k = 0 ∨ k = 1 := by omega
  rcases this with rfl | rfl <;> rfl
end
section
variable {D : deskT.D}
theorem ws_small0 (h : ∀ c, c < 2 → (D.1 c).2.2.2.2.1.2.length ≤ 4) : (D.1 (Int.toNat 0)).2.2.2.2.1.2.length ≤ 140737488355328 ∧ (D.1 (Int.toNat 0)).2.2.2.2.1.2.length * writeT.byt ≤ 140737488355328 := by
  have h0 := h 0 (by decide)
  exact ⟨Nat.le_trans h0 (by decide), Nat.le_trans (Nat.mul_le_mul_right 16 h0) (by decide)⟩
theorem ws_small1 {x : coreT.D} (h : ∀ c, c < 2 → (D.1 c).2.2.2.2.1.2.length ≤ 4) : (updA D.1 (Int.toNat 0) x (wrap64 (0 + 1)).toNat).2.2.2.2.1.2.length ≤ 140737488355328 ∧ (updA D.1 (Int.toNat 0) x (wrap64 (0 + 1)).toNat).2.2.2.2.1.2.length * writeT.byt ≤ 140737488355328 := by
  have h0 := h 1 (by decide)
  exact ⟨Nat.le_trans h0 (by decide), Nat.le_trans (Nat.mul_le_mul_right 16 h0) (by decide)⟩
def reH (h : Hd) (a : coreT.D) : coreT.D := (a.1, a.2.1, a.2.2.1, a.2.2.2.1, (h, a.2.2.2.2.1.2), a.2.2.2.2.2)
theorem nh_two (D : deskT.D) (n : Nat) : nhD (updA (updA D.1 (Int.toNat 0) (reH (.nm n) (D.1 (Int.toNat 0)))) (wrap64 (0 + 1)).toNat (reH (.nm (n + 1)) (updA D.1 (Int.toNat 0) (reH (.nm n) (D.1 (Int.toNat 0))) (wrap64 (0 + 1)).toNat)), D.2) = nhD D := by
  refine Prod.ext (funext fun k => ?_) rfl
  show nhC (if k = 1 then reH (.nm (n + 1)) (D.1 1) else if k = 0 then reH (.nm n) (D.1 0) else D.1 k) = nhC (D.1 k)
  by_cases h1 : k = 1
  · subst h1; rfl
  · rw [if_neg h1]
    by_cases h0 : k = 0
    · subst h0; rfl
    · rw [if_neg h0]
end
theorem do_end_0_0_0  {tk : List (Hd × Nat)} {L : progsT.D} {D : deskT.D} {rs : Rec} {k : Int} {a : actT.D} {n n' : Nat} {H' : Hd} {K : SV → List V → NS → Prop} (h : ∀ n' H' r D' R' k', n ≤ n' → DoOut n L D rs k a r D' R' k' → K (.a (.of (.leaf replyT r))) [.leaf benchT (L, D', (H', R'), k')] ⟨n', ((H', 3) :: tk)⟩)
    {r : replyT.D} {b : benchT.D} {v : V} {junk : List V} (hv : v.norm = .leaf benchT b) (hr : r = repF n L D k a) (hb : b = doB n H' L D rs k a) (hn : n ≤ n') : LaxE 1 K (.a (.of (.leaf replyT r))) (v :: junk) ⟨n', ((H', 3) :: tk)⟩ := by
  refine LaxE.mk' 1 n' _ (Nat.le_refl _) (by simp only [List.length_cons]; omega) rfl (Nat.le_refl _) (TkLe.refl _) ?_
  show K _ [v.norm] _
  rw [hv, hb]
  exact h n' H' r _ _ _ hn ⟨hr, rfl, rfl, rfl⟩
theorem do_at_0_0_0  {tk : List (Hd × Nat)} {L : progsT.D} {D : deskT.D} {H : Hd} {rs : Rec} {k : Int} {a : actT.D} {n : Nat} (hrs : rs.length ≤ 10000) {K : SV → List V → NS → Prop} (h : ∀ n' H' r D' R' k', n ≤ n' → DoOut n L D rs k a r D' R' k' → K (.a (.of (.leaf replyT r))) [.leaf benchT (L, D', (H', R'), k')] ⟨n', ((H', 3) :: tk)⟩) :
    doTr [.ptr 0 0 [] benchT, .of (.leaf actT a)] [.leaf benchT (L, D, (H, rs), k)] ⟨n, ((H, 3) :: tk)⟩ K := by
  refine ⟨[.ptr 0 0 [] benchT, .of (.leaf actT a)], [.leaf benchT (L, D, (H, rs), k)], rfl, rfl, ?_⟩
  repeat' (first | with_reducible refine seq_k fun K1 n1 => ?_ | with_reducible refine seq_nil ?_ | with_reducible refine drw_k fun K1 n1 => ?_ | with_reducible refine drw_nil ?_ ?_ | with_reducible refine bar_k fun K1 n1 => ?_ | with_reducible refine run_seq ?_ | with_reducible refine run_skip ?_ | with_reducible refine run_regS ?_ | with_reducible refine run_regD (by kernel_rfl) ?_ ?_ | with_reducible refine inl_k (by with_unfolding_all rfl) (Nat.le_of_ble_eq_true rfl) fun K1 n1 => ?_ | with_reducible refine inlA_k (by with_unfolding_all rfl) (Nat.le_of_ble_eq_true rfl) fun K1 n1 => ?_ | with_reducible refine run_finA ?_ | with_reducible refine run_cond ?_ | with_reducible refine run_block ?_ | with_reducible refine run_endb ?_ | with_reducible refine run_exit fun K1 n1 => ?_ | with_reducible refine run_ret fun K1 n1 => ?_ | with_reducible refine run_fin ?_ | with_reducible refine run_inv ?_ | with_reducible refine go_rounds ?_ | ((with_reducible refine Go.mk ?_); (conv => whnf)) | refine Fork.yes ?_ | refine Fork.no ?_ | refine Fork.dec (fun _ => ?_) (fun _ => ?_) | refine Fork.ndec (fun _ => ?_) (fun _ => ?_) | refine Fork.mk (fun _ => ?_) (fun _ => ?_) | refine Way.yesG ?_ | refine Way.noG ?_ | refine Way.decG (fun _ => ?_) (fun _ => ?_) | refine Way.ndecG (fun _ => ?_) (fun _ => ?_) | refine Way.mkG (fun _ => ?_) (fun _ => ?_) | with_reducible refine Need.mkG ?_ ?_ | refine AppW.go0 ?_ ?_ | refine AppW.go1 ?_ ?_ | with_reducible refine NilW.goG (fun _ => ?_) ?_ | ((with_reducible refine n1 _ _ _ ?_); clear n1 K1) | ((with_reducible refine n1 _ ?_); clear n1 K1) | ((with_reducible refine n1 _ _ ?_); clear n1 K1) | ((with_reducible refine n1 _ _ _ _ ?_); clear n1 K1) | fail)
  all_goals try (first | exact trivial | omega | kernel_rfl | decide | exact And.intro (by omega) (by omega))
  all_goals try dsimp only [Int.toNat_natCast] at *
  all_goals try (first | exact trivial | omega | exact And.intro (by omega) (by omega))
  · rename_i h1
    exact do_end_0_0_0 h rfl (rep_full h1) (do_full h1) (Nat.le_refl _)
  · rename_i h0 h1 h2
    exact do_end_0_0_0 h rfl (rep_err h0 (act_1 h1) h2) (do_err h0 (act_1 h1) h2) (by omega)
  · exact act_small1 hrs (act_1 (by assumption))
  · rename_i h0 h1 h2
    exact do_end_0_0_0 h rfl (rep_ok h0 (act_1 h1) h2) (do_ok h0 (act_1 h1) h2) (by omega)
  · rename_i h0 h1 h1' h2
    exact do_end_0_0_0 h rfl (rep_err h0 (act_2 h1 h1') h2) (do_err h0 (act_2 h1 h1') h2) (by omega)
  · exact act_small1 (n := n) hrs (act_2 (by assumption) (by assumption))
  · rename_i h0 h1 h1' h2
    exact do_end_0_0_0 h rfl (rep_ok h0 (act_2 h1 h1') h2) (do_ok h0 (act_2 h1 h1') h2) (by omega)
  · rename_i h0 h1 h1' h1'' h2
    exact do_end_0_0_0 h rfl (rep_err h0 (act_3 h1 h1' h1'') h2) (do_err h0 (act_3 h1 h1' h1'') h2) (by omega)
  · exact act_small1 (n := n) hrs (act_3 (by assumption) (by assumption) (by assumption))
  · rename_i h0 h1 h1' h1'' h2
    exact do_end_0_0_0 h rfl (rep_ok h0 (act_3 h1 h1' h1'') h2) (do_ok h0 (act_3 h1 h1' h1'') h2) (by omega)
  · rename_i h0 h1 h1' h1''
    exact do_end_0_0_0 h rfl (rep_err h0 (act_4 (n := n) (D := D) (L := L) h1 h1' h1'') (show ¬ (3 : Int) = 0 by decide)) (do_err h0 (act_4 h1 h1' h1'') (show ¬ (3 : Int) = 0 by decide)) (Nat.le_refl _)
theorem new_at_0  {tk : List (Hd × Nat)} {l : progsT.D} {m : Nat → Int} {n : Nat} {K : SV → List V → NS → Prop} (h1 : ∀ n', n ≤ n' → newE l m ≠ 0 → K (.tup [.raw (.pointer none), .of (.leaf .int (newE l m))]) [] ⟨n', tk⟩)
    (h2 : ∀ n' L', n ≤ n' → newE l m = 0 → L' = newL n l → K (.tup [.ptr 2 0 [] benchT, .of (.leaf .int 0)]) [.leaf progsT l, .leaf (.arr 32 .int) m, .leaf benchT (L', (deskT.zero.1, m), (nilH, []), 0)] ⟨n', (nilH, 3) :: tk⟩) : newTr [.of (.leaf progsT l), .of (.leaf (.arr 32 .int) m)] [] ⟨n, tk⟩ K := by
  refine ⟨[.of (.leaf progsT l), .of (.leaf (.arr 32 .int) m)], [], rfl, rfl, ?_⟩
  repeat' (first | with_reducible refine seq_k fun K1 n1 => ?_ | with_reducible refine seq_nil ?_ | with_reducible refine drw_k fun K1 n1 => ?_ | with_reducible refine drw_nil ?_ ?_ | with_reducible refine bar_k fun K1 n1 => ?_ | with_reducible refine run_seq ?_ | with_reducible refine run_skip ?_ | with_reducible refine run_regS ?_ | with_reducible refine run_regD (by kernel_rfl) ?_ ?_ | with_reducible refine inl_k (by with_unfolding_all rfl) (Nat.le_of_ble_eq_true rfl) fun K1 n1 => ?_ | with_reducible refine inlA_k (by with_unfolding_all rfl) (Nat.le_of_ble_eq_true rfl) fun K1 n1 => ?_ | with_reducible refine run_finA ?_ | with_reducible refine run_cond ?_ | with_reducible refine run_block ?_ | with_reducible refine run_endb ?_ | with_reducible refine run_exit fun K1 n1 => ?_ | with_reducible refine run_ret fun K1 n1 => ?_ | with_reducible refine run_fin ?_ | with_reducible refine run_inv ?_ | with_reducible refine go_rounds ?_ | ((with_reducible refine Go.mk ?_); (conv => whnf)) | refine Fork.yes ?_ | refine Fork.no ?_ | refine Fork.dec (fun _ => ?_) (fun _ => ?_) | refine Fork.ndec (fun _ => ?_) (fun _ => ?_) | refine Fork.mk (fun _ => ?_) (fun _ => ?_) | refine Way.yesG ?_ | refine Way.noG ?_ | refine Way.decG (fun _ => ?_) (fun _ => ?_) | refine Way.ndecG (fun _ => ?_) (fun _ => ?_) | refine Way.mkG (fun _ => ?_) (fun _ => ?_) | with_reducible refine Need.mkG ?_ ?_ | refine AppW.go0 ?_ ?_ | refine AppW.go1 ?_ ?_ | with_reducible refine NilW.goG (fun _ => ?_) ?_ | ((with_reducible refine n1 _ _ _ ?_); clear n1 K1) | ((with_reducible refine n1 _ ?_); clear n1 K1) | ((with_reducible refine n1 _ _ ?_); clear n1 K1) | ((with_reducible refine n1 _ _ _ _ ?_); clear n1 K1) | fail)
  all_goals try (first | exact trivial | omega | kernel_rfl | decide | exact And.intro (by omega) (by omega))
  all_goals try dsimp only [Int.toNat_natCast] at *
  all_goals try (first | exact trivial | omega | exact And.intro (by omega) (by omega))
  refine unroll 3 (rounds_succ ?_)
  repeat' (first | with_reducible refine seq_k fun K1 n1 => ?_ | with_reducible refine seq_nil ?_ | with_reducible refine drw_k fun K1 n1 => ?_ | with_reducible refine drw_nil ?_ ?_ | with_reducible refine bar_k fun K1 n1 => ?_ | with_reducible refine run_seq ?_ | with_reducible refine run_skip ?_ | with_reducible refine run_regS ?_ | with_reducible refine run_regD (by kernel_rfl) ?_ ?_ | with_reducible refine inl_k (by with_unfolding_all rfl) (Nat.le_of_ble_eq_true rfl) fun K1 n1 => ?_ | with_reducible refine inlA_k (by with_unfolding_all rfl) (Nat.le_of_ble_eq_true rfl) fun K1 n1 => ?_ | with_reducible refine run_finA ?_ | with_reducible refine run_cond ?_ | with_reducible refine run_block ?_ | with_reducible refine run_endb ?_ | with_reducible refine run_exit fun K1 n1 => ?_ | with_reducible refine run_ret fun K1 n1 => ?_ | with_reducible refine run_fin ?_ | with_reducible refine run_inv ?_ | with_reducible refine go_rounds ?_ | ((with_reducible refine Go.mk ?_); (conv => whnf)) | refine Fork.yes ?_ | refine Fork.no ?_ | refine Fork.dec (fun _ => ?_) (fun _ => ?_) | refine Fork.ndec (fun _ => ?_) (fun _ => ?_) | refine Fork.mk (fun _ => ?_) (fun _ => ?_) | refine Way.yesG ?_ | refine Way.noG ?_ | refine Way.decG (fun _ => ?_) (fun _ => ?_) | refine Way.ndecG (fun _ => ?_) (fun _ => ?_) | refine Way.mkG (fun _ => ?_) (fun _ => ?_) | with_reducible refine Need.mkG ?_ ?_ | refine AppW.go0 ?_ ?_ | refine AppW.go1 ?_ ?_ | with_reducible refine NilW.goG (fun _ => ?_) ?_ | ((with_reducible refine n1 _ _ _ ?_); clear n1 K1) | ((with_reducible refine n1 _ ?_); clear n1 K1) | ((with_reducible refine n1 _ _ ?_); clear n1 K1) | ((with_reducible refine n1 _ _ _ _ ?_); clear n1 K1) | fail)
  all_goals try (first | exact trivial | omega | kernel_rfl | decide | exact And.intro (by omega) (by omega))
  all_goals try dsimp only [Int.toNat_natCast] at *
  all_goals try (first | exact trivial | omega | exact And.intro (by omega) (by omega))
  · rename_i g0
    have e := newE_0 (m := m) g0
    refine LaxE.mk' 0 n tk (Nat.le_refl _) (by simp only [List.length_cons]; omega) rfl (Nat.le_refl _) (TkLe.refl _) ?_
    have := h1 n (Nat.le_refl _) (by rw [e]; exact g0)
    rw [e] at this
    exact this
  · exact ref_small (by assumption)
  · rename_i g0 g1
    have e := newE_1 (m := m) g0 g1
    refine LaxE.mk' 0 (n + 1) tk (Nat.le_refl _) (by simp only [List.length_cons]; omega) rfl (Nat.le_refl _) (TkLe.refl _) ?_
    have := h1 (n + 1) (by omega) (by rw [e]; exact g1)
    rw [e] at this
    exact this
  · exact ref_small (by assumption)
  · rename_i g0 g1 g2
    have e := newE_2 g0 g1 g2
    refine LaxE.mk' 0 (n + 1 + 1) tk (Nat.le_refl _) (by simp only [List.length_cons]; omega) rfl (Nat.le_refl _) (TkLe.refl _) ?_
    have := h1 (n + 1 + 1) (by omega) (by rw [e]; decide)
    rw [e] at this
    exact this
  · rename_i g0 g1 g2
    have e := newE_3 g0 g1 g2
    exact LaxE.mk' 3 (n + 1 + 1) ((nilH, 3) :: tk) (by simp only [List.length_cons, List.length_nil]; omega) (by simp only [List.length_cons, List.length_nil]; omega) rfl (Nat.le_refl _) (TkLe.new 3 tk) (h2 (n + 1 + 1) _ (by omega) e rfl)
theorem rec_at_0_0  {tk : List (Hd × Nat)} {L : progsT.D} {D : deskT.D} {H : Hd} {rs : Rec} {k : Int} {n : Nat} {K : SV → List V → NS → Prop} (hrs : rs.length ≤ 10000) (h : ∀ n' R, n ≤ n' → K (.a (.of (.leaf (.lst recordT) (R, rs)))) [.leaf benchT (L, D, (H, rs), k)] ⟨n', tk⟩) : rcsTr [.ptr 0 0 [] benchT] [.leaf benchT (L, D, (H, rs), k)] ⟨n, tk⟩ K := by
  refine ⟨[.ptr 0 0 [] benchT], [.leaf benchT (L, D, (H, rs), k)], rfl, rfl, ?_⟩
  repeat' (first | with_reducible refine seq_k fun K1 n1 => ?_ | with_reducible refine seq_nil ?_ | with_reducible refine drw_k fun K1 n1 => ?_ | with_reducible refine drw_nil ?_ ?_ | with_reducible refine bar_k fun K1 n1 => ?_ | with_reducible refine run_seq ?_ | with_reducible refine run_skip ?_ | with_reducible refine run_regS ?_ | with_reducible refine run_regD (by kernel_rfl) ?_ ?_ | with_reducible refine inl_k (by with_unfolding_all rfl) (Nat.le_of_ble_eq_true rfl) fun K1 n1 => ?_ | with_reducible refine inlA_k (by with_unfolding_all rfl) (Nat.le_of_ble_eq_true rfl) fun K1 n1 => ?_ | with_reducible refine run_finA ?_ | with_reducible refine run_cond ?_ | with_reducible refine run_block ?_ | with_reducible refine run_endb ?_ | with_reducible refine run_exit fun K1 n1 => ?_ | with_reducible refine run_ret fun K1 n1 => ?_ | with_reducible refine run_fin ?_ | with_reducible refine run_inv ?_ | with_reducible refine go_rounds ?_ | ((with_reducible refine Go.mk ?_); (conv => whnf)) | refine Fork.yes ?_ | refine Fork.no ?_ | refine Fork.dec (fun _ => ?_) (fun _ => ?_) | refine Fork.ndec (fun _ => ?_) (fun _ => ?_) | refine Fork.mk (fun _ => ?_) (fun _ => ?_) | refine Way.yesG ?_ | refine Way.noG ?_ | refine Way.decG (fun _ => ?_) (fun _ => ?_) | refine Way.ndecG (fun _ => ?_) (fun _ => ?_) | refine Way.mkG (fun _ => ?_) (fun _ => ?_) | with_reducible refine Need.mkG ?_ ?_ | refine AppW.go0 ?_ ?_ | refine AppW.go1 ?_ ?_ | with_reducible refine NilW.goG (fun _ => ?_) ?_ | ((with_reducible refine n1 _ _ _ ?_); clear n1 K1) | ((with_reducible refine n1 _ ?_); clear n1 K1) | ((with_reducible refine n1 _ _ ?_); clear n1 K1) | ((with_reducible refine n1 _ _ _ _ ?_); clear n1 K1) | fail)
  all_goals try (first | exact trivial | omega | kernel_rfl | decide | exact And.intro (by omega) (by omega))
  all_goals try dsimp only [Int.toNat_natCast] at *
  all_goals try (first | exact trivial | omega | exact And.intro (by omega) (by omega))
  · exact ⟨by show rs.length ≤ _; omega, by show rs.length * 24 ≤ _; omega⟩
  · exact LaxE.mk' 1 (n + 1) tk (Nat.le_refl _) (by simp only [List.length_cons, List.length_nil]; omega) rfl (Nat.le_refl _) (TkLe.refl _) (h (n + 1) _ (by omega))
theorem desk_at_0_0  {tk : List (Hd × Nat)} {L : progsT.D} {D : deskT.D} {H : Hd} {rs : Rec} {k : Int} {n : Nat} {K : SV → List V → NS → Prop} (hws : ∀ c, c < 2 → (D.1 c).2.2.2.2.1.2.length ≤ 4) (h : ∀ n' D', n ≤ n' → nhD D' = nhD D → K (.a (.of (.leaf deskT D'))) [.leaf benchT (L, D, (H, rs), k)] ⟨n', tk⟩) : deskTr [.ptr 0 0 [] benchT] [.leaf benchT (L, D, (H, rs), k)] ⟨n, tk⟩ K := by
  refine ⟨[.ptr 0 0 [] benchT], [.leaf benchT (L, D, (H, rs), k)], rfl, rfl, ?_⟩
  repeat' (first | with_reducible refine seq_k fun K1 n1 => ?_ | with_reducible refine seq_nil ?_ | with_reducible refine drw_k fun K1 n1 => ?_ | with_reducible refine drw_nil ?_ ?_ | with_reducible refine bar_k fun K1 n1 => ?_ | with_reducible refine run_seq ?_ | with_reducible refine run_skip ?_ | with_reducible refine run_regS ?_ | with_reducible refine run_regD (by kernel_rfl) ?_ ?_ | with_reducible refine inl_k (by with_unfolding_all rfl) (Nat.le_of_ble_eq_true rfl) fun K1 n1 => ?_ | with_reducible refine inlA_k (by with_unfolding_all rfl) (Nat.le_of_ble_eq_true rfl) fun K1 n1 => ?_ | with_reducible refine run_finA ?_ | with_reducible refine run_cond ?_ | with_reducible refine run_block ?_ | with_reducible refine run_endb ?_ | with_reducible refine run_exit fun K1 n1 => ?_ | with_reducible refine run_ret fun K1 n1 => ?_ | with_reducible refine run_fin ?_ | with_reducible refine run_inv ?_ | with_reducible refine go_rounds ?_ | ((with_reducible refine Go.mk ?_); (conv => whnf)) | refine Fork.yes ?_ | refine Fork.no ?_ | refine Fork.dec (fun _ => ?_) (fun _ => ?_) | refine Fork.ndec (fun _ => ?_) (fun _ => ?_) | refine Fork.mk (fun _ => ?_) (fun _ => ?_) | refine Way.yesG ?_ | refine Way.noG ?_ | refine Way.decG (fun _ => ?_) (fun _ => ?_) | refine Way.ndecG (fun _ => ?_) (fun _ => ?_) | refine Way.mkG (fun _ => ?_) (fun _ => ?_) | with_reducible refine Need.mkG ?_ ?_ | refine AppW.go0 ?_ ?_ | refine AppW.go1 ?_ ?_ | with_reducible refine NilW.goG (fun _ => ?_) ?_ | ((with_reducible refine n1 _ _ _ ?_); clear n1 K1) | ((with_reducible refine n1 _ ?_); clear n1 K1) | ((with_reducible refine n1 _ _ ?_); clear n1 K1) | ((with_reducible refine n1 _ _ _ _ ?_); clear n1 K1) | fail)
  all_goals try (first | exact trivial | omega | kernel_rfl | decide | exact And.intro (by omega) (by omega))
  all_goals try dsimp only [Int.toNat_natCast] at *
  all_goals try (first | exact trivial | omega | exact And.intro (by omega) (by omega))
  refine unroll 3 (rounds_succ ?_)
  repeat' (first | with_reducible refine seq_k fun K1 n1 => ?_ | with_reducible refine seq_nil ?_ | with_reducible refine drw_k fun K1 n1 => ?_ | with_reducible refine drw_nil ?_ ?_ | with_reducible refine bar_k fun K1 n1 => ?_ | with_reducible refine run_seq ?_ | with_reducible refine run_skip ?_ | with_reducible refine run_regS ?_ | with_reducible refine run_regD (by kernel_rfl) ?_ ?_ | with_reducible refine inl_k (by with_unfolding_all rfl) (Nat.le_of_ble_eq_true rfl) fun K1 n1 => ?_ | with_reducible refine inlA_k (by with_unfolding_all rfl) (Nat.le_of_ble_eq_true rfl) fun K1 n1 => ?_ | with_reducible refine run_finA ?_ | with_reducible refine run_cond ?_ | with_reducible refine run_block ?_ | with_reducible refine run_endb ?_ | with_reducible refine run_exit fun K1 n1 => ?_ | with_reducible refine run_ret fun K1 n1 => ?_ | with_reducible refine run_fin ?_ | with_reducible refine run_inv ?_ | with_reducible refine go_rounds ?_ | ((with_reducible refine Go.mk ?_); (conv => whnf)) | refine Fork.yes ?_ | refine Fork.no ?_ | refine Fork.dec (fun _ => ?_) (fun _ => ?_) | refine Fork.ndec (fun _ => ?_) (fun _ => ?_) | refine Fork.mk (fun _ => ?_) (fun _ => ?_) | refine Way.yesG ?_ | refine Way.noG ?_ | refine Way.decG (fun _ => ?_) (fun _ => ?_) | refine Way.ndecG (fun _ => ?_) (fun _ => ?_) | refine Way.mkG (fun _ => ?_) (fun _ => ?_) | with_reducible refine Need.mkG ?_ ?_ | refine AppW.go0 ?_ ?_ | refine AppW.go1 ?_ ?_ | with_reducible refine NilW.goG (fun _ => ?_) ?_ | ((with_reducible refine n1 _ _ _ ?_); clear n1 K1) | ((with_reducible refine n1 _ ?_); clear n1 K1) | ((with_reducible refine n1 _ _ ?_); clear n1 K1) | ((with_reducible refine n1 _ _ _ _ ?_); clear n1 K1) | fail)
  all_goals try (first | exact trivial | omega | kernel_rfl | decide | exact And.intro (by omega) (by omega))
  all_goals try dsimp only [Int.toNat_natCast] at *
  all_goals try (first | exact trivial | omega | exact And.intro (by omega) (by omega))
  · exact ws_small0 hws
  · exact ws_small1 hws
  · exact LaxE.mk' 1 (n + 1 + 1) tk (Nat.le_refl _) (by simp only [List.length_cons, List.length_nil]; omega) rfl (Nat.le_refl _) (TkLe.refl _) (h (n + 1 + 1) _ (by omega) (nh_two D n))
end Go.Proofs.Ytjbbgpacijageac.M
