/- Several texts in one. -/
import Derived.Test.YtjbbgpacijageacGreatR5
import Derived.Test.YtjbbgpacijageacGreatUJ
import Derived.Test.YtjbbgpacijageacGreatY1p
import Derived.Test.YtjbbgpacijageacGreatSO8
import Derived.Test.YtjbbgpacijageacGreatR17
/- The document's own bench: why there is none; what comes of an act. -/
namespace Go.Proofs.YtjbbgpacijageacGreat.M
open Go.RowKit
set_option linter.unusedVariables false
set_option linter.unusedSimpArgs false

theorem zero_ok (m : Nat → Int) : goodK (deskT.zero.1, m) = (ownL .int m 0 32).all isW := by
  have h1 : goodC (deskT.zero.1 0) = true := by kernel_rfl
  have h2 : goodC (deskT.zero.1 1) = true := by kernel_rfl
  have h3 : ((List.range 2).all fun c => (List.range 4).all fun w => okAt (deskT.zero.1, m) c w) = true := by kernel_rfl
  show (goodC (deskT.zero.1 0) && (goodC (deskT.zero.1 1) && ((ownL .int m 0 32).all isW && ((List.range 2).all fun c => (List.range 4).all fun w => okAt (deskT.zero.1, m) c w)))) = _
  rw [h1, h2, h3, Bool.true_and, Bool.true_and, Bool.and_true]
theorem refP_len {xs : List instrT.D} (h : 40 < (xs.length : Int)) : refP xs = 6 := if_pos h
theorem refP_no {xs : List instrT.D} {k : Nat} (h : ¬ 40 < (xs.length : Int)) (hk : k < xs.length) (hn : goodI (nthD instrT xs k) = false) : refP xs = 1 := by
  unfold refP
  rw [if_neg h, if_neg (by rw [all_no hk hn]; decide)]
theorem refP_yes {xs : List instrT.D} (h : ¬ 40 < (xs.length : Int)) (hn : ∀ j, j < xs.length → goodI (nthD instrT xs j) = true) : refP xs = 0 := by
  unfold refP
  rw [if_neg h, if_pos (all_yes hn)]
abbrev newES : Spec := pureS [progsT, .arr 32 .int] [.int] fun d => (newE d.1 d.2.1, ())
structure RDo (L : progsT.D) (D : deskT.D) (rs : Rec) (k : Int) (a : actT.D) (r : replyT.D) (D' : deskT.D) (R' : Rec) (k' : Int) : Prop where
  r : r = repF 0 L D k a
  d : nhD D' = nhD (doD 0 L D k a)
  rs : R' = doR 0 L D rs k a
  k : k' = doK k
section
variable {L : progsT.D} {D : deskT.D} {rs : Rec} {k : Int} {a : actT.D} {x : deskT.D × Rec × Int}
theorem rdo_full (h : k = 400) : RDo L D rs k a (6, 0) D rs k := ⟨(if_pos h).symm, by unfold doD; rw [if_pos h], by unfold doR; rw [if_pos h], by unfold doK; rw [if_pos h]⟩
theorem rdo_err (h : ¬ k = 400) (hx : actF 0 D L a = x) (he : ¬ x.2.2 = 0) : RDo L D rs k a (x.2.2, 0) D rs (wrap64 (k + 1)) := by
  refine ⟨?_, ?_, ?_, ?_⟩
  · unfold repF; rw [if_neg h, hx, if_neg he]
  · unfold doD; rw [if_neg h, hx, if_neg he]
  · unfold doR; rw [if_neg h, hx, if_neg he]
  · unfold doK; rw [if_neg h]
theorem rdo_ok (h : ¬ k = 400) (hx : actF 0 D L a = x) (he : x.2.2 = 0) {X : deskT.D} (hX : nhD X = nhD x.1) {w : Int} (hw : w = whyF x.2.1) : RDo L D rs k a (0, w) X (rs ++ x.2.1) (wrap64 (k + 1)) := by
  refine ⟨?_, ?_, ?_, ?_⟩
  · unfold repF; rw [if_neg h, hx, if_pos he, hw]
  · unfold doD; rw [if_neg h, hx, if_pos he]; exact hX
  · unfold doR; rw [if_neg h, hx, if_pos he]
  · unfold doK; rw [if_neg h]
theorem Is.nextR {M : progsT.D} {s : StT} {r : replyT.D} {D' : deskT.D} {R' : Rec} {k' : Int} (h : Is M s L D rs k) (o : RDo L D rs k a r D' R' k') : Is M (stp M s a) L D' R' k' ∧ r = repF 0 M s.1 s.2.2 a := by
  obtain ⟨e1, e2, e3⟩ := h.eqs 0 a
  exact ⟨⟨h.l, o.d.trans e1, o.rs.trans e2, by rw [o.k, h.k]; rfl⟩, o.r.trans e3⟩
end
theorem in_step (nn : Nat) (d : deskT.D) (l : progsT.D) (c : Int) : stepF nn d (nhP l) c = stepF nn d (nL l) c := by
  by_cases h : refF d c = 0
  · obtain ⟨_, h0, h1⟩ := ref_ok h
    have : c = 0 ∨ c = 1 := by omega
    unfold stepF
    rcases this with rfl | rfl
    · have e : stepsF nn d (nhP l) 0 = stepsF nn d (nL l) 0 := by kernel_rfl
      rw [e]
    · have e : stepsF nn d (nhP l) 1 = stepsF nn d (nL l) 1 := by kernel_rfl
      rw [e]
  · unfold stepF
    rw [if_neg h, if_neg h]
theorem in_fail (d : deskT.D) (l : progsT.D) (c w : Int) (h : refF d c = 0) : failD d (nhP l) c w = failD d (nL l) c w := by
  obtain ⟨_, h0, h1⟩ := ref_ok h
  have : c = 0 ∨ c = 1 := by omega
  rcases this with rfl | rfl <;> rfl
theorem in_act (nn : Nat) (d : deskT.D) (l : progsT.D) (a : actT.D) : actF nn d (nhP l) a = actF nn d (nL l) a := by
  unfold actF
  rw [in_step]
  have e2 : evictF d (nhP l) a.2.1 a.2.2 = evictF d (nL l) a.2.1 a.2.2 := by
    unfold evictF
    by_cases h : refF d a.2.1 = 0
    · rw [in_fail d l _ _ h]
    · rw [if_neg h, if_neg h]
  have e3 : kickF d (nhP l) a.2.1 = kickF d (nL l) a.2.1 := by
    unfold kickF
    by_cases h : refF d a.2.1 = 0
    · rw [in_fail d l _ _ h]
    · rw [if_neg h, if_neg h]
  rw [e2, e3]
theorem in_stp (l : progsT.D) (s : StT) (a : actT.D) : stp (nhP l) s a = stp (nL l) s a := by
  unfold stp doD doR
  rw [in_act]
theorem in_rep (l : progsT.D) (d : deskT.D) (k : Int) (a : actT.D) : repF 0 (nhP l) d k a = repF 0 (nL l) d k a := by
  unfold repF
  rw [in_act]
structure RIs (l : progsT.D) (s : StT) (D : deskT.D) (rs : Rec) (k : Int) : Prop where
  i : Is (nhP l) s l D rs k
theorem RIs.init (l : progsT.D) (m : Nat → Int) (acts : List actT.D) : RIs l (pl (nL l) m acts 0) (deskT.zero.1, m) [] 0 := ⟨⟨rfl, rfl, rfl, rfl⟩⟩
theorem RIs.next {l : progsT.D} {s : StT} {D D' : deskT.D} {rs R' : Rec} {k k' : Int} {a : actT.D} {r : replyT.D} (h : RIs l s D rs k) (o : RDo l D rs k a r D' R' k') : RIs l (stp (nL l) s a) D' R' k' ∧ r = repF 0 (nL l) s.1 s.2.2 a := by
  obtain ⟨h1, h2⟩ := h.i.nextR o
  rw [in_stp] at h1
  rw [in_rep] at h2
  exact ⟨⟨h1⟩, h2⟩
set_option maxHeartbeats 1600000 in
theorem c_NewBench : Ctr Tryz.prog 17 newES := by
  refine ctr_of tabOk (SpecsOk.cons c_IsInstr (by kernel_rfl) (SpecsOk.cons c_goodMemory (by kernel_rfl) (SpecsOk.nil _))) Tryz.func17 rfl _ (Nat.le_of_ble_eq_true rfl) (fun _ _ => rfl) ?_
  rintro nn ⟨l, m, ⟨⟩⟩ _ hb
  refine ⟨200, init_k fun K1 n1 => ?_⟩
  conv => whnf
  refine n1 _ ?_
  clear n1 K1
  repeat' (first | (with_reducible first | refine seq_k fun K1 n1 => ?_ | refine seq_nil ?_ | refine run_seq ?_ | refine run_regS ?_ | refine run_block ?_) | ((with_reducible refine Go.mk ?_); (conv => whnf)) | ((with_reducible refine n1 _ _ _ ?_); clear n1 K1) | fail)
  all_goals try dsimp only [Int.toNat_natCast] at *
  refine unroll 3 (rounds_succ ?_)
  repeat' (first | (with_reducible first | refine seq_k fun K1 n1 => ?_ | refine seq_nil ?_ | refine run_seq ?_ | refine run_skip ?_ | refine run_regS ?_ | refine run_cond ?_ | refine run_block ?_ | refine run_ret fun K1 n1 => ?_ | refine run_fin ?_) | ((with_reducible refine Go.mk ?_); (conv => whnf)) | refine Fork.yes ?_ | refine Fork.dec (fun _ => ?_) (fun _ => ?_) | (with_reducible first | refine Need.mkG ?_ ?_) | ((with_reducible refine n1 _ _ _ ?_); clear n1 K1) | ((with_reducible refine n1 _ ?_); clear n1 K1) | fail)
  all_goals try (decide)
  · rename_i h
    refine Done.of ?_ (Or.inl rfl)
    show (_, ()) = (newE l m, ())
    rw [newE_0 (m := m) (by rw [refP_len h]; decide), refP_len h]
  · rename_i h0
    have hl0 : (l (Int.toNat 0)).2.length ≤ 40 := by omega
    refine run_loop (loop_fam (ι := Nat) (fun k => [(18, .a (.of (.leaf .int (k : Int)))), (17, .a (.of (.leaf .int ((l (Int.toNat 0)).2.length : Int)))), (16, .a (.of (.leaf (.lst instrT) (l (Int.toNat 0))))), (10, .a (.of (.leaf .int 0))), (9, .a (.of (.leaf progsT l))), (3, .a (.ptr 1 0 [] (.arr 32 .int)))])
      (fun _ => [.leaf progsT l, .leaf (.arr 32 .int) m]) (fun _ => ⟨nn, []⟩) (fun k => (l (Int.toNat 0)).2.length - k) (fun k => k ≤ (l (Int.toNat 0)).2.length ∧ ∀ j, j < k → goodI (nthD instrT (l (Int.toNat 0)).2 j) = true) ?_ ?_)
    · exact ⟨0, ⟨Nat.zero_le _, fun j hj => by omega⟩, ⟨rfl, rfl, rfl, rfl, rfl, rfl, trivial⟩, rfl, 2, Nat.le_refl _, rfl, rfl⟩
    · rintro k ⟨hk, hno⟩
      have hk : k ≤ (l (Int.toNat 0)).2.length := hk
      repeat' (first | (with_reducible first | refine seq_k fun K1 n1 => ?_ | refine seq_nil ?_ | refine run_seq ?_ | refine run_skip ?_ | refine run_regS ?_ | refine run_cond ?_ | refine run_block ?_ | refine run_endb ?_ | refine run_exit fun K1 n1 => ?_ | refine run_ret fun K1 n1 => ?_ | refine run_fin ?_ | refine run_inv ?_ | refine go_rounds ?_) | ((with_reducible refine Go.mk ?_); (conv => whnf)) | refine Fork.yes ?_ | refine Fork.dec (fun _ => ?_) (fun _ => ?_) | refine Fork.mk (fun _ => ?_) (fun _ => ?_) | (with_reducible first | refine Need.mkG ?_ ?_) | ((with_reducible refine n1 _ _ _ ?_); clear n1 K1) | ((with_reducible refine n1 _ ?_); clear n1 K1) | fail)
      all_goals try (first | exact trivial | decide | exact And.intro (by omega) (by omega))
      all_goals try dsimp only [Int.toNat_natCast] at *
      · rename_i g1 g2
        refine Done.of ?_ (Or.inl rfl)
        show (_, ()) = (newE l m, ())
        have e := refP_no (k := k) h0 (by omega) (not_t' g2)
        rw [newE_0 (m := m) (by rw [e]; decide), e]
      · rename_i g1 g2
        refine ⟨k + 1, (show (l (Int.toNat 0)).2.length - (k + 1) < (l (Int.toNat 0)).2.length - k by omega), ⟨(show k + 1 ≤ (l (Int.toNat 0)).2.length by omega), fun j hj => ?_⟩, ⟨?_, rfl, rfl, rfl, rfl, rfl, trivial⟩, rfl, 2, Nat.le_of_ble_eq_true rfl, rfl, rfl⟩
        · by_cases hjk : j = k
          · subst hjk; exact not_f' g2
          · exact hno j (by omega)
        · rw [← wrap_succ k (by omega)]
          rfl
      all_goals have e0 : refP (l (Int.toNat 0)).2 = 0 := refP_yes h0 fun j hj => hno j (by omega)
      all_goals clear hno
      · rename_i h
        refine Done.of ?_ (Or.inl rfl)
        show (_, ()) = (newE l m, ())
        rw [newE_1 (m := m) e0 (by rw [refP_len h]; decide), refP_len h]
      · rename_i h1
        have hl1 : (l (wrap64 (0 + 1)).toNat).2.length ≤ 40 := by omega
        refine run_loop (loop_fam (ι := Nat) (fun k => [(18, .a (.of (.leaf .int (k : Int)))), (17, .a (.of (.leaf .int ((l (wrap64 (0 + 1)).toNat).2.length : Int)))), (16, .a (.of (.leaf (.lst instrT) (l (wrap64 (0 + 1)).toNat)))), (10, .a (.of (.leaf .int (wrap64 (0 + 1))))), (9, .a (.of (.leaf progsT l))), (3, .a (.ptr 1 0 [] (.arr 32 .int)))])
          (fun _ => [.leaf progsT l, .leaf (.arr 32 .int) m]) (fun _ => ⟨nn, []⟩) (fun k => (l (wrap64 (0 + 1)).toNat).2.length - k) (fun k => k ≤ (l (wrap64 (0 + 1)).toNat).2.length ∧ ∀ j, j < k → goodI (nthD instrT (l (wrap64 (0 + 1)).toNat).2 j) = true) ?_ ?_)
        · exact ⟨0, ⟨Nat.zero_le _, fun j hj => by omega⟩, ⟨rfl, rfl, rfl, rfl, rfl, rfl, trivial⟩, rfl, 2, Nat.le_refl _, rfl, rfl⟩
        · rintro k ⟨hk, hno⟩
          have hk : k ≤ (l (wrap64 (0 + 1)).toNat).2.length := hk
          repeat' (first | (with_reducible first | refine seq_k fun K1 n1 => ?_ | refine seq_nil ?_ | refine run_seq ?_ | refine run_skip ?_ | refine run_regS ?_ | refine run_cond ?_ | refine run_block ?_ | refine run_endb ?_ | refine run_exit fun K1 n1 => ?_ | refine run_ret fun K1 n1 => ?_ | refine run_fin ?_ | refine run_inv ?_ | refine go_rounds ?_) | ((with_reducible refine Go.mk ?_); (conv => whnf)) | refine Fork.no ?_ | refine Fork.dec (fun _ => ?_) (fun _ => ?_) | refine Fork.mk (fun _ => ?_) (fun _ => ?_) | (with_reducible first | refine Need.mkG ?_ ?_) | ((with_reducible refine n1 _ _ _ ?_); clear n1 K1) | ((with_reducible refine n1 _ ?_); clear n1 K1) | fail)
          all_goals try (first | exact trivial | exact And.intro (by omega) (by omega))
          all_goals try dsimp only [Int.toNat_natCast] at *
          · rename_i g1 g2
            refine Done.of ?_ (Or.inl rfl)
            show (_, ()) = (newE l m, ())
            have e := refP_no (k := k) h1 (by omega) (not_t' g2)
            rw [newE_1 (m := m) e0 (by rw [e]; decide), e]
          · rename_i g1 g2
            refine ⟨k + 1, (show (l (wrap64 (0 + 1)).toNat).2.length - (k + 1) < (l (wrap64 (0 + 1)).toNat).2.length - k by omega), ⟨(show k + 1 ≤ (l (wrap64 (0 + 1)).toNat).2.length by omega), fun j hj => ?_⟩, ⟨?_, rfl, rfl, rfl, rfl, rfl, trivial⟩, rfl, 2, Nat.le_of_ble_eq_true rfl, rfl, rfl⟩
            · by_cases hjk : j = k
              · subst hjk; exact not_f' g2
              · exact hno j (by omega)
            · rw [← wrap_succ k (by omega)]
              rfl
          all_goals have e1 : refP (l (wrap64 (0 + 1)).toNat).2 = 0 := refP_yes h1 fun j hj => hno j (by omega)
          · rename_i g
            refine Done.of ?_ (Or.inl rfl)
            show (_, ()) = (newE l m, ())
            rw [newE_2 e0 e1 (by rw [zero_ok]; exact g)]
          · rename_i g
            refine Done.of ?_ (Or.inl rfl)
            show (_, ()) = (newE l m, ())
            rw [newE_3 e0 e1 (by rw [zero_ok]; exact g)]
end Go.Proofs.YtjbbgpacijageacGreat.M

/- The document's own bench: what comes of an act, as it is walked. -/
namespace Go.Proofs.YtjbbgpacijageacGreat.M
open Go.RowKit
set_option linter.unusedVariables false
set_option linter.unusedSimpArgs false

abbrev rdoTr : MTr := Lax (Inl tabB [(43, stepOS), (44, evictS), (45, kickS)] Tryz.f19 [replyT])
theorem rdoOk : MOk Tryz.prog 19 rdoTr := lax_ok (inl_ok tabBOk (SpecsOk.cons c_StepOf (by kernel_rfl) (SpecsOk.cons (c_EvictOf c_IsDesk (c_AbortOf c_IsDesk)) (by kernel_rfl) (SpecsOk.cons (c_KickOf c_IsDesk (c_AbortOf c_IsDesk)) (by kernel_rfl) (SpecsOk.nil _)))) Tryz.func19 [replyT])
end Go.Proofs.YtjbbgpacijageacGreat.M
