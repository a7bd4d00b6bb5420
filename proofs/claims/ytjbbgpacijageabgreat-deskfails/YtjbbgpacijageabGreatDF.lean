/- The law DeskFails. -/
import Derived.Test.YtjbbgpacijageabGreatR11
import Derived.Test.YtjbbgpacijageabGreatR15
import Derived.Test.YtjbbgpacijageabGreatR16
import Derived.Test.YtjbbgpacijageabGreatR17
import Derived.Test.YtjbbgpacijageabGreatSDr
import Derived.Test.YtjbbgpacijageabGreatJ1l
import Derived.Test.YtjbbgpacijageabGreatPg
import Derived.Test.YtjbbgpacijageabGreatX1
namespace Go.Proofs.YtjbbgpacijageabGreat.M
open Go.RowKit
set_option linter.unusedVariables false
set_option linter.unusedSimpArgs false

theorem nh_copy (nn : Nat) (d : deskT.D) : nhD (copyF nn d) = nhD d := by
  refine Prod.ext (funext fun k => ?_) rfl
  show nhC (updA (updA d.1 0 _) 1 _ k) = nhC (d.1 k)
  unfold updA
  by_cases h1 : k = 1
  · rw [if_pos h1, h1]
    rfl
  · rw [if_neg h1]
    by_cases h0 : k = 0
    · rw [if_pos h0, h0]
      rfl
    · rw [if_neg h0]
theorem nh_prog (nn : Nat) (l : progsT.D) : nhP (progF nn l) = nhP l := by
  funext k
  show (nilH, (progF nn l k).2) = (nilH, (l k).2)
  rw [prog_at]
structure AlA (x y : deskT.D × Int) : Prop where
  d : nhD x.1 = nhD y.1
  e : x.2 = y.2
theorem nh_abort (d : deskT.D) (l : List instrT.D) (c why : Int) : AlA (abortF d l c why) (abortF (nhD d) l c why) := by
  unfold abortF
  rw [nh_ref]
  split
  · by_cases h : (d.1 c.toNat).2.2.1 = 0
    · rw [if_pos h, if_pos (show ((nhD d).1 c.toNat).2.2.1 = 0 from h)]
      exact ⟨rfl, rfl⟩
    · rw [if_neg h, if_neg (show ¬ ((nhD d).1 c.toNat).2.2.1 = 0 from h)]
      exact ⟨al_set (nh_refl d) _ rfl, rfl⟩
  · exact ⟨rfl, rfl⟩
abbrev abFn := deskT.D → List instrT.D → Int → Int → deskT.D × Int
abbrev abS (A : abFn) : Spec := pureS [deskT, .lst instrT, .int, .int] [deskT, .int] fun d => ((A d.1 d.2.1.2 d.2.2.1 d.2.2.2.1).1, (A d.1 d.2.1.2 d.2.2.1 d.2.2.2.1).2, ())
abbrev evFn := deskT.D → progsT.D → Int → Int → deskT.D × Rec × Int
abbrev evS' (E : evFn) : Spec := actS [.int, .int] fun _ d l a => E d l a.1 a.2.1
abbrev kiFn := deskT.D → progsT.D → Int → deskT.D × Rec × Int
abbrev kiS (E : kiFn) : Spec := actS [.int] fun _ d l a => E d l a.1
abbrev gdS (G : deskT.D → Bool) : Spec := pureS [deskT] [.bool] fun d => (G d.1, ())
abbrev hoS (G : deskT.D → Int → Int → Bool) : Spec := pureS [deskT, .int, .int] [.bool] fun d => (G d.1 d.2.1 d.2.2.1, ())
/-- What is known of functions that do not look at names. -/
structure Fs (A : abFn) (E : evFn) (K : kiFn) (G : deskT.D → Bool) (O : deskT.D → Int → Int → Bool) : Prop where
  a : ∀ nn d l c why, nhD (A (copyF nn d) l c why).1 = nhD (A d l c why).1 ∧ (A (copyF nn d) l c why).2 = (A d l c why).2
  e : ∀ nn mm d l c n, nhD (E (copyF nn d) (progF mm l) c n).1 = nhD (E d l c n).1 ∧ (E (copyF nn d) (progF mm l) c n).2 = (E d l c n).2
  k : ∀ nn mm d l c, nhD (K (copyF nn d) (progF mm l) c).1 = nhD (K d l c).1 ∧ (K (copyF nn d) (progF mm l) c).2 = (K d l c).2
  o : ∀ nn d c n, O (copyF nn d) c n = O d c n
theorem fs_ok : Fs abortF evictF kickF goodK holdsF := by
  refine ⟨fun nn d l c why => ?_, fun nn mm d l c n => ?_, fun nn mm d l c => ?_, fun nn d c n => ?_⟩
  · have h1 := nh_abort (copyF nn d) l c why
    have h2 := nh_abort d l c why
    rw [nh_copy] at h1
    exact ⟨h1.d.trans h2.d.symm, h1.e.trans h2.e.symm⟩
  · have h1 := nh_evict (copyF nn d) (progF mm l) c n
    have h2 := nh_evict d l c n
    rw [nh_copy, nh_prog] at h1
    exact ⟨h1.d.trans h2.d.symm, h1.r.trans h2.r.symm⟩
  · have h1 := nh_kick (copyF nn d) (progF mm l) c
    have h2 := nh_kick d l c
    rw [nh_copy, nh_prog] at h1
    exact ⟨h1.d.trans h2.d.symm, h1.r.trans h2.r.symm⟩
  · rw [← nh_holds, nh_copy, nh_holds]
set_option maxRecDepth 4000 in
set_option maxHeartbeats 6400000 in
theorem c_DeskFails : Ctr Tryz.prog 4 (lawZ [deskT, progsT, .int, .int, .int]) := by
  obtain ⟨A, E, K, G, O, hF, cA, cA', cE, cE', cK, cK', cG, cO, cO'⟩ : ∃ (A : abFn) (E : evFn) (K : kiFn) (G : deskT.D → Bool) (O : deskT.D → Int → Int → Bool), Fs A E K G O ∧ Ctr Tryz.prog 15 (abS A) ∧ Ctr Tryz.prog 16 (abS A) ∧ Ctr Tryz.prog 17 (evS' E) ∧ Ctr Tryz.prog 18 (evS' E) ∧ Ctr Tryz.prog 19 (kiS K) ∧ Ctr Tryz.prog 20 (kiS K) ∧ Ctr Tryz.prog 13 (gdS G) ∧ Ctr Tryz.prog 21 (hoS O) ∧ Ctr Tryz.prog 22 (hoS O) :=
    ⟨abortF, evictF, kickF, goodK, holdsF, fs_ok, c_Abort, c_AbortOf c_IsDesk, c_Evict, c_EvictOf c_IsDesk (c_AbortOf c_IsDesk), c_Kick, c_KickOf c_IsDesk (c_AbortOf c_IsDesk), c_IsDesk, c_Holds, c_HoldsLine⟩
  refine ctr_of tabOk (SpecsOk.cons c_CopyDesk (by kernel_rfl) (SpecsOk.cons cA (by kernel_rfl) (SpecsOk.cons cA' (by kernel_rfl) (SpecsOk.cons cE (by kernel_rfl) (SpecsOk.cons cE' (by kernel_rfl) (SpecsOk.cons cK (by kernel_rfl) (SpecsOk.cons cK' (by kernel_rfl) (SpecsOk.cons cG (by kernel_rfl) (SpecsOk.cons cO (by kernel_rfl) (SpecsOk.cons cO' (by kernel_rfl) (SpecsOk.cons c_SameDesk (by kernel_rfl) (SpecsOk.cons c_SameRecords (by kernel_rfl) (SpecsOk.cons c_programs (by kernel_rfl) (SpecsOk.cons c_lSteps (by kernel_rfl) (SpecsOk.nil _))))))))))))))) Tryz.func4 rfl _ (Nat.le_of_ble_eq_true rfl) (fun _ _ => rfl) ?_
  rintro nn ⟨d, l, c, n, why, ⟨⟩⟩ hpre hb
  have ha := fun own => hF.a nn d own c why
  have he := fun mm => hF.e nn mm d l c n
  have hk := fun mm => hF.k nn mm d l c
  have ho := hF.o nn d c n
  have hs1 : ∀ own, sameD (A (copyF nn d) own c why).1 (A d own c why).1 = true := fun own => sameD_nh (ha own).1
  have hs2 : ∀ mm, sameD (E (copyF nn d) (progF mm l) c n).1 (E d l c n).1 = true := fun mm => sameD_nh (he mm).1
  have hs3 : ∀ mm, sameD (K (copyF nn d) (progF mm l) c).1 (K d l c).1 = true := fun mm => sameD_nh (hk mm).1
  have hs4 : sameD (copyF nn d) d = true := sameD_nh (nh_copy nn d)
  have hr2 : ∀ mm, sameR (E (copyF nn d) (progF mm l) c n).2.1 (E d l c n).2.1 = true := fun mm => by rw [(he mm).2]; exact sameR_refl _
  have hr3 : ∀ mm, sameR (K (copyF nn d) (progF mm l) c).2.1 (K d l c).2.1 = true := fun mm => by rw [(hk mm).2]; exact sameR_refl _
  have hx2 : ∀ mm, (E (copyF nn d) (progF mm l) c n).2.2 = (E d l c n).2.2 := fun mm => by rw [(he mm).2]
  have hx3 : ∀ mm, (K (copyF nn d) (progF mm l) c).2.2 = (K d l c).2.2 := fun mm => by rw [(hk mm).2]
  refine ⟨200, init_k fun K1 n1 => ?_⟩
  conv => whnf
  refine n1 _ ?_
  clear n1 K1
  repeat' (first | with_reducible refine seq_k fun K1 n1 => ?_ | with_reducible refine seq_nil ?_ | with_reducible refine drw_k fun K1 n1 => ?_ | with_reducible refine drw_nil ?_ ?_ | with_reducible refine bar_k fun K1 n1 => ?_ | with_reducible refine run_seq ?_ | with_reducible refine run_skip ?_ | with_reducible refine run_regS ?_ | with_reducible refine run_regD (by with_unfolding_all rfl) ?_ ?_ | with_reducible refine inl_k (by with_unfolding_all rfl) (Nat.le_of_ble_eq_true rfl) fun K1 n1 => ?_ | with_reducible refine inlA_k (by with_unfolding_all rfl) (Nat.le_of_ble_eq_true rfl) fun K1 n1 => ?_ | with_reducible refine run_finA ?_ | with_reducible refine run_cond ?_ | with_reducible refine run_block ?_ | with_reducible refine run_endb ?_ | with_reducible refine run_exit fun K1 n1 => ?_ | with_reducible refine run_ret fun K1 n1 => ?_ | with_reducible refine run_fin ?_ | with_reducible refine run_inv ?_ | with_reducible refine go_rounds ?_ | ((with_reducible refine Go.mk ?_); (conv => whnf)) | refine Fork.yes ?_ | refine Fork.no ?_ | refine Fork.dec (fun _ => ?_) (fun _ => ?_) | refine Fork.ndec (fun _ => ?_) (fun _ => ?_) | refine Fork.mk (fun _ => ?_) (fun _ => ?_) | refine Way.yesG ?_ | refine Way.noG ?_ | refine Way.decG (fun _ => ?_) (fun _ => ?_) | refine Way.ndecG (fun _ => ?_) (fun _ => ?_) | refine Way.mkG (fun _ => ?_) (fun _ => ?_) | with_reducible refine Need.mkG ?_ ?_ | refine AppW.go0 ?_ ?_ | refine AppW.go1 ?_ ?_ | with_reducible refine NilW.goG (fun _ => ?_) ?_ | ((with_reducible refine n1 _ _ _ ?_); clear n1 K1) | ((with_reducible refine n1 _ ?_); clear n1 K1) | ((with_reducible refine n1 _ _ ?_); clear n1 K1) | ((with_reducible refine n1 _ _ _ _ ?_); clear n1 K1) | fail)
  all_goals try (first | exact trivial | omega | kernel_rfl | decide | exact And.intro (by omega) (by omega))
  all_goals try dsimp only [Int.toNat_natCast] at *
  all_goals try (first | exact trivial | omega | exact And.intro (by omega) (by omega))
  all_goals first
    | exact hpre.1
    | exact hpre.2.1
    | (exfalso; rename_i g; simp only [hs1, Bool.not_true, Bool.false_eq_true] at g; done)
    | (exfalso; rename_i g; exact g (ha _).2)
    | (exfalso; rename_i g; simp only [hs2, Bool.not_true, Bool.false_eq_true] at g; done)
    | (exfalso; rename_i g; simp only [hr2, Bool.not_true, Bool.false_eq_true] at g; done)
    | (exfalso; rename_i g; exact g (hx2 _))
    | exact Done.of rfl (Or.inl rfl)
    | (have g : c = 0 := (by assumption); exact (show @LE.le Int _ 0 c ∧ @LT.lt Int _ c 2 by rw [g]; decide))
    | (have g : c = 1 := (by assumption); exact (show @LE.le Int _ 0 c ∧ @LT.lt Int _ c 2 by rw [g]; decide))
    | (exfalso; rename_i g; exact g (hx3 _))
    | (exfalso; rename_i g; exact g ho)
    | (exfalso; rename_i g; rw [hr3] at g; cases g; done)
    | (exfalso; rename_i g; rw [hs3] at g; cases g; done)
    | (exfalso; rename_i g; rw [hs4] at g; cases g; done)
    | trace_state
end Go.Proofs.YtjbbgpacijageabGreat.M
