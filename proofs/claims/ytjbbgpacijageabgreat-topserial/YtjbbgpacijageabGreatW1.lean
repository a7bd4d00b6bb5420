/- A bench at play: what is recorded leads there. -/
import Derived.Test.YtjbbgpacijageabGreatUX
import Derived.Test.YtjbbgpacijageabGreatY1p
namespace Go.Proofs.YtjbbgpacijageabGreat.M
open Go.RowKit
set_option linter.unusedVariables false
set_option linter.unusedSimpArgs false

theorem Ser.nh {L : progsT.D} {d : deskT.D} {cs : Nat → plainT.D} {m : Nat → Int} (h : Ser L d cs m) : Ser L (nhD d) cs m :=
  ⟨h.good, h.gm, h.mem, fun o ho => ⟨(h.ok o ho).out, fun hd => ⟨((h.ok o ho).tx hd).run⟩⟩⟩
theorem leads_act {nn : Nat} {L : progsT.D} {d : deskT.D} {cs : Nat → plainT.D} {m : Nat → Int} {a : actT.D} (h : Ser L d cs m) (h0 : (actF nn d L a).2.2 = 0) : Leads L ((actF nn d L a).1, (actF nn d L a).2.1) cs m := by
  unfold actF at h0 ⊢
  split
  · rename_i h1
    rw [if_pos h1] at h0
    exact leads_step h h0
  · rename_i h1
    rw [if_neg h1] at h0
    split
    · rename_i h2
      rw [if_pos h2] at h0
      exact leads_evict h h0
    · rename_i h2
      rw [if_neg h2] at h0
      split
      · rename_i h3
        rw [if_pos h3] at h0
        exact leads_kick h h0
      · rename_i h3
        rw [if_neg h3] at h0
        cases h0
theorem zero_val (m : Nat → Int) {k : Nat} (hk : k < 32) : valF (deskT.zero.1, m) (k : Int) = m k := by
  have hno : ∀ (c n : Int), (findF (deskT.zero.1, m) c n).2 = false := fun c n => by
    unfold findF
    split
    · show hasL lineT.zero n = false
      exact decide_eq_false (fun g => g.1 rfl)
    · rfl
  unfold valF
  rw [if_pos (by omega), if_neg (by rw [hno]; exact fun g => by cases g.1), if_neg (by rw [hno]; exact fun g => by cases g.1)]
  rfl
theorem ser_zero {L : progsT.D} {m : Nat → Int} (hg : goodK (deskT.zero.1, m) = true) : Ser L (deskT.zero.1, m) coresT.zero m := by
  refine ⟨hg, ?_, fun k hk => (zero_val m hk).symm, fun o ho => ⟨rfl, fun hd => absurd rfl hd⟩⟩
  have h1 := goodK_D hg
  unfold goodD at h1
  rw [Bool.and_eq_true] at h1
  exact h1.1
theorem ser_pl {L : progsT.D} {m : Nat → Int} {acts : List actT.D} (hg : goodK (deskT.zero.1, m) = true) : ∀ n : Nat, ∃ cs mm, goRep L (pl L m acts n).2.1 coresT.zero m = .ok (cs, mm) ∧ Ser L (pl L m acts n).1 cs mm
  | 0 => ⟨_, _, rfl, ser_zero hg⟩
  | n + 1 => by
    obtain ⟨cs, mm, e1, e2⟩ := ser_pl hg n
    show ∃ cs mm, goRep L (doR 0 L (pl L m acts n).1 (pl L m acts n).2.1 (pl L m acts n).2.2 (nthD actT acts n)) coresT.zero m = .ok (cs, mm) ∧ Ser L (nhD (doD 0 L (pl L m acts n).1 (pl L m acts n).2.2 (nthD actT acts n))) cs mm
    unfold doR doD
    split
    · exact ⟨cs, mm, e1, e2.nh⟩
    · split
      · rename_i h0
        obtain ⟨cs', mm', e3, e4⟩ := leads_act e2 h0
        exact ⟨cs', mm', by rw [rep_app _ _ _ _ _ _ e1]; exact e3, Ser.nh e4⟩
      · exact ⟨cs, mm, e1, e2.nh⟩
theorem goRep_two {l l' : progsT.D} (h : ∀ k, k < 2 → (l' k).2 = (l k).2) : ∀ (rs : List recordT.D) (cs : Nat → plainT.D) (m : Nat → Int), goRep l' rs cs m = goRep l rs cs m
  | [], cs, m => rfl
  | r :: rs, cs, m => by
    unfold goRep
    by_cases hc : 0 ≤ r.2.1 ∧ r.2.1 < 2
    · have hk : r.2.1.toNat < 2 := (Int.toNat_lt hc.1).2 hc.2
      rw [if_pos hc, if_pos hc, h _ hk]
      split
      · exact goRep_two h rs _ _
      · rfl
    · rw [if_neg hc, if_neg hc]
/-- What is recorded leads to where the cores and the words are. -/
theorem replay_pl {l : progsT.D} {m : Nat → Int} {acts : List actT.D} (hg : goodK (deskT.zero.1, m) = true) (n : Nat) : ∃ cs mm, replayF l m (pl (nL l) m acts n).2.1 = (cs, mm, 0) ∧ Ser (nL l) (pl (nL l) m acts n).1 cs mm := by
  obtain ⟨cs, mm, e1, e2⟩ := ser_pl (L := nL l) (acts := acts) hg n
  refine ⟨cs, mm, ?_, e2⟩
  unfold replayF
  rw [if_pos (ser_zero (L := nL l) hg).gm, ← goRep_two (fun k hk => nL_at l hk), e1]
theorem outP_nh {d e : deskT.D} (h : nhD d = nhD e) (o : Nat) : outP (d.1 o) = outP (e.1 o) := by
  have h1 : outP (nhC (d.1 o)) = outP (nhC (e.1 o)) := by rw [al_core h o]
  exact h1
theorem mem_eq {mm : Nat → Int} {d : deskT.D} (h : ∀ k : Nat, k < 32 → mm k = valF d (k : Int)) : eqT (.arr 32 .int) mm (fun q => valF d (q : Int)) = true := by
  show ((List.range 32).all fun i => eqT .int (mm i) (valF d (i : Int))) = true
  rw [List.all_eq_true]
  intro i hi
  exact decide_eq_true (h i (List.mem_range.1 hi))
abbrev outPS : Spec := pureS [coreT] [plainT] fun d => (outP d.1, ())
theorem c_outside : Ctr Tryz.prog 29 outPS := by
  refine ctr_of tabOk (SpecsOk.nil _) Tryz.func29 rfl _ (Nat.le_of_ble_eq_true rfl) (fun _ _ => rfl) ?_
  rintro nn ⟨x, ⟨⟩⟩ _ hb
  refine ⟨200, init_k fun K1 n1 => ?_⟩
  conv => whnf
  refine n1 _ ?_
  clear n1 K1
  repeat' (first | with_reducible refine seq_k fun K1 n1 => ?_ | with_reducible refine seq_nil ?_ | with_reducible refine drw_k fun K1 n1 => ?_ | with_reducible refine drw_nil ?_ ?_ | with_reducible refine run_seq ?_ | with_reducible refine run_skip ?_ | with_reducible refine run_regS ?_ | with_reducible refine run_regD (by kernel_rfl) ?_ ?_ | with_reducible refine inl_k (by with_unfolding_all rfl) (Nat.le_of_ble_eq_true rfl) fun K1 n1 => ?_ | with_reducible refine inlA_k (by with_unfolding_all rfl) (Nat.le_of_ble_eq_true rfl) fun K1 n1 => ?_ | with_reducible refine run_finA ?_ | with_reducible refine run_cond ?_ | with_reducible refine run_block ?_ | with_reducible refine run_endb ?_ | with_reducible refine run_exit fun K1 n1 => ?_ | with_reducible refine run_ret fun K1 n1 => ?_ | with_reducible refine run_fin ?_ | with_reducible refine run_inv ?_ | with_reducible refine go_rounds ?_ | ((with_reducible refine Go.mk ?_); (conv => whnf)) | refine Fork.yes ?_ | refine Fork.no ?_ | refine Fork.dec (fun _ => ?_) (fun _ => ?_) | refine Fork.ndec (fun _ => ?_) (fun _ => ?_) | refine Fork.mk (fun _ => ?_) (fun _ => ?_) | refine Way.yesG ?_ | refine Way.noG ?_ | refine Way.decG (fun _ => ?_) (fun _ => ?_) | refine Way.ndecG (fun _ => ?_) (fun _ => ?_) | refine Way.mkG (fun _ => ?_) (fun _ => ?_) | with_reducible refine Need.mkG ?_ ?_ | refine AppW.go0 ?_ ?_ | with_reducible refine NilW.goG (fun _ => ?_) ?_ | ((with_reducible refine n1 _ _ _ ?_); clear n1 K1) | ((with_reducible refine n1 _ ?_); clear n1 K1) | ((with_reducible refine n1 _ _ ?_); clear n1 K1) | ((with_reducible refine n1 _ _ _ _ ?_); clear n1 K1) | fail)
  all_goals try (first | exact trivial | omega | kernel_rfl | decide | exact And.intro (by omega) (by omega))
  all_goals try dsimp only [Int.toNat_natCast] at *
  all_goals try (first | exact trivial | omega | exact And.intro (by omega) (by omega))
  · rename_i h
    refine Done.of ?_ (Or.inl rfl)
    show (_, ()) = (outP x, ())
    unfold outP
    rw [if_pos h]
  · rename_i h
    refine Done.of ?_ (Or.inl rfl)
    show (_, ()) = (outP x, ())
    unfold outP
    rw [if_neg h]
end Go.Proofs.YtjbbgpacijageabGreat.M
