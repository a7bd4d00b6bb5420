/- The law TopRuns. -/
import Derived.Test.YtjbbgpacijageacBR
import Derived.Test.YtjbbgpacijageacB3
import Derived.Test.YtjbbgpacijageacWX
namespace Go.Proofs.Ytjbbgpacijageac.M
open Go.RowKit
set_option linter.unusedVariables false
set_option linter.unusedSimpArgs false

abbrev tabU : Tab := { tab with sub := true }
theorem tabUOk : TabOk Try.prog tabU := ⟨tabOk.ty, tabOk.eq, tabOk.mix, tabOk.ptr⟩
/-- How many of n. -/
def kOf (n : Nat) (k : Int) : Int := (wrap64 (wrap64 (Int.tmod k (wrap64 ((n : Int) + 1)) + (n : Int)) + 1)).tmod (wrap64 ((n : Int) + 1))
theorem kOf_rng {n : Nat} (h : n ≤ 200) (k : Int) : 0 ≤ kOf n k ∧ kOf n k ≤ (n : Int) := by
  unfold kOf
  have e1 : wrap64 ((n : Int) + 1) = (n : Int) + 1 := wrap_id (by omega)
  rw [e1]
  have h1 := Int.tmod_lt_of_pos k (show (0 : Int) < (n : Int) + 1 by omega)
  have h2 : -((n : Int) + 1) < Int.tmod k ((n : Int) + 1) := by
    have := Int.lt_tmod_of_pos k (show (0 : Int) < (n : Int) + 1 by omega)
    exact this
  rw [wrap_id (z := Int.tmod k ((n : Int) + 1) + (n : Int)) (by omega), wrap_id (by omega)]
  have h3 := Int.tmod_lt_of_pos (Int.tmod k ((n : Int) + 1) + (n : Int) + 1) (show (0 : Int) < (n : Int) + 1 by omega)
  have h4 := Int.tmod_nonneg ((n : Int) + 1) (show (0 : Int) ≤ Int.tmod k ((n : Int) + 1) + (n : Int) + 1 by omega)
  omega
theorem pl_take (L : progsT.D) (m : Nat → Int) (acts : List actT.D) (k : Nat) : ∀ i, i ≤ k → i ≤ acts.length → pl L m (acts.take k) i = pl L m acts i
  | 0, _, _ => rfl
  | i + 1, h, h' => by
    show stp L (pl L m (acts.take k) i) (nthD actT (acts.take k) i) = stp L (pl L m acts i) (nthD actT acts i)
    rw [pl_take L m acts k i (by omega) (by omega)]
    congr 1
    unfold nthD
    rw [List.getElem?_take, if_pos (by omega)]
theorem reps_take (L : progsT.D) (m : Nat → Int) (acts : List actT.D) (k : Nat) : ∀ i, i ≤ k → i ≤ acts.length → reps L m (acts.take k) i = reps L m acts i
  | 0, _, _ => rfl
  | i + 1, h, h' => by
    show reps L m (acts.take k) i ++ [repF 0 L (pl L m (acts.take k) i).1 (pl L m (acts.take k) i).2.2 (nthD actT (acts.take k) i)] = reps L m acts i ++ [repF 0 L (pl L m acts i).1 (pl L m acts i).2.2 (nthD actT acts i)]
    rw [reps_take L m acts k i (by omega) (by omega), pl_take L m acts k i (by omega) (by omega)]
    congr 3
    unfold nthD
    rw [List.getElem?_take, if_pos (by omega)]
theorem reps_pre (L : progsT.D) (m : Nat → Int) (acts : List actT.D) (k : Nat) : ∀ n, k ≤ n → ∃ r, reps L m acts n = reps L m acts k ++ r
  | 0, h => ⟨[], by rw [show k = 0 by omega]; rfl⟩
  | n + 1, h => by
    rcases Nat.lt_or_ge n k with h1 | h1
    · exact ⟨[], by rw [show k = n + 1 by omega, List.append_nil]⟩
    · obtain ⟨r, hr⟩ := reps_pre L m acts k n h1
      exact ⟨r ++ [repF 0 L (pl L m acts n).1 (pl L m acts n).2.2 (nthD actT acts n)], by show reps L m acts n ++ _ = _; rw [hr, List.append_assoc]⟩
theorem wrap_slot' {j : Nat} (h : j < 9223372036854775807) : some (SV.a (AV.of (V.leaf Ty.int (wrap64 ((j : Int) + 1))))) = some (SV.a (AV.of (V.leaf Ty.int ((j + 1 : Nat) : Int)))) := by rw [wrap_succ j h]
/-- So many of them. -/
def tkE (acts : List actT.D) (z : Int) : List actT.D := List.take (z.toNat - Int.toNat 0) (List.drop (Int.toNat 0) acts)
theorem tkE_eq (acts : List actT.D) (k : Nat) : tkE acts (k : Int) = acts.take k := by
  unfold tkE
  rw [show Int.toNat 0 = 0 from rfl, List.drop_zero, Nat.sub_zero, Int.toNat_natCast]
theorem tkE_len {acts : List actT.D} (z : Int) : (tkE acts z).length ≤ acts.length := by
  unfold tkE
  rw [show Int.toNat 0 = 0 from rfl, List.drop_zero, List.length_take]
  omega
theorem tkE_sm {acts : List actT.D} (h : acts.length ≤ 200) (z : Int) : (tkE acts z).length ≤ 140737488355328 ∧ (tkE acts z).length * actT.byt ≤ 140737488355328 := by
  have := tkE_len (acts := acts) z
  exact ⟨by omega, by show (tkE acts z).length * 24 ≤ _; omega⟩
abbrev rlFn := progsT.D → (Nat → Int) → List actT.D → List replyT.D
abbrev reFn := progsT.D → (Nat → Int) → List actT.D → Int
abbrev runS' (L : rlFn) (E : reFn) : Spec := { args := [progsT, .arr 32 .int, .lst actT], res := [.lst replyT, .int], cr := true, m := fun _ => 1, fn := fun nn d => ((.nm nn, L d.1 d.2.1 d.2.2.1.2), E d.1 d.2.1 d.2.2.1.2, ()), pre := fun _ => True }
/-- What is known of them. -/
structure Rn (L : rlFn) (E : reFn) : Prop where
  e : ∀ nn mm l m (acts acts' : List actT.D), acts.length ≤ 200 → acts'.length ≤ 200 → E (progF nn l) m acts = E (progF mm l) m acts'
  l : ∀ nn l m (acts : List actT.D), acts.length ≤ 200 → E (progF nn l) m acts = 0 → (L (progF nn l) m acts).length = acts.length
  k : ∀ nn mm l m (acts : List actT.D) (k i : Nat), acts.length ≤ 200 → k ≤ acts.length → i < k → E (progF nn l) m acts = 0 → nthD replyT (L (progF nn l) m acts) i = nthD replyT (L (progF mm l) m (acts.take k)) i
theorem rn_ok : Rn runL runE := by
  have he : ∀ nn l m (acts : List actT.D), acts.length ≤ 200 → runE (progF nn l) m acts = newE l m := fun nn l m acts h => by
    unfold runE
    rw [newE_prog (prog_at nn l)]
    split
    · rename_i h0
      rw [if_neg (by omega), h0]
    · rfl
  have hl : ∀ nn l m (acts : List actT.D), acts.length ≤ 200 → runE (progF nn l) m acts = 0 → runL (progF nn l) m acts = reps (nL l) m acts acts.length := fun nn l m acts h h0 => by
    rw [he nn l m acts h] at h0
    unfold runL
    rw [newE_prog (prog_at nn l), if_pos h0, if_neg (by omega), nL_prog (prog_at nn l)]
  refine ⟨fun nn mm l m acts acts' h h' => by rw [he nn l m acts h, he mm l m acts' h'], fun nn l m acts h h0 => by rw [hl nn l m acts h h0, reps_len], fun nn mm l m acts k i h hk hi h0 => ?_⟩
  have hlt : (acts.take k).length = k := by rw [List.length_take]; omega
  rw [hl nn l m acts h h0, hl mm l m (acts.take k) (by omega) (by rw [he mm l m _ (by omega), ← he nn l m acts h]; exact h0), hlt, reps_take _ _ _ _ k (Nat.le_refl _) hk]
  obtain ⟨r, hr⟩ := reps_pre (nL l) m acts k acts.length hk
  rw [hr]
  unfold nthD
  rw [List.getElem?_append_left (by rw [reps_len]; exact hi)]
set_option maxRecDepth 4000 in
set_option maxHeartbeats 1600000 in
theorem c_TopRuns : Ctr Try.prog 8 (lawZ [progsT, .arr 32 .int, .lst actT, .int]) := by
  obtain ⟨L, E, hR, cR⟩ : ∃ (L : rlFn) (E : reFn), Rn L E ∧ Ctr Try.prog 24 (runS' L E) := ⟨runL, runE, rn_ok, c_Run⟩
  refine ctr_of tabUOk (SpecsOk.cons c_alive (by kernel_rfl) (SpecsOk.cons c_tprograms (by kernel_rfl) (SpecsOk.cons cR (by kernel_rfl) (SpecsOk.nil _)))) Try.func8 rfl _ (Nat.le_of_ble_eq_true rfl) (fun _ _ => rfl) ?_
  rintro nn ⟨l, m, ⟨ah, acts⟩, k0, ⟨⟩⟩ hpre hb
  have hac : acts.length ≤ 9223372036854775807 := hb.2.2.1
  by_cases h200 : (200 : Int) < (acts.length : Int)
  · have h1 := h200
    refine ⟨200, init_k fun K1 n1 => ?_⟩
    conv => whnf
    refine n1 _ ?_
    clear n1 K1
    repeat' (first | with_reducible refine seq_k fun K1 n1 => ?_ | with_reducible refine seq_nil ?_ | with_reducible refine drw_k fun K1 n1 => ?_ | with_reducible refine drw_nil ?_ ?_ | with_reducible refine bar_k fun K1 n1 => ?_ | with_reducible refine run_seq ?_ | with_reducible refine run_skip ?_ | with_reducible refine run_regS ?_ | with_reducible refine run_regD (by with_unfolding_all rfl) ?_ ?_ | with_reducible refine inl_k (by with_unfolding_all rfl) (Nat.le_of_ble_eq_true rfl) fun K1 n1 => ?_ | with_reducible refine inlA_k (by with_unfolding_all rfl) (Nat.le_of_ble_eq_true rfl) fun K1 n1 => ?_ | with_reducible refine run_finA ?_ | with_reducible refine run_cond ?_ | with_reducible refine run_block ?_ | with_reducible refine run_endb ?_ | with_reducible refine run_exit fun K1 n1 => ?_ | with_reducible refine run_ret fun K1 n1 => ?_ | with_reducible refine run_fin ?_ | with_reducible refine run_inv ?_ | with_reducible refine go_rounds ?_ | ((with_reducible refine Go.mk ?_); (conv => whnf)) | refine Fork.yes ?_ | refine Fork.no ?_ | refine Fork.decT (by assumption) ?_ | refine Fork.decN (by assumption) ?_ | refine Fork.dec (fun _ => ?_) (fun _ => ?_) | refine Fork.ndecP (by assumption) ?_ | refine Fork.ndecQ (by assumption) ?_ | refine Fork.ndec (fun _ => ?_) (fun _ => ?_) | refine Fork.mk (fun _ => ?_) (fun _ => ?_) | refine Way.yesG ?_ | refine Way.noG ?_ | refine Way.decT (by assumption) ?_ | refine Way.decN (by assumption) ?_ | refine Way.decG (fun _ => ?_) (fun _ => ?_) | refine Way.ndecP (by assumption) ?_ | refine Way.ndecQ (by assumption) ?_ | refine Way.ndecG (fun _ => ?_) (fun _ => ?_) | refine Way.mkG (fun _ => ?_) (fun _ => ?_) | with_reducible refine Need.mkG ?_ ?_ | refine AppW.go0 ?_ ?_ | refine AppW.go1 ?_ ?_ | with_reducible refine NilW.goG (fun _ => ?_) ?_ | ((with_reducible refine n1 _ _ _ ?_); clear n1 K1) | ((with_reducible refine n1 _ ?_); clear n1 K1) | ((with_reducible refine n1 _ _ ?_); clear n1 K1) | ((with_reducible refine n1 _ _ _ _ ?_); clear n1 K1) | fail)
    all_goals try (first | exact trivial | omega | kernel_rfl | decide | exact And.intro (by omega) (by omega))
    all_goals try dsimp only [Int.toNat_natCast] at *
    all_goals try (first | exact trivial | omega | exact And.intro (by omega) (by omega))
    exact Done.of rfl (Or.inl rfl)
  have hlen : acts.length ≤ 200 := by omega
  obtain ⟨k, hk⟩ : ∃ k : Nat, kOf acts.length k0 = (k : Int) := ⟨(kOf acts.length k0).toNat, by have := kOf_rng hlen k0; omega⟩
  have hkl : k ≤ acts.length := by have := kOf_rng hlen k0; omega
  have hz := kOf_rng hlen k0
  have htl := tkE_len (acts := acts) (kOf acts.length k0)
  have hee : E (progF nn l) m acts = E (progF (nn + 2 + 1 + 1) l) m (tkE acts (kOf acts.length k0)) := hR.e _ _ _ _ _ _ hlen (by omega)
  have hl1 : E (progF nn l) m acts = 0 → (L (progF nn l) m acts).length = acts.length := fun h0 => hR.l _ _ _ _ hlen h0
  have hl2 : E (progF nn l) m acts = 0 → ((L (progF (nn + 2 + 1 + 1) l) m (tkE acts (kOf acts.length k0))).length : Int) = kOf acts.length k0 := fun h0 => by
    rw [hR.l _ _ _ _ (by omega) (by rw [← hee]; exact h0), hk, tkE_eq, List.length_take]
    omega
  have hnt : ∀ i, i < k → E (progF nn l) m acts = 0 → nthD replyT (L (progF nn l) m acts) i = nthD replyT (L (progF (nn + 2 + 1 + 1) l) m (tkE acts (kOf acts.length k0))) i := fun i hi h0 => by
    rw [hk, tkE_eq]
    exact hR.k _ _ _ _ _ _ _ hlen hkl hi h0
  refine ⟨200, init_k fun K1 n1 => ?_⟩
  conv => whnf
  refine n1 _ ?_
  clear n1 K1
  repeat' (first | with_reducible refine seq_k fun K1 n1 => ?_ | with_reducible refine seq_nil ?_ | with_reducible refine drw_k fun K1 n1 => ?_ | with_reducible refine drw_nil ?_ ?_ | with_reducible refine bar_k fun K1 n1 => ?_ | with_reducible refine run_seq ?_ | with_reducible refine run_skip ?_ | with_reducible refine run_regS ?_ | with_reducible refine run_regD (by with_unfolding_all rfl) ?_ ?_ | with_reducible refine inl_k (by with_unfolding_all rfl) (Nat.le_of_ble_eq_true rfl) fun K1 n1 => ?_ | with_reducible refine inlA_k (by with_unfolding_all rfl) (Nat.le_of_ble_eq_true rfl) fun K1 n1 => ?_ | with_reducible refine run_finA ?_ | with_reducible refine run_cond ?_ | with_reducible refine run_block ?_ | with_reducible refine run_endb ?_ | with_reducible refine run_exit fun K1 n1 => ?_ | with_reducible refine run_ret fun K1 n1 => ?_ | with_reducible refine run_fin ?_ | with_reducible refine run_inv ?_ | with_reducible refine go_rounds ?_ | ((with_reducible refine Go.mk ?_); (conv => whnf)) | refine Fork.yes ?_ | refine Fork.no ?_ | refine Fork.dec (fun _ => ?_) (fun _ => ?_) | refine Fork.ndec (fun _ => ?_) (fun _ => ?_) | refine Fork.mk (fun _ => ?_) (fun _ => ?_) | refine Way.yesG ?_ | refine Way.noG ?_ | refine Way.decG (fun _ => ?_) (fun _ => ?_) | refine Way.ndecG (fun _ => ?_) (fun _ => ?_) | refine Way.mkG (fun _ => ?_) (fun _ => ?_) | with_reducible refine Need.mkG ?_ ?_ | refine AppW.go0 ?_ ?_ | refine AppW.go1 ?_ ?_ | with_reducible refine NilW.goG (fun _ => ?_) ?_ | ((with_reducible refine n1 _ _ _ ?_); clear n1 K1) | ((with_reducible refine n1 _ ?_); clear n1 K1) | ((with_reducible refine n1 _ _ ?_); clear n1 K1) | ((with_reducible refine n1 _ _ _ _ ?_); clear n1 K1) | fail)
  all_goals try (first | exact trivial | omega | kernel_rfl | decide | exact And.intro (by omega) (by omega))
  all_goals try dsimp only [Int.toNat_natCast] at *
  all_goals try (first | exact trivial | omega | exact And.intro (by omega) (by omega))
  all_goals first
    | (show wrap64 ((acts.length : Int) + 1) ≠ 0; rw [wrap_id (by omega)]; omega)
    | exact hpre.1
    | exact (⟨by omega, by show acts.length * 24 ≤ _; omega⟩ : acts.length ≤ 140737488355328 ∧ acts.length * actT.byt ≤ 140737488355328)
    | exact (⟨Int.le_refl _, hz.1, hz.2⟩ : (0 : Int) ≤ 0 ∧ 0 ≤ kOf acts.length k0 ∧ kOf acts.length k0 ≤ (acts.length : Int))
    | exact tkE_sm hlen (kOf acts.length k0)
    | (exfalso; rename_i g; exact g hee)
    | (exfalso; rename_i g0 g; exact g (by rw [hl1 g0]))
    | (exfalso; rename_i g0 g1 g; exact g (hl2 g0))
    | skip
  · rename_i g0 g1 g2
    refine run_loop (loop_fam (ι := Nat) (fun i => [(13, .a (.of (.leaf .int (i : Int)))), (3, .a (.of (.leaf .int (kOf acts.length k0)))), (10, .a (.of (.leaf .int (E (progF nn l) m acts)))), (9, .a (.of (.leaf (.lst replyT) (.nm (nn + 2 + 1), L (progF nn l) m acts)))), (11, .a (.of (.leaf (.lst replyT) (.nm (nn + 2 + 1 + 1 + 2 + 1), L (progF (nn + 2 + 1 + 1) l) m (tkE acts (kOf acts.length k0))))))])
      (fun _ => [.leaf progsT l, .leaf (.arr 32 .int) m]) (fun _ => ⟨nn + 2 + 1 + 1 + 2 + 1 + 1, []⟩) (fun i => k - i) (fun i => i ≤ k) ?_ ?_)
    · exact ⟨0, Nat.zero_le _, ⟨rfl, rfl, rfl, rfl, rfl, trivial⟩, rfl, 2, Nat.le_refl _, rfl, rfl⟩
    · intro i hi
      have hi : i ≤ k := hi
      generalize kOf acts.length k0 = z at *
      subst hk
      repeat' (first | with_reducible refine seq_k fun K1 n1 => ?_ | with_reducible refine seq_nil ?_ | with_reducible refine drw_k fun K1 n1 => ?_ | with_reducible refine drw_nil ?_ ?_ | with_reducible refine bar_k fun K1 n1 => ?_ | with_reducible refine run_seq ?_ | with_reducible refine run_skip ?_ | with_reducible refine run_regS ?_ | with_reducible refine run_regD (by with_unfolding_all rfl) ?_ ?_ | with_reducible refine inl_k (by with_unfolding_all rfl) (Nat.le_of_ble_eq_true rfl) fun K1 n1 => ?_ | with_reducible refine inlA_k (by with_unfolding_all rfl) (Nat.le_of_ble_eq_true rfl) fun K1 n1 => ?_ | with_reducible refine run_finA ?_ | with_reducible refine run_cond ?_ | with_reducible refine run_block ?_ | with_reducible refine run_endb ?_ | with_reducible refine run_exit fun K1 n1 => ?_ | with_reducible refine run_ret fun K1 n1 => ?_ | with_reducible refine run_fin ?_ | with_reducible refine run_inv ?_ | with_reducible refine go_rounds ?_ | ((with_reducible refine Go.mk ?_); (conv => whnf)) | refine Fork.yes ?_ | refine Fork.no ?_ | refine Fork.dec (fun _ => ?_) (fun _ => ?_) | refine Fork.ndec (fun _ => ?_) (fun _ => ?_) | refine Fork.mk (fun _ => ?_) (fun _ => ?_) | refine Way.yesG ?_ | refine Way.noG ?_ | refine Way.decG (fun _ => ?_) (fun _ => ?_) | refine Way.ndecG (fun _ => ?_) (fun _ => ?_) | refine Way.mkG (fun _ => ?_) (fun _ => ?_) | with_reducible refine Need.mkG ?_ ?_ | refine AppW.go0 ?_ ?_ | refine AppW.go1 ?_ ?_ | with_reducible refine NilW.goG (fun _ => ?_) ?_ | ((with_reducible refine n1 _ _ _ ?_); clear n1 K1) | ((with_reducible refine n1 _ ?_); clear n1 K1) | ((with_reducible refine n1 _ _ ?_); clear n1 K1) | ((with_reducible refine n1 _ _ _ _ ?_); clear n1 K1) | fail)
      all_goals try (first | exact trivial | omega | kernel_rfl | decide | exact And.intro (by omega) (by omega))
      all_goals try dsimp only [Int.toNat_natCast] at *
      all_goals try (first | exact trivial | omega | exact And.intro (by omega) (by omega))
      all_goals first
        | exact Done.of rfl (Or.inl rfl)
        | (have q : (i : Int) < (k : Int) := (by assumption); exact (show @LE.le Int _ 0 (i : Int) ∧ @LT.lt Int _ (i : Int) ((L (progF nn l) m acts).length : Int) from ⟨by omega, by have := hl1 g0; omega⟩))
        | (have q : (i : Int) < (k : Int) := (by assumption); exact (show @LE.le Int _ 0 (i : Int) ∧ @LT.lt Int _ (i : Int) ((L (progF (nn + 2 + 1 + 1) l) m (tkE acts (k : Int))).length : Int) from ⟨by omega, by have := hl2 g0; omega⟩))
        | (have q : (i : Int) < (k : Int) := (by assumption); exact ⟨i + 1, (show k - (i + 1) < k - i by omega), (show i + 1 ≤ k by omega), ⟨wrap_slot' (by omega), rfl, rfl, rfl, rfl, trivial⟩, rfl, 2, Nat.le_of_ble_eq_true rfl, rfl, rfl⟩)
        | (have q : (i : Int) < (k : Int) := (by assumption)
           exfalso
           rename_i g
           rw [hnt i (by omega) g0, eqD_refl replyT rfl] at g
           cases g
           done)
        | (exfalso; omega)
        | contradiction
        | trace_state
  · rename_i g0
    refine unroll 1 (rounds_succ ?_)
    repeat' (first | with_reducible refine seq_k fun K1 n1 => ?_ | with_reducible refine seq_nil ?_ | with_reducible refine drw_k fun K1 n1 => ?_ | with_reducible refine drw_nil ?_ ?_ | with_reducible refine bar_k fun K1 n1 => ?_ | with_reducible refine run_seq ?_ | with_reducible refine run_skip ?_ | with_reducible refine run_regS ?_ | with_reducible refine run_regD (by with_unfolding_all rfl) ?_ ?_ | with_reducible refine inl_k (by with_unfolding_all rfl) (Nat.le_of_ble_eq_true rfl) fun K1 n1 => ?_ | with_reducible refine inlA_k (by with_unfolding_all rfl) (Nat.le_of_ble_eq_true rfl) fun K1 n1 => ?_ | with_reducible refine run_finA ?_ | with_reducible refine run_cond ?_ | with_reducible refine run_block ?_ | with_reducible refine run_endb ?_ | with_reducible refine run_exit fun K1 n1 => ?_ | with_reducible refine run_ret fun K1 n1 => ?_ | with_reducible refine run_fin ?_ | with_reducible refine run_inv ?_ | with_reducible refine go_rounds ?_ | ((with_reducible refine Go.mk ?_); (conv => whnf)) | refine Fork.yes ?_ | refine Fork.no ?_ | refine Fork.dec (fun _ => ?_) (fun _ => ?_) | refine Fork.ndec (fun _ => ?_) (fun _ => ?_) | refine Fork.mk (fun _ => ?_) (fun _ => ?_) | refine Way.yesG ?_ | refine Way.noG ?_ | refine Way.decG (fun _ => ?_) (fun _ => ?_) | refine Way.ndecG (fun _ => ?_) (fun _ => ?_) | refine Way.mkG (fun _ => ?_) (fun _ => ?_) | with_reducible refine Need.mkG ?_ ?_ | refine AppW.go0 ?_ ?_ | refine AppW.go1 ?_ ?_ | with_reducible refine NilW.goG (fun _ => ?_) ?_ | ((with_reducible refine n1 _ _ _ ?_); clear n1 K1) | ((with_reducible refine n1 _ ?_); clear n1 K1) | ((with_reducible refine n1 _ _ ?_); clear n1 K1) | ((with_reducible refine n1 _ _ _ _ ?_); clear n1 K1) | fail)
    all_goals try (first | exact trivial | omega | kernel_rfl | decide | exact And.intro (by omega) (by omega))
    all_goals try dsimp only [Int.toNat_natCast] at *
    all_goals try (first | exact trivial | omega | exact And.intro (by omega) (by omega))
    all_goals first
      | exact Done.of rfl (Or.inl rfl)
      | contradiction
      | trace_state
end Go.Proofs.Ytjbbgpacijageac.M
