/- The laws of stage 2 that need no other answer: a transaction as a whole. -/
import Derived.Test.YtjbbgpacijageaaUN
import Derived.Test.YtjbbgpacijageaaO1
namespace Go.Proofs.Ytjbbgpacijageaa.M
open Go.RowKit
set_option linter.unusedVariables false
set_option linter.unusedSimpArgs false

theorem eqT_self : ∀ (t : Ty), t.nolst = true → ∀ a : t.D, eqT t a a = true
  | .int, _, a => decide_eq_true rfl
  | .bool, _, a => decide_eq_true rfl
  | .one t, h, a => eqT_self t h a
  | .pair s t, h, a => by
    simp only [Ty.nolst, Bool.and_eq_true] at h
    show (eqT s a.1 a.1 && eqT t a.2 a.2) = true
    rw [eqT_self s h.1, eqT_self t h.2]
    rfl
  | .arr n t, h, f => by
    show ((List.range n).all fun i => eqT t (f i) (f i)) = true
    rw [List.all_eq_true]
    exact fun i _ => eqT_self t h (f i)
  | .lst t, h, a => by cases h
abbrev allFnK := List instrT.D → plainT.D → (Nat → Int) → Int → plainT.D × (Nat → Int) × Int
abbrev allSk (F : allFnK) : Spec := pureS [.lst instrT, plainT, memT, .int] [plainT, memT, .int] fun d => ((F d.1.2 d.2.1 d.2.2.1 d.2.2.2.1).1, (F d.1.2 d.2.1 d.2.2.1 d.2.2.2.1).2.1, (F d.1.2 d.2.1 d.2.2.1 d.2.2.2.1).2.2, ())
abbrev runLk : List instrT.D := ownL instrT (updA (updA (updA (Ty.arr 3 instrT).zero 0 (9, instrT.zero.2)) 1 (6, instrT.zero.2.1, instrT.zero.2.2.1, instrT.zero.2.2.2.1, 5)) 2 (10, instrT.zero.2)) 0 3
theorem runk1 : (allF runLk plainT.zero (updA (Ty.arr 32 .int).zero 5 7) 3).2.2 = 0 := by kernel_rfl
theorem runk2 : (allF runLk plainT.zero (updA (Ty.arr 32 .int).zero 5 7) 3).1.2.1 = 3 := by kernel_rfl
theorem runk3 : (allF runLk plainT.zero (updA (Ty.arr 32 .int).zero 5 7) 3).2.1 (Int.toNat 5) = 0 := by kernel_rfl
theorem c_runsK : Ctr Try.prog 41 (lawS []) := by
  obtain ⟨F, hF, cF⟩ : ∃ F : allFnK, F = allF ∧ Ctr Try.prog 36 (allSk F) := ⟨allF, rfl, c_All⟩
  refine ctr_of tabOk (SpecsOk.cons cF (by kernel_rfl) (SpecsOk.nil _)) Try.func41 rfl _ (Nat.le_of_ble_eq_true rfl) (fun _ _ => rfl) ?_
  rintro nn ⟨⟩ _ _
  refine ⟨200, init_k fun K1 n1 => ?_⟩
  conv => whnf
  refine n1 _ ?_
  clear n1 K1
  repeat' (first | with_reducible refine seq_k fun K1 n1 => ?_ | with_reducible refine seq_nil ?_ | with_reducible refine drw_k fun K1 n1 => ?_ | with_reducible refine drw_nil ?_ ?_ | with_reducible refine run_seq ?_ | with_reducible refine run_skip ?_ | with_reducible refine run_regS ?_ | with_reducible refine run_regD (by kernel_rfl) ?_ ?_ | with_reducible refine inl_k (by with_unfolding_all rfl) (Nat.le_of_ble_eq_true rfl) fun K1 n1 => ?_ | with_reducible refine inlA_k (by with_unfolding_all rfl) (Nat.le_of_ble_eq_true rfl) fun K1 n1 => ?_ | with_reducible refine run_finA ?_ | with_reducible refine run_cond ?_ | with_reducible refine run_block ?_ | with_reducible refine run_endb ?_ | with_reducible refine run_exit fun K1 n1 => ?_ | with_reducible refine run_ret fun K1 n1 => ?_ | with_reducible refine run_fin ?_ | with_reducible refine run_inv ?_ | with_reducible refine go_rounds ?_ | ((with_reducible refine Go.mk ?_); (conv => whnf)) | refine Fork.yes ?_ | refine Fork.no ?_ | refine Fork.dec (fun _ => ?_) (fun _ => ?_) | refine Fork.ndec (fun _ => ?_) (fun _ => ?_) | refine Fork.mk (fun _ => ?_) (fun _ => ?_) | refine Way.yesG ?_ | refine Way.noG ?_ | refine Way.decG (fun _ => ?_) (fun _ => ?_) | refine Way.ndecG (fun _ => ?_) (fun _ => ?_) | refine Way.mkG (fun _ => ?_) (fun _ => ?_) | with_reducible refine Need.mkG ?_ ?_ | refine AppW.go0 ?_ ?_ | with_reducible refine NilW.goG (fun _ => ?_) ?_ | ((with_reducible refine n1 _ _ _ ?_); clear n1 K1) | ((with_reducible refine n1 _ ?_); clear n1 K1) | ((with_reducible refine n1 _ _ ?_); clear n1 K1) | ((with_reducible refine n1 _ _ _ _ ?_); clear n1 K1) | fail)
  all_goals try (first | exact trivial | omega | kernel_rfl | decide | exact And.intro (by omega) (by omega))
  all_goals try dsimp only [Int.toNat_natCast] at *
  all_goals try (first | exact trivial | omega | exact And.intro (by omega) (by omega))
  all_goals
    have r1 : (F runLk plainT.zero (updA (Ty.arr 32 .int).zero 5 7) 3).2.2 = 0 := by rw [hF]; exact runk1
    have r2 : (F runLk plainT.zero (updA (Ty.arr 32 .int).zero 5 7) 3).1.2.1 = 3 := by rw [hF]; exact runk2
    have r3 : (F runLk plainT.zero (updA (Ty.arr 32 .int).zero 5 7) 3).2.1 (Int.toNat 5) = 0 := by rw [hF]; exact runk3
    clear hF
  · rw [decide_eq_true r3]
    exact Done.of rfl (Or.inl rfl)
  · rename_i h
    exact absurd r2 h
  · rename_i h
    exact absurd r1 h
theorem goAll_step {l : List instrT.D} {n : Nat} {s S : stT.D} {deep : Int} (hn : 1 ≤ n) (h : goAll l n s deep = some S) : (insideF s (fetchF l s.1) deep).2.2 = true ∧ (decide (0 < (insideF s (fetchF l s.1) deep).2.1) = decide (n - 1 ≠ 0)) ∧ goAll l (n - 1) (insideF s (fetchF l s.1) deep).1 (insideF s (fetchF l s.1) deep).2.1 = some S := by
  obtain ⟨k, rfl⟩ : ∃ k, n = k + 1 := ⟨n - 1, by omega⟩
  unfold goAll at h
  split at h
  · rename_i hc
    exact ⟨hc.1, hc.2, h⟩
  · cases h
theorem ready_ok {p : plainT.D} {m : Nat → Int} (h1 : goodP p = true) (h2 : goodM m = true) (h3 : p.2.2 = false) : readyAtF p m = 0 := by
  unfold readyAtF readyF
  rw [if_pos h2, if_pos h1, if_neg (by rw [h3]; decide)]
theorem ready_inv {p : plainT.D} {m : Nat → Int} (h : readyAtF p m = 0) : goodP p = true ∧ goodM m = true ∧ p.2.2 = false := by
  unfold readyAtF readyF at h
  split at h
  · rename_i hm
    split at h
    · rename_i hp
      split at h
      · cases h
      · rename_i ho
        refine ⟨hp, hm, ?_⟩
        cases hq : p.2.2 with
        | true => exact absurd hq ho
        | false => rfl
    · cases h
  · cases h
theorem inside_one {l : List instrT.D} {s : stT.D} {deep : Int} (h1 : goodP s.1 = true) (h2 : goodM s.2 = true) (h3 : s.1.2.2 = false) (h9 : (fetchF l s.1).1 ≠ 9) (h10 : (fetchF l s.1).1 ≠ 10) (hok : (insideF s (fetchF l s.1) deep).2.2 = true) :
    oneF l s.1 s.2 = ((insideF s (fetchF l s.1) deep).1.1, (insideF s (fetchF l s.1) deep).1.2, 0) := by
  unfold insideF at hok ⊢
  rw [if_neg h9, if_neg h10] at hok ⊢
  split at hok
  · cases hok
  · rename_i h11
    rw [if_neg h11]
    unfold oneF
    rw [if_pos (ready_ok h1 h2 h3), if_neg h9, if_pos hok]
theorem all_some {l : List instrT.D} {p : plainT.D} {m : Nat → Int} {count : Int} (h : (allF l p m count).2.2 = 0) : readyAtF p m = 0 ∧ (2 ≤ count ∧ count ≤ 400) ∧ goAll l count.toNat (p, m) 0 = some ((allF l p m count).1, (allF l p m count).2.1) := by
  unfold allF at h ⊢
  split at h
  · rename_i hr
    rw [if_pos hr]
    split at h
    · rename_i hc
      rw [if_pos hc]
      split at h
      · rename_i S hS
        rw [hS]
        exact ⟨hr, hc, rfl⟩
      · cases h
    · cases h
  · rename_i hr
    exact absurd h hr
theorem all_none {l : List instrT.D} {p : plainT.D} {m : Nat → Int} {count : Int} (h : ¬ (allF l p m count).2.2 = 0) : (allF l p m count).1 = p ∧ (allF l p m count).2.1 = m := by
  unfold allF at h ⊢
  split at h
  · rename_i hr
    rw [if_pos hr]
    split at h
    · rename_i hc
      rw [if_pos hc]
      split at h
      · exact absurd rfl h
      · exact ⟨rfl, rfl⟩
    · rename_i hc
      rw [if_neg hc]
      exact ⟨rfl, rfl⟩
  · rename_i hr
    rw [if_neg hr]
    exact ⟨rfl, rfl⟩
theorem first_begin {l : List instrT.D} {n : Nat} {s S : stT.D} (hn : 2 ≤ n) (h : goAll l n s 0 = some S) : (fetchF l s.1).1 = 9 := by
  obtain ⟨h1, h2, _⟩ := goAll_step (by omega) h
  have h3 : 0 < (insideF s (fetchF l s.1) 0).2.1 := by
    rw [decide_eq_true (show n - 1 ≠ 0 by omega)] at h2
    exact of_decide_eq_true h2
  unfold insideF at h3
  split at h3
  · assumption
  · exfalso
    split at h3
    · exact absurd (show (0 : Int) < wrap64 (0 - 1) from h3) (by decide)
    · split at h3
      · exact absurd (show (0 : Int) < 0 from h3) (by decide)
      · exact absurd (show (0 : Int) < 0 from h3) (by decide)
theorem c_PlainWhole : Ctr Try.prog 11 (lawS [.lst instrT, plainT, memT, .int]) := by
  refine ctr_of tabOk (SpecsOk.cons c_runsK (by kernel_rfl) (SpecsOk.cons c_All (by kernel_rfl) (SpecsOk.cons c_Fetch (by kernel_rfl) (SpecsOk.cons c_One (by kernel_rfl) (SpecsOk.nil _))))) Try.func11 rfl _ (Nat.le_of_ble_eq_true rfl) (fun _ _ => rfl) ?_
  rintro nn ⟨⟨hd, xs⟩, p, m, (count : Int), ⟨⟩⟩ _ _
  refine ⟨200, init_k fun K1 n1 => ?_⟩
  conv => whnf
  refine n1 _ ?_
  clear n1 K1
  repeat' (first | with_reducible refine seq_k fun K1 n1 => ?_ | with_reducible refine seq_nil ?_ | with_reducible refine drw_k fun K1 n1 => ?_ | with_reducible refine drw_nil ?_ ?_ | with_reducible refine run_seq ?_ | with_reducible refine run_skip ?_ | with_reducible refine run_regS ?_ | with_reducible refine run_regD (by kernel_rfl) ?_ ?_ | with_reducible refine inl_k (by with_unfolding_all rfl) (Nat.le_of_ble_eq_true rfl) fun K1 n1 => ?_ | with_reducible refine inlA_k (by with_unfolding_all rfl) (Nat.le_of_ble_eq_true rfl) fun K1 n1 => ?_ | with_reducible refine run_finA ?_ | with_reducible refine run_cond ?_ | with_reducible refine run_block ?_ | with_reducible refine run_endb ?_ | with_reducible refine run_exit fun K1 n1 => ?_ | with_reducible refine run_ret fun K1 n1 => ?_ | with_reducible refine run_fin ?_ | with_reducible refine run_inv ?_ | with_reducible refine go_rounds ?_ | ((with_reducible refine Go.mk ?_); (conv => whnf)) | refine Fork.yes ?_ | refine Fork.no ?_ | refine Fork.dec (fun _ => ?_) (fun _ => ?_) | refine Fork.ndec (fun _ => ?_) (fun _ => ?_) | refine Fork.mk (fun _ => ?_) (fun _ => ?_) | refine Way.yesG ?_ | refine Way.noG ?_ | refine Way.decG (fun _ => ?_) (fun _ => ?_) | refine Way.ndecG (fun _ => ?_) (fun _ => ?_) | refine Way.mkG (fun _ => ?_) (fun _ => ?_) | with_reducible refine Need.mkG ?_ ?_ | refine AppW.go0 ?_ ?_ | with_reducible refine NilW.goG (fun _ => ?_) ?_ | ((with_reducible refine n1 _ _ _ ?_); clear n1 K1) | ((with_reducible refine n1 _ ?_); clear n1 K1) | ((with_reducible refine n1 _ _ ?_); clear n1 K1) | ((with_reducible refine n1 _ _ _ _ ?_); clear n1 K1) | fail)
  all_goals try (first | exact trivial | omega | kernel_rfl | decide | exact And.intro (by omega) (by omega))
  all_goals try dsimp only [Int.toNat_natCast] at *
  all_goals try (first | exact trivial | omega | exact And.intro (by omega) (by omega))
  · exact Done.of rfl (Or.inl rfl)
  · exfalso
    rename_i h1 h2 h3
    rw [(all_none h1).2, eqT_self memT rfl] at h3
    cases h3
  · exfalso
    rename_i h1 h2
    rw [(all_none h1).1, eqT_self plainT rfl] at h2
    cases h2
  · rename_i h0
    obtain ⟨a1, a2, a3⟩ := all_some h0
    obtain ⟨b1, b2, b3⟩ := ready_inv a1
    obtain ⟨n, rfl⟩ : ∃ n : Nat, count = (n : Int) := ⟨count.toNat, by omega⟩
    rw [Int.toNat_natCast] at a3
    have hbeg := first_begin (by omega) a3
    generalize (allF xs p m (n : Int)).1 = Q at a3 ⊢
    generalize (allF xs p m (n : Int)).2.1 = X at a3 ⊢
    refine run_loop (loop_fam (ι := Nat × (Nat → Int) × Int × Bool × (Nat → Int) × Int) (fun i => [(45, .a (.of (.leaf .int (i.1 : Int)))), (44, .a (.of (.leaf .int (n : Int)))), (13, .a (.ptr 5 0 [] memT)), (12, .a (.ptr 4 0 [] plainT)), (10, .a (.ptr 3 0 [] memT)), (9, .a (.ptr 2 0 [] plainT)), (6, .a (.ptr 1 0 [] memT)), (5, .a (.ptr 0 0 [] plainT)), (0, .a (.of (.leaf (.lst instrT) (hd, xs))))])
      (fun i => [.leaf plainT p, .leaf memT m, .leaf plainT Q, .leaf memT X, .leaf plainT (i.2.1, i.2.2.1, i.2.2.2.1), .leaf memT i.2.2.2.2.1]) (fun _ => ⟨nn, []⟩) (fun i => n - i.1)
      (fun i => i.1 ≤ n ∧ (goodP (i.2.1, i.2.2.1, i.2.2.2.1) = true ∧ goodM i.2.2.2.2.1 = true ∧ i.2.2.2.1 = false) ∧ goAll xs (n - i.1) ((i.2.1, i.2.2.1, i.2.2.2.1), i.2.2.2.2.1) i.2.2.2.2.2 = some (Q, X)) ?_ ?_)
    · obtain ⟨g, a, off⟩ := p
      exact ⟨(0, g, a, off, m, 0), ⟨Nat.zero_le _, ⟨b1, b2, b3⟩, a3⟩, ⟨rfl, rfl, rfl, rfl, rfl, rfl, rfl, rfl, rfl, trivial⟩, rfl, 6, Nat.le_refl _, rfl, rfl⟩
    · rintro ⟨k, rg, (ra : Int), (ro : Bool), mm, (deep : Int)⟩ ⟨hk, ⟨c1, c2, c3⟩, hgo⟩
      have hk : k ≤ n := hk
      have c1 : goodP (rg, ra, ro) = true := c1
      have c2 : goodM mm = true := c2
      have c3 : ro = false := c3
      have hgo : goAll xs (n - k) ((rg, ra, ro), mm) deep = some (Q, X) := hgo
      repeat' (first | with_reducible refine seq_k fun K1 n1 => ?_ | with_reducible refine seq_nil ?_ | with_reducible refine drw_k fun K1 n1 => ?_ | with_reducible refine drw_nil ?_ ?_ | with_reducible refine run_seq ?_ | with_reducible refine run_skip ?_ | with_reducible refine run_regS ?_ | with_reducible refine run_regD (by kernel_rfl) ?_ ?_ | with_reducible refine inl_k (by with_unfolding_all rfl) (Nat.le_of_ble_eq_true rfl) fun K1 n1 => ?_ | with_reducible refine inlA_k (by with_unfolding_all rfl) (Nat.le_of_ble_eq_true rfl) fun K1 n1 => ?_ | with_reducible refine run_finA ?_ | with_reducible refine run_cond ?_ | with_reducible refine run_block ?_ | with_reducible refine run_endb ?_ | with_reducible refine run_exit fun K1 n1 => ?_ | with_reducible refine run_ret fun K1 n1 => ?_ | with_reducible refine run_fin ?_ | with_reducible refine run_inv ?_ | with_reducible refine go_rounds ?_ | ((with_reducible refine Go.mk ?_); (conv => whnf)) | refine Fork.yes ?_ | refine Fork.no ?_ | refine Fork.dec (fun _ => ?_) (fun _ => ?_) | refine Fork.ndec (fun _ => ?_) (fun _ => ?_) | refine Fork.mk (fun _ => ?_) (fun _ => ?_) | refine Way.yesG ?_ | refine Way.noG ?_ | refine Way.decG (fun _ => ?_) (fun _ => ?_) | refine Way.ndecG (fun _ => ?_) (fun _ => ?_) | refine Way.mkG (fun _ => ?_) (fun _ => ?_) | with_reducible refine Need.mkG ?_ ?_ | refine AppW.go0 ?_ ?_ | with_reducible refine NilW.goG (fun _ => ?_) ?_ | ((with_reducible refine n1 _ _ _ ?_); clear n1 K1) | ((with_reducible refine n1 _ ?_); clear n1 K1) | ((with_reducible refine n1 _ _ ?_); clear n1 K1) | ((with_reducible refine n1 _ _ _ _ ?_); clear n1 K1) | fail)
      all_goals try (first | exact trivial | omega | kernel_rfl | decide | exact And.intro (by omega) (by omega))
      all_goals try dsimp only [Int.toNat_natCast] at *
      all_goals try (first | exact trivial | omega | exact And.intro (by omega) (by omega))
      · rename_i h1 h2
        obtain ⟨s1, s2, s3⟩ := goAll_step (by omega) hgo
        obtain ⟨g1, g2, g3⟩ := good_inside (deep := deep) (i := fetchF xs (rg, ra, ro)) (s := ((rg, ra, ro), mm)) c1 c2 (fetch_ok _ _) c3
        have hin : insideF ((rg, ra, ro), mm) (fetchF xs (rg, ra, ro)) deep = ((nextF (rg, ra, ro), mm), wrap64 (deep + 1), decide (deep < 3)) := by
          unfold insideF
          rw [if_pos h2]
        have hw : bits .and .i64 (wrap64 (ra + 1)) 4294967295 = wd (ra + 1) := by rw [and_wd, wd_wrap]
        refine ⟨(k + 1, rg, bits .and .i64 (wrap64 (ra + 1)) 4294967295, ro, mm, wrap64 (deep + 1)), by show n - (k + 1) < n - k; omega, ⟨by show k + 1 ≤ n; omega, ⟨?_, c2, c3⟩, ?_⟩, ⟨?_, rfl, rfl, rfl, rfl, rfl, rfl, rfl, rfl, trivial⟩, rfl, 6, Nat.le_add_left _ _, rfl, rfl⟩
        · show goodP (rg, bits .and .i64 (wrap64 (ra + 1)) 4294967295, ro) = true
          rw [hw]
          exact good_next c1
        · show goAll xs (n - (k + 1)) ((rg, bits .and .i64 (wrap64 (ra + 1)) 4294967295, ro), mm) (wrap64 (deep + 1)) = some (Q, X)
          rw [hw]
          rw [hin] at s3
          rw [show n - (k + 1) = n - k - 1 from by omega]
          exact s3
        · show some (SV.a (AV.of (V.leaf Ty.int (wrap64 (↑k + 1))))) = some (SV.a (AV.of (V.leaf Ty.int ((k + 1 : Nat) : Int))))
          rw [← wrap_succ k (by omega)]
      · rename_i h1 h2 h2'
        obtain ⟨s1, s2, s3⟩ := goAll_step (by omega) hgo
        have hin : insideF ((rg, ra, ro), mm) (fetchF xs (rg, ra, ro)) deep = ((nextF (rg, ra, ro), mm), wrap64 (deep - 1), true) := by
          unfold insideF
          rw [if_neg h2, if_pos h2']
        have hw : bits .and .i64 (wrap64 (ra + 1)) 4294967295 = wd (ra + 1) := by rw [and_wd, wd_wrap]
        refine ⟨(k + 1, rg, bits .and .i64 (wrap64 (ra + 1)) 4294967295, ro, mm, wrap64 (deep - 1)), by show n - (k + 1) < n - k; omega, ⟨by show k + 1 ≤ n; omega, ⟨?_, c2, c3⟩, ?_⟩, ⟨?_, rfl, rfl, rfl, rfl, rfl, rfl, rfl, rfl, trivial⟩, rfl, 6, Nat.le_add_left _ _, rfl, rfl⟩
        · show goodP (rg, bits .and .i64 (wrap64 (ra + 1)) 4294967295, ro) = true
          rw [hw]
          exact good_next c1
        · show goAll xs (n - (k + 1)) ((rg, bits .and .i64 (wrap64 (ra + 1)) 4294967295, ro), mm) (wrap64 (deep - 1)) = some (Q, X)
          rw [hw]
          rw [hin] at s3
          rw [show n - (k + 1) = n - k - 1 from by omega]
          exact s3
        · show some (SV.a (AV.of (V.leaf Ty.int (wrap64 (↑k + 1))))) = some (SV.a (AV.of (V.leaf Ty.int ((k + 1 : Nat) : Int))))
          rw [← wrap_succ k (by omega)]
      · exfalso
        rename_i h1 h9 h10 h2
        obtain ⟨s1, s2, s3⟩ := goAll_step (by omega) hgo
        have ho := inside_one (deep := deep) (l := xs) (s := ((rg, ra, ro), mm)) c1 c2 c3 h9 h10 s1
        have ho : oneF xs (rg, ra, ro) mm = _ := ho
        rw [ho] at h2
        exact h2 rfl
      · exfalso
        rename_i h1 h9 h10 h2 h3
        obtain ⟨s1, s2, s3⟩ := goAll_step (by omega) hgo
        have ho := inside_one (deep := deep) (l := xs) (s := ((rg, ra, ro), mm)) c1 c2 c3 h9 h10 s1
        have ho : oneF xs (rg, ra, ro) mm = _ := ho
        obtain ⟨g1, g2, g3⟩ := good_inside (deep := deep) (i := fetchF xs (rg, ra, ro)) (s := ((rg, ra, ro), mm)) c1 c2 (fetch_ok _ _) c3
        rw [ho] at h3
        have h3 : (insideF ((rg, ra, ro), mm) (fetchF xs (rg, ra, ro)) deep).1.1.2.2 = true := h3
        rw [g3] at h3
        cases h3
      · rename_i h1 h9 h10 h2 h3
        obtain ⟨s1, s2, s3⟩ := goAll_step (by omega) hgo
        have ho := inside_one (deep := deep) (l := xs) (s := ((rg, ra, ro), mm)) c1 c2 c3 h9 h10 s1
        have ho : oneF xs (rg, ra, ro) mm = _ := ho
        obtain ⟨g1, g2, g3⟩ := good_inside (deep := deep) (i := fetchF xs (rg, ra, ro)) (s := ((rg, ra, ro), mm)) c1 c2 (fetch_ok _ _) c3
        refine ⟨(k + 1, (oneF xs (rg, ra, ro) mm).1.1, (oneF xs (rg, ra, ro) mm).1.2.1, (oneF xs (rg, ra, ro) mm).1.2.2, (oneF xs (rg, ra, ro) mm).2.1, (insideF ((rg, ra, ro), mm) (fetchF xs (rg, ra, ro)) deep).2.1), by show n - (k + 1) < n - k; omega, ⟨by show k + 1 ≤ n; omega, ⟨?_, ?_, h3⟩, ?_⟩, ⟨?_, rfl, rfl, rfl, rfl, rfl, rfl, rfl, rfl, trivial⟩, rfl, 6, Nat.le_add_left _ _, rfl, rfl⟩
        · show goodP (oneF xs (rg, ra, ro) mm).1 = true
          rw [ho]
          exact g1
        · show goodM (oneF xs (rg, ra, ro) mm).2.1 = true
          rw [ho]
          exact g2
        · show goAll xs (n - (k + 1)) ((oneF xs (rg, ra, ro) mm).1, (oneF xs (rg, ra, ro) mm).2.1) (insideF ((rg, ra, ro), mm) (fetchF xs (rg, ra, ro)) deep).2.1 = some (Q, X)
          rw [ho, show n - (k + 1) = n - k - 1 from by omega]
          exact s3
        · show some (SV.a (AV.of (V.leaf Ty.int (wrap64 (↑k + 1))))) = some (SV.a (AV.of (V.leaf Ty.int ((k + 1 : Nat) : Int))))
          rw [← wrap_succ k (by omega)]
      all_goals
        obtain rfl : k = n := by omega
        rw [Nat.sub_self] at hgo
        have hQ : (((rg, ra, ro), mm) : stT.D) = (Q, X) := Option.some.inj hgo
        have hQ1 : Q = (rg, ra, ro) := (congrArg Prod.fst hQ).symm
        have hX1 : X = mm := (congrArg Prod.snd hQ).symm
      · rw [decide_eq_true hbeg]
        exact Done.of rfl (Or.inl rfl)
      · exfalso
        have h3 : eqT memT X mm = false := by assumption
        rw [hX1, eqT_self memT rfl] at h3
        cases h3
      · exfalso
        have h3 : eqT plainT (rg, ra, ro) Q = false := by assumption
        rw [hQ1, eqT_self plainT rfl] at h3
        cases h3
end Go.Proofs.Ytjbbgpacijageaa.M
