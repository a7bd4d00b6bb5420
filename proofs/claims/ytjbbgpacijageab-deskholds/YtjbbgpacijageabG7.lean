/- Package desk: the end of a transaction. -/
import Derived.Test.YtjbbgpacijageabG6
namespace Go.Proofs.Ytjbbgpacijageab.M
open Go.RowKit
set_option linter.unusedVariables false
set_option linter.unusedSimpArgs false

def putsAll (x : deskT.D × Rec) (l : progsT.D) (c : Int) (ws : List writeT.D) : deskT.D × Rec := ws.foldl (fun x w => putsF x l c w.1 w.2) x
def downC (x : coreT.D) : coreT.D := (x.1, x.2.1, wrap64 (x.2.2.1 - 1), x.2.2.2)
def endedD (d : deskT.D) (c : Int) : deskT.D := setCore d c.toNat (nextF (freedF (d.1 c.toNat)).1, (freedF (d.1 c.toNat)).2)
def endF (d : deskT.D) (l : progsT.D) (c : Int) : deskT.D × Rec :=
  if (d.1 c.toNat).2.2.1 = 0 then stuckF d l c else
  if 1 < (d.1 c.toNat).2.2.1 then onF (setCore d c.toNat (downC (d.1 c.toNat))) c else
  ((putsAll (endedD d c, []) l c (wsOf d c)).1, (putsAll (endedD d c, []) l c (wsOf d c)).2 ++ [(2, c, wrap64 ((d.1 c.toNat).2.2.2.2.2 + 1))])
theorem drop_nthW {ws : List writeT.D} {k : Nat} (h : k < ws.length) : ws.drop k = nthD writeT ws k :: ws.drop (k + 1) := by
  rw [List.drop_eq_getElem_cons h, nthD_eq h]
theorem few_small {rs : Rec} {r : recordT.D} (h : rs.length ≤ 1000) : rs.length + (ownL recordT (updA (Ty.arr 1 recordT).zero 0 r) 0 1).length ≤ 140737488355328 ∧ (rs.length + (ownL recordT (updA (Ty.arr 1 recordT).zero 0 r) 0 1).length) * recordT.byt ≤ 140737488355328 := ⟨(by show rs.length + 1 ≤ 140737488355328; omega), (by show (rs.length + 1) * 24 ≤ 140737488355328; omega)⟩
abbrev endS : Spec := turnS [] (fun t _ => (wsOf t.1 t.2.2.1).length ≤ 4) fun t _ => endF t.1 t.2.1 t.2.2.1
abbrev recTr : MTr := Inl tabR [] Try.f66 [turnT]
set_option maxHeartbeats 8000000 in
theorem c_ends : Ctr Try.prog 62 endS := by
  refine ctr_ofT [(nilH, 3)] ⟨[3], rfl⟩ tabROk (SpecsOk.cons c_isStuck (by kernel_rfl) (SpecsOk.cons c_goesOn (by kernel_rfl) (SpecsOk.cons c_freed (by kernel_rfl) (SpecsOk.cons c_Next (by kernel_rfl) (SpecsOk.mut (inl_ok tabROk (SpecsOk.cons c_dOther (by kernel_rfl) (SpecsOk.cons c_Holds (by kernel_rfl) (SpecsOk.cons c_Own (by kernel_rfl) (SpecsOk.cons c_Write (by kernel_rfl) (SpecsOk.mut (inl_ok tabROk (SpecsOk.cons c_failed (by kernel_rfl) (SpecsOk.mut (inl_ok tabROk (SpecsOk.nil _) Try.func66 [turnT]) (by kernel_rfl) (SpecsOk.nil _))) Try.func49 [turnT]) (by kernel_rfl) (SpecsOk.nil _)))))) Try.func78 [turnT]) (by kernel_rfl) (SpecsOk.mut (inl_ok tabROk (SpecsOk.nil _) Try.func66 [turnT]) (by kernel_rfl) (SpecsOk.nil _))))))) Try.func62 rfl _ (Nat.le_of_ble_eq_true rfl) (fun h => by cases h) ?_
  rintro nn ⟨⟨d, l, (c : Int), h, rs⟩, ⟨⟩⟩ ⟨⟨hc, hr⟩, hws⟩ hb
  obtain ⟨rfl, rfl⟩ := Prod.mk.inj hr
  have hc : 0 ≤ c ∧ c < 2 := hc
  have hws : (wsOf d c).length ≤ 4 := hws
  have hother : 0 ≤ wrap64 (1 - c) ∧ wrap64 (1 - c) < 2 := by rw [other_eq hc]; omega
  refine ⟨200, init_k fun K1 n1 => ?_⟩
  conv => whnf
  refine n1 _ ?_
  clear n1 K1
  repeat' (first | with_reducible refine seq_k fun K1 n1 => ?_ | with_reducible refine seq_nil ?_ | with_reducible refine drw_k fun K1 n1 => ?_ | with_reducible refine drw_nil ?_ ?_ | with_reducible refine run_seq ?_ | with_reducible refine run_skip ?_ | with_reducible refine run_regS ?_ | with_reducible refine run_regD (by kernel_rfl) ?_ ?_ | with_reducible refine inl_k (by with_unfolding_all rfl) (Nat.le_of_ble_eq_true rfl) fun K1 n1 => ?_ | with_reducible refine inlA_k (by with_unfolding_all rfl) (Nat.le_of_ble_eq_true rfl) fun K1 n1 => ?_ | with_reducible refine run_finA ?_ | with_reducible refine run_cond ?_ | with_reducible refine run_block ?_ | with_reducible refine run_endb ?_ | with_reducible refine run_exit fun K1 n1 => ?_ | with_reducible refine run_ret fun K1 n1 => ?_ | with_reducible refine run_fin ?_ | with_reducible refine run_inv ?_ | with_reducible refine go_rounds ?_ | ((with_reducible refine Go.mk ?_); (conv => whnf)) | refine Fork.yes ?_ | refine Fork.no ?_ | refine Fork.dec (fun _ => ?_) (fun _ => ?_) | refine Fork.ndec (fun _ => ?_) (fun _ => ?_) | refine Fork.mk (fun _ => ?_) (fun _ => ?_) | refine Way.yesG ?_ | refine Way.noG ?_ | refine Way.decG (fun _ => ?_) (fun _ => ?_) | refine Way.ndecG (fun _ => ?_) (fun _ => ?_) | refine Way.mkG (fun _ => ?_) (fun _ => ?_) | with_reducible refine Need.mkG ?_ ?_ | refine AppW.go0 ?_ ?_ | with_reducible refine NilW.goG (fun _ => ?_) ?_ | ((with_reducible refine n1 _ _ _ ?_); clear n1 K1) | ((with_reducible refine n1 _ ?_); clear n1 K1) | ((with_reducible refine n1 _ _ ?_); clear n1 K1) | ((with_reducible refine n1 _ _ _ _ ?_); clear n1 K1) | fail)
  all_goals try (first | exact trivial | omega | kernel_rfl | decide | exact And.intro (by omega) (by omega))
  all_goals try dsimp only [Int.toNat_natCast] at *
  all_goals try (first | exact trivial | omega | exact And.intro (by omega) (by omega))
  · exact ⟨⟨hc, rfl⟩, trivial⟩
  · rename_i h
    refine turn_done (t := (d, l, c, nilH, [])) ?_
    show _ = endF d l c
    unfold endF
    rw [if_pos h]
  · exact ⟨⟨hc, rfl⟩, trivial⟩
  · rename_i h h2
    refine turn_done (t := (d, l, c, nilH, [])) ?_
    show _ = endF d l c
    unfold endF
    rw [if_neg h, if_pos h2]
    rfl
  · rename_i h h2
    have hE : ((updA (updA d.1 c.toNat (freedF (d.1 c.toNat))) c.toNat (nextF (updA d.1 c.toNat (freedF (d.1 c.toNat)) c.toNat).1, (updA d.1 c.toNat (freedF (d.1 c.toNat)) c.toNat).2), d.2) : deskT.D) = endedD d c := by
      rw [updA_at, updA_twice]
      rfl
    refine run_loop (loop_fam (ι := Nat × deskT.D × Rec × Hd × Nat) (fun i => [(61, .a (.of (.leaf .int (i.1 : Int)))), (60, .a (.of (.leaf .int ((wsOf d c).length : Int)))), (59, .a (.of (.leaf (.lst writeT) (d.1 c.toNat).2.2.2.2.1))), (5, .a (.of (.leaf .int (wrap64 ((d.1 c.toNat).2.2.2.2.2 + 1))))), (2, .a (.ptr 1 0 [] turnT)), (1, .a (.ptr 0 0 [] turnT))])
      (fun i => [.leaf turnT (i.2.1, l, c, (i.2.2.2.1, i.2.2.1)), .leaf turnT turnT.zero]) (fun i => ⟨i.2.2.2.2, [(i.2.2.2.1, 3)]⟩) (fun i => (wsOf d c).length - i.1)
      (fun i => (i.1 ≤ (wsOf d c).length ∧ i.2.2.1.length ≤ i.1) ∧ (i.2.2.2.1 = recH nn i.2.2.1.length ∧ i.2.2.2.2 = nn + 2 * i.2.2.1.length) ∧ putsAll (endedD d c, []) l c (wsOf d c) = putsAll (i.2.1, i.2.2.1) l c ((wsOf d c).drop i.1)) ?_ ?_)
    · exact ⟨(0, _, [], nilH, nn), ⟨⟨Nat.zero_le _, Nat.le_refl _⟩, ⟨rfl, rfl⟩, by rw [← hE]; rfl⟩, ⟨rfl, rfl, rfl, rfl, rfl, rfl, trivial⟩, rfl, 2, Nat.le_refl _, rfl, rfl⟩
    · rintro ⟨k, D, rs, hd, n⟩ ⟨⟨hk, hrl⟩, ⟨hhd, hn⟩, hall⟩
      have hk : k ≤ (wsOf d c).length := hk
      have hrl : rs.length ≤ k := hrl
      have hhd : hd = recH nn rs.length := hhd
      have hn : n = nn + 2 * rs.length := hn
      have hall : putsAll (endedD d c, []) l c (wsOf d c) = putsAll (D, rs) l c ((wsOf d c).drop k) := hall
      have hstep : k < (wsOf d c).length → putsAll (D, rs) l c ((wsOf d c).drop k) = putsAll (putsF (D, rs) l c (nthD writeT (wsOf d c) k).1 (nthD writeT (wsOf d c) k).2) l c ((wsOf d c).drop (k + 1)) := fun hlt => by
        rw [drop_nthW hlt]
        rfl
      repeat' (first | with_reducible refine seq_k fun K1 n1 => ?_ | with_reducible refine seq_nil ?_ | with_reducible refine drw_k fun K1 n1 => ?_ | with_reducible refine drw_nil ?_ ?_ | with_reducible refine run_seq ?_ | with_reducible refine run_skip ?_ | with_reducible refine run_regS ?_ | with_reducible refine run_regD (by kernel_rfl) ?_ ?_ | with_reducible refine inl_k (by with_unfolding_all rfl) (Nat.le_of_ble_eq_true rfl) fun K1 n1 => ?_ | with_reducible refine inlA_k (by with_unfolding_all rfl) (Nat.le_of_ble_eq_true rfl) fun K1 n1 => ?_ | with_reducible refine run_finA ?_ | with_reducible refine run_cond ?_ | with_reducible refine run_block ?_ | with_reducible refine run_endb ?_ | with_reducible refine run_exit fun K1 n1 => ?_ | with_reducible refine run_ret fun K1 n1 => ?_ | with_reducible refine run_fin ?_ | with_reducible refine run_inv ?_ | with_reducible refine go_rounds ?_ | ((with_reducible refine Go.mk ?_); (conv => whnf)) | refine Fork.yes ?_ | refine Fork.no ?_ | refine Fork.dec (fun _ => ?_) (fun _ => ?_) | refine Fork.ndec (fun _ => ?_) (fun _ => ?_) | refine Fork.mk (fun _ => ?_) (fun _ => ?_) | refine Way.yesG ?_ | refine Way.noG ?_ | refine Way.decG (fun _ => ?_) (fun _ => ?_) | refine Way.ndecG (fun _ => ?_) (fun _ => ?_) | refine Way.mkG (fun _ => ?_) (fun _ => ?_) | with_reducible refine Need.mkG ?_ ?_ | refine AppW.go0 ?_ ?_ | with_reducible refine NilW.goG (fun _ => ?_) ?_ | ((with_reducible refine n1 _ _ _ ?_); clear n1 K1) | ((with_reducible refine n1 _ ?_); clear n1 K1) | ((with_reducible refine n1 _ _ ?_); clear n1 K1) | ((with_reducible refine n1 _ _ _ _ ?_); clear n1 K1) | fail)
      all_goals try (first | exact trivial | omega | kernel_rfl | decide | exact And.intro (by omega) (by omega))
      all_goals try dsimp only [Int.toNat_natCast] at *
      all_goals try (first | exact trivial | omega | exact And.intro (by omega) (by omega))
      · rename_i h1
        have h1 : (k : Int) < ((wsOf d c).length : Int) := h1
        exact ⟨by omega, h1⟩
      · exact few_small (by omega)
      · rename_i h1 hh
        have h1 : (k : Int) < ((wsOf d c).length : Int) := h1
        have hp : putsF (D, rs) l c (nthD writeT (wsOf d c) k).1 (nthD writeT (wsOf d c) k).2 = _ := if_pos hh
        refine ⟨(k + 1, (putsF (D, rs) l c (nthD writeT (wsOf d c) k).1 (nthD writeT (wsOf d c) k).2).1, rs ++ [(3, wrap64 (1 - c), 1001)], .nm (n + 1), n + 2), (by show (wsOf d c).length - (k + 1) < (wsOf d c).length - k; omega), ⟨⟨(by show k + 1 ≤ (wsOf d c).length; omega), (by show (rs ++ [(3, wrap64 (1 - c), 1001)]).length ≤ k + 1; rw [List.length_append]; show rs.length + 1 ≤ k + 1; omega)⟩, ⟨?_, ?_⟩, ?_⟩, ⟨?_, rfl, rfl, rfl, rfl, rfl, trivial⟩, rfl, 2, Nat.le_of_ble_eq_true rfl, rfl, ?_⟩
        · show Hd.nm (n + 1) = recH nn (rs ++ [(3, wrap64 (1 - c), 1001)]).length
          rw [List.length_append, hn]
          rfl
        · show n + 2 = nn + 2 * (rs ++ [(3, wrap64 (1 - c), 1001)]).length
          rw [List.length_append, hn]
          show _ = nn + 2 * (rs.length + 1)
          omega
        · show _ = putsAll ((putsF (D, rs) l c (nthD writeT (wsOf d c) k).1 (nthD writeT (wsOf d c) k).2).1, rs ++ [(3, wrap64 (1 - c), 1001)]) l c ((wsOf d c).drop (k + 1))
          rw [hall, hstep (by omega), hp]
        · show some (SV.a (AV.of (V.leaf Ty.int (wrap64 ((k : Int) + 1))))) = some (SV.a (AV.of (V.leaf Ty.int ((k + 1 : Nat) : Int))))
          rw [← wrap_succ k (by omega)]
        · rw [hp]
          rfl
      · rename_i h1 hh
        have h1 : (k : Int) < ((wsOf d c).length : Int) := h1
        have hp : putsF (D, rs) l c (nthD writeT (wsOf d c) k).1 (nthD writeT (wsOf d c) k).2 = _ := if_neg (by rw [show holdsF D (wrap64 (1 - c)) (lineOf (nthD writeT (wsOf d c) k).1) = false from hh]; decide)
        refine ⟨(k + 1, (putsF (D, rs) l c (nthD writeT (wsOf d c) k).1 (nthD writeT (wsOf d c) k).2).1, rs, hd, n), (by show (wsOf d c).length - (k + 1) < (wsOf d c).length - k; omega), ⟨⟨(by show k + 1 ≤ (wsOf d c).length; omega), (by show rs.length ≤ k + 1; omega)⟩, ⟨hhd, hn⟩, ?_⟩, ⟨?_, rfl, rfl, rfl, rfl, rfl, trivial⟩, rfl, 2, Nat.le_of_ble_eq_true rfl, rfl, ?_⟩
        · show _ = putsAll ((putsF (D, rs) l c (nthD writeT (wsOf d c) k).1 (nthD writeT (wsOf d c) k).2).1, rs) l c ((wsOf d c).drop (k + 1))
          rw [hall, hstep (by omega), hp]
        · show some (SV.a (AV.of (V.leaf Ty.int (wrap64 ((k : Int) + 1))))) = some (SV.a (AV.of (V.leaf Ty.int ((k + 1 : Nat) : Int))))
          rw [← wrap_succ k (by omega)]
        · rw [hp]
          rfl
      · exact few_small (by omega)
      · rename_i h1
        have h1 : ¬ (k : Int) < ((wsOf d c).length : Int) := h1
        have hkl : (wsOf d c).drop k = [] := List.drop_of_length_le (by omega)
        have hend : endF d l c = (D, rs ++ [(2, c, wrap64 ((d.1 c.toNat).2.2.2.2.2 + 1))]) := by
          unfold endF
          rw [if_neg h, if_neg h2, hall, hkl]
          rfl
        refine Done.of ?_ (Or.inr ?_)
        · show ((D, l, c, Hd.nm (n + 1), rs ++ [(2, c, wrap64 ((d.1 c.toNat).2.2.2.2.2 + 1))]), ()) = (outT nn (endF d l c) l c, ())
          rw [hend]
          unfold outT
          rw [List.length_append, hn]
          rfl
        · show n + 1 + 1 ≤ nn + 2 * (endF d l c).2.length
          rw [hend]
          show n + 1 + 1 ≤ nn + 2 * (rs ++ [(2, c, wrap64 ((d.1 c.toNat).2.2.2.2.2 + 1))]).length
          rw [List.length_append, hn]
          show _ ≤ nn + 2 * (rs.length + 1)
          omega
end Go.Proofs.Ytjbbgpacijageab.M
