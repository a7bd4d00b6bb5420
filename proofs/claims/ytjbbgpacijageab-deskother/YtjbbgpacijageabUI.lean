/- Several texts in one. -/
import Derived.Test.YtjbbgpacijageabG6
/- Package desk: the end of a transaction. -/
namespace Go.Proofs.Ytjbbgpacijageab.M
open Go.RowKit
set_option linter.unusedVariables false
set_option linter.unusedSimpArgs false

def putsAll (x : deskT.D × Rec) (l : progsT.D) (c : Int) (ws : List writeT.D) : deskT.D × Rec := ws.foldl (fun x w => putsF x l c w.1 w.2) x
def downC (x : coreT.D) : coreT.D := (x.1, x.2.1, wrap64 (x.2.2.1 - 1), x.2.2.2)
def endedD (d : deskT.D) (c : Int) : deskT.D := setCore d c.toNat (nextF (freedF (d.1 c.toNat)).1, (freedF (d.1 c.toNat)).2)
def endF (d : deskT.D) (l : progsT.D) (c : Int) : deskT.D × Rec :=
  if (d.1 c.toNat).2.2.1 = 0 then stuckF d l c else
  if 1 < (d.1 c.toNat).2.2.1 then onF (setCore d c.toNat (downC (d.1 c.toNat))) c else
  ((putsAll (endedD d c, []) l c (wsOf d c)).1, (putsAll (endedD d c, []) l c (wsOf d c)).2 ++ [(2, c, wrap64 ((d.1 c.toNat).2.2.2.2.2 + 1))])
theorem drop_nthW {ws : List writeT.D} {k : Nat} (h : k < ws.length) : ws.drop k = nthD writeT ws k :: ws.drop (k + 1) := by
  rw [List.drop_eq_getElem_cons h, nthD_eq h]
theorem few_small {rs : Rec} {r : recordT.D} (h : rs.length ≤ 1000) : rs.length + (ownL recordT (updA (Ty.arr 1 recordT).zero 0 r) 0 1).length ≤ 140737488355328 ∧ (rs.length + (ownL recordT (updA (Ty.arr 1 recordT).zero 0 r) 0 1).length) * recordT.byt ≤ 140737488355328 := ⟨(by show rs.length + 1 ≤ 140737488355328; omega), (by show (rs.length + 1) * 24 ≤ 140737488355328; omega)⟩
abbrev endS : Spec := turnS [] (fun t _ => (wsOf t.1 t.2.2.1).length ≤ 4) fun t _ => endF t.1 t.2.1 t.2.2.1
abbrev recTr : MTr := Inl tabR [] Try.f66 [turnT]
set_option maxHeartbeats 8000000 in
theorem c_ends : Ctr Try.prog 62 endS := by
  refine ctr_ofT [(nilH, 3)] ⟨[3], rfl⟩ tabROk (SpecsOk.cons c_isStuck (by kernel_rfl) (SpecsOk.cons c_goesOn (by kernel_rfl) (SpecsOk.cons c_freed (by kernel_rfl) (SpecsOk.cons c_Next (by kernel_rfl) (SpecsOk.mut (inl_ok tabROk (SpecsOk.cons c_dOther (by kernel_rfl) (SpecsOk.cons c_Holds (by kernel_rfl) (SpecsOk.cons c_Own (by kernel_rfl) (SpecsOk.cons c_Write (by kernel_rfl) (SpecsOk.mut (inl_ok tabROk (SpecsOk.cons c_failed (by kernel_rfl) (SpecsOk.mut (inl_ok tabROk (SpecsOk.nil _) Try.func66 [turnT]) (by kernel_rfl) (SpecsOk.nil _))) Try.func49 [turnT]) (by kernel_rfl) (SpecsOk.nil _)))))) Try.func78 [turnT]) (by kernel_rfl) (SpecsOk.mut (inl_ok tabROk (SpecsOk.nil _) Try.func66 [turnT]) (by kernel_rfl) (SpecsOk.nil _))))))) Try.func62 rfl _ (Nat.le_of_ble_eq_true rfl) (fun h => by cases h) ?_
  rintro nn ⟨⟨d, l, (c : Int), h, rs⟩, ⟨⟩⟩ ⟨⟨hc, hr⟩, hws⟩ hb
  obtain ⟨rfl, rfl⟩ := Prod.mk.inj hr
  have hc : 0 ≤ c ∧ c < 2 := hc
  have hws : (wsOf d c).length ≤ 4 := hws
  have hother : 0 ≤ wrap64 (1 - c) ∧ wrap64 (1 - c) < 2 := by rw [other_eq hc]; omega
  refine ⟨200, init_k fun K1 n1 => ?_⟩
  conv => whnf
  refine n1 _ ?_
  clear n1 K1
  repeat' (first | with_reducible refine seq_k fun K1 n1 => ?_ | with_reducible refine seq_nil ?_ | with_reducible refine drw_k fun K1 n1 => ?_ | with_reducible refine drw_nil ?_ ?_ | with_reducible refine run_seq ?_ | with_reducible refine run_skip ?_ | with_reducible refine run_regS ?_ | with_reducible refine run_regD (by kernel_rfl) ?_ ?_ | with_reducible refine inl_k (by with_unfolding_all rfl) (Nat.le_of_ble_eq_true rfl) fun K1 n1 => ?_ | with_reducible refine inlA_k (by with_unfolding_all rfl) (Nat.le_of_ble_eq_true rfl) fun K1 n1 => ?_ | with_reducible refine run_finA ?_ | with_reducible refine run_cond ?_ | with_reducible refine run_block ?_ | with_reducible refine run_endb ?_ | with_reducible refine run_exit fun K1 n1 => ?_ | with_reducible refine run_ret fun K1 n1 => ?_ | with_reducible refine run_fin ?_ | with_reducible refine run_inv ?_ | with_reducible refine go_rounds ?_ | ((with_reducible refine Go.mk ?_); (conv => whnf)) | refine Fork.yes ?_ | refine Fork.no ?_ | refine Fork.dec (fun _ => ?_) (fun _ => ?_) | refine Fork.ndec (fun _ => ?_) (fun _ => ?_) | refine Fork.mk (fun _ => ?_) (fun _ => ?_) | refine Way.yesG ?_ | refine Way.noG ?_ | refine Way.decG (fun _ => ?_) (fun _ => ?_) | refine Way.ndecG (fun _ => ?_) (fun _ => ?_) | refine Way.mkG (fun _ => ?_) (fun _ => ?_) | with_reducible refine Need.mkG ?_ ?_ | refine AppW.go0 ?_ ?_ | with_reducible refine NilW.goG (fun _ => ?_) ?_ | ((with_reducible refine n1 _ _ _ ?_); clear n1 K1) | ((with_reducible refine n1 _ ?_); clear n1 K1) | ((with_reducible refine n1 _ _ ?_); clear n1 K1) | ((with_reducible refine n1 _ _ _ _ ?_); clear n1 K1) | fail)
  all_goals try (first | exact trivial | omega | kernel_rfl | decide | exact And.intro (by omega) (by omega))
  all_goals try dsimp only [Int.toNat_natCast] at *
  all_goals try (first | exact trivial | omega | exact And.intro (by omega) (by omega))
  · exact ⟨⟨hc, rfl⟩, trivial⟩
  · rename_i h
    refine turn_done (t := (d, l, c, nilH, [])) ?_
    show _ = endF d l c
    unfold endF
    rw [if_pos h]
  · exact ⟨⟨hc, rfl⟩, trivial⟩
  · rename_i h h2
    refine turn_done (t := (d, l, c, nilH, [])) ?_
    show _ = endF d l c
    unfold endF
    rw [if_neg h, if_pos h2]
    rfl
  · rename_i h h2
    have hE : ((updA (updA d.1 c.toNat (freedF (d.1 c.toNat))) c.toNat (nextF (updA d.1 c.toNat (freedF (d.1 c.toNat)) c.toNat).1, (updA d.1 c.toNat (freedF (d.1 c.toNat)) c.toNat).2), d.2) : deskT.D) = endedD d c := by
      rw [updA_at, updA_twice]
      rfl
    refine run_loop (loop_fam (ι := Nat × deskT.D × Rec × Hd × Nat) (fun i => [(61, .a (.of (.leaf .int (i.1 : Int)))), (60, .a (.of (.leaf .int ((wsOf d c).length : Int)))), (59, .a (.of (.leaf (.lst writeT) (d.1 c.toNat).2.2.2.2.1))), (5, .a (.of (.leaf .int (wrap64 ((d.1 c.toNat).2.2.2.2.2 + 1))))), (2, .a (.ptr 1 0 [] turnT)), (1, .a (.ptr 0 0 [] turnT))])
      (fun i => [.leaf turnT (i.2.1, l, c, (i.2.2.2.1, i.2.2.1)), .leaf turnT turnT.zero]) (fun i => ⟨i.2.2.2.2, [(i.2.2.2.1, 3)]⟩) (fun i => (wsOf d c).length - i.1)
      (fun i => (i.1 ≤ (wsOf d c).length ∧ i.2.2.1.length ≤ i.1) ∧ (i.2.2.2.1 = recH nn i.2.2.1.length ∧ i.2.2.2.2 = nn + 2 * i.2.2.1.length) ∧ putsAll (endedD d c, []) l c (wsOf d c) = putsAll (i.2.1, i.2.2.1) l c ((wsOf d c).drop i.1)) ?_ ?_)
    · exact ⟨(0, _, [], nilH, nn), ⟨⟨Nat.zero_le _, Nat.le_refl _⟩, ⟨rfl, rfl⟩, by rw [← hE]; rfl⟩, ⟨rfl, rfl, rfl, rfl, rfl, rfl, trivial⟩, rfl, 2, Nat.le_refl _, rfl, rfl⟩
    · rintro ⟨k, D, rs, hd, n⟩ ⟨⟨hk, hrl⟩, ⟨hhd, hn⟩, hall⟩
      have hk : k ≤ (wsOf d c).length := hk
      have hrl : rs.length ≤ k := hrl
      have hhd : hd = recH nn rs.length := hhd
      have hn : n = nn + 2 * rs.length := hn
      have hall : putsAll (endedD d c, []) l c (wsOf d c) = putsAll (D, rs) l c ((wsOf d c).drop k) := hall
      have hstep : k < (wsOf d c).length → putsAll (D, rs) l c ((wsOf d c).drop k) = putsAll (putsF (D, rs) l c (nthD writeT (wsOf d c) k).1 (nthD writeT (wsOf d c) k).2) l c ((wsOf d c).drop (k + 1)) := fun hlt => by
        rw [drop_nthW hlt]
        rfl
      repeat' (first | with_reducible refine seq_k fun K1 n1 => ?_ | with_reducible refine seq_nil ?_ | with_reducible refine drw_k fun K1 n1 => ?_ | with_reducible refine drw_nil ?_ ?_ | with_reducible refine run_seq ?_ | with_reducible refine run_skip ?_ | with_reducible refine run_regS ?_ | with_reducible refine run_regD (by kernel_rfl) ?_ ?_ | with_reducible refine inl_k (by with_unfolding_all rfl) (Nat.le_of_ble_eq_true rfl) fun K1 n1 => ?_ | with_reducible refine inlA_k (by with_unfolding_all rfl) (Nat.le_of_ble_eq_true rfl) fun K1 n1 => ?_ | with_reducible refine run_finA ?_ | with_reducible refine run_cond ?_ | with_reducible refine run_block ?_ | with_reducible refine run_endb ?_ | with_reducible refine run_exit fun K1 n1 => ?_ | with_reducible refine run_ret fun K1 n1 => ?_ | with_reducible refine run_fin ?_ | with_reducible refine run_inv ?_ | with_reducible refine go_rounds ?_ | ((with_reducible refine Go.mk ?_); (conv => whnf)) | refine Fork.yes ?_ | refine Fork.no ?_ | refine Fork.dec (fun _ => ?_) (fun _ => ?_) | refine Fork.ndec (fun _ => ?_) (fun _ => ?_) | refine Fork.mk (fun _ => ?_) (fun _ => ?_) | refine Way.yesG ?_ | refine Way.noG ?_ | refine Way.decG (fun _ => ?_) (fun _ => ?_) | refine Way.ndecG (fun _ => ?_) (fun _ => ?_) | refine Way.mkG (fun _ => ?_) (fun _ => ?_) | with_reducible refine Need.mkG ?_ ?_ | refine AppW.go0 ?_ ?_ | with_reducible refine NilW.goG (fun _ => ?_) ?_ | ((with_reducible refine n1 _ _ _ ?_); clear n1 K1) | ((with_reducible refine n1 _ ?_); clear n1 K1) | ((with_reducible refine n1 _ _ ?_); clear n1 K1) | ((with_reducible refine n1 _ _ _ _ ?_); clear n1 K1) | fail)
      all_goals try (first | exact trivial | omega | kernel_rfl | decide | exact And.intro (by omega) (by omega))
      all_goals try dsimp only [Int.toNat_natCast] at *
      all_goals try (first | exact trivial | omega | exact And.intro (by omega) (by omega))
      · rename_i h1
        have h1 : (k : Int) < ((wsOf d c).length : Int) := h1
        exact ⟨by omega, h1⟩
      · exact few_small (by omega)
      · rename_i h1 hh
        have h1 : (k : Int) < ((wsOf d c).length : Int) := h1
        have hp : putsF (D, rs) l c (nthD writeT (wsOf d c) k).1 (nthD writeT (wsOf d c) k).2 = _ := if_pos hh
        refine ⟨(k + 1, (putsF (D, rs) l c (nthD writeT (wsOf d c) k).1 (nthD writeT (wsOf d c) k).2).1, rs ++ [(3, wrap64 (1 - c), 1001)], .nm (n + 1), n + 2), (by show (wsOf d c).length - (k + 1) < (wsOf d c).length - k; omega), ⟨⟨(by show k + 1 ≤ (wsOf d c).length; omega), (by show (rs ++ [(3, wrap64 (1 - c), 1001)]).length ≤ k + 1; rw [List.length_append]; show rs.length + 1 ≤ k + 1; omega)⟩, ⟨?_, ?_⟩, ?_⟩, ⟨?_, rfl, rfl, rfl, rfl, rfl, trivial⟩, rfl, 2, Nat.le_of_ble_eq_true rfl, rfl, ?_⟩
        · show Hd.nm (n + 1) = recH nn (rs ++ [(3, wrap64 (1 - c), 1001)]).length
          rw [List.length_append, hn]
          rfl
        · show n + 2 = nn + 2 * (rs ++ [(3, wrap64 (1 - c), 1001)]).length
          rw [List.length_append, hn]
          show _ = nn + 2 * (rs.length + 1)
          omega
        · show _ = putsAll ((putsF (D, rs) l c (nthD writeT (wsOf d c) k).1 (nthD writeT (wsOf d c) k).2).1, rs ++ [(3, wrap64 (1 - c), 1001)]) l c ((wsOf d c).drop (k + 1))
          rw [hall, hstep (by omega), hp]
        · show some (SV.a (AV.of (V.leaf Ty.int (wrap64 ((k : Int) + 1))))) = some (SV.a (AV.of (V.leaf Ty.int ((k + 1 : Nat) : Int))))
          rw [← wrap_succ k (by omega)]
        · rw [hp]
          rfl
      · rename_i h1 hh
        have h1 : (k : Int) < ((wsOf d c).length : Int) := h1
        have hp : putsF (D, rs) l c (nthD writeT (wsOf d c) k).1 (nthD writeT (wsOf d c) k).2 = _ := if_neg (by rw [show holdsF D (wrap64 (1 - c)) (lineOf (nthD writeT (wsOf d c) k).1) = false from hh]; decide)
        refine ⟨(k + 1, (putsF (D, rs) l c (nthD writeT (wsOf d c) k).1 (nthD writeT (wsOf d c) k).2).1, rs, hd, n), (by show (wsOf d c).length - (k + 1) < (wsOf d c).length - k; omega), ⟨⟨(by show k + 1 ≤ (wsOf d c).length; omega), (by show rs.length ≤ k + 1; omega)⟩, ⟨hhd, hn⟩, ?_⟩, ⟨?_, rfl, rfl, rfl, rfl, rfl, trivial⟩, rfl, 2, Nat.le_of_ble_eq_true rfl, rfl, ?_⟩
        · show _ = putsAll ((putsF (D, rs) l c (nthD writeT (wsOf d c) k).1 (nthD writeT (wsOf d c) k).2).1, rs) l c ((wsOf d c).drop (k + 1))
          rw [hall, hstep (by omega), hp]
        · show some (SV.a (AV.of (V.leaf Ty.int (wrap64 ((k : Int) + 1))))) = some (SV.a (AV.of (V.leaf Ty.int ((k + 1 : Nat) : Int))))
          rw [← wrap_succ k (by omega)]
        · rw [hp]
          rfl
      · exact few_small (by omega)
      · rename_i h1
        have h1 : ¬ (k : Int) < ((wsOf d c).length : Int) := h1
        have hkl : (wsOf d c).drop k = [] := List.drop_of_length_le (by omega)
        have hend : endF d l c = (D, rs ++ [(2, c, wrap64 ((d.1 c.toNat).2.2.2.2.2 + 1))]) := by
          unfold endF
          rw [if_neg h, if_neg h2, hall, hkl]
          rfl
        refine Done.of ?_ (Or.inr ?_)
        · show ((D, l, c, Hd.nm (n + 1), rs ++ [(2, c, wrap64 ((d.1 c.toNat).2.2.2.2.2 + 1))]), ()) = (outT nn (endF d l c) l c, ())
          rw [hend]
          unfold outT
          rw [List.length_append, hn]
          rfl
        · show n + 1 + 1 ≤ nn + 2 * (endF d l c).2.length
          rw [hend]
          show n + 1 + 1 ≤ nn + 2 * (rs ++ [(2, c, wrap64 ((d.1 c.toNat).2.2.2.2.2 + 1))]).length
          rw [List.length_append, hn]
          show _ ≤ nn + 2 * (rs.length + 1)
          omega
end Go.Proofs.Ytjbbgpacijageab.M

/- Package desk: Step, Evict, Kick. -/
namespace Go.Proofs.Ytjbbgpacijageab.M
open Go.RowKit
set_option linter.unusedVariables false
set_option linter.unusedSimpArgs false

theorem c_dIsWay : Ctr Try.prog 48 (isBS 4) := by
  refine ctr_of tabOk (SpecsOk.nil _) Try.func48 rfl _ (Nat.le_of_ble_eq_true rfl) (fun _ _ => rfl) ?_
  rintro nn ⟨(n : Int), ⟨⟩⟩ _ _
  refine ⟨200, init_k fun K1 n1 => ?_⟩
  conv => whnf
  refine n1 _ ?_
  clear n1 K1
  repeat' (first | with_reducible refine seq_k fun K1 n1 => ?_ | with_reducible refine seq_nil ?_ | with_reducible refine drw_k fun K1 n1 => ?_ | with_reducible refine drw_nil ?_ ?_ | with_reducible refine run_seq ?_ | with_reducible refine run_skip ?_ | with_reducible refine run_regS ?_ | with_reducible refine run_regD (by kernel_rfl) ?_ ?_ | with_reducible refine inl_k (by with_unfolding_all rfl) (Nat.le_of_ble_eq_true rfl) fun K1 n1 => ?_ | with_reducible refine inlA_k (by with_unfolding_all rfl) (Nat.le_of_ble_eq_true rfl) fun K1 n1 => ?_ | with_reducible refine run_finA ?_ | with_reducible refine run_cond ?_ | with_reducible refine run_block ?_ | with_reducible refine run_endb ?_ | with_reducible refine run_exit fun K1 n1 => ?_ | with_reducible refine run_ret fun K1 n1 => ?_ | with_reducible refine run_fin ?_ | with_reducible refine run_inv ?_ | with_reducible refine go_rounds ?_ | ((with_reducible refine Go.mk ?_); (conv => whnf)) | refine Fork.yes ?_ | refine Fork.no ?_ | refine Fork.dec (fun _ => ?_) (fun _ => ?_) | refine Fork.ndec (fun _ => ?_) (fun _ => ?_) | refine Fork.mk (fun _ => ?_) (fun _ => ?_) | refine Way.yesG ?_ | refine Way.noG ?_ | refine Way.decG (fun _ => ?_) (fun _ => ?_) | refine Way.ndecG (fun _ => ?_) (fun _ => ?_) | refine Way.mkG (fun _ => ?_) (fun _ => ?_) | with_reducible refine Need.mkG ?_ ?_ | refine AppW.go0 ?_ ?_ | with_reducible refine NilW.goG (fun _ => ?_) ?_ | ((with_reducible refine n1 _ _ _ ?_); clear n1 K1) | ((with_reducible refine n1 _ ?_); clear n1 K1) | ((with_reducible refine n1 _ _ ?_); clear n1 K1) | ((with_reducible refine n1 _ _ _ _ ?_); clear n1 K1) | fail)
  all_goals try (first | exact trivial | omega | kernel_rfl | decide | exact And.intro (by omega) (by omega))
  all_goals try dsimp only [Int.toNat_natCast] at *
  all_goals try (first | exact trivial | omega | exact And.intro (by omega) (by omega))
  all_goals refine Done.of ?_ (Or.inl rfl)
  all_goals simp [isB, *]
/-- A turn whose desk may have a new list of writes. -/
abbrev turnNS (args : List Ty) (pre : turnT.D → DL args → Prop) (F : Nat → turnT.D → DL args → deskT.D × Rec) : Spec :=
  { args := turnT :: args, res := [turnT], cr := true, m := fun d => 2 * (F 0 d.1 d.2).2.length + 2, fn := fun nn d => (outT nn (F nn d.1 d.2) d.1.2.1 d.1.2.2.1, ()), pre := fun d => newT d.1 ∧ pre d.1 d.2 }
theorem turnN_done {args : List Ty} {pre : turnT.D → DL args → Prop} {F : Nat → turnT.D → DL args → deskT.D × Rec} {nn n : Nat} {t : turnT.D} {a : DL args} {x : deskT.D × Rec} {tk : List (Hd × Nat)} (hx : x = F nn t a) (hF : (F nn t a).2 = (F 0 t a).2) (hn : n ≤ nn + 2 * x.2.length + 2) : Done (turnNS args pre F) nn (t, a) (outT nn x t.2.1 t.2.2.1, ()) ⟨n, tk⟩ := by
  subst hx
  refine Done.of rfl (Or.inr ?_)
  show n ≤ nn + (2 * (F 0 t a).2.length + 2)
  rw [← hF]
  omega
def touchT (nn : Nat) (d : deskT.D) (l : progsT.D) (c : Int) (i : instrT.D) : deskT.D × Rec :=
  if wordF (d.1 c.toNat).1 i < 32 then
    if (d.1 c.toNat).2.2.1 = 0 then outF d l c i (wordF (d.1 c.toNat).1 i) else inF nn d l c i (wordF (d.1 c.toNat).1 i)
  else stuckF d l c
theorem in_rec (nn : Nat) (d : deskT.D) (l : progsT.D) (c : Int) (i : instrT.D) (word : Int) : (inF nn d l c i word).2 = (inF 0 d l c i word).2 := by
  unfold inF
  split
  · rfl
  · unfold onF countF withNow
    rw [set_at, set_at]
    show (if _ then _ else _ : deskT.D × Rec).2 = (if _ then _ else _ : deskT.D × Rec).2
    rw [show ((keptF nn (seenF d c i word) c i word (getF (d.1 c.toNat).1 i.2.1)).1 c.toNat).2.2.1 = ((keptF 0 (seenF d c i word) c i word (getF (d.1 c.toNat).1 i.2.1)).1 c.toNat).2.2.1 from by rw [kept_deep, kept_deep]]
    split <;> rfl
theorem touch_rec (nn : Nat) (d : deskT.D) (l : progsT.D) (c : Int) (i : instrT.D) : (touchT nn d l c i).2 = (touchT 0 d l c i).2 := by
  unfold touchT
  split
  · split
    · rfl
    · exact in_rec _ _ _ _ _ _
  · rfl
abbrev touchTS : Spec := turnNS [instrT] (fun t _ => (wsOf t.1 t.2.2.1).length ≤ 4) fun nn t a => touchT nn t.1 t.2.1 t.2.2.1 a.1
theorem c_touches : Ctr Try.prog 64 touchTS := by
  refine ctr_of tabOk (SpecsOk.cons c_Word (by kernel_rfl) (SpecsOk.cons c_isStuck (by kernel_rfl) (SpecsOk.cons c_touchesOutside (by kernel_rfl) (SpecsOk.cons c_touchesInside (by kernel_rfl) (SpecsOk.nil _))))) Try.func64 rfl _ (Nat.le_of_ble_eq_true rfl) (fun h => by cases h) ?_
  rintro nn ⟨⟨d, l, (c : Int), h, rs⟩, i, ⟨⟩⟩ ⟨⟨hc, hr⟩, hws⟩ hb
  obtain ⟨rfl, rfl⟩ := Prod.mk.inj hr
  refine ⟨200, init_k fun K1 n1 => ?_⟩
  conv => whnf
  refine n1 _ ?_
  clear n1 K1
  repeat' (first | with_reducible refine seq_k fun K1 n1 => ?_ | with_reducible refine seq_nil ?_ | with_reducible refine drw_k fun K1 n1 => ?_ | with_reducible refine drw_nil ?_ ?_ | with_reducible refine run_seq ?_ | with_reducible refine run_skip ?_ | with_reducible refine run_regS ?_ | with_reducible refine run_regD (by kernel_rfl) ?_ ?_ | with_reducible refine inl_k (by with_unfolding_all rfl) (Nat.le_of_ble_eq_true rfl) fun K1 n1 => ?_ | with_reducible refine inlA_k (by with_unfolding_all rfl) (Nat.le_of_ble_eq_true rfl) fun K1 n1 => ?_ | with_reducible refine run_finA ?_ | with_reducible refine run_cond ?_ | with_reducible refine run_block ?_ | with_reducible refine run_endb ?_ | with_reducible refine run_exit fun K1 n1 => ?_ | with_reducible refine run_ret fun K1 n1 => ?_ | with_reducible refine run_fin ?_ | with_reducible refine run_inv ?_ | with_reducible refine go_rounds ?_ | ((with_reducible refine Go.mk ?_); (conv => whnf)) | refine Fork.yes ?_ | refine Fork.no ?_ | refine Fork.dec (fun _ => ?_) (fun _ => ?_) | refine Fork.ndec (fun _ => ?_) (fun _ => ?_) | refine Fork.mk (fun _ => ?_) (fun _ => ?_) | refine Way.yesG ?_ | refine Way.noG ?_ | refine Way.decG (fun _ => ?_) (fun _ => ?_) | refine Way.ndecG (fun _ => ?_) (fun _ => ?_) | refine Way.mkG (fun _ => ?_) (fun _ => ?_) | with_reducible refine Need.mkG ?_ ?_ | refine AppW.go0 ?_ ?_ | with_reducible refine NilW.goG (fun _ => ?_) ?_ | ((with_reducible refine n1 _ _ _ ?_); clear n1 K1) | ((with_reducible refine n1 _ ?_); clear n1 K1) | ((with_reducible refine n1 _ _ ?_); clear n1 K1) | ((with_reducible refine n1 _ _ _ _ ?_); clear n1 K1) | fail)
  all_goals try (first | exact trivial | omega | kernel_rfl | decide | exact And.intro (by omega) (by omega))
  all_goals try dsimp only [Int.toNat_natCast] at *
  all_goals try (first | exact trivial | omega | exact And.intro (by omega) (by omega))
  all_goals first
    | exact ⟨⟨hc, rfl⟩, trivial⟩
    | exact ⟨⟨hc, rfl⟩, by assumption, hws⟩
    | skip
  · rename_i h
    refine turnN_done (t := (d, l, c, nilH, [])) ?_ (touch_rec nn d l c i) (Nat.le_add_right _ _)
    show _ = touchT nn d l c i
    unfold touchT
    rw [if_neg h]
  · rename_i h h2
    refine turnN_done (t := (d, l, c, nilH, [])) ?_ (touch_rec nn d l c i) (Nat.le_add_right _ _)
    show _ = touchT nn d l c i
    unfold touchT
    rw [if_pos h, if_pos h2]
  · rename_i h h2
    refine turnN_done (t := (d, l, c, nilH, [])) ?_ (touch_rec nn d l c i) (by omega)
    show _ = touchT nn d l c i
    unfold touchT
    rw [if_pos h, if_neg h2]
def stepsF (nn : Nat) (d : deskT.D) (l : progsT.D) (c : Int) : deskT.D × Rec :=
  if (d.1 c.toNat).2.2.2.2.2 = 399 then failD d l c 1002 else
  if (fetchF (l c.toNat).2 (d.1 c.toNat).1).1 = 9 then beginF d l c else
  if (fetchF (l c.toNat).2 (d.1 c.toNat).1).1 = 10 then endF d l c else
  if (fetchF (l c.toNat).2 (d.1 c.toNat).1).1 = 11 then giveF d l c (fetchF (l c.toNat).2 (d.1 c.toNat).1).2.2.2.2 else
  if (fetchF (l c.toNat).2 (d.1 c.toNat).1).1 = 5 ∨ (fetchF (l c.toNat).2 (d.1 c.toNat).1).1 = 6 ∨ (fetchF (l c.toNat).2 (d.1 c.toNat).1).1 = 7 then touchT nn d l c (fetchF (l c.toNat).2 (d.1 c.toNat).1)
  else aloneT d l c (fetchF (l c.toNat).2 (d.1 c.toNat).1)
theorem steps_rec (nn : Nat) (d : deskT.D) (l : progsT.D) (c : Int) : (stepsF nn d l c).2 = (stepsF 0 d l c).2 := by
  unfold stepsF
  split
  · rfl
  · split
    · rfl
    · split
      · rfl
      · split
        · rfl
        · split
          · exact touch_rec _ _ _ _ _
          · rfl
abbrev stepsS : Spec := turnNS [] (fun t _ => (wsOf t.1 t.2.2.1).length ≤ 4) fun nn t _ => stepsF nn t.1 t.2.1 t.2.2.1
set_option maxHeartbeats 1600000 in
theorem c_steps : Ctr Try.prog 47 stepsS := by
  refine ctr_of tabOk (SpecsOk.cons c_fails (by kernel_rfl) (SpecsOk.cons c_Fetch (by kernel_rfl) (SpecsOk.cons c_begins (by kernel_rfl) (SpecsOk.cons c_ends (by kernel_rfl) (SpecsOk.cons c_givesUp (by kernel_rfl) (SpecsOk.cons c_touches (by kernel_rfl) (SpecsOk.cons c_worksAlone (by kernel_rfl) (SpecsOk.nil _)))))))) Try.func47 rfl _ (Nat.le_of_ble_eq_true rfl) (fun h => by cases h) ?_
  rintro nn ⟨⟨d, l, (c : Int), h, rs⟩, ⟨⟩⟩ ⟨⟨hc, hr⟩, hws⟩ hb
  obtain ⟨rfl, rfl⟩ := Prod.mk.inj hr
  refine ⟨200, init_k fun K1 n1 => ?_⟩
  conv => whnf
  refine n1 _ ?_
  clear n1 K1
  repeat' (first | with_reducible refine seq_k fun K1 n1 => ?_ | with_reducible refine seq_nil ?_ | with_reducible refine drw_k fun K1 n1 => ?_ | with_reducible refine drw_nil ?_ ?_ | with_reducible refine run_seq ?_ | with_reducible refine run_skip ?_ | with_reducible refine run_regS ?_ | with_reducible refine run_regD (by kernel_rfl) ?_ ?_ | with_reducible refine inl_k (by with_unfolding_all rfl) (Nat.le_of_ble_eq_true rfl) fun K1 n1 => ?_ | with_reducible refine inlA_k (by with_unfolding_all rfl) (Nat.le_of_ble_eq_true rfl) fun K1 n1 => ?_ | with_reducible refine run_finA ?_ | with_reducible refine run_cond ?_ | with_reducible refine run_block ?_ | with_reducible refine run_endb ?_ | with_reducible refine run_exit fun K1 n1 => ?_ | with_reducible refine run_ret fun K1 n1 => ?_ | with_reducible refine run_fin ?_ | with_reducible refine run_inv ?_ | with_reducible refine go_rounds ?_ | ((with_reducible refine Go.mk ?_); (conv => whnf)) | refine Fork.yes ?_ | refine Fork.no ?_ | refine Fork.dec (fun _ => ?_) (fun _ => ?_) | refine Fork.ndec (fun _ => ?_) (fun _ => ?_) | refine Fork.mk (fun _ => ?_) (fun _ => ?_) | refine Way.yesG ?_ | refine Way.noG ?_ | refine Way.decG (fun _ => ?_) (fun _ => ?_) | refine Way.ndecG (fun _ => ?_) (fun _ => ?_) | refine Way.mkG (fun _ => ?_) (fun _ => ?_) | with_reducible refine Need.mkG ?_ ?_ | refine AppW.go0 ?_ ?_ | with_reducible refine NilW.goG (fun _ => ?_) ?_ | ((with_reducible refine n1 _ _ _ ?_); clear n1 K1) | ((with_reducible refine n1 _ ?_); clear n1 K1) | ((with_reducible refine n1 _ _ ?_); clear n1 K1) | ((with_reducible refine n1 _ _ _ _ ?_); clear n1 K1) | fail)
  all_goals try (first | exact trivial | omega | kernel_rfl | decide | exact And.intro (by omega) (by omega))
  all_goals try dsimp only [Int.toNat_natCast] at *
  all_goals try (first | exact trivial | omega | exact And.intro (by omega) (by omega))
  all_goals first
    | exact ⟨⟨hc, rfl⟩, trivial⟩
    | exact ⟨⟨hc, rfl⟩, hc⟩
    | exact ⟨⟨hc, rfl⟩, hws⟩
    | skip
  all_goals
    refine turnN_done (t := (d, l, c, nilH, [])) ?_ (steps_rec nn d l c) ?_
    · show _ = stepsF nn d l c
      unfold stepsF
      simp_all
    · first
        | exact Nat.le_add_right _ _
        | (rw [touch_rec nn]; omega)
theorem good_ws {d : deskT.D} {c : Int} (hg : goodK d = true) (hc : 0 ≤ c ∧ c < 2) : (wsOf d c).length ≤ 4 := by
  have hC : goodC (d.1 c.toNat) = true := by
    unfold goodK at hg
    simp only [Bool.and_eq_true] at hg
    have : c.toNat = 0 ∨ c.toNat = 1 := by omega
    rcases this with h | h
    · rw [h]; exact hg.1
    · rw [h]; exact hg.2.1
  unfold goodC at hC
  simp only [Bool.and_eq_true] at hC
  have h2 := hC.2.2
  unfold wsOf
  split at h2
  · unfold freeF at h2
    simp only [Bool.and_eq_true, decide_eq_true_eq] at h2
    rw [h2.2.1]
    decide
  · simp only [Bool.and_eq_true] at h2
    have h3 := h2.2.2.2.2
    unfold goodWs at h3
    simp only [Bool.and_eq_true, decide_eq_true_eq] at h3
    exact h3.1
/-- What comes of a step: the desk, what is recorded, an error. -/
def stepF (nn : Nat) (d : deskT.D) (l : progsT.D) (c : Int) : deskT.D × Rec × Int :=
  if refF d c = 0 then (if (d.1 c.toNat).1.2.2 = true then (d, [], 4) else ((stepsF nn d l c).1, (stepsF nn d l c).2, 0)) else (d, [], refF d c)
abbrev actS (args : List Ty) (F : Nat → deskT.D → progsT.D → DL args → deskT.D × Rec × Int) : Spec :=
  { args := deskT :: progsT :: args, res := [deskT, .lst recordT, .int], cr := true, m := fun d => 2 * (F 0 d.1 d.2.1 d.2.2).2.1.length + 2, fn := fun nn d => ((F nn d.1 d.2.1 d.2.2).1, (recH nn (F nn d.1 d.2.1 d.2.2).2.1.length, (F nn d.1 d.2.1 d.2.2).2.1), (F nn d.1 d.2.1 d.2.2).2.2, ()), pre := fun _ => True }
theorem act_done {args : List Ty} {F : Nat → deskT.D → progsT.D → DL args → deskT.D × Rec × Int} {nn n : Nat} {d : deskT.D} {l : progsT.D} {a : DL args} {x : deskT.D × Rec × Int} {h : Hd} {tk : List (Hd × Nat)} (hx : x = F nn d l a) (hh : h = recH nn x.2.1.length) (hF : (F nn d l a).2.1 = (F 0 d l a).2.1) (hn : n ≤ nn + 2 * x.2.1.length + 2) : Done (actS args F) nn (d, l, a) (x.1, (h, x.2.1), x.2.2, ()) ⟨n, tk⟩ := by
  subst hx
  subst hh
  refine Done.of rfl (Or.inr ?_)
  show n ≤ nn + (2 * (F 0 d l a).2.1.length + 2)
  rw [← hF]
  omega
theorem step_rec (nn : Nat) (d : deskT.D) (l : progsT.D) (c : Int) : (stepF nn d l c).2.1 = (stepF 0 d l c).2.1 := by
  unfold stepF
  split
  · split
    · rfl
    · exact steps_rec _ _ _ _
  · rfl
abbrev stepS : Spec := actS [.int] fun nn d l a => stepF nn d l a.1
theorem c_Step : Ctr Try.prog 21 stepS := by
  refine ctr_of tabOk (SpecsOk.cons c_refused (by kernel_rfl) (SpecsOk.cons c_steps (by kernel_rfl) (SpecsOk.nil _))) Try.func21 rfl _ (Nat.le_of_ble_eq_true rfl) (fun h => by cases h) ?_
  rintro nn ⟨d, l, (c : Int), ⟨⟩⟩ _ hb
  refine ⟨200, init_k fun K1 n1 => ?_⟩
  conv => whnf
  refine n1 _ ?_
  clear n1 K1
  repeat' (first | with_reducible refine seq_k fun K1 n1 => ?_ | with_reducible refine seq_nil ?_ | with_reducible refine drw_k fun K1 n1 => ?_ | with_reducible refine drw_nil ?_ ?_ | with_reducible refine run_seq ?_ | with_reducible refine run_skip ?_ | with_reducible refine run_regS ?_ | with_reducible refine run_regD (by kernel_rfl) ?_ ?_ | with_reducible refine inl_k (by with_unfolding_all rfl) (Nat.le_of_ble_eq_true rfl) fun K1 n1 => ?_ | with_reducible refine inlA_k (by with_unfolding_all rfl) (Nat.le_of_ble_eq_true rfl) fun K1 n1 => ?_ | with_reducible refine run_finA ?_ | with_reducible refine run_cond ?_ | with_reducible refine run_block ?_ | with_reducible refine run_endb ?_ | with_reducible refine run_exit fun K1 n1 => ?_ | with_reducible refine run_ret fun K1 n1 => ?_ | with_reducible refine run_fin ?_ | with_reducible refine run_inv ?_ | with_reducible refine go_rounds ?_ | ((with_reducible refine Go.mk ?_); (conv => whnf)) | refine Fork.yes ?_ | refine Fork.no ?_ | refine Fork.dec (fun _ => ?_) (fun _ => ?_) | refine Fork.ndec (fun _ => ?_) (fun _ => ?_) | refine Fork.mk (fun _ => ?_) (fun _ => ?_) | refine Way.yesG ?_ | refine Way.noG ?_ | refine Way.decG (fun _ => ?_) (fun _ => ?_) | refine Way.ndecG (fun _ => ?_) (fun _ => ?_) | refine Way.mkG (fun _ => ?_) (fun _ => ?_) | with_reducible refine Need.mkG ?_ ?_ | refine AppW.go0 ?_ ?_ | with_reducible refine NilW.goG (fun _ => ?_) ?_ | ((with_reducible refine n1 _ _ _ ?_); clear n1 K1) | ((with_reducible refine n1 _ ?_); clear n1 K1) | ((with_reducible refine n1 _ _ ?_); clear n1 K1) | ((with_reducible refine n1 _ _ _ _ ?_); clear n1 K1) | fail)
  all_goals try (first | exact trivial | omega | kernel_rfl | decide | exact And.intro (by omega) (by omega))
  all_goals try dsimp only [Int.toNat_natCast] at *
  all_goals try (first | exact trivial | omega | exact And.intro (by omega) (by omega))
  · rename_i h
    exact act_done (x := (d, [], refF d c)) (by show _ = stepF nn d l c; unfold stepF; rw [if_neg h]) rfl (step_rec nn d l c) (by show nn ≤ nn + 2 * 0 + 2; omega)
  · rename_i h
    exact (ref_ok h).2
  · rename_i h h2
    exact act_done (x := (d, [], 4)) (by show _ = stepF nn d l c; unfold stepF; rw [if_pos h, if_pos h2]) rfl (step_rec nn d l c) (by show nn ≤ nn + 2 * 0 + 2; omega)
  · rename_i h h2
    exact ⟨⟨(ref_ok h).2, rfl⟩, good_ws (ref_ok h).1 (ref_ok h).2⟩
  · rename_i h h2
    exact act_done (x := ((stepsF nn d l c).1, (stepsF nn d l c).2, 0)) (by show _ = stepF nn d l c; unfold stepF; rw [if_pos h, if_neg (by rw [h2]; decide)]) rfl (step_rec nn d l c) (by show nn + (2 * (stepsF 0 d l c).2.length + 2) ≤ nn + 2 * (stepsF nn d l c).2.length + 2; rw [steps_rec nn]; omega)
def evictF (d : deskT.D) (l : progsT.D) (c way : Int) : deskT.D × Rec × Int :=
  if refF d c = 0 then
    if 0 ≤ way ∧ way < 4 then
      if ((d.1 c.toNat).2.1 way.toNat).2.2.2 = true then (dropF (failD d l c 1002).1 c way, (failD d l c 1002).2, 0) else (dropF d c way, [], 0)
    else (d, [], 5)
  else (d, [], refF d c)
abbrev evictS : Spec := actS [.int, .int] fun _ d l a => evictF d l a.1 a.2.1
theorem c_Evict : Ctr Try.prog 22 evictS := by
  refine ctr_of tabOk (SpecsOk.cons c_refused (by kernel_rfl) (SpecsOk.cons c_dIsWay (by kernel_rfl) (SpecsOk.cons c_fails (by kernel_rfl) (SpecsOk.cons c_Drop (by kernel_rfl) (SpecsOk.nil _))))) Try.func22 rfl _ (Nat.le_of_ble_eq_true rfl) (fun h => by cases h) ?_
  rintro nn ⟨d, l, (c : Int), (way : Int), ⟨⟩⟩ _ hb
  refine ⟨200, init_k fun K1 n1 => ?_⟩
  conv => whnf
  refine n1 _ ?_
  clear n1 K1
  repeat' (first | with_reducible refine seq_k fun K1 n1 => ?_ | with_reducible refine seq_nil ?_ | with_reducible refine drw_k fun K1 n1 => ?_ | with_reducible refine drw_nil ?_ ?_ | with_reducible refine run_seq ?_ | with_reducible refine run_skip ?_ | with_reducible refine run_regS ?_ | with_reducible refine run_regD (by kernel_rfl) ?_ ?_ | with_reducible refine inl_k (by with_unfolding_all rfl) (Nat.le_of_ble_eq_true rfl) fun K1 n1 => ?_ | with_reducible refine inlA_k (by with_unfolding_all rfl) (Nat.le_of_ble_eq_true rfl) fun K1 n1 => ?_ | with_reducible refine run_finA ?_ | with_reducible refine run_cond ?_ | with_reducible refine run_block ?_ | with_reducible refine run_endb ?_ | with_reducible refine run_exit fun K1 n1 => ?_ | with_reducible refine run_ret fun K1 n1 => ?_ | with_reducible refine run_fin ?_ | with_reducible refine run_inv ?_ | with_reducible refine go_rounds ?_ | ((with_reducible refine Go.mk ?_); (conv => whnf)) | refine Fork.yes ?_ | refine Fork.no ?_ | refine Fork.dec (fun _ => ?_) (fun _ => ?_) | refine Fork.ndec (fun _ => ?_) (fun _ => ?_) | refine Fork.mk (fun _ => ?_) (fun _ => ?_) | refine Way.yesG ?_ | refine Way.noG ?_ | refine Way.decG (fun _ => ?_) (fun _ => ?_) | refine Way.ndecG (fun _ => ?_) (fun _ => ?_) | refine Way.mkG (fun _ => ?_) (fun _ => ?_) | with_reducible refine Need.mkG ?_ ?_ | refine AppW.go0 ?_ ?_ | with_reducible refine NilW.goG (fun _ => ?_) ?_ | ((with_reducible refine n1 _ _ _ ?_); clear n1 K1) | ((with_reducible refine n1 _ ?_); clear n1 K1) | ((with_reducible refine n1 _ _ ?_); clear n1 K1) | ((with_reducible refine n1 _ _ _ _ ?_); clear n1 K1) | fail)
  all_goals try (first | exact trivial | omega | kernel_rfl | decide | exact And.intro (by omega) (by omega))
  all_goals try dsimp only [Int.toNat_natCast] at *
  all_goals try (first | exact trivial | omega | exact And.intro (by omega) (by omega))
  · rename_i h
    exact act_done (x := (d, [], refF d c)) (by show _ = evictF d l c way; unfold evictF; rw [if_neg h]) rfl rfl (by show nn ≤ nn + 2 * 0 + 2; omega)
  · rename_i h h2
    exact act_done (x := (d, [], 5)) (by show _ = evictF d l c way; unfold evictF; rw [if_pos h, if_neg h2]) rfl rfl (by show nn ≤ nn + 2 * 0 + 2; omega)
  · rename_i h h2
    exact (ref_ok h).2
  · rename_i h h2 h3
    exact ⟨⟨(ref_ok h).2, rfl⟩, (ref_ok h).2⟩
  · rename_i h h2 h3
    exact act_done (x := (dropF (failD d l c 1002).1 c way, (failD d l c 1002).2, 0)) (by show _ = evictF d l c way; unfold evictF; rw [if_pos h, if_pos h2, if_pos h3]) rfl rfl (Nat.le_add_right _ 2)
  · rename_i h h2 h3
    exact act_done (x := (dropF d c way, [], 0)) (by show _ = evictF d l c way; unfold evictF; rw [if_pos h, if_pos h2, if_neg (by rw [h3]; decide)]) rfl rfl (by show nn ≤ nn + 2 * 0 + 2; omega)
def kickF (d : deskT.D) (l : progsT.D) (c : Int) : deskT.D × Rec × Int :=
  if refF d c = 0 then
    if 0 < (d.1 c.toNat).2.2.1 then ((failD d l c 1004).1, (failD d l c 1004).2, 0) else (d, [], 0)
  else (d, [], refF d c)
abbrev kickS : Spec := actS [.int] fun _ d l a => kickF d l a.1
theorem c_Kick : Ctr Try.prog 23 kickS := by
  refine ctr_of tabOk (SpecsOk.cons c_refused (by kernel_rfl) (SpecsOk.cons c_fails (by kernel_rfl) (SpecsOk.nil _))) Try.func23 rfl _ (Nat.le_of_ble_eq_true rfl) (fun h => by cases h) ?_
  rintro nn ⟨d, l, (c : Int), ⟨⟩⟩ _ hb
  refine ⟨200, init_k fun K1 n1 => ?_⟩
  conv => whnf
  refine n1 _ ?_
  clear n1 K1
  repeat' (first | with_reducible refine seq_k fun K1 n1 => ?_ | with_reducible refine seq_nil ?_ | with_reducible refine drw_k fun K1 n1 => ?_ | with_reducible refine drw_nil ?_ ?_ | with_reducible refine run_seq ?_ | with_reducible refine run_skip ?_ | with_reducible refine run_regS ?_ | with_reducible refine run_regD (by kernel_rfl) ?_ ?_ | with_reducible refine inl_k (by with_unfolding_all rfl) (Nat.le_of_ble_eq_true rfl) fun K1 n1 => ?_ | with_reducible refine inlA_k (by with_unfolding_all rfl) (Nat.le_of_ble_eq_true rfl) fun K1 n1 => ?_ | with_reducible refine run_finA ?_ | with_reducible refine run_cond ?_ | with_reducible refine run_block ?_ | with_reducible refine run_endb ?_ | with_reducible refine run_exit fun K1 n1 => ?_ | with_reducible refine run_ret fun K1 n1 => ?_ | with_reducible refine run_fin ?_ | with_reducible refine run_inv ?_ | with_reducible refine go_rounds ?_ | ((with_reducible refine Go.mk ?_); (conv => whnf)) | refine Fork.yes ?_ | refine Fork.no ?_ | refine Fork.dec (fun _ => ?_) (fun _ => ?_) | refine Fork.ndec (fun _ => ?_) (fun _ => ?_) | refine Fork.mk (fun _ => ?_) (fun _ => ?_) | refine Way.yesG ?_ | refine Way.noG ?_ | refine Way.decG (fun _ => ?_) (fun _ => ?_) | refine Way.ndecG (fun _ => ?_) (fun _ => ?_) | refine Way.mkG (fun _ => ?_) (fun _ => ?_) | with_reducible refine Need.mkG ?_ ?_ | refine AppW.go0 ?_ ?_ | with_reducible refine NilW.goG (fun _ => ?_) ?_ | ((with_reducible refine n1 _ _ _ ?_); clear n1 K1) | ((with_reducible refine n1 _ ?_); clear n1 K1) | ((with_reducible refine n1 _ _ ?_); clear n1 K1) | ((with_reducible refine n1 _ _ _ _ ?_); clear n1 K1) | fail)
  all_goals try (first | exact trivial | omega | kernel_rfl | decide | exact And.intro (by omega) (by omega))
  all_goals try dsimp only [Int.toNat_natCast] at *
  all_goals try (first | exact trivial | omega | exact And.intro (by omega) (by omega))
  · rename_i h
    exact act_done (x := (d, [], refF d c)) (by show _ = kickF d l c; unfold kickF; rw [if_neg h]) rfl rfl (by show nn ≤ nn + 2 * 0 + 2; omega)
  · rename_i h
    exact (ref_ok h).2
  · rename_i h h2
    exact ⟨⟨(ref_ok h).2, rfl⟩, (ref_ok h).2⟩
  · rename_i h h2
    exact act_done (x := ((failD d l c 1004).1, (failD d l c 1004).2, 0)) (by show _ = kickF d l c; unfold kickF; rw [if_pos h, if_pos h2]) rfl rfl (Nat.le_add_right _ 2)
  · rename_i h h2
    exact act_done (x := (d, [], 0)) (by show _ = kickF d l c; unfold kickF; rw [if_pos h, if_neg h2]) rfl rfl (by show nn ≤ nn + 2 * 0 + 2; omega)
end Go.Proofs.Ytjbbgpacijageab.M
