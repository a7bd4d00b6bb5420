/- Package desk: words that are touched for all to see. -/
import Derived.Test.YtjbbgpacijageabUH
namespace Go.Proofs.Ytjbbgpacijageab.M
open Go.RowKit
set_option linter.unusedVariables false
set_option linter.unusedSimpArgs false

def putsF (x : deskT.D × Rec) (l : progsT.D) (c word n : Int) : deskT.D × Rec :=
  if holdsF x.1 (wrap64 (1 - c)) (lineOf word) = true then
    (writeF (ownF (failD x.1 l (wrap64 (1 - c)) 1001).1 c (lineOf word)) c word n, x.2 ++ [(3, wrap64 (1 - c), 1001)])
  else (writeF (ownF x.1 c (lineOf word)) c word n, x.2)
/-- Counted behind what is recorded. -/
def thenOn (x : deskT.D × Rec) (c : Int) : deskT.D × Rec := ((onF x.1 c).1, x.2 ++ (onF x.1 c).2)
def hadF (d : deskT.D) (c : Int) (i : instrT.D) (word : Int) : deskT.D := if i.1 ≠ 6 then withNow d c (putF (d.1 c.toNat).1 i.2.1 (valF d word)) else d
def outF (d : deskT.D) (l : progsT.D) (c : Int) (i : instrT.D) (word : Int) : deskT.D × Rec :=
  if i.1 = 5 then onF (shareF (hadF d c i word) c (lineOf word)) c
  else thenOn (putsF (hadF d c i word, []) l c word (getF (d.1 c.toNat).1 i.2.1)) c
abbrev outS : Spec := turnS [instrT, .int] (fun _ _ => True) fun t a => outF t.1 t.2.1 t.2.2.1 a.1 a.2.1
theorem two_small {r s : recordT.D} : (([] : List recordT.D) ++ ownL recordT (updA (Ty.arr 1 recordT).zero 0 r) 0 1).length + (ownL recordT (updA (Ty.arr 1 recordT).zero 0 s) 0 1).length ≤ 140737488355328 ∧ ((([] : List recordT.D) ++ ownL recordT (updA (Ty.arr 1 recordT).zero 0 r) 0 1).length + (ownL recordT (updA (Ty.arr 1 recordT).zero 0 s) 0 1).length) * recordT.byt ≤ 140737488355328 := ⟨(by show 2 ≤ 140737488355328; decide), (by show 2 * 24 ≤ 140737488355328; decide)⟩
theorem outA {nn n : Nat} {d S : deskT.D} {l : progsT.D} {c : Int} {i : instrT.D} {word : Int} {rs : Rec} {h : Hd} {tk : List (Hd × Nat)} (h0 : ((withNow S c (nextF (S.1 c.toNat).1)).1 c.toNat).2.2.1 = 0) (hx : outF d l c i word = thenOn (S, rs) c) (hh : h = recH nn (rs.length + 1)) (hn : n = nn + 2 * (rs.length + 1)) :
    Done outS nn ((d, l, c, nilH, []), i, word, ()) ((withNow S c (nextF (S.1 c.toNat).1), l, c, h, rs ++ [(1, c, 0)]), ()) ⟨n, tk⟩ := by
  have hr : outF d l c i word = (withNow S c (nextF (S.1 c.toNat).1), rs ++ [(1, c, 0)]) := by
    rw [hx]
    unfold thenOn onF countF
    simp only [if_pos h0]
  subst hh
  subst hn
  refine Done.of ?_ (Or.inr ?_)
  · show _ = (outT nn (outF d l c i word) l c, ())
    rw [hr]
    unfold outT
    rw [List.length_append]
    rfl
  · show _ ≤ nn + 2 * (outF d l c i word).2.length
    rw [hr]
    show nn + 2 * (rs.length + 1) ≤ nn + 2 * (rs ++ [(1, c, 0)]).length
    rw [List.length_append]
    exact Nat.le_refl _
theorem outB {nn n : Nat} {d S : deskT.D} {l : progsT.D} {c : Int} {i : instrT.D} {word : Int} {rs : Rec} {h : Hd} {tk : List (Hd × Nat)} (h0 : ¬ ((withNow S c (nextF (S.1 c.toNat).1)).1 c.toNat).2.2.1 = 0) (hx : outF d l c i word = thenOn (S, rs) c) (hh : h = recH nn rs.length) (hn : n = nn + 2 * rs.length) :
    Done outS nn ((d, l, c, nilH, []), i, word, ()) ((setCore (withNow S c (nextF (S.1 c.toNat).1)) c.toNat (bump ((withNow S c (nextF (S.1 c.toNat).1)).1 c.toNat)), l, c, h, rs), ()) ⟨n, tk⟩ := by
  have hr : outF d l c i word = (setCore (withNow S c (nextF (S.1 c.toNat).1)) c.toNat (bump ((withNow S c (nextF (S.1 c.toNat).1)).1 c.toNat)), rs) := by
    rw [hx]
    unfold thenOn onF countF
    simp only [if_neg h0, List.append_nil]
  subst hh
  subst hn
  refine Done.of ?_ (Or.inr ?_)
  · show _ = (outT nn (outF d l c i word) l c, ())
    rw [hr]
    rfl
  · show _ ≤ nn + 2 * (outF d l c i word).2.length
    rw [hr]
    exact Nat.le_refl _
theorem out_load {d : deskT.D} {l : progsT.D} {c : Int} {i : instrT.D} {word : Int} (h6 : ¬ i.1 = 6) (h5 : i.1 = 5) : outF d l c i word = thenOn (shareF (withNow d c (putF (d.1 c.toNat).1 i.2.1 (valF d word))) c (lineOf word), []) c := by
  unfold outF hadF thenOn
  rw [if_pos h5, if_pos h6]
  simp only [List.nil_append]
theorem out_swap1 {d : deskT.D} {l : progsT.D} {c : Int} {i : instrT.D} {word : Int} (h6 : ¬ i.1 = 6) (h5 : ¬ i.1 = 5) (hh : holdsF (withNow d c (putF (d.1 c.toNat).1 i.2.1 (valF d word))) (wrap64 (1 - c)) (lineOf word) = true) :
    outF d l c i word = thenOn (writeF (ownF (failD (withNow d c (putF (d.1 c.toNat).1 i.2.1 (valF d word))) l (wrap64 (1 - c)) 1001).1 c (lineOf word)) c word (getF (d.1 c.toNat).1 i.2.1), [(3, wrap64 (1 - c), 1001)]) c := by
  unfold outF hadF putsF
  rw [if_neg h5, if_pos h6]
  simp only [hh, if_true, List.nil_append]
theorem out_swap0 {d : deskT.D} {l : progsT.D} {c : Int} {i : instrT.D} {word : Int} (h6 : ¬ i.1 = 6) (h5 : ¬ i.1 = 5) (hh : holdsF (withNow d c (putF (d.1 c.toNat).1 i.2.1 (valF d word))) (wrap64 (1 - c)) (lineOf word) = false) :
    outF d l c i word = thenOn (writeF (ownF (withNow d c (putF (d.1 c.toNat).1 i.2.1 (valF d word))) c (lineOf word)) c word (getF (d.1 c.toNat).1 i.2.1), []) c := by
  unfold outF hadF putsF
  rw [if_neg h5, if_pos h6]
  simp only [hh, Bool.false_eq_true, if_false]
theorem out_store1 {d : deskT.D} {l : progsT.D} {c : Int} {i : instrT.D} {word : Int} (h6 : i.1 = 6) (h5 : ¬ i.1 = 5) (hh : holdsF d (wrap64 (1 - c)) (lineOf word) = true) :
    outF d l c i word = thenOn (writeF (ownF (failD d l (wrap64 (1 - c)) 1001).1 c (lineOf word)) c word (getF (d.1 c.toNat).1 i.2.1), [(3, wrap64 (1 - c), 1001)]) c := by
  have e : hadF d c i word = d := if_neg (fun g => g h6)
  unfold outF
  rw [if_neg h5, e]
  unfold putsF
  simp only [hh, if_true, List.nil_append]
theorem out_store0 {d : deskT.D} {l : progsT.D} {c : Int} {i : instrT.D} {word : Int} (h6 : i.1 = 6) (h5 : ¬ i.1 = 5) (hh : holdsF d (wrap64 (1 - c)) (lineOf word) = false) :
    outF d l c i word = thenOn (writeF (ownF d c (lineOf word)) c word (getF (d.1 c.toNat).1 i.2.1), []) c := by
  have e : hadF d c i word = d := if_neg (fun g => g h6)
  unfold outF
  rw [if_neg h5, e]
  unfold putsF
  simp only [hh, Bool.false_eq_true, if_false]
set_option maxHeartbeats 8000000 in
theorem c_touchesOutside : Ctr Try.prog 80 outS := by
  refine ctr_ofT [(nilH, 3)] ⟨[3], rfl⟩ tabROk (SpecsOk.cons c_Get (by kernel_rfl) (SpecsOk.cons c_Put (by kernel_rfl) (SpecsOk.cons c_Value (by kernel_rfl) (SpecsOk.cons c_Share (by kernel_rfl) (SpecsOk.mut (inl_ok tabROk (SpecsOk.cons c_dOther (by kernel_rfl) (SpecsOk.cons c_Holds (by kernel_rfl) (SpecsOk.cons c_Own (by kernel_rfl) (SpecsOk.cons c_Write (by kernel_rfl) (SpecsOk.mut (inl_ok tabROk (SpecsOk.cons c_failed (by kernel_rfl) (SpecsOk.mut (inl_ok tabROk (SpecsOk.nil _) Try.func66 [turnT]) (by kernel_rfl) (SpecsOk.nil _))) Try.func49 [turnT]) (by kernel_rfl) (SpecsOk.nil _)))))) Try.func78 [turnT]) (by kernel_rfl) (SpecsOk.mut (inl_ok tabROk (SpecsOk.cons c_Next (by kernel_rfl) (SpecsOk.mut (inl_ok tabROk (SpecsOk.mut (inl_ok tabROk (SpecsOk.nil _) Try.func66 [turnT]) (by kernel_rfl) (SpecsOk.nil _)) Try.func83 [turnT]) (by kernel_rfl) (SpecsOk.nil _))) Try.func75 [turnT]) (by kernel_rfl) (SpecsOk.nil _))))))) Try.func80 rfl _ (Nat.le_of_ble_eq_true rfl) (fun h => by cases h) ?_
  rintro nn ⟨⟨d, l, (c : Int), h, rs⟩, i, (word : Int), ⟨⟩⟩ ⟨⟨hc, hr⟩, _⟩ hb
  obtain ⟨rfl, rfl⟩ := Prod.mk.inj hr
  have hc : 0 ≤ c ∧ c < 2 := hc
  have hother : 0 ≤ wrap64 (1 - c) ∧ wrap64 (1 - c) < 2 := by rw [other_eq hc]; omega
  refine ⟨200, init_k fun K1 n1 => ?_⟩
  conv => whnf
  refine n1 _ ?_
  clear n1 K1
  repeat' (first | with_reducible refine seq_k fun K1 n1 => ?_ | with_reducible refine seq_nil ?_ | with_reducible refine drw_k fun K1 n1 => ?_ | with_reducible refine drw_nil ?_ ?_ | with_reducible refine run_seq ?_ | with_reducible refine run_skip ?_ | with_reducible refine run_regS ?_ | with_reducible refine run_regD (by kernel_rfl) ?_ ?_ | with_reducible refine inl_k (by with_unfolding_all rfl) (Nat.le_of_ble_eq_true rfl) fun K1 n1 => ?_ | with_reducible refine inlA_k (by with_unfolding_all rfl) (Nat.le_of_ble_eq_true rfl) fun K1 n1 => ?_ | with_reducible refine run_finA ?_ | with_reducible refine run_cond ?_ | with_reducible refine run_block ?_ | with_reducible refine run_endb ?_ | with_reducible refine run_exit fun K1 n1 => ?_ | with_reducible refine run_ret fun K1 n1 => ?_ | with_reducible refine run_fin ?_ | with_reducible refine run_inv ?_ | with_reducible refine go_rounds ?_ | ((with_reducible refine Go.mk ?_); (conv => whnf)) | refine Fork.yes ?_ | refine Fork.no ?_ | refine Fork.dec (fun _ => ?_) (fun _ => ?_) | refine Fork.ndec (fun _ => ?_) (fun _ => ?_) | refine Fork.mk (fun _ => ?_) (fun _ => ?_) | refine Way.yesG ?_ | refine Way.noG ?_ | refine Way.decG (fun _ => ?_) (fun _ => ?_) | refine Way.ndecG (fun _ => ?_) (fun _ => ?_) | refine Way.mkG (fun _ => ?_) (fun _ => ?_) | with_reducible refine Need.mkG ?_ ?_ | refine AppW.go0 ?_ ?_ | with_reducible refine NilW.goG (fun _ => ?_) ?_ | ((with_reducible refine n1 _ _ _ ?_); clear n1 K1) | ((with_reducible refine n1 _ ?_); clear n1 K1) | ((with_reducible refine n1 _ _ ?_); clear n1 K1) | ((with_reducible refine n1 _ _ _ _ ?_); clear n1 K1) | fail)
  all_goals try (first | exact trivial | omega | kernel_rfl | decide | exact And.intro (by omega) (by omega))
  all_goals try dsimp only [Int.toNat_natCast] at *
  all_goals try (first | exact trivial | omega | exact And.intro (by omega) (by omega))
  all_goals first
    | exact one_small
    | exact two_small
    | (rename_i h6 h5 h0; exact outA h0 (out_load h6 h5) rfl rfl)
    | (rename_i h6 h5 h0; exact outB h0 (out_load h6 h5) rfl rfl)
    | (rename_i h6 h5 hh h0; exact outA h0 (out_swap1 h6 h5 hh) rfl rfl)
    | (rename_i h6 h5 hh h0; exact outB h0 (out_swap1 h6 h5 hh) rfl rfl)
    | (rename_i h6 h5 hh h0; exact outA h0 (out_swap0 h6 h5 hh) rfl rfl)
    | (rename_i h6 h5 hh h0; exact outB h0 (out_swap0 h6 h5 hh) rfl rfl)
    | (rename_i h6 h5 hh h0; exact outA h0 (out_store1 h6 h5 hh) rfl rfl)
    | (rename_i h6 h5 hh h0; exact outB h0 (out_store1 h6 h5 hh) rfl rfl)
    | (rename_i h6 h5 hh h0; exact outA h0 (out_store0 h6 h5 hh) rfl rfl)
    | (rename_i h6 h5 hh h0; exact outB h0 (out_store0 h6 h5 hh) rfl rfl)
end Go.Proofs.Ytjbbgpacijageab.M
