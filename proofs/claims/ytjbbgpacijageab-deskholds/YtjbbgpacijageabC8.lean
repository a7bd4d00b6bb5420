/- Package cache: Share. -/
import Derived.Test.YtjbbgpacijageabC7
namespace Go.Proofs.Ytjbbgpacijageab.M
open Go.RowKit
set_option linter.unusedVariables false
set_option linter.unusedSimpArgs false

def wayOf (n : Int) : Nat := (n.tmod 4).toNat
/-- A line comes in, read from the memory; the other core may have it. -/
def takeD (d : deskT.D) (c w : Nat) (n : Int) : deskT.D :=
  if hasL (lineAt d (1 - c) w) n = true then
    setLine (setLine (setMem d (goBackF d.2 (lineAt d (1 - c) w))) (1 - c) w (1, (lineAt d (1 - c) w).2)) c w (1, n, memL (goBackF d.2 (lineAt d (1 - c) w)) n, false)
  else setLine d c w (2, n, memL d.2 n, false)
def shareF (d : deskT.D) (c n : Int) : deskT.D :=
  if goodD d = true ∧ (0 ≤ c ∧ c < 2) ∧ (0 ≤ n ∧ n < 16) then
    if hasL (lineAt d c.toNat (wayOf n)) n = true then d else takeD (dropD d c.toNat (wayOf n)) c.toNat (wayOf n) n
  else d
theorem find_eq {d : deskT.D} {c n : Int} (hc : 0 ≤ c ∧ c < 2) (hn : 0 ≤ n ∧ n < 16) : findF d c n = (n.tmod 4, hasL (lineAt d c.toNat (wayOf n)) n) := by
  unfold findF
  rw [if_pos ⟨hc, hn⟩]
  rfl
theorem way_lt {n : Int} (hn : 0 ≤ n) : wayOf n < 4 := by
  have := tmod4 hn
  unfold wayOf
  omega
theorem way_of {n : Int} (hn : 0 ≤ n) : n.tmod 4 = (wayOf n : Int) := by
  have := tmod4 hn
  unfold wayOf
  omega
theorem drop_eq {d : deskT.D} {c n : Int} (hg : goodD d = true) (hc : 0 ≤ c ∧ c < 2) (hn : 0 ≤ n ∧ n < 16) : dropF d c (n.tmod 4) = dropD d c.toNat (wayOf n) := by
  unfold dropF
  rw [if_pos ⟨hg, hc, tmod4 hn.1⟩]
  rfl
theorem line_set_other {d : deskT.D} {c c' w w' : Nat} {l : lineT.D} (h : c' ≠ c ∨ w' ≠ w) : lineAt (setLine d c w l) c' w' = lineAt d c' w' := by
  show (updA d.1 c _ c').2.1 w' = (d.1 c').2.1 w'
  unfold updA
  split
  · rename_i hc
    rw [hc] at h ⊢
    simp only []
    rw [if_neg (by rcases h with h | h; exact absurd rfl h; exact h)]
  · rfl
theorem line_set_same {d : deskT.D} {c w : Nat} {l : lineT.D} : lineAt (setLine d c w l) c w = l := by
  show (updA d.1 c _ c).2.1 w = l
  unfold updA
  rw [if_pos rfl]
  simp
theorem other_eq {c : Int} (hc : 0 ≤ c ∧ c < 2) : wrap64 (1 - c) = 1 - c := wrap_id (by omega)
theorem other_nat {c : Int} (hc : 0 ≤ c ∧ c < 2) : (1 - c).toNat = 1 - c.toNat := by omega
abbrev shareS : Spec := pureS [deskT, .int, .int] [deskT] fun d => (shareF d.1 d.2.1 d.2.2.1, ())
theorem c_Share : Ctr Try.prog 16 shareS := by
  refine ctr_of tabOk (SpecsOk.cons c_Good (by kernel_rfl) (SpecsOk.cons c_isCore (by kernel_rfl) (SpecsOk.cons c_isLine (by kernel_rfl) (SpecsOk.cons c_Find (by kernel_rfl) (SpecsOk.cons c_Drop (by kernel_rfl) (SpecsOk.cons c_other (by kernel_rfl) (SpecsOk.cons c_has (by kernel_rfl) (SpecsOk.cons c_remembered (by kernel_rfl) (SpecsOk.mut (inl_ok tabOk (SpecsOk.nil _) Try.func40 []) (by kernel_rfl) (SpecsOk.nil _)))))))))) Try.func16 rfl _ (Nat.le_of_ble_eq_true rfl) (fun _ _ => rfl) ?_
  rintro nn ⟨d, (c : Int), (n : Int), ⟨⟩⟩ _ _
  refine ⟨200, init_k fun K1 n1 => ?_⟩
  conv => whnf
  refine n1 _ ?_
  clear n1 K1
  repeat' (first | with_reducible refine seq_k fun K1 n1 => ?_ | with_reducible refine seq_nil ?_ | with_reducible refine drw_k fun K1 n1 => ?_ | with_reducible refine drw_nil ?_ ?_ | with_reducible refine run_seq ?_ | with_reducible refine run_skip ?_ | with_reducible refine run_regS ?_ | with_reducible refine run_regD (by kernel_rfl) ?_ ?_ | with_reducible refine inl_k (by with_unfolding_all rfl) (Nat.le_of_ble_eq_true rfl) fun K1 n1 => ?_ | with_reducible refine inlA_k (by with_unfolding_all rfl) (Nat.le_of_ble_eq_true rfl) fun K1 n1 => ?_ | with_reducible refine run_finA ?_ | with_reducible refine run_cond ?_ | with_reducible refine run_block ?_ | with_reducible refine run_endb ?_ | with_reducible refine run_exit fun K1 n1 => ?_ | with_reducible refine run_ret fun K1 n1 => ?_ | with_reducible refine run_fin ?_ | with_reducible refine run_inv ?_ | with_reducible refine go_rounds ?_ | ((with_reducible refine Go.mk ?_); (conv => whnf)) | refine Fork.yes ?_ | refine Fork.no ?_ | refine Fork.dec (fun _ => ?_) (fun _ => ?_) | refine Fork.ndec (fun _ => ?_) (fun _ => ?_) | refine Fork.mk (fun _ => ?_) (fun _ => ?_) | refine Way.yesG ?_ | refine Way.noG ?_ | refine Way.decG (fun _ => ?_) (fun _ => ?_) | refine Way.ndecG (fun _ => ?_) (fun _ => ?_) | refine Way.mkG (fun _ => ?_) (fun _ => ?_) | with_reducible refine Need.mkG ?_ ?_ | refine AppW.go0 ?_ ?_ | with_reducible refine NilW.goG (fun _ => ?_) ?_ | ((with_reducible refine n1 _ _ _ ?_); clear n1 K1) | ((with_reducible refine n1 _ ?_); clear n1 K1) | ((with_reducible refine n1 _ _ ?_); clear n1 K1) | ((with_reducible refine n1 _ _ _ _ ?_); clear n1 K1) | fail)
  all_goals try (first | exact trivial | omega | kernel_rfl | decide | exact And.intro (by omega) (by omega))
  all_goals try dsimp only [Int.toNat_natCast] at *
  all_goals try (first | exact trivial | omega | exact And.intro (by omega) (by omega))
  · refine Done.of ?_ (Or.inr (Nat.le_refl _))
    show (_, ()) = (shareF d c n, ())
    unfold shareF
    rw [if_neg (by rename_i h; rw [not_t h]; simp)]
  · refine Done.of ?_ (Or.inr (Nat.le_refl _))
    show (_, ()) = (shareF d c n, ())
    unfold shareF
    rw [if_neg (by rename_i h; exact fun g => h g.2.1)]
  · refine Done.of ?_ (Or.inr (Nat.le_refl _))
    show (_, ()) = (shareF d c n, ())
    unfold shareF
    rw [if_neg (by rename_i h; exact fun g => h g.2.2)]
  · rename_i h1 h2 h3 h4
    refine Done.of ?_ (Or.inr (Nat.le_refl _))
    show (_, ()) = (shareF d c n, ())
    rw [find_eq h2 h3] at h4
    unfold shareF
    rw [if_pos ⟨not_f h1, h2, h3⟩, if_pos h4]
  all_goals
    have h1 : (!goodD d) = false := by assumption
    have h2 : 0 ≤ c ∧ c < 2 := by assumption
    have h3 : 0 ≤ n ∧ n < 16 := by assumption
    have h4 : (findF d c n).2 = false := by assumption
    have hg := not_f h1
    rw [find_eq h2 h3] at h4
    have hw := way_lt h3.1
    simp only [find_eq h2 h3, other_eq h2, other_nat h2, drop_eq hg h2 h3] at *
  · exact tmod4 h3.1
  · exact (show @LE.le Int _ 0 (1 - c) ∧ @LT.lt Int _ (1 - c) 2 from ⟨by omega, by omega⟩)
  · exact tmod4 h3.1
  · have h6 : ((((dropD d c.toNat (wayOf n)).1 (1 - c.toNat)).2.1 (n.tmod 4).toNat).1 : Int) = 3 := by assumption
    have e : ((dropD d c.toNat (wayOf n)).1 (1 - c.toNat)).2.1 (n.tmod 4).toNat = lineAt d (1 - c.toNat) (wayOf n) := line_set_other (d := d) (Or.inl (by omega))
    rw [e] at h6 ⊢
    exact back_need (good_line hg (by omega) hw (by rw [h6]; decide)).2.1
  · rename_i h5 h6
    refine Done.of ?_ (Or.inr (Nat.le_refl _))
    show (_, ()) = (shareF d c n, ())
    have e : ((dropD d c.toNat (wayOf n)).1 (1 - c.toNat)).2.1 (n.tmod 4).toNat = lineAt d (1 - c.toNat) (wayOf n) := line_set_other (d := d) (Or.inl (by omega))
    have hr := (good_line hg (c := 1 - c.toNat) (w := wayOf n) (by omega) hw (by rw [← e, h6]; decide)).2.1
    rw [← e] at hr
    unfold shareF
    rw [if_pos ⟨hg, h2, h3⟩, if_neg (by rw [h4]; decide)]
    unfold takeD goBackF
    rw [if_pos (show hasL (lineAt (dropD d c.toNat (wayOf n)) (1 - c.toNat) (wayOf n)) n = true from decide_eq_true h5), if_pos (show (lineAt (dropD d c.toNat (wayOf n)) (1 - c.toNat) (wayOf n)).1 = 3 from h6), cpy_back _ _ _ hr]
    rfl
  · rename_i h5 h6
    refine Done.of ?_ (Or.inr (Nat.le_refl _))
    show (_, ()) = (shareF d c n, ())
    unfold shareF
    rw [if_pos ⟨hg, h2, h3⟩, if_neg (by rw [h4]; decide)]
    unfold takeD goBackF
    rw [if_pos (show hasL (lineAt (dropD d c.toNat (wayOf n)) (1 - c.toNat) (wayOf n)) n = true from decide_eq_true h5), if_neg (show ¬ (lineAt (dropD d c.toNat (wayOf n)) (1 - c.toNat) (wayOf n)).1 = 3 from h6)]
    rfl
  · rename_i h5
    refine Done.of ?_ (Or.inr (Nat.le_refl _))
    show (_, ()) = (shareF d c n, ())
    unfold shareF
    rw [if_pos ⟨hg, h2, h3⟩, if_neg (by rw [h4]; decide)]
    unfold takeD
    rw [if_neg (by rw [show hasL (lineAt (dropD d c.toNat (wayOf n)) (1 - c.toNat) (wayOf n)) n = false from decide_eq_false h5]; decide)]
    rfl
end Go.Proofs.Ytjbbgpacijageab.M
