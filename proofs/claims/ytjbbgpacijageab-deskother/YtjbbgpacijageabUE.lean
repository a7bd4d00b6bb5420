/- Several texts in one. -/
import Derived.Test.YtjbbgpacijageabUD
/- Package cache: Drop. -/
namespace Go.Proofs.Ytjbbgpacijageab.M
open Go.RowKit
set_option linter.unusedVariables false
set_option linter.unusedSimpArgs false

/-- The memory with a line's words, if they are Modified. -/
def goBackF (m : Nat → Int) (l : lineT.D) : Nat → Int := if l.1 = 3 then cpy m (2 * l.2.1.toNat) 2 l.2.2.1 else m
/-- The desk with another line at a place. -/
def setLine (d : deskT.D) (c w : Nat) (l : lineT.D) : deskT.D := (updA d.1 c ((d.1 c).1, updA (d.1 c).2.1 w l, (d.1 c).2.2), d.2)
def lineAt (d : deskT.D) (c w : Nat) : lineT.D := (d.1 c).2.1 w
def setMem (d : deskT.D) (m : Nat → Int) : deskT.D := (d.1, m)
def dropD (d : deskT.D) (c w : Nat) : deskT.D := setMem (setLine d c w lineT.zero) (goBackF d.2 (lineAt d c w))
def dropF (d : deskT.D) (c way : Int) : deskT.D := if goodD d = true ∧ (0 ≤ c ∧ c < 2) ∧ (0 ≤ way ∧ way < 4) then dropD d c.toNat way.toNat else d

theorem good_at {d : deskT.D} (h : goodD d = true) {c w : Nat} (hc : c < 2) (hw : w < 4) : okAt d c w = true := by
  unfold goodD at h
  rw [Bool.and_eq_true] at h
  exact List.all_eq_true.1 (List.all_eq_true.1 h.2 c (List.mem_range.2 hc)) w (List.mem_range.2 hw)
theorem line_range {l : lineT.D} {w : Int} (h : goodLn l w = true) (hl : l.1 ≠ 0) : (1 ≤ l.1 ∧ l.1 ≤ 3) ∧ (@LE.le Int _ 0 l.2.1 ∧ @LT.lt Int _ l.2.1 16) ∧ l.2.1.tmod 4 = w := by
  unfold goodLn at h
  rw [decide_eq_false hl] at h
  simp at h
  obtain ⟨⟨h1, h2, h3, h4⟩, _⟩ := h
  exact ⟨⟨h1, h2⟩, h3, h4⟩
theorem good_line {d : deskT.D} (h : goodD d = true) {c w : Nat} (hc : c < 2) (hw : w < 4) (hl : (lineAt d c w).1 ≠ 0) : (1 ≤ (lineAt d c w).1 ∧ (lineAt d c w).1 ≤ 3) ∧ (@LE.le Int _ 0 (lineAt d c w).2.1 ∧ @LT.lt Int _ (lineAt d c w).2.1 16) ∧ (lineAt d c w).2.1.tmod 4 = (w : Int) := by
  have h1 := good_at h hc hw
  unfold okAt at h1
  rw [Bool.and_eq_true] at h1
  exact line_range h1.1 hl
theorem cpy_back (m data : Nat → Int) (z : Int) (h : 0 ≤ z ∧ z < 16) : cpy m (wrap64 (2 * z)).toNat (min (2 - Int.toNat 0) (32 - (wrap64 (2 * z)).toNat)) (fun q => data (Int.toNat 0 + q)) = cpy m (2 * z.toNat) 2 data := by
  have hw : wrap64 (2 * z) = 2 * z := wrap_id (by omega)
  have h1 : (2 * z).toNat = 2 * z.toNat := by omega
  rw [hw, h1]
  have h2 : min (2 - Int.toNat 0) (32 - 2 * z.toNat) = 2 := by
    have : Int.toNat 0 = 0 := rfl
    rw [this]
    omega
  rw [h2]
  congr 1
  funext q
  have : Int.toNat 0 + q = q := by
    have : Int.toNat 0 = 0 := rfl
    omega
  rw [this]
theorem back_need {z : Int} (h : 0 ≤ z ∧ z < 16) : 0 ≤ wrap64 (2 * z) ∧ wrap64 (2 * z) ≤ ((32 : Nat) : Int) ∧ ((32 : Nat) : Int) ≤ ((32 : Nat) : Int) := by
  have hw : wrap64 (2 * z) = 2 * z := wrap_id (by omega)
  rw [hw]
  omega

abbrev dropS : Spec := pureS [deskT, .int, .int] [deskT] fun d => (dropF d.1 d.2.1 d.2.2.1, ())
theorem c_Drop : Ctr Try.prog 15 dropS := by
  refine ctr_of tabOk (SpecsOk.cons c_Good (by kernel_rfl) (SpecsOk.cons c_isCore (by kernel_rfl) (SpecsOk.cons c_isWay (by kernel_rfl) (SpecsOk.mut (inl_ok tabOk (SpecsOk.nil _) Try.func40 []) (by kernel_rfl) (SpecsOk.nil _))))) Try.func15 rfl _ (Nat.le_of_ble_eq_true rfl) (fun _ _ => rfl) ?_
  rintro nn ⟨d, (c : Int), (way : Int), ⟨⟩⟩ _ _
  refine ⟨200, init_k fun K1 n1 => ?_⟩
  conv => whnf
  refine n1 _ ?_
  clear n1 K1
  repeat' (first | with_reducible refine seq_k fun K1 n1 => ?_ | with_reducible refine seq_nil ?_ | with_reducible refine drw_k fun K1 n1 => ?_ | with_reducible refine drw_nil ?_ ?_ | with_reducible refine run_seq ?_ | with_reducible refine run_skip ?_ | with_reducible refine run_regS ?_ | with_reducible refine run_regD (by kernel_rfl) ?_ ?_ | with_reducible refine inl_k (by with_unfolding_all rfl) (Nat.le_of_ble_eq_true rfl) fun K1 n1 => ?_ | with_reducible refine inlA_k (by with_unfolding_all rfl) (Nat.le_of_ble_eq_true rfl) fun K1 n1 => ?_ | with_reducible refine run_finA ?_ | with_reducible refine run_cond ?_ | with_reducible refine run_block ?_ | with_reducible refine run_endb ?_ | with_reducible refine run_exit fun K1 n1 => ?_ | with_reducible refine run_ret fun K1 n1 => ?_ | with_reducible refine run_fin ?_ | with_reducible refine run_inv ?_ | with_reducible refine go_rounds ?_ | ((with_reducible refine Go.mk ?_); (conv => whnf)) | refine Fork.yes ?_ | refine Fork.no ?_ | refine Fork.dec (fun _ => ?_) (fun _ => ?_) | refine Fork.ndec (fun _ => ?_) (fun _ => ?_) | refine Fork.mk (fun _ => ?_) (fun _ => ?_) | refine Way.yesG ?_ | refine Way.noG ?_ | refine Way.decG (fun _ => ?_) (fun _ => ?_) | refine Way.ndecG (fun _ => ?_) (fun _ => ?_) | refine Way.mkG (fun _ => ?_) (fun _ => ?_) | with_reducible refine Need.mkG ?_ ?_ | refine AppW.go0 ?_ ?_ | with_reducible refine NilW.goG (fun _ => ?_) ?_ | ((with_reducible refine n1 _ _ _ ?_); clear n1 K1) | ((with_reducible refine n1 _ ?_); clear n1 K1) | ((with_reducible refine n1 _ _ ?_); clear n1 K1) | ((with_reducible refine n1 _ _ _ _ ?_); clear n1 K1) | fail)
  all_goals try (first | exact trivial | omega | kernel_rfl | decide | exact And.intro (by omega) (by omega))
  all_goals try dsimp only [Int.toNat_natCast] at *
  all_goals try (first | exact trivial | omega | exact And.intro (by omega) (by omega))
  · refine Done.of ?_ (Or.inr (Nat.le_refl _))
    show (_, ()) = (dropF d c way, ())
    unfold dropF
    rw [if_neg (by rename_i h; rw [not_t h]; simp)]
  · refine Done.of ?_ (Or.inr (Nat.le_refl _))
    show (_, ()) = (dropF d c way, ())
    unfold dropF
    rw [if_neg (by rename_i h; exact fun g => h g.2.1)]
  · refine Done.of ?_ (Or.inr (Nat.le_refl _))
    show (_, ()) = (dropF d c way, ())
    unfold dropF
    rw [if_neg (by rename_i h; exact fun g => h g.2.2)]
  · have h1 : (!goodD d) = false := by assumption
    have h2 : 0 ≤ c ∧ c < 2 := by assumption
    have h3 : 0 ≤ way ∧ way < 4 := by assumption
    have h4 : ((d.1 c.toNat).2.1 way.toNat).1 = 3 := by assumption
    have hl := good_line (not_f h1) (c := c.toNat) (w := way.toNat) (by omega) (by omega) (by show ((d.1 c.toNat).2.1 way.toNat).1 ≠ 0; rw [h4]; decide)
    exact back_need hl.2.1
  · rename_i h1 h2 h3 h4
    have hl := good_line (not_f h1) (c := c.toNat) (w := way.toNat) (by omega) (by omega) (by show ((d.1 c.toNat).2.1 way.toNat).1 ≠ 0; rw [h4]; decide)
    refine Done.of ?_ (Or.inr (Nat.le_refl _))
    show (_, ()) = (dropF d c way, ())
    unfold dropF dropD
    rw [if_pos ⟨not_f h1, h2, h3⟩]
    unfold goBackF lineAt
    rw [if_pos h4, ← cpy_back d.2 ((d.1 c.toNat).2.1 way.toNat).2.2.1 ((d.1 c.toNat).2.1 way.toNat).2.1 hl.2.1]
    rfl
  · rename_i h1 h2 h3 h4
    refine Done.of ?_ (Or.inr (Nat.le_refl _))
    show (_, ()) = (dropF d c way, ())
    unfold dropF dropD
    rw [if_pos ⟨not_f h1, h2, h3⟩]
    unfold goBackF lineAt
    rw [if_neg h4]
    rfl
end Go.Proofs.Ytjbbgpacijageab.M

/- Package cache: Share. -/
namespace Go.Proofs.Ytjbbgpacijageab.M
open Go.RowKit
set_option linter.unusedVariables false
set_option linter.unusedSimpArgs false

def wayOf (n : Int) : Nat := (n.tmod 4).toNat
/-- A line comes in, read from the memory; the other core may have it. -/
def takeD (d : deskT.D) (c w : Nat) (n : Int) : deskT.D :=
  if hasL (lineAt d (1 - c) w) n = true then
    setLine (setLine (setMem d (goBackF d.2 (lineAt d (1 - c) w))) (1 - c) w (1, (lineAt d (1 - c) w).2)) c w (1, n, memL (goBackF d.2 (lineAt d (1 - c) w)) n, false)
  else setLine d c w (2, n, memL d.2 n, false)
def shareF (d : deskT.D) (c n : Int) : deskT.D :=
  if goodD d = true ∧ (0 ≤ c ∧ c < 2) ∧ (0 ≤ n ∧ n < 16) then
    if hasL (lineAt d c.toNat (wayOf n)) n = true then d else takeD (dropD d c.toNat (wayOf n)) c.toNat (wayOf n) n
  else d
theorem find_eq {d : deskT.D} {c n : Int} (hc : 0 ≤ c ∧ c < 2) (hn : 0 ≤ n ∧ n < 16) : findF d c n = (n.tmod 4, hasL (lineAt d c.toNat (wayOf n)) n) := by
  unfold findF
  rw [if_pos ⟨hc, hn⟩]
  rfl
theorem way_lt {n : Int} (hn : 0 ≤ n) : wayOf n < 4 := by
  have := tmod4 hn
  unfold wayOf
  omega
theorem way_of {n : Int} (hn : 0 ≤ n) : n.tmod 4 = (wayOf n : Int) := by
  have := tmod4 hn
  unfold wayOf
  omega
theorem drop_eq {d : deskT.D} {c n : Int} (hg : goodD d = true) (hc : 0 ≤ c ∧ c < 2) (hn : 0 ≤ n ∧ n < 16) : dropF d c (n.tmod 4) = dropD d c.toNat (wayOf n) := by
  unfold dropF
  rw [if_pos ⟨hg, hc, tmod4 hn.1⟩]
  rfl
theorem line_set_other {d : deskT.D} {c c' w w' : Nat} {l : lineT.D} (h : c' ≠ c ∨ w' ≠ w) : lineAt (setLine d c w l) c' w' = lineAt d c' w' := by
  show (updA d.1 c _ c').2.1 w' = (d.1 c').2.1 w'
  unfold updA
  split
  · rename_i hc
    rw [hc] at h ⊢
    simp only []
    rw [if_neg (by rcases h with h | h; exact absurd rfl h; exact h)]
  · rfl
theorem line_set_same {d : deskT.D} {c w : Nat} {l : lineT.D} : lineAt (setLine d c w l) c w = l := by
  show (updA d.1 c _ c).2.1 w = l
  unfold updA
  rw [if_pos rfl]
  simp
theorem other_eq {c : Int} (hc : 0 ≤ c ∧ c < 2) : wrap64 (1 - c) = 1 - c := wrap_id (by omega)
theorem other_nat {c : Int} (hc : 0 ≤ c ∧ c < 2) : (1 - c).toNat = 1 - c.toNat := by omega
abbrev shareS : Spec := pureS [deskT, .int, .int] [deskT] fun d => (shareF d.1 d.2.1 d.2.2.1, ())
theorem c_Share : Ctr Try.prog 16 shareS := by
  refine ctr_of tabOk (SpecsOk.cons c_Good (by kernel_rfl) (SpecsOk.cons c_isCore (by kernel_rfl) (SpecsOk.cons c_isLine (by kernel_rfl) (SpecsOk.cons c_Find (by kernel_rfl) (SpecsOk.cons c_Drop (by kernel_rfl) (SpecsOk.cons c_other (by kernel_rfl) (SpecsOk.cons c_has (by kernel_rfl) (SpecsOk.cons c_remembered (by kernel_rfl) (SpecsOk.mut (inl_ok tabOk (SpecsOk.nil _) Try.func40 []) (by kernel_rfl) (SpecsOk.nil _)))))))))) Try.func16 rfl _ (Nat.le_of_ble_eq_true rfl) (fun _ _ => rfl) ?_
  rintro nn ⟨d, (c : Int), (n : Int), ⟨⟩⟩ _ _
  refine ⟨200, init_k fun K1 n1 => ?_⟩
  conv => whnf
  refine n1 _ ?_
  clear n1 K1
  repeat' (first | with_reducible refine seq_k fun K1 n1 => ?_ | with_reducible refine seq_nil ?_ | with_reducible refine drw_k fun K1 n1 => ?_ | with_reducible refine drw_nil ?_ ?_ | with_reducible refine run_seq ?_ | with_reducible refine run_skip ?_ | with_reducible refine run_regS ?_ | with_reducible refine run_regD (by kernel_rfl) ?_ ?_ | with_reducible refine inl_k (by with_unfolding_all rfl) (Nat.le_of_ble_eq_true rfl) fun K1 n1 => ?_ | with_reducible refine inlA_k (by with_unfolding_all rfl) (Nat.le_of_ble_eq_true rfl) fun K1 n1 => ?_ | with_reducible refine run_finA ?_ | with_reducible refine run_cond ?_ | with_reducible refine run_block ?_ | with_reducible refine run_endb ?_ | with_reducible refine run_exit fun K1 n1 => ?_ | with_reducible refine run_ret fun K1 n1 => ?_ | with_reducible refine run_fin ?_ | with_reducible refine run_inv ?_ | with_reducible refine go_rounds ?_ | ((with_reducible refine Go.mk ?_); (conv => whnf)) | refine Fork.yes ?_ | refine Fork.no ?_ | refine Fork.dec (fun _ => ?_) (fun _ => ?_) | refine Fork.ndec (fun _ => ?_) (fun _ => ?_) | refine Fork.mk (fun _ => ?_) (fun _ => ?_) | refine Way.yesG ?_ | refine Way.noG ?_ | refine Way.decG (fun _ => ?_) (fun _ => ?_) | refine Way.ndecG (fun _ => ?_) (fun _ => ?_) | refine Way.mkG (fun _ => ?_) (fun _ => ?_) | with_reducible refine Need.mkG ?_ ?_ | refine AppW.go0 ?_ ?_ | with_reducible refine NilW.goG (fun _ => ?_) ?_ | ((with_reducible refine n1 _ _ _ ?_); clear n1 K1) | ((with_reducible refine n1 _ ?_); clear n1 K1) | ((with_reducible refine n1 _ _ ?_); clear n1 K1) | ((with_reducible refine n1 _ _ _ _ ?_); clear n1 K1) | fail)
  all_goals try (first | exact trivial | omega | kernel_rfl | decide | exact And.intro (by omega) (by omega))
  all_goals try dsimp only [Int.toNat_natCast] at *
  all_goals try (first | exact trivial | omega | exact And.intro (by omega) (by omega))
  · refine Done.of ?_ (Or.inr (Nat.le_refl _))
    show (_, ()) = (shareF d c n, ())
    unfold shareF
    rw [if_neg (by rename_i h; rw [not_t h]; simp)]
  · refine Done.of ?_ (Or.inr (Nat.le_refl _))
    show (_, ()) = (shareF d c n, ())
    unfold shareF
    rw [if_neg (by rename_i h; exact fun g => h g.2.1)]
  · refine Done.of ?_ (Or.inr (Nat.le_refl _))
    show (_, ()) = (shareF d c n, ())
    unfold shareF
    rw [if_neg (by rename_i h; exact fun g => h g.2.2)]
  · rename_i h1 h2 h3 h4
    refine Done.of ?_ (Or.inr (Nat.le_refl _))
    show (_, ()) = (shareF d c n, ())
    rw [find_eq h2 h3] at h4
    unfold shareF
    rw [if_pos ⟨not_f h1, h2, h3⟩, if_pos h4]
  all_goals
    have h1 : (!goodD d) = false := by assumption
    have h2 : 0 ≤ c ∧ c < 2 := by assumption
    have h3 : 0 ≤ n ∧ n < 16 := by assumption
    have h4 : (findF d c n).2 = false := by assumption
    have hg := not_f h1
    rw [find_eq h2 h3] at h4
    have hw := way_lt h3.1
    simp only [find_eq h2 h3, other_eq h2, other_nat h2, drop_eq hg h2 h3] at *
  · exact tmod4 h3.1
  · exact (show @LE.le Int _ 0 (1 - c) ∧ @LT.lt Int _ (1 - c) 2 from ⟨by omega, by omega⟩)
  · exact tmod4 h3.1
  · have h6 : ((((dropD d c.toNat (wayOf n)).1 (1 - c.toNat)).2.1 (n.tmod 4).toNat).1 : Int) = 3 := by assumption
    have e : ((dropD d c.toNat (wayOf n)).1 (1 - c.toNat)).2.1 (n.tmod 4).toNat = lineAt d (1 - c.toNat) (wayOf n) := line_set_other (d := d) (Or.inl (by omega))
    rw [e] at h6 ⊢
    exact back_need (good_line hg (by omega) hw (by rw [h6]; decide)).2.1
  · rename_i h5 h6
    refine Done.of ?_ (Or.inr (Nat.le_refl _))
    show (_, ()) = (shareF d c n, ())
    have e : ((dropD d c.toNat (wayOf n)).1 (1 - c.toNat)).2.1 (n.tmod 4).toNat = lineAt d (1 - c.toNat) (wayOf n) := line_set_other (d := d) (Or.inl (by omega))
    have hr := (good_line hg (c := 1 - c.toNat) (w := wayOf n) (by omega) hw (by rw [← e, h6]; decide)).2.1
    rw [← e] at hr
    unfold shareF
    rw [if_pos ⟨hg, h2, h3⟩, if_neg (by rw [h4]; decide)]
    unfold takeD goBackF
    rw [if_pos (show hasL (lineAt (dropD d c.toNat (wayOf n)) (1 - c.toNat) (wayOf n)) n = true from decide_eq_true h5), if_pos (show (lineAt (dropD d c.toNat (wayOf n)) (1 - c.toNat) (wayOf n)).1 = 3 from h6), cpy_back _ _ _ hr]
    rfl
  · rename_i h5 h6
    refine Done.of ?_ (Or.inr (Nat.le_refl _))
    show (_, ()) = (shareF d c n, ())
    unfold shareF
    rw [if_pos ⟨hg, h2, h3⟩, if_neg (by rw [h4]; decide)]
    unfold takeD goBackF
    rw [if_pos (show hasL (lineAt (dropD d c.toNat (wayOf n)) (1 - c.toNat) (wayOf n)) n = true from decide_eq_true h5), if_neg (show ¬ (lineAt (dropD d c.toNat (wayOf n)) (1 - c.toNat) (wayOf n)).1 = 3 from h6)]
    rfl
  · rename_i h5
    refine Done.of ?_ (Or.inr (Nat.le_refl _))
    show (_, ()) = (shareF d c n, ())
    unfold shareF
    rw [if_pos ⟨hg, h2, h3⟩, if_neg (by rw [h4]; decide)]
    unfold takeD
    rw [if_neg (by rw [show hasL (lineAt (dropD d c.toNat (wayOf n)) (1 - c.toNat) (wayOf n)) n = false from decide_eq_false h5]; decide)]
    rfl
end Go.Proofs.Ytjbbgpacijageab.M

/- Package cache: Own, Write. -/
namespace Go.Proofs.Ytjbbgpacijageab.M
open Go.RowKit
set_option linter.unusedVariables false
set_option linter.unusedSimpArgs false

def alone1 (d : deskT.D) (c w : Nat) (n : Int) : deskT.D := if hasL (lineAt d (1 - c) w) n = true then setLine d (1 - c) w lineT.zero else d
def alone2 (d : deskT.D) (c w : Nat) : deskT.D := if (lineAt d c w).1 = 1 then setLine d c w (2, (lineAt d c w).2) else d
def aloneD (d : deskT.D) (c w : Nat) (n : Int) : deskT.D := alone2 (alone1 d c w n) c w
def ownF (d : deskT.D) (c n : Int) : deskT.D :=
  if goodD (shareF d c n) = true ∧ (findF (shareF d c n) c n).2 = true then aloneD (shareF d c n) c.toNat (findF (shareF d c n) c n).1.toNat n else shareF d c n
abbrev ownS : Spec := pureS [deskT, .int, .int] [deskT] fun d => (ownF d.1 d.2.1 d.2.2.1, ())
theorem find_yes {d : deskT.D} {c n : Int} (h : (findF d c n).2 = true) : (0 ≤ c ∧ c < 2) ∧ (0 ≤ n ∧ n < 16) := by
  unfold findF at h
  split at h
  · assumption
  · cases h
theorem c_Own : Ctr Try.prog 17 ownS := by
  refine ctr_of tabOk (SpecsOk.cons c_Good (by kernel_rfl) (SpecsOk.cons c_Share (by kernel_rfl) (SpecsOk.cons c_Find (by kernel_rfl) (SpecsOk.cons c_other (by kernel_rfl) (SpecsOk.cons c_has (by kernel_rfl) (SpecsOk.nil _)))))) Try.func17 rfl _ (Nat.le_of_ble_eq_true rfl) (fun _ _ => rfl) ?_
  rintro nn ⟨d, (c : Int), (n : Int), ⟨⟩⟩ _ _
  refine ⟨200, init_k fun K1 n1 => ?_⟩
  conv => whnf
  refine n1 _ ?_
  clear n1 K1
  repeat' (first | with_reducible refine seq_k fun K1 n1 => ?_ | with_reducible refine seq_nil ?_ | with_reducible refine drw_k fun K1 n1 => ?_ | with_reducible refine drw_nil ?_ ?_ | with_reducible refine run_seq ?_ | with_reducible refine run_skip ?_ | with_reducible refine run_regS ?_ | with_reducible refine run_regD (by kernel_rfl) ?_ ?_ | with_reducible refine inl_k (by with_unfolding_all rfl) (Nat.le_of_ble_eq_true rfl) fun K1 n1 => ?_ | with_reducible refine inlA_k (by with_unfolding_all rfl) (Nat.le_of_ble_eq_true rfl) fun K1 n1 => ?_ | with_reducible refine run_finA ?_ | with_reducible refine run_cond ?_ | with_reducible refine run_block ?_ | with_reducible refine run_endb ?_ | with_reducible refine run_exit fun K1 n1 => ?_ | with_reducible refine run_ret fun K1 n1 => ?_ | with_reducible refine run_fin ?_ | with_reducible refine run_inv ?_ | with_reducible refine go_rounds ?_ | ((with_reducible refine Go.mk ?_); (conv => whnf)) | refine Fork.yes ?_ | refine Fork.no ?_ | refine Fork.dec (fun _ => ?_) (fun _ => ?_) | refine Fork.ndec (fun _ => ?_) (fun _ => ?_) | refine Fork.mk (fun _ => ?_) (fun _ => ?_) | refine Way.yesG ?_ | refine Way.noG ?_ | refine Way.decG (fun _ => ?_) (fun _ => ?_) | refine Way.ndecG (fun _ => ?_) (fun _ => ?_) | refine Way.mkG (fun _ => ?_) (fun _ => ?_) | with_reducible refine Need.mkG ?_ ?_ | refine AppW.go0 ?_ ?_ | with_reducible refine NilW.goG (fun _ => ?_) ?_ | ((with_reducible refine n1 _ _ _ ?_); clear n1 K1) | ((with_reducible refine n1 _ ?_); clear n1 K1) | ((with_reducible refine n1 _ _ ?_); clear n1 K1) | ((with_reducible refine n1 _ _ _ _ ?_); clear n1 K1) | fail)
  all_goals try (first | exact trivial | omega | kernel_rfl | decide | exact And.intro (by omega) (by omega))
  all_goals try dsimp only [Int.toNat_natCast] at *
  all_goals try (first | exact trivial | omega | exact And.intro (by omega) (by omega))
  · refine Done.of ?_ (Or.inr (Nat.le_refl _))
    show (_, ()) = (ownF d c n, ())
    unfold ownF
    rw [if_neg (by rename_i h; rw [not_t h]; simp)]
  · refine Done.of ?_ (Or.inr (Nat.le_refl _))
    show (_, ()) = (ownF d c n, ())
    unfold ownF
    rw [if_neg (by rename_i h; rw [not_t h]; simp)]
  all_goals
    have h1 : (!goodD (shareF d c n)) = false := by assumption
    have h2 : (!(findF (shareF d c n) c n).2) = false := by assumption
    have h3 := find_yes (not_f h2)
    try simp only [other_eq h3.1, other_nat h3.1] at *
  · exact h3.1
  · exact find_range _ _ _
  · exact (show @LE.le Int _ 0 (1 - c) ∧ @LT.lt Int _ (1 - c) 2 from ⟨by omega, by omega⟩)
  · exact find_range _ _ _
  all_goals
    refine Done.of ?_ (Or.inr (Nat.le_refl _))
    show (_, ()) = (ownF d c n, ())
    unfold ownF
    rw [if_pos ⟨not_f h1, not_f h2⟩]
    unfold aloneD alone1
  · rename_i h5 h6
    rw [if_pos (show hasL (lineAt (shareF d c n) (1 - c.toNat) (findF (shareF d c n) c n).1.toNat) n = true from decide_eq_true h5)]
    unfold alone2
    rw [if_pos (show (lineAt (setLine (shareF d c n) (1 - c.toNat) (findF (shareF d c n) c n).1.toNat lineT.zero) c.toNat (findF (shareF d c n) c n).1.toNat).1 = 1 from h6)]
    rfl
  · rename_i h5 h6
    rw [if_pos (show hasL (lineAt (shareF d c n) (1 - c.toNat) (findF (shareF d c n) c n).1.toNat) n = true from decide_eq_true h5)]
    unfold alone2
    rw [if_neg (show ¬ (lineAt (setLine (shareF d c n) (1 - c.toNat) (findF (shareF d c n) c n).1.toNat lineT.zero) c.toNat (findF (shareF d c n) c n).1.toNat).1 = 1 from h6)]
    rfl
  · rename_i h6 h5
    rw [if_neg (by rw [show hasL (lineAt (shareF d c n) (1 - c.toNat) (findF (shareF d c n) c n).1.toNat) n = false from decide_eq_false h5]; decide)]
    unfold alone2
    rw [if_pos (show (lineAt (shareF d c n) c.toNat (findF (shareF d c n) c n).1.toNat).1 = 1 from h6)]
    rfl
  · rename_i h6 h5
    rw [if_neg (by rw [show hasL (lineAt (shareF d c n) (1 - c.toNat) (findF (shareF d c n) c n).1.toNat) n = false from decide_eq_false h5]; decide)]
    unfold alone2
    rw [if_neg (show ¬ (lineAt (shareF d c n) c.toNat (findF (shareF d c n) c n).1.toNat).1 = 1 from h6)]
def putW (d : deskT.D) (c w i : Nat) (n : Int) : deskT.D := setLine d c w ((lineAt d c w).1, (lineAt d c w).2.1, updA (lineAt d c w).2.2.1 i n, (lineAt d c w).2.2.2)
def setM (d : deskT.D) (c w : Nat) : deskT.D := setLine d c w (3, (lineAt d c w).2)
def writeF (d : deskT.D) (c word n : Int) : deskT.D :=
  if goodD d = true ∧ (0 ≤ word ∧ word < 32) ∧ (0 ≤ n ∧ n ≤ 4294967295) then
    if (findF d c (word.tdiv 2)).2 = true ∧ (lineAt d c.toNat (findF d c (word.tdiv 2)).1.toNat).1 ≠ 1 then
      setM (putW d c.toNat (findF d c (word.tdiv 2)).1.toNat (word.tmod 2).toNat n) c.toNat (findF d c (word.tdiv 2)).1.toNat
    else d
  else d
theorem half_eq {word : Int} (h : 0 ≤ word ∧ word < 32) : wrap64 (word.tdiv 2) = word.tdiv 2 := wrap_id (by rw [Int.tdiv_eq_ediv_of_nonneg h.1]; omega)
abbrev writeS : Spec := pureS [deskT, .int, .int, .int] [deskT] fun d => (writeF d.1 d.2.1 d.2.2.1 d.2.2.2.1, ())
theorem c_Write : Ctr Try.prog 19 writeS := by
  refine ctr_of tabOk (SpecsOk.cons c_Good (by kernel_rfl) (SpecsOk.cons c_isPlace (by kernel_rfl) (SpecsOk.cons c_isWord (by kernel_rfl) (SpecsOk.cons c_Find (by kernel_rfl) (SpecsOk.nil _))))) Try.func19 rfl _ (Nat.le_of_ble_eq_true rfl) (fun _ _ => rfl) ?_
  rintro nn ⟨d, (c : Int), (word : Int), (n : Int), ⟨⟩⟩ _ _
  refine ⟨200, init_k fun K1 n1 => ?_⟩
  conv => whnf
  refine n1 _ ?_
  clear n1 K1
  repeat' (first | with_reducible refine seq_k fun K1 n1 => ?_ | with_reducible refine seq_nil ?_ | with_reducible refine drw_k fun K1 n1 => ?_ | with_reducible refine drw_nil ?_ ?_ | with_reducible refine run_seq ?_ | with_reducible refine run_skip ?_ | with_reducible refine run_regS ?_ | with_reducible refine run_regD (by kernel_rfl) ?_ ?_ | with_reducible refine inl_k (by with_unfolding_all rfl) (Nat.le_of_ble_eq_true rfl) fun K1 n1 => ?_ | with_reducible refine inlA_k (by with_unfolding_all rfl) (Nat.le_of_ble_eq_true rfl) fun K1 n1 => ?_ | with_reducible refine run_finA ?_ | with_reducible refine run_cond ?_ | with_reducible refine run_block ?_ | with_reducible refine run_endb ?_ | with_reducible refine run_exit fun K1 n1 => ?_ | with_reducible refine run_ret fun K1 n1 => ?_ | with_reducible refine run_fin ?_ | with_reducible refine run_inv ?_ | with_reducible refine go_rounds ?_ | ((with_reducible refine Go.mk ?_); (conv => whnf)) | refine Fork.yes ?_ | refine Fork.no ?_ | refine Fork.dec (fun _ => ?_) (fun _ => ?_) | refine Fork.ndec (fun _ => ?_) (fun _ => ?_) | refine Fork.mk (fun _ => ?_) (fun _ => ?_) | refine Way.yesG ?_ | refine Way.noG ?_ | refine Way.decG (fun _ => ?_) (fun _ => ?_) | refine Way.ndecG (fun _ => ?_) (fun _ => ?_) | refine Way.mkG (fun _ => ?_) (fun _ => ?_) | with_reducible refine Need.mkG ?_ ?_ | refine AppW.go0 ?_ ?_ | with_reducible refine NilW.goG (fun _ => ?_) ?_ | ((with_reducible refine n1 _ _ _ ?_); clear n1 K1) | ((with_reducible refine n1 _ ?_); clear n1 K1) | ((with_reducible refine n1 _ _ ?_); clear n1 K1) | ((with_reducible refine n1 _ _ _ _ ?_); clear n1 K1) | fail)
  all_goals try (first | exact trivial | omega | kernel_rfl | decide | exact And.intro (by omega) (by omega))
  all_goals try dsimp only [Int.toNat_natCast] at *
  all_goals try (first | exact trivial | omega | exact And.intro (by omega) (by omega))
  · refine Done.of ?_ (Or.inr (Nat.le_refl _))
    show (_, ()) = (writeF d c word n, ())
    unfold writeF
    rw [if_neg (by rename_i h; rw [not_t h]; simp)]
  · refine Done.of ?_ (Or.inr (Nat.le_refl _))
    show (_, ()) = (writeF d c word n, ())
    unfold writeF
    rw [if_neg (by rename_i h; exact fun g => h g.2.1)]
  · refine Done.of ?_ (Or.inr (Nat.le_refl _))
    show (_, ()) = (writeF d c word n, ())
    unfold writeF
    rw [if_neg (by rename_i h; exact fun g => h g.2.2)]
  all_goals
    have h1 : (!goodD d) = false := by assumption
    have h2 : 0 ≤ word ∧ word < 32 := by assumption
    have h3 : 0 ≤ n ∧ n ≤ 4294967295 := by assumption
    try simp only [half_eq h2] at *
  · refine Done.of ?_ (Or.inr (Nat.le_refl _))
    show (_, ()) = (writeF d c word n, ())
    unfold writeF
    rw [if_pos ⟨not_f h1, h2, h3⟩, if_neg (by rename_i h; rw [not_t h]; simp)]
  all_goals
    have h4 : (!(findF d c (word.tdiv 2)).2) = false := by assumption
    have h5 := find_yes (not_f h4)
  · exact h5.1
  · exact find_range _ _ _
  · refine Done.of ?_ (Or.inr (Nat.le_refl _))
    show (_, ()) = (writeF d c word n, ())
    unfold writeF
    rw [if_pos ⟨not_f h1, h2, h3⟩, if_neg (by rename_i h; exact fun g => g.2 h)]
  · exact h5.1
  · exact find_range _ _ _
  · exact tmod2 h2.1
  · refine Done.of ?_ (Or.inr (Nat.le_refl _))
    show (_, ()) = (writeF d c word n, ())
    unfold writeF
    rw [if_pos ⟨not_f h1, h2, h3⟩, if_pos ⟨not_f h4, by rename_i h; exact h⟩]
    rfl
end Go.Proofs.Ytjbbgpacijageab.M
