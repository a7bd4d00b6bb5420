/- Package cache: Drop. -/
import Derived.Test.YtjbbgpacijageabC6
namespace Go.Proofs.Ytjbbgpacijageab.M
open Go.RowKit
set_option linter.unusedVariables false
set_option linter.unusedSimpArgs false

/-- The memory with a line's words, if they are Modified. -/
def goBackF (m : Nat → Int) (l : lineT.D) : Nat → Int := if l.1 = 3 then cpy m (2 * l.2.1.toNat) 2 l.2.2.1 else m
/-- The desk with another line at a place. -/
def setLine (d : deskT.D) (c w : Nat) (l : lineT.D) : deskT.D := (updA d.1 c ((d.1 c).1, updA (d.1 c).2.1 w l, (d.1 c).2.2), d.2)
def lineAt (d : deskT.D) (c w : Nat) : lineT.D := (d.1 c).2.1 w
def setMem (d : deskT.D) (m : Nat → Int) : deskT.D := (d.1, m)
def dropD (d : deskT.D) (c w : Nat) : deskT.D := setMem (setLine d c w lineT.zero) (goBackF d.2 (lineAt d c w))
def dropF (d : deskT.D) (c way : Int) : deskT.D := if goodD d = true ∧ (0 ≤ c ∧ c < 2) ∧ (0 ≤ way ∧ way < 4) then dropD d c.toNat way.toNat else d

theorem good_at {d : deskT.D} (h : goodD d = true) {c w : Nat} (hc : c < 2) (hw : w < 4) : okAt d c w = true := by
  unfold goodD at h
  rw [Bool.and_eq_true] at h
  exact List.all_eq_true.1 (List.all_eq_true.1 h.2 c (List.mem_range.2 hc)) w (List.mem_range.2 hw)
theorem line_range {l : lineT.D} {w : Int} (h : goodLn l w = true) (hl : l.1 ≠ 0) : (1 ≤ l.1 ∧ l.1 ≤ 3) ∧ (@LE.le Int _ 0 l.2.1 ∧ @LT.lt Int _ l.2.1 16) ∧ l.2.1.tmod 4 = w := by
  unfold goodLn at h
  rw [decide_eq_false hl] at h
  simp at h
  obtain ⟨⟨h1, h2, h3, h4⟩, _⟩ := h
  exact ⟨⟨h1, h2⟩, h3, h4⟩
theorem good_line {d : deskT.D} (h : goodD d = true) {c w : Nat} (hc : c < 2) (hw : w < 4) (hl : (lineAt d c w).1 ≠ 0) : (1 ≤ (lineAt d c w).1 ∧ (lineAt d c w).1 ≤ 3) ∧ (@LE.le Int _ 0 (lineAt d c w).2.1 ∧ @LT.lt Int _ (lineAt d c w).2.1 16) ∧ (lineAt d c w).2.1.tmod 4 = (w : Int) := by
  have h1 := good_at h hc hw
  unfold okAt at h1
  rw [Bool.and_eq_true] at h1
  exact line_range h1.1 hl
theorem cpy_back (m data : Nat → Int) (z : Int) (h : 0 ≤ z ∧ z < 16) : cpy m (wrap64 (2 * z)).toNat (min (2 - Int.toNat 0) (32 - (wrap64 (2 * z)).toNat)) (fun q => data (Int.toNat 0 + q)) = cpy m (2 * z.toNat) 2 data := by
  have hw : wrap64 (2 * z) = 2 * z := wrap_id (by omega)
  have h1 : (2 * z).toNat = 2 * z.toNat := by omega
  rw [hw, h1]
  have h2 : min (2 - Int.toNat 0) (32 - 2 * z.toNat) = 2 := by
    have : Int.toNat 0 = 0 := rfl
    rw [this]
    omega
  rw [h2]
  congr 1
  funext q
  have : Int.toNat 0 + q = q := by
    have : Int.toNat 0 = 0 := rfl
    omega
  rw [this]
theorem back_need {z : Int} (h : 0 ≤ z ∧ z < 16) : 0 ≤ wrap64 (2 * z) ∧ wrap64 (2 * z) ≤ ((32 : Nat) : Int) ∧ ((32 : Nat) : Int) ≤ ((32 : Nat) : Int) := by
  have hw : wrap64 (2 * z) = 2 * z := wrap_id (by omega)
  rw [hw]
  omega

abbrev dropS : Spec := pureS [deskT, .int, .int] [deskT] fun d => (dropF d.1 d.2.1 d.2.2.1, ())
theorem c_Drop : Ctr Try.prog 15 dropS := by
  refine ctr_of tabOk (SpecsOk.cons c_Good (by kernel_rfl) (SpecsOk.cons c_isCore (by kernel_rfl) (SpecsOk.cons c_isWay (by kernel_rfl) (SpecsOk.mut (inl_ok tabOk (SpecsOk.nil _) Try.func40 []) (by kernel_rfl) (SpecsOk.nil _))))) Try.func15 rfl _ (Nat.le_of_ble_eq_true rfl) (fun _ _ => rfl) ?_
  rintro nn ⟨d, (c : Int), (way : Int), ⟨⟩⟩ _ _
  refine ⟨200, init_k fun K1 n1 => ?_⟩
  conv => whnf
  refine n1 _ ?_
  clear n1 K1
  repeat' (first | with_reducible refine seq_k fun K1 n1 => ?_ | with_reducible refine seq_nil ?_ | with_reducible refine drw_k fun K1 n1 => ?_ | with_reducible refine drw_nil ?_ ?_ | with_reducible refine run_seq ?_ | with_reducible refine run_skip ?_ | with_reducible refine run_regS ?_ | with_reducible refine run_regD (by kernel_rfl) ?_ ?_ | with_reducible refine inl_k (by with_unfolding_all rfl) (Nat.le_of_ble_eq_true rfl) fun K1 n1 => ?_ | with_reducible refine inlA_k (by with_unfolding_all rfl) (Nat.le_of_ble_eq_true rfl) fun K1 n1 => ?_ | with_reducible refine run_finA ?_ | with_reducible refine run_cond ?_ | with_reducible refine run_block ?_ | with_reducible refine run_endb ?_ | with_reducible refine run_exit fun K1 n1 => ?_ | with_reducible refine run_ret fun K1 n1 => ?_ | with_reducible refine run_fin ?_ | with_reducible refine run_inv ?_ | with_reducible refine go_rounds ?_ | ((with_reducible refine Go.mk ?_); (conv => whnf)) | refine Fork.yes ?_ | refine Fork.no ?_ | refine Fork.dec (fun _ => ?_) (fun _ => ?_) | refine Fork.ndec (fun _ => ?_) (fun _ => ?_) | refine Fork.mk (fun _ => ?_) (fun _ => ?_) | refine Way.yesG ?_ | refine Way.noG ?_ | refine Way.decG (fun _ => ?_) (fun _ => ?_) | refine Way.ndecG (fun _ => ?_) (fun _ => ?_) | refine Way.mkG (fun _ => ?_) (fun _ => ?_) | with_reducible refine Need.mkG ?_ ?_ | refine AppW.go0 ?_ ?_ | with_reducible refine NilW.goG (fun _ => ?_) ?_ | ((with_reducible refine n1 _ _ _ ?_); clear n1 K1) | ((with_reducible refine n1 _ ?_); clear n1 K1) | ((with_reducible refine n1 _ _ ?_); clear n1 K1) | ((with_reducible refine n1 _ _ _ _ ?_); clear n1 K1) | fail)
  all_goals try (first | exact trivial | omega | kernel_rfl | decide | exact And.intro (by omega) (by omega))
  all_goals try dsimp only [Int.toNat_natCast] at *
  all_goals try (first | exact trivial | omega | exact And.intro (by omega) (by omega))
  · refine Done.of ?_ (Or.inr (Nat.le_refl _))
    show (_, ()) = (dropF d c way, ())
    unfold dropF
    rw [if_neg (by rename_i h; rw [not_t h]; simp)]
  · refine Done.of ?_ (Or.inr (Nat.le_refl _))
    show (_, ()) = (dropF d c way, ())
    unfold dropF
    rw [if_neg (by rename_i h; exact fun g => h g.2.1)]
  · refine Done.of ?_ (Or.inr (Nat.le_refl _))
    show (_, ()) = (dropF d c way, ())
    unfold dropF
    rw [if_neg (by rename_i h; exact fun g => h g.2.2)]
  · have h1 : (!goodD d) = false := by assumption
    have h2 : 0 ≤ c ∧ c < 2 := by assumption
    have h3 : 0 ≤ way ∧ way < 4 := by assumption
    have h4 : ((d.1 c.toNat).2.1 way.toNat).1 = 3 := by assumption
    have hl := good_line (not_f h1) (c := c.toNat) (w := way.toNat) (by omega) (by omega) (by show ((d.1 c.toNat).2.1 way.toNat).1 ≠ 0; rw [h4]; decide)
    exact back_need hl.2.1
  · rename_i h1 h2 h3 h4
    have hl := good_line (not_f h1) (c := c.toNat) (w := way.toNat) (by omega) (by omega) (by show ((d.1 c.toNat).2.1 way.toNat).1 ≠ 0; rw [h4]; decide)
    refine Done.of ?_ (Or.inr (Nat.le_refl _))
    show (_, ()) = (dropF d c way, ())
    unfold dropF dropD
    rw [if_pos ⟨not_f h1, h2, h3⟩]
    unfold goBackF lineAt
    rw [if_pos h4, ← cpy_back d.2 ((d.1 c.toNat).2.1 way.toNat).2.2.1 ((d.1 c.toNat).2.1 way.toNat).2.1 hl.2.1]
    rfl
  · rename_i h1 h2 h3 h4
    refine Done.of ?_ (Or.inr (Nat.le_refl _))
    show (_, ()) = (dropF d c way, ())
    unfold dropF dropD
    rw [if_pos ⟨not_f h1, h2, h3⟩]
    unfold goBackF lineAt
    rw [if_neg h4]
    rfl
end Go.Proofs.Ytjbbgpacijageab.M
