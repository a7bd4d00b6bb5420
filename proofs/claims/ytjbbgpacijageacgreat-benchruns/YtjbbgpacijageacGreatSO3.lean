/- The document's own step of a desk: a word touched outside of a transaction. -/
import Derived.Test.YtjbbgpacijageacGreatSO2
namespace Go.Proofs.YtjbbgpacijageacGreat.M
open Go.RowKit
set_option linter.unusedVariables false
set_option linter.unusedSimpArgs false

def nwD (g : Nat → plainT.D) (d : deskT.D) : deskT.D := (fun k => (g k, (d.1 k).2), d.2)
section
variable {g : Nat → plainT.D}
theorem nw_setLine (d : deskT.D) (c w : Nat) (l : lineT.D) : nwD g (setLine d c w l) = setLine (nwD g d) c w l := by
  refine Prod.ext (funext fun k => ?_) rfl
  show (g k, (updA d.1 c _ k).2) = updA (nwD g d).1 c _ k
  unfold updA
  by_cases h : k = c
  · rw [if_pos h, if_pos h, h]
    rfl
  · rw [if_neg h, if_neg h]
    rfl
theorem nw_setMem (d : deskT.D) (m : Nat → Int) : nwD g (setMem d m) = setMem (nwD g d) m := rfl
theorem nw_lineAt (d : deskT.D) (c w : Nat) : lineAt (nwD g d) c w = lineAt d c w := rfl
theorem nw_goodD (d : deskT.D) : goodD (nwD g d) = goodD d := rfl
theorem nw_find (d : deskT.D) (c n : Int) : findF (nwD g d) c n = findF d c n := rfl
theorem nw_dropD (d : deskT.D) (c w : Nat) : nwD g (dropD d c w) = dropD (nwD g d) c w := by
  unfold dropD
  rw [nw_setMem, nw_setLine]
  rfl
theorem nw_take (d : deskT.D) (c w : Nat) (n : Int) : nwD g (takeD d c w n) = takeD (nwD g d) c w n := by
  unfold takeD
  rw [nw_lineAt]
  split
  · rw [nw_setLine, nw_setLine, nw_setMem]
    rfl
  · rw [nw_setLine]
    rfl
theorem nw_share (d : deskT.D) (c n : Int) : nwD g (shareF d c n) = shareF (nwD g d) c n := by
  unfold shareF
  rw [nw_goodD, nw_lineAt]
  split
  · split
    · rfl
    · rw [nw_take, nw_dropD]
  · rfl
theorem nw_alone1 (d : deskT.D) (c w : Nat) (n : Int) : nwD g (alone1 d c w n) = alone1 (nwD g d) c w n := by
  unfold alone1
  rw [nw_lineAt, ← nw_setLine]
  split <;> rfl
theorem nw_alone2 (d : deskT.D) (c w : Nat) : nwD g (alone2 d c w) = alone2 (nwD g d) c w := by
  unfold alone2
  rw [nw_lineAt, ← nw_setLine]
  split <;> rfl
theorem nw_own (d : deskT.D) (c n : Int) : nwD g (ownF d c n) = ownF (nwD g d) c n := by
  unfold ownF aloneD
  rw [← nw_share, nw_goodD, nw_find, ← nw_alone1, ← nw_alone2]
  split <;> rfl
theorem nw_write (d : deskT.D) (c word n : Int) : nwD g (writeF d c word n) = writeF (nwD g d) c word n := by
  unfold writeF putW setM
  rw [nw_goodD, nw_find, nw_lineAt, ← nw_setLine, nw_lineAt, ← nw_setLine]
  split
  · split <;> rfl
  · rfl
end
theorem wn_comm {d X : deskT.D} (h : ∀ k, (X.1 k).1 = (d.1 k).1) (c : Int) (p : plainT.D) : withNow X c p = nwD (updA (fun k => (d.1 k).1) c.toNat p) X := by
  refine Prod.ext (funext fun k => ?_) rfl
  show updA X.1 c.toNat (p, (X.1 c.toNat).2) k = (updA (fun k => (d.1 k).1) c.toNat p k, (X.1 k).2)
  unfold updA
  by_cases hk : k = c.toNat
  · rw [if_pos hk, if_pos hk, hk]
  · rw [if_neg hk, if_neg hk]
    exact Prod.ext (h k) rfl
theorem wn_self (d : deskT.D) (c : Int) (p : plainT.D) : withNow d c p = nwD (updA (fun k => (d.1 k).1) c.toNat p) d := wn_comm (fun _ => rfl) c p
theorem share_now (d : deskT.D) (c n : Int) (p : plainT.D) : shareF (withNow d c p) c n = withNow (shareF d c n) c p := by
  rw [wn_comm (d := d) (fun k => (share_core d c n k).1), wn_self, nw_share]
theorem write_now {d : deskT.D} (hg : goodK d = true) (c n word m : Int) (p : plainT.D) : writeF (ownF (withNow d c p) c n) c word m = withNow (writeF (ownF d c n) c word m) c p := by
  have h1 := mv_own (good_nz (goodK_D hg)) c n
  rw [wn_comm (d := d) (fun k => ((h1.trans (mv_write h1.nz c word m)).core k).1), wn_self, nw_write, nw_own]
theorem updA_comm {α : Type} (f : Nat → α) {j k : Nat} (h : j ≠ k) (x y : α) : updA (updA f j x) k y = updA (updA f k y) j x := by
  funext n
  unfold updA
  by_cases hj : n = j
  · rw [if_neg (fun e => h (hj.symm.trans e)), if_pos hj, if_pos hj]
  · by_cases hk : n = k
    · rw [if_pos hk, if_neg hj, if_pos hk]
    · rw [if_neg hk, if_neg hj, if_neg hj, if_neg hk]
theorem fail_now {c : Int} (hc : 0 ≤ c ∧ c < 2) (d : deskT.D) (l : progsT.D) (why : Int) (p : plainT.D) : (failD (withNow d c p) l (1 - c) why).1 = withNow (failD d l (1 - c) why).1 c p := by
  have hne : c.toNat ≠ (1 - c).toNat := by omega
  show setCore (withNow d c p) (1 - c).toNat (failC ((withNow d c p).1 (1 - c).toNat) _ why) = setCore (setCore d (1 - c).toNat _) c.toNat (p, ((setCore d (1 - c).toNat (failC (d.1 (1 - c).toNat) (l (1 - c).toNat).2 why)).1 c.toNat).2)
  rw [show (withNow d c p).1 (1 - c).toNat = d.1 (1 - c).toNat from set_ne d _ (fun e => hne e.symm), show (setCore d (1 - c).toNat (failC (d.1 (1 - c).toNat) (l (1 - c).toNat).2 why)).1 c.toNat = d.1 c.toNat from set_ne d _ hne]
  exact Prod.ext (updA_comm _ hne _ _) rfl
theorem puts_now {c : Int} (hc : 0 ≤ c ∧ c < 2) {d : deskT.D} (hg : goodK d = true) (rs : Rec) (l : progsT.D) (word n : Int) (p : plainT.D) : putsF (withNow d c p, rs) l c word n = (withNow (putsF (d, rs) l c word n).1 c p, (putsF (d, rs) l c word n).2) := by
  have hne : (1 - c).toNat ≠ c.toNat := by omega
  unfold putsF
  rw [other_eq hc]
  show (if holdsF (withNow d c p) (1 - c) (lineOf word) = true then _ else _) = _
  rw [holds_core (show (withNow d c p).1 (1 - c).toNat = d.1 (1 - c).toNat from set_ne d _ hne)]
  by_cases h : holdsF d (1 - c) (lineOf word) = true
  · simp only [h, if_true]
    rw [fail_now hc, write_now (lk_fail hc hg (holds_yes h).2 l 1001).good]
  · simp only [h, if_false]
    rw [write_now hg]
    rfl
set_option maxHeartbeats 3200000 in
theorem wdir_at {t0 t1 t2 : Ty} {v0 : t0.D} {v1 : t1.D} {v2 : t2.D} {s0 : Ty} {u0 : s0.D} {D : deskT.D} {l : progsT.D} {c : Int} {n : Nat} {p r : Hd × Nat} {tk : List (Hd × Nat)} {H : Hd} {K : SV → List V → NS → Prop} {i : instrT.D} {word : Int} (hg : goodK D = true) (hc : 0 ≤ c ∧ c < 2) (h0 : (D.1 c.toNat).2.2.1 = 0) (hr : 0 ≤ i.2.1 ∧ i.2.1 < 8) (hw : 0 ≤ word ∧ word < 32) {X : deskT.D → Rec → Prop} (hX : ∀ D' R', D' = (outF D l c i word).1 → R' = (outF D l c i word).2 → X D' R') (h : ∀ n' H' D' R', n ≤ n' → X D' R' → K (.tup []) [.leaf t0 v0, .leaf t1 v1, .leaf t2 v2, .leaf workT (D', l, (H', R')), .leaf s0 u0] ⟨n', p :: r :: (H', 3) :: tk⟩) :
    wdirTr [.ptr 3 0 [] workT, .of (.leaf .int c), .of (.leaf instrT i), .of (.leaf .int word)] [.leaf t0 v0, .leaf t1 v1, .leaf t2 v2, .leaf workT (D, l, (H, [])), .leaf s0 u0] ⟨n, p :: r :: (H, 3) :: tk⟩ K := by
  refine ⟨[.ptr 3 0 [] workT, .of (.leaf .int c), .of (.leaf instrT i), .of (.leaf .int word)], [.leaf t0 v0, .leaf t1 v1, .leaf t2 v2, .leaf workT (D, l, (H, [])), .leaf s0 u0], rfl, rfl, ?_⟩
  by_cases h5 : i.1 = 5
  · have h6 : ¬ i.1 = 6 := fun e => by rw [h5] at e; exact absurd e (by decide)
    have e0 : outF D l c i word = onF (withNow (shareF D c (lineOf word)) c (putF ((shareF D c (lineOf word)).1 c.toNat).1 i.2.1 (valF D word))) c := by
      unfold outF hadF
      rw [if_pos h5, if_pos h6, share_now, (share_core D c (lineOf word) c.toNat).1]
    have hlo : 0 ≤ ((withNow (shareF D c (lineOf word)) c (putF ((shareF D c (lineOf word)).1 c.toNat).1 i.2.1 (valF D word))).1 c.toNat).2.2.1 := by
      unfold withNow
      rw [set_at, (share_core D c (lineOf word) c.toNat).2, h0]
      exact Int.le_refl _
    repeat' (first | (with_reducible first | refine seq_k fun K1 n1 => ?_ | refine seq_nil ?_ | refine drw_k fun K1 n1 => ?_ | refine drw_nil ?_ ?_ | refine run_seq ?_ | refine run_regS ?_ | refine run_regD (by with_unfolding_all rfl) ?_ ?_ | refine inl_k (by with_unfolding_all rfl) (Nat.le_of_ble_eq_true rfl) fun K1 n1 => ?_ | refine run_cond ?_) | ((with_reducible refine Go.mk ?_); (conv => whnf)) | refine Fork.decT (by assumption) ?_ | refine Fork.ndecQ (by assumption) ?_ | (with_reducible first | refine Need.mkG ?_ ?_) | ((with_reducible refine n1 _ _ _ ?_); clear n1 K1) | ((with_reducible refine n1 _ _ ?_); clear n1 K1) | ((with_reducible refine n1 _ _ _ _ ?_); clear n1 K1) | fail)
    all_goals try (first | exact trivial | omega | kernel_rfl)
    all_goals try dsimp only [Int.toNat_natCast] at *
    refine lax_norm (won_at_2 (D := withNow (shareF D c (lineOf word)) c (putF ((shareF D c (lineOf word)).1 c.toNat).1 i.2.1 (valF D word))) hc hlo (Nat.zero_le _) (X := fun D' R' => D' = (outF D l c i word).1 ∧ R' = (outF D l c i word).2) (fun _ _ h1 h2 => ⟨h1.trans (by rw [e0]), h2.trans (by rw [e0]; rfl)⟩) ?_)
    rintro n' H' D' R' hn ⟨hD, hR⟩
    refine n1 _ _ _ ?_
    clear n1 K1
    repeat' (first | (with_reducible first | refine seq_nil ?_ | refine run_fin ?_) | ((with_reducible refine Go.mk ?_); (conv => whnf)) | fail)
    exact wk_end_1 h rfl (hX _ _ hD hR) hn
  · obtain ⟨f, hl, hr2, hs⟩ := lk_puts hc hg [] l hw (of_decide_eq_true (isW_get (core_ok hc hg).now i.2.1))
    have ea : (D.1 c.toNat).1.1 (Int.toNat i.2.1) = getF (D.1 c.toNat).1 i.2.1 := (getF_in hr).symm
    have hrs : (putsF (D, []) l c word (getF (D.1 c.toNat).1 i.2.1)).2.length ≤ 1000 := by
      rw [hr2]
      unfold othR
      split <;> simp
    repeat' (first | (with_reducible first | refine seq_k fun K1 n1 => ?_ | refine seq_nil ?_ | refine drw_k fun K1 n1 => ?_ | refine drw_nil ?_ ?_ | refine run_seq ?_ | refine run_regS ?_ | refine run_regD (by with_unfolding_all rfl) ?_ ?_ | refine inl_k (by with_unfolding_all rfl) (Nat.le_of_ble_eq_true rfl) fun K1 n1 => ?_ | refine run_cond ?_) | ((with_reducible refine Go.mk ?_); (conv => whnf)) | refine Fork.decN (by assumption) ?_ | (with_reducible first | refine Need.mkG ?_ ?_) | ((with_reducible refine n1 _ _ _ ?_); clear n1 K1) | ((with_reducible refine n1 _ _ ?_); clear n1 K1) | ((with_reducible refine n1 _ _ _ _ ?_); clear n1 K1) | fail)
    all_goals try (first | exact trivial | omega | kernel_rfl)
    all_goals try dsimp only [Int.toNat_natCast] at *
    rw [ea]
    refine lax_norm (wput_at_2 hg hc (Nat.zero_le _) (X := fun D' R' => D' = (putsF (D, []) l c word (getF (D.1 c.toNat).1 i.2.1)).1 ∧ R' = (putsF (D, []) l c word (getF (D.1 c.toNat).1 i.2.1)).2) (fun _ _ h1 h2 => ⟨h1, h2⟩) ?_)
    rintro n' H' D1 R1 hn ⟨hD, hR⟩
    rw [← hD] at hs
    rw [← hR] at hrs
    have h01 : (D1.1 c.toNat).2.2.1 = 0 := by rw [hs.2]; exact h0
    refine n1 _ _ _ ?_
    clear n1 K1
    by_cases h6 : i.1 = 6
    · have e0 : outF D l c i word = ((onF D1 c).1, R1 ++ (onF D1 c).2) := by
        unfold outF hadF thenOn
        rw [if_neg h5, if_neg (fun g => g h6), hD, hR]
      repeat' (first | (with_reducible first | refine seq_k fun K1 n1 => ?_ | refine seq_nil ?_ | refine run_seq ?_ | refine run_skip ?_ | refine run_regS ?_ | refine run_cond ?_) | ((with_reducible refine Go.mk ?_); (conv => whnf)) | refine Fork.ndecP (by assumption) ?_ | ((with_reducible refine n1 _ _ _ ?_); clear n1 K1) | fail)
      all_goals try dsimp only [Int.toNat_natCast] at *
      refine lax_norm (won_at_2 (D := D1) hc (by rw [h01]; exact Int.le_refl _) hrs (X := fun D' R' => D' = (outF D l c i word).1 ∧ R' = (outF D l c i word).2) (fun _ _ h1 h2 => ⟨h1.trans (by rw [e0]), h2.trans (by rw [e0])⟩) ?_)
      rintro n2 H2 D2 R2 hn2 ⟨hD2, hR2⟩
      refine n1 _ _ _ ?_
      clear n1 K1
      repeat' (first | (with_reducible first | refine seq_nil ?_ | refine run_fin ?_) | ((with_reducible refine Go.mk ?_); (conv => whnf)) | fail)
      exact wk_end_1 h rfl (hX _ _ hD2 hR2) (Nat.le_trans hn hn2)
    · have e0 : outF D l c i word = ((onF (withNow D1 c (putF (D1.1 c.toNat).1 i.2.1 (valF D word))) c).1, R1 ++ (onF (withNow D1 c (putF (D1.1 c.toNat).1 i.2.1 (valF D word))) c).2) := by
        unfold outF hadF thenOn
        rw [if_neg h5, if_pos h6, puts_now hc hg, hs.1, hD, hR]
      have hlo : 0 ≤ ((withNow D1 c (putF (D1.1 c.toNat).1 i.2.1 (valF D word))).1 c.toNat).2.2.1 := by
        unfold withNow
        rw [set_at, h01]
        exact Int.le_refl _
      repeat' (first | (with_reducible first | refine seq_k fun K1 n1 => ?_ | refine seq_nil ?_ | refine drw_k fun K1 n1 => ?_ | refine drw_nil ?_ ?_ | refine run_seq ?_ | refine run_regS ?_ | refine run_regD (by with_unfolding_all rfl) ?_ ?_ | refine run_cond ?_) | ((with_reducible refine Go.mk ?_); (conv => whnf)) | refine Fork.ndecQ (by assumption) ?_ | (with_reducible first | refine Need.mkG ?_ ?_) | ((with_reducible refine n1 _ _ _ ?_); clear n1 K1) | ((with_reducible refine n1 _ _ _ _ ?_); clear n1 K1) | fail)
      all_goals try (first | exact trivial | omega | kernel_rfl)
      all_goals try dsimp only [Int.toNat_natCast] at *
      refine lax_norm (won_at_2 (D := withNow D1 c (putF (D1.1 c.toNat).1 i.2.1 (valF D word))) hc hlo hrs (X := fun D' R' => D' = (outF D l c i word).1 ∧ R' = (outF D l c i word).2) (fun _ _ h1 h2 => ⟨h1.trans (by rw [e0]), h2.trans (by rw [e0])⟩) ?_)
      rintro n2 H2 D2 R2 hn2 ⟨hD2, hR2⟩
      refine n1 _ _ _ ?_
      clear n1 K1
      repeat' (first | (with_reducible first | refine seq_nil ?_ | refine run_fin ?_) | ((with_reducible refine Go.mk ?_); (conv => whnf)) | fail)
      exact wk_end_1 h rfl (hX _ _ hD2 hR2) (Nat.le_trans hn hn2)
end Go.Proofs.YtjbbgpacijageacGreat.M
