/- The document's own functions on caches: whether they are in order. -/
import Derived.Test.YtjbbgpacijageaaR4
import Derived.Test.YtjbbgpacijageaaUK
namespace Go.Proofs.Ytjbbgpacijageaa.M
open Go.RowKit
set_option linter.unusedVariables false
set_option linter.unusedSimpArgs false

theorem gl_iff (s L : Int) (x : Nat → Int) (r : Bool) (w : Nat) : goodLn (s, L, x, r) w = true ↔ (s = 0 ∧ L = 0 ∧ x 0 = 0 ∧ x 1 = 0 ∧ r = false) ∨ (1 ≤ s ∧ s ≤ 3 ∧ 0 ≤ L ∧ L < 16 ∧ L % 4 = (w : Int) ∧ Wd (x 0) ∧ Wd (x 1)) := by
  by_cases h0 : s = 0
  · subst h0
    have : goodLn (0, L, x, r) w = eqT lineT (0, L, x, r) (0, 0, fun _ => 0, false) := by
      unfold goodLn
      rw [show decide (((0 : Int), L, x, r).1 = 0) = true from rfl]
      rfl
    rw [this, eqLine]
    constructor
    · rintro ⟨h1, h2, ⟨h3, h4⟩, h5⟩
      exact Or.inl ⟨h1, h2, h3, h4, h5⟩
    · rintro (⟨h1, h2, h3, h4, h5⟩ | ⟨h1, _⟩)
      · exact ⟨h1, h2, ⟨h3, h4⟩, h5⟩
      · omega
  · have htm : 0 ≤ L → L.tmod 4 = L % 4 := fun h => Int.tmod_eq_emod_of_nonneg h
    have hown : (ownL .int x 0 2).all isW = (isW (x 0) && isW (x 1)) := by
      show (isW (x (0 + 0)) && (isW (x (0 + 1)) && true)) = _
      rw [Bool.and_true]
    have : goodLn (s, L, x, r) w = (decide (1 ≤ s ∧ s ≤ 3 ∧ (0 ≤ L ∧ L < 16) ∧ L.tmod 4 = (w : Int)) && (ownL .int x 0 2).all isW) := by
      unfold goodLn
      rw [show decide ((s, L, x, r).1 = 0) = false from decide_eq_false h0]
      rfl
    rw [this, hown, Bool.and_eq_true, Bool.and_eq_true, isW_iff, isW_iff, decide_eq_true_iff]
    constructor
    · rintro ⟨⟨h1, h2, ⟨h3, h4⟩, h5⟩, h6, h7⟩
      rw [htm h3] at h5
      exact Or.inr ⟨h1, h2, h3, h4, h5, h6, h7⟩
    · rintro (⟨h, _⟩ | ⟨h1, h2, h3, h4, h5, h6, h7⟩)
      · exact absurd h h0
      · exact ⟨⟨h1, h2, ⟨h3, h4⟩, by rw [htm h3]; exact h5⟩, h6, h7⟩
/-- What is asked of a line that is good beside another. -/
def AgC (s L : Int) (x : Nat → Int) (s' L' : Int) (m : Nat → Int) : Prop := (s = 1 ∨ s = 2 → x 0 = m (2 * L.toNat) ∧ x 1 = m (2 * L.toNat + 1)) ∧ (2 ≤ s → s' = 0 ∨ L' ≠ L)
theorem ok_of {s L : Int} {x : Nat → Int} {r : Bool} {s' L' : Int} {m : Nat → Int} {w : Nat} (h : goodLn (s, L, x, r) w = true) (ha : AgC s L x s' L' m) : OkC s L x r s' L' m w := by
  rcases (gl_iff s L x r w).1 h with h | ⟨h1, h2, h3, h4, h5, h6, h7⟩
  · exact Or.inl h
  · exact Or.inr ⟨h1, h2, h3, h4, h5, h6, h7, fun hs => ha.1 (by omega), ha.2⟩
theorem ag_of {s L : Int} {x : Nat → Int} {r : Bool} {s' L' : Int} {m : Nat → Int} {w : Nat} (h : OkC s L x r s' L' m w) : AgC s L x s' L' m := by
  rcases h with h | ⟨h1, h2, h3, h4, h5, h6, h7, h8, h9⟩
  · exact ⟨fun g => by omega, fun g => by omega⟩
  · exact ⟨fun g => h8 (by omega), h9⟩
abbrev AgW (d : deskT.D) (c c' w : Nat) : Prop := AgC (lineAt d c w).1 (lineAt d c w).2.1 (lineAt d c w).2.2.1 (lineAt d c' w).1 (lineAt d c' w).2.1 d.2
theorem good_of {d : deskT.D} (hm : (ownL .int d.2 0 32).all isW = true) (hl : ∀ c, c < 2 → ∀ w, w < 4 → goodLn (lineAt d c w) w = true) (ha : ∀ w, w < 4 → AgW d 0 1 w ∧ AgW d 1 0 w) : goodD d = true := by
  refine (good_iff d).2 ⟨fun k hk => ?_, fun c hc w hw => ?_⟩
  · have := List.all_eq_true.1 hm (d.2 k) (by simp [ownL]; exact ⟨k, hk, rfl⟩)
    exact (isW_iff _).1 this
  · have : c = 0 ∨ c = 1 := by omega
    rcases this with rfl | rfl
    · exact ok_of (hl 0 (by omega) w hw) (ha w hw).1
    · exact ok_of (hl 1 (by omega) w hw) (ha w hw).2
theorem bad_of {d : deskT.D} {w : Nat} (hw : w < 4) (ha : ¬ (AgW d 0 1 w ∧ AgW d 1 0 w)) : goodD d = false := by
  cases hg : goodD d with
  | false => rfl
  | true =>
    exfalso
    obtain ⟨_, g2⟩ := (good_iff d).1 hg
    exact ha ⟨ag_of (g2 0 (by omega) w hw), ag_of (g2 1 (by omega) w hw)⟩
theorem rng_line {d : deskT.D} {j k : Nat} (h : goodLn (lineAt d j k) (k : Int) = true) (hs : (lineAt d j k).1 = 1 ∨ (lineAt d j k).1 = 2) : wrap64 (2 * (lineAt d j k).2.1) = 2 * (lineAt d j k).2.1 ∧ wrap64 (2 * (lineAt d j k).2.1 + 1) = 2 * (lineAt d j k).2.1 + 1 ∧ (@LE.le Int _ 0 (2 * (lineAt d j k).2.1) ∧ @LT.lt Int _ (2 * (lineAt d j k).2.1) 32) ∧ (@LE.le Int _ 0 (2 * (lineAt d j k).2.1 + 1) ∧ @LT.lt Int _ (2 * (lineAt d j k).2.1 + 1) 32) ∧ (2 * (lineAt d j k).2.1).toNat = 2 * (lineAt d j k).2.1.toNat ∧ (2 * (lineAt d j k).2.1 + 1).toNat = 2 * (lineAt d j k).2.1.toNat + 1 := by
  have h0 : (lineAt d j k).1 ≠ 0 := by rcases hs with e | e <;> rw [e] <;> decide
  have hr := (line_range h h0).2.1
  generalize (lineAt d j k).2.1 = L at hr ⊢
  have hr : 0 ≤ L ∧ L < 16 := hr
  exact ⟨wrap_id (by omega), wrap_id (by omega), ⟨by omega, by omega⟩, ⟨by omega, by omega⟩, by omega, by omega⟩
theorem ag_pos {d : deskT.D} {j k : Nat} (hj : j < 2) (g : AgW d 0 1 k ∧ AgW d 1 0 k) (hs : (lineAt d j k).1 = 1 ∨ (lineAt d j k).1 = 2) : (lineAt d j k).2.2.1 0 = d.2 (2 * (lineAt d j k).2.1.toNat) ∧ (lineAt d j k).2.2.1 1 = d.2 (2 * (lineAt d j k).2.1.toNat + 1) := by
  have : j = 0 ∨ j = 1 := by omega
  rcases this with rfl | rfl
  · exact g.1.1 hs
  · exact g.2.1 hs
theorem ag_all {d : deskT.D} {k : Nat} (hk : k < 4) (hl : ∀ c, c < 2 → ∀ w, w < 4 → goodLn (lineAt d c w) w = true)
    (hex : ¬ (0 < (lineAt d 0 k).1 ∧ 0 < (lineAt d 1 k).1 ∧ (lineAt d 0 k).2.1 = (lineAt d 1 k).2.1 ∧ (1 < (lineAt d 0 k).1 ∨ 1 < (lineAt d 1 k).1)))
    (hag : ∀ q, q < 2 → (lineAt d q k).1 = 1 ∨ (lineAt d q k).1 = 2 → (lineAt d q k).2.2.1 0 = d.2 (2 * (lineAt d q k).2.1.toNat) ∧ (lineAt d q k).2.2.1 1 = d.2 (2 * (lineAt d q k).2.1.toNat + 1)) : AgW d 0 1 k ∧ AgW d 1 0 k := by
  have g0 := hl 0 (by omega) k hk
  have g1 := hl 1 (by omega) k hk
  have a0 := hag 0 (by omega)
  have a1 := hag 1 (by omega)
  unfold AgW
  generalize lineAt d 0 k = A at *
  generalize lineAt d 1 k = B at *
  obtain ⟨(s : Int), (L : Int), x, r⟩ := A
  obtain ⟨(s' : Int), (L' : Int), x', r'⟩ := B
  have hs : 0 ≤ s := by rcases (gl_iff s L x r k).1 g0 with h | h <;> omega
  have hs' : 0 ≤ s' := by rcases (gl_iff s' L' x' r' k).1 g1 with h | h <;> omega
  have hex : ¬ (0 < s ∧ 0 < s' ∧ L = L' ∧ (1 < s ∨ 1 < s')) := hex
  refine ⟨⟨a0, fun h => ?_⟩, ⟨a1, fun h => ?_⟩⟩
  · have h : 2 ≤ s := h
    show s' = 0 ∨ L' ≠ L
    omega
  · have h : 2 ≤ s' := h
    show s = 0 ∨ L ≠ L'
    omega
set_option maxHeartbeats 1600000 in
theorem c_GoodCaches : Ctr Try.prog 47 goodS := by
  refine ctr_of tabOk (SpecsOk.cons c_goodMemory (by kernel_rfl) (SpecsOk.cons c_IsLine (by kernel_rfl) (SpecsOk.nil _))) Try.func47 rfl _ (Nat.le_of_ble_eq_true rfl) (fun _ _ => rfl) ?_
  rintro nn ⟨d, ⟨⟩⟩ _ _
  refine ⟨200, init_k fun K1 n1 => ?_⟩
  conv => whnf
  refine n1 _ ?_
  clear n1 K1
  repeat' (first | with_reducible refine seq_k fun K1 n1 => ?_ | with_reducible refine seq_nil ?_ | with_reducible refine drw_k fun K1 n1 => ?_ | with_reducible refine drw_nil ?_ ?_ | with_reducible refine run_seq ?_ | with_reducible refine run_skip ?_ | with_reducible refine run_regS ?_ | with_reducible refine run_regD (by kernel_rfl) ?_ ?_ | with_reducible refine inl_k (by with_unfolding_all rfl) (Nat.le_of_ble_eq_true rfl) fun K1 n1 => ?_ | with_reducible refine inlA_k (by with_unfolding_all rfl) (Nat.le_of_ble_eq_true rfl) fun K1 n1 => ?_ | with_reducible refine run_finA ?_ | with_reducible refine run_cond ?_ | with_reducible refine run_block ?_ | with_reducible refine run_endb ?_ | with_reducible refine run_exit fun K1 n1 => ?_ | with_reducible refine run_ret fun K1 n1 => ?_ | with_reducible refine run_fin ?_ | with_reducible refine run_inv ?_ | with_reducible refine go_rounds ?_ | ((with_reducible refine Go.mk ?_); (conv => whnf)) | refine Fork.yes ?_ | refine Fork.no ?_ | refine Fork.dec (fun _ => ?_) (fun _ => ?_) | refine Fork.ndec (fun _ => ?_) (fun _ => ?_) | refine Fork.mk (fun _ => ?_) (fun _ => ?_) | refine Way.yesG ?_ | refine Way.noG ?_ | refine Way.decG (fun _ => ?_) (fun _ => ?_) | refine Way.ndecG (fun _ => ?_) (fun _ => ?_) | refine Way.mkG (fun _ => ?_) (fun _ => ?_) | with_reducible refine Need.mkG ?_ ?_ | refine AppW.go0 ?_ ?_ | with_reducible refine NilW.goG (fun _ => ?_) ?_ | ((with_reducible refine n1 _ _ _ ?_); clear n1 K1) | ((with_reducible refine n1 _ ?_); clear n1 K1) | ((with_reducible refine n1 _ _ ?_); clear n1 K1) | ((with_reducible refine n1 _ _ _ _ ?_); clear n1 K1) | fail)
  all_goals try (first | exact trivial | omega | kernel_rfl | decide | exact And.intro (by omega) (by omega))
  all_goals try dsimp only [Int.toNat_natCast] at *
  all_goals try (first | exact trivial | omega | exact And.intro (by omega) (by omega))
  · rename_i h
    have h : (ownL .int d.2 0 32).all isW = false := not_t h
    refine Done.of ?_ (Or.inl rfl)
    show (_, ()) = (goodD d, ())
    unfold goodD
    rw [h, Bool.false_and]
  · rename_i h
    have hmem : (ownL .int d.2 0 32).all isW = true := not_f h
    clear h
    refine run_loop (loop_fam (ι := Nat) (fun c => [(15, .a (.of (.leaf .int (c : Int)))), (1, .a (.ptr 0 0 [] deskT))]) (fun _ => [.leaf deskT d]) (fun _ => ⟨nn, []⟩) (fun c => 2 - c) (fun c => c ≤ 2 ∧ ∀ c' < c, ∀ w < 4, goodLn (lineAt d c' w) w = true) ?_ ?_)
    · exact ⟨0, ⟨Nat.zero_le _, fun _ h => absurd h (Nat.not_lt_zero _)⟩, ⟨rfl, rfl, trivial⟩, rfl, 1, Nat.le_refl _, rfl, rfl⟩
    · rintro c ⟨hc, hpre⟩
      repeat' (first | with_reducible refine seq_k fun K1 n1 => ?_ | with_reducible refine seq_nil ?_ | with_reducible refine drw_k fun K1 n1 => ?_ | with_reducible refine drw_nil ?_ ?_ | with_reducible refine run_seq ?_ | with_reducible refine run_skip ?_ | with_reducible refine run_regS ?_ | with_reducible refine run_regD (by kernel_rfl) ?_ ?_ | with_reducible refine inl_k (by with_unfolding_all rfl) (Nat.le_of_ble_eq_true rfl) fun K1 n1 => ?_ | with_reducible refine inlA_k (by with_unfolding_all rfl) (Nat.le_of_ble_eq_true rfl) fun K1 n1 => ?_ | with_reducible refine run_finA ?_ | with_reducible refine run_cond ?_ | with_reducible refine run_block ?_ | with_reducible refine run_endb ?_ | with_reducible refine run_exit fun K1 n1 => ?_ | with_reducible refine run_ret fun K1 n1 => ?_ | with_reducible refine run_fin ?_ | with_reducible refine run_inv ?_ | with_reducible refine go_rounds ?_ | ((with_reducible refine Go.mk ?_); (conv => whnf)) | refine Fork.yes ?_ | refine Fork.no ?_ | refine Fork.dec (fun _ => ?_) (fun _ => ?_) | refine Fork.ndec (fun _ => ?_) (fun _ => ?_) | refine Fork.mk (fun _ => ?_) (fun _ => ?_) | refine Way.yesG ?_ | refine Way.noG ?_ | refine Way.decG (fun _ => ?_) (fun _ => ?_) | refine Way.ndecG (fun _ => ?_) (fun _ => ?_) | refine Way.mkG (fun _ => ?_) (fun _ => ?_) | with_reducible refine Need.mkG ?_ ?_ | refine AppW.go0 ?_ ?_ | with_reducible refine NilW.goG (fun _ => ?_) ?_ | ((with_reducible refine n1 _ _ _ ?_); clear n1 K1) | ((with_reducible refine n1 _ ?_); clear n1 K1) | ((with_reducible refine n1 _ _ ?_); clear n1 K1) | ((with_reducible refine n1 _ _ _ _ ?_); clear n1 K1) | fail)
      all_goals try (first | exact trivial | omega | kernel_rfl | decide | exact And.intro (by omega) (by omega))
      all_goals try dsimp only [Int.toNat_natCast] at *
      all_goals try (first | exact trivial | omega | exact And.intro (by omega) (by omega))
      · refine run_loop (loop_fam (ι := Nat) (fun k => [(23, .a (.of (.leaf .int (k : Int)))), (22, .a (.of (.leaf (.arr 4 lineT) (d.1 c).2.1))), (3, .a (.of (.leaf .int (c : Int)))), (15, .a (.of (.leaf .int (c : Int)))), (1, .a (.ptr 0 0 [] deskT))]) (fun _ => [.leaf deskT d]) (fun _ => ⟨nn, []⟩) (fun k => 4 - k) (fun k => k ≤ 4 ∧ ∀ w < k, goodLn (lineAt d c w) w = true) ?_ ?_)
        · exact ⟨0, ⟨Nat.zero_le _, fun _ h => absurd h (Nat.not_lt_zero _)⟩, ⟨rfl, rfl, rfl, rfl, rfl, trivial⟩, rfl, 1, Nat.le_refl _, rfl, rfl⟩
        · rintro k ⟨hk, hok⟩
          repeat' (first | with_reducible refine seq_k fun K1 n1 => ?_ | with_reducible refine seq_nil ?_ | with_reducible refine drw_k fun K1 n1 => ?_ | with_reducible refine drw_nil ?_ ?_ | with_reducible refine run_seq ?_ | with_reducible refine run_skip ?_ | with_reducible refine run_regS ?_ | with_reducible refine run_regD (by kernel_rfl) ?_ ?_ | with_reducible refine inl_k (by with_unfolding_all rfl) (Nat.le_of_ble_eq_true rfl) fun K1 n1 => ?_ | with_reducible refine inlA_k (by with_unfolding_all rfl) (Nat.le_of_ble_eq_true rfl) fun K1 n1 => ?_ | with_reducible refine run_finA ?_ | with_reducible refine run_cond ?_ | with_reducible refine run_block ?_ | with_reducible refine run_endb ?_ | with_reducible refine run_exit fun K1 n1 => ?_ | with_reducible refine run_ret fun K1 n1 => ?_ | with_reducible refine run_fin ?_ | with_reducible refine run_inv ?_ | with_reducible refine go_rounds ?_ | ((with_reducible refine Go.mk ?_); (conv => whnf)) | refine Fork.yes ?_ | refine Fork.no ?_ | refine Fork.dec (fun _ => ?_) (fun _ => ?_) | refine Fork.ndec (fun _ => ?_) (fun _ => ?_) | refine Fork.mk (fun _ => ?_) (fun _ => ?_) | refine Way.yesG ?_ | refine Way.noG ?_ | refine Way.decG (fun _ => ?_) (fun _ => ?_) | refine Way.ndecG (fun _ => ?_) (fun _ => ?_) | refine Way.mkG (fun _ => ?_) (fun _ => ?_) | with_reducible refine Need.mkG ?_ ?_ | refine AppW.go0 ?_ ?_ | with_reducible refine NilW.goG (fun _ => ?_) ?_ | ((with_reducible refine n1 _ _ _ ?_); clear n1 K1) | ((with_reducible refine n1 _ ?_); clear n1 K1) | ((with_reducible refine n1 _ _ ?_); clear n1 K1) | ((with_reducible refine n1 _ _ _ _ ?_); clear n1 K1) | fail)
          all_goals try (first | exact trivial | omega | kernel_rfl | decide | exact And.intro (by omega) (by omega))
          all_goals try dsimp only [Int.toNat_natCast] at *
          all_goals try (first | exact trivial | omega | exact And.intro (by omega) (by omega))
          · rename_i h1 h2 h3
            refine Done.of ?_ (Or.inl rfl)
            show (_, ()) = (goodD d, ())
            rw [good_no (c := c) (w := k) (by omega) (by omega) (by unfold okAt; rw [not_t h3, Bool.false_and])]
          · rename_i h1 h2 h3
            refine ⟨k + 1, by omega, ⟨by omega, fun w hw => ?_⟩, ⟨?_, rfl, rfl, rfl, rfl, trivial⟩, rfl, 1, Nat.le_add_left _ _, rfl, rfl⟩
            · rcases Nat.lt_or_ge w k with g | g
              · exact hok w g
              · obtain rfl : w = k := by omega
                exact not_f h3
            · rw [← wrap_succ k (by omega)]
              rfl
          · rename_i h1 h2
            obtain rfl : k = 4 := by omega
            refine ⟨c + 1, by omega, ⟨by omega, fun c' hc' => ?_⟩, ⟨?_, rfl, trivial⟩, rfl, 1, Nat.le_refl _, rfl, rfl⟩
            · rcases Nat.lt_or_ge c' c with g | g
              · exact hpre c' g
              · obtain rfl : c' = c := by omega
                exact hok
            · rw [← wrap_succ c (by omega)]
              rfl
      · rename_i h2
        obtain rfl : c = 2 := by omega
        refine run_loop (loop_fam (ι := Nat) (fun k => [(33, .a (.of (.leaf .int (k : Int)))), (1, .a (.ptr 0 0 [] deskT))]) (fun _ => [.leaf deskT d]) (fun k => ⟨nn + k, []⟩) (fun k => 4 - k) (fun k => k ≤ 4 ∧ ∀ w < k, AgW d 0 1 w ∧ AgW d 1 0 w) ?_ ?_)
        · exact ⟨0, ⟨Nat.zero_le _, fun _ h => absurd h (Nat.not_lt_zero _)⟩, ⟨rfl, rfl, trivial⟩, rfl, 1, Nat.le_refl _, rfl, rfl⟩
        · rintro k ⟨hk, hok⟩
          repeat' (first | with_reducible refine seq_k fun K1 n1 => ?_ | with_reducible refine seq_nil ?_ | with_reducible refine drw_k fun K1 n1 => ?_ | with_reducible refine drw_nil ?_ ?_ | with_reducible refine run_seq ?_ | with_reducible refine run_skip ?_ | with_reducible refine run_regS ?_ | with_reducible refine run_regD (by kernel_rfl) ?_ ?_ | with_reducible refine inl_k (by with_unfolding_all rfl) (Nat.le_of_ble_eq_true rfl) fun K1 n1 => ?_ | with_reducible refine inlA_k (by with_unfolding_all rfl) (Nat.le_of_ble_eq_true rfl) fun K1 n1 => ?_ | with_reducible refine run_finA ?_ | with_reducible refine run_cond ?_ | with_reducible refine run_block ?_ | with_reducible refine run_endb ?_ | with_reducible refine run_exit fun K1 n1 => ?_ | with_reducible refine run_ret fun K1 n1 => ?_ | with_reducible refine run_fin ?_ | with_reducible refine run_inv ?_ | with_reducible refine go_rounds ?_ | ((with_reducible refine Go.mk ?_); (conv => whnf)) | refine Fork.yes ?_ | refine Fork.no ?_ | refine Fork.dec (fun _ => ?_) (fun _ => ?_) | refine Fork.ndec (fun _ => ?_) (fun _ => ?_) | refine Fork.mk (fun _ => ?_) (fun _ => ?_) | refine Way.yesG ?_ | refine Way.noG ?_ | refine Way.decG (fun _ => ?_) (fun _ => ?_) | refine Way.ndecG (fun _ => ?_) (fun _ => ?_) | refine Way.mkG (fun _ => ?_) (fun _ => ?_) | with_reducible refine Need.mkG ?_ ?_ | refine AppW.go0 ?_ ?_ | with_reducible refine NilW.goG (fun _ => ?_) ?_ | ((with_reducible refine n1 _ _ _ ?_); clear n1 K1) | ((with_reducible refine n1 _ ?_); clear n1 K1) | ((with_reducible refine n1 _ _ ?_); clear n1 K1) | ((with_reducible refine n1 _ _ _ _ ?_); clear n1 K1) | fail)
          all_goals try (first | exact trivial | omega | kernel_rfl | decide | exact And.intro (by omega) (by omega))
          all_goals try dsimp only [Int.toNat_natCast] at *
          all_goals try (first | exact trivial | omega | exact And.intro (by omega) (by omega))
          · rename_i h1 h2 h3 h4 h5
            refine Done.of ?_ (Or.inl rfl)
            show (_, ()) = (goodD d, ())
            rw [bad_of (w := k) (by omega) (fun g => ?_)]
            rcases g.1.2 (Int.add_one_le_iff.2 h5) with e | e
            · exact absurd h3 (by rw [show ((d.1 (Int.toNat 1)).2.1 k).1 = 0 from e]; decide)
            · exact e h4.symm
          · rename_i h1 h2 h3 h4 h5 h6
            refine Done.of ?_ (Or.inl rfl)
            show (_, ()) = (goodD d, ())
            rw [bad_of (w := k) (by omega) (fun g => ?_)]
            rcases g.2.2 (Int.add_one_le_iff.2 h6) with e | e
            · exact absurd h2 (by rw [show ((d.1 (Int.toNat 0)).2.1 k).1 = 0 from e]; decide)
            · exact e h4
          · have hex : ¬ (0 < ((d.1 (Int.toNat 0)).2.1 k).1 ∧ 0 < ((d.1 (Int.toNat 1)).2.1 k).1 ∧ ((d.1 (Int.toNat 0)).2.1 k).2.1 = ((d.1 (Int.toNat 1)).2.1 k).2.1 ∧ (1 < ((d.1 (Int.toNat 0)).2.1 k).1 ∨ 1 < ((d.1 (Int.toNat 1)).2.1 k).1)) := by
              rintro ⟨g1, g2, g3, g4⟩
              rcases g4 with g4 | g4 <;> contradiction
            have hk4 : k < 4 := by omega
            have hx : ∀ j, j < 2 → nthD lineT (ownL lineT (updA (updA (Ty.arr 2 lineT).zero 0 ((d.1 (Int.toNat 0)).2.1 k)) 1 ((d.1 (Int.toNat 1)).2.1 k)) 0 2) j = lineAt d j k := by
              intro j hj
              have : j = 0 ∨ j = 1 := by omega
              rcases this with rfl | rfl <;> rfl
            have hlen : (ownL lineT (updA (updA (Ty.arr 2 lineT).zero 0 ((d.1 (Int.toNat 0)).2.1 k)) 1 ((d.1 (Int.toNat 1)).2.1 k)) 0 2).length = 2 := by simp [ownL]
            generalize ownL lineT (updA (updA (Ty.arr 2 lineT).zero 0 ((d.1 (Int.toNat 0)).2.1 k)) 1 ((d.1 (Int.toNat 1)).2.1 k)) 0 2 = ys at hx hlen ⊢
            refine run_loop (loop_fam (ι := Nat) (fun j => [(77, .a (.of (.leaf .int (j : Int)))), (76, .a (.of (.leaf .int (ys.length : Int)))), (75, .a (.of (.leaf (.lst lineT) (.nm (nn + k), ys)))), (33, .a (.of (.leaf .int (k : Int)))), (1, .a (.ptr 0 0 [] deskT))]) (fun _ => [.leaf deskT d]) (fun _ => ⟨nn + k + 1, []⟩) (fun j => 2 - j) (fun j => j ≤ 2 ∧ ∀ q < j, (lineAt d q k).1 = 1 ∨ (lineAt d q k).1 = 2 → (lineAt d q k).2.2.1 0 = d.2 (2 * (lineAt d q k).2.1.toNat) ∧ (lineAt d q k).2.2.1 1 = d.2 (2 * (lineAt d q k).2.1.toNat + 1)) ?_ ?_)
            · exact ⟨0, ⟨Nat.zero_le _, fun _ h => absurd h (Nat.not_lt_zero _)⟩, ⟨rfl, rfl, rfl, rfl, rfl, trivial⟩, rfl, 1, Nat.le_add_left _ _, rfl, rfl⟩
            · rintro j ⟨hj, hag⟩
              repeat' (first | with_reducible refine seq_k fun K1 n1 => ?_ | with_reducible refine seq_nil ?_ | with_reducible refine drw_k fun K1 n1 => ?_ | with_reducible refine drw_nil ?_ ?_ | with_reducible refine run_seq ?_ | with_reducible refine run_skip ?_ | with_reducible refine run_regS ?_ | with_reducible refine run_regD (by kernel_rfl) ?_ ?_ | with_reducible refine inl_k (by with_unfolding_all rfl) (Nat.le_of_ble_eq_true rfl) fun K1 n1 => ?_ | with_reducible refine inlA_k (by with_unfolding_all rfl) (Nat.le_of_ble_eq_true rfl) fun K1 n1 => ?_ | with_reducible refine run_finA ?_ | with_reducible refine run_cond ?_ | with_reducible refine run_block ?_ | with_reducible refine run_endb ?_ | with_reducible refine run_exit fun K1 n1 => ?_ | with_reducible refine run_ret fun K1 n1 => ?_ | with_reducible refine run_fin ?_ | with_reducible refine run_inv ?_ | with_reducible refine go_rounds ?_ | ((with_reducible refine Go.mk ?_); (conv => whnf)) | refine Fork.yes ?_ | refine Fork.no ?_ | refine Fork.dec (fun _ => ?_) (fun _ => ?_) | refine Fork.ndec (fun _ => ?_) (fun _ => ?_) | refine Fork.mk (fun _ => ?_) (fun _ => ?_) | refine Way.yesG ?_ | refine Way.noG ?_ | refine Way.decG (fun _ => ?_) (fun _ => ?_) | refine Way.ndecG (fun _ => ?_) (fun _ => ?_) | refine Way.mkG (fun _ => ?_) (fun _ => ?_) | with_reducible refine Need.mkG ?_ ?_ | refine AppW.go0 ?_ ?_ | with_reducible refine NilW.goG (fun _ => ?_) ?_ | ((with_reducible refine n1 _ _ _ ?_); clear n1 K1) | ((with_reducible refine n1 _ ?_); clear n1 K1) | ((with_reducible refine n1 _ _ ?_); clear n1 K1) | ((with_reducible refine n1 _ _ _ _ ?_); clear n1 K1) | fail)
              all_goals try (first | exact trivial | omega | kernel_rfl | decide | exact And.intro (by omega) (by omega))
              all_goals try dsimp only [Int.toNat_natCast] at *
              all_goals try (first | exact trivial | omega | exact And.intro (by omega) (by omega))
              · skip
                have hj2 : j < 2 := by omega
                have hs : (lineAt d j k).1 = 1 ∨ (lineAt d j k).1 = 2 := by rw [← hx j hj2]; first | exact Or.inl ‹_› | exact Or.inr ‹_›
                obtain ⟨r1, r2, r3, r4, r5, r6⟩ := rng_line (hpre j hj2 k hk4) hs
                simp only [hx j hj2, r1, r2, r5, r6] at *
                exact r3
              · skip
                have hj2 : j < 2 := by omega
                have hs : (lineAt d j k).1 = 1 ∨ (lineAt d j k).1 = 2 := by rw [← hx j hj2]; first | exact Or.inl ‹_› | exact Or.inr ‹_›
                obtain ⟨r1, r2, r3, r4, r5, r6⟩ := rng_line (hpre j hj2 k hk4) hs
                simp only [hx j hj2, r1, r2, r5, r6] at *
                refine Done.of ?_ (Or.inl rfl)
                show (_, ()) = (goodD d, ())
                rw [bad_of (w := k) (by omega) (fun g => ?_)]
                have := (ag_pos hj2 g hs).1
                contradiction
              · skip
                have hj2 : j < 2 := by omega
                have hs : (lineAt d j k).1 = 1 ∨ (lineAt d j k).1 = 2 := by rw [← hx j hj2]; first | exact Or.inl ‹_› | exact Or.inr ‹_›
                obtain ⟨r1, r2, r3, r4, r5, r6⟩ := rng_line (hpre j hj2 k hk4) hs
                simp only [hx j hj2, r1, r2, r5, r6] at *
                exact r4
              · skip
                have hj2 : j < 2 := by omega
                have hs : (lineAt d j k).1 = 1 ∨ (lineAt d j k).1 = 2 := by rw [← hx j hj2]; first | exact Or.inl ‹_› | exact Or.inr ‹_›
                obtain ⟨r1, r2, r3, r4, r5, r6⟩ := rng_line (hpre j hj2 k hk4) hs
                simp only [hx j hj2, r1, r2, r5, r6] at *
                refine Done.of ?_ (Or.inl rfl)
                show (_, ()) = (goodD d, ())
                rw [bad_of (w := k) (by omega) (fun g => ?_)]
                have := (ag_pos hj2 g hs).2
                contradiction
              · skip
                have hj2 : j < 2 := by omega
                have hs : (lineAt d j k).1 = 1 ∨ (lineAt d j k).1 = 2 := by rw [← hx j hj2]; first | exact Or.inl ‹_› | exact Or.inr ‹_›
                obtain ⟨r1, r2, r3, r4, r5, r6⟩ := rng_line (hpre j hj2 k hk4) hs
                simp only [hx j hj2, r1, r2, r5, r6] at *
                refine ⟨j + 1, by omega, ⟨by omega, fun q hq => ?_⟩, ⟨?_, rfl, rfl, rfl, rfl, trivial⟩, rfl, 1, Nat.le_add_left _ _, rfl, rfl⟩
                · rcases Nat.lt_or_ge q j with g | g
                  · exact hag q g
                  · obtain rfl : q = j := by omega
                    intro _
                    exact ⟨by assumption, by assumption⟩
                · rw [← wrap_succ j (by omega)]
                  rfl
              · skip
                have hj2 : j < 2 := by omega
                have hs : (lineAt d j k).1 = 1 ∨ (lineAt d j k).1 = 2 := by rw [← hx j hj2]; first | exact Or.inl ‹_› | exact Or.inr ‹_›
                obtain ⟨r1, r2, r3, r4, r5, r6⟩ := rng_line (hpre j hj2 k hk4) hs
                simp only [hx j hj2, r1, r2, r5, r6] at *
                exact r3
              · skip
                have hj2 : j < 2 := by omega
                have hs : (lineAt d j k).1 = 1 ∨ (lineAt d j k).1 = 2 := by rw [← hx j hj2]; first | exact Or.inl ‹_› | exact Or.inr ‹_›
                obtain ⟨r1, r2, r3, r4, r5, r6⟩ := rng_line (hpre j hj2 k hk4) hs
                simp only [hx j hj2, r1, r2, r5, r6] at *
                refine Done.of ?_ (Or.inl rfl)
                show (_, ()) = (goodD d, ())
                rw [bad_of (w := k) (by omega) (fun g => ?_)]
                have := (ag_pos hj2 g hs).1
                contradiction
              · skip
                have hj2 : j < 2 := by omega
                have hs : (lineAt d j k).1 = 1 ∨ (lineAt d j k).1 = 2 := by rw [← hx j hj2]; first | exact Or.inl ‹_› | exact Or.inr ‹_›
                obtain ⟨r1, r2, r3, r4, r5, r6⟩ := rng_line (hpre j hj2 k hk4) hs
                simp only [hx j hj2, r1, r2, r5, r6] at *
                exact r4
              · skip
                have hj2 : j < 2 := by omega
                have hs : (lineAt d j k).1 = 1 ∨ (lineAt d j k).1 = 2 := by rw [← hx j hj2]; first | exact Or.inl ‹_› | exact Or.inr ‹_›
                obtain ⟨r1, r2, r3, r4, r5, r6⟩ := rng_line (hpre j hj2 k hk4) hs
                simp only [hx j hj2, r1, r2, r5, r6] at *
                refine Done.of ?_ (Or.inl rfl)
                show (_, ()) = (goodD d, ())
                rw [bad_of (w := k) (by omega) (fun g => ?_)]
                have := (ag_pos hj2 g hs).2
                contradiction
              · skip
                have hj2 : j < 2 := by omega
                have hs : (lineAt d j k).1 = 1 ∨ (lineAt d j k).1 = 2 := by rw [← hx j hj2]; first | exact Or.inl ‹_› | exact Or.inr ‹_›
                obtain ⟨r1, r2, r3, r4, r5, r6⟩ := rng_line (hpre j hj2 k hk4) hs
                simp only [hx j hj2, r1, r2, r5, r6] at *
                refine ⟨j + 1, by omega, ⟨by omega, fun q hq => ?_⟩, ⟨?_, rfl, rfl, rfl, rfl, trivial⟩, rfl, 1, Nat.le_add_left _ _, rfl, rfl⟩
                · rcases Nat.lt_or_ge q j with g | g
                  · exact hag q g
                  · obtain rfl : q = j := by omega
                    intro _
                    exact ⟨by assumption, by assumption⟩
                · rw [← wrap_succ j (by omega)]
                  rfl
              · have hj2 : j < 2 := by omega
                simp only [hx j hj2] at *
                refine ⟨j + 1, by omega, ⟨by omega, fun q hq => ?_⟩, ⟨?_, rfl, rfl, rfl, rfl, trivial⟩, rfl, 1, Nat.le_add_left _ _, rfl, rfl⟩
                · rcases Nat.lt_or_ge q j with g | g
                  · exact hag q g
                  · obtain rfl : q = j := by omega
                    rintro (g | g) <;> contradiction
                · rw [← wrap_succ j (by omega)]
                  rfl
              · obtain rfl : j = 2 := by omega
                refine ⟨k + 1, by omega, ⟨by omega, fun w hw => ?_⟩, ⟨?_, rfl, trivial⟩, rfl, 1, Nat.le_add_left _ _, rfl, rfl⟩
                · rcases Nat.lt_or_ge w k with g | g
                  · exact hok w g
                  · obtain rfl : w = k := by omega
                    exact ag_all hk4 hpre hex hag
                · rw [← wrap_succ k (by omega)]
                  rfl
          · have hex : ¬ (0 < ((d.1 (Int.toNat 0)).2.1 k).1 ∧ 0 < ((d.1 (Int.toNat 1)).2.1 k).1 ∧ ((d.1 (Int.toNat 0)).2.1 k).2.1 = ((d.1 (Int.toNat 1)).2.1 k).2.1 ∧ (1 < ((d.1 (Int.toNat 0)).2.1 k).1 ∨ 1 < ((d.1 (Int.toNat 1)).2.1 k).1)) := by
              rintro ⟨g1, g2, g3, g4⟩
              rcases g4 with g4 | g4 <;> contradiction
            have hk4 : k < 4 := by omega
            have hx : ∀ j, j < 2 → nthD lineT (ownL lineT (updA (updA (Ty.arr 2 lineT).zero 0 ((d.1 (Int.toNat 0)).2.1 k)) 1 ((d.1 (Int.toNat 1)).2.1 k)) 0 2) j = lineAt d j k := by
              intro j hj
              have : j = 0 ∨ j = 1 := by omega
              rcases this with rfl | rfl <;> rfl
            have hlen : (ownL lineT (updA (updA (Ty.arr 2 lineT).zero 0 ((d.1 (Int.toNat 0)).2.1 k)) 1 ((d.1 (Int.toNat 1)).2.1 k)) 0 2).length = 2 := by simp [ownL]
            generalize ownL lineT (updA (updA (Ty.arr 2 lineT).zero 0 ((d.1 (Int.toNat 0)).2.1 k)) 1 ((d.1 (Int.toNat 1)).2.1 k)) 0 2 = ys at hx hlen ⊢
            refine run_loop (loop_fam (ι := Nat) (fun j => [(77, .a (.of (.leaf .int (j : Int)))), (76, .a (.of (.leaf .int (ys.length : Int)))), (75, .a (.of (.leaf (.lst lineT) (.nm (nn + k), ys)))), (33, .a (.of (.leaf .int (k : Int)))), (1, .a (.ptr 0 0 [] deskT))]) (fun _ => [.leaf deskT d]) (fun _ => ⟨nn + k + 1, []⟩) (fun j => 2 - j) (fun j => j ≤ 2 ∧ ∀ q < j, (lineAt d q k).1 = 1 ∨ (lineAt d q k).1 = 2 → (lineAt d q k).2.2.1 0 = d.2 (2 * (lineAt d q k).2.1.toNat) ∧ (lineAt d q k).2.2.1 1 = d.2 (2 * (lineAt d q k).2.1.toNat + 1)) ?_ ?_)
            · exact ⟨0, ⟨Nat.zero_le _, fun _ h => absurd h (Nat.not_lt_zero _)⟩, ⟨rfl, rfl, rfl, rfl, rfl, trivial⟩, rfl, 1, Nat.le_add_left _ _, rfl, rfl⟩
            · rintro j ⟨hj, hag⟩
              repeat' (first | with_reducible refine seq_k fun K1 n1 => ?_ | with_reducible refine seq_nil ?_ | with_reducible refine drw_k fun K1 n1 => ?_ | with_reducible refine drw_nil ?_ ?_ | with_reducible refine run_seq ?_ | with_reducible refine run_skip ?_ | with_reducible refine run_regS ?_ | with_reducible refine run_regD (by kernel_rfl) ?_ ?_ | with_reducible refine inl_k (by with_unfolding_all rfl) (Nat.le_of_ble_eq_true rfl) fun K1 n1 => ?_ | with_reducible refine inlA_k (by with_unfolding_all rfl) (Nat.le_of_ble_eq_true rfl) fun K1 n1 => ?_ | with_reducible refine run_finA ?_ | with_reducible refine run_cond ?_ | with_reducible refine run_block ?_ | with_reducible refine run_endb ?_ | with_reducible refine run_exit fun K1 n1 => ?_ | with_reducible refine run_ret fun K1 n1 => ?_ | with_reducible refine run_fin ?_ | with_reducible refine run_inv ?_ | with_reducible refine go_rounds ?_ | ((with_reducible refine Go.mk ?_); (conv => whnf)) | refine Fork.yes ?_ | refine Fork.no ?_ | refine Fork.dec (fun _ => ?_) (fun _ => ?_) | refine Fork.ndec (fun _ => ?_) (fun _ => ?_) | refine Fork.mk (fun _ => ?_) (fun _ => ?_) | refine Way.yesG ?_ | refine Way.noG ?_ | refine Way.decG (fun _ => ?_) (fun _ => ?_) | refine Way.ndecG (fun _ => ?_) (fun _ => ?_) | refine Way.mkG (fun _ => ?_) (fun _ => ?_) | with_reducible refine Need.mkG ?_ ?_ | refine AppW.go0 ?_ ?_ | with_reducible refine NilW.goG (fun _ => ?_) ?_ | ((with_reducible refine n1 _ _ _ ?_); clear n1 K1) | ((with_reducible refine n1 _ ?_); clear n1 K1) | ((with_reducible refine n1 _ _ ?_); clear n1 K1) | ((with_reducible refine n1 _ _ _ _ ?_); clear n1 K1) | fail)
              all_goals try (first | exact trivial | omega | kernel_rfl | decide | exact And.intro (by omega) (by omega))
              all_goals try dsimp only [Int.toNat_natCast] at *
              all_goals try (first | exact trivial | omega | exact And.intro (by omega) (by omega))
              · skip
                have hj2 : j < 2 := by omega
                have hs : (lineAt d j k).1 = 1 ∨ (lineAt d j k).1 = 2 := by rw [← hx j hj2]; first | exact Or.inl ‹_› | exact Or.inr ‹_›
                obtain ⟨r1, r2, r3, r4, r5, r6⟩ := rng_line (hpre j hj2 k hk4) hs
                simp only [hx j hj2, r1, r2, r5, r6] at *
                exact r3
              · skip
                have hj2 : j < 2 := by omega
                have hs : (lineAt d j k).1 = 1 ∨ (lineAt d j k).1 = 2 := by rw [← hx j hj2]; first | exact Or.inl ‹_› | exact Or.inr ‹_›
                obtain ⟨r1, r2, r3, r4, r5, r6⟩ := rng_line (hpre j hj2 k hk4) hs
                simp only [hx j hj2, r1, r2, r5, r6] at *
                refine Done.of ?_ (Or.inl rfl)
                show (_, ()) = (goodD d, ())
                rw [bad_of (w := k) (by omega) (fun g => ?_)]
                have := (ag_pos hj2 g hs).1
                contradiction
              · skip
                have hj2 : j < 2 := by omega
                have hs : (lineAt d j k).1 = 1 ∨ (lineAt d j k).1 = 2 := by rw [← hx j hj2]; first | exact Or.inl ‹_› | exact Or.inr ‹_›
                obtain ⟨r1, r2, r3, r4, r5, r6⟩ := rng_line (hpre j hj2 k hk4) hs
                simp only [hx j hj2, r1, r2, r5, r6] at *
                exact r4
              · skip
                have hj2 : j < 2 := by omega
                have hs : (lineAt d j k).1 = 1 ∨ (lineAt d j k).1 = 2 := by rw [← hx j hj2]; first | exact Or.inl ‹_› | exact Or.inr ‹_›
                obtain ⟨r1, r2, r3, r4, r5, r6⟩ := rng_line (hpre j hj2 k hk4) hs
                simp only [hx j hj2, r1, r2, r5, r6] at *
                refine Done.of ?_ (Or.inl rfl)
                show (_, ()) = (goodD d, ())
                rw [bad_of (w := k) (by omega) (fun g => ?_)]
                have := (ag_pos hj2 g hs).2
                contradiction
              · skip
                have hj2 : j < 2 := by omega
                have hs : (lineAt d j k).1 = 1 ∨ (lineAt d j k).1 = 2 := by rw [← hx j hj2]; first | exact Or.inl ‹_› | exact Or.inr ‹_›
                obtain ⟨r1, r2, r3, r4, r5, r6⟩ := rng_line (hpre j hj2 k hk4) hs
                simp only [hx j hj2, r1, r2, r5, r6] at *
                refine ⟨j + 1, by omega, ⟨by omega, fun q hq => ?_⟩, ⟨?_, rfl, rfl, rfl, rfl, trivial⟩, rfl, 1, Nat.le_add_left _ _, rfl, rfl⟩
                · rcases Nat.lt_or_ge q j with g | g
                  · exact hag q g
                  · obtain rfl : q = j := by omega
                    intro _
                    exact ⟨by assumption, by assumption⟩
                · rw [← wrap_succ j (by omega)]
                  rfl
              · skip
                have hj2 : j < 2 := by omega
                have hs : (lineAt d j k).1 = 1 ∨ (lineAt d j k).1 = 2 := by rw [← hx j hj2]; first | exact Or.inl ‹_› | exact Or.inr ‹_›
                obtain ⟨r1, r2, r3, r4, r5, r6⟩ := rng_line (hpre j hj2 k hk4) hs
                simp only [hx j hj2, r1, r2, r5, r6] at *
                exact r3
              · skip
                have hj2 : j < 2 := by omega
                have hs : (lineAt d j k).1 = 1 ∨ (lineAt d j k).1 = 2 := by rw [← hx j hj2]; first | exact Or.inl ‹_› | exact Or.inr ‹_›
                obtain ⟨r1, r2, r3, r4, r5, r6⟩ := rng_line (hpre j hj2 k hk4) hs
                simp only [hx j hj2, r1, r2, r5, r6] at *
                refine Done.of ?_ (Or.inl rfl)
                show (_, ()) = (goodD d, ())
                rw [bad_of (w := k) (by omega) (fun g => ?_)]
                have := (ag_pos hj2 g hs).1
                contradiction
              · skip
                have hj2 : j < 2 := by omega
                have hs : (lineAt d j k).1 = 1 ∨ (lineAt d j k).1 = 2 := by rw [← hx j hj2]; first | exact Or.inl ‹_› | exact Or.inr ‹_›
                obtain ⟨r1, r2, r3, r4, r5, r6⟩ := rng_line (hpre j hj2 k hk4) hs
                simp only [hx j hj2, r1, r2, r5, r6] at *
                exact r4
              · skip
                have hj2 : j < 2 := by omega
                have hs : (lineAt d j k).1 = 1 ∨ (lineAt d j k).1 = 2 := by rw [← hx j hj2]; first | exact Or.inl ‹_› | exact Or.inr ‹_›
                obtain ⟨r1, r2, r3, r4, r5, r6⟩ := rng_line (hpre j hj2 k hk4) hs
                simp only [hx j hj2, r1, r2, r5, r6] at *
                refine Done.of ?_ (Or.inl rfl)
                show (_, ()) = (goodD d, ())
                rw [bad_of (w := k) (by omega) (fun g => ?_)]
                have := (ag_pos hj2 g hs).2
                contradiction
              · skip
                have hj2 : j < 2 := by omega
                have hs : (lineAt d j k).1 = 1 ∨ (lineAt d j k).1 = 2 := by rw [← hx j hj2]; first | exact Or.inl ‹_› | exact Or.inr ‹_›
                obtain ⟨r1, r2, r3, r4, r5, r6⟩ := rng_line (hpre j hj2 k hk4) hs
                simp only [hx j hj2, r1, r2, r5, r6] at *
                refine ⟨j + 1, by omega, ⟨by omega, fun q hq => ?_⟩, ⟨?_, rfl, rfl, rfl, rfl, trivial⟩, rfl, 1, Nat.le_add_left _ _, rfl, rfl⟩
                · rcases Nat.lt_or_ge q j with g | g
                  · exact hag q g
                  · obtain rfl : q = j := by omega
                    intro _
                    exact ⟨by assumption, by assumption⟩
                · rw [← wrap_succ j (by omega)]
                  rfl
              · have hj2 : j < 2 := by omega
                simp only [hx j hj2] at *
                refine ⟨j + 1, by omega, ⟨by omega, fun q hq => ?_⟩, ⟨?_, rfl, rfl, rfl, rfl, trivial⟩, rfl, 1, Nat.le_add_left _ _, rfl, rfl⟩
                · rcases Nat.lt_or_ge q j with g | g
                  · exact hag q g
                  · obtain rfl : q = j := by omega
                    rintro (g | g) <;> contradiction
                · rw [← wrap_succ j (by omega)]
                  rfl
              · obtain rfl : j = 2 := by omega
                refine ⟨k + 1, by omega, ⟨by omega, fun w hw => ?_⟩, ⟨?_, rfl, trivial⟩, rfl, 1, Nat.le_add_left _ _, rfl, rfl⟩
                · rcases Nat.lt_or_ge w k with g | g
                  · exact hok w g
                  · obtain rfl : w = k := by omega
                    exact ag_all hk4 hpre hex hag
                · rw [← wrap_succ k (by omega)]
                  rfl
          · have hex : ¬ (0 < ((d.1 (Int.toNat 0)).2.1 k).1 ∧ 0 < ((d.1 (Int.toNat 1)).2.1 k).1 ∧ ((d.1 (Int.toNat 0)).2.1 k).2.1 = ((d.1 (Int.toNat 1)).2.1 k).2.1 ∧ (1 < ((d.1 (Int.toNat 0)).2.1 k).1 ∨ 1 < ((d.1 (Int.toNat 1)).2.1 k).1)) := by
              rintro ⟨g1, g2, g3, g4⟩
              rcases g4 with g4 | g4 <;> contradiction
            have hk4 : k < 4 := by omega
            have hx : ∀ j, j < 2 → nthD lineT (ownL lineT (updA (updA (Ty.arr 2 lineT).zero 0 ((d.1 (Int.toNat 0)).2.1 k)) 1 ((d.1 (Int.toNat 1)).2.1 k)) 0 2) j = lineAt d j k := by
              intro j hj
              have : j = 0 ∨ j = 1 := by omega
              rcases this with rfl | rfl <;> rfl
            have hlen : (ownL lineT (updA (updA (Ty.arr 2 lineT).zero 0 ((d.1 (Int.toNat 0)).2.1 k)) 1 ((d.1 (Int.toNat 1)).2.1 k)) 0 2).length = 2 := by simp [ownL]
            generalize ownL lineT (updA (updA (Ty.arr 2 lineT).zero 0 ((d.1 (Int.toNat 0)).2.1 k)) 1 ((d.1 (Int.toNat 1)).2.1 k)) 0 2 = ys at hx hlen ⊢
            refine run_loop (loop_fam (ι := Nat) (fun j => [(77, .a (.of (.leaf .int (j : Int)))), (76, .a (.of (.leaf .int (ys.length : Int)))), (75, .a (.of (.leaf (.lst lineT) (.nm (nn + k), ys)))), (33, .a (.of (.leaf .int (k : Int)))), (1, .a (.ptr 0 0 [] deskT))]) (fun _ => [.leaf deskT d]) (fun _ => ⟨nn + k + 1, []⟩) (fun j => 2 - j) (fun j => j ≤ 2 ∧ ∀ q < j, (lineAt d q k).1 = 1 ∨ (lineAt d q k).1 = 2 → (lineAt d q k).2.2.1 0 = d.2 (2 * (lineAt d q k).2.1.toNat) ∧ (lineAt d q k).2.2.1 1 = d.2 (2 * (lineAt d q k).2.1.toNat + 1)) ?_ ?_)
            · exact ⟨0, ⟨Nat.zero_le _, fun _ h => absurd h (Nat.not_lt_zero _)⟩, ⟨rfl, rfl, rfl, rfl, rfl, trivial⟩, rfl, 1, Nat.le_add_left _ _, rfl, rfl⟩
            · rintro j ⟨hj, hag⟩
              repeat' (first | with_reducible refine seq_k fun K1 n1 => ?_ | with_reducible refine seq_nil ?_ | with_reducible refine drw_k fun K1 n1 => ?_ | with_reducible refine drw_nil ?_ ?_ | with_reducible refine run_seq ?_ | with_reducible refine run_skip ?_ | with_reducible refine run_regS ?_ | with_reducible refine run_regD (by kernel_rfl) ?_ ?_ | with_reducible refine inl_k (by with_unfolding_all rfl) (Nat.le_of_ble_eq_true rfl) fun K1 n1 => ?_ | with_reducible refine inlA_k (by with_unfolding_all rfl) (Nat.le_of_ble_eq_true rfl) fun K1 n1 => ?_ | with_reducible refine run_finA ?_ | with_reducible refine run_cond ?_ | with_reducible refine run_block ?_ | with_reducible refine run_endb ?_ | with_reducible refine run_exit fun K1 n1 => ?_ | with_reducible refine run_ret fun K1 n1 => ?_ | with_reducible refine run_fin ?_ | with_reducible refine run_inv ?_ | with_reducible refine go_rounds ?_ | ((with_reducible refine Go.mk ?_); (conv => whnf)) | refine Fork.yes ?_ | refine Fork.no ?_ | refine Fork.dec (fun _ => ?_) (fun _ => ?_) | refine Fork.ndec (fun _ => ?_) (fun _ => ?_) | refine Fork.mk (fun _ => ?_) (fun _ => ?_) | refine Way.yesG ?_ | refine Way.noG ?_ | refine Way.decG (fun _ => ?_) (fun _ => ?_) | refine Way.ndecG (fun _ => ?_) (fun _ => ?_) | refine Way.mkG (fun _ => ?_) (fun _ => ?_) | with_reducible refine Need.mkG ?_ ?_ | refine AppW.go0 ?_ ?_ | with_reducible refine NilW.goG (fun _ => ?_) ?_ | ((with_reducible refine n1 _ _ _ ?_); clear n1 K1) | ((with_reducible refine n1 _ ?_); clear n1 K1) | ((with_reducible refine n1 _ _ ?_); clear n1 K1) | ((with_reducible refine n1 _ _ _ _ ?_); clear n1 K1) | fail)
              all_goals try (first | exact trivial | omega | kernel_rfl | decide | exact And.intro (by omega) (by omega))
              all_goals try dsimp only [Int.toNat_natCast] at *
              all_goals try (first | exact trivial | omega | exact And.intro (by omega) (by omega))
              · skip
                have hj2 : j < 2 := by omega
                have hs : (lineAt d j k).1 = 1 ∨ (lineAt d j k).1 = 2 := by rw [← hx j hj2]; first | exact Or.inl ‹_› | exact Or.inr ‹_›
                obtain ⟨r1, r2, r3, r4, r5, r6⟩ := rng_line (hpre j hj2 k hk4) hs
                simp only [hx j hj2, r1, r2, r5, r6] at *
                exact r3
              · skip
                have hj2 : j < 2 := by omega
                have hs : (lineAt d j k).1 = 1 ∨ (lineAt d j k).1 = 2 := by rw [← hx j hj2]; first | exact Or.inl ‹_› | exact Or.inr ‹_›
                obtain ⟨r1, r2, r3, r4, r5, r6⟩ := rng_line (hpre j hj2 k hk4) hs
                simp only [hx j hj2, r1, r2, r5, r6] at *
                refine Done.of ?_ (Or.inl rfl)
                show (_, ()) = (goodD d, ())
                rw [bad_of (w := k) (by omega) (fun g => ?_)]
                have := (ag_pos hj2 g hs).1
                contradiction
              · skip
                have hj2 : j < 2 := by omega
                have hs : (lineAt d j k).1 = 1 ∨ (lineAt d j k).1 = 2 := by rw [← hx j hj2]; first | exact Or.inl ‹_› | exact Or.inr ‹_›
                obtain ⟨r1, r2, r3, r4, r5, r6⟩ := rng_line (hpre j hj2 k hk4) hs
                simp only [hx j hj2, r1, r2, r5, r6] at *
                exact r4
              · skip
                have hj2 : j < 2 := by omega
                have hs : (lineAt d j k).1 = 1 ∨ (lineAt d j k).1 = 2 := by rw [← hx j hj2]; first | exact Or.inl ‹_› | exact Or.inr ‹_›
                obtain ⟨r1, r2, r3, r4, r5, r6⟩ := rng_line (hpre j hj2 k hk4) hs
                simp only [hx j hj2, r1, r2, r5, r6] at *
                refine Done.of ?_ (Or.inl rfl)
                show (_, ()) = (goodD d, ())
                rw [bad_of (w := k) (by omega) (fun g => ?_)]
                have := (ag_pos hj2 g hs).2
                contradiction
              · skip
                have hj2 : j < 2 := by omega
                have hs : (lineAt d j k).1 = 1 ∨ (lineAt d j k).1 = 2 := by rw [← hx j hj2]; first | exact Or.inl ‹_› | exact Or.inr ‹_›
                obtain ⟨r1, r2, r3, r4, r5, r6⟩ := rng_line (hpre j hj2 k hk4) hs
                simp only [hx j hj2, r1, r2, r5, r6] at *
                refine ⟨j + 1, by omega, ⟨by omega, fun q hq => ?_⟩, ⟨?_, rfl, rfl, rfl, rfl, trivial⟩, rfl, 1, Nat.le_add_left _ _, rfl, rfl⟩
                · rcases Nat.lt_or_ge q j with g | g
                  · exact hag q g
                  · obtain rfl : q = j := by omega
                    intro _
                    exact ⟨by assumption, by assumption⟩
                · rw [← wrap_succ j (by omega)]
                  rfl
              · skip
                have hj2 : j < 2 := by omega
                have hs : (lineAt d j k).1 = 1 ∨ (lineAt d j k).1 = 2 := by rw [← hx j hj2]; first | exact Or.inl ‹_› | exact Or.inr ‹_›
                obtain ⟨r1, r2, r3, r4, r5, r6⟩ := rng_line (hpre j hj2 k hk4) hs
                simp only [hx j hj2, r1, r2, r5, r6] at *
                exact r3
              · skip
                have hj2 : j < 2 := by omega
                have hs : (lineAt d j k).1 = 1 ∨ (lineAt d j k).1 = 2 := by rw [← hx j hj2]; first | exact Or.inl ‹_› | exact Or.inr ‹_›
                obtain ⟨r1, r2, r3, r4, r5, r6⟩ := rng_line (hpre j hj2 k hk4) hs
                simp only [hx j hj2, r1, r2, r5, r6] at *
                refine Done.of ?_ (Or.inl rfl)
                show (_, ()) = (goodD d, ())
                rw [bad_of (w := k) (by omega) (fun g => ?_)]
                have := (ag_pos hj2 g hs).1
                contradiction
              · skip
                have hj2 : j < 2 := by omega
                have hs : (lineAt d j k).1 = 1 ∨ (lineAt d j k).1 = 2 := by rw [← hx j hj2]; first | exact Or.inl ‹_› | exact Or.inr ‹_›
                obtain ⟨r1, r2, r3, r4, r5, r6⟩ := rng_line (hpre j hj2 k hk4) hs
                simp only [hx j hj2, r1, r2, r5, r6] at *
                exact r4
              · skip
                have hj2 : j < 2 := by omega
                have hs : (lineAt d j k).1 = 1 ∨ (lineAt d j k).1 = 2 := by rw [← hx j hj2]; first | exact Or.inl ‹_› | exact Or.inr ‹_›
                obtain ⟨r1, r2, r3, r4, r5, r6⟩ := rng_line (hpre j hj2 k hk4) hs
                simp only [hx j hj2, r1, r2, r5, r6] at *
                refine Done.of ?_ (Or.inl rfl)
                show (_, ()) = (goodD d, ())
                rw [bad_of (w := k) (by omega) (fun g => ?_)]
                have := (ag_pos hj2 g hs).2
                contradiction
              · skip
                have hj2 : j < 2 := by omega
                have hs : (lineAt d j k).1 = 1 ∨ (lineAt d j k).1 = 2 := by rw [← hx j hj2]; first | exact Or.inl ‹_› | exact Or.inr ‹_›
                obtain ⟨r1, r2, r3, r4, r5, r6⟩ := rng_line (hpre j hj2 k hk4) hs
                simp only [hx j hj2, r1, r2, r5, r6] at *
                refine ⟨j + 1, by omega, ⟨by omega, fun q hq => ?_⟩, ⟨?_, rfl, rfl, rfl, rfl, trivial⟩, rfl, 1, Nat.le_add_left _ _, rfl, rfl⟩
                · rcases Nat.lt_or_ge q j with g | g
                  · exact hag q g
                  · obtain rfl : q = j := by omega
                    intro _
                    exact ⟨by assumption, by assumption⟩
                · rw [← wrap_succ j (by omega)]
                  rfl
              · have hj2 : j < 2 := by omega
                simp only [hx j hj2] at *
                refine ⟨j + 1, by omega, ⟨by omega, fun q hq => ?_⟩, ⟨?_, rfl, rfl, rfl, rfl, trivial⟩, rfl, 1, Nat.le_add_left _ _, rfl, rfl⟩
                · rcases Nat.lt_or_ge q j with g | g
                  · exact hag q g
                  · obtain rfl : q = j := by omega
                    rintro (g | g) <;> contradiction
                · rw [← wrap_succ j (by omega)]
                  rfl
              · obtain rfl : j = 2 := by omega
                refine ⟨k + 1, by omega, ⟨by omega, fun w hw => ?_⟩, ⟨?_, rfl, trivial⟩, rfl, 1, Nat.le_add_left _ _, rfl, rfl⟩
                · rcases Nat.lt_or_ge w k with g | g
                  · exact hok w g
                  · obtain rfl : w = k := by omega
                    exact ag_all hk4 hpre hex hag
                · rw [← wrap_succ k (by omega)]
                  rfl
          · have hex : ¬ (0 < ((d.1 (Int.toNat 0)).2.1 k).1 ∧ 0 < ((d.1 (Int.toNat 1)).2.1 k).1 ∧ ((d.1 (Int.toNat 0)).2.1 k).2.1 = ((d.1 (Int.toNat 1)).2.1 k).2.1 ∧ (1 < ((d.1 (Int.toNat 0)).2.1 k).1 ∨ 1 < ((d.1 (Int.toNat 1)).2.1 k).1)) := by
              rintro ⟨g1, g2, g3, g4⟩
              rcases g4 with g4 | g4 <;> contradiction
            have hk4 : k < 4 := by omega
            have hx : ∀ j, j < 2 → nthD lineT (ownL lineT (updA (updA (Ty.arr 2 lineT).zero 0 ((d.1 (Int.toNat 0)).2.1 k)) 1 ((d.1 (Int.toNat 1)).2.1 k)) 0 2) j = lineAt d j k := by
              intro j hj
              have : j = 0 ∨ j = 1 := by omega
              rcases this with rfl | rfl <;> rfl
            have hlen : (ownL lineT (updA (updA (Ty.arr 2 lineT).zero 0 ((d.1 (Int.toNat 0)).2.1 k)) 1 ((d.1 (Int.toNat 1)).2.1 k)) 0 2).length = 2 := by simp [ownL]
            generalize ownL lineT (updA (updA (Ty.arr 2 lineT).zero 0 ((d.1 (Int.toNat 0)).2.1 k)) 1 ((d.1 (Int.toNat 1)).2.1 k)) 0 2 = ys at hx hlen ⊢
            refine run_loop (loop_fam (ι := Nat) (fun j => [(77, .a (.of (.leaf .int (j : Int)))), (76, .a (.of (.leaf .int (ys.length : Int)))), (75, .a (.of (.leaf (.lst lineT) (.nm (nn + k), ys)))), (33, .a (.of (.leaf .int (k : Int)))), (1, .a (.ptr 0 0 [] deskT))]) (fun _ => [.leaf deskT d]) (fun _ => ⟨nn + k + 1, []⟩) (fun j => 2 - j) (fun j => j ≤ 2 ∧ ∀ q < j, (lineAt d q k).1 = 1 ∨ (lineAt d q k).1 = 2 → (lineAt d q k).2.2.1 0 = d.2 (2 * (lineAt d q k).2.1.toNat) ∧ (lineAt d q k).2.2.1 1 = d.2 (2 * (lineAt d q k).2.1.toNat + 1)) ?_ ?_)
            · exact ⟨0, ⟨Nat.zero_le _, fun _ h => absurd h (Nat.not_lt_zero _)⟩, ⟨rfl, rfl, rfl, rfl, rfl, trivial⟩, rfl, 1, Nat.le_add_left _ _, rfl, rfl⟩
            · rintro j ⟨hj, hag⟩
              repeat' (first | with_reducible refine seq_k fun K1 n1 => ?_ | with_reducible refine seq_nil ?_ | with_reducible refine drw_k fun K1 n1 => ?_ | with_reducible refine drw_nil ?_ ?_ | with_reducible refine run_seq ?_ | with_reducible refine run_skip ?_ | with_reducible refine run_regS ?_ | with_reducible refine run_regD (by kernel_rfl) ?_ ?_ | with_reducible refine inl_k (by with_unfolding_all rfl) (Nat.le_of_ble_eq_true rfl) fun K1 n1 => ?_ | with_reducible refine inlA_k (by with_unfolding_all rfl) (Nat.le_of_ble_eq_true rfl) fun K1 n1 => ?_ | with_reducible refine run_finA ?_ | with_reducible refine run_cond ?_ | with_reducible refine run_block ?_ | with_reducible refine run_endb ?_ | with_reducible refine run_exit fun K1 n1 => ?_ | with_reducible refine run_ret fun K1 n1 => ?_ | with_reducible refine run_fin ?_ | with_reducible refine run_inv ?_ | with_reducible refine go_rounds ?_ | ((with_reducible refine Go.mk ?_); (conv => whnf)) | refine Fork.yes ?_ | refine Fork.no ?_ | refine Fork.dec (fun _ => ?_) (fun _ => ?_) | refine Fork.ndec (fun _ => ?_) (fun _ => ?_) | refine Fork.mk (fun _ => ?_) (fun _ => ?_) | refine Way.yesG ?_ | refine Way.noG ?_ | refine Way.decG (fun _ => ?_) (fun _ => ?_) | refine Way.ndecG (fun _ => ?_) (fun _ => ?_) | refine Way.mkG (fun _ => ?_) (fun _ => ?_) | with_reducible refine Need.mkG ?_ ?_ | refine AppW.go0 ?_ ?_ | with_reducible refine NilW.goG (fun _ => ?_) ?_ | ((with_reducible refine n1 _ _ _ ?_); clear n1 K1) | ((with_reducible refine n1 _ ?_); clear n1 K1) | ((with_reducible refine n1 _ _ ?_); clear n1 K1) | ((with_reducible refine n1 _ _ _ _ ?_); clear n1 K1) | fail)
              all_goals try (first | exact trivial | omega | kernel_rfl | decide | exact And.intro (by omega) (by omega))
              all_goals try dsimp only [Int.toNat_natCast] at *
              all_goals try (first | exact trivial | omega | exact And.intro (by omega) (by omega))
              · skip
                have hj2 : j < 2 := by omega
                have hs : (lineAt d j k).1 = 1 ∨ (lineAt d j k).1 = 2 := by rw [← hx j hj2]; first | exact Or.inl ‹_› | exact Or.inr ‹_›
                obtain ⟨r1, r2, r3, r4, r5, r6⟩ := rng_line (hpre j hj2 k hk4) hs
                simp only [hx j hj2, r1, r2, r5, r6] at *
                exact r3
              · skip
                have hj2 : j < 2 := by omega
                have hs : (lineAt d j k).1 = 1 ∨ (lineAt d j k).1 = 2 := by rw [← hx j hj2]; first | exact Or.inl ‹_› | exact Or.inr ‹_›
                obtain ⟨r1, r2, r3, r4, r5, r6⟩ := rng_line (hpre j hj2 k hk4) hs
                simp only [hx j hj2, r1, r2, r5, r6] at *
                refine Done.of ?_ (Or.inl rfl)
                show (_, ()) = (goodD d, ())
                rw [bad_of (w := k) (by omega) (fun g => ?_)]
                have := (ag_pos hj2 g hs).1
                contradiction
              · skip
                have hj2 : j < 2 := by omega
                have hs : (lineAt d j k).1 = 1 ∨ (lineAt d j k).1 = 2 := by rw [← hx j hj2]; first | exact Or.inl ‹_› | exact Or.inr ‹_›
                obtain ⟨r1, r2, r3, r4, r5, r6⟩ := rng_line (hpre j hj2 k hk4) hs
                simp only [hx j hj2, r1, r2, r5, r6] at *
                exact r4
              · skip
                have hj2 : j < 2 := by omega
                have hs : (lineAt d j k).1 = 1 ∨ (lineAt d j k).1 = 2 := by rw [← hx j hj2]; first | exact Or.inl ‹_› | exact Or.inr ‹_›
                obtain ⟨r1, r2, r3, r4, r5, r6⟩ := rng_line (hpre j hj2 k hk4) hs
                simp only [hx j hj2, r1, r2, r5, r6] at *
                refine Done.of ?_ (Or.inl rfl)
                show (_, ()) = (goodD d, ())
                rw [bad_of (w := k) (by omega) (fun g => ?_)]
                have := (ag_pos hj2 g hs).2
                contradiction
              · skip
                have hj2 : j < 2 := by omega
                have hs : (lineAt d j k).1 = 1 ∨ (lineAt d j k).1 = 2 := by rw [← hx j hj2]; first | exact Or.inl ‹_› | exact Or.inr ‹_›
                obtain ⟨r1, r2, r3, r4, r5, r6⟩ := rng_line (hpre j hj2 k hk4) hs
                simp only [hx j hj2, r1, r2, r5, r6] at *
                refine ⟨j + 1, by omega, ⟨by omega, fun q hq => ?_⟩, ⟨?_, rfl, rfl, rfl, rfl, trivial⟩, rfl, 1, Nat.le_add_left _ _, rfl, rfl⟩
                · rcases Nat.lt_or_ge q j with g | g
                  · exact hag q g
                  · obtain rfl : q = j := by omega
                    intro _
                    exact ⟨by assumption, by assumption⟩
                · rw [← wrap_succ j (by omega)]
                  rfl
              · skip
                have hj2 : j < 2 := by omega
                have hs : (lineAt d j k).1 = 1 ∨ (lineAt d j k).1 = 2 := by rw [← hx j hj2]; first | exact Or.inl ‹_› | exact Or.inr ‹_›
                obtain ⟨r1, r2, r3, r4, r5, r6⟩ := rng_line (hpre j hj2 k hk4) hs
                simp only [hx j hj2, r1, r2, r5, r6] at *
                exact r3
              · skip
                have hj2 : j < 2 := by omega
                have hs : (lineAt d j k).1 = 1 ∨ (lineAt d j k).1 = 2 := by rw [← hx j hj2]; first | exact Or.inl ‹_› | exact Or.inr ‹_›
                obtain ⟨r1, r2, r3, r4, r5, r6⟩ := rng_line (hpre j hj2 k hk4) hs
                simp only [hx j hj2, r1, r2, r5, r6] at *
                refine Done.of ?_ (Or.inl rfl)
                show (_, ()) = (goodD d, ())
                rw [bad_of (w := k) (by omega) (fun g => ?_)]
                have := (ag_pos hj2 g hs).1
                contradiction
              · skip
                have hj2 : j < 2 := by omega
                have hs : (lineAt d j k).1 = 1 ∨ (lineAt d j k).1 = 2 := by rw [← hx j hj2]; first | exact Or.inl ‹_› | exact Or.inr ‹_›
                obtain ⟨r1, r2, r3, r4, r5, r6⟩ := rng_line (hpre j hj2 k hk4) hs
                simp only [hx j hj2, r1, r2, r5, r6] at *
                exact r4
              · skip
                have hj2 : j < 2 := by omega
                have hs : (lineAt d j k).1 = 1 ∨ (lineAt d j k).1 = 2 := by rw [← hx j hj2]; first | exact Or.inl ‹_› | exact Or.inr ‹_›
                obtain ⟨r1, r2, r3, r4, r5, r6⟩ := rng_line (hpre j hj2 k hk4) hs
                simp only [hx j hj2, r1, r2, r5, r6] at *
                refine Done.of ?_ (Or.inl rfl)
                show (_, ()) = (goodD d, ())
                rw [bad_of (w := k) (by omega) (fun g => ?_)]
                have := (ag_pos hj2 g hs).2
                contradiction
              · skip
                have hj2 : j < 2 := by omega
                have hs : (lineAt d j k).1 = 1 ∨ (lineAt d j k).1 = 2 := by rw [← hx j hj2]; first | exact Or.inl ‹_› | exact Or.inr ‹_›
                obtain ⟨r1, r2, r3, r4, r5, r6⟩ := rng_line (hpre j hj2 k hk4) hs
                simp only [hx j hj2, r1, r2, r5, r6] at *
                refine ⟨j + 1, by omega, ⟨by omega, fun q hq => ?_⟩, ⟨?_, rfl, rfl, rfl, rfl, trivial⟩, rfl, 1, Nat.le_add_left _ _, rfl, rfl⟩
                · rcases Nat.lt_or_ge q j with g | g
                  · exact hag q g
                  · obtain rfl : q = j := by omega
                    intro _
                    exact ⟨by assumption, by assumption⟩
                · rw [← wrap_succ j (by omega)]
                  rfl
              · have hj2 : j < 2 := by omega
                simp only [hx j hj2] at *
                refine ⟨j + 1, by omega, ⟨by omega, fun q hq => ?_⟩, ⟨?_, rfl, rfl, rfl, rfl, trivial⟩, rfl, 1, Nat.le_add_left _ _, rfl, rfl⟩
                · rcases Nat.lt_or_ge q j with g | g
                  · exact hag q g
                  · obtain rfl : q = j := by omega
                    rintro (g | g) <;> contradiction
                · rw [← wrap_succ j (by omega)]
                  rfl
              · obtain rfl : j = 2 := by omega
                refine ⟨k + 1, by omega, ⟨by omega, fun w hw => ?_⟩, ⟨?_, rfl, trivial⟩, rfl, 1, Nat.le_add_left _ _, rfl, rfl⟩
                · rcases Nat.lt_or_ge w k with g | g
                  · exact hok w g
                  · obtain rfl : w = k := by omega
                    exact ag_all hk4 hpre hex hag
                · rw [← wrap_succ k (by omega)]
                  rfl
          · rename_i h1
            obtain rfl : k = 4 := by omega
            refine Done.of ?_ (Or.inl rfl)
            show (_, ()) = (goodD d, ())
            rw [good_of hmem hpre hok]
end Go.Proofs.Ytjbbgpacijageaa.M
