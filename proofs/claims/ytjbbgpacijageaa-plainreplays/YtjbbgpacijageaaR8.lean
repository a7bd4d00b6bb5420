/- The document's own functions: transactions on a plain memory. -/
import Derived.Test.YtjbbgpacijageaaR7
import Derived.Test.YtjbbgpacijageaaE3
namespace Go.Proofs.Ytjbbgpacijageaa.M
open Go.RowKit
set_option linter.unusedVariables false
set_option linter.unusedSimpArgs false

theorem Way.decT {p : Prop} [i : Decidable p] {x y : Prop} (hp : p) (h : Go x) : Way (decide p) x y := Way.decG (fun _ => h) (fun g => absurd hp g)
theorem Way.decN {p : Prop} [i : Decidable p] {x y : Prop} (hp : ¬ p) (h : Go y) : Way (decide p) x y := Way.decG (fun g => absurd g hp) (fun _ => h)
theorem Fork.decT {p : Prop} [i : Decidable p] {x y : Prop} (hp : p) (h : x) : Fork (decide p) x y := Fork.dec (fun _ => h) (fun g => absurd hp g)
theorem Fork.decN {p : Prop} [i : Decidable p] {x y : Prop} (hp : ¬ p) (h : y) : Fork (decide p) x y := Fork.dec (fun g => absurd g hp) (fun _ => h)
theorem ge_of {a b n : Int} (h : n = b) (g : a ≤ b) : a ≤ n := by omega
theorem le_of {a b n : Int} (h : n = b) (g : b ≤ a) : n ≤ a := by omega
theorem nle_of {a b n : Int} (h : n = b) (g : ¬ b ≤ a) : ¬ n ≤ a := by omega
theorem ne_of {a b n : Int} (h : n = b) (g : ¬ b = a) : ¬ n = a := by omega
theorem nel_of {a n : Int} (h : n ≤ 4) (g : 4 < a) : ¬ n = a := by omega
theorem ngl_of {n : Int} (h : n ≤ 4) : ¬ 5 ≤ n := by omega
theorem op_cases {i : instrT.D} (h : goodI i = true) : i.1 = 11 ∨ i.1 = 12 ∨ i.1 = 9 ∨ i.1 = 10 ∨ i.1 = 5 ∨ i.1 = 6 ∨ i.1 = 7 ∨ @LE.le Int _ i.1 4 ∨ i.1 = 8 := by
  unfold goodI at h
  rw [Bool.and_eq_true] at h
  have h1 := of_decide_eq_true h.1
  have key : ∀ n : Int, 1 ≤ n ∧ n ≤ 12 → n = 11 ∨ n = 12 ∨ n = 9 ∨ n = 10 ∨ n = 5 ∨ n = 6 ∨ n = 7 ∨ n ≤ 4 ∨ n = 8 := fun n h => by omega
  exact key i.1 h1
section
variable {xs : List instrT.D} {n k : Nat} {s s' : stT.D} {deep e : Int} {G : Option stT.D}
theorem all_stop1 (hk : k + 1 ≤ n) (hgo : G = goAll xs (n - k) s deep) (h : (insideF s (fetchF xs s.1) deep).2.2 = false) : G = none := hgo.trans (goAll_no (by omega) (Or.inl h))
theorem all_stop2 (hk : k + 1 ≤ n) (hgo : G = goAll xs (n - k) s deep) (he : (insideF s (fetchF xs s.1) deep).2.1 = e) (hd : (k + 1 < n ∧ e ≤ 0) ∨ (k + 1 = n ∧ 0 < e)) : G = none :=
  hgo.trans (goAll_no (by omega) (Or.inr (by rw [he, decide_eq_decide]; omega)))
theorem all_next (hk : k + 1 ≤ n) (hgo : G = goAll xs (n - k) s deep) (hin : insideF s (fetchF xs s.1) deep = (s', e, true)) (hd : (k + 1 < n ∧ 0 < e) ∨ (k + 1 = n ∧ e = 0)) : G = goAll xs (n - (k + 1)) s' e := by
  rw [hgo, goAll_yes (by omega) (by rw [hin]) (by rw [hin]; show ¬ decide (0 < e) = decide (n - k - 1 = 0); rw [decide_eq_decide]; omega), hin]
  rfl
variable {i : instrT.D}
theorem in_no (h : i.1 = 11 ∨ i.1 = 12) : (insideF s i deep).2.2 = false := by
  unfold insideF
  rw [if_neg (by rcases h with h | h <;> rw [h] <;> decide), if_neg (by rcases h with h | h <;> rw [h] <;> decide), if_pos h]
theorem in_9 (h : i.1 = 9) : insideF s i deep = ((nextF s.1, s.2), wrap64 (deep + 1), decide (deep < 3)) := if_pos h
theorem in_10 (h : i.1 = 10) : insideF s i deep = ((nextF s.1, s.2), wrap64 (deep - 1), true) := by
  unfold insideF
  rw [if_neg (by rw [h]; decide), if_pos h]
theorem in_touch (h : i.1 = 5 ∨ i.1 = 6 ∨ i.1 = 7) : insideF s i deep = ((touchF s i).1, deep, (touchF s i).2) := by
  unfold insideF doneF
  rw [if_pos h, if_neg (by rcases h with h | h | h <;> rw [h] <;> decide), if_neg (by rcases h with h | h | h <;> rw [h] <;> decide), if_neg (by rcases h with h | h | h <;> rw [h] <;> decide)]
theorem four_i {a : Int} (h : 1 ≤ a ∧ a ≤ 12) (g : a ≤ 4 ∨ a = 8) : a = 1 ∨ a = 2 ∨ a = 3 ∨ a = 4 ∨ a = 8 := by omega
theorem four_of (hg : goodI i = true) (h : @LE.le Int _ i.1 4 ∨ i.1 = 8) : i.1 = 1 ∨ i.1 = 2 ∨ i.1 = 3 ∨ i.1 = 4 ∨ i.1 = 8 := by
  unfold goodI at hg
  rw [Bool.and_eq_true] at hg
  exact four_i (of_decide_eq_true hg.1) h
theorem in_alone (hg : goodI i = true) (hp : goodP s.1 = true) (ho : s.1.2.2 = false) (h : @LE.le Int _ i.1 4 ∨ i.1 = 8) : insideF s i deep = (((aloneF s.1 i).1, s.2), deep, true) := by
  have h4 := four_of hg h
  have hz : (aloneF s.1 i).2 = 0 := by
    unfold aloneF
    rw [if_pos ⟨hg, hp⟩, if_neg (by rw [ho]; decide)]
    rcases h4 with h | h | h | h | h <;> rw [h] <;> rfl
  unfold insideF doneF
  rw [if_neg (by rcases h4 with h | h | h | h | h <;> rw [h] <;> decide), if_neg (by rcases h4 with h | h | h | h | h <;> rw [h] <;> decide), if_neg (by rcases h4 with h | h | h | h | h <;> rw [h] <;> decide), if_neg (by rcases h4 with h | h | h | h | h <;> rw [h] <;> decide), hz]
  rfl
theorem touch_no (h : ¬ wordF s.1 i < 32) : (touchF s i).2 = false := by
  unfold touchF
  rw [if_neg h]
theorem deep_9 {op : Int} (h : op = 9) (hd : 0 ≤ deep ∧ deep ≤ 3) : wrap64 (deep + wrap64 (19 - wrap64 (2 * op))) = deep + 1 := by
  subst h
  rw [show wrap64 (2 * 9) = 18 from rfl, show wrap64 (19 - 18) = 1 from rfl, wrap_id (by omega)]
theorem deep_10 {op : Int} (h : op = 10) (hd : 0 ≤ deep ∧ deep ≤ 3) : wrap64 (deep + wrap64 (19 - wrap64 (2 * op))) = deep - 1 := by
  subst h
  rw [show wrap64 (2 * 10) = 20 from rfl, show wrap64 (19 - 20) = -1 from rfl, wrap_id (by omega)]
  omega
theorem inv_ok {n k : Nat} {e : Int} (hk : k + 1 ≤ n) (hd : (k + 1 < n ∧ 0 < e) ∨ (k + 1 = n ∧ e = 0)) (h3 : e ≤ 3) : k + 1 ≤ n ∧ (k + 1 = 0 → e = 0) ∧ (k + 1 ≠ 0 → 1 ≤ e ∨ k + 1 = n) ∧ (0 ≤ e ∧ e ≤ 3) := by omega
end
set_option maxHeartbeats 12000000 in
theorem c_AllOf : Ctr Try.prog 37 allS := by
  refine ctr_of tabOk (SpecsOk.cons c_IsPlain (by kernel_rfl) (SpecsOk.cons c_goodMemory (by kernel_rfl) (SpecsOk.cons c_NextInstr (by kernel_rfl) (SpecsOk.cons c_AloneOf (by kernel_rfl) (SpecsOk.cons c_rest (by kernel_rfl) (SpecsOk.mut (inl_ok tabOk (SpecsOk.cons c_WordOf (by kernel_rfl) (SpecsOk.cons c_PutReg (by kernel_rfl) (SpecsOk.cons c_rest (by kernel_rfl) (SpecsOk.nil _)))) Try.func76 [.bool]) (by kernel_rfl) (SpecsOk.mut (inl_ok tabOk (SpecsOk.nil _) Try.func79 [plainT, memT, .int]) (by kernel_rfl) (SpecsOk.nil _)))))))) Try.func37 rfl _ (Nat.le_of_ble_eq_true rfl) (fun _ _ => rfl) ?_
  rintro nn ⟨⟨hd, xs⟩, ⟨g, (a : Int), (off : Bool)⟩, m, (count : Int), ⟨⟩⟩ _ _
  refine ⟨200, init_k fun K1 n1 => ?_⟩
  conv => whnf
  refine n1 _ ?_
  clear n1 K1
  repeat' (first | with_reducible refine seq_k fun K1 n1 => ?_ | with_reducible refine seq_nil ?_ | with_reducible refine drw_k fun K1 n1 => ?_ | with_reducible refine drw_nil ?_ ?_ | with_reducible refine run_seq ?_ | with_reducible refine run_skip ?_ | with_reducible refine run_regS ?_ | with_reducible refine run_regD (by kernel_rfl) ?_ ?_ | with_reducible refine inl_k (by with_unfolding_all rfl) (Nat.le_of_ble_eq_true rfl) fun K1 n1 => ?_ | with_reducible refine inlA_k (by with_unfolding_all rfl) (Nat.le_of_ble_eq_true rfl) fun K1 n1 => ?_ | with_reducible refine run_finA ?_ | with_reducible refine run_cond ?_ | with_reducible refine run_block ?_ | with_reducible refine run_endb ?_ | with_reducible refine run_exit fun K1 n1 => ?_ | with_reducible refine run_ret fun K1 n1 => ?_ | with_reducible refine run_fin ?_ | with_reducible refine run_inv ?_ | with_reducible refine go_rounds ?_ | ((with_reducible refine Go.mk ?_); (conv => whnf)) | refine Fork.yes ?_ | refine Fork.no ?_ | refine Fork.dec (fun _ => ?_) (fun _ => ?_) | refine Fork.ndec (fun _ => ?_) (fun _ => ?_) | refine Fork.mk (fun _ => ?_) (fun _ => ?_) | refine Way.yesG ?_ | refine Way.noG ?_ | refine Way.decG (fun _ => ?_) (fun _ => ?_) | refine Way.ndecG (fun _ => ?_) (fun _ => ?_) | refine Way.mkG (fun _ => ?_) (fun _ => ?_) | with_reducible refine Need.mkG ?_ ?_ | refine AppW.go0 ?_ ?_ | with_reducible refine NilW.goG (fun _ => ?_) ?_ | ((with_reducible refine n1 _ _ _ ?_); clear n1 K1) | ((with_reducible refine n1 _ ?_); clear n1 K1) | ((with_reducible refine n1 _ _ ?_); clear n1 K1) | ((with_reducible refine n1 _ _ _ _ ?_); clear n1 K1) | fail)
  all_goals try (first | exact trivial | omega | kernel_rfl | decide | exact And.intro (by omega) (by omega))
  all_goals try dsimp only [Int.toNat_natCast] at *
  all_goals try (first | exact trivial | omega | exact And.intro (by omega) (by omega))
  all_goals try simp only [show (ownL Ty.int m 0 32).all isW = goodM m from rfl] at *
  · refine Done.of ?_ (Or.inl rfl)
    show (_, _, _, ()) = ((allF xs (g, a, off) m count).1, (allF xs (g, a, off) m count).2.1, (allF xs (g, a, off) m count).2.2, ())
    unfold allF readyAtF readyF
    simp_all
  · refine Done.of ?_ (Or.inl rfl)
    show (_, _, _, ()) = ((allF xs (g, a, off) m count).1, (allF xs (g, a, off) m count).2.1, (allF xs (g, a, off) m count).2.2, ())
    unfold allF readyAtF readyF
    simp_all
  · refine Done.of ?_ (Or.inl rfl)
    show (_, _, _, ()) = ((allF xs (g, a, off) m count).1, (allF xs (g, a, off) m count).2.1, (allF xs (g, a, off) m count).2.2, ())
    unfold allF readyAtF readyF
    simp_all
  · refine Done.of ?_ (Or.inl rfl)
    show (_, _, _, ()) = ((allF xs (g, a, off) m count).1, (allF xs (g, a, off) m count).2.1, (allF xs (g, a, off) m count).2.2, ())
    unfold allF readyAtF readyF
    rw [if_pos (by simp_all), if_neg (by omega)]
  · refine Done.of ?_ (Or.inl rfl)
    show (_, _, _, ()) = ((allF xs (g, a, off) m count).1, (allF xs (g, a, off) m count).2.1, (allF xs (g, a, off) m count).2.2, ())
    unfold allF readyAtF readyF
    rw [if_pos (by simp_all), if_neg (by omega)]
  · obtain ⟨n, rfl⟩ : ∃ n : Nat, count = (n : Int) := ⟨count.toNat, by omega⟩
    have hgp : goodP (g, a, off) = true := not_f' (by assumption)
    have hgm : goodM m = true := not_f' (by assumption)
    have hoff : off = false := by assumption
    have hn : 2 ≤ n ∧ n ≤ 400 := by omega
    have hall : allF xs (g, a, off) m (n : Int) = match goAll xs n ((g, a, off), m) 0 with | some s => (s.1, s.2, 0) | none => ((g, a, off), m, 3) := by
      unfold allF readyAtF readyF
      rw [if_pos (by simp_all), if_pos (by omega), Int.toNat_natCast]
      rfl
    refine run_loop (loop_fam (ι := Nat × (Nat → Int) × Int × Bool × (Nat → Int) × Int) (fun i => [(15, .a (.of (.leaf .int ((i.1 + 1 : Nat) : Int)))), (14, .a (.of (.leaf .int i.2.2.2.2.2))), (13, .a (.clo 79 [(4, 0, [], plainT), (5, 0, [], memT)])), (9, .a (.ptr 3 0 [] memT)), (8, .a (.ptr 2 0 [] plainT)), (6, .a (.ptr 1 0 [] memT)), (5, .a (.ptr 0 0 [] plainT)), (0, .a (.of (.leaf (.lst instrT) (hd, xs)))), (3, .a (.of (.leaf .int (n : Int))))])
      (fun i => [.leaf plainT (i.2.1, i.2.2.1, i.2.2.2.1), .leaf memT i.2.2.2.2.1, .leaf plainT plainT.zero, .leaf memT memT.zero, .leaf plainT (g, a, off), .leaf memT m]) (fun _ => ⟨nn, []⟩) (fun i => n - i.1)
      (fun i => (i.1 ≤ n ∧ (i.1 = 0 → i.2.2.2.2.2 = 0) ∧ (i.1 ≠ 0 → 1 ≤ i.2.2.2.2.2 ∨ i.1 = n) ∧ (0 ≤ i.2.2.2.2.2 ∧ i.2.2.2.2.2 ≤ 3)) ∧ (goodP (i.2.1, i.2.2.1, i.2.2.2.1) = true ∧ i.2.2.2.1 = false) ∧ goAll xs n ((g, a, off), m) 0 = goAll xs (n - i.1) ((i.2.1, i.2.2.1, i.2.2.2.1), i.2.2.2.2.1) i.2.2.2.2.2) ?_ ?_)
    · exact ⟨(0, g, a, off, m, 0), ⟨⟨Nat.zero_le _, fun _ => rfl, fun h => absurd rfl h, (by decide : (0 : Int) ≤ 0), (by decide : (0 : Int) ≤ 3)⟩, ⟨hgp, hoff⟩, rfl⟩, ⟨rfl, rfl, rfl, rfl, rfl, rfl, rfl, rfl, rfl, trivial⟩, rfl, 6, Nat.le_refl _, rfl, rfl⟩
    · rintro ⟨k, rg, (ra : Int), ro, mm, (deep : Int)⟩ ⟨⟨hk, hz, hp, hd0, hd3⟩, ⟨hg1, hoff1⟩, hgo⟩
      have hk : k ≤ n := hk
      have hoff1 : ro = false := hoff1
      subst hoff1
      have hz : k = 0 → deep = 0 := hz
      have hp : k ≠ 0 → 1 ≤ deep ∨ k = n := hp
      have hd0 : 0 ≤ deep := hd0
      have hd3 : deep ≤ 3 := hd3
      have hg1 : goodP (rg, ra, false) = true := hg1
      have hgo : goAll xs n ((g, a, off), m) 0 = goAll xs (n - k) ((rg, ra, false), mm) deep := hgo
      have hgi := fetch_good xs (rg, ra, false)
      have hgr := fetch_regs xs (rg, ra, false)
      have stop : goAll xs n ((g, a, off), m) 0 = none → ∀ ns, Done allS nn ((hd, xs), (g, a, off), m, (n : Int), ()) ((g, a, off), m, 3, ()) ns := fun h ns => by
        refine Done.of ?_ (Or.inl rfl)
        show (_, _, _, ()) = ((allF xs (g, a, off) m n).1, (allF xs (g, a, off) m n).2.1, (allF xs (g, a, off) m n).2.2, ())
        rw [hall, h]
      have fin : ¬ ((k + 1 : Nat) : Int) ≤ (n : Int) → ∀ ns, Done allS nn ((hd, xs), (g, a, off), m, (n : Int), ()) ((rg, ra, false), mm, 0, ()) ns := fun h ns => by
        refine Done.of ?_ (Or.inl rfl)
        show (_, _, _, ()) = ((allF xs (g, a, off) m n).1, (allF xs (g, a, off) m n).2.1, (allF xs (g, a, off) m n).2.2, ())
        rw [hall, hgo, show n - k = 0 from by omega]
        rfl
      have hkd : k + 1 = n → 1 ≤ deep := fun h => by
        rcases hp (by omega) with g | g
        · exact g
        · omega
      rcases op_cases hgi with h | h | h | h | h | h | h | h | h
      · skip
        repeat' (first | with_reducible refine seq_k fun K1 n1 => ?_ | with_reducible refine seq_nil ?_ | with_reducible refine drw_k fun K1 n1 => ?_ | with_reducible refine drw_nil ?_ ?_ | with_reducible refine run_seq ?_ | with_reducible refine run_skip ?_ | with_reducible refine run_regS ?_ | with_reducible refine run_regD (by kernel_rfl) ?_ ?_ | with_reducible refine inl_k (by with_unfolding_all rfl) (Nat.le_of_ble_eq_true rfl) fun K1 n1 => ?_ | with_reducible refine inlA_k (by with_unfolding_all rfl) (Nat.le_of_ble_eq_true rfl) fun K1 n1 => ?_ | with_reducible refine run_finA ?_ | with_reducible refine run_cond ?_ | with_reducible refine run_block ?_ | with_reducible refine run_endb ?_ | with_reducible refine run_exit fun K1 n1 => ?_ | with_reducible refine run_ret fun K1 n1 => ?_ | with_reducible refine run_fin ?_ | with_reducible refine run_inv ?_ | with_reducible refine go_rounds ?_ | ((with_reducible refine Go.mk ?_); (conv => whnf)) | refine Fork.yes ?_ | refine Fork.no ?_ | refine Fork.decT (by assumption) ?_ | refine Fork.decN (by assumption) ?_ | refine Fork.dec (fun _ => ?_) (fun _ => ?_) | refine Fork.ndec (fun _ => ?_) (fun _ => ?_) | refine Fork.mk (fun _ => ?_) (fun _ => ?_) | refine Way.yesG ?_ | refine Way.noG ?_ | refine Way.decT (by assumption) ?_ | refine Way.decN (by assumption) ?_ | refine Way.decG (fun _ => ?_) (fun _ => ?_) | refine Way.ndecG (fun _ => ?_) (fun _ => ?_) | refine Way.mkG (fun _ => ?_) (fun _ => ?_) | with_reducible refine Need.mkG ?_ ?_ | refine AppW.go0 ?_ ?_ | with_reducible refine NilW.goG (fun _ => ?_) ?_ | ((with_reducible refine n1 _ _ _ ?_); clear n1 K1) | ((with_reducible refine n1 _ ?_); clear n1 K1) | ((with_reducible refine n1 _ _ ?_); clear n1 K1) | ((with_reducible refine n1 _ _ _ _ ?_); clear n1 K1) | fail)
        all_goals try (first | exact trivial | omega | kernel_rfl | decide | exact And.intro (by omega) (by omega))
        all_goals try dsimp only [Int.toNat_natCast] at *
        all_goals try (first | exact trivial | omega | exact And.intro (by omega) (by omega))
        · exact stop (all_stop1 (by omega) hgo (in_no (Or.inl h))) _
        · exact fin (by assumption) _
      · have f11 : ¬ (fetchF xs (rg, ra, false)).1 = 11 := ne_of h (show ¬ (12 : Int) = 11 by decide)
        repeat' (first | with_reducible refine seq_k fun K1 n1 => ?_ | with_reducible refine seq_nil ?_ | with_reducible refine drw_k fun K1 n1 => ?_ | with_reducible refine drw_nil ?_ ?_ | with_reducible refine run_seq ?_ | with_reducible refine run_skip ?_ | with_reducible refine run_regS ?_ | with_reducible refine run_regD (by kernel_rfl) ?_ ?_ | with_reducible refine inl_k (by with_unfolding_all rfl) (Nat.le_of_ble_eq_true rfl) fun K1 n1 => ?_ | with_reducible refine inlA_k (by with_unfolding_all rfl) (Nat.le_of_ble_eq_true rfl) fun K1 n1 => ?_ | with_reducible refine run_finA ?_ | with_reducible refine run_cond ?_ | with_reducible refine run_block ?_ | with_reducible refine run_endb ?_ | with_reducible refine run_exit fun K1 n1 => ?_ | with_reducible refine run_ret fun K1 n1 => ?_ | with_reducible refine run_fin ?_ | with_reducible refine run_inv ?_ | with_reducible refine go_rounds ?_ | ((with_reducible refine Go.mk ?_); (conv => whnf)) | refine Fork.yes ?_ | refine Fork.no ?_ | refine Fork.decT (by assumption) ?_ | refine Fork.decN (by assumption) ?_ | refine Fork.dec (fun _ => ?_) (fun _ => ?_) | refine Fork.ndec (fun _ => ?_) (fun _ => ?_) | refine Fork.mk (fun _ => ?_) (fun _ => ?_) | refine Way.yesG ?_ | refine Way.noG ?_ | refine Way.decT (by assumption) ?_ | refine Way.decN (by assumption) ?_ | refine Way.decG (fun _ => ?_) (fun _ => ?_) | refine Way.ndecG (fun _ => ?_) (fun _ => ?_) | refine Way.mkG (fun _ => ?_) (fun _ => ?_) | with_reducible refine Need.mkG ?_ ?_ | refine AppW.go0 ?_ ?_ | with_reducible refine NilW.goG (fun _ => ?_) ?_ | ((with_reducible refine n1 _ _ _ ?_); clear n1 K1) | ((with_reducible refine n1 _ ?_); clear n1 K1) | ((with_reducible refine n1 _ _ ?_); clear n1 K1) | ((with_reducible refine n1 _ _ _ _ ?_); clear n1 K1) | fail)
        all_goals try (first | exact trivial | omega | kernel_rfl | decide | exact And.intro (by omega) (by omega))
        all_goals try dsimp only [Int.toNat_natCast] at *
        all_goals try (first | exact trivial | omega | exact And.intro (by omega) (by omega))
        · exact stop (all_stop1 (by omega) hgo (in_no (Or.inr h))) _
        · exact fin (by assumption) _
      · have f12 : ¬ (fetchF xs (rg, ra, false)).1 = 12 := ne_of h (show ¬ (9 : Int) = 12 by decide)
        have f11 : ¬ (fetchF xs (rg, ra, false)).1 = 11 := ne_of h (show ¬ (9 : Int) = 11 by decide)
        repeat' (first | with_reducible refine seq_k fun K1 n1 => ?_ | with_reducible refine seq_nil ?_ | with_reducible refine drw_k fun K1 n1 => ?_ | with_reducible refine drw_nil ?_ ?_ | with_reducible refine run_seq ?_ | with_reducible refine run_skip ?_ | with_reducible refine run_regS ?_ | with_reducible refine run_regD (by kernel_rfl) ?_ ?_ | with_reducible refine inl_k (by with_unfolding_all rfl) (Nat.le_of_ble_eq_true rfl) fun K1 n1 => ?_ | with_reducible refine inlA_k (by with_unfolding_all rfl) (Nat.le_of_ble_eq_true rfl) fun K1 n1 => ?_ | with_reducible refine run_finA ?_ | with_reducible refine run_cond ?_ | with_reducible refine run_block ?_ | with_reducible refine run_endb ?_ | with_reducible refine run_exit fun K1 n1 => ?_ | with_reducible refine run_ret fun K1 n1 => ?_ | with_reducible refine run_fin ?_ | with_reducible refine run_inv ?_ | with_reducible refine go_rounds ?_ | ((with_reducible refine Go.mk ?_); (conv => whnf)) | refine Fork.yes ?_ | refine Fork.no ?_ | refine Fork.decT (by assumption) ?_ | refine Fork.decN (by assumption) ?_ | refine Fork.dec (fun _ => ?_) (fun _ => ?_) | refine Fork.ndec (fun _ => ?_) (fun _ => ?_) | refine Fork.mk (fun _ => ?_) (fun _ => ?_) | refine Way.yesG ?_ | refine Way.noG ?_ | refine Way.decT (by assumption) ?_ | refine Way.decN (by assumption) ?_ | refine Way.decG (fun _ => ?_) (fun _ => ?_) | refine Way.ndecG (fun _ => ?_) (fun _ => ?_) | refine Way.mkG (fun _ => ?_) (fun _ => ?_) | with_reducible refine Need.mkG ?_ ?_ | refine AppW.go0 ?_ ?_ | with_reducible refine NilW.goG (fun _ => ?_) ?_ | ((with_reducible refine n1 _ _ _ ?_); clear n1 K1) | ((with_reducible refine n1 _ ?_); clear n1 K1) | ((with_reducible refine n1 _ _ ?_); clear n1 K1) | ((with_reducible refine n1 _ _ _ _ ?_); clear n1 K1) | fail)
        all_goals try (first | exact trivial | omega | kernel_rfl | decide | exact And.intro (by omega) (by omega))
        all_goals try dsimp only [Int.toNat_natCast] at *
        all_goals try (first | exact trivial | omega | exact And.intro (by omega) (by omega))
        all_goals have e9 := deep_9 (deep := deep) h ⟨hd0, hd3⟩
        · exact stop (all_stop1 (by omega) hgo (by rw [in_9 h]; exact decide_eq_false (by omega))) _
        · rename_i x0 x1 x2 x3
          rw [e9] at x3
          exfalso
          omega
        · rename_i x0 x1 x2 x3 x4
          rw [e9] at x3
          have hdd : (k + 1 < n ∧ 0 < wrap64 (deep + wrap64 (19 - wrap64 (2 * (fetchF xs (rg, ra, false)).1)))) ∨ (k + 1 = n ∧ wrap64 (deep + wrap64 (19 - wrap64 (2 * (fetchF xs (rg, ra, false)).1))) = 0) := by rw [e9]; omega
          have h3 : wrap64 (deep + wrap64 (19 - wrap64 (2 * (fetchF xs (rg, ra, false)).1))) ≤ 3 := by rw [e9]; omega
          have hin : insideF ((rg, ra, false), mm) (fetchF xs (rg, ra, false)) deep = (((rg, wd (wrap64 (ra + 1)), false), mm), wrap64 (deep + wrap64 (19 - wrap64 (2 * (fetchF xs (rg, ra, false)).1))), true) := by
            rw [in_9 h, e9, wrap_id (by omega), decide_eq_true (by omega), wd_wrap]
            rfl
          exact ⟨(k + 1, rg, wd (wrap64 (ra + 1)), false, mm, wrap64 (deep + wrap64 (19 - wrap64 (2 * (fetchF xs (rg, ra, false)).1)))), (show n - (k + 1) < n - k by omega), ⟨inv_ok (by omega) hdd h3, ⟨(by have := good_next hg1; unfold nextF at this; rw [wd_wrap]; exact this), rfl⟩, all_next (by omega) hgo hin hdd⟩, ⟨(by
            show some (SV.a (AV.of (V.leaf Ty.int (wrap64 (((k + 1 : Nat) : Int) + 1))))) = some (SV.a (AV.of (V.leaf Ty.int ((k + 1 + 1 : Nat) : Int))))
            rw [← wrap_succ (k + 1) (by omega)]), rfl, rfl, rfl, rfl, rfl, rfl, rfl, rfl, trivial⟩, rfl, 6, Nat.le_of_ble_eq_true rfl, rfl, rfl⟩
        · rename_i x0 x1 x2 x3 x4
          exact stop (all_stop2 (e := wrap64 (deep + wrap64 (19 - wrap64 (2 * (fetchF xs (rg, ra, false)).1)))) (by omega) hgo (by rw [in_9 h, e9]; exact wrap_id (by omega)) (Or.inr ⟨by omega, by rw [e9]; omega⟩)) _
        · rename_i x0 x1 x2 x3 x4
          rw [e9] at x4
          exfalso
          omega
        · exact fin (by assumption) _
      · have f9 : ¬ (fetchF xs (rg, ra, false)).1 = 9 := ne_of h (show ¬ (10 : Int) = 9 by decide)
        have f12 : ¬ (fetchF xs (rg, ra, false)).1 = 12 := ne_of h (show ¬ (10 : Int) = 12 by decide)
        have f11 : ¬ (fetchF xs (rg, ra, false)).1 = 11 := ne_of h (show ¬ (10 : Int) = 11 by decide)
        repeat' (first | with_reducible refine seq_k fun K1 n1 => ?_ | with_reducible refine seq_nil ?_ | with_reducible refine drw_k fun K1 n1 => ?_ | with_reducible refine drw_nil ?_ ?_ | with_reducible refine run_seq ?_ | with_reducible refine run_skip ?_ | with_reducible refine run_regS ?_ | with_reducible refine run_regD (by kernel_rfl) ?_ ?_ | with_reducible refine inl_k (by with_unfolding_all rfl) (Nat.le_of_ble_eq_true rfl) fun K1 n1 => ?_ | with_reducible refine inlA_k (by with_unfolding_all rfl) (Nat.le_of_ble_eq_true rfl) fun K1 n1 => ?_ | with_reducible refine run_finA ?_ | with_reducible refine run_cond ?_ | with_reducible refine run_block ?_ | with_reducible refine run_endb ?_ | with_reducible refine run_exit fun K1 n1 => ?_ | with_reducible refine run_ret fun K1 n1 => ?_ | with_reducible refine run_fin ?_ | with_reducible refine run_inv ?_ | with_reducible refine go_rounds ?_ | ((with_reducible refine Go.mk ?_); (conv => whnf)) | refine Fork.yes ?_ | refine Fork.no ?_ | refine Fork.decT (by assumption) ?_ | refine Fork.decN (by assumption) ?_ | refine Fork.dec (fun _ => ?_) (fun _ => ?_) | refine Fork.ndec (fun _ => ?_) (fun _ => ?_) | refine Fork.mk (fun _ => ?_) (fun _ => ?_) | refine Way.yesG ?_ | refine Way.noG ?_ | refine Way.decT (by assumption) ?_ | refine Way.decN (by assumption) ?_ | refine Way.decG (fun _ => ?_) (fun _ => ?_) | refine Way.ndecG (fun _ => ?_) (fun _ => ?_) | refine Way.mkG (fun _ => ?_) (fun _ => ?_) | with_reducible refine Need.mkG ?_ ?_ | refine AppW.go0 ?_ ?_ | with_reducible refine NilW.goG (fun _ => ?_) ?_ | ((with_reducible refine n1 _ _ _ ?_); clear n1 K1) | ((with_reducible refine n1 _ ?_); clear n1 K1) | ((with_reducible refine n1 _ _ ?_); clear n1 K1) | ((with_reducible refine n1 _ _ _ _ ?_); clear n1 K1) | fail)
        all_goals try (first | exact trivial | omega | kernel_rfl | decide | exact And.intro (by omega) (by omega))
        all_goals try dsimp only [Int.toNat_natCast] at *
        all_goals try (first | exact trivial | omega | exact And.intro (by omega) (by omega))
        all_goals have e10 := deep_10 (deep := deep) h ⟨hd0, hd3⟩
        · rename_i x0 x1 x2
          rw [e10] at x2
          exact stop (all_stop2 (e := wrap64 (deep + wrap64 (19 - wrap64 (2 * (fetchF xs (rg, ra, false)).1)))) (by omega) hgo (by rw [in_10 h, e10]; exact wrap_id (by omega)) (Or.inl ⟨by omega, by rw [e10]; exact x2⟩)) _
        · rename_i x0 x1 x2 x3
          rw [e10] at x2
          have hdd : (k + 1 < n ∧ 0 < wrap64 (deep + wrap64 (19 - wrap64 (2 * (fetchF xs (rg, ra, false)).1)))) ∨ (k + 1 = n ∧ wrap64 (deep + wrap64 (19 - wrap64 (2 * (fetchF xs (rg, ra, false)).1))) = 0) := by rw [e10]; omega
          have h3 : wrap64 (deep + wrap64 (19 - wrap64 (2 * (fetchF xs (rg, ra, false)).1))) ≤ 3 := by rw [e10]; omega
          have hin : insideF ((rg, ra, false), mm) (fetchF xs (rg, ra, false)) deep = (((rg, wd (wrap64 (ra + 1)), false), mm), wrap64 (deep + wrap64 (19 - wrap64 (2 * (fetchF xs (rg, ra, false)).1))), true) := by
            rw [in_10 h, e10, wrap_id (by omega), wd_wrap]
            rfl
          exact ⟨(k + 1, rg, wd (wrap64 (ra + 1)), false, mm, wrap64 (deep + wrap64 (19 - wrap64 (2 * (fetchF xs (rg, ra, false)).1)))), (show n - (k + 1) < n - k by omega), ⟨inv_ok (by omega) hdd h3, ⟨(by have := good_next hg1; unfold nextF at this; rw [wd_wrap]; exact this), rfl⟩, all_next (by omega) hgo hin hdd⟩, ⟨(by
            show some (SV.a (AV.of (V.leaf Ty.int (wrap64 (((k + 1 : Nat) : Int) + 1))))) = some (SV.a (AV.of (V.leaf Ty.int ((k + 1 + 1 : Nat) : Int))))
            rw [← wrap_succ (k + 1) (by omega)]), rfl, rfl, rfl, rfl, rfl, rfl, rfl, rfl, trivial⟩, rfl, 6, Nat.le_of_ble_eq_true rfl, rfl, rfl⟩
        · rename_i x0 x1 x2 x3
          rw [e10] at x3
          have := hkd (by omega)
          exact stop (all_stop2 (e := wrap64 (deep + wrap64 (19 - wrap64 (2 * (fetchF xs (rg, ra, false)).1)))) (by omega) hgo (by rw [in_10 h, e10]; exact wrap_id (by omega)) (Or.inr ⟨by omega, by rw [e10]; omega⟩)) _
        · rename_i x0 x1 x2 x3
          rw [e10] at x3
          have hdd : (k + 1 < n ∧ 0 < wrap64 (deep + wrap64 (19 - wrap64 (2 * (fetchF xs (rg, ra, false)).1)))) ∨ (k + 1 = n ∧ wrap64 (deep + wrap64 (19 - wrap64 (2 * (fetchF xs (rg, ra, false)).1))) = 0) := by rw [e10]; omega
          have h3 : wrap64 (deep + wrap64 (19 - wrap64 (2 * (fetchF xs (rg, ra, false)).1))) ≤ 3 := by rw [e10]; omega
          have hin : insideF ((rg, ra, false), mm) (fetchF xs (rg, ra, false)) deep = (((rg, wd (wrap64 (ra + 1)), false), mm), wrap64 (deep + wrap64 (19 - wrap64 (2 * (fetchF xs (rg, ra, false)).1))), true) := by
            rw [in_10 h, e10, wrap_id (by omega), wd_wrap]
            rfl
          exact ⟨(k + 1, rg, wd (wrap64 (ra + 1)), false, mm, wrap64 (deep + wrap64 (19 - wrap64 (2 * (fetchF xs (rg, ra, false)).1)))), (show n - (k + 1) < n - k by omega), ⟨inv_ok (by omega) hdd h3, ⟨(by have := good_next hg1; unfold nextF at this; rw [wd_wrap]; exact this), rfl⟩, all_next (by omega) hgo hin hdd⟩, ⟨(by
            show some (SV.a (AV.of (V.leaf Ty.int (wrap64 (((k + 1 : Nat) : Int) + 1))))) = some (SV.a (AV.of (V.leaf Ty.int ((k + 1 + 1 : Nat) : Int))))
            rw [← wrap_succ (k + 1) (by omega)]), rfl, rfl, rfl, rfl, rfl, rfl, rfl, rfl, trivial⟩, rfl, 6, Nat.le_of_ble_eq_true rfl, rfl, rfl⟩
        · exact fin (by assumption) _
      · have f6 : ¬ (fetchF xs (rg, ra, false)).1 = 6 := ne_of h (show ¬ (5 : Int) = 6 by decide)
        have f7 : ¬ (fetchF xs (rg, ra, false)).1 = 7 := ne_of h (show ¬ (5 : Int) = 7 by decide)
        have f10 : ¬ (fetchF xs (rg, ra, false)).1 = 10 := ne_of h (show ¬ (5 : Int) = 10 by decide)
        have f9 : ¬ (fetchF xs (rg, ra, false)).1 = 9 := ne_of h (show ¬ (5 : Int) = 9 by decide)
        have f12 : ¬ (fetchF xs (rg, ra, false)).1 = 12 := ne_of h (show ¬ (5 : Int) = 12 by decide)
        have f11 : ¬ (fetchF xs (rg, ra, false)).1 = 11 := ne_of h (show ¬ (5 : Int) = 11 by decide)
        have g5 : @LE.le Int _ 5 (fetchF xs (rg, ra, false)).1 := ge_of h (by decide)
        have g7 : @LE.le Int _ (fetchF xs (rg, ra, false)).1 7 := le_of h (by decide)
        repeat' (first | with_reducible refine seq_k fun K1 n1 => ?_ | with_reducible refine seq_nil ?_ | with_reducible refine drw_k fun K1 n1 => ?_ | with_reducible refine drw_nil ?_ ?_ | with_reducible refine run_seq ?_ | with_reducible refine run_skip ?_ | with_reducible refine run_regS ?_ | with_reducible refine run_regD (by kernel_rfl) ?_ ?_ | with_reducible refine inl_k (by with_unfolding_all rfl) (Nat.le_of_ble_eq_true rfl) fun K1 n1 => ?_ | with_reducible refine inlA_k (by with_unfolding_all rfl) (Nat.le_of_ble_eq_true rfl) fun K1 n1 => ?_ | with_reducible refine run_finA ?_ | with_reducible refine run_cond ?_ | with_reducible refine run_block ?_ | with_reducible refine run_endb ?_ | with_reducible refine run_exit fun K1 n1 => ?_ | with_reducible refine run_ret fun K1 n1 => ?_ | with_reducible refine run_fin ?_ | with_reducible refine run_inv ?_ | with_reducible refine go_rounds ?_ | ((with_reducible refine Go.mk ?_); (conv => whnf)) | refine Fork.yes ?_ | refine Fork.no ?_ | refine Fork.decT (by assumption) ?_ | refine Fork.decN (by assumption) ?_ | refine Fork.dec (fun _ => ?_) (fun _ => ?_) | refine Fork.ndec (fun _ => ?_) (fun _ => ?_) | refine Fork.mk (fun _ => ?_) (fun _ => ?_) | refine Way.yesG ?_ | refine Way.noG ?_ | refine Way.decT (by assumption) ?_ | refine Way.decN (by assumption) ?_ | refine Way.decG (fun _ => ?_) (fun _ => ?_) | refine Way.ndecG (fun _ => ?_) (fun _ => ?_) | refine Way.mkG (fun _ => ?_) (fun _ => ?_) | with_reducible refine Need.mkG ?_ ?_ | refine AppW.go0 ?_ ?_ | with_reducible refine NilW.goG (fun _ => ?_) ?_ | ((with_reducible refine n1 _ _ _ ?_); clear n1 K1) | ((with_reducible refine n1 _ ?_); clear n1 K1) | ((with_reducible refine n1 _ _ ?_); clear n1 K1) | ((with_reducible refine n1 _ _ _ _ ?_); clear n1 K1) | fail)
        all_goals try (first | exact trivial | omega | kernel_rfl | decide | exact And.intro (by omega) (by omega))
        all_goals try dsimp only [Int.toNat_natCast] at *
        all_goals try (first | exact trivial | omega | exact And.intro (by omega) (by omega))
        all_goals have hT : (fetchF xs (rg, ra, false)).1 = 5 ∨ (fetchF xs (rg, ra, false)).1 = 6 ∨ (fetchF xs (rg, ra, false)).1 = 7 := Or.inl h
        all_goals first
          | exact word_rng (by assumption)
          | exact hgr.2.2
          | exact fin (by assumption) _
          | exact stop (all_stop1 (by omega) hgo (by rw [in_touch hT]; exact touch_no (by assumption))) _
          | exact stop (all_stop2 (e := deep) (by omega) hgo (by rw [in_touch hT]) (by omega)) _
          | skip
        · have hdd : (k + 1 < n ∧ 0 < deep) ∨ (k + 1 = n ∧ deep = 0) := by omega
          have h3 : deep ≤ 3 := hd3
          have hw : wordF (rg, ra, false) (fetchF xs (rg, ra, false)) < 32 := by assumption
          have hin : insideF ((rg, ra, false), mm) (fetchF xs (rg, ra, false)) deep = ((((putF (rg, ra, false) (fetchF xs (rg, ra, false)).2.1 (mm (wordF (rg, ra, false) (fetchF xs (rg, ra, false))).toNat)).1, wd (wrap64 ((putF (rg, ra, false) (fetchF xs (rg, ra, false)).2.1 (mm (wordF (rg, ra, false) (fetchF xs (rg, ra, false))).toNat)).2.1 + 1)), (putF (rg, ra, false) (fetchF xs (rg, ra, false)).2.1 (mm (wordF (rg, ra, false) (fetchF xs (rg, ra, false))).toNat)).2.2), mm), deep, true) := by
            rw [in_touch hT]
            unfold touchF
            rw [if_pos hw, if_pos f6, if_neg (fun g => g h)]
            unfold nextF
            rw [wd_wrap]
          exact ⟨(k + 1, (putF (rg, ra, false) (fetchF xs (rg, ra, false)).2.1 (mm (wordF (rg, ra, false) (fetchF xs (rg, ra, false))).toNat)).1, wd (wrap64 ((putF (rg, ra, false) (fetchF xs (rg, ra, false)).2.1 (mm (wordF (rg, ra, false) (fetchF xs (rg, ra, false))).toNat)).2.1 + 1)), (putF (rg, ra, false) (fetchF xs (rg, ra, false)).2.1 (mm (wordF (rg, ra, false) (fetchF xs (rg, ra, false))).toNat)).2.2, mm, deep), (show n - (k + 1) < n - k by omega), ⟨inv_ok (by omega) hdd h3, ⟨(by have := good_next (good_put hg1 (fetchF xs (rg, ra, false)).2.1 (mm (wordF (rg, ra, false) (fetchF xs (rg, ra, false))).toNat)); unfold nextF at this; rw [wd_wrap]; exact this), (by show (putF (rg, ra, false) (fetchF xs (rg, ra, false)).2.1 (mm (wordF (rg, ra, false) (fetchF xs (rg, ra, false))).toNat)).2.2 = false; rw [off_put])⟩, all_next (by omega) hgo hin hdd⟩, ⟨(by
            show some (SV.a (AV.of (V.leaf Ty.int (wrap64 (((k + 1 : Nat) : Int) + 1))))) = some (SV.a (AV.of (V.leaf Ty.int ((k + 1 + 1 : Nat) : Int))))
            rw [← wrap_succ (k + 1) (by omega)]), rfl, rfl, rfl, rfl, rfl, rfl, rfl, rfl, trivial⟩, rfl, 6, Nat.le_of_ble_eq_true rfl, rfl, rfl⟩
      · have f5 : ¬ (fetchF xs (rg, ra, false)).1 = 5 := ne_of h (show ¬ (6 : Int) = 5 by decide)
        have f7 : ¬ (fetchF xs (rg, ra, false)).1 = 7 := ne_of h (show ¬ (6 : Int) = 7 by decide)
        have f10 : ¬ (fetchF xs (rg, ra, false)).1 = 10 := ne_of h (show ¬ (6 : Int) = 10 by decide)
        have f9 : ¬ (fetchF xs (rg, ra, false)).1 = 9 := ne_of h (show ¬ (6 : Int) = 9 by decide)
        have f12 : ¬ (fetchF xs (rg, ra, false)).1 = 12 := ne_of h (show ¬ (6 : Int) = 12 by decide)
        have f11 : ¬ (fetchF xs (rg, ra, false)).1 = 11 := ne_of h (show ¬ (6 : Int) = 11 by decide)
        have g5 : @LE.le Int _ 5 (fetchF xs (rg, ra, false)).1 := ge_of h (by decide)
        have g7 : @LE.le Int _ (fetchF xs (rg, ra, false)).1 7 := le_of h (by decide)
        repeat' (first | with_reducible refine seq_k fun K1 n1 => ?_ | with_reducible refine seq_nil ?_ | with_reducible refine drw_k fun K1 n1 => ?_ | with_reducible refine drw_nil ?_ ?_ | with_reducible refine run_seq ?_ | with_reducible refine run_skip ?_ | with_reducible refine run_regS ?_ | with_reducible refine run_regD (by kernel_rfl) ?_ ?_ | with_reducible refine inl_k (by with_unfolding_all rfl) (Nat.le_of_ble_eq_true rfl) fun K1 n1 => ?_ | with_reducible refine inlA_k (by with_unfolding_all rfl) (Nat.le_of_ble_eq_true rfl) fun K1 n1 => ?_ | with_reducible refine run_finA ?_ | with_reducible refine run_cond ?_ | with_reducible refine run_block ?_ | with_reducible refine run_endb ?_ | with_reducible refine run_exit fun K1 n1 => ?_ | with_reducible refine run_ret fun K1 n1 => ?_ | with_reducible refine run_fin ?_ | with_reducible refine run_inv ?_ | with_reducible refine go_rounds ?_ | ((with_reducible refine Go.mk ?_); (conv => whnf)) | refine Fork.yes ?_ | refine Fork.no ?_ | refine Fork.decT (by assumption) ?_ | refine Fork.decN (by assumption) ?_ | refine Fork.dec (fun _ => ?_) (fun _ => ?_) | refine Fork.ndec (fun _ => ?_) (fun _ => ?_) | refine Fork.mk (fun _ => ?_) (fun _ => ?_) | refine Way.yesG ?_ | refine Way.noG ?_ | refine Way.decT (by assumption) ?_ | refine Way.decN (by assumption) ?_ | refine Way.decG (fun _ => ?_) (fun _ => ?_) | refine Way.ndecG (fun _ => ?_) (fun _ => ?_) | refine Way.mkG (fun _ => ?_) (fun _ => ?_) | with_reducible refine Need.mkG ?_ ?_ | refine AppW.go0 ?_ ?_ | with_reducible refine NilW.goG (fun _ => ?_) ?_ | ((with_reducible refine n1 _ _ _ ?_); clear n1 K1) | ((with_reducible refine n1 _ ?_); clear n1 K1) | ((with_reducible refine n1 _ _ ?_); clear n1 K1) | ((with_reducible refine n1 _ _ _ _ ?_); clear n1 K1) | fail)
        all_goals try (first | exact trivial | omega | kernel_rfl | decide | exact And.intro (by omega) (by omega))
        all_goals try dsimp only [Int.toNat_natCast] at *
        all_goals try (first | exact trivial | omega | exact And.intro (by omega) (by omega))
        all_goals have hT : (fetchF xs (rg, ra, false)).1 = 5 ∨ (fetchF xs (rg, ra, false)).1 = 6 ∨ (fetchF xs (rg, ra, false)).1 = 7 := Or.inr (Or.inl h)
        all_goals first
          | exact word_rng (by assumption)
          | exact hgr.2.2
          | exact fin (by assumption) _
          | exact stop (all_stop1 (by omega) hgo (by rw [in_touch hT]; exact touch_no (by assumption))) _
          | exact stop (all_stop2 (e := deep) (by omega) hgo (by rw [in_touch hT]) (by omega)) _
          | skip
        · have hdd : (k + 1 < n ∧ 0 < deep) ∨ (k + 1 = n ∧ deep = 0) := by omega
          have h3 : deep ≤ 3 := hd3
          have hw : wordF (rg, ra, false) (fetchF xs (rg, ra, false)) < 32 := by assumption
          have hin : insideF ((rg, ra, false), mm) (fetchF xs (rg, ra, false)) deep = (((rg, wd (wrap64 (ra + 1)), false), (updA mm (wordF (rg, ra, false) (fetchF xs (rg, ra, false))).toNat (rg (Int.toNat (fetchF xs (rg, ra, false)).2.1)))), deep, true) := by
            rw [in_touch hT]
            unfold touchF
            rw [if_pos hw, if_neg (fun g => g h), if_pos f5]
            unfold nextF
            rw [wd_wrap, show getF (rg, ra, false) (fetchF xs (rg, ra, false)).2.1 = rg (Int.toNat (fetchF xs (rg, ra, false)).2.1) from if_pos hgr.2.2]
          exact ⟨(k + 1, rg, wd (wrap64 (ra + 1)), false, (updA mm (wordF (rg, ra, false) (fetchF xs (rg, ra, false))).toNat (rg (Int.toNat (fetchF xs (rg, ra, false)).2.1))), deep), (show n - (k + 1) < n - k by omega), ⟨inv_ok (by omega) hdd h3, ⟨(by have := good_next hg1; unfold nextF at this; rw [wd_wrap]; exact this), rfl⟩, all_next (by omega) hgo hin hdd⟩, ⟨(by
            show some (SV.a (AV.of (V.leaf Ty.int (wrap64 (((k + 1 : Nat) : Int) + 1))))) = some (SV.a (AV.of (V.leaf Ty.int ((k + 1 + 1 : Nat) : Int))))
            rw [← wrap_succ (k + 1) (by omega)]), rfl, rfl, rfl, rfl, rfl, rfl, rfl, rfl, trivial⟩, rfl, 6, Nat.le_of_ble_eq_true rfl, rfl, rfl⟩
      · have f5 : ¬ (fetchF xs (rg, ra, false)).1 = 5 := ne_of h (show ¬ (7 : Int) = 5 by decide)
        have f6 : ¬ (fetchF xs (rg, ra, false)).1 = 6 := ne_of h (show ¬ (7 : Int) = 6 by decide)
        have f10 : ¬ (fetchF xs (rg, ra, false)).1 = 10 := ne_of h (show ¬ (7 : Int) = 10 by decide)
        have f9 : ¬ (fetchF xs (rg, ra, false)).1 = 9 := ne_of h (show ¬ (7 : Int) = 9 by decide)
        have f12 : ¬ (fetchF xs (rg, ra, false)).1 = 12 := ne_of h (show ¬ (7 : Int) = 12 by decide)
        have f11 : ¬ (fetchF xs (rg, ra, false)).1 = 11 := ne_of h (show ¬ (7 : Int) = 11 by decide)
        have g5 : @LE.le Int _ 5 (fetchF xs (rg, ra, false)).1 := ge_of h (by decide)
        have g7 : @LE.le Int _ (fetchF xs (rg, ra, false)).1 7 := le_of h (by decide)
        repeat' (first | with_reducible refine seq_k fun K1 n1 => ?_ | with_reducible refine seq_nil ?_ | with_reducible refine drw_k fun K1 n1 => ?_ | with_reducible refine drw_nil ?_ ?_ | with_reducible refine run_seq ?_ | with_reducible refine run_skip ?_ | with_reducible refine run_regS ?_ | with_reducible refine run_regD (by kernel_rfl) ?_ ?_ | with_reducible refine inl_k (by with_unfolding_all rfl) (Nat.le_of_ble_eq_true rfl) fun K1 n1 => ?_ | with_reducible refine inlA_k (by with_unfolding_all rfl) (Nat.le_of_ble_eq_true rfl) fun K1 n1 => ?_ | with_reducible refine run_finA ?_ | with_reducible refine run_cond ?_ | with_reducible refine run_block ?_ | with_reducible refine run_endb ?_ | with_reducible refine run_exit fun K1 n1 => ?_ | with_reducible refine run_ret fun K1 n1 => ?_ | with_reducible refine run_fin ?_ | with_reducible refine run_inv ?_ | with_reducible refine go_rounds ?_ | ((with_reducible refine Go.mk ?_); (conv => whnf)) | refine Fork.yes ?_ | refine Fork.no ?_ | refine Fork.decT (by assumption) ?_ | refine Fork.decN (by assumption) ?_ | refine Fork.dec (fun _ => ?_) (fun _ => ?_) | refine Fork.ndec (fun _ => ?_) (fun _ => ?_) | refine Fork.mk (fun _ => ?_) (fun _ => ?_) | refine Way.yesG ?_ | refine Way.noG ?_ | refine Way.decT (by assumption) ?_ | refine Way.decN (by assumption) ?_ | refine Way.decG (fun _ => ?_) (fun _ => ?_) | refine Way.ndecG (fun _ => ?_) (fun _ => ?_) | refine Way.mkG (fun _ => ?_) (fun _ => ?_) | with_reducible refine Need.mkG ?_ ?_ | refine AppW.go0 ?_ ?_ | with_reducible refine NilW.goG (fun _ => ?_) ?_ | ((with_reducible refine n1 _ _ _ ?_); clear n1 K1) | ((with_reducible refine n1 _ ?_); clear n1 K1) | ((with_reducible refine n1 _ _ ?_); clear n1 K1) | ((with_reducible refine n1 _ _ _ _ ?_); clear n1 K1) | fail)
        all_goals try (first | exact trivial | omega | kernel_rfl | decide | exact And.intro (by omega) (by omega))
        all_goals try dsimp only [Int.toNat_natCast] at *
        all_goals try (first | exact trivial | omega | exact And.intro (by omega) (by omega))
        all_goals have hT : (fetchF xs (rg, ra, false)).1 = 5 ∨ (fetchF xs (rg, ra, false)).1 = 6 ∨ (fetchF xs (rg, ra, false)).1 = 7 := Or.inr (Or.inr h)
        all_goals first
          | exact word_rng (by assumption)
          | exact hgr.2.2
          | exact fin (by assumption) _
          | exact stop (all_stop1 (by omega) hgo (by rw [in_touch hT]; exact touch_no (by assumption))) _
          | exact stop (all_stop2 (e := deep) (by omega) hgo (by rw [in_touch hT]) (by omega)) _
          | skip
        · have hdd : (k + 1 < n ∧ 0 < deep) ∨ (k + 1 = n ∧ deep = 0) := by omega
          have h3 : deep ≤ 3 := hd3
          have hw : wordF (rg, ra, false) (fetchF xs (rg, ra, false)) < 32 := by assumption
          have hin : insideF ((rg, ra, false), mm) (fetchF xs (rg, ra, false)) deep = ((((putF (rg, ra, false) (fetchF xs (rg, ra, false)).2.1 (mm (wordF (rg, ra, false) (fetchF xs (rg, ra, false))).toNat)).1, wd (wrap64 ((putF (rg, ra, false) (fetchF xs (rg, ra, false)).2.1 (mm (wordF (rg, ra, false) (fetchF xs (rg, ra, false))).toNat)).2.1 + 1)), (putF (rg, ra, false) (fetchF xs (rg, ra, false)).2.1 (mm (wordF (rg, ra, false) (fetchF xs (rg, ra, false))).toNat)).2.2), (updA mm (wordF (rg, ra, false) (fetchF xs (rg, ra, false))).toNat (rg (Int.toNat (fetchF xs (rg, ra, false)).2.1)))), deep, true) := by
            rw [in_touch hT]
            unfold touchF
            rw [if_pos hw, if_pos f6, if_pos f5]
            unfold nextF
            rw [wd_wrap, show getF (rg, ra, false) (fetchF xs (rg, ra, false)).2.1 = rg (Int.toNat (fetchF xs (rg, ra, false)).2.1) from if_pos hgr.2.2]
          exact ⟨(k + 1, (putF (rg, ra, false) (fetchF xs (rg, ra, false)).2.1 (mm (wordF (rg, ra, false) (fetchF xs (rg, ra, false))).toNat)).1, wd (wrap64 ((putF (rg, ra, false) (fetchF xs (rg, ra, false)).2.1 (mm (wordF (rg, ra, false) (fetchF xs (rg, ra, false))).toNat)).2.1 + 1)), (putF (rg, ra, false) (fetchF xs (rg, ra, false)).2.1 (mm (wordF (rg, ra, false) (fetchF xs (rg, ra, false))).toNat)).2.2, (updA mm (wordF (rg, ra, false) (fetchF xs (rg, ra, false))).toNat (rg (Int.toNat (fetchF xs (rg, ra, false)).2.1))), deep), (show n - (k + 1) < n - k by omega), ⟨inv_ok (by omega) hdd h3, ⟨(by have := good_next (good_put hg1 (fetchF xs (rg, ra, false)).2.1 (mm (wordF (rg, ra, false) (fetchF xs (rg, ra, false))).toNat)); unfold nextF at this; rw [wd_wrap]; exact this), (by show (putF (rg, ra, false) (fetchF xs (rg, ra, false)).2.1 (mm (wordF (rg, ra, false) (fetchF xs (rg, ra, false))).toNat)).2.2 = false; rw [off_put])⟩, all_next (by omega) hgo hin hdd⟩, ⟨(by
            show some (SV.a (AV.of (V.leaf Ty.int (wrap64 (((k + 1 : Nat) : Int) + 1))))) = some (SV.a (AV.of (V.leaf Ty.int ((k + 1 + 1 : Nat) : Int))))
            rw [← wrap_succ (k + 1) (by omega)]), rfl, rfl, rfl, rfl, rfl, rfl, rfl, rfl, trivial⟩, rfl, 6, Nat.le_of_ble_eq_true rfl, rfl, rfl⟩
      · have f10 : ¬ (fetchF xs (rg, ra, false)).1 = 10 := nel_of h (by decide)
        have f9 : ¬ (fetchF xs (rg, ra, false)).1 = 9 := nel_of h (by decide)
        have f12 : ¬ (fetchF xs (rg, ra, false)).1 = 12 := nel_of h (by decide)
        have f11 : ¬ (fetchF xs (rg, ra, false)).1 = 11 := nel_of h (by decide)
        have g5 : ¬ @LE.le Int _ 5 (fetchF xs (rg, ra, false)).1 := ngl_of h
        repeat' (first | with_reducible refine seq_k fun K1 n1 => ?_ | with_reducible refine seq_nil ?_ | with_reducible refine drw_k fun K1 n1 => ?_ | with_reducible refine drw_nil ?_ ?_ | with_reducible refine run_seq ?_ | with_reducible refine run_skip ?_ | with_reducible refine run_regS ?_ | with_reducible refine run_regD (by kernel_rfl) ?_ ?_ | with_reducible refine inl_k (by with_unfolding_all rfl) (Nat.le_of_ble_eq_true rfl) fun K1 n1 => ?_ | with_reducible refine inlA_k (by with_unfolding_all rfl) (Nat.le_of_ble_eq_true rfl) fun K1 n1 => ?_ | with_reducible refine run_finA ?_ | with_reducible refine run_cond ?_ | with_reducible refine run_block ?_ | with_reducible refine run_endb ?_ | with_reducible refine run_exit fun K1 n1 => ?_ | with_reducible refine run_ret fun K1 n1 => ?_ | with_reducible refine run_fin ?_ | with_reducible refine run_inv ?_ | with_reducible refine go_rounds ?_ | ((with_reducible refine Go.mk ?_); (conv => whnf)) | refine Fork.yes ?_ | refine Fork.no ?_ | refine Fork.decT (by assumption) ?_ | refine Fork.decN (by assumption) ?_ | refine Fork.dec (fun _ => ?_) (fun _ => ?_) | refine Fork.ndec (fun _ => ?_) (fun _ => ?_) | refine Fork.mk (fun _ => ?_) (fun _ => ?_) | refine Way.yesG ?_ | refine Way.noG ?_ | refine Way.decT (by assumption) ?_ | refine Way.decN (by assumption) ?_ | refine Way.decG (fun _ => ?_) (fun _ => ?_) | refine Way.ndecG (fun _ => ?_) (fun _ => ?_) | refine Way.mkG (fun _ => ?_) (fun _ => ?_) | with_reducible refine Need.mkG ?_ ?_ | refine AppW.go0 ?_ ?_ | with_reducible refine NilW.goG (fun _ => ?_) ?_ | ((with_reducible refine n1 _ _ _ ?_); clear n1 K1) | ((with_reducible refine n1 _ ?_); clear n1 K1) | ((with_reducible refine n1 _ _ ?_); clear n1 K1) | ((with_reducible refine n1 _ _ _ _ ?_); clear n1 K1) | fail)
        all_goals try (first | exact trivial | omega | kernel_rfl | decide | exact And.intro (by omega) (by omega))
        all_goals try dsimp only [Int.toNat_natCast] at *
        all_goals try (first | exact trivial | omega | exact And.intro (by omega) (by omega))
        all_goals have hin : insideF ((rg, ra, false), mm) (fetchF xs (rg, ra, false)) deep = (((aloneF (rg, ra, false) (fetchF xs (rg, ra, false))).1, mm), deep, true) := in_alone hgi hg1 rfl (Or.inl h)
        all_goals first
          | exact fin (by assumption) _
          | exact stop (all_stop2 (e := deep) (by omega) hgo (by rw [hin]) (by omega)) _
          | skip
        · have hdd : (k + 1 < n ∧ 0 < deep) ∨ (k + 1 = n ∧ deep = 0) := by omega
          have h3 : deep ≤ 3 := hd3
          have hga := good_alone hg1 hgi f12 rfl
          exact ⟨(k + 1, (aloneF (rg, ra, false) (fetchF xs (rg, ra, false))).1.1, (aloneF (rg, ra, false) (fetchF xs (rg, ra, false))).1.2.1, (aloneF (rg, ra, false) (fetchF xs (rg, ra, false))).1.2.2, mm, deep), (show n - (k + 1) < n - k by omega), ⟨inv_ok (by omega) hdd h3, ⟨hga.1, hga.2⟩, all_next (by omega) hgo hin hdd⟩, ⟨(by
            show some (SV.a (AV.of (V.leaf Ty.int (wrap64 (((k + 1 : Nat) : Int) + 1))))) = some (SV.a (AV.of (V.leaf Ty.int ((k + 1 + 1 : Nat) : Int))))
            rw [← wrap_succ (k + 1) (by omega)]), rfl, rfl, rfl, rfl, rfl, rfl, rfl, rfl, trivial⟩, rfl, 6, Nat.le_of_ble_eq_true rfl, rfl, rfl⟩
      · have f10 : ¬ (fetchF xs (rg, ra, false)).1 = 10 := ne_of h (show ¬ (8 : Int) = 10 by decide)
        have f9 : ¬ (fetchF xs (rg, ra, false)).1 = 9 := ne_of h (show ¬ (8 : Int) = 9 by decide)
        have f12 : ¬ (fetchF xs (rg, ra, false)).1 = 12 := ne_of h (show ¬ (8 : Int) = 12 by decide)
        have f11 : ¬ (fetchF xs (rg, ra, false)).1 = 11 := ne_of h (show ¬ (8 : Int) = 11 by decide)
        have g5 : @LE.le Int _ 5 (fetchF xs (rg, ra, false)).1 := ge_of h (by decide)
        have g7 : ¬ @LE.le Int _ (fetchF xs (rg, ra, false)).1 7 := nle_of h (by decide)
        repeat' (first | with_reducible refine seq_k fun K1 n1 => ?_ | with_reducible refine seq_nil ?_ | with_reducible refine drw_k fun K1 n1 => ?_ | with_reducible refine drw_nil ?_ ?_ | with_reducible refine run_seq ?_ | with_reducible refine run_skip ?_ | with_reducible refine run_regS ?_ | with_reducible refine run_regD (by kernel_rfl) ?_ ?_ | with_reducible refine inl_k (by with_unfolding_all rfl) (Nat.le_of_ble_eq_true rfl) fun K1 n1 => ?_ | with_reducible refine inlA_k (by with_unfolding_all rfl) (Nat.le_of_ble_eq_true rfl) fun K1 n1 => ?_ | with_reducible refine run_finA ?_ | with_reducible refine run_cond ?_ | with_reducible refine run_block ?_ | with_reducible refine run_endb ?_ | with_reducible refine run_exit fun K1 n1 => ?_ | with_reducible refine run_ret fun K1 n1 => ?_ | with_reducible refine run_fin ?_ | with_reducible refine run_inv ?_ | with_reducible refine go_rounds ?_ | ((with_reducible refine Go.mk ?_); (conv => whnf)) | refine Fork.yes ?_ | refine Fork.no ?_ | refine Fork.decT (by assumption) ?_ | refine Fork.decN (by assumption) ?_ | refine Fork.dec (fun _ => ?_) (fun _ => ?_) | refine Fork.ndec (fun _ => ?_) (fun _ => ?_) | refine Fork.mk (fun _ => ?_) (fun _ => ?_) | refine Way.yesG ?_ | refine Way.noG ?_ | refine Way.decT (by assumption) ?_ | refine Way.decN (by assumption) ?_ | refine Way.decG (fun _ => ?_) (fun _ => ?_) | refine Way.ndecG (fun _ => ?_) (fun _ => ?_) | refine Way.mkG (fun _ => ?_) (fun _ => ?_) | with_reducible refine Need.mkG ?_ ?_ | refine AppW.go0 ?_ ?_ | with_reducible refine NilW.goG (fun _ => ?_) ?_ | ((with_reducible refine n1 _ _ _ ?_); clear n1 K1) | ((with_reducible refine n1 _ ?_); clear n1 K1) | ((with_reducible refine n1 _ _ ?_); clear n1 K1) | ((with_reducible refine n1 _ _ _ _ ?_); clear n1 K1) | fail)
        all_goals try (first | exact trivial | omega | kernel_rfl | decide | exact And.intro (by omega) (by omega))
        all_goals try dsimp only [Int.toNat_natCast] at *
        all_goals try (first | exact trivial | omega | exact And.intro (by omega) (by omega))
        all_goals have hin : insideF ((rg, ra, false), mm) (fetchF xs (rg, ra, false)) deep = (((aloneF (rg, ra, false) (fetchF xs (rg, ra, false))).1, mm), deep, true) := in_alone hgi hg1 rfl (Or.inr h)
        all_goals first
          | exact fin (by assumption) _
          | exact stop (all_stop2 (e := deep) (by omega) hgo (by rw [hin]) (by omega)) _
          | skip
        · have hdd : (k + 1 < n ∧ 0 < deep) ∨ (k + 1 = n ∧ deep = 0) := by omega
          have h3 : deep ≤ 3 := hd3
          have hga := good_alone hg1 hgi f12 rfl
          exact ⟨(k + 1, (aloneF (rg, ra, false) (fetchF xs (rg, ra, false))).1.1, (aloneF (rg, ra, false) (fetchF xs (rg, ra, false))).1.2.1, (aloneF (rg, ra, false) (fetchF xs (rg, ra, false))).1.2.2, mm, deep), (show n - (k + 1) < n - k by omega), ⟨inv_ok (by omega) hdd h3, ⟨hga.1, hga.2⟩, all_next (by omega) hgo hin hdd⟩, ⟨(by
            show some (SV.a (AV.of (V.leaf Ty.int (wrap64 (((k + 1 : Nat) : Int) + 1))))) = some (SV.a (AV.of (V.leaf Ty.int ((k + 1 + 1 : Nat) : Int))))
            rw [← wrap_succ (k + 1) (by omega)]), rfl, rfl, rfl, rfl, rfl, rfl, rfl, rfl, trivial⟩, rfl, 6, Nat.le_of_ble_eq_true rfl, rfl, rfl⟩
end Go.Proofs.Ytjbbgpacijageaa.M
