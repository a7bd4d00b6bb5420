/- What One keeps; PlainOnly. -/
import Derived.Test.YtjbbgpacijageaaY4
import Derived.Test.YtjbbgpacijageaaSymK
namespace Go.Proofs.Ytjbbgpacijageaa
open Go.RowKit
set_option linter.unusedVariables false
set_option linter.unusedSimpArgs false

theorem isW_zero : isW 0 = true := by decide
theorem get_isW (p : Pl) (h : goodP p = true) (r : Int) : isW (get p r) = true := by
  unfold get
  split
  · rename_i hr
    unfold goodP at h
    simp only [Bool.and_eq_true, beq_iff_eq] at h
    obtain ⟨⟨⟨⟨⟨⟨⟨⟨h0, h1⟩, h2⟩, h3⟩, h4⟩, h5⟩, h6⟩, h7⟩, h8⟩ := h
    rcases reg_cases r hr with rfl | rfl | rfl | rfl | rfl | rfl | rfl | rfl
    · show isW (p.r 0) = true; rw [h0]; exact isW_zero
    all_goals assumption
  · exact isW_zero
theorem goodM_at {m : Nat → Int} (h : goodM m = true) {k : Nat} (hk : k < 32) : isW (m k) = true := List.all_eq_true.1 h k (by simpa using hk)
theorem goodM_upd {m : Nat → Int} (h : goodM m = true) (k : Nat) {v : Int} (hv : isW v = true) : goodM (upd m k v) = true := by
  refine List.all_eq_true.2 fun j hj => ?_
  unfold upd
  split
  · exact hv
  · exact goodM_at h (by simpa using hj)

theorem done_keeps (p : Pl) (m : Nat → Int) (i : In) (hp : goodP p = true) (hm : goodM m = true) (h : (doneF p m i).2.2 = true) :
    goodP (doneF p m i).1 = true ∧ goodM (doneF p m i).2.1 = true ∧ ∀ k, (doneF p m i).2.1 k = m k ∨ (word p i < 32 ∧ k = (word p i).toNat ∧ (i.op = 6 ∨ i.op = 7)) := by
  unfold doneF at *
  split
  · rename_i ho
    split
    · rename_i hw
      refine ⟨?_, ?_, fun k => ?_⟩
      · unfold tP
        refine goodP_next _ ?_
        split
        · exact hp
        · exact goodP_put _ _ _ hp
      · show goodM (tM p m i) = true
        unfold tM
        split
        · exact hm
        · exact goodM_upd hm _ (get_isW p hp _)
      · show tM p m i k = m k ∨ _
        unfold tM
        split
        · exact Or.inl rfl
        · by_cases hk : k = (word p i).toNat
          · exact Or.inr ⟨hw, hk, by omega⟩
          · left; unfold upd; rw [if_neg hk]
    · rename_i hw
      rw [if_pos ho, if_neg hw] at h
      cases h
  · rename_i ho
    rw [if_neg ho] at h
    have he : (alone p i).2 = 0 := by simpa using h
    exact ⟨(alone_ok p i (alone p i).1 (by rw [← he]) 0).1, hm, fun k => Or.inl rfl⟩

theorem one_keeps (l : List In) (p : Pl) (m : Nat → Int) (h : (oneF l p m).2.2 = 0) :
    goodP (oneF l p m).1 = true ∧ goodM (oneF l p m).2.1 = true ∧ ∀ k, (oneF l p m).2.1 k = m k ∨ (word p (fetch l p) < 32 ∧ k = (word p (fetch l p)).toNat ∧ ((fetch l p).op = 6 ∨ (fetch l p).op = 7)) := by
  unfold oneF at *
  by_cases h1 : goodM m = false
  · rw [if_pos h1] at h; cases h
  by_cases h2 : goodP p = false
  · rw [if_neg h1, if_pos h2] at h; cases h
  by_cases h3 : p.o = true
  · rw [if_neg h1, if_neg h2, if_pos h3] at h; cases h
  by_cases h4 : (fetch l p).op = 9
  · rw [if_neg h1, if_neg h2, if_neg h3, if_pos h4] at h; cases h
  rw [if_neg h1, if_neg h2, if_neg h3, if_neg h4]
  have hm : goodM m = true := by simpa using h1
  have hp : goodP p = true := by simpa using h2
  by_cases h5 : (doneF p m (fetch l p)).2.2 = true
  · rw [if_pos h5]; exact done_keeps p m _ hp hm h5
  · rw [if_neg h5]; exact ⟨hp, hm, fun k => Or.inl rfl⟩

theorem one_err (l : List In) (p : Pl) (m : Nat → Int) (h : (oneF l p m).2.2 ≠ 0) : oneF l p m = (p, m, (oneF l p m).2.2) := by
  unfold oneF at *
  by_cases h1 : goodM m = false
  · simp [h1]
  by_cases h2 : goodP p = false
  · simp [h1, h2]
  by_cases h3 : p.o = true
  · simp [h1, h2, h3]
  by_cases h4 : (fetch l p).op = 9
  · simp [h1, h2, h3, h4]
  rw [if_neg h1, if_neg h2, if_neg h3, if_neg h4] at h
  split at h <;> simp at h

set_option maxHeartbeats 4000000 in
theorem w_PlainOnly_err (v : Value) (l : List In) (p : Pl) (m : Nat → Int) (n : Int) (w : World) (hl : Lst w v l) (he : (oneF l p m).2.2 ≠ 0) :
    Calls Try.prog 10 #[v, .agg (pc p), .agg (mc m), .int .i64 n] w fun e w' => e = .returned (.bool true) ∧ Below w.heap.size w w' := by
  refine sym_calls tabOk Try.func10 rfl [.v v, .a [.pl p], .a [.mem m], .v (.int .i64 n)] w _ (Nat.le_of_ble_eq_true rfl) ?_
  refine Exists.intro (.tup [.a [.pl p], .a [.mem m], .v (.int .i64 (oneF l p m).2.2)]) (Exists.intro _ (And.intro (fun _ _ => And.intro rfl trivial) (And.intro (fun A x hx => by have h := c_One v l p m x (hl.below hx.below); rw [one_err l p m he] at h; exact h) ?_)))
  refine And.intro (fun _ => ?_) (fun h => ?_)
  · refine Exists.intro (.v (.bool true)) (And.intro (fun ρ x hρ _ => hand_eqP (hρ (.tmp 30) (.a [.pl p]) rfl) (hρ (.tmp 31) (.a [.pl p]) rfl)) ?_)
    refine And.intro (fun _ => ?_) (fun h => by cases h)
    refine Exists.intro (.v (.bool true)) (And.intro (fun ρ x hρ _ => hand_eqM (hρ (.tmp 34) (.a [.mem m]) rfl) (hρ (.tmp 35) (.a [.mem m]) rfl)) ?_)
    refine And.intro (fun _ => ?_) (fun h => by cases h)
    refine Exists.intro (.l (.v (.bool true))) (Exists.intro _ (And.intro (fun _ _ => And.intro rfl trivial) (And.intro (fun A x hx => c_runsKeep x) ?_)))
    exact rfl
  · have h1 : ((oneF l p m).2.2 != 0) = false := h
    exact absurd (by simpa using h1) he

set_option maxHeartbeats 4000000 in
theorem w_PlainOnly_ok (v : Value) (l : List In) (p : Pl) (m : Nat → Int) (n : Int) (w : World) (hl : Lst w v l) (he : (oneF l p m).2.2 = 0) (q : Pl) (y : Nat → Int) (hq : (oneF l p m).1 = q) (hy : (oneF l p m).2.1 = y) (i : In) (hi : fetch l p = i) (b : Bool) (hb : decide (word p i < 32) = b) :
    Calls Try.prog 10 #[v, .agg (pc p), .agg (mc m), .int .i64 n] w fun e w' => e = .returned (.bool true) ∧ Below w.heap.size w w' := by
  obtain ⟨k1, k2, k3⟩ := one_keeps l p m he
  rw [hq] at k1
  rw [hy] at k2 k3
  rw [hi] at k3
  refine sym_calls tabOk Try.func10 rfl [.v v, .a [.pl p], .a [.mem m], .v (.int .i64 n)] w _ (Nat.le_of_ble_eq_true rfl) ?_
  have hGP : ∀ x, Calls Try.prog 19 #[.agg (pc q)] x fun e w' => e = .returned (.bool true) ∧ Below x.heap.size x w' := fun x => by have h := c_GoodPlain q x; rw [k1] at h; exact h
  have hGM : ∀ x, Calls Try.prog 42 #[.agg (mc y)] x fun e w' => e = .returned (.bool true) ∧ Below x.heap.size x w' := fun x => by have h := c_plainGood y x; rw [k2] at h; exact h
  refine seq_k fun K1 n1 _ _ => ?_
  conv => whnf
  refine n1 _ _ ?_
  refine seq_k fun K2 n2 _ _ => ?_
  conv => whnf
  refine Exists.intro (.tup [.a [.pl q], .a [.mem y], .v (.int .i64 0)]) (Exists.intro _ (And.intro (fun _ _ => And.intro rfl trivial) (And.intro (fun A x hx => by have h := c_One v l p m x (hl.below hx.below); rw [he, hq, hy] at h; exact h) ?_)))
  conv => whnf
  refine n2 _ _ ?_
  refine seq_k fun K3 n3 _ _ => ?_
  refine seq_k fun K4 n4 _ _ => ?_
  conv => whnf
  refine And.intro (fun h => by cases h) (fun _ => ?_)
  conv => whnf
  refine Exists.intro (.l (.v (.bool true))) (Exists.intro _ (And.intro (fun _ _ => And.intro rfl trivial) (And.intro (fun A x hx => c_runsKeep x) ?_)))
  conv => whnf
  refine And.intro (fun h => by cases h) (fun _ => ?_)
  conv => whnf
  refine n4 _ _ ?_
  conv => whnf
  refine n3 _ _ ?_
  refine seq_k fun K5 n5 _ _ => ?_
  conv => whnf
  refine Exists.intro (.l (.a [.ins i])) (Exists.intro _ (And.intro (fun _ _ => And.intro rfl trivial) (And.intro (fun A x hx => by have h := c_Fetch v l p x (hl.below hx.below); rw [hi] at h; exact h) ?_)))
  conv => whnf
  refine n5 _ _ ?_
  refine seq_k fun K6 n6 _ _ => ?_
  conv => whnf
  refine Exists.intro (.tup [.v (.int .i64 (word p i)), .v (.bool b)]) (Exists.intro _ (And.intro (fun _ _ => And.intro rfl trivial) (And.intro (fun A x hx => by have h := c_Word p i x; rw [hb] at h; exact h) ?_)))
  conv => whnf
  refine n6 _ _ ?_
  refine seq_k fun K7 n7 _ _ => ?_
  conv => whnf
  refine Exists.intro [] (Exists.intro [] (And.intro (by kernel_rfl) ?_))
  conv => whnf
  refine And.intro (fun h1 => ?_) (fun h1 => ?_)
  · skip
    conv => whnf
    refine n7 _ _ ?_
    refine seq_k fun K8 n8 _ _ => ?_
    conv => whnf
    refine Exists.intro (.l (.v (.bool true))) (Exists.intro _ (And.intro (fun _ _ => And.intro rfl trivial) (And.intro (fun A x hx => hGP x) ?_)))
    conv => whnf
    refine Exists.intro (.l (.v (.bool true))) (Exists.intro _ (And.intro (fun _ _ => And.intro rfl trivial) (And.intro (fun A x hx => hGM x) ?_)))
    conv => whnf
    refine n8 _ _ ?_
    exact rfl
  · have n0 : ¬ n < 0 := by have : decide (n < 0) = false := h1; simpa using this
    conv => whnf
    refine And.intro (fun h2 => ?_) (fun h2 => ?_)
    · skip
      conv => whnf
      refine n7 _ _ ?_
      refine seq_k fun K8 n8 _ _ => ?_
      conv => whnf
      refine Exists.intro (.l (.v (.bool true))) (Exists.intro _ (And.intro (fun _ _ => And.intro rfl trivial) (And.intro (fun A x hx => hGP x) ?_)))
      conv => whnf
      refine Exists.intro (.l (.v (.bool true))) (Exists.intro _ (And.intro (fun _ _ => And.intro rfl trivial) (And.intro (fun A x hx => hGM x) ?_)))
      conv => whnf
      refine n8 _ _ ?_
      exact rfl
    · have n1 : ¬ n ≥ 32 := by have : decide (n ≥ 32) = false := h2; simpa using this
      have hj : n.toNat < 32 := by omega
      conv => whnf
      refine Exists.intro n.toNat (And.intro (by omega) (And.intro hj ?_))
      conv => whnf
      refine And.intro hj ?_
      conv => whnf
      refine Exists.intro n.toNat (And.intro (by omega) (And.intro hj ?_))
      conv => whnf
      refine And.intro hj ?_
      conv => whnf
      refine And.intro (fun h3 => ?_) (fun h3 => ?_)
      · skip
        conv => whnf
        refine n7 _ _ ?_
        refine seq_k fun K8 n8 _ _ => ?_
        conv => whnf
        refine Exists.intro (.l (.v (.bool true))) (Exists.intro _ (And.intro (fun _ _ => And.intro rfl trivial) (And.intro (fun A x hx => hGP x) ?_)))
        conv => whnf
        refine Exists.intro (.l (.v (.bool true))) (Exists.intro _ (And.intro (fun _ _ => And.intro rfl trivial) (And.intro (fun A x hx => hGM x) ?_)))
        conv => whnf
        refine n8 _ _ ?_
        exact rfl
      · have h4 : (y n.toNat == m n.toNat) = false := h3
        rcases k3 n.toNat with hk | ⟨hw, hk, hop⟩
        · rw [hk] at h4; simp at h4
        obtain rfl : b = true := by rw [← hb]; simp [hw]
        have hlo : 0 ≤ word p i := wd_lo _
        conv => whnf
        refine n7 _ _ ?_
        refine seq_k fun K8 n8 _ _ => ?_
        conv => whnf
        refine Exists.intro (.l (.v (.bool true))) (Exists.intro _ (And.intro (fun _ _ => And.intro rfl trivial) (And.intro (fun A x hx => hGP x) ?_)))
        conv => whnf
        refine Exists.intro (.l (.v (.bool true))) (Exists.intro _ (And.intro (fun _ _ => And.intro rfl trivial) (And.intro (fun A x hx => hGM x) ?_)))
        conv => whnf
        refine And.intro (fun _ => ?_) (fun h => ?_)
        · conv => whnf
          refine And.intro (fun _ => ?_) (fun h => ?_)
          · conv => whnf
            refine n8 _ _ ?_
            exact rfl
          · conv => whnf
            refine And.intro (fun _ => ?_) (fun h' => ?_)
            · conv => whnf
              refine n8 _ _ ?_
              exact rfl
            · have e6 : (i.op == 6) = false := h
              have e7 : (i.op == 7) = false := h'
              simp at e6 e7
              omega
        · have : (n == word p i) = false := h
          simp at this
          omega

theorem w_PlainOnly (v : Value) (l : List In) (p : Pl) (m : Nat → Int) (n : Int) (w : World) (hl : Lst w v l) (_ : l.length * 40 ≤ 140737488355328) :
    Calls Try.prog 10 #[v, .agg (pc p), .agg (mc m), .int .i64 n] w fun e w' => e = .returned (.bool true) ∧ Below w.heap.size w w' := by
  by_cases he : (oneF l p m).2.2 = 0
  · exact w_PlainOnly_ok v l p m n w hl he _ _ rfl rfl _ rfl _ rfl
  · exact w_PlainOnly_err v l p m n w hl he

end Go.Proofs.Ytjbbgpacijageaa
