/- The document's own step of a desk: a word touched inside of a transaction. -/
import Derived.Test.YtjbbgpacijageacGreatSO2
namespace Go.Proofs.YtjbbgpacijageacGreat.M
open Go.RowKit
set_option linter.unusedVariables false
set_option linter.unusedSimpArgs false

theorem atW_hit {ws : List writeT.D} (hg : goodWs ws = true) {k : Nat} (hk : k < ws.length) {word : Int} (h : (nthD writeT ws k).1 = word) : atW (ws.take (k + 1)) word = (k : Int) := by
  refine atW_some (by rw [List.length_take]; omega) ?_ fun j hj => ?_
  · rw [nth_take (Nat.lt_succ_self k)]
    exact h
  · rw [nth_take (by omega), ← h]
    exact (((ws_iff ws).1 hg).2 k hk).2 j hj
theorem atW_miss {ws : List writeT.D} {k : Nat} (hk : k < ws.length) {word : Int} (h : ¬ (nthD writeT ws k).1 = word) : atW (ws.take (k + 1)) word = atW (ws.take k) word := by
  by_cases hn : atW (ws.take k) word < 0
  · have h1 : ∀ j, j < (ws.take (k + 1)).length → (nthD writeT (ws.take (k + 1)) j).1 ≠ word := fun j hj => by
      rw [List.length_take] at hj
      rw [nth_take (by omega)]
      by_cases e : j = k
      · rw [e]
        exact h
      · have := (atW_neg _ _).1 hn j (by rw [List.length_take]; omega)
        rwa [nth_take (by omega)] at this
    have h2 : ∀ j, j < (ws.take k).length → (nthD writeT (ws.take k) j).1 ≠ word := (atW_neg _ _).1 hn
    rw [atW_none h1, atW_none h2]
  · unfold atW
    have : ws.take (k + 1) = ws.take k ++ [ws[k]] := by rw [List.take_succ_eq_append_getElem hk]
    rw [this, List.findIdx?_append]
    unfold atW at hn
    split at hn
    · rename_i m hm
      rw [hm]
      rfl
    · exact absurd (by decide) hn
theorem word_line {word : Int} (hw : 0 ≤ word ∧ word < 32) : (0 ≤ lineOf word ∧ lineOf word < 16) ∧ wrap64 ((lineOf word).tmod 4) = (lineOf word).tmod 4 ∧ (0 ≤ (lineOf word).tmod 4 ∧ (lineOf word).tmod 4 < 4) := by
  obtain ⟨w, rfl⟩ : ∃ w : Nat, word = (w : Int) := ⟨word.toNat, by omega⟩
  rw [lineOf_nat (by omega)]
  refine ⟨by omega, ?_, ?_⟩
  · rw [Int.tmod_eq_emod_of_nonneg (by omega)]
    exact wrap_id (by omega)
  · rw [Int.tmod_eq_emod_of_nonneg (by omega)]
    omega
theorem room_eq {D : deskT.D} {c : Int} (hg : goodK D = true) (hc : 0 ≤ c ∧ c < 2) {i : instrT.D} {word : Int} (hw : 0 ≤ word ∧ word < 32) : roomF D c i word = true ↔ atW (wsOf D c) word < 0 ∧ ((¬ i.1 = 6 ∧ ((D.1 c.toNat).2.1 (wayOf (lineOf word))).2.2.2 = true ∧ ¬ ((D.1 c.toNat).2.1 (wayOf (lineOf word))).2.1 = lineOf word) ∨ (¬ i.1 = 5 ∧ ((wsOf D c).length : Int) = 4)) := by
  have hl := (word_line hw).1
  unfold roomF
  rw [find_eq hc hl]
  by_cases h0 : 0 ≤ atW (wsOf D c) word
  · rw [if_pos h0]
    exact ⟨(fun h => by cases h), fun h => absurd h0 (Int.not_le.2 h.1)⟩
  · rw [if_neg h0]
    have key : ((D.1 c.toNat).2.1 (wayOf (lineOf word))).2.2.2 = true → (hasL (lineAt D c.toNat (wayOf (lineOf word))) (lineOf word) = false ↔ ¬ ((D.1 c.toNat).2.1 (wayOf (lineOf word))).2.1 = lineOf word) := fun hr => by
      have hz : ((D.1 c.toNat).2.1 (wayOf (lineOf word))).1 ≠ 0 := good_nz (goodK_D hg) c.toNat (wayOf (lineOf word)) (by omega) (way_lt4 hl) hr
      show decide (_ ∧ _) = false ↔ _
      rw [decide_eq_false_iff_not]
      exact ⟨fun h e => h ⟨hz, e⟩, fun h e => h e.2⟩
    by_cases hA : ¬ i.1 = 6 ∧ ((D.1 c.toNat).2.1 (wayOf (lineOf word))).2.2.2 = true ∧ ¬ ((D.1 c.toNat).2.1 (wayOf (lineOf word))).2.1 = lineOf word
    · rw [if_pos ⟨hA.1, (key hA.2.1).2 hA.2.2, hA.2.1⟩]
      exact ⟨fun _ => ⟨Int.not_le.1 h0, Or.inl hA⟩, fun _ => rfl⟩
    · rw [if_neg (fun h => hA ⟨h.1, h.2.2, (key h.2.2).1 h.2.1⟩), decide_eq_true_iff]
      exact ⟨fun h => ⟨Int.not_le.1 h0, Or.inr h⟩, fun h => h.2.resolve_left hA⟩
theorem in_yes {D : deskT.D} {l : progsT.D} {c : Int} {i : instrT.D} {word : Int} (h : roomF D c i word = true) : inF 0 D l c i word = failD D l c 1002 := if_pos h
theorem in_no {D : deskT.D} {l : progsT.D} {c : Int} {i : instrT.D} {word : Int} (h : ¬ roomF D c i word = true) : inF 0 D l c i word = onF (keptF 0 (seenF D c i word) c i word (getF (D.1 c.toNat).1 i.2.1)) c := if_neg h
theorem hold_end {t0 t1 t2 : Ty} {v0 : t0.D} {v1 : t1.D} {v2 : t2.D} {s0 : Ty} {u0 : s0.D} {l : progsT.D} {n : Nat} {K : SV → List V → NS → Prop} {X : deskT.D → Rec → Prop} (h : ∀ n' H' D' R', n ≤ n' → X D' R' → K (.tup []) [.leaf t0 v0, .leaf t1 v1, .leaf t2 v2, .leaf workT (D', l, (H', R')), .leaf s0 u0] ⟨n', []⟩) {v : V} {junk : List V} {n' : Nat} {tk' : List (Hd × Nat)} {D' : deskT.D} {H' : Hd} {R' : Rec} (hv : v.norm = .leaf workT (D', l, (H', R'))) (hx : X D' R') (hn : n ≤ n') :
    LaxE 5 K (.tup []) (.leaf t0 v0 :: .leaf t1 v1 :: .leaf t2 v2 :: v :: .leaf s0 u0 :: junk) ⟨n', tk'⟩ := by
  refine LaxE.mk' 5 n' [] (Nat.le_refl _) (by simp only [List.length_cons]; omega) rfl (Nat.le_refl _) (TkLe.nil _) ?_
  show K _ [.leaf t0 v0, .leaf t1 v1, .leaf t2 v2, v.norm, .leaf s0 u0] _
  rw [hv]
  exact h n' H' D' R' hn hx
theorem AppW.cast {e : Ty} {h h' : Hd} {xs xs' ys : List e.D} {nn : NS} {k : SV → NS → Prop} (h1 : h = h') (h2 : xs = xs') (g : AppW e h' xs' ys nn k) : AppW e h xs ys nn k := by
  subst h1
  subst h2
  exact g
def reW (x : coreT.D) (w : Hd × List writeT.D) : coreT.D := (x.1, x.2.1, x.2.2.1, x.2.2.2.1, w, x.2.2.2.2.2)
theorem read_eq {D : deskT.D} {c : Int} (hc : 0 ≤ c ∧ c < 2) {word : Int} (hw : 0 ≤ word ∧ word < 32) : readD D c (lineOf word) = setCore (shareF D c (lineOf word)) c.toNat (readC ((shareF D c (lineOf word)).1 c.toNat) (wayOf (lineOf word))) := by
  unfold readD
  rw [find_eq hc (word_line hw).1]
  rfl
theorem read_val {D : deskT.D} (hg : goodK D = true) {c : Int} (hc : 0 ≤ c ∧ c < 2) {word : Int} (hw : 0 ≤ word ∧ word < 32) (k : Int) : valF (readD D c (lineOf word)) k = valF D k := by
  have hs := lk_share (c := c) hg (lineOf word)
  have hl := (word_line hw).1
  have hhas := (shareF_ok (goodK_D hg) c (lineOf word)).2.2 hc hl
  rw [read_eq hc hw]
  refine (val_same (sameL_set (goodK_D hs.good) fun w hw' => ?_) k).trans (hs.val k fun h => h)
  show (updA ((shareF D c (lineOf word)).1 c.toNat).2.1 (wayOf (lineOf word)) _ w).1 = _ ∧ (updA ((shareF D c (lineOf word)).1 c.toNat).2.1 (wayOf (lineOf word)) _ w).2.1 = _ ∧ (updA ((shareF D c (lineOf word)).1 c.toNat).2.1 (wayOf (lineOf word)) _ w).2.2.1 = _ ∧ ((updA ((shareF D c (lineOf word)).1 c.toNat).2.1 (wayOf (lineOf word)) _ w).2.2.2 = true → _)
  by_cases e : w = wayOf (lineOf word)
  · rw [e, updA_at]
    exact ⟨rfl, rfl, rfl, fun _ => (of_decide_eq_true hhas : _ ∧ _).1⟩
  · rw [updA_ne e]
    exact ⟨rfl, rfl, rfl, fun hr => good_nz (goodK_D hs.good) c.toNat w (by omega) hw' hr⟩
section
variable {D : deskT.D} {l : progsT.D} {c : Int} {i : instrT.D} {word : Int}
theorem held_neg {ws : List writeT.D} {w : writeT.D} (h : atW ws w.1 < 0) : heldL ws w = ws ++ [w] := if_pos h
theorem held_pos {ws : List writeT.D} {word a : Int} (h : ¬ atW ws word < 0) : heldL ws (word, a) = ws.set (atW ws word).toNat ((nthD writeT ws (atW ws word).toNat).1, a) := by
  unfold heldL
  rw [if_neg h, (atW_at (Int.not_lt.1 h)).2]
theorem hold_fin {E : deskT.D} (hroom : ¬ roomF D c i word = true) (h : nhD E = nhD (keptF 0 (seenF D c i word) c i word (getF (D.1 c.toNat).1 i.2.1))) {D' : deskT.D} {R' : Rec} (h1 : D' = (onF E c).1) (h2 : R' = [] ++ (onF E c).2) : nhD D' = nhD (inF 0 D l c i word).1 ∧ R' = (inF 0 D l c i word).2 := by
  have := al_on (c := c) h
  rw [in_no hroom, h1, h2]
  exact ⟨this.d, this.r⟩
theorem seen_6 (h6 : i.1 = 6) : seenF D c i word = D := if_neg (fun g => g h6)
theorem seen_pos (h6 : ¬ i.1 = 6) (ho : 0 ≤ atW (wsOf D c) word) : seenF D c i word = withNow D c (putF (D.1 c.toNat).1 i.2.1 (nthD writeT (wsOf D c) (atW (wsOf D c) word).toNat).2) := by
  unfold seenF loadsF
  rw [if_pos h6, if_pos ho]
abbrev rdD (D : deskT.D) (c word : Int) : deskT.D := setCore (shareF D c (lineOf word)) c.toNat (readC ((shareF D c (lineOf word)).1 c.toNat) (wayOf (lineOf word)))
theorem seen_neg (hg : goodK D = true) (hc : 0 ≤ c ∧ c < 2) (hw : 0 ≤ word ∧ word < 32) (h6 : ¬ i.1 = 6) (ho : ¬ 0 ≤ atW (wsOf D c) word) : seenF D c i word = withNow (rdD D c word) c (putF ((rdD D c word).1 c.toNat).1 i.2.1 (valF D word)) := by
  unfold seenF loadsF
  rw [if_pos h6, if_neg ho, read_val hg hc hw, read_eq hc hw]
theorem kept_5 {nn : Nat} {d : deskT.D} {a : Int} (h5 : i.1 = 5) : keptF nn d c i word a = d := if_neg (fun g => g h5)
theorem kept_n {nn : Nat} {d : deskT.D} {a : Int} (h5 : ¬ i.1 = 5) : keptF nn d c i word a = putWs nn d c (word, a) := if_pos h5
theorem kept6 {h : Hd} {w' : List writeT.D} {a : Int} (hw' : w' = heldL (wsOf D c) (word, a)) : nhD (setCore D c.toNat (reW (D.1 c.toNat) (h, w'))) = nhD (putWs 0 D c (word, a)) := by
  subst hw'
  exact al_set rfl _ rfl
theorem kept7 {h : Hd} {w' : List writeT.D} {a v : Int} (hw' : w' = heldL (wsOf D c) (word, a)) : nhD (withNow (setCore D c.toNat (reW (D.1 c.toNat) (h, w'))) c (putF ((setCore D c.toNat (reW (D.1 c.toNat) (h, w'))).1 c.toNat).1 i.2.1 v)) = nhD (putWs 0 (withNow D c (putF (D.1 c.toNat).1 i.2.1 v)) c (word, a)) := by
  subst hw'
  unfold putWs withNow wsOf
  rw [set_at, set_at, set_twice, set_twice]
  exact al_set rfl _ rfl
theorem rd_ws (D : deskT.D) (c word : Int) : ((rdD D c word).1 c.toNat).2.2 = (D.1 c.toNat).2.2 := by
  rw [set_at]
  exact (share_core D c _ c.toNat).2
theorem lo_set {x : coreT.D} {k : Nat} (h : 0 ≤ x.2.2.1) : 0 ≤ ((setCore D k x).1 k).2.2.1 := by rw [set_at]; exact h
end
theorem hold_app {D : deskT.D} {c : Int} (hc : 0 ≤ c ∧ c < 2) {tk : List (Hd × Nat)} {h : Hd} {xs ys : List writeT.D} {n : Nat} {k : SV → NS → Prop} (hh : h = (D.1 c.toNat).2.2.2.2.1.1) (hx : xs = wsOf D c) (h4 : (wsOf D c).length ≤ 4) (hy : ys.length ≤ 1) (hK : ∀ p q, Go (k (.a (.of (.leaf (.lst writeT) (.nm n, wsOf D c ++ ys)))) ⟨n + 1, p :: q :: (nilH, 3) :: tk⟩)) : AppW writeT h xs ys ⟨n, ((D.1 0).2.2.2.2.1.1, 2) :: ((D.1 1).2.2.2.2.1.1, 2) :: (nilH, 3) :: tk⟩ k := by
  subst hh
  subst hx
  have hb : (wsOf D c).length + ys.length ≤ 140737488355328 ∧ ((wsOf D c).length + ys.length) * writeT.byt ≤ 140737488355328 := ⟨by omega, by show ((wsOf D c).length + ys.length) * 16 ≤ _; omega⟩
  have h01 : c = 0 ∨ c = 1 := by omega
  rcases h01 with rfl | rfl
  · exact AppW.go0 hb (hK _ _)
  · exact AppW.go1 hb (hK _ _)
theorem hold_store {t0 t1 t2 : Ty} {v0 : t0.D} {v1 : t1.D} {v2 : t2.D} {s0 : Ty} {u0 : s0.D} {D : deskT.D} {l : progsT.D} {c : Int} (hc : 0 ≤ c ∧ c < 2) {n : Nat} {tk : List (Hd × Nat)} (hkeep : ∀ p : StP, p.tk = ((D.1 0).2.2.2.2.1.1, 2) :: ((D.1 1).2.2.2.2.1.1, 2) :: (nilH, 3) :: tk → p.i ≤ 1 → keptD p t0 v0 v0 ∧ keptD p t1 v1 v1 ∧ keptD p t2 v2 v2 ∧ keptD p s0 u0 u0 ∧ keptD p progsT l l) {i : instrT.D} {ln : lineT.D} {f : Fr} {xs' : List writeT.D} {was : Int} {K1 : Fr → List V → NS → Prop}
    (f0 : look f 0 = some (.a (.ptr 3 0 [] workT))) (f1 : look f 1 = some (.a (.of (.leaf .int c)))) (f6 : look f 6 = some (.a (.ptr 5 0 [] instrT))) (f8 : look f 8 = some (.a (.ptr 3 (0 + 0 + 0 + c.toNat * coreT.sz) [Step.fst, Step.fst, Step.idx c.toNat] coreT))) (f14 : look f 14 = some (.a (.of (.leaf .int was))))
    (hK : ∀ p q, K1 [(0, .a (.ptr 3 0 [] workT)), (1, .a (.of (.leaf .int c))), (6, .a (.ptr 5 0 [] instrT)), (8, .a (.ptr 3 (0 + 0 + 0 + c.toNat * coreT.sz) [Step.fst, Step.fst, Step.idx c.toNat] coreT)), (14, .a (.of (.leaf .int was)))] [.leaf t0 v0, .leaf t1 v1, .leaf t2 v2, .leaf workT (setCore D c.toNat (reW (D.1 c.toNat) (.nm n, xs')), l, (nilH, [])), .leaf s0 u0, .leaf instrT i, .leaf lineT ln] ⟨n + 1, p :: q :: (nilH, 3) :: tk⟩) :
    StoreW writeT (D.1 c.toNat).2.2.2.2.1.1 (D.1 c.toNat).2.2.2.2.1.2 xs' f [.leaf t0 v0, .leaf t1 v1, .leaf t2 v2, .leaf workT (D, l, (nilH, [])), .leaf s0 u0, .leaf instrT i, .leaf lineT ln] ⟨n, ((D.1 0).2.2.2.2.1.1, 2) :: ((D.1 1).2.2.2.2.1.1, 2) :: (nilH, 3) :: tk⟩ K1 := by
  have h01 : c = 0 ∨ c = 1 := by omega
  have hfr : ∀ p : StP, frOk p f [(0, .a (.ptr 3 0 [] workT)), (1, .a (.of (.leaf .int c))), (6, .a (.ptr 5 0 [] instrT)), (8, .a (.ptr 3 (0 + 0 + 0 + c.toNat * coreT.sz) [Step.fst, Step.fst, Step.idx c.toNat] coreT)), (14, .a (.of (.leaf .int was)))] := fun p => ⟨Or.inl ⟨f0, rfl⟩, Or.inl ⟨f1, rfl⟩, Or.inl ⟨f6, rfl⟩, Or.inl ⟨f8, rfl⟩, Or.inl ⟨f14, rfl⟩, trivial⟩
  have hcore : ∀ (p : StP) (x y : coreT.D), x.1 = y.1 → x.2.1 = y.2.1 → x.2.2.1 = y.2.2.1 → x.2.2.2.1 = y.2.2.2.1 → x.2.2.2.2.2 = y.2.2.2.2.2 → Kept1 p writeT x.2.2.2.2.1 y.2.2.2.2.1 → keptD p coreT x y := fun p x y e1 e2 e3 e4 e5 hk => by
    refine ⟨?_, ?_, e3, ?_, hk, e5⟩
    · rw [e1]; exact keptD_nol plainT _ rfl
    · rw [e2]; exact keptD_nol (.arr 4 lineT) _ rfl
    · rw [e4]; exact keptD_nol plainT _ rfl
  rcases h01 with rfl | rfl
  · obtain ⟨k0, k1, k2, k3, kl⟩ := hkeep ⟨writeT, (D.1 0).2.2.2.2.1.1, (D.1 0).2.2.2.2.1.2, n, xs', ((D.1 0).2.2.2.2.1.1, 2) :: ((D.1 1).2.2.2.2.1.1, 2) :: (nilH, 3) :: tk, 0⟩ rfl (Nat.le_of_ble_eq_true rfl)
    refine ⟨rfl, 0, [(0, .a (.ptr 3 0 [] workT)), (1, .a (.of (.leaf .int 0))), (6, .a (.ptr 5 0 [] instrT)), (8, .a (.ptr 3 (0 + 0 + 0 + (Int.toNat 0) * coreT.sz) [Step.fst, Step.fst, Step.idx (Int.toNat 0)] coreT)), (14, .a (.of (.leaf .int was)))], [.leaf t0 v0, .leaf t1 v1, .leaf t2 v2, .leaf workT (setCore D (Int.toNat 0) (reW (D.1 (Int.toNat 0)) (.nm n, xs')), l, (nilH, [])), .leaf s0 u0, .leaf instrT i, .leaf lineT ln], rfl, ⟨⟨v0, rfl, k0⟩, ⟨v1, rfl, k1⟩, ⟨v2, rfl, k2⟩, ⟨_, rfl, ⟨⟨fun j hj => ?_, fun _ _ => rfl⟩, kl, ⟨rfl, Or.inl ⟨rfl, Or.inl rfl⟩⟩⟩⟩, ⟨u0, rfl, k3⟩, ⟨i, rfl, keptD_nol instrT i rfl⟩, ⟨ln, rfl, keptD_nol lineT ln rfl⟩, trivial⟩, hfr _, hK _ _⟩
    have hj2 : j = 0 ∨ j = 1 := by omega
    rcases hj2 with rfl | rfl
    · exact hcore _ _ _ rfl rfl rfl rfl rfl ⟨rfl, Or.inr ⟨rfl, rfl, rfl⟩⟩
    · exact hcore _ _ _ rfl rfl rfl rfl rfl ⟨rfl, Or.inl ⟨rfl, Or.inr ⟨1, 2, (show (1 : Nat) ≠ 0 by decide), Or.inl (show 0 < 2 by decide), rfl⟩⟩⟩
  · obtain ⟨k0, k1, k2, k3, kl⟩ := hkeep ⟨writeT, (D.1 1).2.2.2.2.1.1, (D.1 1).2.2.2.2.1.2, n, xs', ((D.1 0).2.2.2.2.1.1, 2) :: ((D.1 1).2.2.2.2.1.1, 2) :: (nilH, 3) :: tk, 1⟩ rfl (Nat.le_of_ble_eq_true rfl)
    refine ⟨rfl, 1, [(0, .a (.ptr 3 0 [] workT)), (1, .a (.of (.leaf .int 1))), (6, .a (.ptr 5 0 [] instrT)), (8, .a (.ptr 3 (0 + 0 + 0 + (Int.toNat 1) * coreT.sz) [Step.fst, Step.fst, Step.idx (Int.toNat 1)] coreT)), (14, .a (.of (.leaf .int was)))], [.leaf t0 v0, .leaf t1 v1, .leaf t2 v2, .leaf workT (setCore D (Int.toNat 1) (reW (D.1 (Int.toNat 1)) (.nm n, xs')), l, (nilH, [])), .leaf s0 u0, .leaf instrT i, .leaf lineT ln], rfl, ⟨⟨v0, rfl, k0⟩, ⟨v1, rfl, k1⟩, ⟨v2, rfl, k2⟩, ⟨_, rfl, ⟨⟨fun j hj => ?_, fun _ _ => rfl⟩, kl, ⟨rfl, Or.inl ⟨rfl, Or.inl rfl⟩⟩⟩⟩, ⟨u0, rfl, k3⟩, ⟨i, rfl, keptD_nol instrT i rfl⟩, ⟨ln, rfl, keptD_nol lineT ln rfl⟩, trivial⟩, hfr _, hK _ _⟩
    have hj2 : j = 0 ∨ j = 1 := by omega
    rcases hj2 with rfl | rfl
    · exact hcore _ _ _ rfl rfl rfl rfl rfl ⟨rfl, Or.inl ⟨rfl, Or.inr ⟨0, 2, (show (0 : Nat) ≠ 1 by decide), Or.inl (show 0 < 2 by decide), rfl⟩⟩⟩
    · exact hcore _ _ _ rfl rfl rfl rfl rfl ⟨rfl, Or.inr ⟨rfl, rfl, rfl⟩⟩
end Go.Proofs.YtjbbgpacijageacGreat.M
