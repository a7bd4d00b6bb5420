/- Several texts in one. -/
import Derived.Test.YtjbbgpacijageabGreatUM
import Derived.Test.YtjbbgpacijageabGreatUN
/- Transactions as they run on a plain memory, and writes laid over a memory. -/
namespace Go.Proofs.YtjbbgpacijageabGreat.M
open Go.RowKit
set_option linter.unusedVariables false
set_option linter.unusedSimpArgs false

/-- So many instructions of a transaction that still runs behind them. -/
def goPart (l : List instrT.D) : Nat → stT.D → Int → Option (stT.D × Int)
  | 0, s, dp => some (s, dp)
  | n + 1, s, dp => if (insideF s (fetchF l s.1) dp).2.2 = true ∧ 0 < (insideF s (fetchF l s.1) dp).2.1 then goPart l n (insideF s (fetchF l s.1) dp).1 (insideF s (fetchF l s.1) dp).2.1 else none
theorem part_snoc {l : List instrT.D} : ∀ (n : Nat) (s : stT.D) (dp : Int) (s' : stT.D) (dp' : Int), goPart l n s dp = some (s', dp') → (insideF s' (fetchF l s'.1) dp').2.2 = true → 0 < (insideF s' (fetchF l s'.1) dp').2.1 →
    goPart l (n + 1) s dp = some ((insideF s' (fetchF l s'.1) dp').1, (insideF s' (fetchF l s'.1) dp').2.1)
  | 0, s, dp, s', dp', h, h1, h2 => by
    unfold goPart at h
    obtain ⟨rfl, rfl⟩ := Prod.mk.inj (Option.some.inj h)
    unfold goPart
    rw [if_pos ⟨h1, h2⟩]
    rfl
  | n + 1, s, dp, s', dp', h, h1, h2 => by
    unfold goPart at h
    split at h
    · rename_i g
      have ih := part_snoc n _ _ _ _ h h1 h2
      rw [goPart, if_pos g]
      exact ih
    · cases h
theorem all_of_part {l : List instrT.D} : ∀ (n : Nat) (s : stT.D) (dp : Int) (s' : stT.D) (dp' : Int), goPart l n s dp = some (s', dp') → (insideF s' (fetchF l s'.1) dp').2.2 = true → ¬ 0 < (insideF s' (fetchF l s'.1) dp').2.1 →
    goAll l (n + 1) s dp = some (insideF s' (fetchF l s'.1) dp').1
  | 0, s, dp, s', dp', h, h1, h2 => by
    unfold goPart at h
    obtain ⟨rfl, rfl⟩ := Prod.mk.inj (Option.some.inj h)
    unfold goAll
    rw [if_pos ⟨h1, by rw [decide_eq_false h2]; rfl⟩]
    rfl
  | n + 1, s, dp, s', dp', h, h1, h2 => by
    unfold goPart at h
    split at h
    · rename_i g
      have ih := all_of_part n _ _ _ _ h h1 h2
      rw [goAll, if_pos ⟨g.1, by rw [decide_eq_true g.2]; exact (decide_eq_true (Nat.succ_ne_zero n)).symm⟩]
      exact ih
    · cases h
/-- Who runs began. -/
theorem part_first {l : List instrT.D} {n : Nat} {s : stT.D} {x : stT.D × Int} (h : goPart l (n + 1) s 0 = some x) : (fetchF l s.1).1 = 9 := by
  unfold goPart at h
  split at h
  · rename_i g
    have g2 := g.2
    by_cases h9 : (fetchF l s.1).1 = 9
    · exact h9
    · exfalso
      unfold insideF at g2
      rw [if_neg h9] at g2
      split at g2
      · exact absurd g2 (by show ¬ (0 : Int) < wrap64 (0 - 1); decide)
      · split at g2
        · exact absurd g2 (by show ¬ (0 : Int) < 0; decide)
        · exact absurd g2 (by show ¬ (0 : Int) < 0; decide)
  · cases h

/-- Writes over a memory. -/
def ov (ws : List writeT.D) (v : Nat → Int) : Nat → Int := ws.foldl (fun m w => updA m w.1.toNat w.2) v
theorem ov_none : ∀ (ws : List writeT.D) (v : Nat → Int) (k : Nat), (∀ w ∈ ws, w.1.toNat ≠ k) → ov ws v k = v k
  | [], v, k, _ => rfl
  | w :: ws, v, k, h => by
    show ov ws (updA v w.1.toNat w.2) k = v k
    rw [ov_none ws _ k (fun u hu => h u (List.mem_cons_of_mem _ hu)), updA_ne (fun g => h w (List.mem_cons_self ..) g.symm)]
theorem ov_some : ∀ (ws : List writeT.D) (v : Nat → Int) (w : writeT.D), ws.Pairwise (fun a b => a.1.toNat ≠ b.1.toNat) → w ∈ ws → ov ws v w.1.toNat = w.2
  | a :: ws, v, w, hp, hw => by
    have hp' := List.pairwise_cons.1 hp
    show ov ws (updA v a.1.toNat a.2) w.1.toNat = w.2
    rcases List.mem_cons.1 hw with rfl | hw
    · rw [ov_none ws _ _ (fun u hu g => hp'.1 u hu g.symm), updA_at]
    · exact ov_some ws _ w hp'.2 hw
theorem ws_pair {l : List writeT.D} (h : goodWs l = true) : l.Pairwise (fun a b => a.1.toNat ≠ b.1.toNat) := by
  obtain ⟨_, h2⟩ := (ws_iff l).1 h
  rw [List.pairwise_iff_getElem]
  intro i j hi hj hij he
  obtain ⟨⟨hb, _⟩, h3⟩ := h2 j hj
  have h4 := h3 i hij
  have h5 := (h2 i hi).1.1
  rw [nthD_eq hj] at hb h4
  rw [nthD_eq hi] at h4 h5
  have : (l[i].1 : Int) = l[j].1 := by
    have e1 : ((l[i].1.toNat : Nat) : Int) = ((l[j].1.toNat : Nat) : Int) := by rw [he]
    rw [Int.toNat_of_nonneg h5.1, Int.toNat_of_nonneg hb.1] at e1
    exact e1
  exact h4 this
theorem nth_mem {l : List writeT.D} {k : Nat} (h : k < l.length) : nthD writeT l k ∈ l := by rw [nthD_eq h]; exact List.getElem_mem h
theorem word_ne {a b : Int} (ha : 0 ≤ a) (hb : 0 ≤ b) (h : a ≠ b) : a.toNat ≠ b.toNat := by omega
theorem i_nat {z : Int} (h : 0 ≤ z ∧ z < 32) : (z.toNat : Int) = z ∧ z.toNat < 32 := by omega
theorem i_inj {a b : Int} (ha : 0 ≤ a) (hb : 0 ≤ b) (h : a.toNat = b.toNat) : a = b := by omega
theorem ws_nat {l : List writeT.D} (h : goodWs l = true) {w : writeT.D} (hw : w ∈ l) : (w.1.toNat : Int) = w.1 ∧ w.1.toNat < 32 := by
  exact i_nat (ws_mem h w hw).1
/-- What a transaction reads there. -/
theorem ov_at {ws : List writeT.D} (h : goodWs ws = true) (v : Nat → Int) {word : Int} (hw : 0 ≤ word ∧ word < 32) : ov ws v word.toNat = if 0 ≤ atW ws word then (nthD writeT ws (atW ws word).toNat).2 else v word.toNat := by
  split
  · rename_i h0
    obtain ⟨h1, h2⟩ := atW_at h0
    have h3 := ov_some ws v _ (ws_pair h) (nth_mem h1)
    rw [h2] at h3
    exact h3
  · rename_i h0
    refine ov_none ws v _ fun w hm he => ?_
    obtain ⟨k, hk⟩ := List.getElem?_of_mem hm
    have hlt := (List.getElem?_eq_some_iff.1 hk).1
    have h1 := (atW_neg ws word).1 (by omega) k hlt
    rw [nthD_eq hlt, (List.getElem?_eq_some_iff.1 hk).2] at h1
    have h2 := (ws_mem h w hm).1
    exact h1 (i_inj h2.1 hw.1 he)
theorem ov_held {ws : List writeT.D} (h : goodWs ws = true) (v : Nat → Int) {word n : Int} (hw : 0 ≤ word ∧ word < 32) : ov (heldL ws (word, n)) v = updA (ov ws v) word.toNat n := by
  unfold heldL
  show ov (if atW ws word < 0 then ws ++ [(word, n)] else ws.set (atW ws word).toNat (word, n)) v = _
  split
  · unfold ov
    rw [List.foldl_append]
    rfl
  · rename_i h0
    obtain ⟨h1, h2⟩ := atW_at (Int.not_lt.1 h0)
    generalize ha : (atW ws word).toNat = a at h1 h2
    have hset : ∀ w, w ∈ ws.set a (word, n) → w = (word, n) ∨ (w ∈ ws ∧ w.1.toNat ≠ word.toNat) := fun w hm => by
      obtain ⟨k, hk⟩ := List.getElem?_of_mem hm
      rw [List.getElem?_set] at hk
      split at hk
      · exact Or.inl (Option.some.inj hk).symm
      · rename_i hka
        refine Or.inr ⟨List.mem_of_getElem? hk, ?_⟩
        have hlt := (List.getElem?_eq_some_iff.1 hk).1
        have hp := List.pairwise_iff_getElem.1 (ws_pair h)
        have e : ws[k] = w := (List.getElem?_eq_some_iff.1 hk).2
        rw [nthD_eq h1] at h2
        intro he
        rcases Nat.lt_or_gt_of_ne hka with hl | hl
        · exact hp a k h1 hlt hl (by rw [e, h2]; exact he.symm)
        · exact hp k a hlt h1 hl (by rw [e, h2]; exact he)
    have hpair : (ws.set a (word, n)).Pairwise (fun a b => a.1.toNat ≠ b.1.toNat) := by
      have hp := List.pairwise_iff_getElem.1 (ws_pair h)
      rw [List.pairwise_iff_getElem]
      intro i j hi hj hij
      rw [List.length_set] at hi hj
      have e1 : ∀ k (hk : k < ws.length), ((ws.set a (word, n))[k]'(by rw [List.length_set]; exact hk)).1 = (ws[k]).1 := fun k hk => by
        rw [List.getElem_set]
        split
        · rename_i g
          subst g
          rw [nthD_eq h1] at h2
          exact h2.symm
        · rfl
      rw [e1 i hi, e1 j hj]
      exact hp i j hi hj hij
    funext k
    by_cases hk : k = word.toNat
    · subst hk
      rw [updA_at]
      exact ov_some _ v (word, n) hpair (List.mem_of_getElem? (i := a) (by simp [h1]))
    · rw [updA_ne hk]
      by_cases he : ∃ w ∈ ws, w.1.toNat = k
      · obtain ⟨w, hm, rfl⟩ := he
        have hm' : w ∈ ws.set a (word, n) := by
          obtain ⟨q, hq⟩ := List.getElem?_of_mem hm
          refine List.mem_of_getElem? (i := q) ?_
          rw [List.getElem?_set, if_neg]
          · exact hq
          · rintro rfl
            rw [nthD_eq h1, (List.getElem?_eq_some_iff.1 hq).2] at h2
            exact hk (by rw [h2])
        rw [ov_some _ v w hpair hm', ov_some _ v w (ws_pair h) hm]
      · rw [ov_none ws v k (fun w hm g => he ⟨w, hm, g⟩), ov_none _ v k (fun w hm g => ?_)]
        rcases hset w hm with rfl | ⟨hm', _⟩
        · exact hk g.symm
        · exact he ⟨w, hm', g⟩
theorem ov_congr : ∀ (ws : List writeT.D) (u v : Nat → Int) (k : Nat), u k = v k → ov ws u k = ov ws v k
  | [], u, v, k, h => h
  | w :: ws, u, v, k, h => ov_congr ws _ _ k (by
    show updA u w.1.toNat w.2 k = updA v w.1.toNat w.2 k
    unfold updA
    split
    · rfl
    · exact h)
end Go.Proofs.YtjbbgpacijageabGreat.M

/- What is read stays read; transactions that run, beside what others do. -/
namespace Go.Proofs.YtjbbgpacijageabGreat.M
open Go.RowKit
set_option linter.unusedVariables false
set_option linter.unusedSimpArgs false

/-- What a core has read there it has read still. -/
def RK (o : Nat) (d e : deskT.D) : Prop := ∀ w, w < 4 → rdAt d o w = true → rdAt e o w = true ∧ (lineAt e o w).2.1 = (lineAt d o w).2.1
def rdW (d : deskT.D) (o k : Nat) : Prop := ∃ w, w < 4 ∧ rdAt d o w = true ∧ (lineAt d o w).2.1 = ((k / 2 : Nat) : Int)
section
variable {o : Nat} {d e f : deskT.D}
theorem RK.refl (o : Nat) (d : deskT.D) : RK o d d := fun w _ h => ⟨h, rfl⟩
theorem RK.trans (h : RK o d e) (g : RK o e f) : RK o d f := fun w hw hr => by
  obtain ⟨h1, h2⟩ := h w hw hr
  obtain ⟨g1, g2⟩ := g w hw h1
  exact ⟨g1, g2.trans h2⟩
theorem RK.rdW {k : Nat} (h : RK o d e) (g : M.rdW d o k) : M.rdW e o k := by
  obtain ⟨w, hw, hr, hl⟩ := g
  obtain ⟨h1, h2⟩ := h w hw hr
  exact ⟨w, hw, h1, h2.trans hl⟩
theorem rk_set {c w : Nat} {l : lineT.D} (h : o = c → rdAt d c w = true → l.2.2.2 = true ∧ l.2.1 = (lineAt d c w).2.1) : RK o d (setLine d c w l) := by
  intro v hv hr
  show (lineAt (setLine d c w l) o v).2.2.2 = true ∧ (lineAt (setLine d c w l) o v).2.1 = (lineAt d o v).2.1
  rw [line_set]
  split
  · rename_i g
    obtain ⟨rfl, rfl⟩ := g
    exact h rfl hr
  · exact ⟨hr, rfl⟩
theorem rk_drop {c w : Nat} (h : o = c → rdAt d c w = false) : RK o d (dropD d c w) :=
  rk_set (l := lineT.zero) (fun g r => by rw [h g] at r; cases r)
theorem rk_take {c w : Nat} (hc : c < 2) {n : Int} (h : o = c → rdAt d c w = false) : RK o d (takeD d c w n) := by
  unfold takeD
  split
  · refine RK.trans (e := setLine (setMem d (goBackF d.2 (lineAt d (1 - c) w))) (1 - c) w (1, (lineAt d (1 - c) w).2)) ?_ ?_
    · exact rk_set (d := setMem d (goBackF d.2 (lineAt d (1 - c) w))) fun _ r => ⟨r, rfl⟩
    · refine rk_set fun g r => ?_
      have h1 : lineAt (setLine (setMem d (goBackF d.2 (lineAt d (1 - c) w))) (1 - c) w (1, (lineAt d (1 - c) w).2)) c w = lineAt d c w := line_set_other (Or.inl (by omega))
      unfold rdAt at r
      rw [h1] at r
      have h2 := h g
      unfold rdAt at h2
      rw [h2] at r
      cases r
  · exact rk_set fun g r => by rw [h g] at r; cases r
theorem rk_share {c n : Int} (h : o = c.toNat → hasL (lineAt d c.toNat (wayOf n)) n = false → rdAt d c.toNat (wayOf n) = false) : RK o d (shareF d c n) := by
  unfold shareF
  split
  · rename_i g
    split
    · exact RK.refl _ _
    · rename_i hh
      refine (rk_drop (w := wayOf n) (c := c.toNat) fun g => h g (by simpa using hh)).trans (rk_take (by have := g.2.1; omega) fun _ => ?_)
      show (lineAt (setLine d c.toNat (wayOf n) lineT.zero) c.toNat (wayOf n)).2.2.2 = false
      rw [line_set_same]
      rfl
  · exact RK.refl _ _
theorem rk_write (c word n : Int) : RK o d (writeF d c word n) := by
  unfold writeF
  split
  · split
    · unfold setM putW
      refine RK.trans (rk_set (d := d) ?_) (rk_set ?_)
      · exact fun _ r => ⟨r, rfl⟩
      · exact fun _ r => ⟨r, rfl⟩
    · exact RK.refl _ _
  · exact RK.refl _ _
theorem rd_holds {o n : Int} (ho : 0 ≤ o ∧ o < 2) (hn : 0 ≤ n ∧ n < 16) (hd : (d.1 o.toNat).2.2.1 ≠ 0) (hh : hasL (lineAt d o.toNat (wayOf n)) n = true) (hr : rdAt d o.toNat (wayOf n) = true) : holdsF d o n = true := by
  unfold holdsF
  rw [if_pos ⟨ho, hd⟩, find_eq ho hn]
  show (hasL (lineAt d o.toNat (wayOf n)) n && rdAt d o.toNat (wayOf n) || _) = true
  rw [hh, hr]
  rfl
theorem rk_own {c n : Int} (hc : 0 ≤ c ∧ c < 2) (hg : goodD d = true) (hd : (d.1 (1 - c).toNat).2.2.1 ≠ 0) (hh : holdsF d (1 - c) n = false) : RK (1 - c).toNat d (ownF d c n) := by
  have hne : (1 - c).toNat ≠ c.toNat := by omega
  have hoc : (1 - c).toNat = 1 - c.toNat := other_nat hc
  have hsh : RK (1 - c).toNat d (shareF d c n) := rk_share fun g => absurd g hne
  unfold ownF
  split
  · rename_i g
    obtain ⟨_, hn⟩ := find_yes g.2
    refine hsh.trans ?_
    have hS : holdsF (shareF d c n) (1 - c) n = false := by
      rw [← Bool.not_eq_true]
      intro h1
      rw [holds_mv (good_nz hg) (mv_share (good_nz hg) c n) h1] at hh
      cases hh
    have hw : (findF (shareF d c n) c n).1.toNat = wayOf n := by rw [find_eq hc hn]; rfl
    rw [hw]
    unfold aloneD
    refine RK.trans (e := alone1 (shareF d c n) c.toNat (wayOf n) n) ?_ ?_
    · unfold alone1
      split
      · rename_i h2
        refine rk_set fun g2 r => ?_
        rw [← hoc] at h2 r
        have hD : ((shareF d c n).1 (1 - c).toNat).2.2.1 ≠ 0 := by
          rw [(share_core d c n (1 - c).toNat).2]
          exact hd
        rw [rd_holds (by omega) hn hD h2 r] at hS
        cases hS
      · exact RK.refl _ _
    · unfold alone2
      split
      · exact rk_set fun g2 r => ⟨r, rfl⟩
      · exact RK.refl _ _
  · exact hsh
/-- What is read is held. -/
theorem rdW_holds {o : Int} (ho : 0 ≤ o ∧ o < 2) (hg : goodD d = true) (hd : (d.1 o.toNat).2.2.1 ≠ 0) {k : Nat} (hk : k < 32) (h : rdW d o.toNat k) : holdsF d o (lineOf (k : Int)) = true := by
  obtain ⟨w, hw, hr, hl⟩ := h
  have hs := good_nz hg o.toNat w (by omega) hw hr
  obtain ⟨h1, h2, h3⟩ := good_line hg (c := o.toNat) (by omega) hw hs
  have hn : 0 ≤ lineOf (k : Int) ∧ lineOf (k : Int) < 16 := by rw [lineOf_nat hk]; omega
  have hwy : wayOf (lineOf (k : Int)) = w := by
    unfold wayOf
    rw [lineOf_nat hk, ← hl, h3]
    rfl
  refine rd_holds ho hn hd ?_ (by rw [hwy]; exact hr)
  rw [hwy]
  exact decide_eq_true ⟨hs, by rw [hl, lineOf_nat hk]⟩
end

/-- A transaction that runs is what its instructions make of whatever memory has what it has read. -/
structure Tx (l : List instrT.D) (d : deskT.D) (o : Nat) : Prop where
  run : ∀ v : Nat → Int, (∀ k : Nat, k < 32 → rdW d o k → v k = valF d (k : Int)) →
    goPart l (d.1 o).2.2.2.2.2.toNat ((d.1 o).2.2.2.1, v) 0 = some (((d.1 o).1, ov (d.1 o).2.2.2.2.1.2 v), (d.1 o).2.2.1)
theorem tx_mv {l : List instrT.D} {d e : deskT.D} {o : Nat} (h : Tx l d o) (hs : sameX (e.1 o) (d.1 o)) (hr : RK o d e) (hv : ∀ k : Nat, k < 32 → rdW d o k → valF e (k : Int) = valF d (k : Int)) : Tx l e o := ⟨fun v hv' => by
  have h1 := h.run v fun k hk hk' => (hv' k hk (hr.rdW hk')).trans (hv k hk hk')
  rw [hs.1, hs.2]
  exact h1⟩
def outP (x : coreT.D) : plainT.D := if 0 < x.2.2.1 then x.2.2.2.1 else x.1
theorem outP_0 {x : coreT.D} (h : x.2.2.1 = 0) : outP x = x.1 := by unfold outP; rw [if_neg (by rw [h]; decide)]
theorem outP_1 {x : coreT.D} (hk : CoreOk x) (h : x.2.2.1 ≠ 0) : outP x = x.2.2.2.1 := by
  unfold outP
  rw [if_pos (deep_i3 hk.lo h)]
theorem outP_same {x y : coreT.D} (h : sameX x y) : outP x = outP y := by
  unfold outP
  rw [h.1, h.2]
/-- What a core is, and what it runs. -/
structure OthOk (L : progsT.D) (cs : Nat → plainT.D) (d : deskT.D) (o : Nat) : Prop where
  out : cs o = outP (d.1 o)
  tx : (d.1 o).2.2.1 ≠ 0 → Tx (L o).2 d o
theorem OthOk.mv {L : progsT.D} {cs : Nat → plainT.D} {d e : deskT.D} {o : Nat} (h : OthOk L cs d o) (hs : sameX (e.1 o) (d.1 o)) (hr : (d.1 o).2.2.1 ≠ 0 → RK o d e) (hv : (d.1 o).2.2.1 ≠ 0 → ∀ k : Nat, k < 32 → rdW d o k → valF e (k : Int) = valF d (k : Int)) : OthOk L cs e o :=
  ⟨by rw [outP_same hs]; exact h.out, fun hd => by
    rw [hs.2] at hd
    exact tx_mv (h.tx hd) hs (hr hd) (hv hd)⟩
theorem OthOk.core {L : progsT.D} {cs : Nat → plainT.D} {d e : deskT.D} {o : Nat} (h : OthOk L cs d o) (hs : e.1 o = d.1 o) (hv : ∀ k : Nat, k < 32 → valF e (k : Int) = valF d (k : Int)) : OthOk L cs e o :=
  h.mv (by rw [hs]; exact ⟨rfl, rfl⟩) (fun _ w hw hr => by
    have : lineAt e o w = lineAt d o w := by unfold lineAt; rw [hs]
    unfold rdAt
    rw [this]
    exact ⟨hr, rfl⟩) (fun _ k hk _ => hv k hk)
theorem i_pos {z : Int} (h : 1 ≤ z) : ∃ n, z.toNat = n + 1 := ⟨z.toNat - 1, by omega⟩
theorem ready_p {p : plainT.D} (h : goodP p = true) (ho : p.2.2 = false) : readyF p = 0 := by
  unfold readyF
  rw [if_pos h, if_neg (by rw [ho]; decide)]
theorem ready_ok {p : plainT.D} {m : Nat → Int} (hm : goodM m = true) (h : goodP p = true) (ho : p.2.2 = false) : readyAtF p m = 0 := by
  unfold readyAtF
  rw [if_pos hm]
  exact ready_p h ho
theorem count_pos {x : coreT.D} (hk : CoreOk x) (h : x.2.2.1 ≠ 0) : ∃ n, x.2.2.2.2.2.toNat = n + 1 := by
  exact i_pos (hk.ins h).2.2.2.1.1
theorem tx_first {l : List instrT.D} {d : deskT.D} {o : Nat} (h : Tx l d o) (hk : CoreOk (d.1 o)) (hd : (d.1 o).2.2.1 ≠ 0) : (fetchF l (d.1 o).2.2.2.1).1 = 9 := by
  obtain ⟨n, hn⟩ := count_pos hk hd
  have h1 := h.run (fun k => valF d (k : Int)) fun _ _ _ => rfl
  rw [hn] at h1
  exact part_first h1
theorem fail_replay {l : List instrT.D} {x : coreT.D} (hk : CoreOk x) (hd : x.2.2.1 ≠ 0) (h9 : (fetchF l x.2.2.2.1).1 = 9) {why : Int} (hw : 0 ≤ why ∧ why ≤ 4294967295) : failedF l x.2.2.2.1 why = (failP x l why, 0) := by
  obtain ⟨g1, g2, _⟩ := hk.ins hd
  unfold failedF
  rw [if_pos (ready_p g1 g2), if_pos hw, if_pos h9]
  rfl
theorem rep_one {L : progsT.D} {r : recordT.D} {cs : Nat → plainT.D} {m : Nat → Int} {p : plainT.D} {m' : Nat → Int} (hc : 0 ≤ r.2.1 ∧ r.2.1 < 2) (h : againF (L r.2.1.toNat).2 (cs r.2.1.toNat) m r = (p, m', 0)) : goRep L [r] cs m = .ok (updA cs r.2.1.toNat p, m') := by
  unfold goRep
  rw [if_pos hc, h, if_pos rfl]
  rfl
theorem rep_app {L : progsT.D} : ∀ (a b : Rec) (cs : Nat → plainT.D) (m : Nat → Int) (cs' : Nat → plainT.D) (m' : Nat → Int), goRep L a cs m = .ok (cs', m') → goRep L (a ++ b) cs m = goRep L b cs' m'
  | [], b, cs, m, cs', m', h => by
    unfold goRep at h
    obtain ⟨rfl, rfl⟩ := Prod.mk.inj (Except.ok.inj h)
    rfl
  | r :: a, b, cs, m, cs', m', h => by
    show goRep L (r :: (a ++ b)) cs m = _
    unfold goRep at h
    conv => lhs; unfold goRep
    split at h
    · rename_i h1
      rw [if_pos h1]
      split at h
      · rename_i h2
        rw [if_pos h2]
        exact rep_app a b _ _ _ _ h
      · cases h
    · cases h
/-- A transaction fails, and so it is replayed. -/
theorem fail_oth {L : progsT.D} {cs : Nat → plainT.D} {d : deskT.D} {c : Int} (hc : 0 ≤ c ∧ c < 2) (hg : goodK d = true) (h : OthOk L cs d c.toNat) (hd : (d.1 c.toNat).2.2.1 ≠ 0) {why : Int} (hw : 0 ≤ why ∧ why ≤ 4294967295) :
    (∀ m, goRep L [(3, c, why)] cs m = .ok (updA cs c.toNat (failP (d.1 c.toNat) (L c.toNat).2 why), m)) ∧ OthOk L (updA cs c.toNat (failP (d.1 c.toNat) (L c.toNat).2 why)) (failD d L c why).1 c.toNat := by
  have hk : CoreOk (d.1 c.toNat) := core_ok hc hg
  constructor
  · intro m
    refine rep_one (r := (3, c, why)) hc ?_
    unfold againF
    rw [if_neg (by show ¬ (3 : Int) = 1; decide), if_neg (by show ¬ (3 : Int) = 2; decide), if_pos rfl]
    show ((failedF (L c.toNat).2 (cs c.toNat) why).1, m, (failedF (L c.toNat).2 (cs c.toNat) why).2) = _
    rw [h.out, outP_1 hk hd, fail_replay hk hd (tx_first (h.tx hd) hk hd) hw]
  · have he : (failD d L c why).1.1 c.toNat = failC (d.1 c.toNat) (L c.toNat).2 why := set_at _ _ _
    refine ⟨?_, fun h0 => ?_⟩
    · rw [updA_at, he, outP_0 rfl]
      rfl
    · rw [he] at h0
      exact absurd rfl h0
/-- A word is put, beside the other core. -/
theorem puts_oth {L : progsT.D} {cs : Nat → plainT.D} {d : deskT.D} {c : Int} (hc : 0 ≤ c ∧ c < 2) (hg : goodK d = true) (h : OthOk L cs d (1 - c).toNat) {word n : Int} (hw : 0 ≤ word ∧ word < 32) (hn : 0 ≤ n ∧ n ≤ 4294967295) (rs : Rec) :
    ∃ rs' cs', (putsF (d, rs) L c word n).2 = rs ++ rs' ∧ (∀ m, goRep L rs' cs m = .ok (cs', m)) ∧ OthOk L cs' (putsF (d, rs) L c word n).1 (1 - c).toNat ∧ cs' c.toNat = cs c.toNat ∧ goodK (putsF (d, rs) L c word n).1 = true ∧
      sameX ((putsF (d, rs) L c word n).1.1 c.toNat) (d.1 c.toNat) ∧ ∀ k : Nat, k < 32 → valF (putsF (d, rs) L c word n).1 (k : Int) = updA (fun q => valF d (q : Int)) word.toNat n k := by
  have hne : (1 - c).toNat ≠ c.toNat := by omega
  have ho : 0 ≤ 1 - c ∧ 1 - c < 2 := by omega
  have hval : ∀ (D E : deskT.D), (∀ k, ¬ (k = word) → valF E k = valF D k) → valF E word = n → (∀ k : Nat, valF D (k : Int) = valF d (k : Int)) → ∀ k : Nat, k < 32 → valF E (k : Int) = updA (fun q => valF d (q : Int)) word.toNat n k := fun D E h1 h2 h3 k hk => by
    by_cases hkw : k = word.toNat
    · subst hkw
      rw [updA_at, Int.toNat_of_nonneg hw.1]
      exact h2
    · rw [updA_ne hkw, h1 _ (by omega)]
      exact h3 k
  by_cases hh : holdsF d (1 - c) (lineOf word) = true
  · obtain ⟨_, hd⟩ := holds_yes hh
    have hp : putsF (d, rs) L c word n = (writeF (ownF (failD d L (1 - c) 1001).1 c (lineOf word)) c word n, rs ++ [(3, 1 - c, 1001)]) := by
      unfold putsF
      rw [other_eq hc]
      exact if_pos hh
    rw [hp]
    have hF := fail_oth (why := 1001) ho hg h hd (by decide)
    have hl := lk_fail hc hg hd L 1001
    have hd0 : ((failD d L (1 - c) 1001).1.1 (1 - c).toNat).2.2.1 = 0 := by rw [show (failD d L (1 - c) 1001).1.1 (1 - c).toNat = _ from set_at _ _ _]; rfl
    obtain ⟨hq, hv⟩ := lk_put hc hl.good hw hn (holds_deep (n := lineOf word) hd0)
    have hm : Mv (failD d L (1 - c) 1001).1 (writeF (ownF (failD d L (1 - c) 1001).1 c (lineOf word)) c word n) := by
      have z := good_nz (goodK_D hl.good)
      have m1 := mv_own z c (lineOf word)
      exact m1.trans (mv_write m1.nz c word n)
    refine ⟨[(3, 1 - c, 1001)], _, rfl, hF.1, ?_, updA_ne (Ne.symm hne), hq.good, ?_, hval _ _ hq.val hv fun k => hl.val k id⟩
    · refine hF.2.mv (hm.core _) (fun h0 => absurd hd0 h0) (fun h0 => absurd hd0 h0)
    · have := hm.core c.toNat
      rw [show (failD d L (1 - c) 1001).1.1 c.toNat = d.1 c.toNat from set_ne _ _ (Ne.symm hne)] at this
      exact this
  · have hp : putsF (d, rs) L c word n = (writeF (ownF d c (lineOf word)) c word n, rs) := by
      unfold putsF
      rw [other_eq hc]
      exact if_neg hh
    rw [hp]
    have hh' : holdsF d (1 - c) (lineOf word) = false := by simpa using hh
    obtain ⟨hq, hv⟩ := lk_put hc hg hw hn hh'
    have hm : Mv d (writeF (ownF d c (lineOf word)) c word n) := by
      have m1 := mv_own (good_nz (goodK_D hg)) c (lineOf word)
      exact m1.trans (mv_write m1.nz c word n)
    refine ⟨[], cs, (List.append_nil _).symm, fun m => rfl, ?_, rfl, hq.good, hm.core _, hval _ _ hq.val hv fun k => rfl⟩
    refine h.mv (hm.core _) (fun h0 => (rk_own hc (goodK_D hg) h0 hh').trans (rk_write c word n)) (fun h0 k hk hr => hq.val _ ?_)
    rintro rfl
    rw [rdW_holds ho (goodK_D hg) h0 hk hr] at hh'
    cases hh'
theorem all_oth {L : progsT.D} {c : Int} (hc : 0 ≤ c ∧ c < 2) : ∀ (ws : List writeT.D) (d : deskT.D) (rs : Rec) (cs : Nat → plainT.D), goodK d = true → OthOk L cs d (1 - c).toNat → (∀ w ∈ ws, (0 ≤ w.1 ∧ w.1 < 32) ∧ (0 ≤ w.2 ∧ w.2 ≤ 4294967295)) →
    ∃ rs' cs', (putsAll (d, rs) L c ws).2 = rs ++ rs' ∧ (∀ m, goRep L rs' cs m = .ok (cs', m)) ∧ OthOk L cs' (putsAll (d, rs) L c ws).1 (1 - c).toNat ∧ cs' c.toNat = cs c.toNat ∧ goodK (putsAll (d, rs) L c ws).1 = true ∧
      sameX ((putsAll (d, rs) L c ws).1.1 c.toNat) (d.1 c.toNat) ∧ ∀ k : Nat, k < 32 → valF (putsAll (d, rs) L c ws).1 (k : Int) = ov ws (fun q => valF d (q : Int)) k
  | [], d, rs, cs, hg, h, _ => ⟨[], cs, (List.append_nil _).symm, fun m => rfl, h, rfl, hg, ⟨rfl, rfl⟩, fun k _ => rfl⟩
  | w :: ws, d, rs, cs, hg, h, hw => by
    obtain ⟨r1, cs1, e1, p1, o1, q1, g1, s1, v1⟩ := puts_oth hc hg h (hw w (List.mem_cons_self ..)).1 (hw w (List.mem_cons_self ..)).2 rs
    obtain ⟨r2, cs2, e2, p2, o2, q2, g2, s2, v2⟩ := all_oth hc ws (putsF (d, rs) L c w.1 w.2).1 (putsF (d, rs) L c w.1 w.2).2 cs1 g1 o1 (fun u hu => hw u (List.mem_cons_of_mem _ hu))
    refine ⟨r1 ++ r2, cs2, ?_, fun m => ?_, o2, q2.trans q1, g2, ⟨s2.1.trans s1.1, s2.2.trans s1.2⟩, fun k hk => ?_⟩
    · rw [← List.append_assoc, ← e1]
      exact e2
    · rw [rep_app r1 r2 cs m cs1 m (p1 m)]
      exact p2 m
    · have h3 := v2 k hk
      show valF (putsAll (putsF (d, rs) L c w.1 w.2) L c ws).1 (k : Int) = ov ws (updA (fun q => valF d (q : Int)) w.1.toNat w.2) k
      rw [← ov_congr ws (fun q => valF (putsF (d, rs) L c w.1 w.2).1 (q : Int)) _ k (v1 k hk)]
      exact h3
end Go.Proofs.YtjbbgpacijageabGreat.M

/- What a step records leads, done on a plain memory, to where the step leads. -/
namespace Go.Proofs.YtjbbgpacijageabGreat.M
open Go.RowKit
set_option linter.unusedVariables false
set_option linter.unusedSimpArgs false

/-- Cores and words of a desk are those of plain cores and a plain memory; transactions that run are not begun there. -/
structure Ser (L : progsT.D) (d : deskT.D) (cs : Nat → plainT.D) (m : Nat → Int) : Prop where
  good : goodK d = true
  gm : goodM m = true
  mem : ∀ k : Nat, k < 32 → m k = valF d (k : Int)
  ok : ∀ o, o < 2 → OthOk L cs d o
/-- What is recorded leads there. -/
def Leads (L : progsT.D) (x : deskT.D × Rec) (cs : Nat → plainT.D) (m : Nat → Int) : Prop := ∃ cs' m', goRep L x.2 cs m = .ok (cs', m') ∧ Ser L x.1 cs' m'
section
variable {L : progsT.D} {d e : deskT.D} {cs : Nat → plainT.D} {m : Nat → Int} {c : Int}
theorem two_cores (hc : 0 ≤ c ∧ c < 2) {P : Nat → Prop} (h1 : P c.toNat) (h2 : P (1 - c).toNat) : ∀ o, o < 2 → P o := fun o ho => by
  by_cases h : o = c.toNat
  · rw [h]; exact h1
  · rw [show o = (1 - c).toNat by omega]; exact h2
theorem Ser.self (h : Ser L d cs m) (hc : 0 ≤ c ∧ c < 2) : OthOk L cs d c.toNat := h.ok _ (by omega)
theorem Ser.oth (h : Ser L d cs m) (hc : 0 ≤ c ∧ c < 2) : OthOk L cs d (1 - c).toNat := h.ok _ (by omega)
theorem OthOk.upd {p : plainT.D} {o k : Nat} (h : OthOk L cs d o) (hk : o ≠ k) : OthOk L (updA cs k p) d o := ⟨by rw [updA_ne hk]; exact h.out, h.tx⟩
/-- One's own transaction fails. -/
theorem leads_fail (h : Ser L d cs m) (hc : 0 ≤ c ∧ c < 2) (hd : (d.1 c.toNat).2.2.1 ≠ 0) {why : Int} (hw : 0 ≤ why ∧ why ≤ 4294967295) : Leads L (failD d L c why) cs m := by
  have hF := fail_oth hc h.good (h.self hc) hd hw
  have hs := fail_same (goodK_D h.good) c.toNat (L c.toNat).2 why
  refine ⟨_, m, hF.1 m, fail_good h.good (by omega) hd _ _, h.gm, fun k hk => ?_, two_cores hc hF.2 ?_⟩
  · rw [h.mem k hk]
    exact (val_same hs _).symm
  · exact ((h.oth hc).upd (by omega)).core (set_ne _ _ (by omega)) fun k _ => val_same hs _
/-- A core is another one; nothing is recorded. -/
theorem leads_tx (h : Ser L d cs m) (hc : 0 ≤ c ∧ c < 2) (hg : goodK e = true) (hv : ∀ k : Nat, k < 32 → valF e (k : Int) = valF d (k : Int)) (ho : OthOk L cs e (1 - c).toNat) (hout : outP (e.1 c.toNat) = outP (d.1 c.toNat)) (ht : Tx (L c.toNat).2 e c.toNat) : Leads L (e, []) cs m :=
  ⟨cs, m, rfl, hg, h.gm, fun k hk => (h.mem k hk).trans (hv k hk).symm, two_cores hc ⟨(h.self hc).out.trans hout.symm, fun _ => ht⟩ ho⟩
theorem count_i {n : Int} (h : 0 ≤ n ∧ n < 399) : (wrap64 (n + 1)).toNat = n.toNat + 1 := by
  rw [wrap_id (by omega)]
  omega
/-- One more instruction of a transaction. -/
theorem tx_ext {l : List instrT.D} {o : Nat} (h : Tx l d o) (hcnt : 0 ≤ (d.1 o).2.2.2.2.2 ∧ (d.1 o).2.2.2.2.2 < 399) (hr : RK o d e) (hv : ∀ k : Nat, k < 32 → valF e (k : Int) = valF d (k : Int)) (hwas : (e.1 o).2.2.2.1 = (d.1 o).2.2.2.1) (hc : (e.1 o).2.2.2.2.2 = wrap64 ((d.1 o).2.2.2.2.2 + 1))
    (hp : 0 < (e.1 o).2.2.1) (hi : ∀ v : Nat → Int, (∀ k : Nat, k < 32 → rdW e o k → v k = valF d (k : Int)) → insideF ((d.1 o).1, ov (d.1 o).2.2.2.2.1.2 v) (fetchF l (d.1 o).1) (d.1 o).2.2.1 = (((e.1 o).1, ov (e.1 o).2.2.2.2.1.2 v), (e.1 o).2.2.1, true)) : Tx l e o := ⟨fun v hv' => by
  have h0 : ∀ k : Nat, k < 32 → rdW e o k → v k = valF d (k : Int) := fun k hk hk' => (hv' k hk hk').trans (hv k hk)
  have h1 := h.run v fun k hk hk' => h0 k hk (hr.rdW hk')
  have h2 := hi v h0
  have h3 := part_snoc _ _ _ _ _ h1 (by rw [h2]) (by rw [h2]; exact hp)
  rw [h2] at h3
  rw [hc, count_i hcnt, hwas]
  exact h3⟩
/-- A core's lines are as they were. -/
theorem rk_core {o : Nat} (h : (e.1 o).2.1 = (d.1 o).2.1) : RK o d e := fun w hw hr => by
  have : lineAt e o w = lineAt d o w := by unfold lineAt; rw [h]
  unfold rdAt
  rw [this]
  exact ⟨hr, rfl⟩
/-- One more instruction that touches no word: the core is another one, counted. -/
theorem leads_in (h : Ser L d cs m) (hc : 0 ≤ c ∧ c < 2) (hd : (d.1 c.toNat).2.2.1 ≠ 0) (h9 : (d.1 c.toNat).2.2.2.2.2 ≠ 399) {x : coreT.D} (hw : CoreW x) (hx : x.2.1 = (d.1 c.toNat).2.1) (hx0 : x.2.2.1 ≠ 0) (hwas : x.2.2.2.1 = (d.1 c.toNat).2.2.2.1) (hcn : x.2.2.2.2.2 = (d.1 c.toNat).2.2.2.2.2)
    (hi : ∀ v : Nat → Int, insideF ((d.1 c.toNat).1, ov (d.1 c.toNat).2.2.2.2.1.2 v) (fetchF (L c.toNat).2 (d.1 c.toNat).1) (d.1 c.toNat).2.2.1 = ((x.1, ov x.2.2.2.2.1.2 v), x.2.2.1, true)) : Leads L (setCore d c.toNat (cntC x), []) cs m := by
  have hk : CoreOk (d.1 c.toNat) := core_ok hc h.good
  have hl := lk_cnt hc h.good hw hx
  have hcnt : cntC x = bump x := if_neg hx0
  have he : (setCore d c.toNat (cntC x)).1 c.toNat = bump x := by rw [set_at, hcnt]
  have hv : ∀ k : Nat, k < 32 → valF (setCore d c.toNat (cntC x)) (k : Int) = valF d (k : Int) := fun k _ => hl.val _ id
  refine leads_tx h hc hl.good hv ((h.oth hc).core (set_ne _ _ (by omega)) hv) ?_ ?_
  · rw [he, outP_1 hk hd]
    unfold outP
    rw [if_pos (show 0 < (bump x).2.2.1 from deep_i3 hw.lo hx0)]
    exact hwas
  · have hn := hk.ins hd
    refine tx_ext ((h.self hc).tx hd) (cnt_i1 h9 hn.2.2.2.1) (rk_core (by rw [he]; exact hx)) hv (by rw [he]; exact hwas) (by rw [he]; show wrap64 (x.2.2.2.2.2 + 1) = _; rw [hcn]) (by rw [he]; exact deep_i3 hw.lo hx0) fun v _ => ?_
    rw [he]
    exact hi v
/-- Outside of transactions: an instruction is recorded, behind what failed by it. -/
theorem leads_one {x : deskT.D × Rec} {rs' : Rec} {cs1 : Nat → plainT.D} {p : plainT.D} {m' : Nat → Int} (h : Ser L d cs m) (hc : 0 ≤ c ∧ c < 2) (hd : (d.1 c.toNat).2.2.1 = 0) (hoff : (d.1 c.toNat).1.2.2 = false)
    (hx : x.2 = rs' ++ [(1, c, 0)]) (hr : ∀ m, goRep L rs' cs m = .ok (cs1, m)) (hcs : cs1 c.toNat = cs c.toNat) (hne : (fetchF (L c.toNat).2 (d.1 c.toNat).1).1 ≠ 9)
    (hone : (if (doneF ((d.1 c.toNat).1, m) (fetchF (L c.toNat).2 (d.1 c.toNat).1)).2 = true then ((doneF ((d.1 c.toNat).1, m) (fetchF (L c.toNat).2 (d.1 c.toNat).1)).1.1, (doneF ((d.1 c.toNat).1, m) (fetchF (L c.toNat).2 (d.1 c.toNat).1)).1.2, 0) else ((((d.1 c.toNat).1.1, (d.1 c.toNat).1.2.1, true), m, 0) : plainT.D × (Nat → Int) × Int)) = (p, m', 0))
    (hg : goodK x.1 = true) (hm' : goodM m' = true) (hv : ∀ k : Nat, k < 32 → m' k = valF x.1 (k : Int)) (hnow : (x.1.1 c.toNat).1 = p) (h0 : (x.1.1 c.toNat).2.2.1 = 0) (ho : OthOk L cs1 x.1 (1 - c).toNat) : Leads L x cs m := by
  have hk : CoreOk (d.1 c.toNat) := core_ok hc h.good
  refine ⟨updA cs1 c.toNat p, m', ?_, hg, hm', hv, two_cores hc ⟨?_, fun g => absurd h0 g⟩ (ho.upd (by omega))⟩
  · rw [hx, rep_app rs' _ cs m cs1 m (hr m)]
    refine rep_one (r := (1, c, 0)) hc ?_
    unfold againF
    rw [if_pos rfl]
    show oneF (L c.toNat).2 (cs1 c.toNat) m = _
    rw [hcs, (h.self hc).out, outP_0 hd]
    unfold oneF
    rw [if_pos (ready_ok h.gm hk.now hoff), if_neg hne]
    exact hone
  · rw [updA_at, outP_0 h0]
    exact hnow.symm
end
end Go.Proofs.YtjbbgpacijageabGreat.M

/- What a step records leads, done on a plain memory, to where the step leads: each kind of instruction. -/
namespace Go.Proofs.YtjbbgpacijageabGreat.M
open Go.RowKit
set_option linter.unusedVariables false
set_option linter.unusedSimpArgs false

theorem op_cases {j : Int} (h1 : 1 ≤ j) (h2 : j ≤ 12) (h : ¬ (j = 5 ∨ j = 6 ∨ j = 7)) (h9 : j ≠ 9) (h10 : j ≠ 10) (h11 : j ≠ 11) : j = 1 ∨ j = 2 ∨ j = 3 ∨ j = 4 ∨ j = 8 ∨ j = 12 := by omega
theorem i_lt3 {n : Int} (h : n ≤ 3) (g : n ≠ 3) : n < 3 := by omega
theorem i_why {n : Int} (h : 0 ≤ n ∧ n ≤ 4294967295) : 0 ≤ wrap64 (0 + (if 1000 < n then 1000 else n)) ∧ wrap64 (0 + (if 1000 < n then 1000 else n)) ≤ 4294967295 := by
  have : 0 ≤ (if 1000 < n then 1000 else n) ∧ (if 1000 < n then 1000 else n) ≤ 1000 := by split <;> omega
  rw [wrap_id (by omega)]
  omega
theorem i_one {n : Int} (h : 0 ≤ n) (h0 : n ≠ 0) (h1 : ¬ 1 < n) : n = 1 := by omega
theorem i_c1 {n : Int} (h : 1 ≤ n ∧ n < 400) : wrap64 (n + 1) = n + 1 := wrap_id (by omega)
theorem i_c2 {n : Int} (h : 1 ≤ n ∧ n < 400) : 2 ≤ n + 1 ∧ n + 1 ≤ 400 := by omega
theorem i_c3 {n : Int} (h : 1 ≤ n ∧ n < 400) : (n + 1).toNat = n.toNat + 1 := by omega
section
variable {L : progsT.D} {d e : deskT.D} {cs : Nat → plainT.D} {m : Nat → Int} {c : Int}
/-- Outside of transactions, a core is another one. -/
theorem leads_set0 (h : Ser L d cs m) (hc : 0 ≤ c ∧ c < 2) (hd : (d.1 c.toNat).2.2.1 = 0) (hoff : (d.1 c.toNat).1.2.2 = false) {p : plainT.D} (hp : goodP p = true) (hne : (fetchF (L c.toNat).2 (d.1 c.toNat).1).1 ≠ 9)
    (hone : (if (doneF ((d.1 c.toNat).1, m) (fetchF (L c.toNat).2 (d.1 c.toNat).1)).2 = true then ((doneF ((d.1 c.toNat).1, m) (fetchF (L c.toNat).2 (d.1 c.toNat).1)).1.1, (doneF ((d.1 c.toNat).1, m) (fetchF (L c.toNat).2 (d.1 c.toNat).1)).1.2, 0) else ((((d.1 c.toNat).1.1, (d.1 c.toNat).1.2.1, true), m, 0) : plainT.D × (Nat → Int) × Int)) = (p, m, 0)) :
    Leads L (setCore d c.toNat (p, (d.1 c.toNat).2), [(1, c, 0)]) cs m := by
  have hk := core_ok hc h.good
  have hw : CoreW (p, (d.1 c.toNat).2) := (hk.weak (zero_count hk hd)).set hp (fun g => absurd hd g)
  have hl := lk_cnt hc h.good hw rfl
  have hcnt : cntC (p, (d.1 c.toNat).2) = (p, (d.1 c.toNat).2) := if_pos hd
  rw [hcnt] at hl
  exact leads_one (x := (setCore d c.toNat (p, (d.1 c.toNat).2), [(1, c, 0)])) (rs' := []) (cs1 := cs) h hc hd hoff rfl (fun m => rfl) rfl hne hone hl.good h.gm (fun k hk => (h.mem k hk).trans (hl.val _ id).symm) (by rw [set_at]) (by rw [set_at]; exact hd) ((h.oth hc).core (set_ne _ _ (by omega)) fun k _ => hl.val _ id)
theorem stuck0_eq (hd : (d.1 c.toNat).2.2.1 = 0) : stuckF d L c = (setCore d c.toNat (((d.1 c.toNat).1.1, (d.1 c.toNat).1.2.1, true), (d.1 c.toNat).2), [(1, c, 0)]) := by
  unfold stuckF
  rw [if_neg (by rw [hd]; decide)]
  unfold withNow
  rw [count_set]
  show (setCore d c.toNat (cntC _), if (d.1 c.toNat).2.2.1 = 0 then _ else _) = _
  rw [if_pos hd]
  unfold cntC
  rw [if_pos hd]
theorem leads_stuck (h : Ser L d cs m) (hc : 0 ≤ c ∧ c < 2) (hoff : (d.1 c.toNat).1.2.2 = false) (hne : (fetchF (L c.toNat).2 (d.1 c.toNat).1).1 ≠ 9)
    (hno : (d.1 c.toNat).2.2.1 = 0 → (doneF ((d.1 c.toNat).1, m) (fetchF (L c.toNat).2 (d.1 c.toNat).1)).2 = false) : Leads L (stuckF d L c) cs m := by
  by_cases hd : (d.1 c.toNat).2.2.1 = 0
  · rw [stuck0_eq hd]
    refine leads_set0 h hc hd hoff (goodP_off (core_ok hc h.good).now true) hne ?_
    rw [if_neg (by rw [hno hd]; decide)]
  · unfold stuckF
    rw [if_pos (deep_i3 (core_ok hc h.good).lo hd)]
    exact leads_fail h hc hd (by decide)
theorem alone_zero {p : plainT.D} {i : instrT.D} (hp : goodP p = true) (hi : goodI i = true) (ho : p.2.2 = false) (h : ¬ (i.1 = 5 ∨ i.1 = 6 ∨ i.1 = 7)) (h9 : i.1 ≠ 9) (h10 : i.1 ≠ 10) (h11 : i.1 ≠ 11) : (aloneF p i).2 = 0 := by
  have hr : 1 ≤ i.1 ∧ i.1 ≤ 12 := by
    unfold goodI at hi
    simp only [Bool.and_eq_true, decide_eq_true_eq] at hi
    exact hi.1
  unfold aloneF
  rw [if_pos ⟨hi, hp⟩, if_neg (by rw [ho]; decide)]
  rcases op_cases hr.1 hr.2 h h9 h10 h11 with g | g | g | g | g | g <;> rw [g] <;> rfl
theorem alone_three {p : plainT.D} {i : instrT.D} (hp : goodP p = true) (hi : goodI i = true) (ho : p.2.2 = false) (h : i.1 = 10 ∨ i.1 = 11) {m : Nat → Int} : (doneF (p, m) i).2 = false := by
  unfold doneF
  rw [if_neg (by rcases h with h | h <;> rw [h] <;> decide)]
  show decide ((aloneF p i).2 = 0) = false
  unfold aloneF
  rw [if_pos ⟨hi, hp⟩, if_neg (by rw [ho]; decide)]
  rcases h with h | h <;> rw [h] <;> rfl
theorem leads_alone (h : Ser L d cs m) (hc : 0 ≤ c ∧ c < 2) (hoff : (d.1 c.toNat).1.2.2 = false) (hcnt9 : (d.1 c.toNat).2.2.2.2.2 ≠ 399) (hn : ¬ ((fetchF (L c.toNat).2 (d.1 c.toNat).1).1 = 5 ∨ (fetchF (L c.toNat).2 (d.1 c.toNat).1).1 = 6 ∨ (fetchF (L c.toNat).2 (d.1 c.toNat).1).1 = 7)) (h9 : (fetchF (L c.toNat).2 (d.1 c.toNat).1).1 ≠ 9) (h10 : (fetchF (L c.toNat).2 (d.1 c.toNat).1).1 ≠ 10) (h11 : (fetchF (L c.toNat).2 (d.1 c.toNat).1).1 ≠ 11) :
    Leads L (aloneT d L c (fetchF (L c.toNat).2 (d.1 c.toNat).1)) cs m := by
  have hk := core_ok hc h.good
  have hi := fetch_ok (L c.toNat).2 (d.1 c.toNat).1
  generalize hI : fetchF (L c.toNat).2 (d.1 c.toNat).1 = i at *
  have hz := alone_zero hk.now hi hoff hn h9 h10 h11
  unfold aloneT
  by_cases hd : (d.1 c.toNat).2.2.1 = 0
  · rw [if_neg (fun g => absurd g.2 (by rw [hd]; decide))]
    unfold withNow
    rw [count_set]
    rw [show (cntC ((aloneF (d.1 c.toNat).1 i).1, (d.1 c.toNat).2) : coreT.D) = ((aloneF (d.1 c.toNat).1 i).1, (d.1 c.toNat).2) from if_pos hd, if_pos (show (((aloneF (d.1 c.toNat).1 i).1, (d.1 c.toNat).2) : coreT.D).2.2.1 = 0 from hd)]
    refine leads_set0 h hc hd hoff (alone_any hk.now hi hoff) (by rw [hI]; exact h9) ?_
    rw [hI]
    unfold doneF
    rw [if_neg hn]
    show (if decide ((aloneF (d.1 c.toNat).1 i).2 = 0) = true then _ else _) = _
    rw [hz, if_pos (by decide)]
  · by_cases h12 : i.1 = 12
    · rw [if_pos ⟨h12, deep_i3 hk.lo hd⟩]
      exact leads_stuck h hc hoff (by rw [hI]; exact h9) (fun g => absurd g hd)
    · rw [if_neg (fun g => h12 g.1)]
      unfold withNow
      rw [count_set]
      rw [if_neg (show ¬ (((aloneF (d.1 c.toNat).1 i).1, (d.1 c.toNat).2) : coreT.D).2.2.1 = 0 from hd)]
      have ha := good_alone hk.now hi h12 hoff
      refine leads_in h hc hd hcnt9 ((hk.weak hcnt9).set ha.1 fun _ => ha.2) rfl hd rfl rfl fun v => ?_
      rw [hI]
      unfold insideF
      rw [if_neg h9, if_neg h10, if_neg (by rintro (g | g); exact h11 g; exact h12 g)]
      unfold doneF
      rw [if_neg hn]
      show ((((aloneF (d.1 c.toNat).1 i).1, _), _, decide ((aloneF (d.1 c.toNat).1 i).2 = 0)) : stT.D × Int × Bool) = _
      rw [hz]
      rfl
theorem leads_begin (h : Ser L d cs m) (hc : 0 ≤ c ∧ c < 2) (hoff : (d.1 c.toNat).1.2.2 = false) (hcnt9 : (d.1 c.toNat).2.2.2.2.2 ≠ 399) (h9 : (fetchF (L c.toNat).2 (d.1 c.toNat).1).1 = 9) : Leads L (beginF d L c) cs m := by
  have hk := core_ok hc h.good
  unfold beginF
  by_cases h3 : (d.1 c.toNat).2.2.1 = 3
  · rw [if_pos h3]
    exact leads_fail h hc (by rw [h3]; decide) (by decide)
  · rw [if_neg h3, on_set]
    obtain ⟨i1, i2, i3⟩ := deep_i1 hk.lo hk.hi h3
    rw [if_neg (show ¬ (beganC (d.1 c.toNat)).2.2.1 = 0 from i3)]
    have hw := (began_w hk hcnt9 hoff h3).next
    by_cases hd : (d.1 c.toNat).2.2.1 = 0
    · have hl := lk_cnt hc h.good hw rfl
      have hcn : cntC (nextF (beganC (d.1 c.toNat)).1, (beganC (d.1 c.toNat)).2) = bump (nextF (beganC (d.1 c.toNat)).1, (beganC (d.1 c.toNat)).2) := if_neg i3
      have he : (setCore d c.toNat (cntC (nextF (beganC (d.1 c.toNat)).1, (beganC (d.1 c.toNat)).2))).1 c.toNat = bump (nextF (beganC (d.1 c.toNat)).1, (beganC (d.1 c.toNat)).2) := by rw [set_at, hcn]
      have hv : ∀ k : Nat, k < 32 → valF (setCore d c.toNat (cntC (nextF (beganC (d.1 c.toNat)).1, (beganC (d.1 c.toNat)).2))) (k : Int) = valF d (k : Int) := fun k _ => hl.val _ id
      have hwas : (bump (nextF (beganC (d.1 c.toNat)).1, (beganC (d.1 c.toNat)).2)).2.2.2.1 = (d.1 c.toNat).1 := if_pos hd
      have hdp : (bump (nextF (beganC (d.1 c.toNat)).1, (beganC (d.1 c.toNat)).2)).2.2.1 = 1 := by show wrap64 ((d.1 c.toNat).2.2.1 + 1) = 1; rw [hd]; rfl
      have hws : (bump (nextF (beganC (d.1 c.toNat)).1, (beganC (d.1 c.toNat)).2)).2.2.2.2.1.2 = [] := (hk.out hd).2.1
      have hct : (bump (nextF (beganC (d.1 c.toNat)).1, (beganC (d.1 c.toNat)).2)).2.2.2.2.2 = 1 := by show wrap64 ((d.1 c.toNat).2.2.2.2.2 + 1) = 1; rw [(hk.out hd).2.2.1]; rfl
      refine leads_tx h hc hl.good hv ((h.oth hc).core (set_ne _ _ (by omega)) hv) ?_ ⟨fun v _ => ?_⟩
      · rw [he, outP_0 hd]
        unfold outP
        rw [hdp, if_pos (by decide), hwas]
      · rw [he, hwas, hdp, hws, hct]
        show goPart (L c.toNat).2 1 ((d.1 c.toNat).1, v) 0 = some ((nextF (d.1 c.toNat).1, v), 1)
        have hin : insideF ((d.1 c.toNat).1, v) (fetchF (L c.toNat).2 (d.1 c.toNat).1) 0 = ((nextF (d.1 c.toNat).1, v), 1, true) := by
          unfold insideF
          rw [if_pos h9]
          rfl
        unfold goPart
        rw [show (((d.1 c.toNat).1, v) : stT.D).1 = (d.1 c.toNat).1 from rfl, hin, if_pos ⟨rfl, (by show (0 : Int) < 1; decide)⟩]
        rfl
    · refine leads_in h hc hd hcnt9 hw rfl i3 (if_neg hd) rfl fun v => ?_
      unfold insideF
      rw [if_pos h9, show decide ((d.1 c.toNat).2.2.1 < 3) = true from decide_eq_true (i_lt3 hk.hi h3)]
      rfl
theorem leads_give (h : Ser L d cs m) (hc : 0 ≤ c ∧ c < 2) (hoff : (d.1 c.toNat).1.2.2 = false) (h11 : (fetchF (L c.toNat).2 (d.1 c.toNat).1).1 = 11) : Leads L (giveF d L c (fetchF (L c.toNat).2 (d.1 c.toNat).1).2.2.2.2) cs m := by
  have hk := core_ok hc h.good
  unfold giveF
  by_cases hd : (d.1 c.toNat).2.2.1 = 0
  · rw [if_pos hd]
    exact leads_stuck h hc hoff (by rw [h11]; decide) (fun _ => alone_three hk.now (fetch_ok _ _) hoff (Or.inr h11))
  · rw [if_neg hd]
    refine leads_fail h hc hd ?_
    have hn := goodI_n (fetch_ok (L c.toNat).2 (d.1 c.toNat).1)
    have hn' : 0 ≤ (fetchF (L c.toNat).2 (d.1 c.toNat).1).2.2.2.2 ∧ (fetchF (L c.toNat).2 (d.1 c.toNat).1).2.2.2.2 ≤ 4294967295 := of_decide_eq_true hn
    exact i_why hn'
theorem leads_end (h : Ser L d cs m) (hc : 0 ≤ c ∧ c < 2) (hoff : (d.1 c.toNat).1.2.2 = false) (hcnt9 : (d.1 c.toNat).2.2.2.2.2 ≠ 399) (h10 : (fetchF (L c.toNat).2 (d.1 c.toNat).1).1 = 10) : Leads L (endF d L c) cs m := by
  have hk := core_ok hc h.good
  unfold endF
  by_cases hd : (d.1 c.toNat).2.2.1 = 0
  · rw [if_pos hd]
    exact leads_stuck h hc hoff (by rw [h10]; decide) (fun _ => alone_three hk.now (fetch_ok _ _) hoff (Or.inl h10))
  · rw [if_neg hd]
    by_cases h1 : 1 < (d.1 c.toNat).2.2.1
    · rw [if_pos h1, on_set]
      obtain ⟨i1, i2, i3⟩ := deep_i2 h1 hk.hi
      have hw : CoreW (downC (d.1 c.toNat)) := ⟨hk.now, i1, i2, fun g => absurd g i3, fun _ => (hk.weak hcnt9).ins hd⟩
      rw [if_neg (show ¬ (downC (d.1 c.toNat)).2.2.1 = 0 from i3)]
      refine leads_in h hc hd hcnt9 hw.next rfl i3 rfl rfl fun v => ?_
      unfold insideF
      rw [if_neg (by rw [h10]; decide), if_pos h10]
      rfl
    · rw [if_neg h1]
      have hdp : (d.1 c.toNat).2.2.1 = 1 := i_one hk.lo hd h1
      obtain ⟨g1, g2, g3, g4, g5⟩ := hk.ins hd
      have h2 : Lk c d (endedD d c) false noT := lk_set hc h.good (free_ok (good_next hk.now)) (sameL_freed (goodK_D h.good))
      have ho : OthOk L cs (endedD d c) (1 - c).toNat := (h.oth hc).core (set_ne _ _ (by omega)) fun k _ => h2.val _ id
      obtain ⟨rs', cs', e1, e2, e3, e4, e5, e6, e7⟩ := all_oth hc (wsOf d c) (endedD d c) [] cs h2.good ho fun w hw => ws_mem g5 w hw
      have htx := ((h.self hc).tx hd).run m fun k hk' _ => h.mem k hk'
      obtain ⟨n, hn⟩ := count_pos hk hd
      have hin : insideF ((d.1 c.toNat).1, ov (d.1 c.toNat).2.2.2.2.1.2 m) (fetchF (L c.toNat).2 (d.1 c.toNat).1) 1 = ((nextF (d.1 c.toNat).1, ov (d.1 c.toNat).2.2.2.2.1.2 m), 0, true) := by
        unfold insideF
        rw [if_neg (by rw [h10]; decide), if_pos h10]
        rfl
      rw [hdp] at htx
      have hall := all_of_part _ _ _ _ _ htx (by show (insideF ((d.1 c.toNat).1, _) (fetchF (L c.toNat).2 (d.1 c.toNat).1) 1).2.2 = true; rw [hin]) (by show ¬ 0 < (insideF ((d.1 c.toNat).1, _) (fetchF (L c.toNat).2 (d.1 c.toNat).1) 1).2.1; rw [hin]; show ¬ (0 : Int) < 0; decide)
      rw [show (((d.1 c.toNat).1, ov (d.1 c.toNat).2.2.2.2.1.2 m) : stT.D).1 = (d.1 c.toNat).1 from rfl, hin] at hall
      have hcnt : wrap64 ((d.1 c.toNat).2.2.2.2.2 + 1) = (d.1 c.toNat).2.2.2.2.2 + 1 := i_c1 g4
      have hgm : goodM (ov (d.1 c.toNat).2.2.2.2.1.2 m) = true := by
        rw [goodM_iff]
        intro k hk'
        by_cases he : ∃ w ∈ (d.1 c.toNat).2.2.2.2.1.2, w.1.toNat = k
        · obtain ⟨w, hm, rfl⟩ := he
          rw [ov_some _ _ w (ws_pair g5) hm]
          exact decide_eq_true (ws_mem g5 w hm).2
        · rw [ov_none _ _ k (fun w hm g => he ⟨w, hm, g⟩)]
          exact (goodM_iff m).1 h.gm k hk'
      refine ⟨updA cs' c.toNat (nextF (d.1 c.toNat).1), ov (d.1 c.toNat).2.2.2.2.1.2 m, ?_, e5, hgm, fun k hk' => ?_, two_cores hc ⟨?_, fun g => ?_⟩ (e3.upd (by omega))⟩
      · show goRep L ((putsAll (endedD d c, []) L c (wsOf d c)).2 ++ [(2, c, wrap64 ((d.1 c.toNat).2.2.2.2.2 + 1))]) cs m = _
        rw [e1, List.nil_append, rep_app rs' _ cs m cs' m (e2 m)]
        refine rep_one (r := (2, c, wrap64 ((d.1 c.toNat).2.2.2.2.2 + 1))) hc ?_
        unfold againF
        rw [if_neg (by show ¬ (2 : Int) = 1; decide), if_pos rfl]
        show allF (L c.toNat).2 (cs' c.toNat) m (wrap64 ((d.1 c.toNat).2.2.2.2.2 + 1)) = _
        rw [e4, (h.self hc).out, outP_1 hk hd, hcnt]
        unfold allF
        have hc2 : ((d.1 c.toNat).2.2.2.2.2 + 1).toNat = (d.1 c.toNat).2.2.2.2.2.toNat + 1 := i_c3 g4
        rw [if_pos (ready_ok h.gm g1 g2), if_pos (i_c2 g4), hc2, hall]
      · rw [ov_congr _ m (fun q => valF (endedD d c) (q : Int)) k ((h.mem k hk').trans (h2.val _ id).symm)]
        exact (e7 k hk').symm
      · have hz : ((endedD d c).1 c.toNat).2.2.1 = 0 := by rw [show (endedD d c).1 c.toNat = _ from set_at _ _ _]; rfl
        rw [updA_at, outP_0 (by rw [e6.2]; exact hz), e6.1]
        rw [show (endedD d c).1 c.toNat = _ from set_at _ _ _]
        rfl
      · exact absurd (by rw [e6.2, show (endedD d c).1 c.toNat = _ from set_at _ _ _]; rfl) g
end
end Go.Proofs.YtjbbgpacijageabGreat.M

/- What an act records leads, done on a plain memory, to where the act leads. -/
namespace Go.Proofs.YtjbbgpacijageabGreat.M
open Go.RowKit
set_option linter.unusedVariables false
set_option linter.unusedSimpArgs false

section
variable {L : progsT.D} {d e : deskT.D} {cs : Nat → plainT.D} {m : Nat → Int} {c : Int}
theorem mem_at (h : Ser L d cs m) {word : Int} (hw : 0 ≤ word ∧ word < 32) : m word.toNat = valF d word := by
  have := h.mem word.toNat (by omega)
  rw [Int.toNat_of_nonneg hw.1] at this
  exact this
def hadP (d : deskT.D) (c : Int) (i : instrT.D) (word : Int) : plainT.D := if i.1 ≠ 6 then putF (d.1 c.toNat).1 i.2.1 (valF d word) else (d.1 c.toNat).1
theorem had_eq (d : deskT.D) (c : Int) (i : instrT.D) (word : Int) : hadF d c i word = setCore d c.toNat (hadP d c i word, (d.1 c.toNat).2) := by
  unfold hadF hadP
  split
  · rfl
  · exact (set_self d c.toNat).symm
theorem line_rng {word : Int} (hw : 0 ≤ word ∧ word < 32) : 0 ≤ lineOf word ∧ lineOf word < 16 := by
  obtain ⟨w, rfl⟩ : ∃ w : Nat, word = (w : Int) := ⟨word.toNat, by omega⟩
  rw [lineOf_nat (by omega)]
  omega
theorem goodM_upd {m : Nat → Int} (h : goodM m = true) {n : Int} (hn : isW n = true) (k : Nat) : goodM (updA m k n) = true := by
  rw [goodM_iff] at h ⊢
  intro q hq
  unfold updA
  split
  · exact hn
  · exact h q hq
theorem leads_out (h : Ser L d cs m) (hc : 0 ≤ c ∧ c < 2) (hoff : (d.1 c.toNat).1.2.2 = false) (hd : (d.1 c.toNat).2.2.1 = 0) (hi : (fetchF (L c.toNat).2 (d.1 c.toNat).1).1 = 5 ∨ (fetchF (L c.toNat).2 (d.1 c.toNat).1).1 = 6 ∨ (fetchF (L c.toNat).2 (d.1 c.toNat).1).1 = 7)
    (hw : wordF (d.1 c.toNat).1 (fetchF (L c.toNat).2 (d.1 c.toNat).1) < 32) : Leads L (outF d L c (fetchF (L c.toNat).2 (d.1 c.toNat).1) (wordF (d.1 c.toNat).1 (fetchF (L c.toNat).2 (d.1 c.toNat).1))) cs m := by
  have hk := core_ok hc h.good
  have hne : (fetchF (L c.toNat).2 (d.1 c.toNat).1).1 ≠ 9 := by rcases hi with g | g | g <;> rw [g] <;> decide
  have hdone : doneF ((d.1 c.toNat).1, m) (fetchF (L c.toNat).2 (d.1 c.toNat).1) = touchF ((d.1 c.toNat).1, m) (fetchF (L c.toNat).2 (d.1 c.toNat).1) := by unfold doneF; rw [if_pos hi]
  generalize hI : fetchF (L c.toNat).2 (d.1 c.toNat).1 = i at *
  generalize hW : wordF (d.1 c.toNat).1 i = word at *
  have hw : 0 ≤ word ∧ word < 32 := ⟨by rw [← hW]; exact (wd_rng _).1, hw⟩
  have htouch : touchF ((d.1 c.toNat).1, m) i = ((nextF (hadP d c i word), if i.1 ≠ 5 then updA m word.toNat (getF (d.1 c.toNat).1 i.2.1) else m), true) := by
    unfold touchF hadP
    show (if wordF (d.1 c.toNat).1 i < 32 then (((nextF (if i.1 ≠ 6 then putF (d.1 c.toNat).1 i.2.1 (m (wordF (d.1 c.toNat).1 i).toNat) else (d.1 c.toNat).1), if i.1 ≠ 5 then updA m (wordF (d.1 c.toNat).1 i).toNat (getF (d.1 c.toNat).1 i.2.1) else m), true) : stT.D × Bool) else _) = _
    rw [hW, if_pos hw.2, mem_at h hw]
  have hone : ∀ m', m' = (if i.1 ≠ 5 then updA m word.toNat (getF (d.1 c.toNat).1 i.2.1) else m) → (if (doneF ((d.1 c.toNat).1, m) i).2 = true then ((doneF ((d.1 c.toNat).1, m) i).1.1, (doneF ((d.1 c.toNat).1, m) i).1.2, 0) else ((((d.1 c.toNat).1.1, (d.1 c.toNat).1.2.1, true), m, 0) : plainT.D × (Nat → Int) × Int)) = (nextF (hadP d c i word), m', 0) := fun m' hm' => by
    rw [hdone, htouch, if_pos rfl, hm']
  have hp1 : goodP (hadP d c i word) = true := by
    unfold hadP
    split
    · exact good_put hk.now _ _
    · exact hk.now
  have hW1 : CoreW (hadP d c i word, (d.1 c.toNat).2) := (hk.weak (zero_count hk hd)).set hp1 (fun g => absurd hd g)
  have hH := lk_cnt hc h.good hW1 rfl
  rw [show cntC (hadP d c i word, (d.1 c.toNat).2) = (hadP d c i word, (d.1 c.toNat).2) from if_pos hd, ← had_eq] at hH
  have hHc : (hadF d c i word).1 c.toNat = (hadP d c i word, (d.1 c.toNat).2) := by rw [had_eq, set_at]
  have hHo : (hadF d c i word).1 (1 - c).toNat = d.1 (1 - c).toNat := by rw [had_eq]; exact set_ne _ _ (by omega)
  have oH : OthOk L cs (hadF d c i word) (1 - c).toNat := (h.oth hc).core hHo fun k _ => hH.val _ id
  unfold outF
  by_cases h5 : i.1 = 5
  · rw [if_pos h5, on_self]
    have hS := lk_share (c := c) hH.good (lineOf word)
    have e1 := (share_core (hadF d c i word) c (lineOf word) c.toNat)
    rw [hHc] at e1
    have hd2 : ((shareF (hadF d c i word) c (lineOf word)).1 c.toNat).2.2.1 = 0 := by rw [e1.2]; exact hd
    have hkS := core_ok hc hS.good
    have h3 := lk_cnt hc hS.good (hkS.weak (zero_count hkS hd2)).next rfl
    rw [if_pos hd2]
    rw [show cntC (nextF ((shareF (hadF d c i word) c (lineOf word)).1 c.toNat).1, ((shareF (hadF d c i word) c (lineOf word)).1 c.toNat).2) = (nextF ((shareF (hadF d c i word) c (lineOf word)).1 c.toNat).1, ((shareF (hadF d c i word) c (lineOf word)).1 c.toNat).2) from if_pos hd2] at h3 ⊢
    have oS : OthOk L cs (shareF (hadF d c i word) c (lineOf word)) (1 - c).toNat := by
      have e2 := share_core (hadF d c i word) c (lineOf word) (1 - c).toNat
      exact oH.mv e2 (fun _ => rk_share fun g => absurd g (by omega)) (fun _ k hk _ => hS.val _ id)
    have hvv : ∀ k : Nat, valF (setCore (shareF (hadF d c i word) c (lineOf word)) c.toNat (nextF ((shareF (hadF d c i word) c (lineOf word)).1 c.toNat).1, ((shareF (hadF d c i word) c (lineOf word)).1 c.toNat).2)) (k : Int) = valF d (k : Int) := fun k => (h3.val _ id).trans ((hS.val _ id).trans (hH.val _ id))
    refine leads_one (x := (_, [(1, c, 0)])) (rs' := []) (cs1 := cs) (p := nextF (hadP d c i word)) (m' := m) h hc hd hoff rfl (fun m => rfl) rfl (by rw [hI]; exact hne) (by rw [hI]; exact hone m (by rw [if_neg (fun g => g h5)])) h3.good h.gm (fun k hk => (h.mem k hk).trans (hvv k).symm) (by rw [set_at, e1.1]) (by rw [set_at]; exact hd2) (oS.core (set_ne _ _ (by omega)) fun k _ => h3.val _ id)
  · rw [if_neg h5]
    have hn : 0 ≤ getF (d.1 c.toNat).1 i.2.1 ∧ getF (d.1 c.toNat).1 i.2.1 ≤ 4294967295 := of_decide_eq_true (isW_get hk.now _)
    obtain ⟨rs', cs', e1, e2, e3, e4, e5, e6, e7⟩ := puts_oth hc hH.good oH hw hn []
    generalize hX : putsF (hadF d c i word, []) L c word (getF (d.1 c.toNat).1 i.2.1) = X at *
    unfold thenOn
    rw [on_self]
    rw [hHc] at e6
    have hd2 : (X.1.1 c.toNat).2.2.1 = 0 := by rw [e6.2]; exact hd
    have hkX := core_ok hc e5
    have h3 := lk_cnt hc e5 (hkX.weak (zero_count hkX hd2)).next rfl
    rw [if_pos hd2]
    rw [show cntC (nextF (X.1.1 c.toNat).1, (X.1.1 c.toNat).2) = (nextF (X.1.1 c.toNat).1, (X.1.1 c.toNat).2) from if_pos hd2] at h3 ⊢
    refine leads_one (x := (_, X.2 ++ [(1, c, 0)])) (rs' := rs') (cs1 := cs') (p := nextF (hadP d c i word)) (m' := updA m word.toNat (getF (d.1 c.toNat).1 i.2.1)) h hc hd hoff (by rw [e1, List.nil_append]) e2 e4 (by rw [hI]; exact hne) (by rw [hI]; exact hone _ (by rw [if_pos h5])) h3.good (goodM_upd h.gm (isW_get hk.now _) _) (fun k hk' => ?_) (by rw [set_at, e6.1]) (by rw [set_at]; exact hd2) (e3.core (set_ne _ _ (by omega)) fun k _ => h3.val _ id)
    rw [show valF _ (k : Int) = valF X.1 (k : Int) from h3.val _ id, e7 k hk']
    unfold updA
    split
    · rfl
    · exact (h.mem k hk').trans (hH.val _ id).symm
/-- What a transaction sees. -/
def sawV (d : deskT.D) (c : Int) (word : Int) : Int := if 0 ≤ atW (wsOf d c) word then (nthD writeT (wsOf d c) (atW (wsOf d c) word).toNat).2 else valF d word
def sawP (d : deskT.D) (c : Int) (i : instrT.D) (word : Int) : plainT.D := if i.1 ≠ 6 then putF (d.1 c.toNat).1 i.2.1 (sawV d c word) else (d.1 c.toNat).1
structure Mid2 (c : Int) (d e : deskT.D) (x : coreT.D) (i : instrT.D) (word : Int) : Prop where
  lk : Lk c d e false noT
  w : CoreW x
  lc : LC c.toNat e x
  rest : x.2.2 = (d.1 c.toNat).2.2
  now : x.1 = sawP d c i word
  rk : RK c.toNat d (setCore e c.toNat x)
  oth : sameX (e.1 (1 - c).toNat) (d.1 (1 - c).toNat)
  rko : RK (1 - c).toNat d e
  rd : i.1 ≠ 6 → atW (wsOf d c) word < 0 → rdW (setCore e c.toNat x) c.toNat word.toNat
theorem mid2 (hc : 0 ≤ c ∧ c < 2) (hg : goodK d = true) (h9 : (d.1 c.toNat).2.2.2.2.2 ≠ 399) (h0 : (d.1 c.toNat).2.2.1 ≠ 0) (i : instrT.D) {word : Int} (hw : 0 ≤ word ∧ word < 32) (hroom : roomF d c i word = false) : ∃ e x, seenF d c i word = setCore e c.toNat x ∧ Mid2 c d e x i word := by
  have hk := core_ok hc hg
  have ho : (d.1 c.toNat).1.2.2 = false := (hk.ins h0).2.2.1
  unfold seenF
  by_cases h6 : i.1 ≠ 6
  · rw [if_pos h6]
    unfold loadsF
    by_cases ha : 0 ≤ atW (wsOf d c) word
    · rw [if_pos ha]
      refine ⟨d, _, rfl, Lk.refl hg, (hk.weak h9).set (good_put hk.now _ _) (fun _ => by rw [off_put]; exact ho), lc_keep hg (by omega) rfl, rfl, ?_, rk_core (by rw [set_at]), ⟨rfl, rfl⟩, RK.refl _ _, fun _ g => by omega⟩
      unfold sawP sawV
      rw [if_pos h6, if_pos ha]
    · rw [if_neg ha]
      have hs := lk_share (c := c) hg (lineOf word)
      have hks := core_ok hc hs.good
      have e2 := share_core d c (lineOf word) c.toNat
      have h9' : ((shareF d c (lineOf word)).1 c.toNat).2.2.2.2.2 ≠ 399 := by rw [e2.2]; exact h9
      have h0' : ((shareF d c (lineOf word)).1 c.toNat).2.2.1 ≠ 0 := by rw [e2.2]; exact h0
      have hl := line_rng hw
      have hhas := (shareF_ok (goodK_D hg) c (lineOf word)).2.2 hc hl
      have hway : (findF (shareF d c (lineOf word)) c (lineOf word)).1.toNat = wayOf (lineOf word) := by rw [find_eq hc hl]; rfl
      have hLC : LC c.toNat (shareF d c (lineOf word)) (readC ((shareF d c (lineOf word)).1 c.toNat) (wayOf (lineOf word))) := fun w hw' => by
        show (updA ((shareF d c (lineOf word)).1 c.toNat).2.1 (wayOf (lineOf word)) _ w).1 = _ ∧ (updA ((shareF d c (lineOf word)).1 c.toNat).2.1 (wayOf (lineOf word)) _ w).2.1 = _ ∧ (updA ((shareF d c (lineOf word)).1 c.toNat).2.1 (wayOf (lineOf word)) _ w).2.2.1 = _ ∧ ((updA ((shareF d c (lineOf word)).1 c.toNat).2.1 (wayOf (lineOf word)) _ w).2.2.2 = true → _)
        by_cases e : w = wayOf (lineOf word)
        · rw [e, updA_at]
          exact ⟨rfl, rfl, rfl, fun _ => (of_decide_eq_true hhas : _ ∧ _).1⟩
        · rw [updA_ne e]
          exact ⟨rfl, rfl, rfl, fun hr => good_nz (goodK_D hs.good) c.toNat w (by omega) hw' hr⟩
      have hval : valF (readD d c (lineOf word)) word = valF d word := by
        unfold readD
        rw [hway]
        exact (val_same (sameL_set (goodK_D hs.good) hLC) word).trans (hs.val _ id)
      have hrk : RK c.toNat d (shareF d c (lineOf word)) := rk_share fun _ hno => by
        rw [← Bool.not_eq_true]
        intro hr
        unfold roomF at hroom
        rw [if_neg ha] at hroom
        rw [if_pos ⟨h6, by rw [find_eq hc hl]; exact hno, by rw [find_eq hc hl]; exact hr⟩] at hroom
        cases hroom
      unfold readD at hval ⊢
      rw [hway] at hval ⊢
      unfold withNow
      rw [set_at, set_twice]
      refine ⟨shareF d c (lineOf word), _, rfl, hs, ⟨good_put hks.now _ _, hks.lo, hks.hi, fun g => absurd g h0', fun _ => ?_⟩, hLC, e2.2, ?_, ?_, share_core d c (lineOf word) (1 - c).toNat, rk_share fun g => absurd g (by omega), fun _ _ => ?_⟩
      · obtain ⟨g1, g2, g3, g4, g5⟩ := (hks.weak h9').ins h0'
        exact ⟨g1, g2, by show (putF ((shareF d c (lineOf word)).1 c.toNat).1 _ _).2.2 = false; rw [off_put]; exact g3, g4, g5⟩
      · show putF ((shareF d c (lineOf word)).1 c.toNat).1 i.2.1 (valF _ word) = _
        rw [hval, e2.1]
        unfold sawP sawV
        rw [if_pos h6, if_neg ha]
      · refine hrk.trans fun w hw' hr => ?_
        show (((setCore (shareF d c (lineOf word)) c.toNat _).1 c.toNat).2.1 w).2.2.2 = true ∧ (((setCore (shareF d c (lineOf word)) c.toNat _).1 c.toNat).2.1 w).2.1 = _
        rw [set_at]
        show (updA ((shareF d c (lineOf word)).1 c.toNat).2.1 (wayOf (lineOf word)) _ w).2.2.2 = true ∧ (updA ((shareF d c (lineOf word)).1 c.toNat).2.1 (wayOf (lineOf word)) _ w).2.1 = _
        by_cases e : w = wayOf (lineOf word)
        · rw [e, updA_at]
          exact ⟨rfl, rfl⟩
        · rw [updA_ne e]
          exact ⟨hr, rfl⟩
      · refine ⟨wayOf (lineOf word), way_lt4 hl, ?_, ?_⟩
        · show (((setCore (shareF d c (lineOf word)) c.toNat _).1 c.toNat).2.1 (wayOf (lineOf word))).2.2.2 = true
          rw [set_at]
          show (updA ((shareF d c (lineOf word)).1 c.toNat).2.1 (wayOf (lineOf word)) _ (wayOf (lineOf word))).2.2.2 = true
          rw [updA_at]
        · show (((setCore (shareF d c (lineOf word)) c.toNat _).1 c.toNat).2.1 (wayOf (lineOf word))).2.1 = _
          rw [set_at]
          show (updA ((shareF d c (lineOf word)).1 c.toNat).2.1 (wayOf (lineOf word)) _ (wayOf (lineOf word))).2.1 = _
          rw [updA_at]
          have h7 : (lineAt (shareF d c (lineOf word)) c.toNat (wayOf (lineOf word))).2.1 = lineOf word := (of_decide_eq_true hhas : _ ∧ _).2
          refine Eq.trans h7 ?_
          have h8 := lineOf_nat (w := word.toNat) (by omega)
          rw [Int.toNat_of_nonneg hw.1] at h8
          exact h8
  · rw [if_neg h6]
    refine ⟨d, d.1 c.toNat, (set_self d _).symm, Lk.refl hg, hk.weak h9, lc_keep hg (by omega) rfl, rfl, ?_, rk_core (by rw [set_at]), ⟨rfl, rfl⟩, RK.refl _ _, fun g => absurd g h6⟩
    unfold sawP
    rw [if_neg h6]
def keepC (nn : Nat) (x : coreT.D) (i : instrT.D) (word had : Int) : coreT.D := if i.1 ≠ 5 then (x.1, x.2.1, x.2.2.1, x.2.2.2.1, (.nm nn, heldL x.2.2.2.2.1.2 (word, had)), x.2.2.2.2.2) else x
theorem kept_eq (nn : Nat) (e : deskT.D) (c : Int) (x : coreT.D) (i : instrT.D) (word had : Int) : keptF nn (setCore e c.toNat x) c i word had = setCore e c.toNat (keepC nn x i word had) := by
  unfold keptF keepC
  split
  · unfold putWs wsOf
    rw [set_at, set_twice]
  · rfl
theorem leads_inside {nn : Nat} (h : Ser L d cs m) (hc : 0 ≤ c ∧ c < 2) (hcnt9 : (d.1 c.toNat).2.2.2.2.2 ≠ 399) (hd : (d.1 c.toNat).2.2.1 ≠ 0) (hi : (fetchF (L c.toNat).2 (d.1 c.toNat).1).1 = 5 ∨ (fetchF (L c.toNat).2 (d.1 c.toNat).1).1 = 6 ∨ (fetchF (L c.toNat).2 (d.1 c.toNat).1).1 = 7)
    (hw : wordF (d.1 c.toNat).1 (fetchF (L c.toNat).2 (d.1 c.toNat).1) < 32) : Leads L (inF nn d L c (fetchF (L c.toNat).2 (d.1 c.toNat).1) (wordF (d.1 c.toNat).1 (fetchF (L c.toNat).2 (d.1 c.toNat).1))) cs m := by
  have hk := core_ok hc h.good
  have hne : (fetchF (L c.toNat).2 (d.1 c.toNat).1).1 ≠ 9 ∧ (fetchF (L c.toNat).2 (d.1 c.toNat).1).1 ≠ 10 ∧ ¬ ((fetchF (L c.toNat).2 (d.1 c.toNat).1).1 = 11 ∨ (fetchF (L c.toNat).2 (d.1 c.toNat).1).1 = 12) := by rcases hi with g | g | g <;> rw [g] <;> decide
  have hdone : ∀ v, doneF ((d.1 c.toNat).1, v) (fetchF (L c.toNat).2 (d.1 c.toNat).1) = touchF ((d.1 c.toNat).1, v) (fetchF (L c.toNat).2 (d.1 c.toNat).1) := fun v => by unfold doneF; rw [if_pos hi]
  generalize hI : fetchF (L c.toNat).2 (d.1 c.toNat).1 = i at *
  generalize hW : wordF (d.1 c.toNat).1 i = word at *
  have hw : 0 ≤ word ∧ word < 32 := ⟨by rw [← hW]; exact (wd_rng _).1, hw⟩
  unfold inF
  by_cases hroom : roomF d c i word = true
  · rw [if_pos hroom]
    exact leads_fail h hc hd (by decide)
  · rw [if_neg hroom]
    have hroom : roomF d c i word = false := by simpa using hroom
    obtain ⟨e, x, he, M⟩ := mid2 hc h.good hcnt9 hd i hw hroom
    rw [he, kept_eq, on_set]
    have hx0 : x.2.2.1 ≠ 0 := by rw [M.rest]; exact hd
    have hle : (wsOf d c).length ≤ 4 := good_ws h.good hc
    have hr4 : i.1 ≠ 5 → atW (wsOf d c) word < 0 → (wsOf d c).length < 4 := fun h5 ha => by
      unfold roomF at hroom
      rw [if_neg (by omega)] at hroom
      split at hroom
      · cases hroom
      · have : ¬ (i.1 ≠ 5 ∧ ((wsOf d c).length : Int) = 4) := fun g => by rw [decide_eq_true g] at hroom; cases hroom
        have : ¬ ((wsOf d c).length : Int) = 4 := fun g => this ⟨h5, g⟩
        omega
    have hgw : goodWs (wsOf d c) = true := (hk.ins hd).2.2.2.2
    have hws : x.2.2.2.2.1.2 = wsOf d c := by rw [M.rest]; rfl
    generalize hY : keepC nn x i word (getF (d.1 c.toNat).1 i.2.1) = y
    have y1 : y.1 = x.1 := by rw [← hY]; unfold keepC; split <;> rfl
    have y2 : y.2.1 = x.2.1 := by rw [← hY]; unfold keepC; split <;> rfl
    have y3 : y.2.2.1 = (d.1 c.toNat).2.2.1 := by rw [← hY]; unfold keepC; split <;> (show x.2.2.1 = _; rw [M.rest])
    have y4 : y.2.2.2.1 = (d.1 c.toNat).2.2.2.1 := by rw [← hY]; unfold keepC; split <;> (show x.2.2.2.1 = _; rw [M.rest])
    have y5 : y.2.2.2.2.1.2 = if i.1 ≠ 5 then heldL (wsOf d c) (word, getF (d.1 c.toNat).1 i.2.1) else wsOf d c := by
      rw [← hY]
      unfold keepC
      split
      · show heldL x.2.2.2.2.1.2 _ = _
        rw [hws]
      · exact hws
    have y6 : y.2.2.2.2.2 = (d.1 c.toNat).2.2.2.2.2 := by rw [← hY]; unfold keepC; split <;> (show x.2.2.2.2.2 = _; rw [M.rest])
    have yW : CoreW y := by
      refine ⟨by rw [y1]; exact M.w.now, by rw [y3]; exact hk.lo, by rw [y3]; exact hk.hi, fun g => absurd g (by rw [y3]; exact hd), fun _ => ?_⟩
      obtain ⟨g1, g2, g3, g4, g5⟩ := M.w.ins hx0
      have h1 := (hk.weak hcnt9).ins hd
      rw [y4, y1, y6, y5]
      refine ⟨h1.1, h1.2.1, g3, h1.2.2.2.1, ?_⟩
      split
      · rename_i h5
        exact ws_held hgw hw (isW_get hk.now _) (hr4 h5)
      · exact hgw
    have y0 : y.2.2.1 ≠ 0 := by rw [y3]; exact hd
    have hYn : cntC (nextF y.1, y.2) = bump (nextF y.1, y.2) := if_neg y0
    rw [if_neg (show ¬ y.2.2.1 = 0 from y0)]
    have hLC : LC c.toNat e (nextF y.1, y.2) := by
      intro w hw'
      show (y.2.1 w).1 = _ ∧ (y.2.1 w).2.1 = _ ∧ (y.2.1 w).2.2.1 = _ ∧ ((y.2.1 w).2.2.2 = true → _)
      rw [y2]
      exact M.lc w hw'
    have h3 : Lk c e (setCore e c.toNat (cntC (nextF y.1, y.2))) false noT := lk_set hc M.lk.good yW.next.cnt (sameL_set (goodK_D M.lk.good) (lc_cnt hLC))
    have hv : ∀ k : Nat, k < 32 → valF (setCore e c.toNat (cntC (nextF y.1, y.2))) (k : Int) = valF d (k : Int) := fun k _ => (h3.val _ id).trans (M.lk.val _ id)
    have hE : (setCore e c.toNat (cntC (nextF y.1, y.2))).1 c.toNat = bump (nextF y.1, y.2) := by rw [set_at, hYn]
    have oE : OthOk L cs e (1 - c).toNat := (h.oth hc).mv M.oth (fun _ => M.rko) (fun _ k _ _ => M.lk.val _ id)
    have hEx : RK c.toNat d (setCore e c.toNat (cntC (nextF y.1, y.2))) := M.rk.trans (rk_core (by rw [hE, set_at]; exact y2))
    refine leads_tx h hc h3.good hv (oE.core (set_ne _ _ (by omega)) fun k _ => h3.val _ id) ?_ (tx_ext ((h.self hc).tx hd) (cnt_i1 hcnt9 (hk.ins hd).2.2.2.1) hEx hv (by rw [hE]; exact y4) (by rw [hE]; show wrap64 (y.2.2.2.2.2 + 1) = _; rw [y6]) (by rw [hE]; exact deep_i3 yW.lo y0) fun v hv' => ?_)
    · rw [hE, outP_1 hk hd]
      unfold outP
      rw [if_pos (show 0 < (bump (nextF y.1, y.2)).2.2.1 from deep_i3 yW.lo y0)]
      exact y4
    · rw [hE, hI]
      show insideF ((d.1 c.toNat).1, ov (d.1 c.toNat).2.2.2.2.1.2 v) i (d.1 c.toNat).2.2.1 = ((nextF y.1, ov y.2.2.2.2.1.2 v), y.2.2.1, true)
      unfold insideF
      rw [if_neg hne.1, if_neg hne.2.1, if_neg hne.2.2, hdone]
      have hsaw : i.1 ≠ 6 → ov (wsOf d c) v word.toNat = sawV d c word := fun h6 => by
        rw [ov_at hgw v hw]
        unfold sawV
        by_cases ha : 0 ≤ atW (wsOf d c) word
        · rw [if_pos ha, if_pos ha]
        · rw [if_neg ha, if_neg ha]
          have hrd : rdW (setCore e c.toNat (cntC (nextF y.1, y.2))) c.toNat word.toNat := by
            obtain ⟨w, g1, g2, g3⟩ := M.rd h6 (by omega)
            refine ⟨w, g1, ?_, ?_⟩
            · unfold rdAt lineAt at g2 ⊢
              rw [hE]
              rw [set_at] at g2
              show (y.2.1 w).2.2.2 = true
              rw [y2]
              exact g2
            · unfold lineAt at g3 ⊢
              rw [hE]
              rw [set_at] at g3
              show (y.2.1 w).2.1 = _
              rw [y2]
              exact g3
          rw [hv' word.toNat (by omega) hrd, Int.toNat_of_nonneg hw.1]
      have ht : touchF ((d.1 c.toNat).1, ov (wsOf d c) v) i = ((nextF (sawP d c i word), if i.1 ≠ 5 then updA (ov (wsOf d c) v) word.toNat (getF (d.1 c.toNat).1 i.2.1) else ov (wsOf d c) v), true) := by
        unfold touchF
        show (if wordF (d.1 c.toNat).1 i < 32 then (((nextF (if i.1 ≠ 6 then putF (d.1 c.toNat).1 i.2.1 (ov (wsOf d c) v (wordF (d.1 c.toNat).1 i).toNat) else (d.1 c.toNat).1), if i.1 ≠ 5 then updA (ov (wsOf d c) v) (wordF (d.1 c.toNat).1 i).toNat (getF (d.1 c.toNat).1 i.2.1) else ov (wsOf d c) v), true) : stT.D × Bool) else _) = _
        rw [hW, if_pos hw.2]
        unfold sawP
        by_cases h6 : i.1 ≠ 6
        · rw [if_pos h6, if_pos h6, hsaw h6]
        · rw [if_neg h6, if_neg h6]
      show ((touchF ((d.1 c.toNat).1, ov (wsOf d c) v) i).1, (d.1 c.toNat).2.2.1, (touchF ((d.1 c.toNat).1, ov (wsOf d c) v) i).2) = _
      rw [ht, y1, M.now, y3, y5]
      by_cases h5 : i.1 ≠ 5
      · rw [if_pos h5, if_pos h5, ov_held hgw v hw]
      · rw [if_neg h5, if_neg h5]
theorem leads_steps {nn : Nat} (h : Ser L d cs m) (hc : 0 ≤ c ∧ c < 2) (hoff : (d.1 c.toNat).1.2.2 = false) : Leads L (stepsF nn d L c) cs m := by
  have hk := core_ok hc h.good
  unfold stepsF
  by_cases hcnt9 : (d.1 c.toNat).2.2.2.2.2 = 399
  · rw [if_pos hcnt9]
    exact leads_fail h hc (fun h0 => zero_count hk h0 hcnt9) (by decide)
  · rw [if_neg hcnt9]
    by_cases h9 : (fetchF (L c.toNat).2 (d.1 c.toNat).1).1 = 9
    · rw [if_pos h9]
      exact leads_begin h hc hoff hcnt9 h9
    · rw [if_neg h9]
      by_cases h10 : (fetchF (L c.toNat).2 (d.1 c.toNat).1).1 = 10
      · rw [if_pos h10]
        exact leads_end h hc hoff hcnt9 h10
      · rw [if_neg h10]
        by_cases h11 : (fetchF (L c.toNat).2 (d.1 c.toNat).1).1 = 11
        · rw [if_pos h11]
          exact leads_give h hc hoff h11
        · rw [if_neg h11]
          by_cases hi : (fetchF (L c.toNat).2 (d.1 c.toNat).1).1 = 5 ∨ (fetchF (L c.toNat).2 (d.1 c.toNat).1).1 = 6 ∨ (fetchF (L c.toNat).2 (d.1 c.toNat).1).1 = 7
          · rw [if_pos hi]
            unfold touchT
            by_cases hw : wordF (d.1 c.toNat).1 (fetchF (L c.toNat).2 (d.1 c.toNat).1) < 32
            · rw [if_pos hw]
              by_cases hd : (d.1 c.toNat).2.2.1 = 0
              · rw [if_pos hd]
                exact leads_out h hc hoff hd hi hw
              · rw [if_neg hd]
                exact leads_inside h hc hcnt9 hd hi hw
            · rw [if_neg hw]
              refine leads_stuck h hc hoff h9 fun _ => ?_
              unfold doneF
              rw [if_pos hi]
              unfold touchF
              rw [if_neg hw]
          · rw [if_neg hi]
            exact leads_alone h hc hoff hcnt9 hi h9 h10 h11
theorem leads_step {nn : Nat} (h : Ser L d cs m) (h0 : (stepF nn d L c).2.2 = 0) : Leads L ((stepF nn d L c).1, (stepF nn d L c).2.1) cs m := by
  unfold stepF at h0 ⊢
  split
  · rename_i hr
    rw [if_pos hr] at h0
    split
    · rename_i ho
      rw [if_pos ho] at h0
      cases h0
    · rename_i ho
      exact leads_steps h (ref_ok hr).2 (by simpa using ho)
  · rename_i hr
    rw [if_neg hr] at h0
    exact absurd h0 hr
/-- A line that was not read is let go. -/
theorem ser_drop (h : Ser L d cs m) (hc : 0 ≤ c ∧ c < 2) {way : Int} (hw : 0 ≤ way ∧ way < 4) (hr : rdAt d c.toNat way.toNat = false) : Ser L (dropF d c way) cs m := by
  have h1 := dropF_ok (goodK_D h.good) c way
  have hm := mv_dropF (good_nz (goodK_D h.good)) c way
  refine ⟨goodK_mv h.good hm h1.1, h.gm, fun k hk => (h.mem k hk).trans (h1.2 k hk).symm, fun o ho => (h.ok o ho).mv (hm.core o) (fun _ => ?_) (fun _ k hk _ => h1.2 k hk)⟩
  unfold dropF
  split
  · exact rk_drop fun _ => hr
  · exact RK.refl _ _
theorem leads_evict {way : Int} (h : Ser L d cs m) (h0 : (evictF d L c way).2.2 = 0) : Leads L ((evictF d L c way).1, (evictF d L c way).2.1) cs m := by
  unfold evictF at h0 ⊢
  split
  · rename_i hr
    rw [if_pos hr] at h0
    have hc := (ref_ok hr).2
    split
    · rename_i hw
      rw [if_pos hw] at h0
      split
      · rename_i hrd
        have hd : (d.1 c.toNat).2.2.1 ≠ 0 := fun g => by
          have h3 := ((core_ok hc h.good).out g).2.2.2
          have : anyRead (d.1 c.toNat) = true := (any_iff _).2 ⟨way.toNat, by omega, hrd⟩
          rw [h3] at this
          cases this
        obtain ⟨cs', m', e1, e2⟩ := leads_fail (why := 1002) h hc hd (by decide)
        refine ⟨cs', m', e1, ser_drop e2 hc hw ?_⟩
        show (((failD d L c 1002).1.1 c.toNat).2.1 way.toNat).2.2.2 = false
        rw [show (failD d L c 1002).1.1 c.toNat = _ from set_at _ _ _]
        show (noRead (d.1 c.toNat).2.1 way.toNat).2.2.2 = false
        unfold noRead
        rw [if_pos (by omega)]
      · rename_i hrd
        have hrd' : ((d.1 c.toNat).2.1 way.toNat).2.2.2 = false := by simpa using hrd
        exact ⟨cs, m, rfl, ser_drop h hc hw hrd'⟩
    · rename_i hw
      rw [if_neg hw] at h0
      cases h0
  · rename_i hr
    rw [if_neg hr] at h0
    exact absurd h0 hr
theorem leads_kick (h : Ser L d cs m) (h0 : (kickF d L c).2.2 = 0) : Leads L ((kickF d L c).1, (kickF d L c).2.1) cs m := by
  unfold kickF at h0 ⊢
  split
  · rename_i hr
    split
    · rename_i hd
      exact leads_fail h (ref_ok hr).2 (fun g => by rw [g] at hd; exact absurd hd (by decide)) (by decide)
    · exact ⟨cs, m, rfl, h⟩
  · rename_i hr
    rw [if_neg hr] at h0
    exact absurd h0 hr
end
end Go.Proofs.YtjbbgpacijageabGreat.M
