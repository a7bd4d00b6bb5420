/- Desks, alike but for the names of their lists. -/
import Derived.Test.YtjbbgpacijageacUM
namespace Go.Proofs.Ytjbbgpacijageac.M
open Go.RowKit
set_option linter.unusedVariables false
set_option linter.unusedSimpArgs false

def nhC (x : coreT.D) : coreT.D := (x.1, x.2.1, x.2.2.1, x.2.2.2.1, (nilH, x.2.2.2.2.1.2), x.2.2.2.2.2)
def nhD (d : deskT.D) : deskT.D := (fun k => nhC (d.1 k), d.2)
def nhP (l : progsT.D) : progsT.D := fun k => (nilH, (l k).2)
/-- What comes of something, alike. -/
structure AlX (x y : deskT.D × Rec) : Prop where
  d : nhD x.1 = nhD y.1
  r : x.2 = y.2
theorem AlX.refl (x : deskT.D × Rec) : AlX x x := ⟨rfl, rfl⟩
theorem AlX.of {x y : deskT.D × Rec} (h : x = y) : AlX x y := h ▸ AlX.refl x
theorem nh_nh (d : deskT.D) : nhD (nhD d) = nhD d := rfl
theorem nh_refl (d : deskT.D) : nhD d = nhD (nhD d) := rfl
theorem nhC_nh (x : coreT.D) : nhC (nhC x) = nhC x := rfl
theorem nh_setCore (d : deskT.D) (c : Nat) (x : coreT.D) : nhD (setCore d c x) = setCore (nhD d) c (nhC x) := by
  refine Prod.ext (funext fun k => ?_) rfl
  show nhC (updA d.1 c x k) = updA (nhD d).1 c (nhC x) k
  unfold updA
  split <;> rfl
theorem nh_setLine (d : deskT.D) (c w : Nat) (l : lineT.D) : nhD (setLine d c w l) = setLine (nhD d) c w l := by
  refine Prod.ext (funext fun k => ?_) rfl
  show nhC (updA d.1 c _ k) = updA (nhD d).1 c _ k
  unfold updA
  split <;> rfl
theorem nh_setMem (d : deskT.D) (m : Nat → Int) : nhD (setMem d m) = setMem (nhD d) m := rfl
theorem nh_lineAt (d : deskT.D) (c w : Nat) : lineAt (nhD d) c w = lineAt d c w := rfl
theorem nh_goodD (d : deskT.D) : goodD (nhD d) = goodD d := rfl
theorem nh_goodK (d : deskT.D) : goodK (nhD d) = goodK d := rfl
theorem nh_find (d : deskT.D) (c n : Int) : findF (nhD d) c n = findF d c n := rfl
theorem nh_holds (d : deskT.D) (c n : Int) : holdsF (nhD d) c n = holdsF d c n := rfl
theorem nh_val (d : deskT.D) (n : Int) : valF (nhD d) n = valF d n := rfl
theorem nh_dropD (d : deskT.D) (c w : Nat) : nhD (dropD d c w) = dropD (nhD d) c w := by
  unfold dropD
  rw [nh_setMem, nh_setLine]
  rfl
theorem nh_drop (d : deskT.D) (c w : Int) : nhD (dropF d c w) = dropF (nhD d) c w := by
  unfold dropF
  rw [nh_goodD, ← nh_dropD]
  split <;> rfl
theorem nh_take (d : deskT.D) (c w : Nat) (n : Int) : nhD (takeD d c w n) = takeD (nhD d) c w n := by
  unfold takeD
  rw [nh_lineAt]
  split
  · rw [nh_setLine, nh_setLine, nh_setMem]
    rfl
  · rw [nh_setLine]
    rfl
theorem nh_share (d : deskT.D) (c n : Int) : nhD (shareF d c n) = shareF (nhD d) c n := by
  unfold shareF
  rw [nh_goodD, nh_lineAt]
  split
  · split
    · rfl
    · rw [nh_take, nh_dropD]
  · rfl
theorem nh_alone1 (d : deskT.D) (c w : Nat) (n : Int) : nhD (alone1 d c w n) = alone1 (nhD d) c w n := by
  unfold alone1
  rw [nh_lineAt, ← nh_setLine]
  split <;> rfl
theorem nh_alone2 (d : deskT.D) (c w : Nat) : nhD (alone2 d c w) = alone2 (nhD d) c w := by
  unfold alone2
  rw [nh_lineAt, ← nh_setLine]
  split <;> rfl
theorem nh_own (d : deskT.D) (c n : Int) : nhD (ownF d c n) = ownF (nhD d) c n := by
  unfold ownF aloneD
  rw [← nh_share, nh_goodD, nh_find, ← nh_alone1, ← nh_alone2]
  split <;> rfl
theorem nh_write (d : deskT.D) (c word n : Int) : nhD (writeF d c word n) = writeF (nhD d) c word n := by
  unfold writeF putW setM
  rw [nh_goodD, nh_find, nh_lineAt, ← nh_setLine, nh_lineAt, ← nh_setLine]
  split
  · split <;> rfl
  · rfl
section
variable {d e : deskT.D} {l : progsT.D} {c : Int}
theorem al_core (h : nhD d = nhD e) (k : Nat) : nhC (d.1 k) = nhC (e.1 k) := congrFun (congrArg Prod.fst h) k
theorem al_set (h : nhD d = nhD e) (k : Nat) {x y : coreT.D} (hx : nhC x = nhC y) : nhD (setCore d k x) = nhD (setCore e k y) := by rw [nh_setCore, nh_setCore, h, hx]
theorem nh_fail (d : deskT.D) (l : progsT.D) (c why : Int) : AlX (failD d l c why) (failD (nhD d) (nhP l) c why) := ⟨al_set (nh_refl d) _ rfl, rfl⟩
theorem nh_withNow (d : deskT.D) (c : Int) (p : plainT.D) : nhD (withNow d c p) = withNow (nhD d) c p := by unfold withNow; rw [nh_setCore]; rfl
theorem nh_count (d : deskT.D) (c : Int) : AlX (countF d c) (countF (nhD d) c) := by
  unfold countF
  by_cases h : (d.1 c.toNat).2.2.1 = 0
  · rw [if_pos h, if_pos (show ((nhD d).1 c.toNat).2.2.1 = 0 from h)]
    exact ⟨rfl, rfl⟩
  · rw [if_neg h, if_neg (show ¬ ((nhD d).1 c.toNat).2.2.1 = 0 from h)]
    exact ⟨al_set (nh_refl d) _ rfl, rfl⟩
theorem al_count (h : nhD d = nhD e) : AlX (countF d c) (countF e c) := by
  have h1 := nh_count d c
  have h2 := nh_count e c
  rw [← h] at h2
  exact ⟨h1.d.trans h2.d.symm, h1.r.trans h2.r.symm⟩
theorem al_now (h : nhD d = nhD e) {p q : plainT.D} (hp : p = q) : nhD (withNow d c p) = nhD (withNow e c q) := by rw [nh_withNow, nh_withNow, h, hp]
theorem al_core1 (h : nhD d = nhD e) (k : Nat) : (d.1 k).1 = (e.1 k).1 := by
  have h1 := congrArg (fun x : coreT.D => x.1) (al_core h k)
  exact h1
theorem al_on (h : nhD d = nhD e) : AlX (onF d c) (onF e c) := al_count (al_now h (by rw [al_core1 h]))
theorem nh_on (d : deskT.D) (c : Int) : AlX (onF d c) (onF (nhD d) c) := al_on (nh_refl d)
theorem nh_stuck (d : deskT.D) (l : progsT.D) (c : Int) : AlX (stuckF d l c) (stuckF (nhD d) (nhP l) c) := by
  unfold stuckF
  by_cases h : 0 < (d.1 c.toNat).2.2.1
  · rw [if_pos h, if_pos (show 0 < ((nhD d).1 c.toNat).2.2.1 from h)]
    exact nh_fail d l c 1003
  · rw [if_neg h, if_neg (show ¬ 0 < ((nhD d).1 c.toNat).2.2.1 from h)]
    exact al_count (al_now (nh_refl d) rfl)
theorem nh_begin (d : deskT.D) (l : progsT.D) (c : Int) : AlX (beginF d l c) (beginF (nhD d) (nhP l) c) := by
  unfold beginF
  by_cases h : (d.1 c.toNat).2.2.1 = 3
  · rw [if_pos h, if_pos (show ((nhD d).1 c.toNat).2.2.1 = 3 from h)]
    exact nh_fail d l c 1005
  · rw [if_neg h, if_neg (show ¬ ((nhD d).1 c.toNat).2.2.1 = 3 from h)]
    exact al_on (al_set (nh_refl d) _ rfl)
theorem nh_give (d : deskT.D) (l : progsT.D) (c n : Int) : AlX (giveF d l c n) (giveF (nhD d) (nhP l) c n) := by
  unfold giveF
  by_cases h : (d.1 c.toNat).2.2.1 = 0
  · rw [if_pos h, if_pos (show ((nhD d).1 c.toNat).2.2.1 = 0 from h)]
    exact nh_stuck d l c
  · rw [if_neg h, if_neg (show ¬ ((nhD d).1 c.toNat).2.2.1 = 0 from h)]
    exact nh_fail d l c _
theorem nh_alone (d : deskT.D) (l : progsT.D) (c : Int) (i : instrT.D) : AlX (aloneT d l c i) (aloneT (nhD d) (nhP l) c i) := by
  unfold aloneT
  by_cases h : i.1 = 12 ∧ 0 < (d.1 c.toNat).2.2.1
  · rw [if_pos h, if_pos (show i.1 = 12 ∧ 0 < ((nhD d).1 c.toNat).2.2.1 from h)]
    exact nh_stuck d l c
  · rw [if_neg h, if_neg (show ¬ (i.1 = 12 ∧ 0 < ((nhD d).1 c.toNat).2.2.1) from h)]
    exact al_count (al_now (nh_refl d) rfl)
theorem nh_puts (d : deskT.D) (rs : Rec) (l : progsT.D) (c word n : Int) : AlX (putsF (d, rs) l c word n) (putsF (nhD d, rs) (nhP l) c word n) := by
  unfold putsF
  by_cases h : holdsF d (wrap64 (1 - c)) (lineOf word) = true
  · rw [if_pos h, if_pos (show holdsF (nhD d) (wrap64 (1 - c)) (lineOf word) = true from h)]
    refine ⟨?_, rfl⟩
    show nhD (writeF (ownF (failD d l _ _).1 _ _) _ _ _) = nhD (writeF (ownF (failD (nhD d) (nhP l) _ _).1 _ _) _ _ _)
    rw [nh_write, nh_own, nh_write, nh_own, (nh_fail d l _ _).d]
  · rw [if_neg h, if_neg (show ¬ holdsF (nhD d) (wrap64 (1 - c)) (lineOf word) = true from h)]
    refine ⟨?_, rfl⟩
    show nhD (writeF (ownF d _ _) _ _ _) = nhD (writeF (ownF (nhD d) _ _) _ _ _)
    rw [nh_write, nh_own, nh_write, nh_own, nh_nh]
theorem al_puts {rs : Rec} (h : nhD d = nhD e) (word n : Int) : AlX (putsF (d, rs) l c word n) (putsF (e, rs) (nhP l) c word n) := by
  have h1 := nh_puts d rs l c word n
  have h2 := nh_puts e rs (nhP l) c word n
  rw [← h] at h2
  exact ⟨h1.d.trans h2.d.symm, h1.r.trans h2.r.symm⟩
theorem al_all (l : progsT.D) (c : Int) : ∀ (ws : List writeT.D) (d e : deskT.D) (rs : Rec), nhD d = nhD e → AlX (putsAll (d, rs) l c ws) (putsAll (e, rs) (nhP l) c ws)
  | [], d, e, rs, h => ⟨h, rfl⟩
  | w :: ws, d, e, rs, h => by
    have h1 := al_puts (rs := rs) (l := l) (c := c) h w.1 w.2
    show AlX (putsAll (putsF (d, rs) l c w.1 w.2) l c ws) (putsAll (putsF (e, rs) (nhP l) c w.1 w.2) (nhP l) c ws)
    have h3 := al_all l c ws (putsF (d, rs) l c w.1 w.2).1 (putsF (e, rs) (nhP l) c w.1 w.2).1 (putsF (d, rs) l c w.1 w.2).2 h1.d
    rw [show ((putsF (e, rs) (nhP l) c w.1 w.2).1, (putsF (d, rs) l c w.1 w.2).2) = putsF (e, rs) (nhP l) c w.1 w.2 from Prod.ext rfl h1.r] at h3
    exact h3
theorem nh_end (d : deskT.D) (l : progsT.D) (c : Int) : AlX (endF d l c) (endF (nhD d) (nhP l) c) := by
  unfold endF
  by_cases h : (d.1 c.toNat).2.2.1 = 0
  · rw [if_pos h, if_pos (show ((nhD d).1 c.toNat).2.2.1 = 0 from h)]
    exact nh_stuck d l c
  · rw [if_neg h, if_neg (show ¬ ((nhD d).1 c.toNat).2.2.1 = 0 from h)]
    by_cases h1 : 1 < (d.1 c.toNat).2.2.1
    · rw [if_pos h1, if_pos (show 1 < ((nhD d).1 c.toNat).2.2.1 from h1)]
      exact al_on (al_set (nh_refl d) _ rfl)
    · rw [if_neg h1, if_neg (show ¬ 1 < ((nhD d).1 c.toNat).2.2.1 from h1)]
      have h2 := al_all l c (wsOf d c) (endedD d c) (endedD (nhD d) c) [] (al_set (nh_refl d) _ rfl)
      refine ⟨h2.d, ?_⟩
      show (putsAll (endedD d c, []) l c (wsOf d c)).2 ++ _ = (putsAll (endedD (nhD d) c, []) (nhP l) c (wsOf d c)).2 ++ _
      rw [h2.r]
      rfl
theorem nh_had (d : deskT.D) (c : Int) (i : instrT.D) (word : Int) : nhD (hadF d c i word) = nhD (hadF (nhD d) c i word) := by
  unfold hadF
  split
  · exact al_now (nh_refl d) rfl
  · rfl
theorem al_share (h : nhD d = nhD e) (n : Int) : nhD (shareF d c n) = nhD (shareF e c n) := by rw [nh_share, nh_share, h]
theorem nh_out (d : deskT.D) (l : progsT.D) (c : Int) (i : instrT.D) (word : Int) : AlX (outF d l c i word) (outF (nhD d) (nhP l) c i word) := by
  unfold outF
  split
  · exact al_on (al_share (nh_had d c i word) _)
  · have h1 := al_puts (rs := []) (l := l) (c := c) (nh_had d c i word) word (getF (d.1 c.toNat).1 i.2.1)
    have h2 := al_on (c := c) h1.d
    refine ⟨h2.d, ?_⟩
    show (putsF (hadF d c i word, []) l c word (getF (d.1 c.toNat).1 i.2.1)).2 ++ (onF (putsF (hadF d c i word, []) l c word (getF (d.1 c.toNat).1 i.2.1)).1 c).2 = (putsF (hadF (nhD d) c i word, []) (nhP l) c word (getF (d.1 c.toNat).1 i.2.1)).2 ++ (onF (putsF (hadF (nhD d) c i word, []) (nhP l) c word (getF (d.1 c.toNat).1 i.2.1)).1 c).2
    rw [h1.r, h2.r]
theorem nh_readD (d : deskT.D) (c n : Int) : nhD (readD d c n) = nhD (readD (nhD d) c n) := by
  unfold readD
  refine al_set (al_share (nh_refl d) n) _ ?_
  have h := al_core (al_share (c := c) (show nhD d = nhD (nhD d) from rfl) n) c.toNat
  rw [← nh_share]
  rfl
theorem nh_loads (d : deskT.D) (c reg word : Int) : nhD (loadsF d c reg word) = nhD (loadsF (nhD d) c reg word) := by
  unfold loadsF
  by_cases h : 0 ≤ atW (wsOf d c) word
  · rw [if_pos h, if_pos (show 0 ≤ atW (wsOf (nhD d) c) word from h)]
    exact al_now (nh_refl d) rfl
  · rw [if_neg h, if_neg (show ¬ 0 ≤ atW (wsOf (nhD d) c) word from h)]
    have h1 := nh_readD d c (lineOf word)
    refine al_now h1 ?_
    rw [al_core1 h1, ← nh_val (readD d c (lineOf word)), h1, nh_val]
theorem nh_seen (d : deskT.D) (c : Int) (i : instrT.D) (word : Int) : nhD (seenF d c i word) = nhD (seenF (nhD d) c i word) := by
  unfold seenF
  split
  · exact nh_loads d c _ word
  · rfl
theorem al_kept (h : nhD d = nhD e) (nn mm : Nat) (i : instrT.D) (word had : Int) : nhD (keptF nn d c i word had) = nhD (keptF mm e c i word had) := by
  unfold keptF
  split
  · have h1 := al_core h c.toNat
    unfold putWs
    refine al_set h _ ?_
    have h2 : wsOf d c = wsOf e c := by have g := congrArg (fun x : coreT.D => x.2.2.2.2.1.2) h1; exact g
    show (_, _, _, _, (nilH, heldL (wsOf d c) (word, had)), _) = (_, _, _, _, (nilH, heldL (wsOf e c) (word, had)), _)
    rw [h2, show (d.1 c.toNat).1 = (e.1 c.toNat).1 from (by have g := congrArg (fun x : coreT.D => x.1) h1; exact g), show (d.1 c.toNat).2.1 = (e.1 c.toNat).2.1 from (by have g := congrArg (fun x : coreT.D => x.2.1) h1; exact g), show (d.1 c.toNat).2.2.1 = (e.1 c.toNat).2.2.1 from (by have g := congrArg (fun x : coreT.D => x.2.2.1) h1; exact g), show (d.1 c.toNat).2.2.2.1 = (e.1 c.toNat).2.2.2.1 from (by have g := congrArg (fun x : coreT.D => x.2.2.2.1) h1; exact g), show (d.1 c.toNat).2.2.2.2.2 = (e.1 c.toNat).2.2.2.2.2 from (by have g := congrArg (fun x : coreT.D => x.2.2.2.2.2) h1; exact g)]
  · exact h
theorem nh_room (d : deskT.D) (c : Int) (i : instrT.D) (word : Int) : roomF (nhD d) c i word = roomF d c i word := rfl
theorem nh_in (nn mm : Nat) (d : deskT.D) (l : progsT.D) (c : Int) (i : instrT.D) (word : Int) : AlX (inF nn d l c i word) (inF mm (nhD d) (nhP l) c i word) := by
  unfold inF
  rw [nh_room]
  split
  · exact nh_fail d l c 1002
  · exact al_on (al_kept (nh_seen d c i word) nn mm i word _)
theorem nh_touch (nn mm : Nat) (d : deskT.D) (l : progsT.D) (c : Int) (i : instrT.D) : AlX (touchT nn d l c i) (touchT mm (nhD d) (nhP l) c i) := by
  unfold touchT
  by_cases h : wordF (d.1 c.toNat).1 i < 32
  · rw [if_pos h, if_pos (show wordF ((nhD d).1 c.toNat).1 i < 32 from h)]
    by_cases h1 : (d.1 c.toNat).2.2.1 = 0
    · rw [if_pos h1, if_pos (show ((nhD d).1 c.toNat).2.2.1 = 0 from h1)]
      exact nh_out d l c i _
    · rw [if_neg h1, if_neg (show ¬ ((nhD d).1 c.toNat).2.2.1 = 0 from h1)]
      exact nh_in nn mm d l c i _
  · rw [if_neg h, if_neg (show ¬ wordF ((nhD d).1 c.toNat).1 i < 32 from h)]
    exact nh_stuck d l c
theorem nh_steps (nn mm : Nat) (d : deskT.D) (l : progsT.D) (c : Int) : AlX (stepsF nn d l c) (stepsF mm (nhD d) (nhP l) c) := by
  show AlX _ (if (d.1 c.toNat).2.2.2.2.2 = 399 then failD (nhD d) (nhP l) c 1002 else
    if (fetchF (l c.toNat).2 (d.1 c.toNat).1).1 = 9 then beginF (nhD d) (nhP l) c else
    if (fetchF (l c.toNat).2 (d.1 c.toNat).1).1 = 10 then endF (nhD d) (nhP l) c else
    if (fetchF (l c.toNat).2 (d.1 c.toNat).1).1 = 11 then giveF (nhD d) (nhP l) c (fetchF (l c.toNat).2 (d.1 c.toNat).1).2.2.2.2 else
    if (fetchF (l c.toNat).2 (d.1 c.toNat).1).1 = 5 ∨ (fetchF (l c.toNat).2 (d.1 c.toNat).1).1 = 6 ∨ (fetchF (l c.toNat).2 (d.1 c.toNat).1).1 = 7 then touchT mm (nhD d) (nhP l) c (fetchF (l c.toNat).2 (d.1 c.toNat).1)
    else aloneT (nhD d) (nhP l) c (fetchF (l c.toNat).2 (d.1 c.toNat).1))
  unfold stepsF
  split
  · exact nh_fail d l c 1002
  · split
    · exact nh_begin d l c
    · split
      · exact nh_end d l c
      · split
        · exact nh_give d l c _
        · split
          · exact nh_touch nn mm d l c _
          · exact nh_alone d l c _
end
/-- What comes of an act, alike. -/
structure AlE (x y : deskT.D × Rec × Int) : Prop where
  d : nhD x.1 = nhD y.1
  r : x.2 = y.2
theorem nh_ref (d : deskT.D) (c : Int) : refF (nhD d) c = refF d c := rfl
theorem nh_step (nn mm : Nat) (d : deskT.D) (l : progsT.D) (c : Int) : AlE (stepF nn d l c) (stepF mm (nhD d) (nhP l) c) := by
  unfold stepF
  rw [nh_ref]
  split
  · by_cases h : (d.1 c.toNat).1.2.2 = true
    · rw [if_pos h, if_pos (show ((nhD d).1 c.toNat).1.2.2 = true from h)]
      exact ⟨rfl, rfl⟩
    · rw [if_neg h, if_neg (show ¬ ((nhD d).1 c.toNat).1.2.2 = true from h)]
      have h1 := nh_steps nn mm d l c
      exact ⟨h1.d, by show ((stepsF nn d l c).2, (0 : Int)) = ((stepsF mm (nhD d) (nhP l) c).2, (0 : Int)); rw [h1.r]⟩
  · exact ⟨rfl, rfl⟩
theorem nh_evict (d : deskT.D) (l : progsT.D) (c way : Int) : AlE (evictF d l c way) (evictF (nhD d) (nhP l) c way) := by
  unfold evictF
  rw [nh_ref]
  split
  · split
    · by_cases h : ((d.1 c.toNat).2.1 way.toNat).2.2.2 = true
      · rw [if_pos h, if_pos (show (((nhD d).1 c.toNat).2.1 way.toNat).2.2.2 = true from h)]
        refine ⟨?_, rfl⟩
        show nhD (dropF (failD d l c 1002).1 c way) = nhD (dropF (failD (nhD d) (nhP l) c 1002).1 c way)
        rw [nh_drop, nh_drop, (nh_fail d l c 1002).d]
      · rw [if_neg h, if_neg (show ¬ (((nhD d).1 c.toNat).2.1 way.toNat).2.2.2 = true from h)]
        refine ⟨?_, rfl⟩
        show nhD (dropF d c way) = nhD (dropF (nhD d) c way)
        rw [nh_drop, nh_drop, nh_nh]
    · exact ⟨rfl, rfl⟩
  · exact ⟨rfl, rfl⟩
theorem nh_kick (d : deskT.D) (l : progsT.D) (c : Int) : AlE (kickF d l c) (kickF (nhD d) (nhP l) c) := by
  unfold kickF
  rw [nh_ref]
  split
  · by_cases h : 0 < (d.1 c.toNat).2.2.1
    · rw [if_pos h, if_pos (show 0 < ((nhD d).1 c.toNat).2.2.1 from h)]
      exact ⟨(nh_fail d l c 1004).d, by rw [(nh_fail d l c 1004).r]⟩
    · rw [if_neg h, if_neg (show ¬ 0 < ((nhD d).1 c.toNat).2.2.1 from h)]
      exact ⟨rfl, rfl⟩
  · exact ⟨rfl, rfl⟩
end Go.Proofs.Ytjbbgpacijageac.M
