/- The document's own step of a desk. -/
import Derived.Test.YtjbbgpacijageacGreatUT
import Derived.Test.YtjbbgpacijageacGreatSO6
import Derived.Test.YtjbbgpacijageacGreatSO6g
import Derived.Test.YtjbbgpacijageacGreatSO6h
import Derived.Test.YtjbbgpacijageacGreatR16
namespace Go.Proofs.YtjbbgpacijageacGreat.M
open Go.RowKit
set_option linter.unusedVariables false
set_option linter.unusedSimpArgs false

theorem st_all {t0 t1 t2 : Ty} {v0 : t0.D} {v1 : t1.D} {v2 : t2.D} {D : deskT.D} {l : progsT.D} {c : Int} {i : instrT.D} {n : Nat} {tk : List (Hd × Nat)} (hg : goodK D = true) (hc : 0 ≤ c ∧ c < 2) (hi : fetchF (l c.toNat).2 (D.1 c.toNat).1 = i)
    (hkeep : ∀ p : StP, p.tk = ((D.1 0).2.2.2.2.1.1, 2) :: ((D.1 1).2.2.2.2.1.1, 2) :: (nilH, 3) :: tk → p.i ≤ 1 → keptD p t0 v0 v0 ∧ keptD p t1 v1 v1 ∧ keptD p t2 v2 v2 ∧ keptD p progsT l l) : StAt t0 t1 t2 v0 v1 v2 D l c i n tk := by
  have hk := core_ok hc hg
  by_cases h9 : (D.1 c.toNat).2.2.2.2.2 = 399
  · exact st_A hg hc hi h9 (deep_i3 hk.lo fun e => zero_count hk e h9)
  · by_cases e9 : i.1 = 9
    · by_cases h3 : (D.1 c.toNat).2.2.1 = 3
      · exact st_B hg hc hi e9 h9 h3 (by rw [h3]; decide)
      · by_cases hd : 0 < (D.1 c.toNat).2.2.1
        · exact st_C1 hg hc hi e9 h9 h3 hd
        · exact st_C0 hg hc hi e9 h9 h3 hd
    · by_cases e10 : i.1 = 10
      · by_cases hd : 0 < (D.1 c.toNat).2.2.1
        · by_cases h1 : 1 < (D.1 c.toNat).2.2.1
          · exact st_F hg hc hi e10 h9 h1 hd
          · exact st_G hg hc hi e10 h9 h1 hd
        · exact st_D10 hg hc hi e10 h9 hd
      · by_cases e11 : i.1 = 11
        · by_cases hd : 0 < (D.1 c.toNat).2.2.1
          · exact st_E hg hc hi e11 h9 hd
          · exact st_D11 hg hc hi e11 h9 hd
        · by_cases h5 : i.1 = 5
          · exact st_H5 hg hc hi hkeep h5 h9
          · by_cases h6 : i.1 = 6
            · exact st_H6 hg hc hi hkeep h6 h9
            · by_cases h7 : i.1 = 7
              · exact st_H7 hg hc hi hkeep h7 h9
              · have h57 : ¬ (5 ≤ i.1 ∧ i.1 ≤ 7) := fun ⟨a, b⟩ => by
                  have a : @LE.le Int _ 5 i.1 := a
                  have b : @LE.le Int _ i.1 7 := b
                  have h5 : ¬ @Eq Int i.1 5 := h5
                  have h6 : ¬ @Eq Int i.1 6 := h6
                  have h7 : ¬ @Eq Int i.1 7 := h7
                  omega
                by_cases hd : 0 < (D.1 c.toNat).2.2.1
                · by_cases e12 : i.1 = 12
                  · exact st_D12 hg hc hi e12 h9 hd
                  · exact st_I1 hg hc hi e9 e10 e11 e12 h57 h9 hd
                · exact st_I0 hg hc hi e9 e10 e11 h57 h9 hd
def hdsD (nn : Nat) (D : deskT.D) : deskT.D := (fun k => reW (D.1 k) (.nm (nn + 1 + k), (D.1 k).2.2.2.2.1.2), D.2)
abbrev soS (args : List Ty) (F : deskT.D → progsT.D → DL args → deskT.D × Rec × Int) : Spec := { args := deskT :: progsT :: args, res := [deskT, .lst recordT, .int], cr := true, m := fun _ => 3, fn := fun nn d => (hdsD nn (F d.1 d.2.1 d.2.2).1, (.nm nn, (F d.1 d.2.1 d.2.2).2.1), (F d.1 d.2.1 d.2.2).2.2, ()), pre := fun _ => True }
theorem so_done {args : List Ty} {F : deskT.D → progsT.D → DL args → deskT.D × Rec × Int} {nn : Nat} {d : deskT.D} {l : progsT.D} {a : DL args} {x : deskT.D} {h : Hd} {rs : Rec} {e : Int} {ns : NS} (hx : nhD x = nhD (F d l a).1) (hr : rs = (F d l a).2.1) (he : e = (F d l a).2.2) : DoneR (soS args F) nn (d, l, a) (x, (h, rs), e, ()) ns := by
  subst hr
  subst he
  refine ⟨⟨fun k => if k = nn then h else (x.1 (k - (nn + 1))).2.2.2.2.1.1, ⟨⟨fun k hk => ?_, ?_⟩, ?_, rfl, trivial⟩⟩, ⟨⟨fun k hk => ?_, namD_nolst _ (.arr 32 .int) _ rfl⟩, ⟨by show nn < nn + 3; omega, fun e _ => namD_nolst _ recordT e rfl⟩, trivial, trivial⟩⟩
  · have hc := al_core hx k
    have hh : x.1 k = reW ((F d l a).1.1 k) ((x.1 k).2.2.2.2.1.1, ((F d l a).1.1 k).2.2.2.2.1.2) := by
      have e1 : (x.1 k).1 = ((F d l a).1.1 k).1 := by have := congrArg (fun y : coreT.D => y.1) hc; exact this
      have e2 : (x.1 k).2.1 = ((F d l a).1.1 k).2.1 := by have := congrArg (fun y : coreT.D => y.2.1) hc; exact this
      have e3 : (x.1 k).2.2.1 = ((F d l a).1.1 k).2.2.1 := by have := congrArg (fun y : coreT.D => y.2.2.1) hc; exact this
      have e4 : (x.1 k).2.2.2.1 = ((F d l a).1.1 k).2.2.2.1 := by have := congrArg (fun y : coreT.D => y.2.2.2.1) hc; exact this
      have e5 : (x.1 k).2.2.2.2.1.2 = ((F d l a).1.1 k).2.2.2.2.1.2 := by have := congrArg (fun y : coreT.D => y.2.2.2.2.1.2) hc; exact this
      have e6 : (x.1 k).2.2.2.2.2 = ((F d l a).1.1 k).2.2.2.2.2 := by have := congrArg (fun y : coreT.D => y.2.2.2.2.2) hc; exact this
      unfold reW
      rw [← e1, ← e2, ← e3, ← e4, ← e5, ← e6]
    have en : renD nn (fun k => if k = nn then h else (x.1 (k - (nn + 1))).2.2.2.2.1.1) coreT ((hdsD nn (F d l a).1).1 k) = reW ((F d l a).1.1 k) ((x.1 k).2.2.2.2.1.1, ((F d l a).1.1 k).2.2.2.2.1.2) := by
      have h1 : renH nn (fun k => if k = nn then h else (x.1 (k - (nn + 1))).2.2.2.2.1.1) (.nm (nn + 1 + k)) = (x.1 k).2.2.2.2.1.1 := by
        show (if nn + 1 + k < nn then _ else _) = _
        rw [if_neg (by omega), if_neg (by omega), show nn + 1 + k - (nn + 1) = k from by omega]
      have h2 : ((F d l a).1.1 k).2.2.2.2.1.2.map (renD nn (fun k => if k = nn then h else (x.1 (k - (nn + 1))).2.2.2.2.1.1) writeT) = ((F d l a).1.1 k).2.2.2.2.1.2 := by
        conv => rhs; rw [← List.map_id ((F d l a).1.1 k).2.2.2.2.1.2]
        exact List.map_congr_left fun e _ => renD_nolst _ _ writeT e rfl
      show ((renD _ _ plainT _, renD _ _ (.arr 4 lineT) _, _, renD _ _ plainT _, (renH _ _ _, List.map _ _), _) : coreT.D) = _
      rw [renD_nolst _ _ plainT _ rfl, renD_nolst _ _ (.arr 4 lineT) _ rfl, renD_nolst _ _ plainT _ rfl]
      exact Prod.ext rfl (Prod.ext rfl (Prod.ext rfl (Prod.ext rfl (Prod.ext (Prod.ext h1 h2) rfl))))
    show eqv coreT (x.1 k) _
    have : x.1 k = renD nn (fun k => if k = nn then h else (x.1 (k - (nn + 1))).2.2.2.2.1.1) coreT ((hdsD nn (F d l a).1).1 k) := hh.trans en.symm
    rw [this]
    exact eqv_refl coreT _
  · have : x.2 = (F d l a).1.2 := by have := congrArg (fun y : deskT.D => y.2) hx; exact this
    show eqv (.arr 32 .int) x.2 _
    rw [this]
    exact eqv_refl _ _
  · have h1 : renH nn (fun k => if k = nn then h else (x.1 (k - (nn + 1))).2.2.2.2.1.1) (.nm nn) = h := by
      show (if nn < nn then _ else _) = _
      rw [if_neg (Nat.lt_irrefl _), if_pos rfl]
    have h2 : (F d l a).2.1.map (renD nn (fun k => if k = nn then h else (x.1 (k - (nn + 1))).2.2.2.2.1.1) recordT) = (F d l a).2.1 := by
      conv => rhs; rw [← List.map_id (F d l a).2.1]
      exact List.map_congr_left fun e _ => renD_nolst _ _ recordT e rfl
    exact Prod.ext h1.symm h2.symm
  · refine ⟨namD_nolst _ plainT _ rfl, namD_nolst _ (.arr 4 lineT) _ rfl, trivial, namD_nolst _ plainT _ rfl, ⟨?_, fun e _ => namD_nolst _ writeT e rfl⟩, trivial⟩
    show nn + 1 + k < nn + 3
    omega
abbrev stepOS : Spec := soS [.int] fun d l a => stepF 0 d l a.1
theorem copy_core (n : Nat) (d : deskT.D) {k : Nat} (hk : k < 2) : ((copyF n d).1 k).1 = (d.1 k).1 ∧ ((copyF n d).1 k).2.2.2.2.1.1 = .nm (n + k) := by
  have : k = 0 ∨ k = 1 := by omega
  rcases this with rfl | rfl <;> exact ⟨rfl, rfl⟩
theorem nh_copy' (nn : Nat) (d : deskT.D) : nhD (copyF nn d) = nhD d := by
  refine Prod.ext (funext fun k => ?_) rfl
  show nhC (updA (updA d.1 0 _) 1 _ k) = nhC (d.1 k)
  unfold updA
  by_cases h1 : k = 1
  · rw [if_pos h1, h1]
    rfl
  · rw [if_neg h1]
    by_cases h0 : k = 0
    · rw [if_pos h0, h0]
      rfl
    · rw [if_neg h0]
theorem so_len {d : deskT.D} (hg : goodK d = true) {k : Nat} (hk : k < 2) : (d.1 k).2.2.2.2.1.2.length ≤ 4 := by
  have := good_ws (c := (k : Int)) hg (by omega)
  exact this
theorem so_fin {nn : Nat} {d : deskT.D} {l : progsT.D} {c : Int} {D' : deskT.D} {H' : Hd} {R' : Rec} {ns : NS} (hg : (!goodK d) = false) (ho : (d.1 c.toNat).1.2.2 = false) (hc : 0 ≤ c ∧ c < 2) (hx : AlX (D', R') (stepsF 0 (copyF nn d) l c)) : DoneR stepOS nn (d, l, c, ()) (D', (H', R'), 0, ()) ns := by
  have e : stepF 0 d l c = ((stepsF 0 d l c).1, (stepsF 0 d l c).2, 0) := by
    unfold stepF
    rw [if_pos (ref_in hg hc), if_neg (by rw [ho]; decide)]
  have h1 := nh_steps 0 0 (copyF nn d) l c
  have h2 := nh_steps 0 0 d l c
  rw [nh_copy'] at h1
  refine so_done (args := [.int]) (F := fun d l a => stepF 0 d l a.1) ?_ ?_ ?_
  · show nhD D' = nhD (stepF 0 d l c).1
    rw [e]
    exact hx.d.trans (h1.d.trans h2.d.symm)
  · show R' = (stepF 0 d l c).2.1
    rw [e]
    exact hx.r.trans (h1.r.trans h2.r.symm)
  · show 0 = (stepF 0 d l c).2.2
    rw [e]
theorem so_keep {d : deskT.D} {l : progsT.D} {p : StP} {a b c : Hd × Nat} (hp : p.tk = a :: b :: c :: [((d.1 0).2.2.2.2.1.1, 0), ((d.1 1).2.2.2.2.1.1, 0), ((l 0).1, 0), ((l 1).1, 0)]) (hi : p.i ≤ 1) : keptD p deskT d d ∧ keptD p progsT l l ∧ keptD p deskT deskT.zero deskT.zero ∧ keptD p progsT l l := by
  have hcore : ∀ (x : coreT.D), Kept1 p writeT x.2.2.2.2.1 x.2.2.2.2.1 → keptD p coreT x x := fun x hk => ⟨keptD_nol plainT _ rfl, keptD_nol (.arr 4 lineT) _ rfl, rfl, keptD_nol plainT _ rfl, hk, rfl⟩
  have hl : keptD p progsT l l := fun j hj => by
    have : j = 0 ∨ j = 1 := by omega
    rcases this with rfl | rfl
    · exact ⟨rfl, Or.inl ⟨rfl, Or.inr ⟨5, 0, by omega, Or.inr (by omega), by rw [hp]; rfl⟩⟩⟩
    · exact ⟨rfl, Or.inl ⟨rfl, Or.inr ⟨6, 0, by omega, Or.inr (by omega), by rw [hp]; rfl⟩⟩⟩
  refine ⟨⟨fun j hj => ?_, fun _ _ => rfl⟩, hl, ⟨fun j hj => ?_, fun _ _ => rfl⟩, hl⟩
  · have : j = 0 ∨ j = 1 := by omega
    rcases this with rfl | rfl
    · exact hcore _ ⟨rfl, Or.inl ⟨rfl, Or.inr ⟨3, 0, by omega, Or.inr (by omega), by rw [hp]; rfl⟩⟩⟩
    · exact hcore _ ⟨rfl, Or.inl ⟨rfl, Or.inr ⟨4, 0, by omega, Or.inr (by omega), by rw [hp]; rfl⟩⟩⟩
  · exact hcore _ ⟨rfl, Or.inl ⟨rfl, Or.inl rfl⟩⟩
set_option maxHeartbeats 3200000 in
theorem c_StepOf : Ctr Tryz.prog 43 stepOS := by
  refine ctr_ofO stepOS (fun d => [(nilH, 2), (nilH, 2), (nilH, 3), ((d.1.1 0).2.2.2.2.1.1, 0), ((d.1.1 1).2.2.2.2.1.1, 0), ((d.2.1 0).1, 0), ((d.2.1 1).1, 0)]) (fun d p hp => ?_) tabSOk (SpecsOk.cons c_IsDesk (by kernel_rfl) (SpecsOk.mut copyOk (by kernel_rfl) (SpecsOk.cons c_NextInstr (by kernel_rfl) (SpecsOk.top (wstepOk (c_AbortOf c_IsDesk)) (by kernel_rfl) (SpecsOk.nil _))))) Tryz.func43 rfl (Nat.le_of_ble_eq_true rfl) (fun h => by cases h) ?_
  · simp only [List.mem_cons, List.not_mem_nil, or_false] at hp
    rcases hp with rfl | rfl | rfl | rfl | rfl | rfl | rfl
    · exact Or.inl rfl
    · exact Or.inl rfl
    · exact Or.inl rfl
    · exact Or.inr ⟨rfl, Or.inl (Or.inl ⟨0, by decide, Or.inr (Or.inr (Or.inr (Or.inr (Or.inl rfl))))⟩)⟩
    · exact Or.inr ⟨rfl, Or.inl (Or.inl ⟨1, by decide, Or.inr (Or.inr (Or.inr (Or.inr (Or.inl rfl))))⟩)⟩
    · exact Or.inr ⟨rfl, Or.inr (Or.inl ⟨0, by decide, rfl⟩)⟩
    · exact Or.inr ⟨rfl, Or.inr (Or.inl ⟨1, by decide, rfl⟩)⟩
  rintro nn ⟨d, l, (c : Int), ⟨⟩⟩ _ hb
  refine ⟨200, init_k fun K1 n1 => ?_⟩
  conv => whnf
  refine n1 _ ?_
  clear n1 K1
  repeat' (first | (with_reducible first | refine seq_k fun K1 n1 => ?_ | refine seq_nil ?_ | refine run_seq ?_ | refine run_skip ?_ | refine run_regS ?_ | refine run_cond ?_ | refine run_ret fun K1 n1 => ?_ | refine run_fin ?_) | ((with_reducible refine Go.mk ?_); (conv => whnf)) | refine Fork.no ?_ | refine Fork.ndec (fun _ => ?_) (fun _ => ?_) | refine Fork.mk (fun _ => ?_) (fun _ => ?_) | refine Way.yesG ?_ | refine Way.noG ?_ | refine Way.ndecG (fun _ => ?_) (fun _ => ?_) | (with_reducible first | refine Need.mkG ?_ ?_) | ((with_reducible refine n1 _ _ _ ?_); clear n1 K1) | ((with_reducible refine n1 _ ?_); clear n1 K1) | fail)
  all_goals try (exact trivial)
  all_goals try dsimp only [Int.toNat_natCast] at *
  · rename_i g
    exact so_done (args := [.int]) (F := fun d l a => stepF 0 d l a.1) (by show nhD d = nhD (stepF 0 d l c).1; unfold stepF; rw [ref_bad g]; rfl) (by show _ = (stepF 0 d l c).2.1; unfold stepF; rw [ref_bad g]; rfl) (by show _ = (stepF 0 d l c).2.2; unfold stepF; rw [ref_bad g]; rfl)
  · rename_i g g0 g1
    have hc : ¬ (0 ≤ c ∧ c < 2) := by omega
    exact so_done (args := [.int]) (F := fun d l a => stepF 0 d l a.1) (by show nhD d = nhD (stepF 0 d l c).1; unfold stepF; rw [ref_out g hc]; rfl) (by show _ = (stepF 0 d l c).2.1; unfold stepF; rw [ref_out g hc]; rfl) (by show _ = (stepF 0 d l c).2.2; unfold stepF; rw [ref_out g hc]; rfl)
  · exact (show 0 ≤ c ∧ c < 2 by omega)
  · have g : (!goodK d) = false := by assumption
    have g4 : (d.1 c.toNat).1.2.2 = true := by assumption
    have hc : 0 ≤ c ∧ c < 2 := by omega
    have e : stepF 0 d l c = (d, [], 4) := by unfold stepF; rw [if_pos (ref_in g hc), if_pos g4]
    exact so_done (args := [.int]) (F := fun d l a => stepF 0 d l a.1) (by show nhD d = nhD (stepF 0 d l c).1; rw [e]) (by show _ = (stepF 0 d l c).2.1; rw [e]) (by show _ = (stepF 0 d l c).2.2; rw [e])
  · have hc : 0 ≤ c ∧ c < 2 := by omega
    have hg' : (!goodK d) = false := by assumption
    have ho : (d.1 c.toNat).1.2.2 = false := by assumption
    have hg : goodK d = true := not_f hg'
    have hgC : goodK (copyF nn d) = true := by rw [← nh_goodK, nh_copy', nh_goodK]; exact hg
    have hi : fetchF (l c.toNat).2 ((copyF nn d).1 c.toNat).1 = fetchF (l c.toNat).2 (d.1 c.toNat).1 := by rw [(copy_core nn d (k := c.toNat) (by omega)).1]
    refine run_regX [(1, [2])] (by kernel_rfl) ?_
    refine segx_cut [_, _, _, _, _, _] _ rfl rfl ?_
    repeat' (first | (with_reducible first | refine drx_k fun K1 n1 => ?_ | refine drx_nil ?_ ?_ | refine barx_k fun K1 n1 => ?_) | ((with_reducible refine Go.mk ?_); (conv => whnf)) | ((with_reducible refine n1 _ _ _ _ ?_); clear n1 K1) | fail)
    all_goals try (kernel_rfl)
    all_goals try dsimp only [Int.toNat_natCast] at *
    refine copy_at (fun k hk => so_len hg hk) ?_
    refine n1 _ _ _ _ ?_
    clear n1 K1
    refine segx_end [_, _, _, _, _, _] rfl ?_
    repeat' (first | (with_reducible first | refine drx_k fun K1 n1 => ?_ | refine drx_nil ?_ ?_ | refine run_seq ?_) | ((with_reducible refine Go.mk ?_); (conv => whnf)) | (with_reducible first | refine Need.mkG ?_ ?_) | ((with_reducible refine n1 _ _ _ _ ?_); clear n1 K1) | fail)
    all_goals try (kernel_rfl)
    refine run_regC [11] (by kernel_rfl) ?_
    refine seg_cut [_, _, _, _, _, _, _, _, _, _, _] _ rfl rfl ?_
    repeat' (first | (with_reducible first | refine drw_k fun K1 n1 => ?_ | refine drw_nil ?_ ?_ | refine bar_k fun K1 n1 => ?_) | ((with_reducible refine Go.mk ?_); (conv => whnf)) | (with_reducible first | refine Need.mkG ?_ ?_) | ((with_reducible refine n1 _ _ _ _ ?_); clear n1 K1) | fail)
    all_goals try (first | exact trivial | omega | kernel_rfl)
    all_goals try dsimp only [Int.toNat_natCast] at *
    refine lax_norm (st_all (D := copyF nn d) hgC hc hi (fun p h1 h2 => so_keep h1 h2) _ ?_)
    intro n' D' H' R' hn hx
    refine n1 _ _ _ ?_
    clear n1 K1
    refine seg_end [_, _, _, _, _, _, _, _, _, _, _, _] rfl ?_
    repeat' (first | (with_reducible first | refine drw_k fun K1 n1 => ?_ | refine drw_nil ?_ ?_ | refine run_seq ?_ | refine run_regD (by with_unfolding_all rfl) ?_ ?_ | refine run_ret fun K1 n1 => ?_ | refine run_fin ?_) | ((with_reducible refine Go.mk ?_); (conv => whnf)) | ((with_reducible refine n1 _ ?_); clear n1 K1) | ((with_reducible refine n1 _ _ _ _ ?_); clear n1 K1) | fail)
    all_goals try (kernel_rfl)
    all_goals try dsimp only [Int.toNat_natCast] at *
    exact so_fin (by assumption) (by assumption) hc hx
  · exact (show 0 ≤ c ∧ c < 2 by omega)
  · have g : (!goodK d) = false := by assumption
    have g4 : (d.1 c.toNat).1.2.2 = true := by assumption
    have hc : 0 ≤ c ∧ c < 2 := by omega
    have e : stepF 0 d l c = (d, [], 4) := by unfold stepF; rw [if_pos (ref_in g hc), if_pos g4]
    exact so_done (args := [.int]) (F := fun d l a => stepF 0 d l a.1) (by show nhD d = nhD (stepF 0 d l c).1; rw [e]) (by show _ = (stepF 0 d l c).2.1; rw [e]) (by show _ = (stepF 0 d l c).2.2; rw [e])
  · have hc : 0 ≤ c ∧ c < 2 := by omega
    have hg' : (!goodK d) = false := by assumption
    have ho : (d.1 c.toNat).1.2.2 = false := by assumption
    have hg : goodK d = true := not_f hg'
    have hgC : goodK (copyF nn d) = true := by rw [← nh_goodK, nh_copy', nh_goodK]; exact hg
    have hi : fetchF (l c.toNat).2 ((copyF nn d).1 c.toNat).1 = fetchF (l c.toNat).2 (d.1 c.toNat).1 := by rw [(copy_core nn d (k := c.toNat) (by omega)).1]
    refine run_regX [(1, [2])] (by kernel_rfl) ?_
    refine segx_cut [_, _, _, _, _, _] _ rfl rfl ?_
    repeat' (first | (with_reducible first | refine drx_k fun K1 n1 => ?_ | refine drx_nil ?_ ?_ | refine barx_k fun K1 n1 => ?_) | ((with_reducible refine Go.mk ?_); (conv => whnf)) | ((with_reducible refine n1 _ _ _ _ ?_); clear n1 K1) | fail)
    all_goals try (kernel_rfl)
    all_goals try dsimp only [Int.toNat_natCast] at *
    refine copy_at (fun k hk => so_len hg hk) ?_
    refine n1 _ _ _ _ ?_
    clear n1 K1
    refine segx_end [_, _, _, _, _, _] rfl ?_
    repeat' (first | (with_reducible first | refine drx_k fun K1 n1 => ?_ | refine drx_nil ?_ ?_ | refine run_seq ?_) | ((with_reducible refine Go.mk ?_); (conv => whnf)) | (with_reducible first | refine Need.mkG ?_ ?_) | ((with_reducible refine n1 _ _ _ _ ?_); clear n1 K1) | fail)
    all_goals try (kernel_rfl)
    refine run_regC [11] (by kernel_rfl) ?_
    refine seg_cut [_, _, _, _, _, _, _, _, _, _, _] _ rfl rfl ?_
    repeat' (first | (with_reducible first | refine drw_k fun K1 n1 => ?_ | refine drw_nil ?_ ?_ | refine bar_k fun K1 n1 => ?_) | ((with_reducible refine Go.mk ?_); (conv => whnf)) | (with_reducible first | refine Need.mkG ?_ ?_) | ((with_reducible refine n1 _ _ _ _ ?_); clear n1 K1) | fail)
    all_goals try (first | exact trivial | omega | kernel_rfl)
    all_goals try dsimp only [Int.toNat_natCast] at *
    refine lax_norm (st_all (D := copyF nn d) hgC hc hi (fun p h1 h2 => so_keep h1 h2) _ ?_)
    intro n' D' H' R' hn hx
    refine n1 _ _ _ ?_
    clear n1 K1
    refine seg_end [_, _, _, _, _, _, _, _, _, _, _, _] rfl ?_
    repeat' (first | (with_reducible first | refine drw_k fun K1 n1 => ?_ | refine drw_nil ?_ ?_ | refine run_seq ?_ | refine run_regD (by with_unfolding_all rfl) ?_ ?_ | refine run_ret fun K1 n1 => ?_ | refine run_fin ?_) | ((with_reducible refine Go.mk ?_); (conv => whnf)) | ((with_reducible refine n1 _ ?_); clear n1 K1) | ((with_reducible refine n1 _ _ _ _ ?_); clear n1 K1) | fail)
    all_goals try (kernel_rfl)
    all_goals try dsimp only [Int.toNat_natCast] at *
    exact so_fin (by assumption) (by assumption) hc hx
end Go.Proofs.YtjbbgpacijageacGreat.M
