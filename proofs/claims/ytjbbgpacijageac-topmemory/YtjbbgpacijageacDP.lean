/- Package bench: the desk, as a function that reads through a pointer. -/
import Derived.Test.YtjbbgpacijageacBP
namespace Go.Proofs.Ytjbbgpacijageac.M
open Go.RowKit
set_option linter.unusedVariables false
set_option linter.unusedSimpArgs false

theorem tokD_nolst (tk : List (Hd × Nat)) : ∀ (t : Ty) (v : t.D), t.nolst = true → tokD tk t v
  | .int, _, _ => trivial
  | .bool, _, _ => trivial
  | .one t, v, h => tokD_nolst tk t v h
  | .pair a b, v, h => by
    simp only [Ty.nolst, Bool.and_eq_true] at h
    exact ⟨tokD_nolst tk a v.1 h.1, tokD_nolst tk b v.2 h.2⟩
  | .arr n t, f, h => fun i _ => tokD_nolst tk t (f i) h
  | .lst t, v, h => by cases h
def reWc (a : coreT.D) (w : (Ty.lst writeT).D) : coreT.D := (a.1, a.2.1, a.2.2.1, a.2.2.2.1, w, a.2.2.2.2.2)
/-- A desk whose lists have names of their own. -/
def dskD (nn : Nat) (D : deskT.D) : deskT.D := (fun k => reWc (D.1 k) (.nm (nn + k), (D.1 k).2.2.2.2.1.2), D.2)
theorem nh_dsk (nn : Nat) (D : deskT.D) : nhD (dskD nn D) = nhD D := rfl
abbrev deskP : PSpec := { t := benchT, args := [], res := [deskT], cr := true, m := fun _ _ => 2, fn := fun nn v _ => (dskD nn v.2.1, ()), pre := fun v _ => ∀ c, c < 2 → (v.2.1.1 c).2.2.2.2.1.2.length ≤ 4 }
theorem al_coreC {d e : deskT.D} (h : nhD d = nhD e) (k : Nat) : nhC (d.1 k) = nhC (e.1 k) := by
  have := congrArg (fun y : deskT.D => y.1 k) h
  exact this
theorem desk_done {nn : Nat} {v : benchT.D} {x : deskT.D} {ns : NS} (hx : nhD x = nhD v.2.1) (ht : ∀ k, k < 2 → (x.1 k).2.2.2.2.1.2 = [] ∨ ∃ s, 0 < s ∧ ((x.1 k).2.2.2.2.1.1, s) ∈ ns.tk) : DoneP deskP nn v () (x, ()) ns := by
  refine ⟨⟨fun k => (x.1 (k - nn)).2.2.2.2.1.1, ⟨⟨fun k hk => ?_, ?_⟩, trivial⟩⟩, ⟨⟨fun k hk => ?_, namD_nolst _ (.arr 32 .int) _ rfl⟩, trivial⟩, Or.inr ⟨⟨fun k hk => ?_, tokD_nolst _ (.arr 32 .int) _ rfl⟩, trivial⟩⟩
  · have hc := al_coreC hx k
    have hh : x.1 k = reWc (v.2.1.1 k) ((x.1 k).2.2.2.2.1.1, (v.2.1.1 k).2.2.2.2.1.2) := by
      have e1 : (x.1 k).1 = (v.2.1.1 k).1 := by have := congrArg (fun y : coreT.D => y.1) hc; exact this
      have e2 : (x.1 k).2.1 = (v.2.1.1 k).2.1 := by have := congrArg (fun y : coreT.D => y.2.1) hc; exact this
      have e3 : (x.1 k).2.2.1 = (v.2.1.1 k).2.2.1 := by have := congrArg (fun y : coreT.D => y.2.2.1) hc; exact this
      have e4 : (x.1 k).2.2.2.1 = (v.2.1.1 k).2.2.2.1 := by have := congrArg (fun y : coreT.D => y.2.2.2.1) hc; exact this
      have e5 : (x.1 k).2.2.2.2.1.2 = (v.2.1.1 k).2.2.2.2.1.2 := by have := congrArg (fun y : coreT.D => y.2.2.2.2.1.2) hc; exact this
      have e6 : (x.1 k).2.2.2.2.2 = (v.2.1.1 k).2.2.2.2.2 := by have := congrArg (fun y : coreT.D => y.2.2.2.2.2) hc; exact this
      unfold reWc
      rw [← e1, ← e2, ← e3, ← e4, ← e5, ← e6]
    have en : renD nn (fun k => (x.1 (k - nn)).2.2.2.2.1.1) coreT ((dskD nn v.2.1).1 k) = reWc (v.2.1.1 k) ((x.1 k).2.2.2.2.1.1, (v.2.1.1 k).2.2.2.2.1.2) := by
      have h1 : renH nn (fun k => (x.1 (k - nn)).2.2.2.2.1.1) (.nm (nn + k)) = (x.1 k).2.2.2.2.1.1 := by
        show (if nn + k < nn then _ else _) = _
        rw [if_neg (by omega), show nn + k - nn = k from by omega]
      have h2 : (v.2.1.1 k).2.2.2.2.1.2.map (renD nn (fun k => (x.1 (k - nn)).2.2.2.2.1.1) writeT) = (v.2.1.1 k).2.2.2.2.1.2 := by
        conv => rhs; rw [← List.map_id (v.2.1.1 k).2.2.2.2.1.2]
        exact List.map_congr_left fun e _ => renD_nolst _ _ writeT e rfl
      show ((renD _ _ plainT _, renD _ _ (.arr 4 lineT) _, _, renD _ _ plainT _, (renH _ _ _, List.map _ _), _) : coreT.D) = _
      rw [renD_nolst _ _ plainT _ rfl, renD_nolst _ _ (.arr 4 lineT) _ rfl, renD_nolst _ _ plainT _ rfl]
      exact Prod.ext rfl (Prod.ext rfl (Prod.ext rfl (Prod.ext rfl (Prod.ext (Prod.ext h1 h2) rfl))))
    show eqv coreT (x.1 k) _
    have : x.1 k = renD nn (fun k => (x.1 (k - nn)).2.2.2.2.1.1) coreT ((dskD nn v.2.1).1 k) := hh.trans en.symm
    rw [this]
    exact eqv_refl coreT _
  · have : x.2 = v.2.1.2 := by have := congrArg (fun y : deskT.D => y.2) hx; exact this
    show eqv (.arr 32 .int) x.2 _
    rw [this]
    exact eqv_refl _ _
  · refine ⟨namD_nolst _ plainT _ rfl, namD_nolst _ (.arr 4 lineT) _ rfl, trivial, namD_nolst _ plainT _ rfl, ⟨?_, fun e _ => namD_nolst _ writeT e rfl⟩, trivial⟩
    show nn + k < nn + 2
    omega
  · exact ⟨tokD_nolst _ plainT _ rfl, tokD_nolst _ (.arr 4 lineT) _ rfl, trivial, tokD_nolst _ plainT _ rfl, ⟨rfl, ht k hk⟩, trivial⟩
theorem desk_two {nn : Nat} {L : progsT.D} {D : deskT.D} {H : Hd} {rs : Rec} {kk : Int} {h0 h1 : Hd} {l0 l1 : List writeT.D} {ns : NS} (e0 : l0 = (D.1 0).2.2.2.2.1.2) (e1 : l1 = (D.1 1).2.2.2.2.1.2) (t0 : l0 = [] ∨ ∃ s, 0 < s ∧ (h0, s) ∈ ns.tk) (t1 : l1 = [] ∨ ∃ s, 0 < s ∧ (h1, s) ∈ ns.tk) :
    DoneP deskP nn (L, D, (H, rs), kk) () ((updA (updA D.1 0 (reWc (D.1 0) (h0, l0))) 1 (reWc (D.1 1) (h1, l1)), D.2), ()) ns := by
  subst e0
  subst e1
  refine desk_done (v := (L, D, (H, rs), kk)) ?_ fun k hk => ?_
  · refine Prod.ext (funext fun k => ?_) rfl
    show nhC (if k = 1 then reWc (D.1 1) (h1, (D.1 1).2.2.2.2.1.2) else if k = 0 then reWc (D.1 0) (h0, (D.1 0).2.2.2.2.1.2) else D.1 k) = nhC (D.1 k)
    by_cases g1 : k = 1
    · subst g1; rfl
    · rw [if_neg g1]
      by_cases g0 : k = 0
      · subst g0; rfl
      · rw [if_neg g0]
  · have : k = 0 ∨ k = 1 := by omega
    rcases this with rfl | rfl
    · exact t0
    · exact t1
abbrev tabDP : Tab := { tab with tks := [42] }
theorem tabDPOk : TabOk Try.prog tabDP := ⟨tabOk.ty, tabOk.eq, tabOk.mix, tabOk.ptr⟩
theorem c_deskP : PCtr Try.prog 14 deskP := by
  refine ctr_ptr [(nilH, 2), (nilH, 2)] ⟨[2, 2], rfl⟩ tabDPOk (SpecsOk.mut (inl_ok tabDPOk (SpecsOk.nil _) Try.func29 [.lst writeT]) (by kernel_rfl) (SpecsOk.nil _)) rfl Try.func14 rfl _ (Nat.le_of_ble_eq_true rfl) (fun h => by cases h) ?_
  rintro nn ⟨L, D, ⟨H, rs⟩, k⟩ ⟨⟩ hpre hb hb2
  have hpre : ∀ c, c < 2 → (D.1 c).2.2.2.2.1.2.length ≤ 4 := hpre
  refine ⟨200, init_k fun K1 n1 => ?_⟩
  conv => whnf
  refine n1 _ ?_
  clear n1 K1
  repeat' (first | with_reducible refine seq_k fun K1 n1 => ?_ | with_reducible refine seq_nil ?_ | with_reducible refine drw_k fun K1 n1 => ?_ | with_reducible refine drw_nil ?_ ?_ | with_reducible refine bar_k fun K1 n1 => ?_ | with_reducible refine run_seq ?_ | with_reducible refine run_skip ?_ | with_reducible refine run_regS ?_ | with_reducible refine run_regD (by kernel_rfl) ?_ ?_ | with_reducible refine inl_k (by with_unfolding_all rfl) (Nat.le_of_ble_eq_true rfl) fun K1 n1 => ?_ | with_reducible refine inlA_k (by with_unfolding_all rfl) (Nat.le_of_ble_eq_true rfl) fun K1 n1 => ?_ | with_reducible refine run_finA ?_ | with_reducible refine run_cond ?_ | with_reducible refine run_block ?_ | with_reducible refine run_endb ?_ | with_reducible refine run_exit fun K1 n1 => ?_ | with_reducible refine run_ret fun K1 n1 => ?_ | with_reducible refine run_fin ?_ | with_reducible refine run_inv ?_ | with_reducible refine go_rounds ?_ | ((with_reducible refine Go.mk ?_); (conv => whnf)) | refine Fork.yes ?_ | refine Fork.no ?_ | refine Fork.dec (fun _ => ?_) (fun _ => ?_) | refine Fork.ndec (fun _ => ?_) (fun _ => ?_) | refine Fork.mk (fun _ => ?_) (fun _ => ?_) | refine Way.yesG ?_ | refine Way.noG ?_ | refine Way.decG (fun _ => ?_) (fun _ => ?_) | refine Way.ndecG (fun _ => ?_) (fun _ => ?_) | refine Way.mkG (fun _ => ?_) (fun _ => ?_) | with_reducible refine Need.mkG ?_ ?_ | refine AppW.go0 ?_ ?_ | refine AppW.go1 ?_ ?_ | with_reducible refine NilW.goG (fun _ => ?_) ?_ | ((with_reducible refine n1 _ _ _ ?_); clear n1 K1) | ((with_reducible refine n1 _ ?_); clear n1 K1) | ((with_reducible refine n1 _ _ ?_); clear n1 K1) | ((with_reducible refine n1 _ _ _ _ ?_); clear n1 K1) | fail)
  all_goals try (first | exact trivial | omega | kernel_rfl | decide | exact And.intro (by omega) (by omega))
  all_goals try dsimp only [Int.toNat_natCast] at *
  all_goals try (first | exact trivial | omega | exact And.intro (by omega) (by omega))
  refine unroll 3 (rounds_succ ?_)
  repeat' (first | with_reducible refine seq_k fun K1 n1 => ?_ | with_reducible refine seq_nil ?_ | with_reducible refine drw_k fun K1 n1 => ?_ | with_reducible refine drw_nil ?_ ?_ | with_reducible refine bar_k fun K1 n1 => ?_ | with_reducible refine run_seq ?_ | with_reducible refine run_skip ?_ | with_reducible refine run_regS ?_ | with_reducible refine run_regD (by kernel_rfl) ?_ ?_ | with_reducible refine inl_k (by with_unfolding_all rfl) (Nat.le_of_ble_eq_true rfl) fun K1 n1 => ?_ | with_reducible refine inlA_k (by with_unfolding_all rfl) (Nat.le_of_ble_eq_true rfl) fun K1 n1 => ?_ | with_reducible refine run_finA ?_ | with_reducible refine run_cond ?_ | with_reducible refine run_block ?_ | with_reducible refine run_endb ?_ | with_reducible refine run_exit fun K1 n1 => ?_ | with_reducible refine run_ret fun K1 n1 => ?_ | with_reducible refine run_fin ?_ | with_reducible refine run_inv ?_ | with_reducible refine go_rounds ?_ | ((with_reducible refine Go.mk ?_); (conv => whnf)) | refine Fork.yes ?_ | refine Fork.no ?_ | refine Fork.dec (fun _ => ?_) (fun _ => ?_) | refine Fork.ndec (fun _ => ?_) (fun _ => ?_) | refine Fork.mk (fun _ => ?_) (fun _ => ?_) | refine Way.yesG ?_ | refine Way.noG ?_ | refine Way.decG (fun _ => ?_) (fun _ => ?_) | refine Way.ndecG (fun _ => ?_) (fun _ => ?_) | refine Way.mkG (fun _ => ?_) (fun _ => ?_) | with_reducible refine Need.mkG ?_ ?_ | refine AppW.go0 ?_ ?_ | refine AppW.go1 ?_ ?_ | with_reducible refine NilW.goG (fun _ => ?_) ?_ | ((with_reducible refine n1 _ _ _ ?_); clear n1 K1) | ((with_reducible refine n1 _ ?_); clear n1 K1) | ((with_reducible refine n1 _ _ ?_); clear n1 K1) | ((with_reducible refine n1 _ _ _ _ ?_); clear n1 K1) | fail)
  all_goals try (first | exact trivial | omega | kernel_rfl | decide | exact And.intro (by omega) (by omega))
  all_goals try dsimp only [Int.toNat_natCast] at *
  all_goals try (first | exact trivial | omega | exact And.intro (by omega) (by omega))
  · rename_i g0 g1
    exact desk_two g0.symm g1.symm (Or.inl rfl) (Or.inl rfl)
  · have h1 := hpre 1 (by decide)
    exact (⟨by show 0 + (D.1 1).2.2.2.2.1.2.length ≤ _; omega, by show (0 + (D.1 1).2.2.2.2.1.2.length) * 16 ≤ _; omega⟩ : 0 + (D.1 1).2.2.2.2.1.2.length ≤ 140737488355328 ∧ (0 + (D.1 1).2.2.2.2.1.2.length) * 16 ≤ 140737488355328)
  · rename_i g0
    exact desk_two g0.symm (List.nil_append _) (Or.inl rfl) (Or.inr ⟨2, by decide, List.mem_cons_self ..⟩)
  · have h1 := hpre 0 (by decide)
    exact (⟨by show 0 + (D.1 0).2.2.2.2.1.2.length ≤ _; omega, by show (0 + (D.1 0).2.2.2.2.1.2.length) * 16 ≤ _; omega⟩ : 0 + (D.1 0).2.2.2.2.1.2.length ≤ 140737488355328 ∧ (0 + (D.1 0).2.2.2.2.1.2.length) * 16 ≤ 140737488355328)
  · rename_i g1
    exact desk_two (List.nil_append _) g1.symm (Or.inr ⟨2, by decide, List.mem_cons_self ..⟩) (Or.inl rfl)
  · have h1 := hpre 1 (by decide)
    exact (⟨by show 0 + (D.1 1).2.2.2.2.1.2.length ≤ _; omega, by show (0 + (D.1 1).2.2.2.2.1.2.length) * 16 ≤ _; omega⟩ : 0 + (D.1 1).2.2.2.2.1.2.length ≤ 140737488355328 ∧ (0 + (D.1 1).2.2.2.2.1.2.length) * 16 ≤ 140737488355328)
  · exact desk_two (List.nil_append _) (List.nil_append _) (Or.inr ⟨2, by decide, List.mem_cons_self ..⟩) (Or.inr ⟨2, by decide, List.mem_cons_of_mem _ (List.mem_cons_self ..)⟩)
end Go.Proofs.Ytjbbgpacijageac.M
