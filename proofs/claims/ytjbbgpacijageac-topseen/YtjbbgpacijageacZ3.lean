/- What the law TopSeen keeps: the lines that are read. -/
import Derived.Test.YtjbbgpacijageacZ2
import Derived.Test.YtjbbgpacijageacX1
namespace Go.Proofs.Ytjbbgpacijageac.M
open Go.RowKit
set_option linter.unusedVariables false
set_option linter.unusedSimpArgs false

/-- What is read at place p of both caches. -/
def entA (D : deskT.D) (p : Nat) : Mp := if rdAt D (p / 4) (p % 4) = true then [((((p / 4 : Nat) : Int), (lineAt D (p / 4) (p % 4)).2.1), (lineAt D (p / 4) (p % 4)).2.2.1)] else []
/-- What is read ahead of place p. -/
def entP (D : deskT.D) : Nat → Mp
  | 0 => []
  | p + 1 => entP D p ++ entA D p
theorem nh_lines2 {D E : deskT.D} (h : nhD D = nhD E) (u w : Nat) : lineAt D u w = lineAt E u w := by
  have e := congrArg (fun x : deskT.D => lineAt x u w) h
  exact e
theorem entP_lines {D E : deskT.D} (h : nhD D = nhD E) : ∀ p, entP D p = entP E p
  | 0 => rfl
  | p + 1 => by
    have h1 : ∀ k w, lineAt D k w = lineAt E k w := nh_lines2 h
    have h2 : entA D p = entA E p := by
      unfold entA rdAt
      rw [h1]
    show entP D p ++ entA D p = entP E p ++ entA E p
    rw [entP_lines h p, h2]
theorem key_eq {a b : kT.D} (h : eqT kT a b = true) : a.1 = b.1 ∧ a.2 = b.2 := by
  have h : (decide ((a.1 : Int) = b.1) && decide ((a.2 : Int) = b.2)) = true := h
  rw [Bool.and_eq_true] at h
  exact ⟨of_decide_eq_true h.1, of_decide_eq_true h.2⟩
theorem mfind_app (k : kT.D) : ∀ (a b : Mp), mfind k (a ++ b) = (mfind k a).or (mfind k b)
  | [], b => rfl
  | p :: r, b => by
    show (match eqT kT k p.1 with | true => some p.2 | false => mfind k (r ++ b)) = Option.or (match eqT kT k p.1 with | true => some p.2 | false => mfind k r) _
    cases eqT kT k p.1 with
    | true => rfl
    | false => exact mfind_app k r b
/-- What is found there was read. -/
theorem ent_find {D : deskT.D} {key : kT.D} {v : vT.D} : ∀ p, mfind key (entP D p) = some v → ∃ q, q < p ∧ rdAt D (q / 4) (q % 4) = true ∧ key.1 = ((q / 4 : Nat) : Int) ∧ key.2 = (lineAt D (q / 4) (q % 4)).2.1 ∧ v = (lineAt D (q / 4) (q % 4)).2.2.1
  | 0, h => by cases h
  | p + 1, h => by
    have h : mfind key (entP D p ++ entA D p) = some v := h
    rw [mfind_app] at h
    cases hf : mfind key (entP D p) with
    | some u =>
      rw [hf] at h
      obtain ⟨q, hq, h1⟩ := ent_find p (hf.trans h)
      exact ⟨q, Nat.lt_succ_of_lt hq, h1⟩
    | none =>
      rw [hf] at h
      have h : mfind key (entA D p) = some v := h
      unfold entA at h
      by_cases hr : rdAt D (p / 4) (p % 4) = true
      · rw [if_pos hr] at h
        have h : (match eqT kT key (((p / 4 : Nat) : Int), (lineAt D (p / 4) (p % 4)).2.1) with | true => some (lineAt D (p / 4) (p % 4)).2.2.1 | false => none) = some v := h
        cases he : eqT kT key (((p / 4 : Nat) : Int), (lineAt D (p / 4) (p % 4)).2.1) with
        | true =>
          rw [he] at h
          obtain ⟨e1, e2⟩ := key_eq he
          exact ⟨p, Nat.lt_succ_self _, hr, e1, e2, (Option.some.inj h).symm⟩
        | false =>
          rw [he] at h
          cases h
      · rw [if_neg hr] at h
        cases h
/-- Lines of one core at other places are other lines. -/
theorem way_one {D E : deskT.D} (hD : goodD D = true) (hE : goodD E = true) {c w v : Nat} (hc : c < 2) (hw : w < 4) (hv : v < 4) (h1 : rdAt D c w = true) (h2 : rdAt E c v = true) (he : (lineAt D c w).2.1 = (lineAt E c v).2.1) : w = v := by
  have g1 := (good_line hD hc hw (good_nz hD c w hc hw h1)).2.2
  have g2 := (good_line hE hc hv (good_nz hE c v hc hv h2)).2.2
  rw [he, g2] at g1
  exact (Int.ofNat.inj g1).symm
/-- A line's key is new. -/
theorem ent_new {D : deskT.D} (hg : goodD D = true) {c w : Nat} (hc : c < 2) (hw : w < 4) (hr : rdAt D c w = true) : mfind ((c : Int), (lineAt D c w).2.1) (entP D (4 * c + w)) = none := by
  cases hf : mfind ((c : Int), (lineAt D c w).2.1) (entP D (4 * c + w)) with
  | none => rfl
  | some v =>
    exfalso
    obtain ⟨q, hq, h1, h2, h3, _⟩ := ent_find _ hf
    have hqc : q / 4 = c := (Int.ofNat.inj h2).symm
    rw [hqc] at h1 h3
    have := way_one hg hg hc hw (Nat.mod_lt q (by decide)) hr h1 h3
    omega
theorem ent_yes {D : deskT.D} {c w : Nat} (hw : w < 4) (hr : rdAt D c w = true) : entP D (4 * c + w + 1) = entP D (4 * c + w) ++ [(((c : Int), (lineAt D c w).2.1), (lineAt D c w).2.2.1)] := by
  show entP D (4 * c + w) ++ entA D (4 * c + w) = _
  unfold entA
  rw [show (4 * c + w) / 4 = c from by omega, show (4 * c + w) % 4 = w from by omega, if_pos hr]
theorem ent_no {D : deskT.D} {c w : Nat} (hw : w < 4) (hr : rdAt D c w = false) : entP D (4 * c + w + 1) = entP D (4 * c + w) := by
  show entP D (4 * c + w) ++ entA D (4 * c + w) = _
  unfold entA
  rw [show (4 * c + w) / 4 = c from by omega, show (4 * c + w) % 4 = w from by omega, if_neg (by rw [hr]; decide), List.append_nil]
theorem do_seen {nn : Nat} {L : progsT.D} {D : deskT.D} {k : Int} {a : actT.D} (hg : goodK D = true) {c w : Nat} (hc : c < 2) (hw : w < 4) (h1 : rdAt D c w = true) (h2 : rdAt (doD nn L D k a) c w = true)
    (hl : (lineAt (doD nn L D k a) c w).2.1 = (lineAt D c w).2.1) {j : Nat} (hj : j < 2) : (lineAt (doD nn L D k a) c w).2.2.1 j = (lineAt D c w).2.2.1 j := by
  unfold doD at h2 hl ⊢
  by_cases hk : k = 400
  · rw [if_pos hk]
  · rw [if_neg hk] at h2 hl ⊢
    by_cases he : (actF nn D L a).2.2 = 0
    · rw [if_pos he] at h2 hl ⊢
      exact act_seen hg hc hw h1 h2 hl hj
    · rw [if_neg he]
theorem same_v {a b : vT.D} (h : ∀ j, j < 2 → a j = b j) : eqT vT a b = true := by
  show ((List.range 2).all fun i => decide ((a i : Int) = b i)) = true
  rw [List.all_eq_true]
  exact fun j hj => decide_eq_true (h j (List.mem_range.1 hj))
/-- What was seen is so still. -/
theorem seen_ok {nn : Nat} {L : progsT.D} {D E : deskT.D} {k : Int} {a : actT.D} (hg : goodK D = true) (hgE : goodK E = true) (hE : nhD E = nhD (doD nn L D k a)) {c w : Nat} (hc : c < 2) (hw : w < 4) (hr : rdAt E c w = true) {v : vT.D}
    (hf : mfind ((c : Int), (lineAt E c w).2.1) (entP D 8) = some v) : eqT vT v (lineAt E c w).2.2.1 = true := by
  have hL : ∀ u w, lineAt E u w = lineAt (doD nn L D k a) u w := nh_lines2 hE
  obtain ⟨q, hq, h1, h2, h3, h4⟩ := ent_find _ hf
  have hqc : q / 4 = c := (Int.ofNat.inj h2).symm
  rw [hqc] at h1 h3 h4
  have hqw := way_one (goodK_D hgE) (goodK_D hg) hc hw (Nat.mod_lt q (by decide)) hr h1 h3
  rw [← hqw] at h1 h3 h4
  refine same_v fun j hj => ?_
  rw [h4, hL]
  rw [hL] at h3
  refine (do_seen hg hc hw h1 ?_ h3 hj).symm
  unfold rdAt
  rw [← hL]
  exact hr
theorem ent_zero (m : Nat → Int) : entP (deskT.zero.1, m) 8 = [] := rfl
end Go.Proofs.Ytjbbgpacijageac.M
