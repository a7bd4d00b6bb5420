/- Operations without calls do what is said of them, all of them. No program is named here. -/
import Derived.Test.YtjbbgpacijageaaT7
namespace Go.Proofs.Ytjbbgpacijageaa.M
open Go.RowKit
set_option linter.unusedVariables false
set_option linter.unusedSimpArgs false

section
variable {P : Program} {T : Tab} {w0 : World} {F0 : Old} {nn : Nat}

theorem hb_cell {x : World} {b : Nat} {L : List Value} {e : TypeId} (h : HB x b L.toArray e) (j : Nat) : x.cell? ⟨b, j, none⟩ = L[j]? := by
  rw [h.cell]; simp
theorem drop_take_get {α : Type} {L : List α} {off n j : Nat} (hj : j < n) : ((L.drop off).take n)[j]? = L[off + j]? := by
  rw [List.getElem?_take, if_pos hj, List.getElem?_drop]

theorem load_at {id : TypeId} {u : Ty} (hid : tyB1 P id u = true) {b y : V} {p : List Step} {off : Nat} (hy : getV b p = some y) (ha : At b.ty p off u) {B : Nat → Value} {x : World} {a : Nat} (hc : ∀ j, j < b.ty.sz → x.cell? ⟨a, j, none⟩ = (b.cells B)[j]?) :
    (Instr.loadAt id (.pointer (some ⟨a, off, none⟩))).run P x = .ok (y.val B) x := by
  obtain ⟨h1, h2, h3⟩ := getV_sound B p b y off u hy ha
  simp only [Instr.loadAt, Instr.sureAddr, Sem.run_bind, Sem.run_pure, Result.andThen_ok]
  refine load_run (by rw [h1]; exact hid) fun j hj => ?_
  rw [h1] at hj
  rw [hc _ (by omega), h3, drop_take_get hj]

theorem sopK_sound (hT : TabOk P T) {o : Oper} {f : Fr} {bl : List V} {k : Out → Prop} (h : sopK T o.op f bl k) : ∃ out, k out ∧ Does P w0 F0 o f (fun i => bl[i]?) bl.length nn out := by
  unfold sopK at h
  split at h
  · rename_i x ho
    split at h
    · rename_i s hs
      refine ⟨_, h, does_val fun c ρ hw hρ _ => ?_⟩
      obtain ⟨h1, h2⟩ := hρ x (by rw [ho]; simp [Op.operands]) s hs
      exact ⟨by unfold execOp; simp only [ho, h1]; rfl, h2⟩
    · exact h.elim
  · rename_i x ho
    split at h
    · rename_i s hs
      refine ⟨_, h, does_val fun c ρ hw hρ _ => ?_⟩
      obtain ⟨h1, h2⟩ := hρ x (by rw [ho]; simp [Op.operands]) s hs
      exact ⟨by unfold execOp; simp only [ho, h1]; rfl, h2⟩
    · exact h.elim
  · rename_i cc x y ho
    split at h
    · rename_i b hb
      cases hbb : b with
      | true =>
        have h' := h.t hbb
        split at h'
        · rename_i s hs
          refine ⟨_, h', does_val fun c ρ hw hρ _ => ?_⟩
          obtain ⟨h1, h2⟩ := hρ x (by rw [ho]; simp [Op.operands]) s hs
          obtain ⟨h3, h4⟩ := hρ cc (by rw [ho]; simp [Op.operands]) _ hb
          have h5 : ρ cc = .bool true := by rw [h3, ← hbb]; rfl
          exact ⟨by unfold execOp; simp only [ho, h1, h5, asBool, Sem.run_bind, Sem.run_pure, Result.andThen_ok, if_true], h2⟩
        · exact h'.elim
      | false =>
        have h' := h.f hbb
        split at h'
        · rename_i s hs
          refine ⟨_, h', does_val fun c ρ hw hρ _ => ?_⟩
          obtain ⟨h1, h2⟩ := hρ y (by rw [ho]; simp [Op.operands]) s hs
          obtain ⟨h3, h4⟩ := hρ cc (by rw [ho]; simp [Op.operands]) _ hb
          have h5 : ρ cc = .bool false := by rw [h3, ← hbb]; rfl
          exact ⟨by unfold execOp; simp only [ho, h1, h5, asBool, Sem.run_bind, Sem.run_pure, Result.andThen_ok, Bool.false_eq_true, if_false], h2⟩
        · exact h'.elim
    · exact h.elim
  · rename_i t x ho
    split at h
    · rename_i i off p u hx
      split at h
      · rename_i ty n hty
        split at h
        · rename_i he _
          subst he
          split at h
          · rename_i b hb
            split at h
            · rename_i y hy
              rw [nthB_eq] at hb
              refine ⟨_, h, does_val fun c ρ hw hρ ht => ?_⟩
              obtain ⟨h1, h2⟩ := hρ x (by rw [ho]; simp [Op.operands]) _ hx
              obtain ⟨g2, g3, ⟨e, g4⟩, g5⟩ := ht i (by simp) b hb
              obtain ⟨_, t', h3, h4⟩ := h2
              rw [g3] at h3
              cases h3
              refine ⟨?_, getV_ok p b y off u hy h4 g5⟩
              unfold execOp
              simp only [ho, h1]
              rw [Sem.run_bind]
              show ((Instr.loadAt t (.pointer (some ⟨c.E.A i, off, none⟩))).run P c.x).andThen _ = _
              rw [load_at (tyB_1 (hT.ty.at hty)) hy h4 (B := c.E.B) (fun j _ => hb_cell g4 j)]
              rfl
            · exact h.elim
          · exact h.elim
        · exact h.elim
      · exact h.elim
    · rename_i t' hd xs j off p u hx
      split at h
      · rename_i ty n hty
        split at h
        · rename_i he _
          subst he
          split at h
          · rename_i y hy
            refine ⟨_, h, does_val fun c ρ hw hρ ht => ?_⟩
            obtain ⟨h1, h2⟩ := hρ x (by rw [ho]; simp [Op.operands]) _ hx
            obtain ⟨hwk, hj, hat⟩ := h2
            have hget : xs[j]? = some (nthD t' xs j) := by
              unfold nthD
              rw [List.getElem?_eq_getElem hj]
              rfl
            rcases hwk.2 with ⟨hnil, _⟩ | ⟨b, o', cap, e1, e2, e3, e4, e5, e6⟩
            · simp at hnil
              subst hnil
              simp at hj
            · obtain ⟨g1, g2⟩ := e6 j _ hget
              refine ⟨?_, getV_ok p (.leaf t' (nthD t' xs j)) y off u hy hat g2⟩
              obtain ⟨k1, k2, k3⟩ := getV_sound c.E.B p (.leaf t' (nthD t' xs j)) y off u hy hat
              have hval : SV.val c.E (.a (.elt t' hd xs j off p u)) = .pointer (some ⟨b, o' + j * t'.sz + off, none⟩) := by
                simp only [SV.val, AV.val, e1]
              unfold execOp
              simp only [ho, h1, hval, Instr.loadAt, Instr.sureAddr, Sem.run_bind, Sem.run_pure, Result.andThen_ok]
              rw [load_run (y := y) (B := c.E.B) (by rw [k1]; exact tyB_1 (hT.ty.at hty)) fun q hq => ?_]
              · rfl
              · rw [k1] at hq
                have k2' : off + u.sz ≤ t'.sz := k2
                rw [Nat.add_assoc (o' + j * t'.sz), g1 (off + q) (by omega), k3, drop_take_get hq]
                rfl
          · exact h.elim
        · exact h.elim
      · exact h.elim
    · exact h.elim
  · rename_i t x y ho
    split at h
    · rename_i i off p u hx
      split at h
      · rename_i ty n hty
        split at h
        · rename_i he _
          subst he
          split at h
          · rename_i s hs
            split at h
            · rename_i new hnew
              split at h
              · rename_i b hb
                rw [nthB_eq] at hb
                obtain ⟨z, h1, h2, h3⟩ := setK_sound _ _ _ _ h
                refine ⟨_, h1, does_set (b := b) (new := new) (p := p) (off := off) (u := u) hb (fun c hbo hno hat => ?_) fun c ρ hw hρ => ?_⟩
                · obtain ⟨g1, g2, g3, g4⟩ := h3 off u hat
                  exact ⟨h2, g1, g2, g3 _, g4 _ _ _ _ hbo hno⟩
                · obtain ⟨h4, h5⟩ := hρ x (by rw [ho]; simp [Op.operands]) _ hx
                  obtain ⟨h6, h7⟩ := hρ y (by rw [ho]; simp [Op.operands]) _ hs
                  obtain ⟨h8, h9⟩ := asV_sound hnew h7
                  have h10 : ρ y = new.val c.E.B := h6.trans h8
                  refine ⟨⟨t, tyB_1 (hT.ty.at hty), ?_⟩, h9, fun hb' => ?_⟩
                  · unfold execOp
                    simp only [ho, h4, h10]
                    rfl
                  · obtain ⟨_, t', h11, h12⟩ := h5
                    rw [hb'] at h11
                    cases h11
                    exact h12
              · exact h.elim
            · exact h.elim
          · exact h.elim
        · exact h.elim
      · exact h.elim
    · exact h.elim
  · rename_i t x j ho
    split at h
    · rename_i i off p u hx
      split at h
      · rename_i ty n hty
        split at h
        · rename_i he _
          subst he
          split at h
          · rename_i hj
            have hj' := Nat.le_of_ble_eq_true hj
            split at h
            · rename_i d w hd
              obtain ⟨d', w', e1, e2, e3⟩ := tyB_fld (hT.ty.at hty) (k := j) hj'
              rw [hd] at e1
              cases e1
              refine ⟨_, appP_elim _ _ _ h, does_val fun c ρ hw hρ _ => ?_⟩
              obtain ⟨h1, h2⟩ := hρ x (by rw [ho]; simp [Op.operands]) _ hx
              obtain ⟨h3, t', h4, h5⟩ := h2
              refine ⟨?_, h3, t', h4, At.append p t' off u _ d w h5 (offT_at _ _ _ _ hd)⟩
              unfold execOp
              simp only [ho, h1, SV.val, AV.val, Sem.run_bind, Sem.run_pure, Result.andThen_ok, fo_run e2]
            · exact h.elim
          · exact h.elim
        · exact h.elim
      · exact h.elim
    · rename_i t' hd' xs q off p u hx
      split at h
      · rename_i ty n hty
        split at h
        · rename_i he _
          subst he
          split at h
          · rename_i hj
            have hj' := Nat.le_of_ble_eq_true hj
            split at h
            · rename_i d w hd
              obtain ⟨d', w', e1, e2, e3⟩ := tyB_fld (hT.ty.at hty) (k := j) hj'
              rw [hd] at e1
              cases e1
              refine ⟨_, appP_elim _ _ _ h, does_val fun c ρ hw hρ _ => ?_⟩
              obtain ⟨h1, h2⟩ := hρ x (by rw [ho]; simp [Op.operands]) _ hx
              obtain ⟨hwk, hq, hat⟩ := h2
              refine ⟨?_, hwk, hq, At.append p t' off u _ d w hat (offT_at _ _ _ _ hd)⟩
              rcases hwk.2 with ⟨hnil, _⟩ | ⟨b, o', cap, f1, _⟩
              · simp at hnil
                subst hnil
                simp at hq
              · have f1' : hd'.val c.E.B = .slice (some ⟨b, o', none⟩) xs.length cap := f1
                unfold execOp
                simp only [ho, h1, SV.val, AV.val, f1', Sem.run_bind, Sem.run_pure, Result.andThen_ok, fo_run e2, Nat.add_assoc]
            · exact h.elim
          · exact h.elim
        · exact h.elim
      · exact h.elim
    · exact h.elim
  · rename_i t x j ho
    split at h
    · rename_i v hx
      split at h
      · rename_i ty n hty
        split at h
        · rename_i he _
          subst he
          split at h
          · rename_i hj
            have hj' := Nat.le_of_ble_eq_true hj
            split at h
            · rename_i y hy
              obtain ⟨d, w, e1, e2, e3⟩ := tyB_fld (hT.ty.at hty) (k := j) hj'
              refine ⟨_, h, does_val fun c ρ hw hρ _ => ?_⟩
              obtain ⟨h1, h2⟩ := hρ x (by rw [ho]; simp [Op.operands]) _ hx
              have hat := offT_at _ _ _ _ e1
              obtain ⟨k1, k2, k3⟩ := getV_sound c.E.B _ v y d w hy hat
              refine ⟨?_, getV_ok _ v y d w hy hat h2⟩
              unfold fldB at e3
              split at e3
              · rename_i fields hu
                split at e3
                · rename_i fl hfl
                  rw [Bool.and_eq_true, beq_iff_eq] at e3
                  have hagg : v.ty.agg = true := by
                    have h1 := tyB_1 (hT.ty.at hty)
                    unfold tyB1 at h1
                    split at h1
                    · assumption
                    · unfold scB at h1
                      rw [hu] at h1
                      simp at h1
                  unfold execOp
                  simp only [ho, h1, SV.val, AV.val]
                  rw [V.val_agg hagg]
                  simp only [Instr.field, Sem.run_bind, run_underlying hu, Result.andThen_ok, hfl, asAgg, Sem.run_pure, e3.1]
                  rw [part_run (y := y) (B := c.E.B) (by rw [k1]; exact e3.2) (by rw [k1]; exact k3) (by rw [k1, V.cells_len]; exact k2)]
                  rfl
                · cases e3
              · cases e3
            · exact h.elim
          · exact h.elim
        · exact h.elim
      · exact h.elim
    · exact h.elim
  · rename_i t x y ho
    split at h
    · rename_i z hy
      split at h
      · rename_i i off p u hx
        split at h
        · rename_i n e n0 hty
          split at h
          · rename_i he _
            subst he
            · obtain ⟨hz, h⟩ := h
              refine ⟨_, appP_elim _ _ _ h, does_val fun c ρ hw hρ _ => ?_⟩
              obtain ⟨h1, h2⟩ := hρ x (by rw [ho]; simp [Op.operands]) _ hx
              obtain ⟨h3, h4⟩ := hρ y (by rw [ho]; simp [Op.operands]) _ hy
              obtain ⟨h5, t', h6, h7⟩ := h2
              have hlt : Int.toNat z < n := (Int.toNat_lt hz.1).2 hz.2
              refine ⟨?_, h5, t', h6, ?_⟩
              · have ha := tyB_arr (hT.ty.at hty)
                unfold arrB at ha
                split at ha
                · rename_i l el hu
                  simp only [Bool.and_eq_true, beq_iff_eq] at ha
                  obtain ⟨⟨rfl, hs⟩, _⟩ := ha
                  cases hi : P.info? el with
                  | none => rw [hi] at hs; simp at hs
                  | some inf =>
                    have hsz : inf.size = e.sz := by simpa [hi] using hs
                    have h3' : ρ y = .int .i64 z := h3
                    unfold execOp
                    simp only [ho, h1, h3', SV.val, AV.val, Instr.indexAt, asIntOf, Sem.run_bind, Sem.run_pure, Result.andThen_ok, run_underlying hu, Instr.sureAddr]
                    rw [if_pos hz]
                    simp only [sizeOf, typeInfo, Sem.run_bind, run_program, Result.andThen_ok, hi, Sem.run_pure, hsz]
                    congr 4
                    unfold Addr.add
                    split
                    · rename_i h0; rw [h0]; rfl
                    · rfl
                · cases ha
              · refine At.append p t' off _ _ _ e h7 ⟨hlt, 0, ?_, by omega⟩
                unfold At
                exact ⟨rfl, rfl⟩
          · exact h.elim
        · exact h.elim
      · rename_i e v hx
        split at h
        · rename_i ty n0 hty
          split at h
          · rename_i he _
            subst he
            obtain ⟨hz, h⟩ := h
            refine ⟨_, h, does_val fun c ρ hw hρ _ => ?_⟩
            obtain ⟨h1, h2⟩ := hρ x (by rw [ho]; simp [Op.operands]) _ hx
            obtain ⟨h3, h4⟩ := hρ y (by rw [ho]; simp [Op.operands]) _ hy
            have hlt : Int.toNat z < v.2.length := (Int.toNat_lt hz.1).2 hz.2
            refine ⟨?_, h2, hlt, by unfold At; exact ⟨rfl, rfl⟩⟩
            rcases h2.2 with ⟨hnil, _⟩ | ⟨b, o', cap, f1, f2, _⟩
            · rw [hnil] at hlt; simp at hlt
            · have ha := tyB_lst (hT.ty.at hty)
              unfold lstB at ha
              split at ha
              · rename_i el hu
                simp only [Bool.and_eq_true, beq_iff_eq] at ha
                obtain ⟨⟨⟨⟨hs, _⟩, _⟩, _⟩, _⟩ := ha
                cases hi : P.info? el with
                | none => rw [hi] at hs; simp at hs
                | some inf =>
                  have hsz : inf.size = e.sz := by simpa [hi] using hs
                  have h3' : ρ y = .int .i64 z := h3
                  have h1' : ρ x = .slice (some ⟨b, o', none⟩) v.2.length cap := by rw [h1]; exact f1
                  unfold execOp
                  simp only [ho, h1', h3', SV.val, AV.val, f1, Instr.indexAt, asIntOf, Sem.run_bind, Sem.run_pure, Result.andThen_ok, run_underlying hu]
                  rw [if_pos hz]
                  simp only [sizeOf, typeInfo, Sem.run_bind, run_program, Result.andThen_ok, hi, Sem.run_pure, hsz]
                  congr 4
                  unfold Addr.add
                  split
                  · rename_i h0; rw [h0]; rfl
                  · rfl
              · cases ha
          · exact h.elim
        · exact h.elim
      · exact h.elim
    · exact h.elim
  · rename_i t x y ho
    split at h
    · rename_i z hy
      split at h
      · rename_i v hx
        split at h
        · rename_i n e n0 hty
          split at h
          · rename_i he _
            · split at h
              · rename_i w hg
                obtain ⟨hz, h⟩ := h
                refine ⟨_, h, does_val fun c ρ hw hρ _ => ?_⟩
                obtain ⟨h1, h2⟩ := hρ x (by rw [ho]; simp [Op.operands]) _ hx
                obtain ⟨h3, h4⟩ := hρ y (by rw [ho]; simp [Op.operands]) _ hy
                have hlt : Int.toNat z < n := (Int.toNat_lt hz.1).2 hz.2
                have hat : At v.ty [.idx (Int.toNat z)] (Int.toNat z * e.sz) e := by
                  rw [he]
                  exact ⟨hlt, 0, by unfold At; exact ⟨rfl, rfl⟩, by omega⟩
                obtain ⟨k1, k2, k3⟩ := getV_sound c.E.B _ v w _ e hg hat
                refine ⟨?_, getV_ok _ v w _ e hg hat h2⟩
                have ha := tyB_arr (hT.ty.at hty)
                unfold arrB at ha
                split at ha
                · rename_i l el hu
                  simp only [Bool.and_eq_true, beq_iff_eq] at ha
                  obtain ⟨⟨rfl, hs⟩, hel⟩ := ha
                  cases hi : P.info? el with
                  | none => rw [hi] at hs; simp at hs
                  | some inf =>
                    have hsz : inf.size = e.sz := by simpa [hi] using hs
                    have h3' : ρ y = .int .i64 z := h3
                    have h1' : ρ x = .agg (v.cells c.E.B).toArray := by
                      rw [h1]
                      exact V.val_agg (by rw [he]; rfl)
                    unfold execOp
                    simp only [ho, h1', h3', Instr.index, asIntOf, Sem.run_bind, Sem.run_pure, Result.andThen_ok, run_underlying hu]
                    rw [if_pos hz]
                    simp only [sizeOf, typeInfo, Sem.run_bind, run_program, Result.andThen_ok, hi, Sem.run_pure, hsz]
                    rw [part_run (y := w) (B := c.E.B) (by rw [k1]; exact hel) (by rw [k1]; exact k3) (by rw [k1, V.cells_len]; exact k2)]
                    rfl
                · cases ha
              · exact h.elim
          · exact h.elim
        · exact h.elim
      · exact h.elim
    · exact h.elim
  · rename_i op t x y u ho
    split at h
    · rename_i s hx
      split at h
      · rename_i w hy
        obtain ⟨v, hk, hv⟩ := bop_sound hT h
        refine ⟨_, hk, does_val fun c ρ hw hρ _ => ?_⟩
        obtain ⟨h1, h2⟩ := hρ x (by rw [ho]; simp [Op.operands]) _ hx
        obtain ⟨h3, h4⟩ := hρ y (by rw [ho]; simp [Op.operands]) _ hy
        obtain ⟨h5, h6⟩ := hv c x y c.x h2 h4
        refine ⟨?_, h6⟩
        unfold execOp
        simp only [ho, h1, h3]
        rw [Sem.run_bind]
        show (Sem.run P (do eqGuard op t x y (s.val c.E) (w.val c.E); binOp op t (s.val c.E) (w.val c.E)) c.x).andThen _ = _
        rw [h5]
        rfl
      · exact h.elim
    · exact h.elim
  · rename_i t x ho
    split at h
    · rename_i b hx
      refine ⟨_, h, does_val fun c ρ hw hρ _ => ?_⟩
      obtain ⟨h1, h2⟩ := hρ x (by rw [ho]; simp [Op.operands]) _ hx
      refine ⟨?_, trivial⟩
      have h1' : ρ x = .bool b := h1
      unfold execOp
      simp only [ho, h1', Op.unary]
      rfl
    · exact h.elim
  · rename_i t x ho
    split at h
    · rename_i s hs
      split at h
      · rename_i ty n hty
        split at h
        · rename_i v hv
          have h := lenK_elim _ _ _ h
          rw [Nat.add_zero] at h
          refine ⟨_, h, does_new fun c ρ hw hρ => ?_⟩
          obtain ⟨h1, h2⟩ := hρ x (by rw [ho]; simp [Op.operands]) _ hs
          obtain ⟨h3, h4⟩ := asV_sound hv h2
          have h5 : ρ x = v.val c.E.B := h1.trans h3
          refine ⟨t, ?_, h4⟩
          unfold execOp
          simp only [ho, h5, Instr.box, newVar, newRow, Sem.run_bind, Sem.run_pure, Result.andThen_ok, run_newObj_alloc, V.val_cells v (V.cells_one v h4)]
        · exact h.elim
      · exact h.elim
    · exact h.elim
  · rename_i t ho
    split at h
    · rename_i ty n hty
      have h := lenK_elim _ _ _ h
      rw [Nat.add_zero] at h
      refine ⟨_, h, does_new (v := .leaf ty ty.zero) fun c ρ hw hρ => ?_⟩
      obtain ⟨v, h1, h2⟩ := zero_run (tyB_zero (hT.ty.at hty)) c.E.B c.x
      refine ⟨t, ?_, zero_wok _ _ _ _ ty⟩
      unfold execOp
      simp only [ho, Instr.alloc, newVar, newRow, Sem.run_bind, Sem.run_pure, h1, Result.andThen_ok, run_newObj_alloc, h2]
      rfl
    · exact h.elim
  · rename_i t parts ho
    split at h
    · rename_i ty n hty
      have hzr := fun (c : Cx) => zero_run (tyB_zero (hT.ty.at hty)) c.E.B c.x
      have hops : ∀ (ρ : Operand → Value) (c : Cx), (∀ y ∈ o.op.operands, ∀ s, evS f y = some s → ρ y = s.val c.E ∧ s.ok c) → ∀ e ∈ parts.toList, ∀ s, evS f e.2 = some s → ρ e.2 = s.val c.E ∧ s.ok c := fun ρ c hρ e he s hs => hρ e.2 (by
        rw [ho]
        simp only [Op.operands, List.mem_toArray, List.mem_map]
        exact ⟨e, he, rfl⟩) s hs
      split at h
      · rename_i m e
        have ha := tyB_arr (hT.ty.at hty)
        unfold arrB at ha
        split at ha
        · rename_i l el hu
          simp only [Bool.and_eq_true, beq_iff_eq] at ha
          obtain ⟨⟨rfl, hs⟩, hel⟩ := ha
          cases hi : P.info? el with
          | none => rw [hi] at hs; simp at hs
          | some inf =>
            have hsz : inf.size = e.sz := by simpa [hi] using hs
            obtain ⟨v', h1, h2, h3⟩ := part_sound (path := fun i => [.idx i]) (place := fun i => some (i * e.sz, e.sz)) (ty := .arr l e) (fun i hi => ⟨i * e.sz, e, ⟨hi, 0, by unfold At; exact ⟨rfl, rfl⟩, by omega⟩, rfl⟩) _ _ _ rfl h
            refine ⟨_, h1, does_val fun c ρ hw hρ _ => ?_⟩
            obtain ⟨z, z1, z2⟩ := hzr c
            obtain ⟨g1, g2⟩ := h3 c ρ (zero_wok _ _ _ _ (.arr l e)) (hops ρ c hρ)
            refine ⟨?_, g2⟩
            have hv : v'.val c.E.B = .agg (v'.cells c.E.B).toArray := V.val_agg (by rw [h2]; rfl)
            unfold execOp
            simp only [ho, Instr.build, Sem.run_bind, z1, Result.andThen_ok, run_underlying hu, sizeOf, typeInfo, run_program, hi, Sem.run_pure, hsz, Array.toList_map, z2]
            rw [show Instr.fill (fun i => some (i * e.sz, e.sz)) (flat c.E.B (.arr l e) (Ty.arr l e).zero).toArray (parts.toList.map fun (e : Nat × Operand) => match e with | (i, x) => (i, ρ x)) = some (v'.cells c.E.B).toArray from g1]
            simp only [Sem.run_pure, Result.andThen_ok, SV.val, AV.val, hv]
        · cases ha
      · rename_i hna
        have hb := hT.ty.at hty
        have hcnt := tyB_cnt hb
        split at h <;> first | exact h.elim | skip
        rename_i hn0
        have hn1 : 1 ≤ n := Nat.le_of_ble_eq_true hn0
        unfold cntB at hcnt
        split at hcnt
        · rename_i fields hu
          have hsize : fields.size = n := by simpa using hcnt
          have hfld : ∀ i, i < n → ∃ fl d u, fields[i]? = some fl ∧ At ty (fldP n i) d u ∧ fl.offset = d ∧ (P.info? fl.type).map (·.size) = some u.sz := fun i hi => by
            obtain ⟨d, u, e1, e2, e3⟩ := tyB_fld hb hi
            unfold fldB at e3
            rw [hu] at e3
            simp only at e3
            split at e3
            · rename_i fl hfl
              rw [Bool.and_eq_true, beq_iff_eq] at e3
              refine ⟨fl, d, u, hfl, offT_at _ _ _ _ e1, e3.1, ?_⟩
              have h5 := e3.2
              unfold tyB1 at h5
              split at h5
              · obtain ⟨_, _, _, hi⟩ := rowB_spec h5; exact hi
              · rename_i hag
                have hz : u.sz = 1 := by cases u <;> first | rfl | simp [Ty.agg] at hag
                rw [hz]; exact scB_size h5
            · cases e3
          have hmap : ∀ x : World, (fields.mapM fun fl => do pure (fl.offset, ← sizeOf fl.type) : Sem (Array (Nat × Nat))).run P x = .ok (fields.map fun fl => (fl.offset, P.cellsOf fl.type)) x := fun x => by
            have hl : ∀ l : List Field, (∀ fl ∈ l, ∃ i, P.info? fl.type = some i) → (l.mapM fun fl => do pure (fl.offset, ← sizeOf fl.type) : Sem (List (Nat × Nat))).run P x = .ok (l.map fun fl => (fl.offset, P.cellsOf fl.type)) x := by
              intro l
              induction l with
              | nil => intro _; simp
              | cons q l ih =>
                intro hq
                obtain ⟨inf, hinf⟩ := hq q (by simp)
                rw [List.mapM_cons, Sem.run_bind, Sem.run_bind, run_sizeOf x hinf, Result.andThen_ok, Sem.run_pure, Result.andThen_ok, Sem.run_bind, ih (fun fl hfl => hq fl (by simp [hfl]))]
                rfl
            have hops : fields = fields.toList.toArray := by simp
            rw [hops, List.mapM_toArray, Sem.run_map, hl _ (fun fl hfl => by
              obtain ⟨i, hi, hie⟩ := List.getElem_of_mem hfl
              obtain ⟨fl', d, u, g1, _, _, g4⟩ := hfld i (by simpa [hsize] using hi)
              have : fl' = fl := by
                have e1 : fields.toList[i]? = some fl := by rw [List.getElem?_eq_getElem hi, hie]
                rw [Array.getElem?_toList, g1] at e1
                exact Option.some.inj e1
              subst this
              cases hinf : P.info? fl'.type with
              | none => rw [hinf] at g4; simp at g4
              | some inf => exact ⟨inf, rfl⟩)]
            show Result.ok _ x = Result.ok _ x
            congr 1
            apply Array.toList_inj.1
            simp
          obtain ⟨v', h1, h2, h3⟩ := part_sound (path := fun i => fldP n i) (place := fun i => (fields.map fun fl => (fl.offset, P.cellsOf fl.type))[i]?) (ty := ty) (fun i hi => by
            obtain ⟨fl, d, u, g1, g2, g3, g4⟩ := hfld i hi
            refine ⟨d, u, g2, ?_⟩
            rw [Array.getElem?_map, g1]
            simp [g3, Program.cellsOf, g4]) _ _ _ rfl h
          refine ⟨_, h1, does_val fun c ρ hw hρ _ => ?_⟩
          obtain ⟨z, z1, z2⟩ := hzr c
          obtain ⟨g1, g2⟩ := h3 c ρ (zero_wok _ _ _ _ ty) (hops ρ c hρ)
          refine ⟨?_, g2⟩
          have hagg : ty.agg = true := by
            have h1 := tyB_1 hb
            unfold tyB1 at h1
            split at h1
            · assumption
            · unfold scB at h1
              rw [hu] at h1
              simp at h1
          have hv : v'.val c.E.B = .agg (v'.cells c.E.B).toArray := V.val_agg (by rw [h2]; exact hagg)
          unfold execOp
          simp only [ho, Instr.build, Sem.run_bind, z1, Result.andThen_ok, run_underlying hu, hmap, Array.toList_map, z2]
          rw [show Instr.fill (fun i => (fields.map fun fl => (fl.offset, P.cellsOf fl.type))[i]?) (flat c.E.B ty ty.zero).toArray (parts.toList.map fun (e : Nat × Operand) => match e with | (i, x) => (i, ρ x)) = some (v'.cells c.E.B).toArray from g1]
          simp only [Sem.run_pure, Result.andThen_ok, SV.val, AV.val, hv]
        · rename_i hns
          exfalso
          have hn0 : n = 0 := by simpa using hcnt
          omega
    · exact h.elim
  · rename_i x j ho
    split at h
    · rename_i l hx
      split at h
      · rename_i y hy
        refine ⟨_, h, does_val fun c ρ hw hρ _ => ?_⟩
        obtain ⟨h1, h2⟩ := hρ x (by rw [ho]; simp [Op.operands]) _ hx
        refine ⟨?_, h2 y (List.mem_of_getElem? hy)⟩
        unfold execOp
        simp only [ho, h1, SV.val, Instr.extract]
        simp [hy]
      · exact h.elim
    · exact h.elim
  · rename_i x ho
    split at h
    · rename_i i off p u hx
      refine ⟨_, h, does_val fun c ρ hw hρ _ => ?_⟩
      obtain ⟨h1, h2⟩ := hρ x (by rw [ho]; simp [Op.operands]) _ hx
      refine ⟨?_, h2⟩
      unfold execOp
      simp only [ho, h1, SV.val, AV.val]
      rfl
    · exact h.elim
  · exact h.elim
end

end Go.Proofs.Ytjbbgpacijageaa.M
