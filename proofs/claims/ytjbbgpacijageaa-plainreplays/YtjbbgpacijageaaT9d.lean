/- Lists of one's own: append onto them; parts of lists; the least of two; nil pointers. No program is named here. -/
import Derived.Test.YtjbbgpacijageaaT9c
namespace Go.Proofs.Ytjbbgpacijageaa.M
open Go.RowKit
set_option linter.unusedVariables false
set_option linter.unusedSimpArgs false

/-- A list in a slot; an empty one without room counts as nil. -/
def lstA (e : Ty) (s : AV) (k : Hd → List e.D → Prop) : Prop :=
  match s with
  | .of v => denK v (.lst e) fun d => k d.1 d.2
  | .raw (.slice none 0 0) => k nilH []
  | .emp _ => k nilH []
  | _ => False
/-- Append onto a list of one's own: the token with that list's name is turned. -/
structure AppW (e : Ty) (h : Hd) (xs ys : List e.D) (nn : NS) (k : SV → NS → Prop) : Prop where
  ex : ∃ i, nn.tk[i]? = some (h, e.sz) ∧ (xs.length + ys.length ≤ 140737488355328 ∧ (xs.length + ys.length) * e.byt ≤ 140737488355328) ∧ k (.a (.of (.leaf (.lst e) (.nm nn.n, xs ++ ys)))) ⟨nn.n + 1, nn.tk.set i (.nm nn.n, e.sz)⟩
def isOwn (T : Tab) (o : Oper) : Bool :=
  match o.op with
  | .call c => match c.callee with
    | .builtin .append => match c.argTypes.toList with
      | [t, _] => inL T.tks t
      | _ => false
    | _ => false
  | _ => false
def ownK (T : Tab) (o : Oper) (f : Fr) (nn : NS) (k : SV → NS → Prop) : Prop :=
  match o.op with
  | .call c => match c.callee with
    | .builtin .append => match c.args.toList with
      | [x, y] => match c.argTypes.toList with
        | [t, u] => match tyL T.ty t with
          | some (.lst e, _) => match Nat.beq u t with
            | true => match evS f x with
              | some (.a s) => lstA e s fun h xs => match evS f y with
                | some (.a (.of v)) => denK v (.lst e) fun d => AppW e h xs d.2 nn k
                | some (.a (.raw (.slice none 0 0))) => AppW e h xs [] nn k
                | _ => False
              | _ => False
            | false => False
          | _ => False
        | _ => False
      | _ => False
    | _ => False
  | _ => False

section
variable {P : Program} {w0 : World} {F0 : Old}

theorem src_of {c : Cx} {e : Ty} {h : Hd} {ys : List e.D} {u el : TypeId} (hu : P.underlying u = some (.slice el)) (h1 : 1 ≤ e.sz) (hw : wokc c (.lst e) (h, ys)) : Src P e.sz u (h.val c.E.B) ys.length (ys.flatMap (flat c.E.B e)) c.x := by
  have hfl : ∀ e' ∈ ys, (flat c.E.B e e').length = e.sz := fun e' _ => flat_len _ _ _
  obtain ⟨_, hd⟩ := hw
  rcases hd with ⟨hnl, ad, cap, hdv⟩ | ⟨b, o', cap, hdv, c1, c2, c3, c4, c5⟩
  · have hnl : ys = [] := hnl
    have hdv : h.val c.E.B = .slice ad 0 cap := hdv
    subst hnl
    rw [hdv]
    cases ad with
    | none => exact Src.ofNil c.x hu cap
    | some a => exact Src.ofSlice c.x hu a 0 cap [] (by simp) (by simp) (by simp)
  · have hdv : h.val c.E.B = .slice (some ⟨b, o', none⟩) ys.length cap := hdv
    rw [hdv]
    refine Src.ofSlice c.x hu _ _ cap _ (flatMap_len _ hfl) (fun j w hj => ?_) (fun w hm => ?_)
    · have hj' : j = (j / e.sz) * e.sz + j % e.sz := by rw [Nat.mul_comm]; exact (Nat.div_add_mod j e.sz).symm
      have hm : j % e.sz < e.sz := Nat.mod_lt _ (by omega)
      rw [hj', flatMap_get _ hfl _ _ hm] at hj
      cases hq : ys[j / e.sz]? with
      | none => rw [hq] at hj; cases hj
      | some q =>
        rw [hq] at hj
        have := (c5 _ q hq).1 _ hm
        rw [Addr.add_mid, hj', ← Nat.add_assoc, this]
        exact hj
    · obtain ⟨q, hq, hm⟩ := List.mem_flatMap.1 hm
      obtain ⟨j, hj⟩ := List.getElem?_of_mem hq
      exact flat_one e q (c5 j q hj).2 w hm

/-- A list that is made, or has grown, at the end of a block that nothing else wants. -/
theorem grown {bl : List V} {nn : NS} {c : Cx} (hr : Real w0 F0 bl nn c) {x' : World} {e : Ty} {zs : List e.D} {i : Nat} {h : Hd} (hi : nn.tk[i]? = some (h, e.sz)) {b o cap : Nat} {C : Array Value} {t : TypeId}
    (hsame : Same c.x x' (fun k => k = b)) (hb0 : w0.heap.size ≤ b) (hb1 : ∀ i, c.XA i → c.E.A i ≠ b) (hB : HB x' b C t) (hl : zs.length ≤ cap) (hc : cap ≤ maxLen) (hC : o + cap * e.sz ≤ C.size)
    (hF : ∀ e', c.E.F b e' → e' ≤ o + zs.length * e.sz) (hK : ∀ e', c.E.F b e' → ∀ j, j < e' → x'.cell? ⟨b, j, none⟩ = c.x.cell? ⟨b, j, none⟩)
    (hoth : ∀ q s', q.val c.E.B ≠ .slice none 0 0 → ∀ j, j ≠ i → nn.tk[j]? = some (q, s') → ∀ o' l' k', q.val c.E.B = .slice (some ⟨b, o', none⟩) l' k' → 0 < k' → False)
    (hz : ∀ (q : Nat) z, zs[q]? = some z → (∀ j, j < e.sz → x'.cell? ⟨b, o + q * e.sz + j, none⟩ = (flat c.E.B e z)[j]?) ∧ wokc c e z) :
    ∃ c', Real w0 F0 bl ⟨nn.n + 1, nn.tk.set i (.nm nn.n, e.sz)⟩ c' ∧ c.Le c' ∧ c'.E.B nn.n = .slice (some ⟨b, o, none⟩) zs.length cap ∧ wokc c' (.lst e) (.nm nn.n, zs) ∧ c'.x = x' := by
  have hX := hr.XB
  let E' : Env := ⟨c.E.A, fun n => if n = nn.n then .slice (some ⟨b, o, none⟩) zs.length cap else c.E.B n, fun d k => c.E.F d k ∨ (d = b ∧ k = o + zs.length * e.sz)⟩
  let c' : Cx := { XA := c.XA, XB := fun n => n < nn.n + 1, ty := c.ty, E := E', x := x' }
  have hBn : E'.B nn.n = .slice (some ⟨b, o, none⟩) zs.length cap := if_pos rfl
  have hBo : ∀ n, c.XB n → E'.B n = c.E.B n := fun n hn => if_neg (by have := (hX n).1 hn; omega)
  have hle : c.Le c' := by
    refine ⟨fun i hi => ⟨hi, rfl, rfl⟩, fun n hn => ⟨Nat.lt_succ_of_lt ((hX n).1 hn), hBo n hn⟩, fun _ _ h => Or.inl h, fun d k hd j hj => ?_, hsame.size⟩
    by_cases hdb : d = b
    · subst hdb
      exact hK k hd j hj
    · exact World.cell?_of_block (hsame.block d (hr.wf.fhi d k hd) hdb)
  have hbx : b < x'.heap.size := hB.lt
  have hwf : c'.Wf w0 F0 := by
    refine ⟨hr.wf.below.trans (hsame.below hr.wf.below.size fun k hk hkb => ?_), hr.wf.lo, fun i hi => Nat.lt_of_lt_of_le (hr.wf.hi i hi) hsame.size, hr.wf.inj, fun d k hd => ?_, fun i hi k hk => ?_, fun d k hd => ?_, fun n hn => ⟨Nat.lt_succ_of_lt ((hX n).1 (hr.wf.oldB n hn).1), (hBo n (hr.wf.oldB n hn).1).trans (hr.wf.oldB n hn).2⟩, hr.wf.le.trans hle⟩
    · omega
    · rcases hd with hd | ⟨rfl, _⟩
      · exact Nat.lt_of_lt_of_le (hr.wf.fhi d k hd) hsame.size
      · exact hbx
    · rcases hk with hk | ⟨hk, _⟩
      · exact hr.wf.own i hi k hk
      · exact hb1 i hi hk
    · constructor
      · rintro (h1 | ⟨h1, _⟩)
        · exact (hr.wf.old d k hd).1 h1
        · omega
      · exact fun h1 => Or.inl ((hr.wf.old d k hd).2 h1)
  have hval : ∀ q : Hd, q.ok c.XB → q.val E'.B = q.val c.E.B := fun q hq => hdVal_congr hBo hq
  refine ⟨c', ⟨hwf, hr.XA, fun n => Iff.rfl, hr.ty, fun j v hv => ?_, ?_⟩, hle, hBn, ⟨Nat.lt_succ_self _, ?_⟩, rfl⟩
  · obtain ⟨⟨t', h1⟩, h2⟩ := hr.blk j v hv
    have hXA := (hr.XA j).2 (List.getElem?_eq_some_iff.1 hv).1
    refine ⟨⟨t', ?_⟩, V.okc_mono hle h2⟩
    have hcells : v.cells E'.B = v.cells c.E.B := V.cellsc hle h2
    show HB x' (c.E.A j) (v.cells E'.B).toArray t'
    rw [hcells]
    unfold HB
    rw [hsame.block _ h1.lt (hb1 j hXA)]
    exact h1
  · have htok : ∀ q s', (q, s') ∈ nn.tk → TokOk w0 c q s' := fun q s' hq => hr.tk.ok (q, s') hq
    have hilt : i < nn.tk.length := (List.getElem?_eq_some_iff.1 hi).1
    have hme : TokOk w0 c' (.nm nn.n) e.sz := ⟨Nat.lt_succ_self _, Or.inr ⟨b, o, zs.length, cap, C, t, hBn, hb0, hb1, hB, hl, hc, hC, fun e' he' => by
      rcases he' with he' | ⟨_, he'⟩
      · exact hF e' he'
      · omega⟩⟩
    have hot : ∀ j q s', j ≠ i → nn.tk[j]? = some (q, s') → TokOk w0 c' q s' := fun j q s' hj hq => by
      obtain ⟨g0, g⟩ := htok q s' (List.mem_of_getElem? hq)
      refine ⟨?_, ?_⟩
      · cases q with
        | conc u => trivial
        | nm k => exact Nat.lt_succ_of_lt ((hX k).1 g0)
      rcases g with ⟨ad, g⟩ | ⟨b', o', len', cap', C', t', g1, g2, g3, g4, g5, g6, g7, g8⟩
      · exact Or.inl ⟨ad, (hval q g0).trans g⟩
      · rcases Nat.eq_zero_or_pos cap' with h0 | h0
        · subst h0
          obtain rfl : len' = 0 := by omega
          exact Or.inl ⟨_, (hval q g0).trans g1⟩
        have hne : b' ≠ b := fun hbb => by
          subst hbb
          exact hoth q s' (by rw [g1]; intro h; cases h) j hj hq o' len' cap' g1 h0
        refine Or.inr ⟨b', o', len', cap', C', t', (hval q g0).trans g1, g2, g3, ?_, g5, g6, g7, fun e' he' => ?_⟩
        · show x'.heap[b']? = _
          rw [hsame.block b' g4.lt hne]
          exact g4
        · rcases he' with he' | ⟨he', _⟩
          · exact g8 e' he'
          · exact absurd he' hne
    refine ⟨fun p hp => ?_, ?_⟩
    · obtain ⟨j, hj⟩ := List.getElem?_of_mem hp
      have hj : (nn.tk.set i (.nm nn.n, e.sz))[j]? = some p := hj
      rw [List.getElem?_set] at hj
      split at hj
      · cases hj
        exact hme
      · rename_i hne
        exact hot j p.1 p.2 (Ne.symm hne) hj
    · have hap : ∀ j q s', j ≠ i → nn.tk[j]? = some (q, s') → Apart E'.B (.nm nn.n, e.sz) (q, s') ∧ Apart E'.B (q, s') (.nm nn.n, e.sz) := fun j q s' hj hq => by
        have g0 := (htok q s' (List.mem_of_getElem? hq)).1
        constructor
        · intro b1 o1 l1 k1 o2 l2 k2 h1 h2 _ h4
          have e1 : E'.B nn.n = .slice (some ⟨b1, o1, none⟩) l1 k1 := h1
          rw [hBn] at e1
          cases e1
          have e2 : q.val E'.B = .slice (some ⟨b, o2, none⟩) l2 k2 := h2
          rw [hval q g0] at e2
          exact hoth q s' (by rw [e2]; intro h; cases h) j hj hq _ _ _ e2 h4
        · intro b1 o1 l1 k1 o2 l2 k2 h1 h2 h3 _
          have e1 : E'.B nn.n = .slice (some ⟨b1, o2, none⟩) l2 k2 := h2
          rw [hBn] at e1
          cases e1
          have e2 : q.val E'.B = .slice (some ⟨b, o1, none⟩) l1 k1 := h1
          rw [hval q g0] at e2
          exact hoth q s' (by rw [e2]; intro h; cases h) j hj hq _ _ _ e2 h3
      show (nn.tk.set i (.nm nn.n, e.sz)).Pairwise (Apart E'.B)
      rw [List.pairwise_iff_getElem]
      intro j k hj hk hjk
      rw [List.length_set] at hj hk
      have hgj : nn.tk[j]? = some nn.tk[j] := List.getElem?_eq_getElem hj
      have hgk : nn.tk[k]? = some nn.tk[k] := List.getElem?_eq_getElem hk
      rw [List.getElem_set, List.getElem_set]
      by_cases hij : i = j
      · rw [if_pos hij, if_neg (by omega)]
        exact (hap k nn.tk[k].1 nn.tk[k].2 (by omega) hgk).1
      · rw [if_neg hij]
        by_cases hik : i = k
        · rw [if_pos hik]
          exact (hap j nn.tk[j].1 nn.tk[j].2 (by omega) hgj).2
        · rw [if_neg hik]
          have h0 := (List.pairwise_iff_getElem.1 hr.tk.ne) j k hj hk hjk
          intro b1 o1 l1 k1 o2 l2 k2 h1 h2 h3 h4
          exact h0 b1 o1 l1 k1 o2 l2 k2 ((hval _ (htok _ _ (List.mem_of_getElem? hgj)).1).symm.trans h1) ((hval _ (htok _ _ (List.mem_of_getElem? hgk)).1).symm.trans h2) h3 h4
  · refine Or.inr ⟨b, o, cap, hBn, hl, hc, hbx, ⟨_, Nat.le_refl _, Or.inr ⟨rfl, rfl⟩⟩, fun q z hq => ?_⟩
    obtain ⟨g1, g2⟩ := hz q z hq
    refine ⟨fun j hj => ?_, wokc_mono hle g2⟩
    rw [show flat c'.E.B e z = flat c.E.B e z from flat_congr hBo e z g2]
    exact g1 j hj
/-- Nothing is appended onto nothing. -/
theorem grown0 {bl : List V} {nn : NS} {c : Cx} (hr : Real w0 F0 bl nn c) {e : Ty} {i : Nat} {h : Hd} (hi : nn.tk[i]? = some (h, e.sz)) (ad : Option Addr) :
    ∃ c', Real w0 F0 bl ⟨nn.n + 1, nn.tk.set i (.nm nn.n, e.sz)⟩ c' ∧ c.Le c' ∧ c'.E.B nn.n = .slice ad 0 0 ∧ wokc c' (.lst e) (.nm nn.n, []) ∧ c'.x = c.x := by
  have hX := hr.XB
  let E' : Env := ⟨c.E.A, fun n => if n = nn.n then .slice ad 0 0 else c.E.B n, c.E.F⟩
  let c' : Cx := { XA := c.XA, XB := fun n => n < nn.n + 1, ty := c.ty, E := E', x := c.x }
  have hBn : E'.B nn.n = .slice ad 0 0 := if_pos rfl
  have hBo : ∀ n, c.XB n → E'.B n = c.E.B n := fun n hn => if_neg (by have := (hX n).1 hn; omega)
  have hle : c.Le c' := ⟨fun i hi => ⟨hi, rfl, rfl⟩, fun n hn => ⟨Nat.lt_succ_of_lt ((hX n).1 hn), hBo n hn⟩, fun _ _ h => h, fun d k hd j hj => rfl, Nat.le_refl _⟩
  have hval : ∀ q : Hd, q.ok c.XB → q.val E'.B = q.val c.E.B := fun q hq => hdVal_congr hBo hq
  have hwf : c'.Wf w0 F0 := ⟨hr.wf.below, hr.wf.lo, hr.wf.hi, hr.wf.inj, hr.wf.fhi, hr.wf.own, hr.wf.old, fun n hn => ⟨Nat.lt_succ_of_lt ((hX n).1 (hr.wf.oldB n hn).1), (hBo n (hr.wf.oldB n hn).1).trans (hr.wf.oldB n hn).2⟩, hr.wf.le.trans hle⟩
  refine ⟨c', ⟨hwf, hr.XA, fun n => Iff.rfl, hr.ty, fun j v hv => ?_, ?_⟩, hle, hBn, ⟨Nat.lt_succ_self _, Or.inl ⟨rfl, ad, 0, hBn⟩⟩, rfl⟩
  · obtain ⟨⟨t', h1⟩, h2⟩ := hr.blk j v hv
    refine ⟨⟨t', ?_⟩, V.okc_mono hle h2⟩
    have hcells : v.cells E'.B = v.cells c.E.B := V.cellsc hle h2
    show HB c.x (c.E.A j) (v.cells E'.B).toArray t'
    rw [hcells]
    exact h1
  · have htok : ∀ q s', (q, s') ∈ nn.tk → TokOk w0 c q s' := fun q s' hq => hr.tk.ok (q, s') hq
    have hilt : i < nn.tk.length := (List.getElem?_eq_some_iff.1 hi).1
    refine ⟨fun p hp => ?_, ?_⟩
    · obtain ⟨j, hj⟩ := List.getElem?_of_mem hp
      have hj : (nn.tk.set i (.nm nn.n, e.sz))[j]? = some p := hj
      rw [List.getElem?_set] at hj
      split at hj
      · cases hj
        exact ⟨Nat.lt_succ_self _, Or.inl ⟨ad, hBn⟩⟩
      · obtain ⟨g0, g⟩ := htok p.1 p.2 (List.mem_of_getElem? hj)
        refine ⟨?_, ?_⟩
        · cases hp1 : p.1 with
          | conc u => trivial
          | nm k => rw [hp1] at g0; exact Nat.lt_succ_of_lt ((hX k).1 g0)
        rcases g with ⟨ad', g⟩ | ⟨b', o', len', cap', C', t', g1, g2⟩
        · exact Or.inl ⟨ad', (hval _ g0).trans g⟩
        · exact Or.inr ⟨b', o', len', cap', C', t', (hval _ g0).trans g1, g2⟩
    · show (nn.tk.set i (.nm nn.n, e.sz)).Pairwise (Apart E'.B)
      rw [List.pairwise_iff_getElem]
      intro j k hj hk hjk
      rw [List.length_set] at hj hk
      have hgj : nn.tk[j]? = some nn.tk[j] := List.getElem?_eq_getElem hj
      have hgk : nn.tk[k]? = some nn.tk[k] := List.getElem?_eq_getElem hk
      rw [List.getElem_set, List.getElem_set]
      intro b1 o1 l1 k1 o2 l2 k2 h1 h2 h3 h4
      by_cases hij : i = j
      · rw [if_pos hij] at h1
        have e1 : E'.B nn.n = .slice (some ⟨b1, o1, none⟩) l1 k1 := h1
        rw [hBn] at e1
        cases e1
        omega
      · rw [if_neg hij] at h1
        by_cases hik : i = k
        · rw [if_pos hik] at h2
          have e1 : E'.B nn.n = .slice (some ⟨b1, o2, none⟩) l2 k2 := h2
          rw [hBn] at e1
          cases e1
          omega
        · rw [if_neg hik] at h2
          have h0 := (List.pairwise_iff_getElem.1 hr.tk.ne) j k hj hk hjk
          exact h0 b1 o1 l1 k1 o2 l2 k2 ((hval _ (htok _ _ (List.mem_of_getElem? hgj)).1).symm.trans h1) ((hval _ (htok _ _ (List.mem_of_getElem? hgk)).1).symm.trans h2) h3 h4
/-- A part of a list. -/
def subK (e : Ty) (x : Operand) (low high max : Option Operand) (f : Fr) (nn : Nat) (k : Out → Prop) : Prop :=
  match max with
  | some _ => False
  | none => match evS f x with
    | some (.a (.of v)) => denK v (.lst e) fun d => bndK f low 0 fun lo => bndK f high d.2.length fun hi => Need (0 ≤ lo ∧ lo ≤ hi ∧ hi ≤ (d.2.length : Int)) (k ⟨.a (.of (.leaf (.lst e) (.nm nn, (d.2.drop lo.toNat).take (hi.toNat - lo.toNat)))), .none, 1, [], true, true⟩)
    | _ => False
theorem bounds_run2 {len cap : Nat} {lo hi : Int} {low high : Option Value} (hlo : (low = none ∧ lo = 0) ∨ low = some (.int .i64 lo)) (hhi : (high = none ∧ hi = (len : Int)) ∨ high = some (.int .i64 hi)) (hb : 0 ≤ lo ∧ lo ≤ hi ∧ hi ≤ (len : Int)) (hc : len ≤ cap) (x : World) :
    (Instr.sliceBounds true len cap low high none).run P x = .ok (lo.toNat, hi.toNat, cap) x := by
  have hcast : ((hi.toNat : Nat) : Int) = hi := by omega
  have hbnd : ∀ (z : Int) (y : Nat) (code : BoundsCode), 0 ≤ z ∧ z ≤ (y : Int) → (Instr.sliceBound (.int .i64 z) y code).run P x = .ok z.toNat x := fun z y code hz => by
    unfold Instr.sliceBound
    simp only [asIntOf, Sem.run_bind, Sem.run_pure, Result.andThen_ok]
    rw [if_pos hz]
    rfl
  unfold Instr.sliceBounds
  rcases hhi with ⟨rfl, rfl⟩ | rfl <;> rcases hlo with ⟨rfl, rfl⟩ | rfl
  · simp
  · simp only [Sem.run_bind, Sem.run_pure, Result.andThen_ok, hbnd lo len _ ⟨by omega, by omega⟩, Int.toNat_natCast]
  · simp only [Sem.run_bind, Sem.run_pure, Result.andThen_ok, hbnd hi cap _ ⟨by omega, by omega⟩]
    rfl
  · simp only [Sem.run_bind, Sem.run_pure, Result.andThen_ok, hbnd hi cap _ ⟨by omega, by omega⟩, hbnd lo hi.toNat _ ⟨by omega, by omega⟩]
theorem subK_sound {T : Tab} (hT : TabOk P T) {o : Oper} {t : TypeId} {x : Operand} {low high max : Option Operand} (ho : o.op = .slice t x low high max) {e : Ty} {n0 : Nat} (hty : tyL T.ty t = some (.lst e, n0)) {f : Fr} {get : Nat → Option V} {bl nn : Nat} {k : Out → Prop} (h : subK e x low high max f nn k) : ∃ out, k out ∧ Does P w0 F0 o f get bl nn out := by
  unfold subK at h
  split at h
  · exact h.elim
  split at h
  · rename_i v hx
    obtain ⟨d, h1, h2, h3, h4⟩ := denK_sound v (.lst e) _ h
    obtain ⟨lo, h1, hlo⟩ := bndK_sound h1
    obtain ⟨hi, h1, hhi⟩ := bndK_sound h1
    obtain ⟨hb, h5⟩ := h1
    obtain ⟨el, i, z, u1, u2, u3, u4, u5, u6, u7⟩ := lst_info (tyB_lst (hT.ty.at hty))
    refine ⟨_, h5, fun h => (by cases h), ?_⟩
    intro c ρ hw hρ ht _ hq
    have hX := hq rfl
    obtain ⟨e1, e2⟩ := hρ x (by rw [ho]; simp [Op.operands]) _ hx
    have elo := hlo ρ c (fun y hy s hs => hρ y (by rw [ho, hy]; simp [Op.operands]) s hs)
    have ehi := hhi ρ c (fun y hy s hs => hρ y (by rw [ho, hy]; simp [Op.operands]) s hs)
    have hwk : wokc c (.lst e) d := h4 _ _ _ _ e2
    have hval : ρ x = d.1.val c.E.B := by rw [e1]; exact val_leaf h2 (h3 c.E.B)
    -- the shape of the list
    have hshape : ∃ ad cap, d.1.val c.E.B = .slice ad d.2.length cap ∧ d.2.length ≤ cap := by
      rcases hwk.2 with ⟨g1, ad, cap, g2⟩ | ⟨b, o', cap, g1, g2, _⟩
      · exact ⟨ad, cap, by rw [g1]; exact g2, by rw [g1]; exact Nat.zero_le _⟩
      · exact ⟨some ⟨b, o', none⟩, cap, g1, g2⟩
    obtain ⟨ad, cap, hsh, hcap⟩ := hshape
    have hbr := bounds_run2 (P := P) (len := d.2.length) (cap := cap) (lo := lo) (hi := hi) (low := low.map ρ) (high := high.map ρ) (by
      rcases elo with ⟨h, h'⟩ | h
      · exact Or.inl ⟨by rw [h]; rfl, h'⟩
      · exact Or.inr h) (by
      rcases ehi with ⟨h, h'⟩ | h
      · exact Or.inl ⟨by rw [h]; rfl, h'⟩
      · exact Or.inr h) hb hcap c.x
    let v' : Value := .slice (if cap = lo.toNat then ad else ad.map (·.add (lo.toNat * e.sz))) (hi.toNat - lo.toNat) (cap - lo.toNat)
    have hrun : (execOp ρ o).run P c.x = .ok (.value v') c.x := by
      unfold execOp
      simp only [ho, hval, hsh, Instr.sliceAt, Instr.slice, Sem.run_bind, run_underlying u1, Result.andThen_ok, Option.map_none, hbr, sizeOf, typeInfo, run_program, u2, Sem.run_pure, u3]
      rfl
    rw [hrun]
    let E : Env := ⟨c.E.A, fun n => if n = nn then v' else c.E.B n, c.E.F⟩
    have hBn : E.B nn = v' := if_pos rfl
    have hBo : ∀ n, c.XB n → E.B n = c.E.B n := fun n hn => if_neg (by have := (hX n).1 hn; omega)
    have hlen : ((d.2.drop lo.toNat).take (hi.toNat - lo.toNat)).length = hi.toNat - lo.toNat := by simp; omega
    refine ⟨E, hBn.symm, ⟨Or.inr ⟨Nat.le_refl _, Nat.lt_succ_self _⟩, ?_⟩, fun _ _ => rfl, hBo, fun _ _ h => h, fun _ _ _ h => h, hw.fhi, same_refl _ _, (fun y hy => by cases hy), (fun i y hy => by cases hy)⟩
    by_cases h0 : hi.toNat - lo.toNat = 0
    · refine Or.inl ⟨List.length_eq_zero_iff.1 (by rw [hlen]; exact h0), (if cap = lo.toNat then ad else ad.map (·.add (lo.toNat * e.sz))), cap - lo.toNat, ?_⟩
      show E.B nn = _
      rw [hBn]
      show Value.slice _ (hi.toNat - lo.toNat) _ = _
      rw [h0]
    · rcases hwk.2 with ⟨g1, _⟩ | ⟨b, o', cap', g1, g2, g3, g4, ⟨fe, g5, g6⟩, g7⟩
      · have hl0 : d.2.length = 0 := by rw [g1]; rfl
        omega
      · rw [hsh] at g1
        obtain ⟨q1, _, q3⟩ := Value.slice.inj g1
        subst q1
        subst q3
        have hmul : lo.toNat * e.sz + (hi.toNat - lo.toNat) * e.sz ≤ d.2.length * e.sz := by rw [← Nat.add_mul]; exact Nat.mul_le_mul_right _ (by omega)
        refine Or.inr ⟨b, o' + lo.toNat * e.sz, cap - lo.toNat, ?_, by rw [hlen]; omega, by omega, g4, ⟨fe, ?_, g6⟩, fun j y hj => ?_⟩
        · show E.B nn = .slice _ ((d.2.drop lo.toNat).take (hi.toNat - lo.toNat)).length _
          rw [hBn, hlen]
          show Value.slice (if cap = lo.toNat then _ else _) _ _ = _
          rw [if_neg (by omega), Option.map_some, Addr.add_mid]
        · show o' + lo.toNat * e.sz + ((d.2.drop lo.toNat).take (hi.toNat - lo.toNat)).length * e.sz ≤ fe
          rw [hlen]; omega
        · have hj' : d.2[lo.toNat + j]? = some y := by
            rw [List.getElem?_take] at hj
            split at hj
            · rw [List.getElem?_drop] at hj; exact hj
            · cases hj
          obtain ⟨k1, k2⟩ := g7 _ y hj'
          have hle : c.Le (c.ext ⟨.a (.of (.leaf (.lst e) (.nm nn, (d.2.drop lo.toNat).take (hi.toNat - lo.toNat)))), .none, 1, [], true, true⟩ bl nn E c.x) := ⟨fun i hi => ⟨Or.inl hi, rfl, rfl⟩, fun n hn => ⟨Or.inl hn, hBo n hn⟩, fun _ _ h => h, fun _ _ _ _ _ => rfl, Nat.le_refl _⟩
          refine ⟨fun q hq' => ?_, wokc_mono hle k2⟩
          show c.x.cell? _ = (flat E.B e y)[q]?
          rw [show flat E.B e y = flat c.E.B e y from flat_congr hBo e y k2, ← k1 q hq']
          congr 2
          rw [Nat.add_mul]; omega
  · exact h.elim

/-- The lesser of two. -/
def minK (c : Call) (f : Fr) (k : Out → Prop) : Prop :=
  match c.args.toList with
  | [x, y] => match evS f x with
    | some (.a (.of (.leaf .int a))) => match evS f y with
      | some (.a (.of (.leaf .int b))) => k (.val (.a (.of (.leaf .int (if (b : Int) < a then b else a)))))
      | _ => False
    | _ => False
  | _ => False
theorem minK_sound {o : Oper} {c : Call} (ho : o.op = .call c) (hc : c.callee = .builtin .min) {f : Fr} {get : Nat → Option V} {bl nn : Nat} {k : Out → Prop} (h : minK c f k) : ∃ out, k out ∧ Does P w0 F0 o f get bl nn out := by
  unfold minK at h
  split at h <;> first | exact h.elim | skip
  rename_i x y hxy
  split at h <;> first | exact h.elim | skip
  rename_i a hx
  split at h <;> first | exact h.elim | skip
  rename_i b hy
  refine ⟨_, h, does_val fun cx ρ hw hρ _ => ⟨?_, trivial⟩⟩
  have hargs : c.args = #[x, y] := by apply Array.toList_inj.1; rw [hxy]
  obtain ⟨e1, _⟩ := hρ x (by rw [ho]; simp [Op.operands, Call.operands, hc, hargs]) _ hx
  obtain ⟨e2, _⟩ := hρ y (by rw [ho]; simp [Op.operands, Call.operands, hc, hargs]) _ hy
  have e1' : ρ x = .int .i64 a := e1
  have e2' : ρ y = .int .i64 b := e2
  unfold execOp
  simp only [ho, resolve, hc, invoke, builtin, Sem.run_bind, Sem.run_pure, Result.andThen_ok, hargs, List.map_toArray, List.map_cons, List.map_nil, e1', e2', Builtin.min_, Builtin.min2, List.foldlM_cons, List.foldlM_nil]
  rfl

theorem eq_slice_nil {t e : TypeId} (h : P.underlying t = some (.slice e)) (w : World) (a : Option Addr) (l c : Nat) : (Op.equal t (.slice a l c) (.slice none 0 0)).run P w = .ok a.isNone w := by
  show (Op.equalIn (9999 + 1) t (.slice a l c) (.slice none 0 0)).run P w = _
  unfold Op.equalIn
  rw [Sem.run_bind, run_underlying h]
  cases a <;> rfl
theorem eq_ptr_nil {t e : TypeId} (h : P.underlying t = some (.pointer e)) (w : World) (a : Option Addr) : (Op.equal t (.pointer a) (.pointer none)).run P w = .ok a.isNone w := by
  show (Op.equalIn (9999 + 1) t (.pointer a) (.pointer none)).run P w = _
  unfold Op.equalIn
  rw [Sem.run_bind, run_underlying h]
  cases a <;> rfl
theorem bin_slice_nil {t e : TypeId} (h : P.underlying t = some (.slice e)) (w : World) (a : Option Addr) (l c : Nat) (x y : Operand) : (do eqGuard .eql t x y (.slice a l c) (.slice none 0 0); binOp .eql t (.slice a l c) (.slice none 0 0) : Sem Value).run P w = .ok (.bool a.isNone) w := by
  show (do pure (.bool (← Op.equal t (.slice a l c) (.slice none 0 0))) : Sem Value).run P w = _
  rw [Sem.run_bind, eq_slice_nil h]
  rfl
theorem bin_ptr_nil {t e : TypeId} (h : P.underlying t = some (.pointer e)) (w : World) (a : Option Addr) (x y : Operand) (ne : Bool) : (do eqGuard (match ne with | true => .neq | false => .eql) t x y (.pointer a) (.pointer none); binOp (match ne with | true => .neq | false => .eql) t (.pointer a) (.pointer none) : Sem Value).run P w = .ok (.bool (ne != a.isNone)) w := by
  cases ne
  · show (do pure (.bool (← Op.equal t (.pointer a) (.pointer none))) : Sem Value).run P w = _
    rw [Sem.run_bind, eq_ptr_nil h]
    cases a <;> rfl
  · show (do pure (.bool (!(← Op.equal t (.pointer a) (.pointer none)))) : Sem Value).run P w = _
    rw [Sem.run_bind, eq_ptr_nil h]
    cases a <;> rfl
/-- A pointer against nil. -/
def peqK (T : Tab) (ne : Bool) (t : TypeId) (x : Operand) (f : Fr) (k : Out → Prop) : Prop :=
  match inL T.ptrs t with
  | true => match evS f x with
    | some (.a (.ptr _ _ _ _)) => k (.val (.a (.of (.leaf .bool ne))))
    | some (.a (.raw (.pointer none))) => k (.val (.a (.of (.leaf .bool (!ne)))))
    | _ => False
  | false => False
theorem peqK_sound {T : Tab} (hT : TabOk P T) {o : Oper} {ne : Bool} {t u : TypeId} {x : Operand} (ho : o.op = .binOp (match ne with | true => .neq | false => .eql) t x (.const (.pointer none)) u) {f : Fr} {get : Nat → Option V} {bl nn : Nat} {k : Out → Prop} (h : peqK T ne t x f k) : ∃ out, k out ∧ Does P w0 F0 o f get bl nn out := by
  unfold peqK at h
  split at h <;> first | exact h.elim | skip
  rename_i hin
  have hp := List.all_eq_true.1 hT.ptr _ (inL_mem _ _ hin)
  unfold ptrB at hp
  split at hp <;> first | (cases hp; done) | skip
  rename_i el hu
  have hc : ∀ ρ : Operand → Value, ∀ c : Cx, (∀ y ∈ o.op.operands, ∀ s, evS f y = some s → ρ y = s.val c.E ∧ s.ok c) → ρ (.const (.pointer none)) = .pointer none := fun ρ c hρ => (hρ (.const (.pointer none)) (by rw [ho]; simp [Op.operands]) _ rfl).1
  split at h <;> first | exact h.elim | skip
  · rename_i i off p u' hx
    refine ⟨_, h, does_val fun cx ρ hw hρ _ => ⟨?_, trivial⟩⟩
    obtain ⟨e1, _⟩ := hρ x (by rw [ho]; simp [Op.operands]) _ hx
    have e1' : ρ x = .pointer (some ⟨cx.E.A i, off, none⟩) := e1
    have hb := bin_ptr_nil (P := P) hu cx.x (some ⟨cx.E.A i, off, none⟩) x (.const (.pointer none)) ne
    unfold execOp
    simp only [ho, e1', hc ρ cx hρ]
    rw [Sem.run_bind]
    refine (congrArg (Result.andThen · _) hb).trans ?_
    cases ne <;> rfl
  · rename_i hx
    refine ⟨_, h, does_val fun cx ρ hw hρ _ => ⟨?_, trivial⟩⟩
    obtain ⟨e1, _⟩ := hρ x (by rw [ho]; simp [Op.operands]) _ hx
    have e1' : ρ x = .pointer none := e1
    have hb := bin_ptr_nil (P := P) hu cx.x none x (.const (.pointer none)) ne
    unfold execOp
    simp only [ho, e1', hc ρ cx hρ]
    rw [Sem.run_bind]
    refine (congrArg (Result.andThen · _) hb).trans ?_
    cases ne <;> rfl

/-- A list against nil. -/
structure NilW {α : Type} (xs : List α) (k : Bool → Prop) : Prop where
  t : xs = [] → k true
  f : k false
def isNil (T : Tab) (o : Oper) : Bool :=
  match o.op with
  | .binOp .eql t _ (.const (.slice none 0 0)) _ => match tyL T.ty t with
    | some (.lst _, _) => true
    | _ => false
  | _ => false
def nilW (T : Tab) (o : Oper) (f : Fr) (k : SV → Prop) : Prop :=
  match o.op with
  | .binOp .eql t x (.const (.slice none 0 0)) _ => match tyL T.ty t with
    | some (.lst e, _) => match evS f x with
      | some (.a (.of v)) => denK v (.lst e) fun d => NilW d.2 fun b => k (.a (.of (.leaf .bool b)))
      | some (.a (.raw (.slice none 0 0))) => k (.a (.of (.leaf .bool true)))
      | _ => False
    | _ => False
  | _ => False
theorem nilW_sound {T : Tab} (hT : TabOk P T) {o : Oper} {f : Fr} {k : SV → Prop} (h : nilW T o f k) {c : Cx} {ρ : Operand → Value} (hρ : ∀ y s, evS f y = some s → ρ y = s.val c.E ∧ s.ok c) :
    ∃ b, k (.a (.of (.leaf .bool b))) ∧ (execOp ρ o).run P c.x = .ok (.value (.bool b)) c.x := by
  unfold nilW at h
  split at h <;> first | exact h.elim | skip
  rename_i t x u ho
  split at h <;> first | exact h.elim | skip
  rename_i e n0 hty
  obtain ⟨el, i, z, u1, u2, u3, u4, u5, u6, u7⟩ := lst_info (tyB_lst (hT.ty.at hty))
  have hc : ρ (.const (.slice none 0 0)) = .slice none 0 0 := (hρ (.const (.slice none 0 0)) _ rfl).1
  have hrun : ∀ ad l k', ρ x = .slice ad l k' → (execOp ρ o).run P c.x = .ok (.value (.bool ad.isNone)) c.x := fun ad l k' hx => by
    have hb := bin_slice_nil (P := P) u1 c.x ad l k' x (.const (.slice none 0 0))
    unfold execOp
    simp only [ho, hx, hc]
    rw [Sem.run_bind]
    exact (congrArg (Result.andThen · _) hb).trans rfl
  split at h <;> first | exact h.elim | skip
  · rename_i v hx
    obtain ⟨d, h1, h2, h3, h4⟩ := denK_sound v (.lst e) _ h
    obtain ⟨e1, e2⟩ := hρ x _ hx
    have hval : ρ x = d.1.val c.E.B := by rw [e1]; exact val_leaf h2 (h3 c.E.B)
    rcases (h4 _ _ _ _ e2).2 with ⟨g1, ad, cap, g2⟩ | ⟨b, o', cap, g1, _⟩
    · cases ad with
      | none => exact ⟨true, h1.t g1, hrun _ _ _ (hval.trans g2)⟩
      | some a => exact ⟨false, h1.f, hrun _ _ _ (hval.trans g2)⟩
    · exact ⟨false, h1.f, hrun _ _ _ (hval.trans g1)⟩
  · rename_i hx
    obtain ⟨e1, e2⟩ := hρ x _ hx
    exact ⟨true, h, hrun none 0 0 e1⟩
/-- An element of a slice of one's own array. -/
def idxK (T : Tab) (t : TypeId) (x y : Operand) (f : Fr) (bl : List V) (k : Out → Prop) : Prop :=
  match evS f x with
  | some (.a (.slc i off p n e lo len cap)) => match evS f y with
    | some (.a (.of (.leaf .int z))) => match tyL T.ty t with
      | some (.lst e', _) => match decEq e e' with
        | .isTrue _ => Need ((0 : Int) ≤ z ∧ (z : Int) < (len : Int)) (appP p [.idx (lo + Int.toNat z)] fun p' => k (.val (.a (.ptr i (off + (lo + Int.toNat z) * e.sz) p' e))))
        | .isFalse _ => False
      | _ => False
    | _ => False
  | _ => sopK T (.indexAddr t x y) f bl k
theorem idxK_sound {T : Tab} (hT : TabOk P T) {o : Oper} {t : TypeId} {x y : Operand} (ho : o.op = .indexAddr t x y) {f : Fr} {bl : List V} {nn : Nat} {k : Out → Prop} (h : idxK T t x y f bl k) : ∃ out, k out ∧ Does P w0 F0 o f (fun i => bl[i]?) bl.length nn out := by
  unfold idxK at h
  split at h
  · rename_i i off p n e lo len cap hx
    split at h <;> first | exact h.elim | skip
    rename_i z hy
    split at h <;> first | exact h.elim | skip
    rename_i e' n0 hty
    split at h <;> first | exact h.elim | skip
    rename_i he _
    subst he
    obtain ⟨hz, h⟩ := h
    obtain ⟨el, inf, zz, u1, u2, u3, u4, u5, u6, u7⟩ := lst_info (tyB_lst (hT.ty.at hty))
    refine ⟨_, appP_elim _ _ _ h, does_val fun c ρ hw hρ _ => ?_⟩
    obtain ⟨h1, h2⟩ := hρ x (by rw [ho]; simp [Op.operands]) _ hx
    obtain ⟨h3, _⟩ := hρ y (by rw [ho]; simp [Op.operands]) _ hy
    obtain ⟨k1, ⟨T', k2, k3⟩, k4, k5, k6⟩ := h2
    have hzn : Int.toNat z < len := (Int.toNat_lt hz.1).2 hz.2
    have hlt : lo + Int.toNat z < n := by omega
    refine ⟨?_, k1, T', k2, ?_⟩
    · have h3' : ρ y = .int .i64 z := h3
      have hc0 : cap ≠ 0 := by omega
      have h1' : ρ x = .slice (some ⟨c.E.A i, off + lo * e.sz, none⟩) len cap := by rw [h1]; simp only [SV.val, AV.val, if_neg hc0]
      unfold execOp
      simp only [ho, h1', h3', SV.val, AV.val, Instr.indexAt, asIntOf, Sem.run_bind, Sem.run_pure, Result.andThen_ok, run_underlying u1]
      rw [if_pos hz]
      simp only [sizeOf, typeInfo, Sem.run_bind, run_program, Result.andThen_ok, u2, Sem.run_pure, u3, Addr.add_mid]
      rw [show off + lo * e.sz + Int.toNat z * e.sz = off + (lo + Int.toNat z) * e.sz from by rw [Nat.add_mul]; omega]
    · refine At.append p T' off _ _ _ e k3 ⟨hlt, 0, ?_, by omega⟩
      unfold At
      exact ⟨rfl, rfl⟩
  · rw [← ho] at h
    exact sopK_sound hT h
def lenA (T : Tab) (c : Call) (f : Fr) (bl : List V) (nn : Nat) (k : Out → Prop) (S : List (Nat × Spec)) : Prop :=
  match c.args.toList with
  | [x] => match c.argTypes.toList with
    | [t] => match tyL T.ty t with
      | some (.lst _, _) => match evS f x with
        | some (.a (.slc _ _ _ _ _ _ len _)) => k (.val (.a (.of (.leaf .int (len : Int)))))
        | some (.a (.raw (.slice none 0 0))) => k (.val (.a (.of (.leaf .int 0))))
        | _ => callK T S c f bl nn k
      | _ => False
    | _ => False
  | _ => False
theorem lenA_sound {T : Tab} (hT : TabOk P T) {S : List (Nat × Spec)} (hS : SpecsOk P S) {o : Oper} {c : Call} (ho : o.op = .call c) (hc : c.callee = .builtin .len) {f : Fr} {bl : List V} {nn : Nat} {k : Out → Prop} (h : lenA T c f bl nn k S) : ∃ out, k out ∧ Does P w0 F0 o f (fun i => bl[i]?) bl.length nn out := by
  unfold lenA at h
  split at h <;> first | exact h.elim | skip
  rename_i x hx
  split at h <;> first | exact h.elim | skip
  rename_i t ht
  split at h <;> first | exact h.elim | skip
  rename_i e n0 hty
  obtain ⟨el, inf, zz, u1, u2, u3, u4, u5, u6, u7⟩ := lst_info (tyB_lst (hT.ty.at hty))
  have hargs : c.args = #[x] := by apply Array.toList_inj.1; rw [hx]
  have hats : c.argTypes = #[t] := by apply Array.toList_inj.1; rw [ht]
  have key : ∀ (ρ : Operand → Value) (cx : Cx) ad l cap, ρ x = .slice ad l cap → (execOp ρ o).run P cx.x = .ok (.value (.int .i64 (l : Int))) cx.x := fun ρ cx ad l cap hsl => by
    unfold execOp
    simp only [ho, resolve, hc, hargs, hats, Sem.run_bind, Sem.run_pure, Result.andThen_ok, invoke]
    simp only [builtin, Builtin.len_, Sem.run_bind]
    simp [hsl, run_underlying u1, goInt]
  split at h
  · rename_i i off p n e' lo len cap hv
    refine ⟨_, h, does_val fun cx ρ hw hρ _ => ⟨?_, trivial⟩⟩
    obtain ⟨h1, _⟩ := hρ x (by rw [ho]; simp [Op.operands, Call.operands, hc, hargs]) _ hv
    exact key ρ cx _ len cap h1
  · rename_i hv
    refine ⟨_, h, does_val fun cx ρ hw hρ _ => ⟨?_, trivial⟩⟩
    obtain ⟨h1, _⟩ := hρ x (by rw [ho]; simp [Op.operands, Call.operands, hc, hargs]) _ hv
    exact key ρ cx none 0 0 h1
  · exact callK_sound hT hS ho h
end
end Go.Proofs.Ytjbbgpacijageaa.M
