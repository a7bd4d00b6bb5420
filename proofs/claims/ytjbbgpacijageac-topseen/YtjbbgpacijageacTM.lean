/- Maps: steps of the walk, tokens. -/
import Derived.Test.YtjbbgpacijageacUC
namespace Go.Proofs.Ytjbbgpacijageac.M
open Go.RowKit
set_option linter.unusedVariables false
set_option linter.unusedSimpArgs false

theorem Toks.consM {w0 : World} {c : Cx} {tk : List (Hd × Nat)} (t : Toks w0 c tk) : Toks w0 c (mtok [] :: tk) :=
  ⟨fun q hq => by
    rcases List.mem_cons.1 hq with rfl | hq
    · exact ⟨trivial, fun _ => Or.inr (Or.inr ⟨_, rfl, ⟨rfl, fun p hp => (by cases hp), List.Pairwise.nil⟩⟩), fun h => by cases h⟩
    · exact t.ok q hq, List.pairwise_cons.2 ⟨fun q _ => (by intro _ b o l k o' l' k' h1; cases h1), t.ne⟩⟩
/-- A token of no maps. -/
theorem TkLe.newM (tk : List (Hd × Nat)) : TkLe tk (mtok [] :: tk) := fun w0 c t => t.consM
theorem MapsOk.sub {w0 : World} {c : Cx} {s : Nat} {ms ms' : List (Nat × List (Value × Value))} (h : MapsOk w0 c s ms) (hs : ms'.Sublist ms) : MapsOk w0 c s ms' :=
  ⟨h.s, fun p hp => h.ok p (hs.subset hp), h.ne.sublist hs⟩
/-- Some maps are no longer spoken of. -/
theorem TkLe.setM {tk : List (Hd × Nat)} (i : Nat) {ms ms' : List (Nat × Mp)} (h : tk[i]? = some (mtok ms)) (hs : ms'.Sublist ms) : TkLe tk (tk.set i (mtok ms')) := fun w0 c t =>
  t.setM ((maps_of t h).sub (hs.map _))
theorem TkLe.dropM0 (a : Nat × Mp) (ms : List (Nat × Mp)) (tk : List (Hd × Nat)) : TkLe (mtok (a :: ms) :: tk) (mtok ms :: tk) := TkLe.setM (tk := mtok (a :: ms) :: tk) 0 rfl (List.sublist_cons_self _ _)
theorem TkLe.dropM1 (p : Hd × Nat) (a : Nat × Mp) (ms : List (Nat × Mp)) (tk : List (Hd × Nat)) : TkLe (p :: mtok (a :: ms) :: tk) (p :: mtok ms :: tk) := TkLe.setM (tk := p :: mtok (a :: ms) :: tk) 1 rfl (List.sublist_cons_self _ _)

/-- A map is made: the first token is that of maps. -/
theorem MkW.go0 {n : Nat} {tk : List (Hd × Nat)} {k : SV → NS → Prop} (hs : (tk.all fun p => p.2 != 1) = true) (hk : Go (k (.a (.of (.leaf .ref (.nm n)))) ⟨n + 1, mtok [(n, [])] :: tk⟩)) : MkW ⟨n, mtok [] :: tk⟩ k := ⟨⟨0, [], rfl, hs, hk.out⟩⟩
/-- It is the second. -/
theorem MkW.goL {n : Nat} {p : Hd × Nat} {a : Nat × Mp} {ms : List (Nat × Mp)} {tk : List (Hd × Nat)} {k : SV → NS → Prop} (hs : ((p :: tk).all fun p => p.2 != 1) = true) (hk : Go (k (.a (.of (.leaf .ref (.nm n)))) ⟨n + 1, p :: mtok (ms ++ [a, (n, [])]) :: tk⟩)) : MkW ⟨n, p :: mtok (ms ++ [a]) :: tk⟩ k := ⟨⟨1, ms ++ [a], rfl, hs, by
  show k _ ⟨n + 1, p :: mtok ((ms ++ [a]) ++ [(n, [])]) :: tk⟩
  rw [List.append_assoc]
  exact hk.out⟩⟩
/-- What the last map but one has. -/
theorem LkW.goL {n m : Nat} {key : kT.D} {p a : _} {es : Mp} {ms : List (Nat × Mp)} {tk : List (Hd × Nat)} {k : SV → Prop} (hk : Go (k (.tup [.of (.leaf vT ((mfind key es).getD vT.zero)), .of (.leaf .bool (mfind key es).isSome)]))) : LkW n key ⟨m, p :: mtok (ms ++ [(n, es), a]) :: tk⟩ k :=
  ⟨⟨1, ms.length, _, es, rfl, by rw [List.getElem?_append_right (Nat.le_refl _), Nat.sub_self]; rfl, hk.out⟩⟩
/-- One more in the last map. -/
theorem UpW.goL {n m : Nat} {key : kT.D} {val : vT.D} {p : Hd × Nat} {a : Nat × Mp} {es : Mp} {ms : List (Nat × Mp)} {tk : List (Hd × Nat)} {k : SV → NS → Prop} (hs : ((p :: tk).all fun p => p.2 != 1) = true) (hf : mfind key es = none)
    (hk : Go (k und ⟨m, p :: mtok (ms ++ [a, (n, es ++ [(key, val)])]) :: tk⟩)) : UpW n key val ⟨m, p :: mtok (ms ++ [a, (n, es)]) :: tk⟩ k :=
  ⟨⟨1, ms.length + 1, ms ++ [a, (n, es)], es, rfl, hs, by rw [List.getElem?_append_right (Nat.le_add_right _ 1), Nat.add_sub_cancel_left]; rfl, hf, by
    show k _ ⟨m, p :: mtok ((ms ++ [a, (n, es)]).set (ms.length + 1) (n, es ++ [(key, val)])) :: tk⟩
    rw [List.set_append_right _ _ (Nat.le_add_right _ 1), Nat.add_sub_cancel_left]
    exact hk.out⟩⟩
/-- As ctr_ofO, with a token of maps. -/
theorem ctr_ofM (s : Spec) (tkf : DL s.args → List (Hd × Nat)) (htk : ∀ d p, p ∈ tkf d → p.1 = nilH ∨ (p.2 = 0 ∧ hdInL p.1 s.args d)) {P : Program} {T : Tab} {S : List (Nat × Spec)} (hT : TabOk P T) (hS : SpecsOk P S) {g : FuncId} {fn : Func} {cd : Code} (hf : P.funcs[g]? = some fn) (hb : fn.body = some cd) (hn : s.args.length ≤ fn.ntmps) (nocr : s.cr = false → ∀ d, s.m d = 0)
    (h : ∀ nn d, s.pre d → bndL s.args d → ∃ fuel, initK s.args d 0 fun f => run T S fn.ntmps fuel [.code cd, .fin fn.results.toList s.res fun r _ nn' => DoneR s nn d r nn'] f [] ⟨nn, mtok [] :: tkf d⟩) : Ctr P g s := by
  refine ctr_genT (R := fun s nn d r nn' => DoneR s nn d r nn') (fun s nn d r nn' h => doneR_ok s nn d r nn' h) hT hS hf hb s (fun d => mtok [] :: tkf d) (fun nn d B F x hw => ?_) hn nocr h
  have key : ∀ l : List (Hd × Nat), (∀ p ∈ l, p.1 = nilH ∨ (p.2 = 0 ∧ hdInL p.1 s.args d)) → Toks x { XA := fun _ => False, XB := fun n => n < nn, ty := fun _ => none, E := ⟨fun _ => 0, B, F⟩, x := x } l := fun l => by
    induction l with
    | nil => intro _; exact Toks.nil _ _
    | cons p l ih =>
      intro hl
      have h1 := ih fun q hq => hl q (List.mem_cons_of_mem _ hq)
      obtain ⟨hd, n⟩ := p
      rcases hl (hd, n) (List.mem_cons_self ..) with h2 | ⟨h2, h3⟩
      · have h2 : hd = nilH := h2
        subst h2
        exact h1.consNil n
      · have h2 : n = 0 := h2
        subst h2
        obtain ⟨h4, h5⟩ := hdInL_old (c := { XA := fun _ => False, XB := fun n => n < nn, ty := fun _ => none, E := ⟨fun _ => 0, B, F⟩, x := x }) s.args d h3 hw
        exact h1.consOld h4 h5
  exact (key _ (htk d)).consM
end Go.Proofs.Ytjbbgpacijageac.M
