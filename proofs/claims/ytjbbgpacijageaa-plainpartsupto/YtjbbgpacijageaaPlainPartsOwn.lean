/- For all records in two parts, who goes on from where the first part leads comes to where both lead (PlainParts); what is read is of bulk at most 1,048,576. -/
import Derived.Test.YtjbbgpacijageaaJ6
import Derived.Test.YtjbbgpacijageaaO1
import Derived.Test.YtjbbgpacijageaaRows
import Derived.JoinedCond
namespace Go.Proofs.Ytjbbgpacijageaa.plainParts
open Go.ChangeShapes Go.WideShapes Go.ChangeAt Go.RowKit Go.Proofs.Ytjbbgpacijageaa.M
open Go.ChangeShapes Go.WideShapes Go.ChangeAt Go.RowKit Go.Deep
set_option linter.unusedVariables false

theorem own : ownKnob Try.prog.godebug = none := by kernel_rfl
theorem laidOut : laidOutB Try.prog = true := by kernel_rfl
abbrev Ts : List Ty := [progsT, memT, .lst recordT, .lst recordT]
theorem one_le {H : Type} (d : DataW H) : 1 ≤ Rows.uptoBulk d := by
  cases d with
  | lit l => cases l <;> simp [Rows.uptoBulk]
  | nil => simp [Rows.uptoBulk]
  | ptr d => simp [Rows.uptoBulk]
  | slice elems spare => simp [Rows.uptoBulk]
  | agg parts => simp [Rows.uptoBulk]
  | iface t d => simp [Rows.uptoBulk]
  | map entries => simp [Rows.uptoBulk]
  | held h => simp [Rows.uptoBulk]
theorem length_le {H : Type} (l : List (DataW H)) : l.length ≤ Rows.uptoBulkAll l := by
  induction l with
  | nil => simp [Rows.uptoBulkAll]
  | cons x r ih => have := one_le x; simp only [Rows.uptoBulkAll, List.length_cons]; omega
/-- A list's length is at most its bulk. -/
theorem list_bulk {H : Type} {enc : TypeId × Value → H} {P : Program} {w : World} {base : Nat} {spare : Nat → Bool} {held : Bool} {t e : TypeId} (hu : P.underlying t = some (.slice e)) {ad : Option Addr} {len cap : Nat} {x : DataW H} {ps : List MemPlace} (h : DataW.Trod enc P w base spare held t (.slice ad len cap) x ps) : len ≤ Rows.uptoBulk x := by
  obtain ⟨fuel, hf⟩ := h
  rcases open_slice hu hf with ⟨hcs, _⟩ | ⟨a, len', cap', m, n', D, Pl, hcs, hb, hl, hm, hmm, hx0, hel⟩
  · have hcs : [Value.slice ad len cap] = [Value.slice none 0 0] := by simpa [Value.cells] using hcs
    cases hcs
    exact Nat.zero_le _
  · have hcs : [Value.slice ad len cap] = [Value.slice (some a) len' cap'] := by simpa [Value.cells] using hcs
    cases hcs
    have hx0 : x = DataW.slice ((List.range len).map D) ((List.range (m - len)).map fun j => D (len + j)) := congrArg Prod.fst hx0
    rw [hx0]
    have h1 := length_le ((List.range len).map D)
    rw [List.length_map, List.length_range] at h1
    simp only [Rows.uptoBulk]
    omega
theorem list_len {XB : Nat → Prop} {B : Nat → Value} {F : Nat → Nat → Prop} {x : World} {t : Ty} {h : Hd} {xs : List t.D} (hw : wok XB B F x (.lst t) (h, xs)) : ∃ ad cap, h.val B = .slice ad xs.length cap := by
  rcases hw.2 with ⟨h1, ad, cap, h2⟩ | ⟨b, o, cap, h2, _⟩
  · have h1 : xs = [] := h1
    subst h1
    exact ⟨ad, cap, h2⟩
  · exact ⟨_, cap, h2⟩
theorem law_runU (W : World) (d : DL Ts) (hw : wokL (fun _ => False) (fun _ => undef) (old W) W Ts d) (hs : d.2.2.1.2.length + d.2.2.2.1.2.length ≤ 1048576) :
    Calls Try.prog 12 ((leafs Ts d).map (V.val fun _ => undef)).toArray W fun e W' => e = .returned (.bool true) ∧ Below W.heap.size W W' := by
  refine (c_PlainParts.run (fun _ => undef) 0 W (old W) d (fun b e h => h) (wokL_mono (fun n hn => hn.elim) (fun _ _ => rfl) (fun _ _ h => h) (fun _ _ _ _ _ => rfl) (Nat.le_refl _) _ _ hw) hs).mono fun e W' he => ?_
  obtain ⟨B', F', _, _, _, _, he, _, bel⟩ := he
  exact ⟨he, bel⟩

set_option maxRecDepth 100000 in
theorem lifted (os : Os) (started : os.Started) (H : Type) (enc : TypeId × Value → H) (F : Stop.Interp) :
    ReturnsInHanded {} Try.checked os 12 .any ((Rows.OpenSpec.upto Rows.plainPartsSpec).pre6 enc Try.prog Try.f12 Rows.plainPartsUptoRow.domain false) (((Rows.OpenSpec.upto Rows.plainPartsSpec).at F).post enc Try.prog Try.f12 false true false false) := by
  refine returnsInHanded_of_cond (C := Try.checked) (s := Rows.OpenSpec.upto Rows.plainPartsSpec) (k := Rows.uptoSmall) rfl own started (by kernel_rfl) Try.func12
    (OpenSpec.witness (enc := enc) (C := Try.checked) (s := Rows.OpenSpec.upto Rows.plainPartsSpec) (k := Rows.uptoSmall) rfl false ⟨#[], zeros Ts, []⟩ 12 (by kernel_rfl) (by kernel_rfl) (by kernel_rfl)
      (x := Option.getD (DataW.whole enc Try.prog (World.plainHolding Try.prog os ⟨#[], zeros Ts, []⟩).memory Try.f12.params.toList (Rows.OpenSpec.upto Rows.plainPartsSpec).vars false (zeros Ts).toList 12) ([], [], [])) (by kernel_rfl) rfl (by kernel_rfl)) ?_
  intro W base args ds gs before hval0 hW _ hk _
  have hval : ∀ (j : Nat) t v, Try.f12.params[j]? = some t → args[j]? = some v → Value.okWide Try.prog W .any base t v := hval0
  have hW' := hW
  obtain ⟨p, q, hA0, hV, rfl, hfz, hnd⟩ := hW
  have hA : DataW.TrodAll enc Try.prog W 0 (fun _ => true) true Try.f12.params.toList args.toList ds p := hA0
  obtain ⟨d, hd, hwk, hsm⟩ := open_all (B := fun _ => undef) (n := 9) _ Ts _ _ _ (by kernel_rfl) hA (fun j t v ht hv => hval j t v (by simpa using ht) (by simpa using hv))
  obtain ⟨rfl, rfl⟩ := trodVars_none hV
  have r0 := hA
  rw [Try.params12] at r0
  obtain ⟨v0, w0, x0, y0, _, _, hv0, rfl, _, _, r1⟩ := trodAll_cons r0
  obtain ⟨v1, w1, x1, y1, _, _, hv1, rfl, _, _, r2⟩ := trodAll_cons r1
  obtain ⟨v2, w2, x2, y2, _, _, hv2, rfl, _, T2, r3⟩ := trodAll_cons r2
  obtain ⟨v3, w3, x3, y3, _, _, hv3, rfl, _, T3, r4⟩ := trodAll_cons r3
  obtain ⟨_, rfl, _⟩ := trodAll_nil r4
  obtain ⟨dl, dm, ⟨ha, a⟩, ⟨hb, b⟩, ⟨⟩⟩ := d
  have hall : [v0, v1, v2, v3] ++ w3 = (leafs Ts (dl, dm, (ha, a), (hb, b), ())).map (V.val fun _ => undef) := by
    rw [← hd, hv0, hv1, hv2, hv3]
    rfl
  injection hall with _ hall
  injection hall with _ hall
  injection hall with e2 hall
  injection hall with e3 hall
  have hsum : a.length + b.length ≤ 1048576 := by
    have hk : Rows.uptoBulkAll ([x0, x1, x2, x3] ++ []) ≤ 1048576 := of_decide_eq_true hk
    obtain ⟨ad2, c2, q2⟩ := list_len (t := recordT) hwk.2.2.1
    obtain ⟨ad3, c3, q3⟩ := list_len (t := recordT) hwk.2.2.2.1
    rw [e2.trans q2] at T2
    rw [e3.trans q3] at T3
    have b2 := list_bulk Try.underlying50 T2
    have b3 := list_bulk Try.underlying50 T3
    simp only [List.append_nil, Rows.uptoBulkAll] at hk
    omega
  obtain rfl : args = ((leafs Ts (dl, dm, (ha, a), (hb, b), ())).map (V.val fun _ => undef)).toArray := by apply Array.toList_inj.1; rw [hd]
  refine (law_runU W (dl, dm, (ha, a), (hb, b), ()) hwk hsum).mono fun e W' ⟨he, bel⟩ => ?_
  subst he
  obtain ⟨ps', hps⟩ := below_all laidOut bel _ _ _ _ (by kernel_rfl) hA
  exact ⟨_, rfl, _, _, _, [], _, [], hW', trodAll_mk1 (shut_bool Try.underlying4 _), hps, rfl, bel.frame _, fun h => by cases h⟩

theorem proved : Rows.PlainPartsUptoSaid :=
  OpenClaim.holds_of_cond 12 Try.f12 rfl rfl rfl rfl rfl rfl rfl ⟨rfl, rfl, rfl, rfl, rfl⟩ rfl rfl rfl rfl rfl (by kernel_rfl) Try.func12 (by kernel_rfl)
    (of_decide_eq_true (by kernel_rfl)) (by unfold Func.isWrapper; first | (rw [if_pos (by decide +kernel)]; kernel_rfl) | (rw [if_neg (by decide +kernel)]; exact ⟨rfl, rfl⟩))
    (fun os started H enc _ F => lifted os started H enc F)

end Go.Proofs.Ytjbbgpacijageaa.plainParts

namespace Go.Proofs.Ytjbbgpacijageaa

theorem plainParts_holds : Rows.PlainPartsUptoSaid := plainParts.proved
#print axioms plainParts_holds

end Go.Proofs.Ytjbbgpacijageaa
