/- Wild functions of several results; oracles of which it is only known what they leave alone. -/
import Derived.Test.YtglkphjjinmgmaaDoorEx
import Derived.Test.YtglkphjjinmgmaaDoorEy
import Derived.Test.YtglkphjjinmgmaaDoorEo
set_option linter.unusedVariables false
set_option linter.unusedSimpArgs false
namespace Go.AI
open Go.RowKit
section
variable {P : Program}
theorem vt_tupE {ρ : Ren} {x : Array Value} {v' : Value} (h : VT ρ (.tuple x) v') : ∃ y, v' = .tuple y ∧ L2 (VR ρ) x.toList y.toList := by
  cases h with
  | one h =>
    cases h with
    | cell h =>
      generalize hv : Value.tuple x = v at h
      cases h with
      | same hs => subst hv; simp [scalar] at hs
      | _ => cases hv
  | tup h => exact ⟨_, rfl, h⟩
theorem vr_scalar {ρ ρ' : Ren} {x y : Value} (hs : scalar x = true) (h : VR ρ x y) : VR ρ' x y := by
  cases h with
  | cell h => exact .cell (vc_scalar hs h)
  | agg h => simp [scalar] at hs
theorem vr_row {ρ ρ' : Ren} {b b' len : Nat} {en : Ent} {v' : Value} (h : VR ρ (.slice (some ⟨b, 0, none⟩) len 0) v') (he : ρ b = some en) (h0 : en.base = 0) (hρ : ρ' b' = some ⟨en.blk, 0, en.cap⟩) : VR ρ' (.slice (some ⟨b', 0, none⟩) len 0) v' := by
  have := vt_row (.one h) he h0 hρ
  cases this with
  | one h => exact h
theorem tupled_two {x : Value} {us : List Value} (hne : us ≠ []) : tupled (x :: us) = .tuple (x :: us).toArray := by
  cases us with
  | nil => exact absurd rfl hne
  | cons y us => rfl
/-- A function that makes a row of scalars and answers with it and with scalars, whatever it does besides, and writes nothing that was there before. -/
theorem wild_row2 [Oracle P] {Bw : Nat} (S : Sure P Bw) {f : FuncId} {fn : Func} {c : Code} {l : List Value} {H : Heap} {cs : List Value} {elem len : Nat} {us : List Value} (hus : us.all scalar = true) (hne : us ≠ []) (hf : P.funcs[f]? = some fn) (hb : fn.body = some c) (hok : codeOk fn.ntmps c = true) (hl : l.length ≤ fn.ntmps) (hcs : cs.all scalar = true)
    (h : argsK l 0 .leaf fun L => XV P Bw fn.ntmps H.n c L H fun e L' Hx => (e = .normal ∨ e = .ret) ∧ resK P L' Hx fn.results.toList fun rs => ∃ b, rs = .slice (some ⟨b, 0, none⟩) len 0 :: us ∧ H.n ≤ b ∧ Hx.get b = some (.cells cs elem 2))
    {ρ : Ren} {w : World} {args : Array Value} (k : Nat) (hH : HR P Bw ρ H w) (ha : L2 (VT ρ) l args.toList) :
    CallsIn Fence.wide k P f args w (fun e w' => ∃ ρ' v', e = .returned v' ∧ VT ρ' (.tuple (.slice (some ⟨H.n, 0, none⟩) len 0 :: us).toArray) v' ∧ HR P Bw ρ' (H.new (.cells cs elem 2)) w' ∧ Ext Bw ρ ρ' H.n w w') := by
  refine callsIn_of_wp_marks hf hb trivial ?_
  obtain ⟨L, h1, h2⟩ := argsK_spec l 0 .leaf .leaf _ (by intro i v hv; simp [Tr.get] at hv) h
  have hR : RS P Bw ρ w w.heap.size fn.ntmps ρ ⟨putArgs l 0 .leaf, H, H.n⟩ { tmps := args ++ Array.replicate (fn.ntmps - args.size) undef, defers := [] } w :=
    ⟨hH, FR.start ha _, by have := ha.length; simp at this ⊢; omega, Ext.refl _ _ _ _, Marks.nil _ _ _⟩
  refine h2.run hok _ H.n h1 (Nat.le_refl _) (Nat.le_refl _) w.heap.size ρ w k (Nat.le_refl _) ρ _ w hR _ fun e st' ρ' a' w' hq h' => ?_
  obtain ⟨hlo, hBn, L', hag, he, hres⟩ := hq
  obtain ⟨vs, hvs, b, rfl, hbn, hgb⟩ := resK_spec hag _ _ hres
  obtain ⟨rs, g1, g2, g3⟩ := h'.marks
  have hlv : LeavesInM Fence.wide k P fn a'.tmps (fun e w' => ∃ ρ' v', e = .returned v' ∧ VT ρ' (.tuple (.slice (some ⟨H.n, 0, none⟩) len 0 :: us).toArray) v' ∧ HR P Bw ρ' (H.new (.cells cs elem 2)) w' ∧ Ext Bw ρ ρ' H.n w w') a'.defers .returning w' := by
    rw [g1]
    refine marks_leave (fun w2 hH2 hE2 => ?_) rs w' h'.hr h'.ext g2 g3
    obtain ⟨v', h4, h5⟩ := results_sound hH2 h'.fr hvs (by
      rw [List.all_cons]
      have : us.all notTuple = true := List.all_eq_true.2 fun x hx => by
        have := List.all_eq_true.1 hus x hx
        cases x <;> first | rfl | simp [scalar] at this
      rw [this]; rfl)
    rw [tupled_two hne] at h4
    obtain ⟨y, rfl, hy⟩ := vt_tupE h4
    have hbel := hE2.below hH hlo
    obtain ⟨en, hen⟩ := hH2.dom b (hH2.objs b _ hgb)
    obtain ⟨o1, o2, cur, o3, ⟨ys, rest, o4, o5⟩, o6⟩ := hH2.obj b _ en hgb hen
    have hnb : ρ b = none := by
      cases hb0 : ρ b with
      | none => rfl
      | some e0 => have := hH.lt b e0 hb0; omega
    have hge : w.heap.size ≤ en.blk := by
      rcases hE2.fresh b en hnb hen with h7 | ⟨b0, e0, h8, h9, _⟩
      · exact h7
      · have := hH.lt b0 e0 h9; omega
    have hsc : L2 (VC (Ren.add ρ H.n ⟨en.blk, 0, en.cap⟩)) cs ys := by
      refine L2.of_get o5.length fun i x y hx hy => ?_
      have hxy := o5.both hx hy
      have hs := List.all_eq_true.1 hcs x (List.mem_of_getElem? hx)
      exact vc_scalar hs hxy
    obtain ⟨hH3, hE3⟩ := hH.alloc hbel ⟨en.blk, 0, en.cap⟩ (.cells cs elem 2) H.n hge (hH2.top b en hen) ⟨o1, rfl, cur, o3, ⟨ys, rest, o4, hsc⟩, o6⟩
    refine ⟨_, h5, Ren.add ρ H.n ⟨en.blk, 0, en.cap⟩, _, rfl, .tup ?_, hH3, hE3⟩
    have hy' : L2 (VR _) (.slice (some ⟨b, 0, none⟩) len 0 :: us) y.toList := hy
    generalize y.toList = yl at hy'
    cases hy' with
    | cons k1 k2 =>
      refine .cons (vr_row k1 hen o2 (Ren.add_eq _ _ _)) (L2.of_get k2.length fun i x y hx hy => ?_)
      exact vr_scalar (List.all_eq_true.1 hus x (List.mem_of_getElem? hx)) (k2.both hx hy)
  rcases he with rfl | rfl
  · exact hlv
  · exact hlv
/-- A function that answers with scalars, whatever it does besides, and writes nothing that was there before. -/
theorem wild_vals [Oracle P] {Bw : Nat} (S : Sure P Bw) {f : FuncId} {fn : Func} {c : Code} {l : List Value} {H : Heap} {us : List Value} (hus : us.all scalar = true) (hf : P.funcs[f]? = some fn) (hb : fn.body = some c) (hok : codeOk fn.ntmps c = true) (hl : l.length ≤ fn.ntmps)
    (h : argsK l 0 .leaf fun L => XV P Bw fn.ntmps H.n c L H fun e L' Hx => (e = .normal ∨ e = .ret) ∧ resK P L' Hx fn.results.toList fun rs => rs = us)
    {ρ : Ren} {w : World} {args : Array Value} (k : Nat) (hH : HR P Bw ρ H w) (ha : L2 (VT ρ) l args.toList) (hpl : plain (tupled us) = true) :
    CallsIn Fence.wide k P f args w (fun e w' => ∃ ρ' v', e = .returned v' ∧ VT ρ' (tupled us) v' ∧ HR P Bw ρ' H w' ∧ Ext Bw ρ ρ' H.n w w') := by
  refine callsIn_of_wp_marks hf hb trivial ?_
  obtain ⟨L, h1, h2⟩ := argsK_spec l 0 .leaf .leaf _ (by intro i v hv; simp [Tr.get] at hv) h
  have hR : RS P Bw ρ w w.heap.size fn.ntmps ρ ⟨putArgs l 0 .leaf, H, H.n⟩ { tmps := args ++ Array.replicate (fn.ntmps - args.size) undef, defers := [] } w :=
    ⟨hH, FR.start ha _, by have := ha.length; simp at this ⊢; omega, Ext.refl _ _ _ _, Marks.nil _ _ _⟩
  refine h2.run hok _ H.n h1 (Nat.le_refl _) (Nat.le_refl _) w.heap.size ρ w k (Nat.le_refl _) ρ _ w hR _ fun e st' ρ' a' w' hq h' => ?_
  obtain ⟨hlo, hBn, L', hag, he, hres⟩ := hq
  obtain ⟨vs, hvs, rfl⟩ := resK_spec hag _ _ hres
  obtain ⟨rs, g1, g2, g3⟩ := h'.marks
  have hlv : LeavesInM Fence.wide k P fn a'.tmps (fun e w' => ∃ ρ' v', e = .returned v' ∧ VT ρ' (tupled vs) v' ∧ HR P Bw ρ' H w' ∧ Ext Bw ρ ρ' H.n w w') a'.defers .returning w' := by
    rw [g1]
    refine marks_leave (fun w2 hH2 hE2 => ?_) rs w' h'.hr h'.ext g2 g3
    obtain ⟨v', h4, h5⟩ := results_sound hH2 h'.fr hvs (List.all_eq_true.2 fun x hx => by
        have := List.all_eq_true.1 hus x hx
        cases x <;> first | rfl | simp [scalar] at this)
    have hbel := hE2.below hH hlo
    exact ⟨v', h5, ρ, v', rfl, by rw [h4.plain hpl]; exact .of_plain hpl, hH.below hbel, Ext.of_below _ hbel⟩
  rcases he with rfl | rfl
  · exact hlv
  · exact hlv
/-- A call whose answer is proved elsewhere. -/
theorem CallB.wild [Oracle P] {B : Nat} {f : FuncId} {l : List Value} {H H' : Heap} {v : Value} {lo : Nat} {Q : Value → Heap → Prop} (hv : Oracle.val P f = none) (hw : Oracle.wild P f = true) (h : Oracle.wildF P f l H = some (v, H', lo)) (hB : B ≤ lo ∧ B ≤ H'.n) (hq : Q v H') : CallB P B f l H Q := by
  refine ⟨⟨1, v, H', lo, ?_, hB, hq⟩⟩
  rw [call]
  unfold oracle
  simp only [hv, hw, cond_true, h]
theorem calleesOk_nil [O : Oracle P] (he : Oracle.exts P = []) : ∀ {N : Nat}, @calleesOk P (Oracle.of P []) N = true → calleesOk P N = true
  | 0, _ => rfl
  | n + 1, h => by
    simp only [calleesOk, Bool.and_eq_true] at h ⊢
    refine ⟨?_, calleesOk_nil he h.2⟩
    have h1 := h.1
    rw [he]
    exact h1
end
end Go.AI
