
/- When each coal begins, as a call of the model. -/
import Derived.Test.YtglkphjjinmgmaaW5h
set_option linter.unusedVariables false
set_option linter.unusedSimpArgs false
namespace Go.Proofs.Ytglkphjjinmgmaa
open Go.AI
/-- What a fire's coals begin with, as arguments say. -/
def BegOf (l : List Value) (H : Heap) (B : List Int) : Prop := ∃ cv tv e cs ts, l = [Fv cv tv, VJ e] ∧ RowS 7 H cv (cs.map Col) ∧ RowS 2 H tv (ts.map Hl) ∧ FOk cs ts ∧ (e = 0 ∨ e = 1) ∧ IsBeg e cs ts B
theorem begOf_one {l : List Value} {H : Heap} {B B' : List Int} (h : BegOf l H B) (h' : BegOf l H B') : B = B' := by
  obtain ⟨cv, tv, e, cs, ts, rfl, h1, h2, h3, h4, h5⟩ := h
  obtain ⟨cv', tv', e', cs', ts', hl, g1, g2, g3, g4, g5⟩ := h'
  simp only [List.cons.injEq, and_true, Value.agg.injEq, Value.int.injEq, true_and] at hl
  obtain ⟨ha, rfl⟩ := hl
  have ha := congrArg Array.toList ha
  simp only [List.cons.injEq, and_true] at ha
  obtain ⟨rfl, rfl⟩ := ha
  have e1 := map_inj (fun _ _ => Col_inj) (h1.inj (by omega) g1)
  have e2 := map_inj (fun _ _ => Hl_inj) (h2.inj (by omega) g2)
  subst e1; subst e2
  exact h5.one h3 g5
open Classical in
noncomputable def wildB (l : List Value) (H : Heap) : Option Res :=
  if h : ∃ B, BegOf l H B then some (.slice (some ⟨H.n, 0, none⟩) (Classical.choose h).length 0, H.new (.cells ((Classical.choose h).map VJ) 3 2), H.n) else none
theorem wildB_is {l : List Value} {H : Heap} {B : List Int} (h : BegOf l H B) : wildB l H = some (.slice (some ⟨H.n, 0, none⟩) B.length 0, H.new (.cells (B.map VJ) 3 2), H.n) := by
  have hx : ∃ B, BegOf l H B := ⟨B, h⟩
  have := begOf_one (Classical.choose_spec hx) h
  unfold wildB
  rw [dif_pos hx, this]
theorem begin_calls {Bw : Nat} {l : List Value} {H : Heap} {B : List Int} (h : BegOf l H B) {ρ : Ren} {w : World} {args : Array Value} (k : Nat) (hH : HR Try.prog Bw ρ H w) (ha : L2 (VT ρ) l args.toList) :
    CallsIn Fence.wide k Try.prog 92 args w (fun e w' => ∃ ρ' v', e = .returned v' ∧ VT ρ' (.slice (some ⟨H.n, 0, none⟩) B.length 0) v' ∧ HR Try.prog Bw ρ' (H.new (.cells (B.map VJ) 3 2)) w' ∧ Ext Bw ρ ρ' H.n w w') := by
  obtain ⟨cv, tv, e, cs, ts, rfl, h1, h2, h3, h4, h5⟩ := h
  refine wild_row (sure1 Bw) (fn := Try.f92) (c := Try.f92.body.getD .skip) Try.func92 rfl (by kernel_rfl) (Nat.le_of_ble_eq_true rfl) ?_ ?_ k hH ha
  · exact List.all_eq_true.2 fun x hx => by obtain ⟨y, _, rfl⟩ := List.mem_map.1 hx; rfl
  · rw [h5.len]
    exact beginning_run h1 h2 h3 h4 h5
end Go.Proofs.Ytglkphjjinmgmaa

