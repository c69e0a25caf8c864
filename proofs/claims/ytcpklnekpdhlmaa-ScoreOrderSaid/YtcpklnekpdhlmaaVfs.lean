
/- Tables that are made of numbers. -/
import Derived.Test.YtcpklnekpdhlmaaVes
set_option linter.unusedVariables false
set_option linter.unusedSimpArgs false
namespace Go.Proofs.Ytcpklnekpdhlmaa
open Go.AI
theorem buildT {p s : Int} : abuild Try.prog 52 [(0, .int .i64 p), (2, .int .i64 s)] = some (Tv ⟨p, 0, s, []⟩ (.slice none 0 0)) := by kernel_rfl
theorem OwnG.keepXc {b : Nat} {H H' : Heap} {r : Value} {vals : List Value} {ls : List (List Int)} {B : Nat} {cs0 : List Value} {e0 : TypeId} (h : OwnG H r vals ls B) (k : KeepX b H H') (hb : H.get b = some (.cells cs0 e0 1)) : OwnG H' r vals ls B :=
  ⟨h.own.keepX k hb, h.len, fun i hi => (h.at' i hi).keepX k hb, h.ap⟩
theorem four_at {x : Int} {i : Nat} (h : i < ([1, 1, 1, x] : List Int).length) (hx : 1 ≤ x ∧ x ≤ 4) : 1 ≤ ([1, 1, 1, x] : List Int)[i]! ∧ ([1, 1, 1, x] : List Int)[i]! ≤ 4 := by
  match i, h with
  | 0, _ => exact ⟨by show (1 : Int) ≤ 1; decide, by show (1 : Int) ≤ 4; decide⟩
  | 1, _ => exact ⟨by show (1 : Int) ≤ 1; decide, by show (1 : Int) ≤ 4; decide⟩
  | 2, _ => exact ⟨by show (1 : Int) ≤ 1; decide, by show (1 : Int) ≤ 4; decide⟩
  | 3, _ => exact hx
def goodR (pk ps : Int) (xs : List Int) : Prop := ∀ j, j < xs.length → okN xs[j]! = true ∧ (ps ≤ j → xs[j]! = -1)
theorem goodR.push {pk ps y : Int} {xs : List Int} (h : goodR pk ps xs) (hy : okN y = true) (hp : ps ≤ xs.length → y = -1) : goodR pk ps (xs ++ [y]) := fun j hj => by
  rw [at_snoc]
  rw [List.length_append, List.length_singleton] at hj
  by_cases e : j < xs.length
  · rw [if_pos e]; exact h j e
  · have : j = xs.length := by omega
    subst this
    rw [if_neg e, if_pos rfl]; exact ⟨hy, hp⟩
theorem rows_push {pk ps : Int} {xs : List Int} {ls : List (List Int)} (h : ∀ i : Nat, i < ls.length → (ls[i]!.length : Int) = pk ∧ goodR pk ps ls[i]!) (hx : (xs.length : Int) = pk ∧ goodR pk ps xs) :
    ∀ i : Nat, i < (ls ++ [xs]).length → ((ls ++ [xs])[i]!.length : Int) = pk ∧ goodR pk ps (ls ++ [xs])[i]! := fun i hi => by
  rw [at_snoc]
  rw [List.length_append, List.length_singleton] at hi
  by_cases h1 : i < ls.length
  · rw [if_pos h1]; exact h i h1
  · rw [if_neg h1, if_pos (by omega)]; exact hx
set_option maxHeartbeats 4000000 in
set_option maxRecDepth 100000 in
theorem tableOf_spec {B b : Nat} {H : Heap} {mp mg : Int} (hB : B ≤ b) (hn : B ≤ H.n) (hb : Box b H) (p0 : 1 ≤ mp) (p1 : mp ≤ 9) (q0 : 1 ≤ mg) (q1 : mg ≤ 12) :
    CallB Try.prog B 30 [bp b, .int .i64 mp, .int .i64 mg] H (fun r H' => (∃ t A vals, r = Tv t A ∧ Vt t ∧ OwnG H' A vals t.rs H.n) ∧ Box b H' ∧ KeepX b H H') := by
  have hbn := hb.1
  refine CV.enter callees false rfl Try.func30 rfl (by kernel_rfl) (Nat.le_of_ble_eq_true rfl) hn ?_
  repeat' first
    | refine CO.cons rfl ?_
    | refine CO.nil ?_
    | refine CV.seq ?_
    | refine CV.region callees ?_
    | refine CV.cond ?_
    | refine CV.block ?_
    | refine CV.skip ?_
    | refine CV.exit ?_
    | refine CV.ret ?_
    | refine CV.scope ?_
    | refine CV.draw callees rfl ?_
    | refine CH.cons rfl ?_
    | refine CH.nil ?_
    | refine CO.consG rfl ?_
    | refine CH.consG rfl ?_
    | refine CG.cons rfl ?_
    | refine CR.cons ?_
    | refine CR.nil ?_
    | refine CG.nil ?_
    | refine CG.consG rfl ?_
    | refine ⟨(rfl : plain _ = true), ?_⟩
    | refine ⟨(rfl : nilOk _ = some _), ?_⟩
    | refine ⟨_, ints_len (by assumption), ?_⟩
    | refine ⟨_, ints_addr (by assumption) (by omega) (by omega), ?_⟩
    | refine ⟨_, ints_load (by assumption) (by omega) (by omega), ?_⟩
    | refine ⟨(⟨by omega, by omega⟩ : inI64 _), ?_⟩
    | refine ⟨_, fun tm ha => step1_max rfl (ev_tmp ha rfl) (ev_tmp ha rfl), ?_⟩
    | refine ⟨_, fun tm ha => step1_min rfl (ev_tmp ha rfl) (ev_tmp ha rfl), ?_⟩
    | (refine ⟨_, _, allocT, ?_⟩)
    | (refine ⟨fun _ => ?_, fun _ => ?_⟩ <;> first | (exfalso; omega) | skip)
    | fail
  generalize hs0 : H.new (Tc T0 (.slice none 0 0)) = H0
  have hgr := new_get hs0
  have k0 := new_keep hs0
  have n0 := new_n hs0
  have hb0 := hb.keep k0
  repeat' first
    | refine CO.cons rfl ?_
    | refine CO.nil ?_
    | refine CV.seq ?_
    | refine CV.region callees ?_
    | refine CV.cond ?_
    | refine CV.block ?_
    | refine CV.skip ?_
    | refine CV.exit ?_
    | refine CV.ret ?_
    | refine CV.scope ?_
    | refine CV.draw callees rfl ?_
    | refine CH.cons rfl ?_
    | refine CH.nil ?_
    | refine CO.consG rfl ?_
    | refine CH.consG rfl ?_
    | refine CG.cons rfl ?_
    | refine CR.cons ?_
    | refine CR.nil ?_
    | refine CG.nil ?_
    | refine CG.consG rfl ?_
    | refine ⟨(rfl : plain _ = true), ?_⟩
    | refine ⟨(rfl : nilOk _ = some _), ?_⟩
    | refine ⟨_, ints_len (by assumption), ?_⟩
    | refine ⟨_, ints_addr (by assumption) (by omega) (by omega), ?_⟩
    | refine ⟨_, ints_load (by assumption) (by omega) (by omega), ?_⟩
    | refine ⟨(⟨by omega, by omega⟩ : inI64 _), ?_⟩
    | refine ⟨_, fun tm ha => step1_max rfl (ev_tmp ha rfl) (ev_tmp ha rfl), ?_⟩
    | refine ⟨_, fun tm ha => step1_min rfl (ev_tmp ha rfl) (ev_tmp ha rfl), ?_⟩
    | (refine ⟨fun _ => ?_, fun _ => ?_⟩ <;> first | (exfalso; omega) | skip)
    | fail
  refine (any_spec hB (by omega) hb0 (by omega) (by omega) (by omega)).mono ?_
  rintro r H1 ⟨⟨pk, rfl, pk0, pk1⟩, hb1, x1⟩
  have l1 := x1.1
  repeat' first
    | refine CO.cons rfl ?_
    | refine CO.nil ?_
    | refine CV.seq ?_
    | refine CV.region callees ?_
    | refine CV.cond ?_
    | refine CV.block ?_
    | refine CV.skip ?_
    | refine CV.exit ?_
    | refine CV.ret ?_
    | refine CV.scope ?_
    | refine CV.draw callees rfl ?_
    | refine CH.cons rfl ?_
    | refine CH.nil ?_
    | refine CO.consG rfl ?_
    | refine CH.consG rfl ?_
    | refine CG.cons rfl ?_
    | refine CR.cons ?_
    | refine CR.nil ?_
    | refine CG.nil ?_
    | refine CG.consG rfl ?_
    | refine ⟨(rfl : plain _ = true), ?_⟩
    | refine ⟨(rfl : nilOk _ = some _), ?_⟩
    | refine ⟨_, ints_len (by assumption), ?_⟩
    | refine ⟨_, ints_addr (by assumption) (by omega) (by omega), ?_⟩
    | refine ⟨_, ints_load (by assumption) (by omega) (by omega), ?_⟩
    | refine ⟨(⟨by omega, by omega⟩ : inI64 _), ?_⟩
    | refine ⟨_, fun tm ha => step1_max rfl (ev_tmp ha rfl) (ev_tmp ha rfl), ?_⟩
    | refine ⟨_, fun tm ha => step1_min rfl (ev_tmp ha rfl) (ev_tmp ha rfl), ?_⟩
    | (refine ⟨fun _ => ?_, fun _ => ?_⟩ <;> first | (exfalso; omega) | skip)
    | fail
  refine (any_spec hB (by omega) hb1 (by omega) (by omega) (by omega)).mono ?_
  rintro r H2 ⟨⟨s, rfl, s0, s1⟩, hb2, x2⟩
  have l2 := x2.1
  repeat' first
    | refine CO.cons rfl ?_
    | refine CO.nil ?_
    | refine CV.seq ?_
    | refine CV.region callees ?_
    | refine CV.cond ?_
    | refine CV.block ?_
    | refine CV.skip ?_
    | refine CV.exit ?_
    | refine CV.ret ?_
    | refine CV.scope ?_
    | refine CV.draw callees rfl ?_
    | refine CH.cons rfl ?_
    | refine CH.nil ?_
    | refine CO.consG rfl ?_
    | refine CH.consG rfl ?_
    | refine CG.cons rfl ?_
    | refine CR.cons ?_
    | refine CR.nil ?_
    | refine CG.nil ?_
    | refine CG.consG rfl ?_
    | refine ⟨(rfl : plain _ = true), ?_⟩
    | refine ⟨(rfl : nilOk _ = some _), ?_⟩
    | refine ⟨_, ints_len (by assumption), ?_⟩
    | refine ⟨_, ints_addr (by assumption) (by omega) (by omega), ?_⟩
    | refine ⟨_, ints_load (by assumption) (by omega) (by omega), ?_⟩
    | refine ⟨(⟨by omega, by omega⟩ : inI64 _), ?_⟩
    | refine ⟨_, fun tm ha => step1_max rfl (ev_tmp ha rfl) (ev_tmp ha rfl), ?_⟩
    | refine ⟨_, fun tm ha => step1_min rfl (ev_tmp ha rfl) (ev_tmp ha rfl), ?_⟩
    | refine ⟨_, _, build_vals [VI 1, VI 1, VI 1, VI s] un22 one3 rfl (Nat.le_of_ble_eq_true rfl), ?_⟩
    | (refine ⟨fun _ => ?_, fun _ => ?_⟩ <;> first | (exfalso; omega) | skip)
    | fail
  generalize hs3 : Heap.new _ _ = H3
  have hw3 : Ints H3 (.slice (some ⟨H2.n, 0, none⟩) 4 0) [1, 1, 1, s] := by rw [← hs3]; exact new_row rfl
  have k3 := new_keep hs3
  have hb3 := hb2.keep k3
  have l3 := k3.1
  refine (pick_spec hB (by omega) hb3 hw3 (Nat.le_of_ble_eq_true rfl) (Nat.le_of_ble_eq_true rfl)).mono ?_
  rintro r H4 ⟨⟨i1, hi1, rfl⟩, hb4, x4⟩
  have l4 := x4.1
  have t4 := four_at hi1 ⟨s0, s1⟩
  generalize ([1, 1, 1, s] : List Int)[i1]! = st at t4 ⊢
  have xx4 : KeepX b H0 H4 := ((x1.trans x2).trans (k3.butX b)).trans x4
  have xh4 : KeepX b H H4 := (k0.butX b).trans xx4
  repeat' first
    | refine CO.cons rfl ?_
    | refine CO.nil ?_
    | refine CV.seq ?_
    | refine CV.region callees ?_
    | refine CV.cond ?_
    | refine CV.block ?_
    | refine CV.skip ?_
    | refine CV.exit ?_
    | refine CV.ret ?_
    | refine CV.scope ?_
    | refine CV.draw callees rfl ?_
    | refine CH.cons rfl ?_
    | refine CH.nil ?_
    | refine CO.consG rfl ?_
    | refine CH.consG rfl ?_
    | refine CG.cons rfl ?_
    | refine CR.cons ?_
    | refine CR.nil ?_
    | refine CG.nil ?_
    | refine CG.consG rfl ?_
    | refine ⟨(rfl : plain _ = true), ?_⟩
    | refine ⟨(rfl : nilOk _ = some _), ?_⟩
    | refine ⟨_, ints_len (by assumption), ?_⟩
    | refine ⟨_, ints_addr (by assumption) (by omega) (by omega), ?_⟩
    | refine ⟨_, ints_load (by assumption) (by omega) (by omega), ?_⟩
    | refine ⟨(⟨by omega, by omega⟩ : inI64 _), ?_⟩
    | refine ⟨_, fun tm ha => step1_max rfl (ev_tmp ha rfl) (ev_tmp ha rfl), ?_⟩
    | refine ⟨_, fun tm ha => step1_min rfl (ev_tmp ha rfl) (ev_tmp ha rfl), ?_⟩
    | (refine ⟨_, buildT, ?_⟩)
    | (refine ⟨_, _, allocT, ?_⟩)
    | (refine ⟨fun _ => ?_, fun _ => ?_⟩ <;> first | (exfalso; omega) | skip)
    | fail
  generalize hs5 : H4.new (Tc T0 (.slice none 0 0)) = H5
  have hg5 := new_get hs5
  have k5 := new_keep hs5
  have n5 := new_n hs5
  obtain ⟨bt, hbt⟩ : ∃ bt, H4.n = bt := ⟨_, rfl⟩
  rw [hbt] at hg5 n5 ⊢
  refine ⟨_, _, storeT (t' := ⟨pk, 0, st, []⟩) (A' := .slice none 0 0) rfl hg5, by omega, ?_⟩
  generalize hs6 : H5.set bt _ = H6
  have hg6 : H6.get bt = some (Tc ⟨pk, 0, st, []⟩ (.slice none 0 0)) := set_get hs6
  have n6 := set_n hs6
  have xh6 : KeepX b H H6 := keepX_put (xh4.trans (k5.butX b)) (by omega) (set_old hs6) n6
  have hb4n := hb4.1
  have hb6 : Box b H6 := box_put (hb4.keep k5) (by omega) (set_old hs6) n6
  have hr6 : H6.get H.n = some (Tc T0 (.slice none 0 0)) := by rw [set_old hs6 H.n (by omega), k5.2 H.n (by omega), xx4.2 H.n (by omega) (by omega)]; exact hgr
  repeat' first
    | refine CO.cons rfl ?_
    | refine CO.nil ?_
    | refine CV.seq ?_
    | refine CV.region callees ?_
    | refine CV.cond ?_
    | refine CV.block ?_
    | refine CV.skip ?_
    | refine CV.exit ?_
    | refine CV.ret ?_
    | refine CV.scope ?_
    | refine CV.draw callees rfl ?_
    | refine CH.cons rfl ?_
    | refine CH.nil ?_
    | refine CO.consG rfl ?_
    | refine CH.consG rfl ?_
    | refine CG.cons rfl ?_
    | refine CR.cons ?_
    | refine CR.nil ?_
    | refine CG.nil ?_
    | refine CG.consG rfl ?_
    | refine ⟨(rfl : plain _ = true), ?_⟩
    | refine ⟨(rfl : nilOk _ = some _), ?_⟩
    | refine ⟨_, ints_len (by assumption), ?_⟩
    | refine ⟨_, ints_addr (by assumption) (by omega) (by omega), ?_⟩
    | refine ⟨_, ints_load (by assumption) (by omega) (by omega), ?_⟩
    | refine ⟨(⟨by omega, by omega⟩ : inI64 _), ?_⟩
    | refine ⟨_, fun tm ha => step1_max rfl (ev_tmp ha rfl) (ev_tmp ha rfl), ?_⟩
    | refine ⟨_, fun tm ha => step1_min rfl (ev_tmp ha rfl) (ev_tmp ha rfl), ?_⟩
    | (refine ⟨_, addrT (by decide), ?_⟩)
    | (refine ⟨VI pk, cell_load ag3 hg6 rfl, ?_⟩)
    | (refine ⟨fun _ => ?_, fun _ => ?_⟩ <;> first | (exfalso; omega) | skip)
    | fail
  refine (any_spec hB (by omega) hb6 (by omega) (by omega) (by omega)).mono ?_
  rintro r H7 ⟨⟨ps, rfl, ps0, ps1⟩, hb7, x7⟩
  have l7 := x7.1
  have hg7 : H7.get bt = some (Tc ⟨pk, 0, st, []⟩ (.slice none 0 0)) := by rw [x7.2 bt (by omega) (by omega)]; exact hg6
  have hr7 : H7.get H.n = some (Tc T0 (.slice none 0 0)) := by rw [x7.2 H.n (by omega) (by omega)]; exact hr6
  repeat' first
    | refine CO.cons rfl ?_
    | refine CO.nil ?_
    | refine CV.seq ?_
    | refine CV.region callees ?_
    | refine CV.cond ?_
    | refine CV.block ?_
    | refine CV.skip ?_
    | refine CV.exit ?_
    | refine CV.ret ?_
    | refine CV.scope ?_
    | refine CV.draw callees rfl ?_
    | refine CH.cons rfl ?_
    | refine CH.nil ?_
    | refine CO.consG rfl ?_
    | refine CH.consG rfl ?_
    | refine CG.cons rfl ?_
    | refine CR.cons ?_
    | refine CR.nil ?_
    | refine CG.nil ?_
    | refine CG.consG rfl ?_
    | refine ⟨(rfl : plain _ = true), ?_⟩
    | refine ⟨(rfl : nilOk _ = some _), ?_⟩
    | refine ⟨_, ints_len (by assumption), ?_⟩
    | refine ⟨_, ints_addr (by assumption) (by omega) (by omega), ?_⟩
    | refine ⟨_, ints_load (by assumption) (by omega) (by omega), ?_⟩
    | refine ⟨(⟨by omega, by omega⟩ : inI64 _), ?_⟩
    | refine ⟨_, fun tm ha => step1_max rfl (ev_tmp ha rfl) (ev_tmp ha rfl), ?_⟩
    | refine ⟨_, fun tm ha => step1_min rfl (ev_tmp ha rfl) (ev_tmp ha rfl), ?_⟩
    | (refine ⟨_, addrT (by decide), ?_⟩)
    | (refine ⟨fun _ => ?_, fun _ => ?_⟩ <;> first | (exfalso; omega) | skip)
    | fail
  refine ⟨_, _, cell_store sz3 hg7 (Nat.le_of_ble_eq_true rfl) rfl, by omega, ?_⟩
  generalize hs8 : H7.set bt _ = H8
  have hg8 : H8.get bt = some (Tc ⟨pk, ps, st, []⟩ (.slice none 0 0)) := set_get hs8
  have n8 := set_n hs8
  have o8 := set_old hs8
  have hr8 : H8.get H.n = some (Tc T0 (.slice none 0 0)) := by rw [o8 H.n (by omega)]; exact hr7
  have hb8 : Box b H8 := box_put hb7 (by omega) o8 n8
  have xh8 : KeepX b H H8 := keepX_put (xh6.trans x7) (by omega) o8 n8
  by_cases h3 : 3 ≤ st
  · repeat' first
      | refine CO.cons rfl ?_
      | refine CO.nil ?_
      | refine CV.seq ?_
      | refine CV.region callees ?_
      | refine CV.cond ?_
      | refine CV.block ?_
      | refine CV.skip ?_
      | refine CV.exit ?_
      | refine CV.ret ?_
      | refine CV.scope ?_
      | refine CV.draw callees rfl ?_
      | refine CH.cons rfl ?_
      | refine CH.nil ?_
      | refine CO.consG rfl ?_
      | refine CH.consG rfl ?_
      | refine CG.cons rfl ?_
      | refine CR.cons ?_
      | refine CR.nil ?_
      | refine CG.nil ?_
      | refine CG.consG rfl ?_
      | refine ⟨(rfl : plain _ = true), ?_⟩
      | refine ⟨(rfl : nilOk _ = some _), ?_⟩
      | refine ⟨_, ints_len (by assumption), ?_⟩
      | refine ⟨_, ints_addr (by assumption) (by omega) (by omega), ?_⟩
      | refine ⟨_, ints_load (by assumption) (by omega) (by omega), ?_⟩
      | refine ⟨(⟨by omega, by omega⟩ : inI64 _), ?_⟩
      | refine ⟨_, fun tm ha => step1_max rfl (ev_tmp ha rfl) (ev_tmp ha rfl), ?_⟩
      | refine ⟨_, fun tm ha => step1_min rfl (ev_tmp ha rfl) (ev_tmp ha rfl), ?_⟩
      | (refine ⟨_, addrT (by decide), ?_⟩)
      | (refine ⟨VI pk, cell_load ag3 hg8 rfl, ?_⟩)
      | (refine ⟨VI st, cell_load ag3 hg8 rfl, ?_⟩)
      | (refine ⟨fun _ => ?_, fun _ => ?_⟩ <;> first | (exfalso; omega) | skip)
      | fail
    refine ⟨_, _, cell_store sz3 hg8 (Nat.le_of_ble_eq_true rfl) rfl, by omega, ?_⟩
    generalize hsa : H8.set bt _ = Ha
    have hga : Ha.get bt = some (Tc ⟨pk, pk, st, []⟩ (.slice none 0 0)) := set_get hsa
    have na := set_n hsa
    have oa := set_old hsa
    have hra : Ha.get H.n = some (Tc T0 (.slice none 0 0)) := by rw [oa H.n (by omega)]; exact hr8
    have hba : Box b Ha := box_put hb8 (by omega) oa na
    have xha : KeepX b H Ha := keepX_put xh8 (by omega) oa na
    repeat' first
      | refine CO.cons rfl ?_
      | refine CO.nil ?_
      | refine CV.seq ?_
      | refine CV.region callees ?_
      | refine CV.cond ?_
      | refine CV.block ?_
      | refine CV.skip ?_
      | refine CV.exit ?_
      | refine CV.ret ?_
      | refine CV.scope ?_
      | refine CV.draw callees rfl ?_
      | refine CH.cons rfl ?_
      | refine CH.nil ?_
      | refine CO.consG rfl ?_
      | refine CH.consG rfl ?_
      | refine CG.cons rfl ?_
      | refine CR.cons ?_
      | refine CR.nil ?_
      | refine CG.nil ?_
      | refine CG.consG rfl ?_
      | refine ⟨(rfl : plain _ = true), ?_⟩
      | refine ⟨(rfl : nilOk _ = some _), ?_⟩
      | refine ⟨_, ints_len (by assumption), ?_⟩
      | refine ⟨_, ints_addr (by assumption) (by omega) (by omega), ?_⟩
      | refine ⟨_, ints_load (by assumption) (by omega) (by omega), ?_⟩
      | refine ⟨(⟨by omega, by omega⟩ : inI64 _), ?_⟩
      | refine ⟨_, fun tm ha => step1_max rfl (ev_tmp ha rfl) (ev_tmp ha rfl), ?_⟩
      | refine ⟨_, fun tm ha => step1_min rfl (ev_tmp ha rfl) (ev_tmp ha rfl), ?_⟩
      | (refine ⟨fun _ => ?_, fun _ => ?_⟩ <;> first | (exfalso; omega) | skip)
      | fail
    refine (any_spec hB (by omega) hba (by omega) (by omega) (by omega)).mono ?_
    rintro r H9 ⟨⟨g, rfl, g0, g1⟩, hb9, x9⟩
    have l9 := x9.1
    have xx9 := (xha).trans x9
    have hg9 : H9.get bt = some (Tc ⟨pk, pk, st, []⟩ (.slice none 0 0)) := by rw [x9.2 bt (by omega) (by omega)]; exact hga
    have hr9 : H9.get H.n = some (Tc T0 (.slice none 0 0)) := by rw [x9.2 H.n (by omega) (by omega)]; exact hra
    repeat' first
      | refine CO.cons rfl ?_
      | refine CO.nil ?_
      | refine CV.seq ?_
      | refine CV.region callees ?_
      | refine CV.cond ?_
      | refine CV.block ?_
      | refine CV.skip ?_
      | refine CV.exit ?_
      | refine CV.ret ?_
      | refine CV.scope ?_
      | refine CV.draw callees rfl ?_
      | refine CH.cons rfl ?_
      | refine CH.nil ?_
      | refine CO.consG rfl ?_
      | refine CH.consG rfl ?_
      | refine CG.cons rfl ?_
      | refine CR.cons ?_
      | refine CR.nil ?_
      | refine CG.nil ?_
      | refine CG.consG rfl ?_
      | refine ⟨(rfl : plain _ = true), ?_⟩
      | refine ⟨(rfl : nilOk _ = some _), ?_⟩
      | refine ⟨_, ints_len (by assumption), ?_⟩
      | refine ⟨_, ints_addr (by assumption) (by omega) (by omega), ?_⟩
      | refine ⟨_, ints_load (by assumption) (by omega) (by omega), ?_⟩
      | refine ⟨(⟨by omega, by omega⟩ : inI64 _), ?_⟩
      | refine ⟨_, fun tm ha => step1_max rfl (ev_tmp ha rfl) (ev_tmp ha rfl), ?_⟩
      | refine ⟨_, fun tm ha => step1_min rfl (ev_tmp ha rfl) (ev_tmp ha rfl), ?_⟩
      | (refine ⟨fun _ => ?_, fun _ => ?_⟩ <;> first | (exfalso; omega) | skip)
      | fail
    refine CV.loopc ?_
    refine WCv.rounds callees false (α := Int × Value × List Value × List (List Int)) (fun (i, q, vals, ls) => [(0, bp b), (6, .pointer (some ⟨H.n, 0, none⟩)), (7, .pointer (some ⟨bt, 0, none⟩)), (8, .int .i64 i)]) (fun (i, q, vals, ls) Hz => (0 ≤ i ∧ (ls.length : Int) + i = g) ∧ OwnG Hz q vals ls H9.n ∧ Box b Hz ∧ KeepX b H Hz ∧ Hz.get bt = some (Tc ⟨pk, pk, st, []⟩ q) ∧ Hz.get H.n = some (Tc T0 (.slice none 0 0)) ∧ H9.n ≤ Hz.n ∧ (∀ i : Nat, i < ls.length → (ls[i]!.length : Int) = pk ∧ goodR pk (pk) ls[i]!)) (fun (i, q, vals, ls) => i.toNat) (g, .slice none 0 0, [], []) (by repeat' first | exact trivial | refine ⟨rfl, ?_⟩ | refine ⟨slot_int (by (try simp only [Int.toNat_natCast]); omega), ?_⟩) ?_ ?_
    · exact ⟨⟨by omega, by simp⟩, OwnG.nil, hb9, xx9, hg9, hr9, Nat.le_refl _, fun i hi => by simp at hi⟩
    rintro ⟨i, q, vals, ls⟩ Hx ⟨⟨hi0, hig⟩, hq, hbx, hkx, hgx, hrx, hlx, hgd⟩ hBx
    have hbxn := hbx.1
    by_cases hi : 0 < i
    · repeat' first
        | refine CO.cons rfl ?_
        | refine CO.nil ?_
        | refine CV.seq ?_
        | refine CV.region callees ?_
        | refine CV.cond ?_
        | refine CV.block ?_
        | refine CV.skip ?_
        | refine CV.exit ?_
        | refine CV.ret ?_
        | refine CV.scope ?_
        | refine CV.draw callees rfl ?_
        | refine CH.cons rfl ?_
        | refine CH.nil ?_
        | refine CO.consG rfl ?_
        | refine CH.consG rfl ?_
        | refine CG.cons rfl ?_
        | refine CR.cons ?_
        | refine CR.nil ?_
        | refine CG.nil ?_
        | refine CG.consG rfl ?_
        | refine ⟨(rfl : plain _ = true), ?_⟩
        | refine ⟨(rfl : nilOk _ = some _), ?_⟩
        | refine ⟨_, ints_len (by assumption), ?_⟩
        | refine ⟨_, ints_addr (by assumption) (by omega) (by omega), ?_⟩
        | refine ⟨_, ints_load (by assumption) (by omega) (by omega), ?_⟩
        | refine ⟨(⟨by omega, by omega⟩ : inI64 _), ?_⟩
        | refine ⟨_, fun tm ha => step1_max rfl (ev_tmp ha rfl) (ev_tmp ha rfl), ?_⟩
        | refine ⟨_, fun tm ha => step1_min rfl (ev_tmp ha rfl) (ev_tmp ha rfl), ?_⟩
        | (refine ⟨fun _ => ?_, fun _ => ?_⟩ <;> first | (exfalso; omega) | skip)
        | fail
      refine CV.loopc ?_
      refine WCv.rounds callees false (α := Value × List Int) (fun (l, xs) => [(0, bp b), (6, .pointer (some ⟨H.n, 0, none⟩)), (7, .pointer (some ⟨bt, 0, none⟩)), (8, .int .i64 i), (9, l), (10, .int .i64 xs.length)]) (fun (l, xs) Hz => (xs.length : Int) ≤ pk ∧ Own 3 Hz l (xs.map VI) Hx.n ∧ Box b Hz ∧ KeepX b Hx Hz ∧ goodR pk (pk) xs) (fun (l, xs) => pk.toNat - xs.length) (.slice none 0 0, []) (by repeat' first | exact trivial | refine ⟨rfl, ?_⟩ | refine ⟨slot_int (by (try simp only [Int.toNat_natCast]); omega), ?_⟩) ?_ ?_
      · exact ⟨by simp; omega, .inl ⟨rfl, rfl⟩, hbx, KeepX.refl _ _, fun j hj => by simp at hj⟩
      rintro ⟨l, xs⟩ Hy ⟨hxl, hl, hby, hky, hgx2⟩ hBy
      have lky := hky.1
      have hgy : Hy.get bt = some (Tc ⟨pk, pk, st, []⟩ q) := by rw [hky.2 bt (by omega) (by omega)]; exact hgx
      have hry : Hy.get H.n = some (Tc T0 (.slice none 0 0)) := by rw [hky.2 H.n (by omega) (by omega)]; exact hrx
      by_cases hx2 : (xs.length : Int) < pk
      · by_cases hps : (xs.length : Int) < pk
        · repeat' first
            | refine CO.cons rfl ?_
            | refine CO.nil ?_
            | refine CV.seq ?_
            | refine CV.region callees ?_
            | refine CV.cond ?_
            | refine CV.block ?_
            | refine CV.skip ?_
            | refine CV.exit ?_
            | refine CV.ret ?_
            | refine CV.scope ?_
            | refine CV.draw callees rfl ?_
            | refine CH.cons rfl ?_
            | refine CH.nil ?_
            | refine CO.consG rfl ?_
            | refine CH.consG rfl ?_
            | refine CG.cons rfl ?_
            | refine CR.cons ?_
            | refine CR.nil ?_
            | refine CG.nil ?_
            | refine CG.consG rfl ?_
            | refine ⟨(rfl : plain _ = true), ?_⟩
            | refine ⟨(rfl : nilOk _ = some _), ?_⟩
            | refine ⟨_, ints_len (by assumption), ?_⟩
            | refine ⟨_, ints_addr (by assumption) (by omega) (by omega), ?_⟩
            | refine ⟨_, ints_load (by assumption) (by omega) (by omega), ?_⟩
            | refine ⟨(⟨by omega, by omega⟩ : inI64 _), ?_⟩
            | refine ⟨_, fun tm ha => step1_max rfl (ev_tmp ha rfl) (ev_tmp ha rfl), ?_⟩
            | refine ⟨_, fun tm ha => step1_min rfl (ev_tmp ha rfl) (ev_tmp ha rfl), ?_⟩
            | (refine ⟨_, addrT (by decide), ?_⟩)
            | (refine ⟨VI pk, cell_load ag3 hgy rfl, ?_⟩)
            | (refine ⟨VI (pk), cell_load ag3 hgy rfl, ?_⟩)
            | (refine ⟨fun _ => ?_, fun _ => ?_⟩ <;> first | (exfalso; omega) | skip)
            | fail
          refine (any_spec hB hBy hby (by omega) (by omega) (by omega)).mono ?_
          rintro r Hc ⟨⟨y, rfl, y0, y1⟩, hbc, xc⟩
          have lc := xc.1
          have hlc := own_box hl xc hby
          have hy : okN y = true := by simp only [okN, Bool.and_eq_true, decide_eq_true_eq]; omega
          repeat' first
            | refine CO.cons rfl ?_
            | refine CO.nil ?_
            | refine CV.seq ?_
            | refine CV.region callees ?_
            | refine CV.cond ?_
            | refine CV.block ?_
            | refine CV.skip ?_
            | refine CV.exit ?_
            | refine CV.ret ?_
            | refine CV.scope ?_
            | refine CV.draw callees rfl ?_
            | refine CH.cons rfl ?_
            | refine CH.nil ?_
            | refine CO.consG rfl ?_
            | refine CH.consG rfl ?_
            | refine CG.cons rfl ?_
            | refine CR.cons ?_
            | refine CR.nil ?_
            | refine CG.nil ?_
            | refine CG.consG rfl ?_
            | refine ⟨(rfl : plain _ = true), ?_⟩
            | refine ⟨(rfl : nilOk _ = some _), ?_⟩
            | refine ⟨_, ints_len (by assumption), ?_⟩
            | refine ⟨_, ints_addr (by assumption) (by omega) (by omega), ?_⟩
            | refine ⟨_, ints_load (by assumption) (by omega) (by omega), ?_⟩
            | refine ⟨(⟨by omega, by omega⟩ : inI64 _), ?_⟩
            | refine ⟨_, fun tm ha => step1_max rfl (ev_tmp ha rfl) (ev_tmp ha rfl), ?_⟩
            | refine ⟨_, fun tm ha => step1_min rfl (ev_tmp ha rfl) (ev_tmp ha rfl), ?_⟩
            | refine ⟨_, _, build_one un22 one3 rfl, ?_⟩
            | (refine ⟨fun _ => ?_, fun _ => ?_⟩ <;> first | (exfalso; omega) | skip)
            | fail
          refine push_ask (y := y) hlc (by omega) (by omega) (by omega) ?_
          intro lN HN hlN kbN hfN
          have lz : (xs ++ [y]).length = xs.length + 1 := by simp
          repeat' first
            | refine CO.cons rfl ?_
            | refine CO.nil ?_
            | refine CV.seq ?_
            | refine CV.region callees ?_
            | refine CV.cond ?_
            | refine CV.block ?_
            | refine CV.skip ?_
            | refine CV.exit ?_
            | refine CV.ret ?_
            | refine CV.scope ?_
            | refine CV.draw callees rfl ?_
            | refine CH.cons rfl ?_
            | refine CH.nil ?_
            | refine CO.consG rfl ?_
            | refine CH.consG rfl ?_
            | refine CG.cons rfl ?_
            | refine CR.cons ?_
            | refine CR.nil ?_
            | refine CG.nil ?_
            | refine CG.consG rfl ?_
            | refine ⟨(rfl : plain _ = true), ?_⟩
            | refine ⟨(rfl : nilOk _ = some _), ?_⟩
            | refine ⟨_, ints_len (by assumption), ?_⟩
            | refine ⟨_, ints_addr (by assumption) (by omega) (by omega), ?_⟩
            | refine ⟨_, ints_load (by assumption) (by omega) (by omega), ?_⟩
            | refine ⟨(⟨by omega, by omega⟩ : inI64 _), ?_⟩
            | refine ⟨_, fun tm ha => step1_max rfl (ev_tmp ha rfl) (ev_tmp ha rfl), ?_⟩
            | refine ⟨_, fun tm ha => step1_min rfl (ev_tmp ha rfl) (ev_tmp ha rfl), ?_⟩
            | (refine ⟨fun _ => ?_, fun _ => ?_⟩ <;> first | (exfalso; omega) | skip)
            | fail
          refine ⟨(lN, xs ++ [y]), (by repeat' first | exact trivial | refine ⟨rfl, ?_⟩ | refine ⟨slot_int (by (try simp only [Int.toNat_natCast]); omega), ?_⟩), (by (try dsimp only); omega), ?_⟩
          exact ⟨by omega, hlN, hbc.keepBut kbN (own_apartBox (H0 := H) hlc (by omega)), kbN.keepX (hky.trans xc) (fun c hc => (hlc.lt hc).1), hgx2.push hy (fun h => by omega)⟩
        · repeat' first
            | refine CO.cons rfl ?_
            | refine CO.nil ?_
            | refine CV.seq ?_
            | refine CV.region callees ?_
            | refine CV.cond ?_
            | refine CV.block ?_
            | refine CV.skip ?_
            | refine CV.exit ?_
            | refine CV.ret ?_
            | refine CV.scope ?_
            | refine CV.draw callees rfl ?_
            | refine CH.cons rfl ?_
            | refine CH.nil ?_
            | refine CO.consG rfl ?_
            | refine CH.consG rfl ?_
            | refine CG.cons rfl ?_
            | refine CR.cons ?_
            | refine CR.nil ?_
            | refine CG.nil ?_
            | refine CG.consG rfl ?_
            | refine ⟨(rfl : plain _ = true), ?_⟩
            | refine ⟨(rfl : nilOk _ = some _), ?_⟩
            | refine ⟨_, ints_len (by assumption), ?_⟩
            | refine ⟨_, ints_addr (by assumption) (by omega) (by omega), ?_⟩
            | refine ⟨_, ints_load (by assumption) (by omega) (by omega), ?_⟩
            | refine ⟨(⟨by omega, by omega⟩ : inI64 _), ?_⟩
            | refine ⟨_, fun tm ha => step1_max rfl (ev_tmp ha rfl) (ev_tmp ha rfl), ?_⟩
            | refine ⟨_, fun tm ha => step1_min rfl (ev_tmp ha rfl) (ev_tmp ha rfl), ?_⟩
            | (refine ⟨_, addrT (by decide), ?_⟩)
            | (refine ⟨VI pk, cell_load ag3 hgy rfl, ?_⟩)
            | (refine ⟨VI (pk), cell_load ag3 hgy rfl, ?_⟩)
            | refine ⟨_, _, build_one un22 one3 rfl, ?_⟩
            | (refine ⟨fun _ => ?_, fun _ => ?_⟩ <;> first | (exfalso; omega) | skip)
            | fail
          all_goals
            refine push_ask (y := -1) hl (by omega) (by omega) (by omega) ?_
            intro lN HN hlN kbN hfN
            have lz : (xs ++ [(-1 : Int)]).length = xs.length + 1 := by simp
            repeat' first
              | refine CO.cons rfl ?_
              | refine CO.nil ?_
              | refine CV.seq ?_
              | refine CV.region callees ?_
              | refine CV.cond ?_
              | refine CV.block ?_
              | refine CV.skip ?_
              | refine CV.exit ?_
              | refine CV.ret ?_
              | refine CV.scope ?_
              | refine CV.draw callees rfl ?_
              | refine CH.cons rfl ?_
              | refine CH.nil ?_
              | refine CO.consG rfl ?_
              | refine CH.consG rfl ?_
              | refine CG.cons rfl ?_
              | refine CR.cons ?_
              | refine CR.nil ?_
              | refine CG.nil ?_
              | refine CG.consG rfl ?_
              | refine ⟨(rfl : plain _ = true), ?_⟩
              | refine ⟨(rfl : nilOk _ = some _), ?_⟩
              | refine ⟨_, ints_len (by assumption), ?_⟩
              | refine ⟨_, ints_addr (by assumption) (by omega) (by omega), ?_⟩
              | refine ⟨_, ints_load (by assumption) (by omega) (by omega), ?_⟩
              | refine ⟨(⟨by omega, by omega⟩ : inI64 _), ?_⟩
              | refine ⟨_, fun tm ha => step1_max rfl (ev_tmp ha rfl) (ev_tmp ha rfl), ?_⟩
              | refine ⟨_, fun tm ha => step1_min rfl (ev_tmp ha rfl) (ev_tmp ha rfl), ?_⟩
              | (refine ⟨fun _ => ?_, fun _ => ?_⟩ <;> first | (exfalso; omega) | skip)
              | fail
            refine ⟨(lN, xs ++ [-1]), (by repeat' first | exact trivial | refine ⟨rfl, ?_⟩ | refine ⟨slot_int (by (try simp only [Int.toNat_natCast]); omega), ?_⟩), (by (try dsimp only); omega), ?_⟩
            exact ⟨by omega, hlN, hby.keepBut kbN (own_apartBox (H0 := H) hl (by omega)), kbN.keepX hky (fun c hc => (hl.lt hc).1), hgx2.push (by decide) (fun h => rfl)⟩
      · have hqy := hq.box hky hbx
        repeat' first
          | refine CO.cons rfl ?_
          | refine CO.nil ?_
          | refine CV.seq ?_
          | refine CV.region callees ?_
          | refine CV.cond ?_
          | refine CV.block ?_
          | refine CV.skip ?_
          | refine CV.exit ?_
          | refine CV.ret ?_
          | refine CV.scope ?_
          | refine CV.draw callees rfl ?_
          | refine CH.cons rfl ?_
          | refine CH.nil ?_
          | refine CO.consG rfl ?_
          | refine CH.consG rfl ?_
          | refine CG.cons rfl ?_
          | refine CR.cons ?_
          | refine CR.nil ?_
          | refine CG.nil ?_
          | refine CG.consG rfl ?_
          | refine ⟨(rfl : plain _ = true), ?_⟩
          | refine ⟨(rfl : nilOk _ = some _), ?_⟩
          | refine ⟨_, ints_len (by assumption), ?_⟩
          | refine ⟨_, ints_addr (by assumption) (by omega) (by omega), ?_⟩
          | refine ⟨_, ints_load (by assumption) (by omega) (by omega), ?_⟩
          | refine ⟨(⟨by omega, by omega⟩ : inI64 _), ?_⟩
          | refine ⟨_, fun tm ha => step1_max rfl (ev_tmp ha rfl) (ev_tmp ha rfl), ?_⟩
          | refine ⟨_, fun tm ha => step1_min rfl (ev_tmp ha rfl) (ev_tmp ha rfl), ?_⟩
          | (refine ⟨_, addrT (by decide), ?_⟩)
          | (refine ⟨VI pk, cell_load ag3 hgy rfl, ?_⟩)
          | (refine ⟨VI (pk), cell_load ag3 hgy rfl, ?_⟩)
          | (refine ⟨_, cell_load ag32 hgy rfl, ?_⟩)
          | refine ⟨_, _, build_one un32 one22 hl.row.oneC.1, ?_⟩
          | (refine ⟨fun _ => ?_, fun _ => ?_⟩ <;> first | (exfalso; omega) | skip)
          | fail
        refine gpush_ask (xs := xs) hqy (by omega) (by omega) (hl.low (by omega)) (fun d hd hd2 => by have h1 := (hl.lt hd).1; have h2 := (hq.own.lt hd2).2; omega) (by omega) ?_
        intro q2 Hd hqd kbd hfd
        have ld := kbd.le
        have hgd2 : Hd.get bt = some (Tc ⟨pk, pk, st, []⟩ q) := by rw [kbd.get bt (by omega) (fun h => by have := (hq.own.lt h).1; omega)]; exact hgy
        repeat' first
          | refine CO.cons rfl ?_
          | refine CO.nil ?_
          | refine CV.seq ?_
          | refine CV.region callees ?_
          | refine CV.cond ?_
          | refine CV.block ?_
          | refine CV.skip ?_
          | refine CV.exit ?_
          | refine CV.ret ?_
          | refine CV.scope ?_
          | refine CV.draw callees rfl ?_
          | refine CH.cons rfl ?_
          | refine CH.nil ?_
          | refine CO.consG rfl ?_
          | refine CH.consG rfl ?_
          | refine CG.cons rfl ?_
          | refine CR.cons ?_
          | refine CR.nil ?_
          | refine CG.nil ?_
          | refine CG.consG rfl ?_
          | refine ⟨(rfl : plain _ = true), ?_⟩
          | refine ⟨(rfl : nilOk _ = some _), ?_⟩
          | refine ⟨_, ints_len (by assumption), ?_⟩
          | refine ⟨_, ints_addr (by assumption) (by omega) (by omega), ?_⟩
          | refine ⟨_, ints_load (by assumption) (by omega) (by omega), ?_⟩
          | refine ⟨(⟨by omega, by omega⟩ : inI64 _), ?_⟩
          | refine ⟨_, fun tm ha => step1_max rfl (ev_tmp ha rfl) (ev_tmp ha rfl), ?_⟩
          | refine ⟨_, fun tm ha => step1_min rfl (ev_tmp ha rfl) (ev_tmp ha rfl), ?_⟩
          | (refine ⟨_, addrT (by decide), ?_⟩)
          | (refine ⟨fun _ => ?_, fun _ => ?_⟩ <;> first | (exfalso; omega) | skip)
          | fail
        refine ⟨_, _, cell_store sz32 hgd2 (Nat.le_of_ble_eq_true rfl) hqd.own.row.oneC.1, by omega, ?_⟩
        generalize hse : Hd.set bt _ = He
        have hge : He.get bt = some (Tc ⟨pk, pk, st, []⟩ q2) := set_get hse
        have ne := set_n hse
        have oe := set_old hse
        have xe : KeepX bt Hd He := by rw [← hse]; exact KeepX.set _ _
        have lz : (ls ++ [xs]).length = ls.length + 1 := by simp
        repeat' first
          | refine CO.cons rfl ?_
          | refine CO.nil ?_
          | refine CV.seq ?_
          | refine CV.region callees ?_
          | refine CV.cond ?_
          | refine CV.block ?_
          | refine CV.skip ?_
          | refine CV.exit ?_
          | refine CV.ret ?_
          | refine CV.scope ?_
          | refine CV.draw callees rfl ?_
          | refine CH.cons rfl ?_
          | refine CH.nil ?_
          | refine CO.consG rfl ?_
          | refine CH.consG rfl ?_
          | refine CG.cons rfl ?_
          | refine CR.cons ?_
          | refine CR.nil ?_
          | refine CG.nil ?_
          | refine CG.consG rfl ?_
          | refine ⟨(rfl : plain _ = true), ?_⟩
          | refine ⟨(rfl : nilOk _ = some _), ?_⟩
          | refine ⟨_, ints_len (by assumption), ?_⟩
          | refine ⟨_, ints_addr (by assumption) (by omega) (by omega), ?_⟩
          | refine ⟨_, ints_load (by assumption) (by omega) (by omega), ?_⟩
          | refine ⟨(⟨by omega, by omega⟩ : inI64 _), ?_⟩
          | refine ⟨_, fun tm ha => step1_max rfl (ev_tmp ha rfl) (ev_tmp ha rfl), ?_⟩
          | refine ⟨_, fun tm ha => step1_min rfl (ev_tmp ha rfl) (ev_tmp ha rfl), ?_⟩
          | (refine ⟨fun _ => ?_, fun _ => ?_⟩ <;> first | (exfalso; omega) | skip)
          | fail
        refine ⟨(i - 1, q2, vals ++ [l], ls ++ [xs]), (by repeat' first | exact trivial | refine ⟨rfl, ?_⟩ | refine ⟨slot_int (by (try simp only [Int.toNat_natCast]); omega), ?_⟩), (by (try dsimp only); omega), ?_⟩
        have hbd : Box b Hd := hby.keepBut kbd (own_apartBox (H0 := H) hqy.own (by omega))
        refine ⟨by omega, hqd.keepXc xe hgd2, box_put hbd (by omega) oe ne, keepX_put (kbd.keepX (hkx.trans hky) (fun c hc => by have := (hq.own.lt hc).1; omega)) (by omega) oe ne, hge, ?_, by omega, rows_push hgd ⟨by omega, hgx2⟩⟩
        rw [oe H.n (by omega), kbd.get H.n (by omega) (fun h => by have := (hq.own.lt h).1; omega)]; exact hry
    · have hi00 : i = 0 := by omega
      subst hi00
      have hoq := hq.own.row.oneC.1
      repeat' first
        | refine CO.cons rfl ?_
        | refine CO.nil ?_
        | refine CV.seq ?_
        | refine CV.region callees ?_
        | refine CV.cond ?_
        | refine CV.block ?_
        | refine CV.skip ?_
        | refine CV.exit ?_
        | refine CV.ret ?_
        | refine CV.scope ?_
        | refine CV.draw callees rfl ?_
        | refine CH.cons rfl ?_
        | refine CH.nil ?_
        | refine CO.consG rfl ?_
        | refine CH.consG rfl ?_
        | refine CG.cons rfl ?_
        | refine CR.cons ?_
        | refine CR.nil ?_
        | refine CG.nil ?_
        | refine CG.consG rfl ?_
        | refine ⟨(rfl : plain _ = true), ?_⟩
        | refine ⟨(rfl : nilOk _ = some _), ?_⟩
        | refine ⟨_, ints_len (by assumption), ?_⟩
        | refine ⟨_, ints_addr (by assumption) (by omega) (by omega), ?_⟩
        | refine ⟨_, ints_load (by assumption) (by omega) (by omega), ?_⟩
        | refine ⟨(⟨by omega, by omega⟩ : inI64 _), ?_⟩
        | refine ⟨_, fun tm ha => step1_max rfl (ev_tmp ha rfl) (ev_tmp ha rfl), ?_⟩
        | refine ⟨_, fun tm ha => step1_min rfl (ev_tmp ha rfl) (ev_tmp ha rfl), ?_⟩
        | (refine ⟨_, loadT hgx, ?_⟩)
        | (refine ⟨fun _ => ?_, fun _ => ?_⟩ <;> first | (exfalso; omega) | skip)
        | fail
      refine ⟨_, _, storeT hoq hrx, by omega, ?_⟩
      generalize hse : Hx.set H.n _ = He
      have hge := set_get hse
      have ne := set_n hse
      have oe := set_old hse
      have xe : KeepX H.n Hx He := by rw [← hse]; exact KeepX.set _ _
      repeat' first
        | refine CO.cons rfl ?_
        | refine CO.nil ?_
        | refine CV.seq ?_
        | refine CV.region callees ?_
        | refine CV.cond ?_
        | refine CV.block ?_
        | refine CV.skip ?_
        | refine CV.exit ?_
        | refine CV.ret ?_
        | refine CV.scope ?_
        | refine CV.draw callees rfl ?_
        | refine CH.cons rfl ?_
        | refine CH.nil ?_
        | refine CO.consG rfl ?_
        | refine CH.consG rfl ?_
        | refine CG.cons rfl ?_
        | refine CR.cons ?_
        | refine CR.nil ?_
        | refine CG.nil ?_
        | refine CG.consG rfl ?_
        | refine ⟨(rfl : plain _ = true), ?_⟩
        | refine ⟨(rfl : nilOk _ = some _), ?_⟩
        | refine ⟨_, ints_len (by assumption), ?_⟩
        | refine ⟨_, ints_addr (by assumption) (by omega) (by omega), ?_⟩
        | refine ⟨_, ints_load (by assumption) (by omega) (by omega), ?_⟩
        | refine ⟨(⟨by omega, by omega⟩ : inI64 _), ?_⟩
        | refine ⟨_, fun tm ha => step1_max rfl (ev_tmp ha rfl) (ev_tmp ha rfl), ?_⟩
        | refine ⟨_, fun tm ha => step1_min rfl (ev_tmp ha rfl) (ev_tmp ha rfl), ?_⟩
        | (refine ⟨fun _ => ?_, fun _ => ?_⟩ <;> first | (exfalso; omega) | skip)
        | fail
      refine ⟨_, loadT hge, by simp only [List.all_cons, List.all_nil, notTuple]; rfl, ⟨⟨pk, pk, st, ls⟩, q, vals, rfl, ⟨by show 1 ≤ pk; omega, by show pk ≤ 9; omega, by show 0 ≤ pk; omega, by show pk ≤ pk; omega, by show 1 ≤ st; omega, by show st ≤ 4; omega, ?_, ?_, fun i hi => ⟨(hgd i hi).1, fun j hj => ((hgd i hi).2 j hj).1, fun j hj hp => ((hgd i hi).2 j hj).2 hp⟩, fun h3 => by first | rfl | (exfalso; have : 3 ≤ st := h3; omega)⟩, (hq.keepXc xe hrx).low (by omega)⟩, box_put hbx (by omega) oe ne, keepX_put hkx (by omega) oe ne⟩
      · show 0 < ls.length; omega
      · show ls.length ≤ 12; omega
  · repeat' first
      | refine CO.cons rfl ?_
      | refine CO.nil ?_
      | refine CV.seq ?_
      | refine CV.region callees ?_
      | refine CV.cond ?_
      | refine CV.block ?_
      | refine CV.skip ?_
      | refine CV.exit ?_
      | refine CV.ret ?_
      | refine CV.scope ?_
      | refine CV.draw callees rfl ?_
      | refine CH.cons rfl ?_
      | refine CH.nil ?_
      | refine CO.consG rfl ?_
      | refine CH.consG rfl ?_
      | refine CG.cons rfl ?_
      | refine CR.cons ?_
      | refine CR.nil ?_
      | refine CG.nil ?_
      | refine CG.consG rfl ?_
      | refine ⟨(rfl : plain _ = true), ?_⟩
      | refine ⟨(rfl : nilOk _ = some _), ?_⟩
      | refine ⟨_, ints_len (by assumption), ?_⟩
      | refine ⟨_, ints_addr (by assumption) (by omega) (by omega), ?_⟩
      | refine ⟨_, ints_load (by assumption) (by omega) (by omega), ?_⟩
      | refine ⟨(⟨by omega, by omega⟩ : inI64 _), ?_⟩
      | refine ⟨_, fun tm ha => step1_max rfl (ev_tmp ha rfl) (ev_tmp ha rfl), ?_⟩
      | refine ⟨_, fun tm ha => step1_min rfl (ev_tmp ha rfl) (ev_tmp ha rfl), ?_⟩
      | (refine ⟨_, addrT (by decide), ?_⟩)
      | (refine ⟨VI pk, cell_load ag3 hg8 rfl, ?_⟩)
      | (refine ⟨VI st, cell_load ag3 hg8 rfl, ?_⟩)
      | (refine ⟨fun _ => ?_, fun _ => ?_⟩ <;> first | (exfalso; omega) | skip)
      | fail
    refine (any_spec hB (by omega) hb8 (by omega) (by omega) (by omega)).mono ?_
    rintro r H9 ⟨⟨g, rfl, g0, g1⟩, hb9, x9⟩
    have l9 := x9.1
    have xx9 := (xh8).trans x9
    have hg9 : H9.get bt = some (Tc ⟨pk, ps, st, []⟩ (.slice none 0 0)) := by rw [x9.2 bt (by omega) (by omega)]; exact hg8
    have hr9 : H9.get H.n = some (Tc T0 (.slice none 0 0)) := by rw [x9.2 H.n (by omega) (by omega)]; exact hr8
    repeat' first
      | refine CO.cons rfl ?_
      | refine CO.nil ?_
      | refine CV.seq ?_
      | refine CV.region callees ?_
      | refine CV.cond ?_
      | refine CV.block ?_
      | refine CV.skip ?_
      | refine CV.exit ?_
      | refine CV.ret ?_
      | refine CV.scope ?_
      | refine CV.draw callees rfl ?_
      | refine CH.cons rfl ?_
      | refine CH.nil ?_
      | refine CO.consG rfl ?_
      | refine CH.consG rfl ?_
      | refine CG.cons rfl ?_
      | refine CR.cons ?_
      | refine CR.nil ?_
      | refine CG.nil ?_
      | refine CG.consG rfl ?_
      | refine ⟨(rfl : plain _ = true), ?_⟩
      | refine ⟨(rfl : nilOk _ = some _), ?_⟩
      | refine ⟨_, ints_len (by assumption), ?_⟩
      | refine ⟨_, ints_addr (by assumption) (by omega) (by omega), ?_⟩
      | refine ⟨_, ints_load (by assumption) (by omega) (by omega), ?_⟩
      | refine ⟨(⟨by omega, by omega⟩ : inI64 _), ?_⟩
      | refine ⟨_, fun tm ha => step1_max rfl (ev_tmp ha rfl) (ev_tmp ha rfl), ?_⟩
      | refine ⟨_, fun tm ha => step1_min rfl (ev_tmp ha rfl) (ev_tmp ha rfl), ?_⟩
      | (refine ⟨fun _ => ?_, fun _ => ?_⟩ <;> first | (exfalso; omega) | skip)
      | fail
    refine CV.loopc ?_
    refine WCv.rounds callees false (α := Int × Value × List Value × List (List Int)) (fun (i, q, vals, ls) => [(0, bp b), (6, .pointer (some ⟨H.n, 0, none⟩)), (7, .pointer (some ⟨bt, 0, none⟩)), (8, .int .i64 i)]) (fun (i, q, vals, ls) Hz => (0 ≤ i ∧ (ls.length : Int) + i = g) ∧ OwnG Hz q vals ls H9.n ∧ Box b Hz ∧ KeepX b H Hz ∧ Hz.get bt = some (Tc ⟨pk, ps, st, []⟩ q) ∧ Hz.get H.n = some (Tc T0 (.slice none 0 0)) ∧ H9.n ≤ Hz.n ∧ (∀ i : Nat, i < ls.length → (ls[i]!.length : Int) = pk ∧ goodR pk (ps) ls[i]!)) (fun (i, q, vals, ls) => i.toNat) (g, .slice none 0 0, [], []) (by repeat' first | exact trivial | refine ⟨rfl, ?_⟩ | refine ⟨slot_int (by (try simp only [Int.toNat_natCast]); omega), ?_⟩) ?_ ?_
    · exact ⟨⟨by omega, by simp⟩, OwnG.nil, hb9, xx9, hg9, hr9, Nat.le_refl _, fun i hi => by simp at hi⟩
    rintro ⟨i, q, vals, ls⟩ Hx ⟨⟨hi0, hig⟩, hq, hbx, hkx, hgx, hrx, hlx, hgd⟩ hBx
    have hbxn := hbx.1
    by_cases hi : 0 < i
    · repeat' first
        | refine CO.cons rfl ?_
        | refine CO.nil ?_
        | refine CV.seq ?_
        | refine CV.region callees ?_
        | refine CV.cond ?_
        | refine CV.block ?_
        | refine CV.skip ?_
        | refine CV.exit ?_
        | refine CV.ret ?_
        | refine CV.scope ?_
        | refine CV.draw callees rfl ?_
        | refine CH.cons rfl ?_
        | refine CH.nil ?_
        | refine CO.consG rfl ?_
        | refine CH.consG rfl ?_
        | refine CG.cons rfl ?_
        | refine CR.cons ?_
        | refine CR.nil ?_
        | refine CG.nil ?_
        | refine CG.consG rfl ?_
        | refine ⟨(rfl : plain _ = true), ?_⟩
        | refine ⟨(rfl : nilOk _ = some _), ?_⟩
        | refine ⟨_, ints_len (by assumption), ?_⟩
        | refine ⟨_, ints_addr (by assumption) (by omega) (by omega), ?_⟩
        | refine ⟨_, ints_load (by assumption) (by omega) (by omega), ?_⟩
        | refine ⟨(⟨by omega, by omega⟩ : inI64 _), ?_⟩
        | refine ⟨_, fun tm ha => step1_max rfl (ev_tmp ha rfl) (ev_tmp ha rfl), ?_⟩
        | refine ⟨_, fun tm ha => step1_min rfl (ev_tmp ha rfl) (ev_tmp ha rfl), ?_⟩
        | (refine ⟨fun _ => ?_, fun _ => ?_⟩ <;> first | (exfalso; omega) | skip)
        | fail
      refine CV.loopc ?_
      refine WCv.rounds callees false (α := Value × List Int) (fun (l, xs) => [(0, bp b), (6, .pointer (some ⟨H.n, 0, none⟩)), (7, .pointer (some ⟨bt, 0, none⟩)), (8, .int .i64 i), (9, l), (10, .int .i64 xs.length)]) (fun (l, xs) Hz => (xs.length : Int) ≤ pk ∧ Own 3 Hz l (xs.map VI) Hx.n ∧ Box b Hz ∧ KeepX b Hx Hz ∧ goodR pk (ps) xs) (fun (l, xs) => pk.toNat - xs.length) (.slice none 0 0, []) (by repeat' first | exact trivial | refine ⟨rfl, ?_⟩ | refine ⟨slot_int (by (try simp only [Int.toNat_natCast]); omega), ?_⟩) ?_ ?_
      · exact ⟨by simp; omega, .inl ⟨rfl, rfl⟩, hbx, KeepX.refl _ _, fun j hj => by simp at hj⟩
      rintro ⟨l, xs⟩ Hy ⟨hxl, hl, hby, hky, hgx2⟩ hBy
      have lky := hky.1
      have hgy : Hy.get bt = some (Tc ⟨pk, ps, st, []⟩ q) := by rw [hky.2 bt (by omega) (by omega)]; exact hgx
      have hry : Hy.get H.n = some (Tc T0 (.slice none 0 0)) := by rw [hky.2 H.n (by omega) (by omega)]; exact hrx
      by_cases hx2 : (xs.length : Int) < pk
      · by_cases hps : (xs.length : Int) < ps
        · repeat' first
            | refine CO.cons rfl ?_
            | refine CO.nil ?_
            | refine CV.seq ?_
            | refine CV.region callees ?_
            | refine CV.cond ?_
            | refine CV.block ?_
            | refine CV.skip ?_
            | refine CV.exit ?_
            | refine CV.ret ?_
            | refine CV.scope ?_
            | refine CV.draw callees rfl ?_
            | refine CH.cons rfl ?_
            | refine CH.nil ?_
            | refine CO.consG rfl ?_
            | refine CH.consG rfl ?_
            | refine CG.cons rfl ?_
            | refine CR.cons ?_
            | refine CR.nil ?_
            | refine CG.nil ?_
            | refine CG.consG rfl ?_
            | refine ⟨(rfl : plain _ = true), ?_⟩
            | refine ⟨(rfl : nilOk _ = some _), ?_⟩
            | refine ⟨_, ints_len (by assumption), ?_⟩
            | refine ⟨_, ints_addr (by assumption) (by omega) (by omega), ?_⟩
            | refine ⟨_, ints_load (by assumption) (by omega) (by omega), ?_⟩
            | refine ⟨(⟨by omega, by omega⟩ : inI64 _), ?_⟩
            | refine ⟨_, fun tm ha => step1_max rfl (ev_tmp ha rfl) (ev_tmp ha rfl), ?_⟩
            | refine ⟨_, fun tm ha => step1_min rfl (ev_tmp ha rfl) (ev_tmp ha rfl), ?_⟩
            | (refine ⟨_, addrT (by decide), ?_⟩)
            | (refine ⟨VI pk, cell_load ag3 hgy rfl, ?_⟩)
            | (refine ⟨VI (ps), cell_load ag3 hgy rfl, ?_⟩)
            | (refine ⟨fun _ => ?_, fun _ => ?_⟩ <;> first | (exfalso; omega) | skip)
            | fail
          refine (any_spec hB hBy hby (by omega) (by omega) (by omega)).mono ?_
          rintro r Hc ⟨⟨y, rfl, y0, y1⟩, hbc, xc⟩
          have lc := xc.1
          have hlc := own_box hl xc hby
          have hy : okN y = true := by simp only [okN, Bool.and_eq_true, decide_eq_true_eq]; omega
          repeat' first
            | refine CO.cons rfl ?_
            | refine CO.nil ?_
            | refine CV.seq ?_
            | refine CV.region callees ?_
            | refine CV.cond ?_
            | refine CV.block ?_
            | refine CV.skip ?_
            | refine CV.exit ?_
            | refine CV.ret ?_
            | refine CV.scope ?_
            | refine CV.draw callees rfl ?_
            | refine CH.cons rfl ?_
            | refine CH.nil ?_
            | refine CO.consG rfl ?_
            | refine CH.consG rfl ?_
            | refine CG.cons rfl ?_
            | refine CR.cons ?_
            | refine CR.nil ?_
            | refine CG.nil ?_
            | refine CG.consG rfl ?_
            | refine ⟨(rfl : plain _ = true), ?_⟩
            | refine ⟨(rfl : nilOk _ = some _), ?_⟩
            | refine ⟨_, ints_len (by assumption), ?_⟩
            | refine ⟨_, ints_addr (by assumption) (by omega) (by omega), ?_⟩
            | refine ⟨_, ints_load (by assumption) (by omega) (by omega), ?_⟩
            | refine ⟨(⟨by omega, by omega⟩ : inI64 _), ?_⟩
            | refine ⟨_, fun tm ha => step1_max rfl (ev_tmp ha rfl) (ev_tmp ha rfl), ?_⟩
            | refine ⟨_, fun tm ha => step1_min rfl (ev_tmp ha rfl) (ev_tmp ha rfl), ?_⟩
            | refine ⟨_, _, build_one un22 one3 rfl, ?_⟩
            | (refine ⟨fun _ => ?_, fun _ => ?_⟩ <;> first | (exfalso; omega) | skip)
            | fail
          refine push_ask (y := y) hlc (by omega) (by omega) (by omega) ?_
          intro lN HN hlN kbN hfN
          have lz : (xs ++ [y]).length = xs.length + 1 := by simp
          repeat' first
            | refine CO.cons rfl ?_
            | refine CO.nil ?_
            | refine CV.seq ?_
            | refine CV.region callees ?_
            | refine CV.cond ?_
            | refine CV.block ?_
            | refine CV.skip ?_
            | refine CV.exit ?_
            | refine CV.ret ?_
            | refine CV.scope ?_
            | refine CV.draw callees rfl ?_
            | refine CH.cons rfl ?_
            | refine CH.nil ?_
            | refine CO.consG rfl ?_
            | refine CH.consG rfl ?_
            | refine CG.cons rfl ?_
            | refine CR.cons ?_
            | refine CR.nil ?_
            | refine CG.nil ?_
            | refine CG.consG rfl ?_
            | refine ⟨(rfl : plain _ = true), ?_⟩
            | refine ⟨(rfl : nilOk _ = some _), ?_⟩
            | refine ⟨_, ints_len (by assumption), ?_⟩
            | refine ⟨_, ints_addr (by assumption) (by omega) (by omega), ?_⟩
            | refine ⟨_, ints_load (by assumption) (by omega) (by omega), ?_⟩
            | refine ⟨(⟨by omega, by omega⟩ : inI64 _), ?_⟩
            | refine ⟨_, fun tm ha => step1_max rfl (ev_tmp ha rfl) (ev_tmp ha rfl), ?_⟩
            | refine ⟨_, fun tm ha => step1_min rfl (ev_tmp ha rfl) (ev_tmp ha rfl), ?_⟩
            | (refine ⟨fun _ => ?_, fun _ => ?_⟩ <;> first | (exfalso; omega) | skip)
            | fail
          refine ⟨(lN, xs ++ [y]), (by repeat' first | exact trivial | refine ⟨rfl, ?_⟩ | refine ⟨slot_int (by (try simp only [Int.toNat_natCast]); omega), ?_⟩), (by (try dsimp only); omega), ?_⟩
          exact ⟨by omega, hlN, hbc.keepBut kbN (own_apartBox (H0 := H) hlc (by omega)), kbN.keepX (hky.trans xc) (fun c hc => (hlc.lt hc).1), hgx2.push hy (fun h => by omega)⟩
        · repeat' first
            | refine CO.cons rfl ?_
            | refine CO.nil ?_
            | refine CV.seq ?_
            | refine CV.region callees ?_
            | refine CV.cond ?_
            | refine CV.block ?_
            | refine CV.skip ?_
            | refine CV.exit ?_
            | refine CV.ret ?_
            | refine CV.scope ?_
            | refine CV.draw callees rfl ?_
            | refine CH.cons rfl ?_
            | refine CH.nil ?_
            | refine CO.consG rfl ?_
            | refine CH.consG rfl ?_
            | refine CG.cons rfl ?_
            | refine CR.cons ?_
            | refine CR.nil ?_
            | refine CG.nil ?_
            | refine CG.consG rfl ?_
            | refine ⟨(rfl : plain _ = true), ?_⟩
            | refine ⟨(rfl : nilOk _ = some _), ?_⟩
            | refine ⟨_, ints_len (by assumption), ?_⟩
            | refine ⟨_, ints_addr (by assumption) (by omega) (by omega), ?_⟩
            | refine ⟨_, ints_load (by assumption) (by omega) (by omega), ?_⟩
            | refine ⟨(⟨by omega, by omega⟩ : inI64 _), ?_⟩
            | refine ⟨_, fun tm ha => step1_max rfl (ev_tmp ha rfl) (ev_tmp ha rfl), ?_⟩
            | refine ⟨_, fun tm ha => step1_min rfl (ev_tmp ha rfl) (ev_tmp ha rfl), ?_⟩
            | (refine ⟨_, addrT (by decide), ?_⟩)
            | (refine ⟨VI pk, cell_load ag3 hgy rfl, ?_⟩)
            | (refine ⟨VI (ps), cell_load ag3 hgy rfl, ?_⟩)
            | refine ⟨_, _, build_one un22 one3 rfl, ?_⟩
            | (refine ⟨fun _ => ?_, fun _ => ?_⟩ <;> first | (exfalso; omega) | skip)
            | fail
          all_goals
            refine push_ask (y := -1) hl (by omega) (by omega) (by omega) ?_
            intro lN HN hlN kbN hfN
            have lz : (xs ++ [(-1 : Int)]).length = xs.length + 1 := by simp
            repeat' first
              | refine CO.cons rfl ?_
              | refine CO.nil ?_
              | refine CV.seq ?_
              | refine CV.region callees ?_
              | refine CV.cond ?_
              | refine CV.block ?_
              | refine CV.skip ?_
              | refine CV.exit ?_
              | refine CV.ret ?_
              | refine CV.scope ?_
              | refine CV.draw callees rfl ?_
              | refine CH.cons rfl ?_
              | refine CH.nil ?_
              | refine CO.consG rfl ?_
              | refine CH.consG rfl ?_
              | refine CG.cons rfl ?_
              | refine CR.cons ?_
              | refine CR.nil ?_
              | refine CG.nil ?_
              | refine CG.consG rfl ?_
              | refine ⟨(rfl : plain _ = true), ?_⟩
              | refine ⟨(rfl : nilOk _ = some _), ?_⟩
              | refine ⟨_, ints_len (by assumption), ?_⟩
              | refine ⟨_, ints_addr (by assumption) (by omega) (by omega), ?_⟩
              | refine ⟨_, ints_load (by assumption) (by omega) (by omega), ?_⟩
              | refine ⟨(⟨by omega, by omega⟩ : inI64 _), ?_⟩
              | refine ⟨_, fun tm ha => step1_max rfl (ev_tmp ha rfl) (ev_tmp ha rfl), ?_⟩
              | refine ⟨_, fun tm ha => step1_min rfl (ev_tmp ha rfl) (ev_tmp ha rfl), ?_⟩
              | (refine ⟨fun _ => ?_, fun _ => ?_⟩ <;> first | (exfalso; omega) | skip)
              | fail
            refine ⟨(lN, xs ++ [-1]), (by repeat' first | exact trivial | refine ⟨rfl, ?_⟩ | refine ⟨slot_int (by (try simp only [Int.toNat_natCast]); omega), ?_⟩), (by (try dsimp only); omega), ?_⟩
            exact ⟨by omega, hlN, hby.keepBut kbN (own_apartBox (H0 := H) hl (by omega)), kbN.keepX hky (fun c hc => (hl.lt hc).1), hgx2.push (by decide) (fun h => rfl)⟩
      · have hqy := hq.box hky hbx
        repeat' first
          | refine CO.cons rfl ?_
          | refine CO.nil ?_
          | refine CV.seq ?_
          | refine CV.region callees ?_
          | refine CV.cond ?_
          | refine CV.block ?_
          | refine CV.skip ?_
          | refine CV.exit ?_
          | refine CV.ret ?_
          | refine CV.scope ?_
          | refine CV.draw callees rfl ?_
          | refine CH.cons rfl ?_
          | refine CH.nil ?_
          | refine CO.consG rfl ?_
          | refine CH.consG rfl ?_
          | refine CG.cons rfl ?_
          | refine CR.cons ?_
          | refine CR.nil ?_
          | refine CG.nil ?_
          | refine CG.consG rfl ?_
          | refine ⟨(rfl : plain _ = true), ?_⟩
          | refine ⟨(rfl : nilOk _ = some _), ?_⟩
          | refine ⟨_, ints_len (by assumption), ?_⟩
          | refine ⟨_, ints_addr (by assumption) (by omega) (by omega), ?_⟩
          | refine ⟨_, ints_load (by assumption) (by omega) (by omega), ?_⟩
          | refine ⟨(⟨by omega, by omega⟩ : inI64 _), ?_⟩
          | refine ⟨_, fun tm ha => step1_max rfl (ev_tmp ha rfl) (ev_tmp ha rfl), ?_⟩
          | refine ⟨_, fun tm ha => step1_min rfl (ev_tmp ha rfl) (ev_tmp ha rfl), ?_⟩
          | (refine ⟨_, addrT (by decide), ?_⟩)
          | (refine ⟨VI pk, cell_load ag3 hgy rfl, ?_⟩)
          | (refine ⟨VI (ps), cell_load ag3 hgy rfl, ?_⟩)
          | (refine ⟨_, cell_load ag32 hgy rfl, ?_⟩)
          | refine ⟨_, _, build_one un32 one22 hl.row.oneC.1, ?_⟩
          | (refine ⟨fun _ => ?_, fun _ => ?_⟩ <;> first | (exfalso; omega) | skip)
          | fail
        refine gpush_ask (xs := xs) hqy (by omega) (by omega) (hl.low (by omega)) (fun d hd hd2 => by have h1 := (hl.lt hd).1; have h2 := (hq.own.lt hd2).2; omega) (by omega) ?_
        intro q2 Hd hqd kbd hfd
        have ld := kbd.le
        have hgd2 : Hd.get bt = some (Tc ⟨pk, ps, st, []⟩ q) := by rw [kbd.get bt (by omega) (fun h => by have := (hq.own.lt h).1; omega)]; exact hgy
        repeat' first
          | refine CO.cons rfl ?_
          | refine CO.nil ?_
          | refine CV.seq ?_
          | refine CV.region callees ?_
          | refine CV.cond ?_
          | refine CV.block ?_
          | refine CV.skip ?_
          | refine CV.exit ?_
          | refine CV.ret ?_
          | refine CV.scope ?_
          | refine CV.draw callees rfl ?_
          | refine CH.cons rfl ?_
          | refine CH.nil ?_
          | refine CO.consG rfl ?_
          | refine CH.consG rfl ?_
          | refine CG.cons rfl ?_
          | refine CR.cons ?_
          | refine CR.nil ?_
          | refine CG.nil ?_
          | refine CG.consG rfl ?_
          | refine ⟨(rfl : plain _ = true), ?_⟩
          | refine ⟨(rfl : nilOk _ = some _), ?_⟩
          | refine ⟨_, ints_len (by assumption), ?_⟩
          | refine ⟨_, ints_addr (by assumption) (by omega) (by omega), ?_⟩
          | refine ⟨_, ints_load (by assumption) (by omega) (by omega), ?_⟩
          | refine ⟨(⟨by omega, by omega⟩ : inI64 _), ?_⟩
          | refine ⟨_, fun tm ha => step1_max rfl (ev_tmp ha rfl) (ev_tmp ha rfl), ?_⟩
          | refine ⟨_, fun tm ha => step1_min rfl (ev_tmp ha rfl) (ev_tmp ha rfl), ?_⟩
          | (refine ⟨_, addrT (by decide), ?_⟩)
          | (refine ⟨fun _ => ?_, fun _ => ?_⟩ <;> first | (exfalso; omega) | skip)
          | fail
        refine ⟨_, _, cell_store sz32 hgd2 (Nat.le_of_ble_eq_true rfl) hqd.own.row.oneC.1, by omega, ?_⟩
        generalize hse : Hd.set bt _ = He
        have hge : He.get bt = some (Tc ⟨pk, ps, st, []⟩ q2) := set_get hse
        have ne := set_n hse
        have oe := set_old hse
        have xe : KeepX bt Hd He := by rw [← hse]; exact KeepX.set _ _
        have lz : (ls ++ [xs]).length = ls.length + 1 := by simp
        repeat' first
          | refine CO.cons rfl ?_
          | refine CO.nil ?_
          | refine CV.seq ?_
          | refine CV.region callees ?_
          | refine CV.cond ?_
          | refine CV.block ?_
          | refine CV.skip ?_
          | refine CV.exit ?_
          | refine CV.ret ?_
          | refine CV.scope ?_
          | refine CV.draw callees rfl ?_
          | refine CH.cons rfl ?_
          | refine CH.nil ?_
          | refine CO.consG rfl ?_
          | refine CH.consG rfl ?_
          | refine CG.cons rfl ?_
          | refine CR.cons ?_
          | refine CR.nil ?_
          | refine CG.nil ?_
          | refine CG.consG rfl ?_
          | refine ⟨(rfl : plain _ = true), ?_⟩
          | refine ⟨(rfl : nilOk _ = some _), ?_⟩
          | refine ⟨_, ints_len (by assumption), ?_⟩
          | refine ⟨_, ints_addr (by assumption) (by omega) (by omega), ?_⟩
          | refine ⟨_, ints_load (by assumption) (by omega) (by omega), ?_⟩
          | refine ⟨(⟨by omega, by omega⟩ : inI64 _), ?_⟩
          | refine ⟨_, fun tm ha => step1_max rfl (ev_tmp ha rfl) (ev_tmp ha rfl), ?_⟩
          | refine ⟨_, fun tm ha => step1_min rfl (ev_tmp ha rfl) (ev_tmp ha rfl), ?_⟩
          | (refine ⟨fun _ => ?_, fun _ => ?_⟩ <;> first | (exfalso; omega) | skip)
          | fail
        refine ⟨(i - 1, q2, vals ++ [l], ls ++ [xs]), (by repeat' first | exact trivial | refine ⟨rfl, ?_⟩ | refine ⟨slot_int (by (try simp only [Int.toNat_natCast]); omega), ?_⟩), (by (try dsimp only); omega), ?_⟩
        have hbd : Box b Hd := hby.keepBut kbd (own_apartBox (H0 := H) hqy.own (by omega))
        refine ⟨by omega, hqd.keepXc xe hgd2, box_put hbd (by omega) oe ne, keepX_put (kbd.keepX (hkx.trans hky) (fun c hc => by have := (hq.own.lt hc).1; omega)) (by omega) oe ne, hge, ?_, by omega, rows_push hgd ⟨by omega, hgx2⟩⟩
        rw [oe H.n (by omega), kbd.get H.n (by omega) (fun h => by have := (hq.own.lt h).1; omega)]; exact hry
    · have hi00 : i = 0 := by omega
      subst hi00
      have hoq := hq.own.row.oneC.1
      repeat' first
        | refine CO.cons rfl ?_
        | refine CO.nil ?_
        | refine CV.seq ?_
        | refine CV.region callees ?_
        | refine CV.cond ?_
        | refine CV.block ?_
        | refine CV.skip ?_
        | refine CV.exit ?_
        | refine CV.ret ?_
        | refine CV.scope ?_
        | refine CV.draw callees rfl ?_
        | refine CH.cons rfl ?_
        | refine CH.nil ?_
        | refine CO.consG rfl ?_
        | refine CH.consG rfl ?_
        | refine CG.cons rfl ?_
        | refine CR.cons ?_
        | refine CR.nil ?_
        | refine CG.nil ?_
        | refine CG.consG rfl ?_
        | refine ⟨(rfl : plain _ = true), ?_⟩
        | refine ⟨(rfl : nilOk _ = some _), ?_⟩
        | refine ⟨_, ints_len (by assumption), ?_⟩
        | refine ⟨_, ints_addr (by assumption) (by omega) (by omega), ?_⟩
        | refine ⟨_, ints_load (by assumption) (by omega) (by omega), ?_⟩
        | refine ⟨(⟨by omega, by omega⟩ : inI64 _), ?_⟩
        | refine ⟨_, fun tm ha => step1_max rfl (ev_tmp ha rfl) (ev_tmp ha rfl), ?_⟩
        | refine ⟨_, fun tm ha => step1_min rfl (ev_tmp ha rfl) (ev_tmp ha rfl), ?_⟩
        | (refine ⟨_, loadT hgx, ?_⟩)
        | (refine ⟨fun _ => ?_, fun _ => ?_⟩ <;> first | (exfalso; omega) | skip)
        | fail
      refine ⟨_, _, storeT hoq hrx, by omega, ?_⟩
      generalize hse : Hx.set H.n _ = He
      have hge := set_get hse
      have ne := set_n hse
      have oe := set_old hse
      have xe : KeepX H.n Hx He := by rw [← hse]; exact KeepX.set _ _
      repeat' first
        | refine CO.cons rfl ?_
        | refine CO.nil ?_
        | refine CV.seq ?_
        | refine CV.region callees ?_
        | refine CV.cond ?_
        | refine CV.block ?_
        | refine CV.skip ?_
        | refine CV.exit ?_
        | refine CV.ret ?_
        | refine CV.scope ?_
        | refine CV.draw callees rfl ?_
        | refine CH.cons rfl ?_
        | refine CH.nil ?_
        | refine CO.consG rfl ?_
        | refine CH.consG rfl ?_
        | refine CG.cons rfl ?_
        | refine CR.cons ?_
        | refine CR.nil ?_
        | refine CG.nil ?_
        | refine CG.consG rfl ?_
        | refine ⟨(rfl : plain _ = true), ?_⟩
        | refine ⟨(rfl : nilOk _ = some _), ?_⟩
        | refine ⟨_, ints_len (by assumption), ?_⟩
        | refine ⟨_, ints_addr (by assumption) (by omega) (by omega), ?_⟩
        | refine ⟨_, ints_load (by assumption) (by omega) (by omega), ?_⟩
        | refine ⟨(⟨by omega, by omega⟩ : inI64 _), ?_⟩
        | refine ⟨_, fun tm ha => step1_max rfl (ev_tmp ha rfl) (ev_tmp ha rfl), ?_⟩
        | refine ⟨_, fun tm ha => step1_min rfl (ev_tmp ha rfl) (ev_tmp ha rfl), ?_⟩
        | (refine ⟨fun _ => ?_, fun _ => ?_⟩ <;> first | (exfalso; omega) | skip)
        | fail
      refine ⟨_, loadT hge, by simp only [List.all_cons, List.all_nil, notTuple]; rfl, ⟨⟨pk, ps, st, ls⟩, q, vals, rfl, ⟨by show 1 ≤ pk; omega, by show pk ≤ 9; omega, by show 0 ≤ ps; omega, by show ps ≤ pk; omega, by show 1 ≤ st; omega, by show st ≤ 4; omega, ?_, ?_, fun i hi => ⟨(hgd i hi).1, fun j hj => ((hgd i hi).2 j hj).1, fun j hj hp => ((hgd i hi).2 j hj).2 hp⟩, fun h3 => by first | rfl | (exfalso; have : 3 ≤ st := h3; omega)⟩, (hq.keepXc xe hrx).low (by omega)⟩, box_put hbx (by omega) oe ne, keepX_put hkx (by omega) oe ne⟩
      · show 0 < ls.length; omega
      · show ls.length ≤ 12; omega
end Go.Proofs.Ytcpklnekpdhlmaa
