
/- StorePlans. -/
import Derived.Test.Ytijimplcjaeneaacbo
import Derived.Test.Ytijimplcjaeneaap5o
set_option linter.unusedVariables false
set_option linter.unusedSimpArgs false
namespace Go.Proofs.Ytijimplcjaeneaa
open Go.AI
theorem plaXs_len {st : List Int} {gs : List (List Int)} (h : gs.length < 1000000) : (plaXs st gs).length < 1000000 := by
  unfold plaXs
  split
  · have := (planA_ok (gs := gs) (K := (combos st).toNat)).n
    omega
  · simp
theorem fewXs_len {st : List Int} {gs : List (List Int)} (h : gs.length < 1000000) : (fewXs st gs).1.length < 1000000 := by
  unfold fewXs
  split
  · rename_i he
    obtain ⟨hok, _, _⟩ := seaE_ok he
    have hc := hok.all
    have := (planB_ok (gs := gs) (K := (combos st).toNat) (gsOk_of he) (by omega)).n
    omega
  · simp
theorem gri_box {H H' : Heap} {v : Value} {vs : List Value} {gs : List (List Int)} {b : Nat} (h : Gri H v vs gs) (k : KeepX b H H') (hb : Box b H) : Gri H' v vs gs := ⟨row_box h.row k hb, h.len, fun i hi => row_box (h.ints i hi) k hb⟩
theorem unSs : Try.prog.underlying 72 = some (.slice 68) := by kernel_rfl
theorem bu2S {H : Heap} {x1 y1 x2 y2 : Option Addr} {n1 m1 n2 m2 c1 d1 c2 d2 : Nat} : abuildSlice Try.prog H 72 2 [(0, Sev (.slice x1 n1 c1) (.slice y1 m1 d1)), (1, Sev (.slice x2 n2 c2) (.slice y2 m2 d2))] =
    some (.slice (some ⟨H.n, 0, none⟩) 2 0, H.new (.cells [.slice x1 n1 c1, .slice y1 m1 d1, .slice x2 n2 c2, .slice y2 m2 d2] 68 2), H.n) := by kernel_rfl
set_option maxHeartbeats 32000000 in
set_option maxRecDepth 100000 in
theorem plans_spec {s0 g0 v : Value} {H : Heap} {vs0 : List Value} {st0 nums : List Int} {gs0 : List (List Int)} (hs : Ints H s0 st0) (hg : Gri H g0 vs0 gs0) (hv : Ints H v nums)
    (hsn : st0.length ≤ 9223372036854775807) (hgn : gs0.length ≤ 9223372036854775807) (hgl : ∀ i, i < gs0.length → gs0[i]!.length ≤ 9223372036854775807) (hx : nums.length ≤ 9223372036854775807) :
    CallB Try.prog H.n 7 [Sev s0 g0, v] H (fun r _ => r = .bool true) := by
  have hn : H.n ≤ H.n := Nat.le_refl _
  refine CV.enter callees false rfl Try.func7 rfl (by kernel_rfl) (Nat.le_of_ble_eq_true rfl) hn ?_
  repeat' first
    | refine CO.cons rfl ?_
    | refine CV.seq ?_
    | refine CV.region callees ?_
    | fail
  refine ⟨(by simp only [notTuple]), ?_⟩
  rw [boxSe]
  generalize hs0 : Heap.new H _ = H0
  have hg0 := new_get hs0
  have k0 := new_keep hs0
  have n0 := new_n hs0
  obtain ⟨b0, hbn0⟩ : ∃ b, Heap.n H = b := ⟨_, rfl⟩
  rw [hbn0] at hg0 n0 ⊢
  have hs0 : Ints H0 s0 st0 := hs.keep k0
  have hg0x := hg.keep k0
  repeat' first
    | refine CO.cons rfl ?_
    | refine CO.nil ?_
    | refine CV.seq ?_
    | refine CV.region callees ?_
    | (refine ⟨_, ldSe hg0, ?_⟩)
    | fail
  refine (vast_spec (by omega) hs0 hg0x hgn hgl).mono ?_
  rintro r H1 ⟨rfl | ⟨rfl, hst20, hgs20, hgl20⟩, k1⟩
  · have l1 := k1.1
    repeat' first
      | refine CO.cons rfl ?_
      | refine CO.nil ?_
      | refine CV.seq ?_
      | refine CV.region callees ?_
      | refine CV.cond ?_
      | fail
    refine (awake_spec (by omega)).mono ?_
    rintro r I5 ⟨rfl, j5⟩
    repeat' first
      | refine CO.cons rfl ?_
      | refine CO.nil ?_
      | refine CV.ret ?_
      | fail
    exact ⟨rfl, rfl⟩
  have l1 := k1.1
  have hv1 : Ints H1 v nums := (hv.keep k0).keep k1
  have hS01 := (k1.2 b0 (by omega)).trans hg0
  repeat' first
    | refine CO.nil ?_
    | refine CV.seq ?_
    | refine CV.cond ?_
    | refine CV.skip ?_
    | refine CR.cons (es := []) ?_
    | refine CV.wideR callees (by decide +kernel) [(0, []), (1, []), (2, [0]), (3, [0]), (4, []), (5, [])] (by kernel_rfl) ?_
    | (refine ⟨_, ldSe hS01, ?_⟩)
    | fail
  refine CR.call ?_
  refine (boxOf_spec (Nat.le_refl _) hv1 hx).mono ?_
  rintro r H2 ⟨⟨b, rfl, hb, hbox⟩, k2⟩
  have l2 := k2.1
  have hbn := hbox.1
  have hS02 := (k2.2 b0 (by omega)).trans hS01
  repeat' first
    | fail
  refine CR.callL b (by omega) ?_
  refine (seasonOf_spec (most := 7) (Nat.le_refl _) (by omega) hbox (by omega)).mono ?_
  rintro r H3 ⟨⟨s, g, gv, st, gs, rfl, hse, hgl7, hst3, hstn⟩, hb3, x3⟩
  have l3 := x3.1
  have hS03 := (x3.2 b0 (by omega) (by omega)).trans hS02
  have hok := hse.so
  have hs3 : Ints H3 s st := hse.s.row
  have hg3 : Gri H3 g gv gs := hse.gri
  have hglo : ∀ i, i < gs.length → gs[i]!.length ≤ 20 := fun i hi => by have := (hse.go i hi).m; omega
  have hs3r : Ints H3 s0 st0 := row_box ((hs0.keep k1).keep k2) x3 hbox
  have hg3r : Gri H3 g0 vs0 gs0 := gri_box ((hg0x.keep k1).keep k2) x3 hbox
  repeat' first
    | fail
  refine .inr ⟨by omega, _, ldSe hS02, ?_⟩
  have hbu : abuildSlice Try.prog H3 72 2 [(0, Sev s0 g0), (1, Sev s g)] = some (.slice (some ⟨H3.n, 0, none⟩) 2 0, H3.new (.cells [s0, g0, s, g] 68 2), H3.n) := by
    obtain ⟨xs0, ns0, cs0, rfl⟩ := row_sl hs3r
    obtain ⟨xg0, ng0, cg0, rfl⟩ := row_sl hg3r.row
    obtain ⟨xs1, ns1, cs1, rfl⟩ := row_sl hs3
    obtain ⟨xg1, ng1, cg1, rfl⟩ := row_sl hg3.row
    exact bu2S
  repeat' first
    | refine CO.cons rfl ?_
    | refine CO.nil ?_
    | refine CV.seq ?_
    | refine CV.region callees ?_
    | refine CV.block ?_
    | refine CR.cons (es := []) ?_
    | refine CR.nil ?_
    | (refine ⟨_, _, hbu, ?_⟩)
    | fail
  generalize hsA : Heap.new H3 _ = HC
  have kA := new_keep hsA
  have lA := kA.1
  have hSC : RowS 2 HC (.slice (some ⟨H3.n, 0, none⟩) 2 0) [[s0, g0], [s, g]] := by
    refine ⟨by simp, .inr (.inr ⟨H3.n, 0, 0, _, _, 2, rfl, by have := new_n hsA; omega, new_get hsA, by decide, by simp, ?_⟩)⟩
    intro j qq r w hj hq
    have hj3 := (List.getElem?_eq_some_iff.1 hj).1
    rcases (by simp at hj3; omega : j = 0 ∨ j = 1) with rfl | rfl
    all_goals (simp at hj; subst hj; have hq2 := (List.getElem?_eq_some_iff.1 hq).1; rcases (by simp at hq2; omega : qq = 0 ∨ qq = 1) with rfl | rfl <;> simpa using hq)
  generalize Value.slice (some ⟨H3.n, 0, none⟩) 2 0 = SS at hSC ⊢
  have hok4 := hok.n
  have hall : ∀ i : Nat, i < 2 → ∃ (s' g' : Value) (vs' : List Value) (st' : List Int) (gs' : List (List Int)),
      ([[s0, g0], [s, g]] : List (List Value))[i]? = some [s', g'] ∧ Ints HC s' st' ∧ Gri HC g' vs' gs' ∧ st'.length ≤ 20 ∧ gs'.length ≤ 20 ∧ (∀ i, i < gs'.length → gs'[i]!.length ≤ 20) := fun i hi => by
    rcases (by omega : i = 0 ∨ i = 1) with rfl | rfl
    · exact ⟨s0, g0, vs0, st0, gs0, rfl, Row.keep hs3r kA, hg3r.keep kA, hst20, hgs20, hgl20⟩
    · exact ⟨s, g, gv, st, gs, rfl, Row.keep hs3 kA, hg3.keep kA, by omega, by omega, hglo⟩
  repeat' first
    | fail
  refine CV.loopc ?_
  refine WCv.rounds callees false (α := Nat) (fun i => [(5, SS), (6, VI i)]) (fun i Hz => i ≤ 2 ∧ Keep HC Hz) (fun i => 2 - i) (0) (by repeat' first | exact trivial | refine ⟨rfl, ?_⟩ | refine ⟨slot_int (by (try simp only [Int.toNat_natCast]); omega), ?_⟩) ?_ ?_
  · exact ⟨by omega, Keep.refl _⟩
  rintro i Hx ⟨hi, kx⟩ hBx
  have lx := kx.1
  have hSx := hSC.keep kx
  have hlenS : alen Try.prog Hx 72 SS = some (.int .i64 2) := hSx.alen unSs
  by_cases hi2 : i < 2
  · obtain ⟨s', g', vs', st', gs', e1, f1, f2, f4, f5, f6⟩ := hall i hi2
    have aS : aindexAddr Try.prog 72 SS (VI i) = some (elemS SS 2 i) := hSx.addr unSs szSe (by omega) (by show (i : Int) < (2 : Nat); omega)
    have lS : ∀ X, Keep HC X → aload Try.prog 68 X (elemS SS 2 i) = some (Sev s' g') := fun X k => (hSC.keep k).load agSe szSe e1
    have f6' : ∀ i, i < gs'.length → gs'[i]!.length < 1000000 := fun i hi => by have := f6 i hi; omega
    have f6m : ∀ y ∈ gs', y.length < 1000000 := fun y hy => by
      obtain ⟨j, hj, rfl⟩ := List.getElem_of_mem hy
      have := f6' j hj
      rwa [getElem!_pos gs' j hj] at this
    repeat' first
      | refine CO.cons rfl ?_
      | refine CO.nil ?_
      | refine CV.seq ?_
      | refine CV.region callees ?_
      | refine CV.cond ?_
      | refine CV.block ?_
      | refine CV.skip ?_
      | (refine ⟨_, hlenS, ?_⟩)
      | (refine ⟨_, aS, ?_⟩)
      | (refine ⟨_, lS _ kx, ?_⟩)
      | (refine ⟨fun _ => ?_, fun _ => ?_⟩ <;> first | (exfalso; omega) | skip)
      | fail
    refine (ownSeason_spec (by omega) (Row.keep f1 kx) (f2.keep kx) (by omega) (by omega) f6').mono ?_
    rintro r I1 ⟨⟨ms, mg, mw, rfl, ho1, ho2, ho3⟩, i1⟩
    have li1 := i1.1
    repeat' first
      | refine CO.cons rfl ?_
      | (refine ⟨_, _, alSe, ?_⟩)
      | fail
    generalize hsm : Heap.new I1 _ = Hm
    have hgm := new_get hsm
    have km := new_keep hsm
    have nm := new_n hsm
    obtain ⟨bm, hbnm⟩ : ∃ b, Heap.n I1 = b := ⟨_, rfl⟩
    rw [hbnm] at hgm nm ⊢
    have ho1m := ho1.keep km
    have ho2m := ho2.keep km
    repeat' first
      | fail
    refine ⟨_, _, stSe (Row.oneC ho1m.row).1 (Row.oneC ho2m.row).1 hgm, by omega, ?_⟩
    generalize hsw : Heap.set Hm bm _ = Hw
    have hgw : Hw.get bm = some (.cells ([ms, mg]) 68 1) := set_get hsw
    have nw := set_n hsw
    have ow := set_old hsw
    have kmw : Keep I1 Hw := keep_put km (by omega) ow nw
    have kw : Keep HC Hw := (kx.trans i1).trans kmw
    have lw := kw.1
    have g1 : Ints Hw ms st' := (ho1.keep kmw).row
    have g2 : Gri Hw mg mw gs' := ho3.keep kmw
    clear ho1 ho2 ho3 ho1m ho2m hgm
    repeat' first
      | refine CO.cons rfl ?_
      | refine CO.nil ?_
      | refine CV.seq ?_
      | refine CV.region callees ?_
      | (refine ⟨_, ldSe hgw, ?_⟩)
      | fail
    refine (plan_spec (by omega) g1 g2 (by omega) (by omega) f6m).mono ?_
    rintro r J1 ⟨⟨q1, rfl, hq1⟩, j1⟩
    have lj1 := j1.1
    have w1 := kw.trans j1
    repeat' first
      | refine CO.cons rfl ?_
      | refine CO.nil ?_
      | refine CV.seq ?_
      | refine CV.region callees ?_
      | (refine ⟨_, aS, ?_⟩)
      | (refine ⟨_, lS _ w1, ?_⟩)
      | fail
    refine (planR_spec (by omega) (Row.keep f1 w1) (f2.keep w1) (by omega) (by omega) f6m).mono ?_
    rintro r J2 ⟨⟨q2, rfl, hq2⟩, j2⟩
    have lj2 := j2.1
    have w2 := w1.trans j2
    have j12 := j1.trans j2
    have hS2 := (j12.2 bm (by omega)).trans hgw
    repeat' first
      | refine CO.cons rfl ?_
      | refine CO.nil ?_
      | refine CV.seq ?_
      | refine CV.region callees ?_
      | (refine ⟨_, ldSe hS2, ?_⟩)
      | fail
    refine (fewest_spec (by omega) (Row.keep g1 j12) (g2.keep j12) (by omega) (by omega) f6m).mono ?_
    rintro r J3 ⟨⟨q3, rfl, hq3⟩, j3⟩
    have lj3 := j3.1
    have w3 := w2.trans j3
    repeat' first
      | refine CO.cons rfl ?_
      | refine CO.nil ?_
      | refine CV.seq ?_
      | refine CV.region callees ?_
      | (refine ⟨_, aS, ?_⟩)
      | (refine ⟨_, lS _ w3, ?_⟩)
      | fail
    refine (fewestR_spec (by omega) (Row.keep f1 w3) (f2.keep w3) (by omega) (by omega) f6m).mono ?_
    rintro r J4 ⟨⟨q4, rfl, hq4⟩, j4⟩
    have lj4 := j4.1
    have w4 := w3.trans j4
    have j24 := (j2.trans j3).trans j4
    have j14 := (j12.trans j3).trans j4
    have hS4 := (j14.2 bm (by omega)).trans hgw
    have r1 : Ints J4 q1 (plaXs st' gs') := Row.keep hq1 j24
    have r2 : Ints J4 q2 (plaXs st' gs') := Row.keep hq2 (j3.trans j4)
    have r3 : Ints J4 q3 (fewXs st' gs').1 := Row.keep hq3 j4
    have hp1 := plaXs_len (st := st') (gs := gs') (by omega)
    have hp2 := fewXs_len (st := st') (gs := gs') (by omega)
    repeat' first
      | refine CO.cons rfl ?_
      | refine CO.nil ?_
      | refine CV.seq ?_
      | refine CR.cons (es := []) ?_
      | refine CV.wideR callees (by decide +kernel) [(0, []), (1, []), (2, []), (3, []), (4, []), (5, []), (6, []), (7, []), (8, []), (9, []), (10, []), (11, []), (12, []), (13, []), (14, []), (15, []), (16, []), (17, []), (18, []), (19, []), (20, []), (21, []), (22, []), (23, []), (24, []), (25, []), (26, []), (27, []), (28, []), (29, []), (30, []), (31, []), (32, []), (33, [])] (by kernel_rfl) ?_
      | (refine ⟨fun _ => ?_, fun _ => ?_⟩ <;> first | (exfalso; omega) | skip)
      | fail
    refine (eqInts_spec (by omega) r1 r2 hp1).mono ?_
    rw [decide_eq_true rfl]
    rintro r J5 ⟨rfl, j5⟩
    have lj5 := j5.1
    have w5 := w4.trans j5
    have r4 : Ints J5 q3 (fewXs st' gs').1 := Row.keep r3 j5
    have r5 : Ints J5 q4 (fewXs st' gs').1 := Row.keep hq4 j5
    repeat' first
      | refine CR.cons (es := []) ?_
      | fail
    refine (eqInts_spec (by omega) r4 r5 hp2).mono ?_
    rw [decide_eq_true rfl]
    rintro r J6 ⟨rfl, j6⟩
    have lj6 := j6.1
    have w6 := w5.trans j6
    have j16 := (j14.trans j5).trans j6
    have hS6 := (j16.2 bm (by omega)).trans hgw
    repeat' first
      | refine CR.cons (es := []) ?_
      | (refine ⟨_, ldSe hS6, ?_⟩)
      | (refine ⟨_, aS, ?_⟩)
      | (refine ⟨_, lS _ w6, ?_⟩)
      | fail
    refine (eqSeasons_spec (by omega) (Row.keep g1 j16) (g2.keep j16) (Row.keep f1 w6) (f2.keep w6) (by omega) (by omega) f6').mono ?_
    rintro r J7 ⟨rfl, j7⟩
    repeat' first
      | refine CO.cons rfl ?_
      | refine CO.nil ?_
      | refine CV.region callees ?_
      | refine CV.cond ?_
      | refine CV.skip ?_
      | refine CR.cons ?_
      | refine CR.nil ?_
      | refine ⟨(⟨by omega, by omega⟩ : inI64 _), ?_⟩
      | fail
    refine ⟨(i + 1), (by repeat' first | exact trivial | refine ⟨rfl, ?_⟩ | refine ⟨slot_int (by (try simp only [Int.toNat_natCast]); omega), ?_⟩), (by (try dsimp only); omega), ?_⟩
    exact ⟨by omega, w6.trans j7⟩
  obtain rfl : i = 2 := by omega
  repeat' first
    | refine CO.cons rfl ?_
    | refine CO.nil ?_
    | refine CV.seq ?_
    | refine CV.region callees ?_
    | refine CV.cond ?_
    | refine CV.exit ?_
    | (refine ⟨_, hlenS, ?_⟩)
    | (refine ⟨fun _ => ?_, fun _ => ?_⟩ <;> first | (exfalso; omega) | skip)
    | fail
  refine (awake_spec (by omega)).mono ?_
  rintro r I5 ⟨rfl, j5⟩
  repeat' first
    | refine CO.cons rfl ?_
    | refine CO.nil ?_
    | refine CV.ret ?_
    | fail
  exact ⟨rfl, rfl⟩
end Go.Proofs.Ytijimplcjaeneaa
