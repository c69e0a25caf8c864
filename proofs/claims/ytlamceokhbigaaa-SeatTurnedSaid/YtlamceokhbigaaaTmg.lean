
/- SeatTurned. -/
import Derived.Test.YtlamceokhbigaaaThg
import Derived.Test.YtlamceokhbigaaaTlg
set_option linter.unusedVariables false
set_option linter.unusedSimpArgs false
namespace Go.Proofs.Ytlamceokhbigaaa
open Go.AI
theorem drop_rev {b : List Int} {j : Nat} (h : j < b.length) : (b.drop j).reverse = (b.drop (j + 1)).reverse ++ [b[j]!] := by
  rw [List.drop_eq_getElem_cons h, List.reverse_cons, getElem!_pos b j h]
theorem nil_ints {X : Heap} : Ints X (.slice none 0 0) [] := .inl ⟨rfl, rfl⟩
set_option maxHeartbeats 16000000 in
set_option maxRecDepth 100000 in
theorem turned_spec {v : Value} {H : Heap} {nums : List Int} (hv : Ints H v nums) (hx : nums.length ≤ 9223372036854775807) :
    CallB Try.prog H.n 11 [v] H (fun r _ => r = .bool true) := by
  have hn : H.n ≤ H.n := Nat.le_refl _
  refine CV.enter callees false rfl Try.func11 rfl (by kernel_rfl) (Nat.le_of_ble_eq_true rfl) hn ?_
  repeat' first
    | refine CO.cons rfl ?_
    | refine CO.nil ?_
    | refine CV.seq ?_
    | refine CV.region callees ?_
    | fail
  refine (boxOf_spec hn hv hx).mono ?_
  rintro r H1 ⟨⟨b, rfl, hb, hbox⟩, k1⟩
  have l1 := k1.1
  have hbn := hbox.1
  repeat' first
    | refine CO.cons rfl ?_
    | fail
  refine (partyOf_spec hb l1 hbox (by omega) (by omega) (by omega) (by omega)).mono ?_
  rintro r H2 ⟨⟨gv, rv, gs, rs, rfl, hg2, hr2, hp, hgl, hrl⟩, hb2, x2⟩
  have l2 := x2.1
  have h1 := hp.n1
  have h7 := hp.n7
  repeat' first
    | refine CO.cons rfl ?_
    | (refine ⟨_, _, al25, ?_⟩)
    | fail
  generalize hs3 : Heap.new H2 _ = H3
  have hg3 := new_get hs3
  have k3 := new_keep hs3
  have n3 := new_n hs3
  obtain ⟨b3, hbn3⟩ : ∃ b, Heap.n H2 = b := ⟨_, rfl⟩
  rw [hbn3] at hg3 n3 ⊢
  repeat' first
    | fail
  refine ⟨_, _, st25 hg2.oneC hr2.oneC hg3, by omega, ?_⟩
  generalize hs4 : Heap.set H3 b3 _ = H4
  have hg4 : H4.get b3 = some (.cells (Pal gv rv) 25 1) := set_get hs4
  have n4 := set_n hs4
  have o4 := set_old hs4
  have k24 : Keep H2 H4 := keep_put k3 (by omega) o4 n4
  have l4 := k24.1
  have hg4' : OwnG H4 gv gs H1.n := OwnS.keep hg2 k24
  have hr4 : OwnR H4 rv rs H1.n := OwnS.keep hr2 k24
  repeat' first
    | refine CO.cons rfl ?_
    | refine CO.nil ?_
    | refine CV.seq ?_
    | refine CV.region callees ?_
    | (refine ⟨_, ld25 hg4, ?_⟩)
    | fail
  refine (turnedParty_spec (by omega) hg4' hr4 hp).mono ?_
  rintro r H5 ⟨⟨gw, rw', rfl, hgw5, hrw5⟩, k5⟩
  have l5 := k5.1
  have hP5 := (k5.2 b3 (by omega)).trans hg4
  have hg5' : OwnG H5 gv gs H1.n := OwnS.keep hg4' k5
  have hr5 : OwnR H5 rv rs H1.n := OwnS.keep hr4 k5
  repeat' first
    | refine CO.cons rfl ?_
    | (refine ⟨_, _, al25, ?_⟩)
    | fail
  generalize hs6 : Heap.new H5 _ = H6
  have hg6 := new_get hs6
  have k6 := new_keep hs6
  have n6 := new_n hs6
  obtain ⟨b6, hbn6⟩ : ∃ b, Heap.n H5 = b := ⟨_, rfl⟩
  rw [hbn6] at hg6 n6 ⊢
  repeat' first
    | fail
  refine ⟨_, _, st25 hgw5.oneC hrw5.oneC hg6, by omega, ?_⟩
  generalize hs7 : Heap.set H6 b6 _ = H7
  have hg7 : H7.get b6 = some (.cells (Pal gw rw') 25 1) := set_get hs7
  have n7 := set_n hs7
  have o7 := set_old hs7
  have k57 : Keep H5 H7 := keep_put k6 (by omega) o7 n7
  have l7 := k57.1
  have hP7 := (k57.2 b3 (by omega)).trans hP5
  have hg7' : OwnG H7 gv gs H1.n := OwnS.keep hg5' k57
  have hr7 : OwnR H7 rv rs H1.n := OwnS.keep hr5 k57
  have hgw7 : OwnG H7 gw (gs.map turnG) H4.n := OwnS.keep hgw5 k57
  have hrw7 : OwnR H7 rw' (rs.map turnR) H4.n := OwnS.keep hrw5 k57
  have hp' := turnG_ok hp
  have hml : (gs.map turnG).length = gs.length := by rw [List.length_map]
  repeat' first
    | refine CO.cons rfl ?_
    | refine CO.nil ?_
    | refine CV.seq ?_
    | refine CV.region callees ?_
    | (refine ⟨_, ld25 hP7, ?_⟩)
    | fail
  refine (count_spec (by omega) hg7'.row hg7'.same hr7.row hp).mono ?_
  rintro v I1 ⟨rfl, j1⟩
  have m1 := j1.1
  repeat' first
    | refine CO.cons rfl ?_
    | refine CO.nil ?_
    | refine CV.seq ?_
    | refine CV.region callees ?_
    | (refine ⟨_, ld25 ((j1.2 b6 (by omega)).trans hg7), ?_⟩)
    | fail
  refine (count_spec (by omega) (hgw7.keep j1).row hgw7.same (hrw7.keep j1).row hp').mono ?_
  rw [okL_turn_len hp]
  rintro v I2 ⟨rfl, j2⟩
  have m2 := j2.1
  have j12 := j1.trans j2
  repeat' first
    | refine CO.cons rfl ?_
    | refine CO.nil ?_
    | refine CV.seq ?_
    | refine CV.region callees ?_
    | (refine ⟨_, ld25 ((j12.2 b3 (by omega)).trans hP7), ?_⟩)
    | fail
  refine (best_spec (by omega) (hg7'.keep j12).row hg7'.same (hr7.keep j12).row hp).mono ?_
  rintro v I3 ⟨⟨q3, p3, c3, rfl, hb3⟩, j3⟩
  have m3 := j3.1
  have j13 := j12.trans j3
  repeat' first
    | refine CO.cons rfl ?_
    | refine CO.nil ?_
    | refine CV.seq ?_
    | refine CV.region callees ?_
    | (refine ⟨_, ld25 ((j13.2 b6 (by omega)).trans hg7), ?_⟩)
    | fail
  refine (best_spec (by omega) (hgw7.keep j13).row hgw7.same (hrw7.keep j13).row hp').mono ?_
  rintro v I4 ⟨⟨q4, p4, c4, rfl, hb4⟩, j4⟩
  have m4 := j4.1
  have j14 := j13.trans j4
  have hP14 := (j14.2 b3 (by omega)).trans hP7
  have hM14 := (j14.2 b6 (by omega)).trans hg7
  have hgv : OwnG I4 gv gs H1.n := hg7'.keep j14
  have hgw : OwnG I4 gw (gs.map turnG) H4.n := hgw7.keep j14
  have hrw : OwnR I4 rw' (rs.map turnR) H4.n := hrw7.keep j14
  rcases best_turn hp with ⟨f1, f2⟩ | ⟨bb, cc, p, f1, f2, hbf, hpr⟩
  · rcases hb3 with ⟨_, rfl, rfl, rfl⟩ | ⟨_, h, _⟩
    case inr => rw [f1] at h; cases h
    rcases hb4 with ⟨_, rfl, rfl, rfl⟩ | ⟨_, h, _⟩
    case inr => rw [f2] at h; cases h
    obtain ⟨zz, hnil, hzl⟩ : ∃ zz : List Int, Ints I4 (.slice none 0 0) zz ∧ zz.length = 0 := ⟨[], nil_ints, rfl⟩
    repeat' first
      | refine CO.cons rfl ?_
      | refine CO.nil ?_
      | refine CV.seq ?_
      | refine CV.region callees ?_
      | refine CV.cond ?_
      | refine CV.block ?_
      | refine CV.skip ?_
      | refine CO.consG rfl ?_
      | refine ⟨_, ints_len (by assumption), ?_⟩
      | refine ⟨(⟨by omega, by omega⟩ : inI64 _), ?_⟩
      | (refine ⟨fun _ => ?_, fun _ => ?_⟩ <;> first | (exfalso; omega) | skip)
      | fail
    refine CV.loopc ?_
    refine WCv.rounds callees false (α := Int) (fun z => [(11, VI 12), (16, VI z)]) (fun z Hz => z = -1 ∧ Keep I4 Hz) (fun z => 0) (-1) (by repeat' first | exact trivial | refine ⟨rfl, ?_⟩ | refine ⟨slot_int (by (try simp only [Int.toNat_natCast]); omega), ?_⟩) ?_ ?_
    · exact ⟨rfl, Keep.refl _⟩
    rintro z Hx ⟨hz, kx⟩ hBx
    repeat' first
      | refine CO.cons rfl ?_
      | refine CO.nil ?_
      | refine CV.seq ?_
      | refine CV.region callees ?_
      | refine CV.cond ?_
      | refine CV.exit ?_
      | (refine ⟨fun _ => ?_, fun _ => ?_⟩ <;> first | (exfalso; omega) | skip)
      | fail
    refine (awake_spec (by omega)).mono ?_
    rintro v I5 ⟨rfl, j5⟩
    repeat' first
      | refine CO.cons rfl ?_
      | refine CO.nil ?_
      | refine CV.ret ?_
      | fail
    exact ⟨rfl, rfl⟩
  · rcases hb3 with ⟨h, _⟩ | ⟨b', h, rfl, hq3⟩
    · rw [f1] at h; cases h
    obtain ⟨e1, e2⟩ := Prod.mk.inj (Option.some.inj (f1.symm.trans h))
    subst e1 e2
    rcases hb4 with ⟨h, _⟩ | ⟨b'', h, rfl, hq4⟩
    · rw [f2] at h; cases h
    obtain ⟨e1, e2⟩ := Prod.mk.inj (Option.some.inj (f2.symm.trans h))
    subst e1 e2
    have hbl := hbf.l
    have hqi : Ints I4 q3 bb := (Own.keep hq3 j4).row
    repeat' first
      | refine CO.cons rfl ?_
      | refine CO.nil ?_
      | refine CV.seq ?_
      | refine CV.region callees ?_
      | refine CV.cond ?_
      | refine CV.block ?_
      | refine CV.skip ?_
      | refine CO.consG rfl ?_
      | refine ⟨_, ints_len (by assumption), ?_⟩
      | refine ⟨(⟨by omega, by omega⟩ : inI64 _), ?_⟩
      | (refine ⟨_, fS foP0 (by decide), ?_⟩)
      | (refine ⟨_, cell_load ag22g hP14 rfl, ?_⟩)
      | (refine ⟨_, gs_len hgv.row, ?_⟩)
      | (refine ⟨fun _ => ?_, fun _ => ?_⟩ <;> first | (exfalso; omega) | skip)
      | fail
    refine CV.loopc ?_
    refine WCv.rounds callees false (α := Nat × Value) (fun (j, l) => [(3, .pointer (some ⟨b3, 0, none⟩)), (4, .pointer (some ⟨b6, 0, none⟩)), (9, q3), (10, VI p), (11, VI 0), (15, l), (16, VI ((j : Int) - 1))]) (fun (j, l) Hz => j ≤ bb.length ∧ Own 3 Hz l (((bb.drop j).reverse).map VI) I4.n ∧ Keep I4 Hz) (fun (j, l) => j) (bb.length, nilS) (by repeat' first | exact trivial | refine ⟨rfl, ?_⟩ | refine ⟨slot_int (by (try simp only [Int.toNat_natCast]); omega), ?_⟩) ?_ ?_
    · exact ⟨Nat.le_refl _, by rw [List.drop_length]; exact .inl ⟨rfl, rfl⟩, Keep.refl _⟩
    rintro ⟨j, l⟩ Hx ⟨hj, hl, kx⟩ hBx
    have lx := kx.1
    have hqx : Ints Hx q3 bb := Row.keep hqi kx
    cases j with
    | succ j =>
      have hj2 : j < bb.length := by omega
      have hji : bb[(((j + 1 : Nat) : Int) - 1).toNat]! = bb[j]! := by
        have e : (((j + 1 : Nat) : Int) - 1).toNat = j := by omega
        rw [e]
      repeat' first
        | refine CO.cons rfl ?_
        | refine CO.nil ?_
        | refine CV.seq ?_
        | refine CV.region callees ?_
        | refine CV.cond ?_
        | refine CV.block ?_
        | refine CV.skip ?_
        | refine ⟨_, ints_addr (by assumption) (by omega) (by omega), ?_⟩
        | refine ⟨_, ints_load (by assumption) (by omega) (by omega), ?_⟩
        | refine ⟨_, _, build_one un22 one3 rfl, ?_⟩
        | (refine ⟨fun _ => ?_, fun _ => ?_⟩ <;> first | (exfalso; omega) | skip)
        | fail
      rw [hji]
      refine push_ask hl (by omega) (by omega) (by rw [List.length_reverse, List.length_drop]; omega) ?_
      intro l3 H3' hl3 kb3 hf3
      repeat' first
        | refine CO.cons rfl ?_
        | refine CO.nil ?_
        | refine CV.region callees ?_
        | refine ⟨(⟨by omega, by omega⟩ : inI64 _), ?_⟩
        | fail
      refine ⟨(j, l3), (by repeat' first | exact trivial | refine ⟨rfl, ?_⟩ | refine ⟨slot_int (by (try simp only [Int.toNat_natCast]); omega), ?_⟩), (by (try dsimp only); omega), ?_⟩
      exact ⟨by omega, by rw [drop_rev hj2]; exact hl3, kb3.keep kx (fun c hc => (hl.lt hc).1)⟩
    | zero =>
      rw [List.drop_zero] at hl
      repeat' first
        | refine CO.cons rfl ?_
        | refine CO.nil ?_
        | refine CV.seq ?_
        | refine CV.region callees ?_
        | refine CV.cond ?_
        | refine CV.skip ?_
        | refine CV.exit ?_
        | (refine ⟨_, ld25 ((kx.2 b6 (by omega)).trans hM14), ?_⟩)
        | (refine ⟨fun _ => ?_, fun _ => ?_⟩ <;> first | (exfalso; omega) | skip)
        | fail
      refine (price_spec (o := bb.reverse) (by omega) (hgw.keep kx) (hrw.keep kx) hl.row hp' (by rw [hml]; exact hbf.rev)).mono ?_
      rw [hpr]
      rintro v I5 ⟨⟨q5, rfl⟩, j5⟩
      have m5 := j5.1
      repeat' first
        | refine CO.cons rfl ?_
        | refine CO.nil ?_
        | refine CV.seq ?_
        | refine CV.region callees ?_
        | refine CO.consG rfl ?_
        | (refine ⟨fun _ => ?_, fun _ => ?_⟩ <;> first | (exfalso; omega) | skip)
        | fail
      refine (awake_spec (by omega)).mono ?_
      rintro v I6 ⟨rfl, j6⟩
      repeat' first
        | refine CO.cons rfl ?_
        | refine CO.nil ?_
        | refine CV.ret ?_
        | fail
      exact ⟨rfl, rfl⟩
end Go.Proofs.Ytlamceokhbigaaa
