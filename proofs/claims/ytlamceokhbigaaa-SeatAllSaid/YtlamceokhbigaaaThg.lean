
/- SeatMore. -/
import Derived.Test.YtlamceokhbigaaaTfg
import Derived.Test.YtlamceokhbigaaaTgg
set_option linter.unusedVariables false
set_option linter.unusedSimpArgs false
namespace Go.Proofs.Ytlamceokhbigaaa
open Go.AI
set_option maxRecDepth 100000 in
theorem awake_spec {B : Nat} {H : Heap} (hB : B ≤ H.n) :
    CallB Try.prog B 17 [] H (fun r H' => r = .bool true ∧ Keep H H') :=
  CallB.known (v := .bool true) rfl trivial (by omega) ⟨rfl, Keep.refl _⟩
set_option maxHeartbeats 16000000 in
set_option maxRecDepth 100000 in
theorem more_spec {v : Value} {H : Heap} {nums : List Int} (hv : Ints H v nums) (hx : nums.length ≤ 9223372036854775807) :
    CallB Try.prog H.n 10 [v] H (fun r _ => r = .bool true) := by
  have hn : H.n ≤ H.n := Nat.le_refl _
  refine CV.enter callees false rfl Try.func10 rfl (by kernel_rfl) (Nat.le_of_ble_eq_true rfl) hn ?_
  repeat' first
    | refine CO.cons rfl ?_
    | refine CO.nil ?_
    | refine CV.seq ?_
    | refine CV.region callees ?_
    | fail
  refine (boxOf_spec hn hv hx).mono ?_
  rintro r H1 ⟨⟨b, rfl, hb, hbox⟩, k1⟩
  have l1 := k1.1
  have hbn := hbox.1
  repeat' first
    | refine CO.cons rfl ?_
    | refine CO.nil ?_
    | refine CV.seq ?_
    | refine CV.region callees ?_
    | fail
  refine (partyOf_spec hb l1 hbox (by omega) (by omega) (by omega) (by omega)).mono ?_
  rintro r H2 ⟨⟨gv, rv, gs, rs, rfl, hg2, hr2, hp, hgl, hrl⟩, hb2, x2⟩
  have l2 := x2.1
  have h1 := hp.n1
  have h7 := hp.n7
  repeat' first
    | refine CO.cons rfl ?_
    | (refine ⟨_, _, al25, ?_⟩)
    | fail
  generalize hs3 : Heap.new H2 _ = H3
  have hg3 := new_get hs3
  have k3 := new_keep hs3
  have n3 := new_n hs3
  obtain ⟨b3, hbn3⟩ : ∃ b, Heap.n H2 = b := ⟨_, rfl⟩
  rw [hbn3] at hg3 n3 ⊢
  repeat' first
    | fail
  refine ⟨_, _, st25 hg2.oneC hr2.oneC hg3, by omega, ?_⟩
  generalize hs4 : Heap.set H3 b3 _ = H4
  have hg4 : H4.get b3 = some (.cells (Pal gv rv) 25 1) := set_get hs4
  have n4 := set_n hs4
  have o4 := set_old hs4
  have k24 : Keep H2 H4 := keep_put k3 (by omega) o4 n4
  have l4 := k24.1
  have hg4' : OwnG H4 gv gs H1.n := OwnS.keep hg2 k24
  have hr4 : OwnR H4 rv rs H1.n := OwnS.keep hr2 k24
  have hb4 := hb2.keep k24
  repeat' first
    | refine CO.cons rfl ?_
    | refine CO.nil ?_
    | refine CV.seq ?_
    | refine CV.region callees ?_
    | (refine ⟨_, ld25 hg4, ?_⟩)
    | fail
  refine (ownParty_spec (by omega) hg4' hr4 (by omega) (by omega)).mono ?_
  rintro r H5 ⟨⟨gw, rw', rfl, hgw5, hrw5, hap⟩, k5⟩
  have l5 := k5.1
  have hb5 := hb4.keep k5
  have hP5 := (k5.2 b3 (by omega)).trans hg4
  have hg5' : OwnG H5 gv gs H1.n := OwnS.keep hg4' k5
  have hr5 : OwnR H5 rv rs H1.n := OwnS.keep hr4 k5
  repeat' first
    | refine CO.cons rfl ?_
    | (refine ⟨_, _, al25, ?_⟩)
    | fail
  generalize hs6 : Heap.new H5 _ = H6
  have hg6 := new_get hs6
  have k6 := new_keep hs6
  have n6 := new_n hs6
  obtain ⟨b6, hbn6⟩ : ∃ b, Heap.n H5 = b := ⟨_, rfl⟩
  rw [hbn6] at hg6 n6 ⊢
  repeat' first
    | fail
  refine ⟨_, _, st25 hgw5.oneC hrw5.oneC hg6, by omega, ?_⟩
  generalize hs7 : Heap.set H6 b6 _ = H7
  have hg7 : H7.get b6 = some (.cells (Pal gw rw') 25 1) := set_get hs7
  have n7 := set_n hs7
  have o7 := set_old hs7
  have k57 : Keep H5 H7 := keep_put k6 (by omega) o7 n7
  have l7 := k57.1
  have hb7 := hb5.keep k57
  have hP7 := (k57.2 b3 (by omega)).trans hP5
  have hg7' : OwnG H7 gv gs H1.n := OwnS.keep hg5' k57
  have hr7 : OwnR H7 rv rs H1.n := OwnS.keep hr5 k57
  have hgw7 : OwnG H7 gw gs H4.n := OwnS.keep hgw5 k57
  have hrw7 : OwnR H7 rw' rs H4.n := OwnS.keep hrw5 k57
  have hb7n := hb7.1
  repeat' first
    | refine CO.cons rfl ?_
    | refine CO.nil ?_
    | refine CV.seq ?_
    | refine CV.region callees ?_
    | (refine ⟨_, fS foP0 (by decide), ?_⟩)
    | (refine ⟨_, cell_load ag22g hP7 rfl, ?_⟩)
    | (refine ⟨_, gs_len hg7'.row, ?_⟩)
    | fail
  refine (ruleOf_spec hb (by omega) hb7 (by omega) (by omega)).mono ?_
  rintro v8 H8 ⟨⟨r0, rfl, hr0⟩, hb8, x8⟩
  have l8 := x8.1
  have hP8 := (x8.2 b3 (by omega) (by omega)).trans hP7
  have hM8 := (x8.2 b6 (by omega) (by omega)).trans hg7
  have hg8' : OwnG H8 gv gs H1.n := OwnS.boxed hg7' x8 hb7
  have hr8 : OwnR H8 rv rs H1.n := OwnS.boxed hr7 x8 hb7
  have hgw8 : OwnG H8 gw gs H4.n := OwnS.boxed hgw7 x8 hb7
  have hrw8 : OwnR H8 rw' rs H4.n := OwnS.boxed hrw7 x8 hb7
  repeat' first
    | refine CO.cons rfl ?_
    | (refine ⟨_, _, al81, ?_⟩)
    | fail
  generalize hs9 : Heap.new H8 _ = H9
  have hg9 := new_get hs9
  have k9 := new_keep hs9
  have n9 := new_n hs9
  obtain ⟨b9, hbn9⟩ : ∃ b, Heap.n H8 = b := ⟨_, rfl⟩
  rw [hbn9] at hg9 n9 ⊢
  repeat' first
    | fail
  refine ⟨_, _, st81 hg9, by omega, ?_⟩
  generalize hsa : Heap.set H9 b9 _ = Ha
  have hga : Ha.get b9 = some (.cells (Rul r0) 81 1) := set_get hsa
  have na := set_n hsa
  have oa := set_old hsa
  repeat' first
    | refine CO.cons rfl ?_
    | refine CO.nil ?_
    | refine CV.seq ?_
    | refine CV.region callees ?_
    | (refine ⟨_, fS foR3 (by decide), ?_⟩)
    | fail
  refine ⟨_, _, store_row (i := 0 + 3) sz3 hga (Nat.le_of_ble_eq_true rfl) rfl, by omega, ?_⟩
  obtain ⟨r, hrd⟩ : ∃ r : Ru, r = ⟨r0.kd, r0.a, r0.b, 0⟩ := ⟨_, rfl⟩
  generalize hsb : Heap.set Ha b9 _ = Hb
  have hgb : Hb.get b9 = some (.cells (Rul r) 81 1) := by rw [hrd]; exact set_get hsb
  have nb := set_n hsb
  have ob := set_old hsb
  have hrok : RuOk gs.length r := by
    subst hrd
    exact ⟨hr0.k1, hr0.k6, hr0.a, hr0.a0, hr0.b, hr0.b0, Int.le_refl _, by (show (0 : Int) ≤ 1000); decide⟩
  have hrw0 : r.wt = 0 := by rw [hrd]
  have k8b : Keep H8 Hb := keep_put (keep_put k9 (by omega) oa na) (by omega) ob nb
  have lb := k8b.1
  have hPb := (k8b.2 b3 (by omega)).trans hP8
  have hMb := (k8b.2 b6 (by omega)).trans hM8
  have hgvb : OwnG Hb gv gs H1.n := OwnS.keep hg8' k8b
  have hrvb : OwnR Hb rv rs H1.n := OwnS.keep hr8 k8b
  have hgwb : OwnG Hb gw gs H4.n := OwnS.keep hgw8 k8b
  have hrwb : OwnR Hb rw' rs H4.n := OwnS.keep hrw8 k8b
  have kN := Keep.new Hb (.cells (Rul r) 81 2)
  have hMN := (kN.2 b6 (by omega)).trans hMb
  repeat' first
    | refine CO.cons rfl ?_
    | refine CO.nil ?_
    | refine CV.seq ?_
    | refine CV.region callees ?_
    | (refine ⟨_, fS foP1 (by decide), ?_⟩)
    | (refine ⟨_, cell_load ag23r hMb rfl, ?_⟩)
    | (refine ⟨_, ld81 hgb, ?_⟩)
    | (refine ⟨_, _, ru_one, ?_⟩)
    | fail
  refine ru_push hrwb (by omega) (by omega) (by omega) ?_
  intro rz Hc hrz kbc hfc
  have lc := kbc.le
  have bq : ∀ c, blkOf rw' = some c → H4.n ≤ c := fun c hc => (hrwb.lt hc).1
  have bq2 : ∀ c, blkOf rw' = some c → c < H5.n := fun c hc => (hrw5.lt hc).2
  have hPc := (kbc.get b3 (by omega) (fun h => by have := bq _ h; omega)).trans hPb
  have hMc := (kbc.get b6 (by omega) (fun h => by have := bq2 _ h; omega)).trans hMb
  have hgvc : OwnG Hc gv gs H1.n := ownS_keepBt hgvb kbc fun c h1 h2 => by have := bq _ h2; have := (hg2.lt h1).2; omega
  have hrvc : OwnR Hc rv rs H1.n := ownS_keepBt hrvb kbc fun c h1 h2 => by have := bq _ h2; have := (hr2.lt h1).2; omega
  have hgwc : OwnG Hc gw gs H4.n := ownS_keepBt hgwb kbc fun c h1 h2 => hap c h2 h1
  repeat' first
    | refine CO.cons rfl ?_
    | (refine ⟨_, fS foP1 (by decide), ?_⟩)
    | fail
  refine ⟨_, _, store_row (i := 0 + 1) sz23r hMc (by show 0 + 1 < 2; decide) hrz.oneC, by omega, ?_⟩
  generalize hsd : Heap.set Hc b6 _ = Hd
  have hMd : Hd.get b6 = some (.cells (Pal gw rz) 25 1) := set_get hsd
  have nd := set_n hsd
  have od := set_old hsd
  have kxd : KeepX b6 Hc Hd := ⟨by omega, fun c _ hc => od c hc⟩
  have hPd := (od b3 (by omega)).trans hPc
  have hgvd : OwnG Hd gv gs H1.n := OwnS.keepX hgvc kxd hMc
  have hrvd : OwnR Hd rv rs H1.n := OwnS.keepX hrvc kxd hMc
  have hgwd : OwnG Hd gw gs H4.n := OwnS.keepX hgwc kxd hMc
  have hrzd : OwnR Hd rz (rs ++ [r]) H4.n := OwnS.keepX hrz kxd hMc
  have hp' : PaOk gs (rs ++ [r]) := ⟨h1, h7, hp.gk, by rw [app_len]; omega, getAt_snoc (P := fun r => RuOk gs.length r) hp.rk hrok⟩
  have hsub := okL_app (gs := gs) (rs := rs) (r := r) hrw0
  have hlen : (okL gs (rs ++ [r])).length ≤ (okL gs rs).length := by rw [hsub]; exact List.length_filter_le _ _
  repeat' first
    | refine CO.cons rfl ?_
    | refine CO.nil ?_
    | refine CV.seq ?_
    | refine CV.region callees ?_
    | (refine ⟨_, ld25 hPd, ?_⟩)
    | fail
  refine (count_spec (by omega) hgvd.row hgvd.same hrvd.row hp).mono ?_
  rintro v I1 ⟨rfl, j1⟩
  have m1 := j1.1
  repeat' first
    | refine CO.cons rfl ?_
    | refine CO.nil ?_
    | refine CV.seq ?_
    | refine CV.region callees ?_
    | (refine ⟨_, ld25 ((j1.2 b6 (by omega)).trans hMd), ?_⟩)
    | fail
  refine (count_spec (by omega) (hgwd.keep j1).row hgwd.same (hrzd.keep j1).row hp').mono ?_
  rintro v I2 ⟨rfl, j2⟩
  have m2 := j2.1
  have j12 := j1.trans j2
  repeat' first
    | refine CO.cons rfl ?_
    | refine CO.nil ?_
    | refine CV.seq ?_
    | refine CV.region callees ?_
    | (refine ⟨_, ld25 ((j12.2 b3 (by omega)).trans hPd), ?_⟩)
    | fail
  refine (best_spec (by omega) (hgvd.keep j12).row hgvd.same (hrvd.keep j12).row hp).mono ?_
  rintro v I3 ⟨⟨q3, p3, c3, rfl, hb3⟩, j3⟩
  have m3 := j3.1
  have j13 := j12.trans j3
  repeat' first
    | refine CO.cons rfl ?_
    | refine CO.nil ?_
    | refine CV.seq ?_
    | refine CV.region callees ?_
    | (refine ⟨_, ld25 ((j13.2 b6 (by omega)).trans hMd), ?_⟩)
    | fail
  refine (best_spec (by omega) (hgwd.keep j13).row hgwd.same (hrzd.keep j13).row hp').mono ?_
  rintro v I4 ⟨⟨q4, p4, c4, rfl, hb4'⟩, j4⟩
  have m4 := j4.1
  have e3 : (c3 = 0 ↔ 0 < (okL gs rs).length) ∧ (c3 = 0 ∨ c3 = 12) := by
    rcases bestF_spec (gs := gs) (rs := rs) (okL gs rs) with ⟨g1, g2⟩ | ⟨bb, pp, g1, g2, g3, g4⟩
    · rcases hb3 with ⟨_, _, _, rfl⟩ | ⟨bb, h, _⟩
      · rw [g2]; simp
      · rw [g1] at h; cases h
    · rcases hb3 with ⟨h, _⟩ | ⟨bb', h, rfl, _⟩
      · rw [g1] at h; cases h
      · have := List.length_pos_of_mem g2
        simp [this]
  have e4 : (c4 = 0 ↔ 0 < (okL gs (rs ++ [r])).length) ∧ (c4 = 0 ∨ c4 = 12) := by
    rcases bestF_spec (gs := gs) (rs := rs ++ [r]) (okL gs (rs ++ [r])) with ⟨g1, g2⟩ | ⟨bb, pp, g1, g2, g3, g4⟩
    · rcases hb4' with ⟨_, _, _, rfl⟩ | ⟨bb, h, _⟩
      · rw [g2]; simp
      · rw [g1] at h; cases h
    · rcases hb4' with ⟨h, _⟩ | ⟨bb', h, rfl, _⟩
      · rw [g1] at h; cases h
      · have := List.length_pos_of_mem g2
        simp [this]
  have e5 : 0 < (okL gs (rs ++ [r])).length → p3 ≤ p4 := by
    intro hpos
    have hc4 := e4.1.2 hpos
    have hc3 := e3.1.2 (by omega)
    rcases hb4' with ⟨_, _, _, h⟩ | ⟨bb, h, _, _⟩
    · omega
    rcases hb3 with ⟨_, _, _, h'⟩ | ⟨bb', h', _, _⟩
    · omega
    rcases bestF_spec (gs := gs) (rs := rs ++ [r]) (okL gs (rs ++ [r])) with ⟨g1, g2⟩ | ⟨x, y, g1, g2, g3, g4⟩
    · rw [g1] at h; cases h
    rw [g1] at h
    cases h
    rcases bestF_spec (gs := gs) (rs := rs) (okL gs rs) with ⟨f1, f2⟩ | ⟨x', y', f1, f2, f3, f4⟩
    · rw [f1] at h'; cases h'
    rw [f1] at h'
    cases h'
    rw [hsub] at g2
    obtain ⟨g5, g6⟩ := List.mem_filter.1 g2
    have := f4 _ g5
    rw [g3, prO_app (okB_app hrw0 g6).2]
    exact this
  generalize (okL gs rs).length = n at *
  generalize (okL gs (rs ++ [r])).length = m at *
  clear hb3 hb4'
  have a := e3.1
  have c := e4.1
  have d1 := e3.2
  have d2 := e4.2
  by_cases hm0 : 0 < m
  · have hn0 : 0 < n := by omega
    obtain rfl : c3 = 0 := a.2 hn0
    obtain rfl : c4 = 0 := c.2 hm0
    have e6 := e5 hm0
    repeat' first
      | refine CO.cons rfl ?_
      | refine CO.nil ?_
      | refine CV.seq ?_
      | refine CV.region callees ?_
      | refine CO.consG rfl ?_
      | (refine ⟨_, fun tm ha => step1_boolEql un4 rfl (ev_tmp ha rfl) (ev_tmp ha rfl), ?_⟩)
      | (refine ⟨fun _ => ?_, fun _ => ?_⟩ <;> first | (exfalso; omega) | skip)
      | fail
    refine (awake_spec (by omega)).mono ?_
    rintro v I5 ⟨rfl, j5⟩
    repeat' first
      | refine CO.cons rfl ?_
      | refine CO.nil ?_
      | refine CV.ret ?_
      | fail
    exact ⟨rfl, rfl⟩
  · have h4 : c4 = 12 := by omega
    subst h4
    by_cases hn0 : 0 < n
    · obtain rfl : c3 = 0 := a.2 hn0
      repeat' first
        | refine CO.cons rfl ?_
        | refine CO.nil ?_
        | refine CV.seq ?_
        | refine CV.region callees ?_
        | refine CO.consG rfl ?_
        | (refine ⟨_, fun tm ha => step1_boolEql un4 rfl (ev_tmp ha rfl) (ev_tmp ha rfl), ?_⟩)
        | (refine ⟨fun _ => ?_, fun _ => ?_⟩ <;> first | (exfalso; omega) | skip)
        | fail
      refine (awake_spec (by omega)).mono ?_
      rintro v I5 ⟨rfl, j5⟩
      repeat' first
        | refine CO.cons rfl ?_
        | refine CO.nil ?_
        | refine CV.ret ?_
        | fail
      exact ⟨rfl, rfl⟩
    · have h3 : c3 = 12 := by omega
      subst h3
      repeat' first
        | refine CO.cons rfl ?_
        | refine CO.nil ?_
        | refine CV.seq ?_
        | refine CV.region callees ?_
        | refine CO.consG rfl ?_
        | (refine ⟨_, fun tm ha => step1_boolEql un4 rfl (ev_tmp ha rfl) (ev_tmp ha rfl), ?_⟩)
        | (refine ⟨fun _ => ?_, fun _ => ?_⟩ <;> first | (exfalso; omega) | skip)
        | fail
      refine (awake_spec (by omega)).mono ?_
      rintro v I5 ⟨rfl, j5⟩
      repeat' first
        | refine CO.cons rfl ?_
        | refine CO.nil ?_
        | refine CV.ret ?_
        | fail
      exact ⟨rfl, rfl⟩
end Go.Proofs.Ytlamceokhbigaaa
