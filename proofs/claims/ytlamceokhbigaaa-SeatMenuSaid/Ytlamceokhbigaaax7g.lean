
/- SeatMenu: the walk. -/
import Derived.Test.Ytlamceokhbigaaax6g
set_option linter.unusedVariables false
set_option linter.unusedSimpArgs false
namespace Go.Proofs.Ytlamceokhbigaaa
open Go.AI
set_option maxRecDepth 100000 in
theorem awakeM_spec {B : Nat} {H : Heap} (hB : B ≤ H.n) :
    CallB Try.prog B 17 [] H (fun r H' => r = .bool true ∧ Keep H H') :=
  CallB.known (v := .bool true) rfl trivial (by omega) ⟨rfl, Keep.refl _⟩
set_option maxHeartbeats 32000000 in
set_option maxRecDepth 100000 in
theorem seatMenu_spec {v : Value} {H : Heap} {nums : List Int} (hv : Ints H v nums) (hx : nums.length ≤ 9223372036854775807) :
    CallB Try.prog H.n 14 [v] H (fun r _ => r = .bool true) := by
  have hn : H.n ≤ H.n := Nat.le_refl _
  refine CV.enter callees false rfl Try.func14 rfl (by kernel_rfl) (Nat.le_of_ble_eq_true rfl) hn ?_
  repeat' first
    | refine CO.cons rfl ?_
    | refine CO.nil ?_
    | refine CV.seq ?_
    | refine CV.region callees ?_
    | fail
  refine (boxOf_spec hn hv hx).mono ?_
  rintro r H1 ⟨⟨b, rfl, hb, hbox⟩, k1⟩
  have l1 := k1.1
  repeat' first
    | refine CO.cons rfl ?_
    | refine CO.nil ?_
    | refine CV.seq ?_
    | refine CV.region callees ?_
    | fail
  refine (up_spec hb l1 hbox (by omega)).mono ?_
  rintro r H2 ⟨⟨x, rfl, x0, x1⟩, hb2, k2⟩
  have l2 := k2.1
  obtain ⟨many, rfl⟩ : ∃ m : Nat, x = (m : Int) := ⟨x.toNat, by omega⟩
  repeat' first
    | refine CO.cons rfl ?_
    | fail
  refine (guestsOf_spec hb (by omega) hb2 (show many ≤ 10 by omega)).mono ?_
  rintro gv H3 ⟨⟨gs, hg3, hgl, hgs⟩, hb3, k3⟩
  have l3 := k3.1
  rw [← hgl] at hgs
  have hgk := gsOk_of (by omega) hgs
  repeat' first
    | refine CO.cons rfl ?_
    | fail
  refine (any_spec hb (by omega) hb3 (by omega) (by omega) (by omega)).mono ?_
  rintro r H4 ⟨⟨t, rfl, t1, t4⟩, hb4, k4⟩
  have l4 := k4.1
  obtain ⟨turns, rfl⟩ : ∃ m : Nat, t = (m : Int) := ⟨t.toNat, by omega⟩
  have hg4 : OwnG H4 gv gs H2.n := OwnS.boxed hg3 k4 hb3
  repeat' first
    | refine CO.cons rfl ?_
    | refine CO.nil ?_
    | refine CV.seq ?_
    | refine CV.region callees ?_
    | fail
  refine (dishesOf_spec hb (by omega) hb4 (show 1 ≤ turns by omega) (show turns ≤ 4 by omega)).mono ?_
  rintro dv H5 ⟨⟨ds, hd5, hd1, hd10, hok⟩, hb5, k5⟩
  have l5 := k5.1
  have hg5 : OwnG H5 gv gs H2.n := OwnS.boxed hg4 k5 hb4
  repeat' first
    | refine CO.cons rfl ?_
    | refine ⟨(⟨by omega, by omega⟩ : inI64 _), ?_⟩
    | fail
  refine (up_spec hb (by omega) hb5 (by omega)).mono ?_
  rintro r H6 ⟨⟨need, rfl, nd0, nd1⟩, hb6, k6⟩
  have l6 := k6.1
  have hg6 : OwnG H6 gv gs H2.n := OwnS.boxed hg5 k6 hb5
  have hd6 : OwnD H6 dv ds H4.n := OwnS.boxed hd5 k6 hb5
  repeat' first
    | refine CO.cons rfl ?_
    | refine CO.nil ?_
    | refine CV.seq ?_
    | refine CV.region callees ?_
    | fail
  refine (menu_spec (by omega) hg6.row hd6.row (by omega) hgk (by omega) hok (by omega) (by omega) nd0 (by omega)).mono ?_
  rintro r H7 ⟨⟨q, p, c, rfl, hr1⟩, k7⟩
  have l7 := k7.1
  have hg7 : OwnG H7 gv gs H2.n := OwnS.keep hg6 k7
  have hd7 : OwnD H7 dv ds H4.n := OwnS.keep hd6 k7
  have hb7 := hb6.keep k7
  repeat' first
    | refine CO.cons rfl ?_
    | refine CO.nil ?_
    | refine CV.seq ?_
    | refine CV.region callees ?_
    | refine ⟨(⟨by omega, by omega⟩ : inI64 _), ?_⟩
    | (refine ⟨_, fun tm ha => step1_max rfl rfl (ev_tmp ha rfl), ?_⟩)
    | fail
  refine (menu_spec (need := max 0 (need - 1)) (by omega) hg7.row hd7.row (by omega) hgk (by omega) hok (by omega) (by omega) (by omega) (by omega)).mono ?_
  obtain ⟨need2, hnd2⟩ : ∃ z, max 0 (need - 1) = z := ⟨_, rfl⟩
  rw [hnd2]
  have hnl : need2 ≤ need := by omega
  rintro r H8 ⟨⟨q2, p2, c2, rfl, hr2⟩, k8⟩
  have l8 := k8.1
  have hgT : OwnG H8 gv gs H2.n := OwnS.keep hg7 k8
  have hdT : OwnD H8 dv ds H4.n := OwnS.keep hd7 k8
  have hbT := hb7.keep k8
  rcases menF_spec (gs := gs) (ds := ds) (need := need) _ (menusL ds turns) rfl with ⟨e, hno⟩ | ⟨m0, e, hm0, hen0, hbest⟩
  · obtain ⟨rfl, rfl, rfl⟩ : q = nilS ∧ p = 0 ∧ c = 7 := by
      rcases hr1 with ⟨_, h1, h2, h3⟩ | ⟨b0, h0, _⟩
      · exact ⟨h1, h2, h3⟩
      · rw [e] at h0; cases h0
    have hfin : ∀ m, m ∈ menusL ds turns → enM gs ds need m = true → (7 : Int) = 0 ∧ 0 ≤ costM ds m := fun m hm he => by rw [hno m hm] at he; cases he
    rcases hr2 with ⟨_, rfl, rfl, rfl⟩ | ⟨b2, _, rfl, _⟩
    · repeat' first
        | refine CO.cons rfl ?_
        | refine CO.nil ?_
        | refine CV.seq ?_
        | refine CV.region callees ?_
        | refine CV.cond ?_
        | refine CV.block ?_
        | refine CV.skip ?_
        | refine CO.consG rfl ?_
        | (refine ⟨fun _ => ?_, fun _ => ?_⟩ <;> first | (exfalso; omega) | skip)
        | fail
      refine CV.loopc ?_
      refine WCv.rounds callees false (α := Nat) (fun rd => [(3, bp b), (4, gv), (5, VI turns), (6, dv), (7, VI need), (9, VI 0), (10, VI 7), (17, VI rd)]) (fun rd Hz => rd ≤ 20 ∧ Box b Hz ∧ KeepX b H8 Hz) (fun rd => 20 - rd) (0) (by repeat' first | exact trivial | refine ⟨rfl, ?_⟩ | refine ⟨slot_int (by (try simp only [Int.toNat_natCast]); omega), ?_⟩) ?_ ?_
      · exact ⟨by omega, hbT, KeepX.refl _ _⟩
      rintro rd Hr ⟨hrd, hbr, kr⟩ hBr
      have lr := kr.1
      have hbrn := hbr.1
      by_cases hrd2 : rd < 20
      rotate_left
      · repeat' first
          | refine CO.cons rfl ?_
          | refine CO.nil ?_
          | refine CV.seq ?_
          | refine CV.region callees ?_
          | refine CV.cond ?_
          | refine CV.exit ?_
          | (refine ⟨fun _ => ?_, fun _ => ?_⟩ <;> first | (exfalso; omega) | skip)
          | fail
        refine (awakeM_spec (by omega)).mono ?_
        rintro r HZ ⟨rfl, kz⟩
        repeat' first
          | refine CO.cons rfl ?_
          | refine CO.nil ?_
          | refine CV.ret ?_
          | fail
        exact ⟨rfl, rfl⟩
      have hgr : OwnG Hr gv gs H2.n := OwnS.boxed hgT kr hbT
      have hdr : OwnD Hr dv ds H4.n := OwnS.boxed hdT kr hbT
      repeat' first
        | refine CO.cons rfl ?_
        | refine CO.nil ?_
        | refine CV.seq ?_
        | refine CV.region callees ?_
        | refine CV.cond ?_
        | refine CV.block ?_
        | refine CV.skip ?_
        | (refine ⟨fun _ => ?_, fun _ => ?_⟩ <;> first | (exfalso; omega) | skip)
        | fail
      refine CV.loopc ?_
      refine WCv.rounds callees false (α := Nat × Value × List Int) (fun (i, q3, m) => [(3, bp b), (4, gv), (5, VI turns), (6, dv), (7, VI need), (9, VI 0), (10, VI 7), (17, VI rd), (18, q3), (19, VI i)]) (fun (i, q3, m) Hz => i ≤ turns ∧ m.length = i ∧ (∀ x ∈ m, 0 ≤ x ∧ x < ds.length) ∧ Own 3 Hz q3 (m.map VI) Hr.n ∧ Box b Hz ∧ KeepX b Hr Hz) (fun (i, q3, m) => turns - i) (0, nilS, []) (by repeat' first | exact trivial | refine ⟨rfl, ?_⟩ | refine ⟨slot_int (by (try simp only [Int.toNat_natCast]); omega), ?_⟩) ?_ ?_
      · exact ⟨by omega, rfl, fun x hx => by simp at hx, .inl ⟨rfl, rfl⟩, hbr, KeepX.refl _ _⟩
      rintro ⟨i, q3, m⟩ Hs ⟨hi, hml, hmr, hq3, hbs, ks⟩ hBs
      have ls := ks.1
      have hgs5 : OwnG Hs gv gs H2.n := OwnS.boxed hgr ks hbr
      have hds5 : OwnD Hs dv ds H4.n := OwnS.boxed hdr ks hbr
      by_cases hi2 : i < turns
      · repeat' first
          | refine CO.cons rfl ?_
          | refine CO.nil ?_
          | refine CV.seq ?_
          | refine CV.region callees ?_
          | refine CV.cond ?_
          | refine CV.block ?_
          | refine CV.skip ?_
          | (refine ⟨_, di_len hds5.row, ?_⟩)
          | (refine ⟨fun _ => ?_, fun _ => ?_⟩ <;> first | (exfalso; omega) | skip)
          | fail
        refine (up_spec hb (by omega) hbs (by omega)).mono ?_
        rintro r Hw ⟨⟨x, rfl, x0, x1⟩, hbw, kw⟩
        have lw := kw.1
        have hqw := own_box hq3 kw hbs
        repeat' first
          | refine CO.cons rfl ?_
          | (refine ⟨_, _, build_one un22 one3 rfl, ?_⟩)
          | fail
        refine push_ask hqw (by omega) (by omega) (by omega) ?_
        intro q5 Hp hq5 kb5 hf5
        repeat' first
          | refine CO.cons rfl ?_
          | refine CO.nil ?_
          | refine CV.region callees ?_
          | refine ⟨(⟨by omega, by omega⟩ : inI64 _), ?_⟩
          | fail
        refine ⟨(i + 1, q5, m ++ [x]), (by repeat' first | exact trivial | refine ⟨rfl, ?_⟩ | refine ⟨slot_int (by (try simp only [Int.toNat_natCast]); omega), ?_⟩), (by (try dsimp only); omega), ?_⟩
        refine ⟨by omega, by rw [List.length_append, List.length_singleton, hml], fun y hy => ?_, hq5, hbw.keepBut kb5 (own_apartBox (H0 := H) hqw hbrn), kb5.keepX (ks.trans kw) (fun c hc => (hqw.lt hc).1)⟩
        rcases List.mem_append.1 hy with hy | hy
        · exact hmr y hy
        · rw [List.mem_singleton] at hy; rw [hy]; exact ⟨x0, by omega⟩
      obtain rfl : i = turns := by omega
      repeat' first
        | refine CO.cons rfl ?_
        | refine CO.nil ?_
        | refine CV.seq ?_
        | refine CV.region callees ?_
        | refine CV.cond ?_
        | refine CV.exit ?_
        | (refine ⟨fun _ => ?_, fun _ => ?_⟩ <;> first | (exfalso; omega) | skip)
        | fail
      refine (fed_spec (by omega) hgs5.row hds5.row hq3.row (by omega) hgk (by omega) hok (by omega) hmr).mono ?_
      rintro r Hf ⟨⟨cf, is, rfl, hf1, hf2⟩, kf⟩
      have fin : rd + 1 ≤ 20 ∧ Box b Hf ∧ KeepX b H8 Hf := ⟨by omega, hbs.keep kf, (kr.trans ks).trans (kf.butX b)⟩
      cases is
      · repeat' first
          | refine CO.cons rfl ?_
          | refine CO.nil ?_
          | refine CV.seq ?_
          | refine CV.region callees ?_
          | refine CV.cond ?_
          | refine CV.skip ?_
          | refine CO.consG rfl ?_
          | refine ⟨(⟨by omega, by omega⟩ : inI64 _), ?_⟩
          | fail
        refine ⟨(rd + 1), (by repeat' first | exact trivial | refine ⟨rfl, ?_⟩ | refine ⟨slot_int (by (try simp only [Int.toNat_natCast]); omega), ?_⟩), (by (try dsimp only); omega), ?_⟩
        exact fin
      obtain ⟨g1, g2, g3⟩ := hf1 rfl
      have hmem : m ∈ menusL ds m.length := mem_menus.2 ⟨rfl, fun j _ hj => ⟨(hmr m[j]! (by rw [getElem!_pos m j hj]; exact List.getElem_mem _)).1, (hmr m[j]! (by rw [getElem!_pos m j hj]; exact List.getElem_mem _)).2, g1 j hj⟩⟩
      rw [hml] at hmem
      obtain ⟨hz1, hz2⟩ := hfin m hmem g2
      exact absurd hz1 (by decide)
    · repeat' first
        | refine CO.cons rfl ?_
        | refine CO.nil ?_
        | refine CV.seq ?_
        | refine CV.region callees ?_
        | refine CV.cond ?_
        | refine CV.block ?_
        | refine CV.skip ?_
        | refine CO.consG rfl ?_
        | (refine ⟨fun _ => ?_, fun _ => ?_⟩ <;> first | (exfalso; omega) | skip)
        | fail
      refine CV.loopc ?_
      refine WCv.rounds callees false (α := Nat) (fun rd => [(3, bp b), (4, gv), (5, VI turns), (6, dv), (7, VI need), (9, VI 0), (10, VI 7), (17, VI rd)]) (fun rd Hz => rd ≤ 20 ∧ Box b Hz ∧ KeepX b H8 Hz) (fun rd => 20 - rd) (0) (by repeat' first | exact trivial | refine ⟨rfl, ?_⟩ | refine ⟨slot_int (by (try simp only [Int.toNat_natCast]); omega), ?_⟩) ?_ ?_
      · exact ⟨by omega, hbT, KeepX.refl _ _⟩
      rintro rd Hr ⟨hrd, hbr, kr⟩ hBr
      have lr := kr.1
      have hbrn := hbr.1
      by_cases hrd2 : rd < 20
      rotate_left
      · repeat' first
          | refine CO.cons rfl ?_
          | refine CO.nil ?_
          | refine CV.seq ?_
          | refine CV.region callees ?_
          | refine CV.cond ?_
          | refine CV.exit ?_
          | (refine ⟨fun _ => ?_, fun _ => ?_⟩ <;> first | (exfalso; omega) | skip)
          | fail
        refine (awakeM_spec (by omega)).mono ?_
        rintro r HZ ⟨rfl, kz⟩
        repeat' first
          | refine CO.cons rfl ?_
          | refine CO.nil ?_
          | refine CV.ret ?_
          | fail
        exact ⟨rfl, rfl⟩
      have hgr : OwnG Hr gv gs H2.n := OwnS.boxed hgT kr hbT
      have hdr : OwnD Hr dv ds H4.n := OwnS.boxed hdT kr hbT
      repeat' first
        | refine CO.cons rfl ?_
        | refine CO.nil ?_
        | refine CV.seq ?_
        | refine CV.region callees ?_
        | refine CV.cond ?_
        | refine CV.block ?_
        | refine CV.skip ?_
        | (refine ⟨fun _ => ?_, fun _ => ?_⟩ <;> first | (exfalso; omega) | skip)
        | fail
      refine CV.loopc ?_
      refine WCv.rounds callees false (α := Nat × Value × List Int) (fun (i, q3, m) => [(3, bp b), (4, gv), (5, VI turns), (6, dv), (7, VI need), (9, VI 0), (10, VI 7), (17, VI rd), (18, q3), (19, VI i)]) (fun (i, q3, m) Hz => i ≤ turns ∧ m.length = i ∧ (∀ x ∈ m, 0 ≤ x ∧ x < ds.length) ∧ Own 3 Hz q3 (m.map VI) Hr.n ∧ Box b Hz ∧ KeepX b Hr Hz) (fun (i, q3, m) => turns - i) (0, nilS, []) (by repeat' first | exact trivial | refine ⟨rfl, ?_⟩ | refine ⟨slot_int (by (try simp only [Int.toNat_natCast]); omega), ?_⟩) ?_ ?_
      · exact ⟨by omega, rfl, fun x hx => by simp at hx, .inl ⟨rfl, rfl⟩, hbr, KeepX.refl _ _⟩
      rintro ⟨i, q3, m⟩ Hs ⟨hi, hml, hmr, hq3, hbs, ks⟩ hBs
      have ls := ks.1
      have hgs5 : OwnG Hs gv gs H2.n := OwnS.boxed hgr ks hbr
      have hds5 : OwnD Hs dv ds H4.n := OwnS.boxed hdr ks hbr
      by_cases hi2 : i < turns
      · repeat' first
          | refine CO.cons rfl ?_
          | refine CO.nil ?_
          | refine CV.seq ?_
          | refine CV.region callees ?_
          | refine CV.cond ?_
          | refine CV.block ?_
          | refine CV.skip ?_
          | (refine ⟨_, di_len hds5.row, ?_⟩)
          | (refine ⟨fun _ => ?_, fun _ => ?_⟩ <;> first | (exfalso; omega) | skip)
          | fail
        refine (up_spec hb (by omega) hbs (by omega)).mono ?_
        rintro r Hw ⟨⟨x, rfl, x0, x1⟩, hbw, kw⟩
        have lw := kw.1
        have hqw := own_box hq3 kw hbs
        repeat' first
          | refine CO.cons rfl ?_
          | (refine ⟨_, _, build_one un22 one3 rfl, ?_⟩)
          | fail
        refine push_ask hqw (by omega) (by omega) (by omega) ?_
        intro q5 Hp hq5 kb5 hf5
        repeat' first
          | refine CO.cons rfl ?_
          | refine CO.nil ?_
          | refine CV.region callees ?_
          | refine ⟨(⟨by omega, by omega⟩ : inI64 _), ?_⟩
          | fail
        refine ⟨(i + 1, q5, m ++ [x]), (by repeat' first | exact trivial | refine ⟨rfl, ?_⟩ | refine ⟨slot_int (by (try simp only [Int.toNat_natCast]); omega), ?_⟩), (by (try dsimp only); omega), ?_⟩
        refine ⟨by omega, by rw [List.length_append, List.length_singleton, hml], fun y hy => ?_, hq5, hbw.keepBut kb5 (own_apartBox (H0 := H) hqw hbrn), kb5.keepX (ks.trans kw) (fun c hc => (hqw.lt hc).1)⟩
        rcases List.mem_append.1 hy with hy | hy
        · exact hmr y hy
        · rw [List.mem_singleton] at hy; rw [hy]; exact ⟨x0, by omega⟩
      obtain rfl : i = turns := by omega
      repeat' first
        | refine CO.cons rfl ?_
        | refine CO.nil ?_
        | refine CV.seq ?_
        | refine CV.region callees ?_
        | refine CV.cond ?_
        | refine CV.exit ?_
        | (refine ⟨fun _ => ?_, fun _ => ?_⟩ <;> first | (exfalso; omega) | skip)
        | fail
      refine (fed_spec (by omega) hgs5.row hds5.row hq3.row (by omega) hgk (by omega) hok (by omega) hmr).mono ?_
      rintro r Hf ⟨⟨cf, is, rfl, hf1, hf2⟩, kf⟩
      have fin : rd + 1 ≤ 20 ∧ Box b Hf ∧ KeepX b H8 Hf := ⟨by omega, hbs.keep kf, (kr.trans ks).trans (kf.butX b)⟩
      cases is
      · repeat' first
          | refine CO.cons rfl ?_
          | refine CO.nil ?_
          | refine CV.seq ?_
          | refine CV.region callees ?_
          | refine CV.cond ?_
          | refine CV.skip ?_
          | refine CO.consG rfl ?_
          | refine ⟨(⟨by omega, by omega⟩ : inI64 _), ?_⟩
          | fail
        refine ⟨(rd + 1), (by repeat' first | exact trivial | refine ⟨rfl, ?_⟩ | refine ⟨slot_int (by (try simp only [Int.toNat_natCast]); omega), ?_⟩), (by (try dsimp only); omega), ?_⟩
        exact fin
      obtain ⟨g1, g2, g3⟩ := hf1 rfl
      have hmem : m ∈ menusL ds m.length := mem_menus.2 ⟨rfl, fun j _ hj => ⟨(hmr m[j]! (by rw [getElem!_pos m j hj]; exact List.getElem_mem _)).1, (hmr m[j]! (by rw [getElem!_pos m j hj]; exact List.getElem_mem _)).2, g1 j hj⟩⟩
      rw [hml] at hmem
      obtain ⟨hz1, hz2⟩ := hfin m hmem g2
      exact absurd hz1 (by decide)
  · obtain ⟨hpe, rfl, hq⟩ : p = costM ds m0 ∧ c = 0 ∧ Own 3 H7 q (m0.map VI) H6.n := by
      rcases hr1 with ⟨h0, _⟩ | ⟨b0, h0, h1, h2⟩
      · rw [e] at h0; cases h0
      · rw [e] at h0; cases h0; exact ⟨rfl, h1, h2⟩
    obtain ⟨rfl, hp2⟩ : c2 = 0 ∧ p2 ≤ p := by
      rcases menF_spec (gs := gs) (ds := ds) (need := need2) _ (menusL ds turns) rfl with ⟨e2, hno2⟩ | ⟨m2, e2, hm2, hen2, hbest2⟩
      · have := hno2 m0 hm0
        rw [enM_less hnl hen0] at this; cases this
      · rcases hr2 with ⟨h0, _⟩ | ⟨b0, h0, h1, h2⟩
        · rw [e2] at h0; cases h0
        · rw [e2] at h0; cases h0
          exact ⟨h1, by rw [hpe]; exact hbest2 m0 hm0 (enM_less hnl hen0)⟩
    have hfin : ∀ m, m ∈ menusL ds turns → enM gs ds need m = true → (0 : Int) = 0 ∧ p ≤ costM ds m := fun m hm he => ⟨rfl, by rw [hpe]; exact hbest m hm he⟩
    obtain ⟨hm0l, hm0f⟩ := mem_menus.1 hm0
    have hq8 : Own 3 H8 q (m0.map VI) H6.n := Own.keep hq k8
    have hqi : Ints H8 q m0 := hq8.row
    have hm0r : ∀ x ∈ m0, 0 ≤ x ∧ x < ds.length := fun x hx => by
      obtain ⟨j, hj, ej⟩ := List.getElem_of_mem hx
      have := hm0f j (Nat.zero_le _) hj
      rw [getElem!_pos m0 j hj, ej] at this
      exact ⟨this.1, this.2.1⟩
    repeat' first
      | refine CO.cons rfl ?_
      | refine CO.nil ?_
      | refine CV.seq ?_
      | refine CV.region callees ?_
      | refine CV.cond ?_
      | refine CV.block ?_
      | refine CV.skip ?_
      | refine CO.consG rfl ?_
      | refine ⟨_, ints_len (by assumption), ?_⟩
      | (refine ⟨fun _ => ?_, fun _ => ?_⟩ <;> first | (exfalso; omega) | skip)
      | fail
    refine CV.loopc ?_
    refine WCv.rounds callees false (α := Nat) (fun i => [(3, bp b), (4, gv), (5, VI turns), (6, dv), (7, VI need), (8, q), (9, VI p), (10, VI 0), (14, VI i)]) (fun i Hz => i ≤ turns ∧ Hz = H8) (fun i => turns - i) (0) (by repeat' first | exact trivial | refine ⟨rfl, ?_⟩ | refine ⟨slot_int (by (try simp only [Int.toNat_natCast]); omega), ?_⟩) ?_ ?_
    · exact ⟨by omega, rfl⟩
    rintro i Hi ⟨hi, rfl⟩ hBi
    by_cases hi2 : i < turns
    · have hxi : m0[(i : Int).toNat]! = m0[i]! := rfl
      have hb0 := hm0r m0[i]! (by rw [getElem!_pos m0 i (by omega)]; exact List.getElem_mem _)
      repeat' first
        | refine CO.cons rfl ?_
        | refine CO.nil ?_
        | refine CV.seq ?_
        | refine CV.region callees ?_
        | refine CV.cond ?_
        | refine CV.block ?_
        | refine CV.skip ?_
        | refine CO.consG rfl ?_
        | refine ⟨_, ints_addr (by assumption) (by omega) (by omega), ?_⟩
        | refine ⟨_, ints_load (by assumption) (by omega) (by omega), ?_⟩
        | refine ⟨(⟨by omega, by omega⟩ : inI64 _), ?_⟩
        | (refine ⟨_, di_len hdT.row, ?_⟩)
        | (refine ⟨fun _ => ?_, fun _ => ?_⟩ <;> first | (exfalso; omega) | skip)
        | fail
      refine ⟨(i + 1), (by repeat' first | exact trivial | refine ⟨rfl, ?_⟩ | refine ⟨slot_int (by (try simp only [Int.toNat_natCast]); omega), ?_⟩), (by (try dsimp only); omega), ?_⟩
      exact ⟨by omega, rfl⟩
    repeat' first
      | refine CO.cons rfl ?_
      | refine CO.nil ?_
      | refine CV.seq ?_
      | refine CV.region callees ?_
      | refine CV.cond ?_
      | refine CV.exit ?_
      | (refine ⟨fun _ => ?_, fun _ => ?_⟩ <;> first | (exfalso; omega) | skip)
      | fail
    refine (fed_spec (by omega) hgT.row hdT.row hqi (by omega) hgk (by omega) hok (by omega) hm0r).mono ?_
    rintro r H9 ⟨⟨cf, is, rfl, hf1, hf2⟩, k9⟩
    have l9 := k9.1
    obtain rfl : is = true := hf2 (fun j hj => (hm0f j (Nat.zero_le _) hj).2.2) hen0
    have hcf : cf = p := by rw [hpe]; exact (hf1 rfl).2.2
    subst hcf
    replace hgT : OwnG H9 gv gs H2.n := OwnS.keep hgT k9
    replace hdT : OwnD H9 dv ds H4.n := OwnS.keep hdT k9
    replace hbT := hbT.keep k9
    clear hf1 hf2
    repeat' first
      | refine CO.cons rfl ?_
      | refine CO.nil ?_
      | refine CV.seq ?_
      | refine CV.region callees ?_
      | refine CV.cond ?_
      | refine CV.block ?_
      | refine CV.skip ?_
      | refine CO.consG rfl ?_
      | (refine ⟨fun _ => ?_, fun _ => ?_⟩ <;> first | (exfalso; omega) | skip)
      | fail
    refine CV.loopc ?_
    refine WCv.rounds callees false (α := Nat) (fun rd => [(3, bp b), (4, gv), (5, VI turns), (6, dv), (7, VI need), (9, VI cf), (10, VI 0), (17, VI rd)]) (fun rd Hz => rd ≤ 20 ∧ Box b Hz ∧ KeepX b H9 Hz) (fun rd => 20 - rd) (0) (by repeat' first | exact trivial | refine ⟨rfl, ?_⟩ | refine ⟨slot_int (by (try simp only [Int.toNat_natCast]); omega), ?_⟩) ?_ ?_
    · exact ⟨by omega, hbT, KeepX.refl _ _⟩
    rintro rd Hr ⟨hrd, hbr, kr⟩ hBr
    have lr := kr.1
    have hbrn := hbr.1
    by_cases hrd2 : rd < 20
    rotate_left
    · repeat' first
        | refine CO.cons rfl ?_
        | refine CO.nil ?_
        | refine CV.seq ?_
        | refine CV.region callees ?_
        | refine CV.cond ?_
        | refine CV.exit ?_
        | (refine ⟨fun _ => ?_, fun _ => ?_⟩ <;> first | (exfalso; omega) | skip)
        | fail
      refine (awakeM_spec (by omega)).mono ?_
      rintro r HZ ⟨rfl, kz⟩
      repeat' first
        | refine CO.cons rfl ?_
        | refine CO.nil ?_
        | refine CV.ret ?_
        | fail
      exact ⟨rfl, rfl⟩
    have hgr : OwnG Hr gv gs H2.n := OwnS.boxed hgT kr hbT
    have hdr : OwnD Hr dv ds H4.n := OwnS.boxed hdT kr hbT
    repeat' first
      | refine CO.cons rfl ?_
      | refine CO.nil ?_
      | refine CV.seq ?_
      | refine CV.region callees ?_
      | refine CV.cond ?_
      | refine CV.block ?_
      | refine CV.skip ?_
      | (refine ⟨fun _ => ?_, fun _ => ?_⟩ <;> first | (exfalso; omega) | skip)
      | fail
    refine CV.loopc ?_
    refine WCv.rounds callees false (α := Nat × Value × List Int) (fun (i, q3, m) => [(3, bp b), (4, gv), (5, VI turns), (6, dv), (7, VI need), (9, VI cf), (10, VI 0), (17, VI rd), (18, q3), (19, VI i)]) (fun (i, q3, m) Hz => i ≤ turns ∧ m.length = i ∧ (∀ x ∈ m, 0 ≤ x ∧ x < ds.length) ∧ Own 3 Hz q3 (m.map VI) Hr.n ∧ Box b Hz ∧ KeepX b Hr Hz) (fun (i, q3, m) => turns - i) (0, nilS, []) (by repeat' first | exact trivial | refine ⟨rfl, ?_⟩ | refine ⟨slot_int (by (try simp only [Int.toNat_natCast]); omega), ?_⟩) ?_ ?_
    · exact ⟨by omega, rfl, fun x hx => by simp at hx, .inl ⟨rfl, rfl⟩, hbr, KeepX.refl _ _⟩
    rintro ⟨i, q3, m⟩ Hs ⟨hi, hml, hmr, hq3, hbs, ks⟩ hBs
    have ls := ks.1
    have hgs5 : OwnG Hs gv gs H2.n := OwnS.boxed hgr ks hbr
    have hds5 : OwnD Hs dv ds H4.n := OwnS.boxed hdr ks hbr
    by_cases hi2 : i < turns
    · repeat' first
        | refine CO.cons rfl ?_
        | refine CO.nil ?_
        | refine CV.seq ?_
        | refine CV.region callees ?_
        | refine CV.cond ?_
        | refine CV.block ?_
        | refine CV.skip ?_
        | (refine ⟨_, di_len hds5.row, ?_⟩)
        | (refine ⟨fun _ => ?_, fun _ => ?_⟩ <;> first | (exfalso; omega) | skip)
        | fail
      refine (up_spec hb (by omega) hbs (by omega)).mono ?_
      rintro r Hw ⟨⟨x, rfl, x0, x1⟩, hbw, kw⟩
      have lw := kw.1
      have hqw := own_box hq3 kw hbs
      repeat' first
        | refine CO.cons rfl ?_
        | (refine ⟨_, _, build_one un22 one3 rfl, ?_⟩)
        | fail
      refine push_ask hqw (by omega) (by omega) (by omega) ?_
      intro q5 Hp hq5 kb5 hf5
      repeat' first
        | refine CO.cons rfl ?_
        | refine CO.nil ?_
        | refine CV.region callees ?_
        | refine ⟨(⟨by omega, by omega⟩ : inI64 _), ?_⟩
        | fail
      refine ⟨(i + 1, q5, m ++ [x]), (by repeat' first | exact trivial | refine ⟨rfl, ?_⟩ | refine ⟨slot_int (by (try simp only [Int.toNat_natCast]); omega), ?_⟩), (by (try dsimp only); omega), ?_⟩
      refine ⟨by omega, by rw [List.length_append, List.length_singleton, hml], fun y hy => ?_, hq5, hbw.keepBut kb5 (own_apartBox (H0 := H) hqw hbrn), kb5.keepX (ks.trans kw) (fun c hc => (hqw.lt hc).1)⟩
      rcases List.mem_append.1 hy with hy | hy
      · exact hmr y hy
      · rw [List.mem_singleton] at hy; rw [hy]; exact ⟨x0, by omega⟩
    obtain rfl : i = turns := by omega
    repeat' first
      | refine CO.cons rfl ?_
      | refine CO.nil ?_
      | refine CV.seq ?_
      | refine CV.region callees ?_
      | refine CV.cond ?_
      | refine CV.exit ?_
      | (refine ⟨fun _ => ?_, fun _ => ?_⟩ <;> first | (exfalso; omega) | skip)
      | fail
    refine (fed_spec (by omega) hgs5.row hds5.row hq3.row (by omega) hgk (by omega) hok (by omega) hmr).mono ?_
    rintro r Hf ⟨⟨cf, is, rfl, hf1, hf2⟩, kf⟩
    have fin : rd + 1 ≤ 20 ∧ Box b Hf ∧ KeepX b H9 Hf := ⟨by omega, hbs.keep kf, (kr.trans ks).trans (kf.butX b)⟩
    cases is
    · repeat' first
        | refine CO.cons rfl ?_
        | refine CO.nil ?_
        | refine CV.seq ?_
        | refine CV.region callees ?_
        | refine CV.cond ?_
        | refine CV.skip ?_
        | refine CO.consG rfl ?_
        | refine ⟨(⟨by omega, by omega⟩ : inI64 _), ?_⟩
        | fail
      refine ⟨(rd + 1), (by repeat' first | exact trivial | refine ⟨rfl, ?_⟩ | refine ⟨slot_int (by (try simp only [Int.toNat_natCast]); omega), ?_⟩), (by (try dsimp only); omega), ?_⟩
      exact fin
    obtain ⟨g1, g2, g3⟩ := hf1 rfl
    have hmem : m ∈ menusL ds m.length := mem_menus.2 ⟨rfl, fun j _ hj => ⟨(hmr m[j]! (by rw [getElem!_pos m j hj]; exact List.getElem_mem _)).1, (hmr m[j]! (by rw [getElem!_pos m j hj]; exact List.getElem_mem _)).2, g1 j hj⟩⟩
    rw [hml] at hmem
    obtain ⟨hz1, hz2⟩ := hfin m hmem g2
    repeat' first
      | refine CO.cons rfl ?_
      | refine CO.nil ?_
      | refine CV.seq ?_
      | refine CV.region callees ?_
      | refine CV.cond ?_
      | refine CV.skip ?_
      | refine CO.consG rfl ?_
      | refine ⟨(⟨by omega, by omega⟩ : inI64 _), ?_⟩
      | (refine ⟨fun _ => ?_, fun _ => ?_⟩ <;> first | (exfalso; omega) | skip)
      | fail
    refine ⟨(rd + 1), (by repeat' first | exact trivial | refine ⟨rfl, ?_⟩ | refine ⟨slot_int (by (try simp only [Int.toNat_natCast]); omega), ?_⟩), (by (try dsimp only); omega), ?_⟩
    exact fin
end Go.Proofs.Ytlamceokhbigaaa

