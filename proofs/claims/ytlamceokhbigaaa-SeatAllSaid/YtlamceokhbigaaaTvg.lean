
/- SeatAll. -/
import Derived.Test.YtlamceokhbigaaaThg
import Derived.Test.YtlamceokhbigaaaTtg
set_option linter.unusedVariables false
set_option linter.unusedSimpArgs false
namespace Go.Proofs.Ytlamceokhbigaaa
open Go.AI
theorem nil_ints0 {X : Heap} : Ints X (.slice none 0 0) [] := .inl ⟨rfl, rfl⟩
theorem cnt0_row {n a : Nat} : (rowF (cnt []) n a).map VI = List.replicate n (VI 0) := by
  unfold rowF
  rw [List.map_map]
  apply List.ext_getElem (by simp)
  intro i h1 h2
  rw [List.getElem_map, List.getElem_replicate]
  rfl
/-- The allowed ones among the first orders. -/
def okT (gs : List Gu) (rs : List Ru) (i : Nat) : List (List Int) := ((fillL gs.length gs.length []).take i).filter (okB gs rs)
theorem okT_succ {gs : List Gu} {rs : List Ru} {i : Nat} (h : i < (fillL gs.length gs.length []).length) : okT gs rs (i + 1) = bif okB gs rs (fillL gs.length gs.length [])[i]! then okT gs rs i ++ [(fillL gs.length gs.length [])[i]!] else okT gs rs i := by
  unfold okT
  rw [one_at h, List.filter_append]
  generalize (fillL gs.length gs.length [])[i]! = x
  cases hc : okB gs rs x
  · simp [List.filter_cons, hc]
  · simp [List.filter_cons, hc]
theorem okT_end {gs : List Gu} {rs : List Ru} {i : Nat} (h : i = (fillL gs.length gs.length []).length) : okT gs rs i = okL gs rs := by
  unfold okT okL
  rw [h, List.take_length]
theorem okT_len {gs : List Gu} {rs : List Ru} {i : Nat} : (okT gs rs i).length ≤ i := by
  unfold okT
  exact Nat.le_trans (List.length_filter_le _ _) (by rw [List.length_take]; omega)
set_option maxHeartbeats 32000000 in
set_option maxRecDepth 100000 in
theorem all_spec {v : Value} {H : Heap} {nums : List Int} (hv : Ints H v nums) (hx : nums.length ≤ 9223372036854775807) :
    CallB Try.prog H.n 8 [v] H (fun r _ => r = .bool true) := by
  have hn : H.n ≤ H.n := Nat.le_refl _
  refine CV.enter callees false rfl Try.func8 rfl (by kernel_rfl) (Nat.le_of_ble_eq_true rfl) hn ?_
  repeat' first
    | refine CO.cons rfl ?_
    | refine CO.nil ?_
    | refine CV.seq ?_
    | refine CV.region callees ?_
    | fail
  refine (boxOf_spec hn hv hx).mono ?_
  rintro r H1 ⟨⟨b, rfl, hb, hbox⟩, k1⟩
  have l1 := k1.1
  have hbn := hbox.1
  repeat' first
    | refine CO.cons rfl ?_
    | fail
  refine (partyOf_spec hb l1 hbox (by omega) (by omega) (by omega) (by omega)).mono ?_
  rintro r H2 ⟨⟨gv, rv, gs, rs, rfl, hg2, hr2, hp, hgl, hrl⟩, hb2, x2⟩
  have l2 := x2.1
  have h1 := hp.n1
  have h7 := hp.n7
  have hm12 := hp.m
  repeat' first
    | refine CO.cons rfl ?_
    | (refine ⟨_, _, al25, ?_⟩)
    | fail
  generalize hs3 : Heap.new H2 _ = H3
  have hg3 := new_get hs3
  have k3 := new_keep hs3
  have n3 := new_n hs3
  obtain ⟨b3, hbn3⟩ : ∃ b, Heap.n H2 = b := ⟨_, rfl⟩
  rw [hbn3] at hg3 n3 ⊢
  repeat' first
    | fail
  refine ⟨_, _, st25 hg2.oneC hr2.oneC hg3, by omega, ?_⟩
  generalize hs4 : Heap.set H3 b3 _ = H4
  have hg4 : H4.get b3 = some (.cells (Pal gv rv) 25 1) := set_get hs4
  have n4 := set_n hs4
  have o4 := set_old hs4
  have k24 : Keep H2 H4 := keep_put k3 (by omega) o4 n4
  have l4 := k24.1
  have hg4' : OwnG H4 gv gs H1.n := OwnS.keep hg2 k24
  have hr4 : OwnR H4 rv rs H1.n := OwnS.keep hr2 k24
  repeat' first
    | refine CO.cons rfl ?_
    | refine CO.nil ?_
    | refine CV.seq ?_
    | refine CV.region callees ?_
    | (refine ⟨_, ld25 hg4, ?_⟩)
    | fail
  refine (count_spec (by omega) hg4'.row hg4'.same hr4.row hp).mono ?_
  rintro v I1 ⟨rfl, j1⟩
  have m1 := j1.1
  repeat' first
    | refine CO.cons rfl ?_
    | refine CO.nil ?_
    | refine CV.seq ?_
    | refine CV.region callees ?_
    | (refine ⟨_, ld25 ((j1.2 b3 (by omega)).trans hg4), ?_⟩)
    | fail
  refine (best_spec (by omega) (hg4'.keep j1).row hg4'.same (hr4.keep j1).row hp).mono ?_
  rintro v I2 ⟨⟨q3, p3, c3, rfl, hb3⟩, j2⟩
  have m2 := j2.1
  have j12 := j1.trans j2
  repeat' first
    | refine CO.cons rfl ?_
    | refine CO.nil ?_
    | refine CV.seq ?_
    | refine CV.region callees ?_
    | (refine ⟨_, ld25 ((j12.2 b3 (by omega)).trans hg4), ?_⟩)
    | fail
  refine (sure_spec (by omega) (hg4'.keep j12).row hg4'.same (hr4.keep j12).row hp).mono ?_
  rintro v I3 ⟨⟨q, c, rfl, hs3⟩, j3⟩
  have m3 := j3.1
  have j13 := j12.trans j3
  have hP3 := (j13.2 b3 (by omega)).trans hg4
  have hgv3 : OwnG I3 gv gs H1.n := hg4'.keep j13
  obtain ⟨F, hF⟩ : ∃ F, okL gs rs = F := ⟨_, rfl⟩
  have hFl : F.length ≤ 823543 := by rw [← hF]; exact okL_len h7
  have key : ∃ bl, Ints I3 q3 bl ∧ bl.length ≤ 7 ∧ (∀ o ∈ F, bl.length = o.length ∧ p3 ≤ prO gs rs o ∧ (prO gs rs o = p3 → befL o bl = false)) ∧ (F ≠ [] → bl ∈ F ∧ prO gs rs bl = p3) ∧ (F.length = 0 ∧ c3 = 12 ∨ 0 < F.length ∧ c3 = 0) := by
    rcases hb3 with ⟨h, rfl, rfl, rfl⟩ | ⟨b', h, rfl, hq⟩
    · have he : F = [] := by
        rw [hF] at h
        rcases bestF_is (gs := gs) (rs := rs) (F := F) with ⟨e, _⟩ | ⟨b, e, _⟩
        · exact e
        · rw [h] at e; cases e
      exact ⟨[], nil_ints0, by simp, by rw [he]; simp, fun h => absurd he h, .inl ⟨by rw [he]; rfl, rfl⟩⟩
    · have hne : okL gs rs ≠ [] := fun e => by rw [e] at h; cases h
      obtain ⟨b, e1, e2, e3⟩ := bestF_first hne
      rw [e1] at h
      cases h
      have hbl := (mem_okL.1 e2).1.l
      rw [hF] at e2 e3 hne
      exact ⟨b', Row.keep hq.row j3, by omega, fun o ho => ⟨by have := (mem_okL.1 (hF ▸ ho : o ∈ okL gs rs)).1.l; omega, e3 o ho⟩, fun _ => ⟨e2, rfl⟩, .inr ⟨List.length_pos_iff.2 hne, rfl⟩⟩
  obtain ⟨bl, hqb, hbl7, hbest, hbm, hk3⟩ := key
  have key2 : ∃ xs, (F.length = 0 ∧ c = 12 ∨ 0 < F.length ∧ c = 0) ∧ (0 < F.length → LLs I3 q xs ((List.range gs.length).map fun (x : Nat) => rowV F (x : Int) gs.length) I2.n 0) := by
    rcases hs3 with ⟨h, rfl, rfl⟩ | ⟨h, rfl, xs, hL⟩
    · rw [hF] at h
      exact ⟨[], .inl ⟨by rw [h]; rfl, rfl⟩, fun h2 => by rw [h] at h2; simp at h2⟩
    · rw [hF] at h hL
      exact ⟨xs, .inr ⟨List.length_pos_iff.2 h, rfl⟩, fun _ => hL⟩
  obtain ⟨xs, hk, hX⟩ := key2
  clear hb3 hs3
  rw [hF]
  rcases hk3 with ⟨z0, rfl⟩ | ⟨z0, rfl⟩
  all_goals rcases hk with ⟨z1, rfl⟩ | ⟨z1, rfl⟩
  case inl.inr => exfalso; omega
  case inr.inl => exfalso; omega
  · obtain ⟨I4, j4, hI⟩ : ∃ I4, Keep I3 I4 ∧ I3 = I4 := ⟨_, Keep.refl _, rfl⟩
    repeat' first
      | refine CO.cons rfl ?_
      | refine CO.nil ?_
      | refine CV.seq ?_
      | refine CV.region callees ?_
      | refine CV.cond ?_
      | refine CV.skip ?_
      | refine CO.consG rfl ?_
      | (refine ⟨fun _ => ?_, fun _ => ?_⟩ <;> first | (exfalso; omega) | skip)
      | fail
    rw [hI]
    have k44 : Keep H4 I4 := j13.trans j4
    have m4 := k44.1
    have hP4' := (k44.2 b3 (by omega)).trans hg4
    have hgv : OwnG I4 gv gs H1.n := hg4'.keep k44
    have hrv : OwnR I4 rv rs H1.n := hr4.keep k44
    have hq4 : Ints I4 q3 bl := Row.keep hqb j4
    repeat' first
      | refine CO.cons rfl ?_
      | refine CO.nil ?_
      | refine CV.seq ?_
      | refine CV.region callees ?_
      | refine CV.block ?_
      | (refine ⟨_, fS foP0 (by decide), ?_⟩)
      | (refine ⟨_, cell_load ag22g hP4' rfl, ?_⟩)
      | (refine ⟨_, gs_len hgv.row, ?_⟩)
      | (refine ⟨_, _, make_row24 un34 one22 (by decide) gs.length (by omega), ?_⟩)
      | fail
    generalize hsa : Heap.new I4 _ = Ha
    have hga := new_get hsa
    have ka := new_keep hsa
    have na := new_n hsa
    obtain ⟨ba, hbna⟩ : ∃ b, Heap.n I4 = b := ⟨_, rfl⟩
    rw [hbna] at hga na ⊢
    obtain ⟨fv, hfv⟩ : ∃ fv, Value.slice (some ⟨ba, 0, none⟩) gs.length 0 = fv := ⟨_, rfl⟩
    have hfa : Own 26 Ha fv (List.replicate gs.length nilS) I4.n := by
      rw [← hfv]
      exact .inr ⟨ba, by rw [List.length_replicate], by omega, by omega, hga⟩
    rw [hfv]
    repeat' first
      | fail
    refine CV.loopc ?_
    refine WCv.rounds callees false (α := Nat × List Value) (fun (i, vs) => [(3, .pointer (some ⟨b3, 0, none⟩)), (4, VI F.length), (6, q3), (7, VI p3), (9, q), (11, fv), (12, VI i)]) (fun (i, vs) Hz => i ≤ gs.length ∧ vs.length = gs.length ∧ Own 26 Hz fv vs I4.n ∧ (∀ a, a < i → Own 3 Hz vs[a]! ((rowF (cnt []) gs.length a).map VI) I4.n) ∧ (∀ a b, a < i → b < i → a ≠ b → ∀ c, blkOf vs[a]! = some c → blkOf vs[b]! ≠ some c) ∧ Keep I4 Hz) (fun (i, vs) => gs.length - i) (0, List.replicate gs.length nilS) (by repeat' first | exact trivial | refine ⟨rfl, ?_⟩ | refine ⟨slot_int (by (try simp only [Int.toNat_natCast]); omega), ?_⟩) ?_ ?_
    · exact ⟨by omega, by rw [List.length_replicate], hfa, fun a h => by omega, fun a b h => by omega, ka⟩
    rintro ⟨i, vs⟩ U ⟨hi, hvl, hfu, hru, hap, ku⟩ hBu
    have lu := ku.1
    by_cases hi2 : i < gs.length
    · repeat' first
        | refine CO.cons rfl ?_
        | refine CO.nil ?_
        | refine CV.seq ?_
        | refine CV.region callees ?_
        | refine CV.cond ?_
        | refine CV.block ?_
        | refine CV.skip ?_
        | (refine ⟨_, Row.alen hfu.row un34, ?_⟩)
        | (refine ⟨_, Row.addr hfu.row un34 sz26 (by omega) (by omega), ?_⟩)
        | (refine ⟨_, _, make_row un22 one3 (by decide) vs.length (by omega), ?_⟩)
        | (refine ⟨fun _ => ?_, fun _ => ?_⟩ <;> first | (exfalso; omega) | skip)
        | fail
      generalize hsc : Heap.new U _ = Hc
      have hgc := new_get hsc
      have kc := new_keep hsc
      have nc := new_n hsc
      obtain ⟨bc, hbnc⟩ : ∃ b, Heap.n U = b := ⟨_, rfl⟩
      rw [hbnc] at hgc nc ⊢
      have hfc := Own.keep hfu kc
      have hic : Own 3 Hc (.slice (some ⟨bc, 0, none⟩) vs.length 0) ((rowF (cnt []) gs.length i).map VI) I4.n := by
        rw [cnt0_row, ← hvl]
        exact .inr ⟨bc, by rw [List.length_replicate], by omega, by omega, hgc⟩
      repeat' first
        | fail
      refine store_ask (i := i) sz26 hfc (by omega) (by omega) rfl ?_
      intro Hd hfd kbd
      have ld := kbd.le
      repeat' first
        | refine CO.cons rfl ?_
        | refine CO.nil ?_
        | refine CV.region callees ?_
        | refine ⟨(⟨by omega, by omega⟩ : inI64 _), ?_⟩
        | fail
      refine ⟨(i + 1, vs.set i (.slice (some ⟨bc, 0, none⟩) vs.length 0)), (by repeat' first | exact trivial | refine ⟨rfl, ?_⟩ | refine ⟨slot_int (by (try simp only [Int.toNat_natCast]); omega), ?_⟩), (by (try dsimp only); omega), ?_⟩
      have hself : (vs.set i (.slice (some ⟨bc, 0, none⟩) vs.length 0))[i]! = .slice (some ⟨bc, 0, none⟩) vs.length 0 := by
        rw [getElem!_pos (vs.set i _) i (by rw [List.length_set]; omega), List.getElem_set_self]
      have hoth : ∀ a, a < i → (vs.set i (.slice (some ⟨bc, 0, none⟩) vs.length 0))[a]! = vs[a]! := fun a h => by
        rw [getElem!_pos (vs.set i _) a (by rw [List.length_set]; omega), List.getElem_set_ne (by omega), ← getElem!_pos vs a (by omega)]
      refine ⟨by omega, by rw [List.length_set]; exact hvl, hfd, fun a h => ?_, fun a b' h1 h2 h3 c' h4 h5 => ?_, kbd.keep (ku.trans kc) (fun c' hc' => (hfc.lt hc').1)⟩
      · by_cases e : a = i
        · subst e
          rw [hself]
          exact own_but hic hfc kbd
        · rw [hoth a (by omega)]
          exact own_but (Own.keep (hru a (by omega)) kc) hfc kbd
      · by_cases e : a = i
        · subst e
          rw [hself] at h4
          rw [hoth b' (by omega)] at h5
          have := ((hru b' (by omega)).lt h5).2
          cases h4
          omega
        · rw [hoth a (by omega)] at h4
          by_cases e2 : b' = i
          · subst e2
            rw [hself] at h5
            have := ((hru a (by omega)).lt h4).2
            cases h5
            omega
          · rw [hoth b' (by omega)] at h5
            exact hap a b' (by omega) (by omega) h3 c' h4 h5
    obtain rfl : i = gs.length := by omega
    have hTB : TB U fv vs (cnt []) gs.length I4.n := ⟨hfu, hvl, hru, hap⟩
    have hPu := (ku.2 b3 (by omega)).trans hP4'
    repeat' first
      | refine CO.cons rfl ?_
      | refine CO.nil ?_
      | refine CV.seq ?_
      | refine CV.region callees ?_
      | refine CV.cond ?_
      | refine CV.exit ?_
      | (refine ⟨_, Row.alen hfu.row un34, ?_⟩)
      | (refine ⟨_, fS foP0 (by decide), ?_⟩)
      | (refine ⟨_, cell_load ag22g hPu rfl, ?_⟩)
      | (refine ⟨_, gs_len (hgv.keep ku).row, ?_⟩)
      | (refine ⟨fun _ => ?_, fun _ => ?_⟩ <;> first | (exfalso; omega) | skip)
      | fail
    refine (ordersRef_spec (C := U.n) h7 (r := gs.length) (pre := []) (by omega) (Nat.le_refl _) (.inl ⟨rfl, rfl⟩) (by simp)).mono ?_
    rintro av K ⟨⟨avs, hA⟩, kk⟩
    have lk := kk.1
    repeat' first
      | refine CO.cons rfl ?_
      | refine CO.nil ?_
      | refine CV.seq ?_
      | refine CV.region callees ?_
      | refine CV.block ?_
      | fail
    obtain ⟨A, hAe⟩ : ∃ A, fillL gs.length gs.length [] = A := ⟨_, rfl⟩
    have hAl : A.length ≤ 823543 := by
      have e4 := fillL_len h7 (r := gs.length) (pre := [])
      have e5 : 7 ^ gs.length ≤ 7 ^ 7 := Nat.pow_le_pow_right (by decide) (by omega)
      have e6 : 7 ^ 7 = 823543 := by decide
      rw [hAe] at e4
      omega
    have hTK := hTB.keep kk
    have hvt : ∀ a, a < gs.length → ∀ c', blkOf vs[a]! = some c' → c' < U.n := fun a ha c' hc' => ((hTB.at' a ha).lt hc').2
    rw [hAe] at hA
    have hok0 : okT gs rs 0 = [] := by simp [okT]
    refine CV.loopc ?_
    refine WCv.rounds callees false (α := Nat × Nat × Bool) (fun (i, fd, mt) => [(3, .pointer (some ⟨b3, 0, none⟩)), (4, VI F.length), (6, q3), (7, VI p3), (9, q), (11, fv), (13, av), (14, VI fd), (15, .bool mt), (16, VI i)]) (fun (i, fd, mt) Hz => i ≤ A.length ∧ fd = (okT gs rs i).length ∧ mt = decide (bl ∈ okT gs rs i) ∧ TB Hz fv vs (cnt (okT gs rs i)) gs.length I4.n ∧ LLs Hz av avs A U.n U.n ∧ Keep I4 Hz ∧ K.n ≤ Hz.n) (fun (i, fd, mt) => A.length - i) (0, 0, false) (by repeat' first | exact trivial | refine ⟨rfl, ?_⟩ | refine ⟨slot_int (by (try simp only [Int.toNat_natCast]); omega), ?_⟩) ?_ ?_
    · exact ⟨by omega, by rw [hok0]; rfl, by rw [hok0]; simp, by rw [hok0]; exact hTK, hA, ku.trans kk, Nat.le_refl _⟩
    rintro ⟨i, fd, mt⟩ V ⟨hi, hfd, hmt, hTV, hAV, kv, lv⟩ hBv
    have hfdl := okT_len (gs := gs) (rs := rs) (i := i)
    have lv0 := kv.1
    have hPv := (kv.2 b3 (by omega)).trans hP4'
    have hgV : OwnG V gv gs H1.n := hgv.keep kv
    have hrV : OwnR V rv rs H1.n := hrv.keep kv
    have hqV : Ints V q3 bl := Row.keep hq4 kv
    have hAvl := hAV.len
    by_cases hi3 : i < A.length
    · have hiw : avs[i]? = some avs[i]! := by rw [List.getElem?_eq_getElem (by omega), getElem!_pos avs i (by omega)]
      obtain ⟨o, ho⟩ : ∃ o, A[i]! = o := ⟨_, rfl⟩
      have hom : o ∈ A := by rw [← ho, getElem!_pos A i hi3]; exact List.getElem_mem _
      have hof : Full gs.length o := mem_orders.1 (by rw [hAe]; exact hom)
      have hov := hAV.at' i hi3
      have hsu := okT_succ (gs := gs) (rs := rs) (i := i) (by rw [hAe]; exact hi3)
      rw [ho] at hov
      rw [hAe, ho] at hsu
      repeat' first
        | refine CO.cons rfl ?_
        | refine CO.nil ?_
        | refine CV.seq ?_
        | refine CV.region callees ?_
        | refine CV.cond ?_
        | refine CV.block ?_
        | refine CV.skip ?_
        | refine CV.draw callees (by decide +kernel) ?_
        | refine CH.cons rfl ?_
        | refine CH.nil ?_
        | (refine ⟨_, Row.alen hAV.own.row un34, ?_⟩)
        | (refine ⟨_, ld25 hPv, ?_⟩)
        | (refine ⟨_, Row.addr hAV.own.row un34 sz26 (by omega) (by omega), ?_⟩)
        | (refine ⟨_, Row.load hAV.own.row ag22 hiw, ?_⟩)
        | (refine ⟨fun _ => ?_, fun _ => ?_⟩ <;> first | (exfalso; omega) | skip)
        | fail
      refine (price2_spec (by omega) hgV hrV hov.row hp hof).mono ?_
      rintro w V1 ⟨⟨q5, w0, rfl, hw1, hw2, hq5⟩, kv1⟩
      have lv1 := kv1.1
      have hP1 := (kv1.2 b3 (by omega)).trans hPv
      repeat' first
        | refine CO.cons rfl ?_
        | refine CO.nil ?_
        | refine CV.seq ?_
        | refine CV.region callees ?_
        | refine CV.cond ?_
        | refine CV.skip ?_
        | refine CH.cons rfl ?_
        | refine CH.nil ?_
        | (refine ⟨_, ld25 hP1, ?_⟩)
        | (refine ⟨fun _ => ?_, fun _ => ?_⟩ <;> first | (exfalso; omega) | skip)
        | fail
      have hbN := bitsL_len (N := brkO gs rs o) (i := w0)
      refine (free_spec (by omega) (hgV.keep kv1) (hrV.keep kv1) hq5.row (by omega) (by omega) (fun x hx => bits_in hx)).mono ?_
      rintro w V2 ⟨⟨cb, rfl, hcb⟩, kv2⟩
      have lv2 := kv2.1
      have kv12 := kv1.trans kv2
      have hcb' : cb = okB gs rs o := by rw [Bool.eq_iff_iff, hcb, ok_bits hw2]
      subst hcb'
      cases hob : okB gs rs o
      · rw [hob, cond_false] at hsu
        repeat' first
          | refine CO.cons rfl ?_
          | refine CO.nil ?_
          | refine CV.region callees ?_
          | refine CV.cond ?_
          | refine CV.exit ?_
          | refine ⟨(⟨by omega, by omega⟩ : inI64 _), ?_⟩
          | fail
        refine ⟨(i + 1, fd, mt), (by repeat' first | exact trivial | refine ⟨rfl, ?_⟩ | refine ⟨slot_int (by (try simp only [Int.toNat_natCast]); omega), ?_⟩), (by (try dsimp only); omega), ?_⟩
        exact ⟨by omega, by rw [hsu]; exact hfd, by rw [hsu]; exact hmt, by rw [hsu]; exact hTV.keep kv12, hAV.keep kv12, kv.trans kv12, by omega⟩
      rw [hob, cond_true] at hsu
      have hoF : o ∈ F := by rw [← hF]; exact mem_okL.2 ⟨hof, hob⟩
      obtain ⟨hbo, hle, hbf⟩ := hbest o hoF
      have hol := hof.l
      have hoi : Ints V2 avs[i]! o := Row.keep hov.row kv12
      have hqi : Ints V2 q3 bl := Row.keep hqV kv12
      have hA2 := hAV.keep kv12
      repeat' first
        | refine CO.cons rfl ?_
        | refine CO.nil ?_
        | refine CV.cond ?_
        | refine CV.skip ?_
        | fail
      refine CV.seq ?_
      repeat' first
        | refine CO.cons rfl ?_
        | refine CO.nil ?_
        | refine CV.region callees ?_
        | refine ⟨(⟨by omega, by omega⟩ : inI64 _), ?_⟩
        | fail
      refine CV.seq ?_
      refine CV.midK (α := Unit) (fun _ => [(3, .pointer (some ⟨b3, 0, none⟩)), (4, VI F.length), (6, q3), (7, VI p3), (9, q), (11, fv), (13, av), (14, VI ((fd : Int) + 1)), (15, .bool mt), (16, VI i), (18, VI (prO gs rs o))]) (fun _ Hz => Keep V2 Hz) ?_ ?_
      · by_cases he : prO gs rs o = p3
        · repeat' first
            | refine CO.cons rfl ?_
            | refine CV.seq ?_
            | refine CV.region callees ?_
            | refine CO.consG rfl ?_
            | (refine ⟨_, Row.addr hA2.own.row un34 sz26 (by omega) (by omega), ?_⟩)
            | (refine ⟨_, Row.load hA2.own.row ag22 hiw, ?_⟩)
            | (refine ⟨fun _ => ?_, fun _ => ?_⟩ <;> first | (exfalso; omega) | skip)
            | fail
          refine (before_spec (by omega) hoi hqi (by omega) (by omega)).mono ?_
          rw [hbf he]
          rintro w V3 ⟨rfl, kv3⟩
          repeat' first
            | refine CO.cons rfl ?_
            | refine CO.nil ?_
            | refine CV.cond ?_
            | refine CV.skip ?_
            | refine CO.consG rfl ?_
            | fail
          refine ⟨(()), (by repeat' first | exact trivial | refine ⟨rfl, ?_⟩), ?_⟩
          exact kv3
        · repeat' first
            | refine CO.cons rfl ?_
            | refine CO.nil ?_
            | refine CV.seq ?_
            | refine CV.region callees ?_
            | refine CV.cond ?_
            | refine CV.skip ?_
            | refine CO.consG rfl ?_
            | (refine ⟨fun _ => ?_, fun _ => ?_⟩ <;> first | (exfalso; omega) | skip)
            | fail
          refine ⟨(()), (by repeat' first | exact trivial | refine ⟨rfl, ?_⟩), ?_⟩
          exact Keep.refl _
      rintro _ V3 kv3 hB3
      have lv3 := kv3.1
      have hoi3 : Ints V3 avs[i]! o := Row.keep hoi kv3
      have hqi3 : Ints V3 q3 bl := Row.keep hqi kv3
      have hA3 := hA2.keep kv3
      refine CV.seq ?_
      refine CV.midK (α := Bool) (fun m2 => [(3, .pointer (some ⟨b3, 0, none⟩)), (4, VI F.length), (6, q3), (7, VI p3), (9, q), (11, fv), (13, av), (14, VI ((fd : Int) + 1)), (15, .bool m2), (16, VI i)]) (fun m2 Hz => m2 = decide (bl ∈ okT gs rs (i + 1)) ∧ Keep V3 Hz) ?_ ?_
      · cases mt with
        | true =>
          repeat' first
            | refine CO.cons rfl ?_
            | refine CO.nil ?_
            | refine CV.region callees ?_
            | refine CO.consG rfl ?_
            | fail
          refine ⟨(true), (by repeat' first | exact trivial | refine ⟨rfl, ?_⟩), ?_⟩
          exact ⟨(decide_eq_true (by rw [hsu]; exact List.mem_append.2 (.inl (of_decide_eq_true hmt.symm)))).symm, Keep.refl _⟩
        | false =>
          repeat' first
            | refine CO.cons rfl ?_
            | refine CV.region callees ?_
            | refine CO.consG rfl ?_
            | (refine ⟨_, Row.addr hA3.own.row un34 sz26 (by omega) (by omega), ?_⟩)
            | (refine ⟨_, Row.load hA3.own.row ag22 hiw, ?_⟩)
            | fail
          refine (eqInts_spec (by omega) hoi3 hqi3 (by omega)).mono ?_
          by_cases heq : o = bl
          · have hpe : prO gs rs o = p3 := by rw [heq]; exact (hbm (List.ne_nil_of_mem hoF)).2
            rw [decide_eq_true heq]
            rintro w V4 ⟨rfl, kv4⟩
            repeat' first
              | refine CO.cons rfl ?_
              | refine CO.nil ?_
              | refine CO.consG rfl ?_
              | (refine ⟨fun _ => ?_, fun _ => ?_⟩ <;> first | (exfalso; omega) | skip)
              | fail
            refine ⟨(true), (by repeat' first | exact trivial | refine ⟨rfl, ?_⟩), ?_⟩
            exact ⟨(decide_eq_true (by rw [hsu, heq]; simp)).symm, kv4⟩
          · rw [decide_eq_false heq]
            rintro w V4 ⟨rfl, kv4⟩
            repeat' first
              | refine CO.cons rfl ?_
              | refine CO.nil ?_
              | refine CO.consG rfl ?_
              | fail
            refine ⟨(false), (by repeat' first | exact trivial | refine ⟨rfl, ?_⟩), ?_⟩
            refine ⟨(decide_eq_false ?_).symm, kv4⟩
            rw [hsu]
            intro hm
            rcases List.mem_append.1 hm with g | g
            · exact of_decide_eq_false hmt.symm g
            · exact heq (List.mem_singleton.1 g).symm
      rintro m2 V4 ⟨hm2, kv4⟩ hB4
      have k24 := kv12.trans (kv3.trans kv4)
      have l24 := k24.1
      have hT4 := hTV.keep k24
      have hA4 := hAV.keep k24
      repeat' first
        | refine CO.cons rfl ?_
        | refine CO.nil ?_
        | refine CV.seq ?_
        | refine CV.region callees ?_
        | refine CV.block ?_
        | fail
      refine CV.loopc ?_
      refine WCv.rounds callees false (α := Nat × (Int → Int → Int)) (fun (s, f) => [(3, .pointer (some ⟨b3, 0, none⟩)), (4, VI F.length), (6, q3), (7, VI p3), (9, q), (11, fv), (13, av), (14, VI ((fd : Int) + 1)), (15, .bool m2), (16, VI i), (20, VI s)]) (fun (s, f) Hz => s ≤ o.length ∧ outF f (o.drop s) = outF (cnt (okT gs rs i)) o ∧ (∀ a b, 0 ≤ f a b ∧ f a b ≤ (okT gs rs i).length + s * 7) ∧ TB Hz fv vs f gs.length I4.n ∧ LLs Hz av avs A U.n U.n ∧ Keep I4 Hz ∧ K.n ≤ Hz.n) (fun (s, f) => o.length - s) (0, cnt (okT gs rs i)) (by repeat' first | exact trivial | refine ⟨rfl, ?_⟩ | refine ⟨slot_int (by (try simp only [Int.toNat_natCast]); omega), ?_⟩) ?_ ?_
      · exact ⟨by omega, rfl, fun a b => by have := cnt_bd (F := okT gs rs i) (a := a) (b := b); omega, hT4, hA4, kv.trans k24, by omega⟩
      rintro ⟨s, f⟩ Y ⟨hs, hf, hfb, hTY, hAY, ky, ly⟩ hBy
      have hoY := (hAY.at' i hi3)
      rw [ho] at hoY
      have hoYi : Ints Y avs[i]! o := hoY.row
      by_cases hs2 : s < o.length
      · have hxm : o[s]! ∈ o := by rw [getElem!_pos o s hs2]; exact List.getElem_mem _
        have hxr := hof.r _ hxm
        have hxi : o[(s : Int).toNat]! = o[s]! := rfl
        rw [drop_at hs2, outF] at hf
        obtain ⟨rest, hrest⟩ : ∃ rest, o.drop (s + 1) = rest := ⟨_, rfl⟩
        have hrl : rest.length = o.length - (s + 1) := by rw [← hrest, List.length_drop]
        rw [hrest] at hf
        obtain ⟨x, hx⟩ : ∃ x, o[s]! = x := ⟨_, rfl⟩
        rw [hx] at hxi hxr hf
        repeat' first
          | refine CO.cons rfl ?_
          | refine CO.nil ?_
          | refine CV.seq ?_
          | refine CV.region callees ?_
          | refine CV.cond ?_
          | refine CV.block ?_
          | refine CV.skip ?_
          | refine ⟨_, ints_len (by assumption), ?_⟩
          | refine ⟨(⟨by omega, by omega⟩ : inI64 _), ?_⟩
          | (refine ⟨_, Row.addr hAY.own.row un34 sz26 (by omega) (by omega), ?_⟩)
          | (refine ⟨_, Row.load hAY.own.row ag22 hiw, ?_⟩)
          | (refine ⟨fun _ => ?_, fun _ => ?_⟩ <;> first | (exfalso; omega) | skip)
          | fail
        refine CV.loopc ?_
        refine WCv.rounds callees false (α := Nat × (Int → Int → Int)) (fun (t, g) => [(3, .pointer (some ⟨b3, 0, none⟩)), (4, VI F.length), (6, q3), (7, VI p3), (9, q), (11, fv), (13, av), (14, VI ((fd : Int) + 1)), (15, .bool m2), (16, VI i), (20, VI s), (21, VI ((s : Int) + 1 + t))]) (fun (t, g) Hz => t ≤ rest.length ∧ innF g x (rest.drop t) = innF f x rest ∧ (∀ a b, 0 ≤ g a b ∧ g a b ≤ (okT gs rs i).length + s * 7 + t) ∧ TB Hz fv vs g gs.length I4.n ∧ LLs Hz av avs A U.n U.n ∧ Keep I4 Hz ∧ K.n ≤ Hz.n) (fun (t, g) => rest.length - t) (0, f) (by repeat' first | exact trivial | refine ⟨rfl, ?_⟩ | refine ⟨slot_int (by (try simp only [Int.toNat_natCast]); omega), ?_⟩) ?_ ?_
        · exact ⟨by omega, rfl, fun a b => by have := hfb a b; omega, hTY, hAY, ky, ly⟩
        rintro ⟨t, g⟩ Z ⟨ht, hgf, hgb, hTZ, hAZ, kz, lz⟩ hBz
        have hoZ := (hAZ.at' i hi3)
        rw [ho] at hoZ
        have hoZi : Ints Z avs[i]! o := hoZ.row
        by_cases ht2 : t < rest.length
        · have hyo : rest[t]! = o[s + 1 + t]! := by rw [← hrest]; exact drop_get (by omega)
          have hym : rest[t]! ∈ o := by
            rw [hyo, getElem!_pos o _ (by omega)]
            exact List.getElem_mem _
          have hyr := hof.r _ hym
          rw [drop_at ht2, innF] at hgf
          have hyi : o[((s : Int) + 1 + t).toNat]! = rest[t]! := by rw [hyo, show ((s : Int) + 1 + t).toNat = s + 1 + t by omega]
          obtain ⟨y, hy⟩ : ∃ y, rest[t]! = y := ⟨_, rfl⟩
          rw [hy] at hyi hyr hgf
          have hgxy := hgb x y
          have hvl2 := hTZ.len
          have exn : ((x.toNat : Nat) : Int) = x := by omega
          have eyn : ((y.toNat : Nat) : Int) = y := by omega
          have hrx := hTZ.at' x.toNat (by omega)
          have hrxi : Ints Z vs[x.toNat]! (rowF g gs.length x.toNat) := hrx.row
          have hrn := rowF_len (f := g) (n := gs.length) (a := x.toNat)
          have hvx : vs[x.toNat]? = some vs[x.toNat]! := by rw [List.getElem?_eq_getElem (by omega), getElem!_pos vs x.toNat (by omega)]
          have hxy : (rowF g gs.length x.toNat)[y.toNat]! = g x y := by rw [rowF_at (by omega), exn, eyn]
          repeat' first
            | refine CO.cons rfl ?_
            | refine CO.nil ?_
            | refine CV.seq ?_
            | refine CV.region callees ?_
            | refine CV.cond ?_
            | refine CV.block ?_
            | refine CV.skip ?_
            | refine CV.draw callees (by decide +kernel) ?_
            | refine CH.cons rfl ?_
            | refine ⟨_, ints_len (by assumption), ?_⟩
            | refine ⟨_, ints_addr (by assumption) (by omega) (by omega), ?_⟩
            | refine ⟨_, ints_load (by assumption) (by omega) (by omega), ?_⟩
            | (refine ⟨_, Row.addr hAZ.own.row un34 sz26 (by omega) (by omega), ?_⟩)
            | (refine ⟨_, Row.load hAZ.own.row ag22 hiw, ?_⟩)
            | (refine ⟨fun _ => ?_, fun _ => ?_⟩ <;> first | (exfalso; omega) | skip)
            | fail
          rw [hxi]
          repeat' first
            | refine CH.cons rfl ?_
            | refine ⟨_, ints_addr (by assumption) (by omega) (by omega), ?_⟩
            | refine ⟨_, ints_load (by assumption) (by omega) (by omega), ?_⟩
            | (refine ⟨_, Row.addr hAZ.own.row un34 sz26 (by omega) (by omega), ?_⟩)
            | (refine ⟨_, Row.load hAZ.own.row ag22 hiw, ?_⟩)
            | (refine ⟨_, Row.addr hTZ.own.row un34 sz26 (by omega) (by omega), ?_⟩)
            | (refine ⟨_, Row.load hTZ.own.row ag22 hvx, ?_⟩)
            | fail
          rw [hyi]
          repeat' first
            | refine CO.cons rfl ?_
            | refine CH.cons rfl ?_
            | refine CH.nil ?_
            | refine ⟨_, ints_addr (by assumption) (by omega) (by omega), ?_⟩
            | refine ⟨(⟨by omega, by omega⟩ : inI64 _), ?_⟩
            | fail
          rw [hxy]
          refine put_ask (i := y.toNat) hrx (by omega) (by omega) ?_
          intro W hW kb
          have lW := kb.le
          repeat' first
            | refine CO.cons rfl ?_
            | refine CO.nil ?_
            | refine CV.region callees ?_
            | refine CH.nil ?_
            | refine ⟨(⟨by omega, by omega⟩ : inI64 _), ?_⟩
            | fail
          refine ⟨(t + 1, upd g x y), (by repeat' first | exact trivial | refine ⟨rfl, ?_⟩ | refine ⟨slot_int (by (try simp only [Int.toNat_natCast]); omega), ?_⟩), (by (try dsimp only); omega), ?_⟩
          have hT' := TB.put hTZ (x := x.toNat) (y := y.toNat) (by omega) (by omega) (by rw [exn, eyn]; exact hW) kb
          rw [exn, eyn] at hT'
          refine ⟨by omega, hgf, fun a b' => ?_, hT', ⟨Own.keepBut hAZ.own kb (fun c' h1 h2 => own_apart hrx hAZ.own c' h2 h1), hAZ.len, fun a ha => Own.keepBut (hAZ.at' a ha) kb (fun c' h1 h2 => by have := ((hAZ.at' a ha).lt h1).1; have := hvt x.toNat (by omega) c' h2; omega)⟩, kb.keep kz (fun c' hc' => (hrx.lt hc').1), by omega⟩
          have := hgb a b'
          unfold upd
          split <;> omega
        obtain rfl : t = rest.length := by omega
        rw [List.drop_length, innF] at hgf
        repeat' first
          | refine CO.cons rfl ?_
          | refine CO.nil ?_
          | refine CV.seq ?_
          | refine CV.region callees ?_
          | refine CV.cond ?_
          | refine CV.exit ?_
          | refine ⟨_, ints_len (by assumption), ?_⟩
          | refine ⟨(⟨by omega, by omega⟩ : inI64 _), ?_⟩
          | (refine ⟨_, Row.addr hAZ.own.row un34 sz26 (by omega) (by omega), ?_⟩)
          | (refine ⟨_, Row.load hAZ.own.row ag22 hiw, ?_⟩)
          | (refine ⟨fun _ => ?_, fun _ => ?_⟩ <;> first | (exfalso; omega) | skip)
          | fail
        refine ⟨(s + 1, g), (by repeat' first | exact trivial | refine ⟨rfl, ?_⟩ | refine ⟨slot_int (by (try simp only [Int.toNat_natCast]); omega), ?_⟩), (by (try dsimp only); omega), ?_⟩
        exact ⟨by omega, by rw [hrest, hgf]; exact hf, fun a b' => by have := hgb a b'; omega, hTZ, hAZ, kz, lz⟩
      obtain rfl : s = o.length := by omega
      rw [List.drop_length, outF, outF_cnt hof.nd, ← hsu] at hf
      rw [hf] at hTY
      repeat' first
        | refine CO.cons rfl ?_
        | refine CO.nil ?_
        | refine CV.seq ?_
        | refine CV.region callees ?_
        | refine CV.cond ?_
        | refine CV.exit ?_
        | refine ⟨_, ints_len (by assumption), ?_⟩
        | refine ⟨(⟨by omega, by omega⟩ : inI64 _), ?_⟩
        | (refine ⟨_, Row.addr hAY.own.row un34 sz26 (by omega) (by omega), ?_⟩)
        | (refine ⟨_, Row.load hAY.own.row ag22 hiw, ?_⟩)
        | (refine ⟨fun _ => ?_, fun _ => ?_⟩ <;> first | (exfalso; omega) | skip)
        | fail
      refine ⟨(i + 1, fd + 1, m2), (by repeat' first | exact trivial | refine ⟨rfl, ?_⟩ | refine ⟨slot_int (by (try simp only [Int.toNat_natCast]); omega), ?_⟩), (by (try dsimp only); omega), ?_⟩
      exact ⟨by omega, by rw [hsu, List.length_append, List.length_singleton]; omega, hm2, hTY, hAY, ky, ly⟩
    obtain rfl : i = A.length := by omega
    have hoe : okT gs rs A.length = F := by rw [okT_end (by rw [hAe]), hF]
    rw [hoe] at hfd hmt hTV
    have hvl3 := hTV.len
    have hz : ¬ 0 < F.length := by omega
    have hmt' : mt = false := by rw [hmt]; exact decide_eq_false (fun hm => hz (List.length_pos_of_mem hm))
    subst hmt'
    repeat' first
      | refine CO.cons rfl ?_
      | refine CO.nil ?_
      | refine CV.seq ?_
      | refine CV.region callees ?_
      | refine CV.cond ?_
      | refine CV.block ?_
      | refine CV.skip ?_
      | refine CV.exit ?_
      | refine CO.consG rfl ?_
      | (refine ⟨_, Row.alen hAV.own.row un34, ?_⟩)
      | (refine ⟨_, fun tm ha => step1_boolNeq un4 rfl (ev_tmp ha rfl) (ev_tmp ha rfl), ?_⟩)
      | (refine ⟨fun _ => ?_, fun _ => ?_⟩ <;> first | (exfalso; omega) | skip)
      | fail
    refine CV.loopc ?_
    refine WCv.rounds callees false (α := Nat) (fun a => [(3, .pointer (some ⟨b3, 0, none⟩)), (4, VI F.length), (9, q), (11, fv), (22, VI a)]) (fun a Hz => a = 0 ∧ Keep V Hz) (fun a => 0) (0) (by repeat' first | exact trivial | refine ⟨rfl, ?_⟩ | refine ⟨slot_int (by (try simp only [Int.toNat_natCast]); omega), ?_⟩) ?_ ?_
    · exact ⟨rfl, Keep.refl _⟩
    rintro a Y ⟨ha, ky⟩ hBy
    have hTY := hTV.keep ky
    repeat' first
      | refine CO.cons rfl ?_
      | refine CO.nil ?_
      | refine CV.seq ?_
      | refine CV.region callees ?_
      | refine CV.cond ?_
      | refine CV.exit ?_
      | refine CO.consG rfl ?_
      | (refine ⟨_, Row.alen hTY.own.row un34, ?_⟩)
      | (refine ⟨fun _ => ?_, fun _ => ?_⟩ <;> first | (exfalso; omega) | skip)
      | fail
    refine (awake_spec (by omega)).mono ?_
    rintro v I5 ⟨rfl, j5⟩
    repeat' first
      | refine CO.cons rfl ?_
      | refine CO.nil ?_
      | refine CV.ret ?_
      | fail
    exact ⟨rfl, rfl⟩
  · repeat' first
      | refine CO.cons rfl ?_
      | refine CO.nil ?_
      | refine CV.seq ?_
      | refine CV.region callees ?_
      | refine CO.consG rfl ?_
      | (refine ⟨_, fS foP0 (by decide), ?_⟩)
      | (refine ⟨_, cell_load ag22g hP3 rfl, ?_⟩)
      | (refine ⟨_, gs_len hgv3.row, ?_⟩)
      | (refine ⟨fun _ => ?_, fun _ => ?_⟩ <;> first | (exfalso; omega) | skip)
      | fail
    refine (square_spec (by omega) (hX z0) (by rw [List.length_map, List.length_range]) h7 (fun i hi => by rw [map_at (by rw [List.length_range]; exact hi), rowV_len])).mono ?_
    rintro v I4 ⟨rfl, j4⟩
    repeat' first
      | refine CO.cons rfl ?_
      | refine CO.nil ?_
      | refine CV.seq ?_
      | refine CV.region callees ?_
      | refine CV.cond ?_
      | refine CV.skip ?_
      | refine CO.consG rfl ?_
      | fail
    have k44 : Keep H4 I4 := j13.trans j4
    have m4 := k44.1
    have hP4' := (k44.2 b3 (by omega)).trans hg4
    have hgv : OwnG I4 gv gs H1.n := hg4'.keep k44
    have hrv : OwnR I4 rv rs H1.n := hr4.keep k44
    have hq4 : Ints I4 q3 bl := Row.keep hqb j4
    repeat' first
      | refine CO.cons rfl ?_
      | refine CO.nil ?_
      | refine CV.seq ?_
      | refine CV.region callees ?_
      | refine CV.block ?_
      | (refine ⟨_, fS foP0 (by decide), ?_⟩)
      | (refine ⟨_, cell_load ag22g hP4' rfl, ?_⟩)
      | (refine ⟨_, gs_len hgv.row, ?_⟩)
      | (refine ⟨_, _, make_row24 un34 one22 (by decide) gs.length (by omega), ?_⟩)
      | fail
    generalize hsa : Heap.new I4 _ = Ha
    have hga := new_get hsa
    have ka := new_keep hsa
    have na := new_n hsa
    obtain ⟨ba, hbna⟩ : ∃ b, Heap.n I4 = b := ⟨_, rfl⟩
    rw [hbna] at hga na ⊢
    obtain ⟨fv, hfv⟩ : ∃ fv, Value.slice (some ⟨ba, 0, none⟩) gs.length 0 = fv := ⟨_, rfl⟩
    have hfa : Own 26 Ha fv (List.replicate gs.length nilS) I4.n := by
      rw [← hfv]
      exact .inr ⟨ba, by rw [List.length_replicate], by omega, by omega, hga⟩
    rw [hfv]
    repeat' first
      | fail
    refine CV.loopc ?_
    refine WCv.rounds callees false (α := Nat × List Value) (fun (i, vs) => [(3, .pointer (some ⟨b3, 0, none⟩)), (4, VI F.length), (6, q3), (7, VI p3), (9, q), (11, fv), (12, VI i)]) (fun (i, vs) Hz => i ≤ gs.length ∧ vs.length = gs.length ∧ Own 26 Hz fv vs I4.n ∧ (∀ a, a < i → Own 3 Hz vs[a]! ((rowF (cnt []) gs.length a).map VI) I4.n) ∧ (∀ a b, a < i → b < i → a ≠ b → ∀ c, blkOf vs[a]! = some c → blkOf vs[b]! ≠ some c) ∧ Keep I4 Hz) (fun (i, vs) => gs.length - i) (0, List.replicate gs.length nilS) (by repeat' first | exact trivial | refine ⟨rfl, ?_⟩ | refine ⟨slot_int (by (try simp only [Int.toNat_natCast]); omega), ?_⟩) ?_ ?_
    · exact ⟨by omega, by rw [List.length_replicate], hfa, fun a h => by omega, fun a b h => by omega, ka⟩
    rintro ⟨i, vs⟩ U ⟨hi, hvl, hfu, hru, hap, ku⟩ hBu
    have lu := ku.1
    by_cases hi2 : i < gs.length
    · repeat' first
        | refine CO.cons rfl ?_
        | refine CO.nil ?_
        | refine CV.seq ?_
        | refine CV.region callees ?_
        | refine CV.cond ?_
        | refine CV.block ?_
        | refine CV.skip ?_
        | (refine ⟨_, Row.alen hfu.row un34, ?_⟩)
        | (refine ⟨_, Row.addr hfu.row un34 sz26 (by omega) (by omega), ?_⟩)
        | (refine ⟨_, _, make_row un22 one3 (by decide) vs.length (by omega), ?_⟩)
        | (refine ⟨fun _ => ?_, fun _ => ?_⟩ <;> first | (exfalso; omega) | skip)
        | fail
      generalize hsc : Heap.new U _ = Hc
      have hgc := new_get hsc
      have kc := new_keep hsc
      have nc := new_n hsc
      obtain ⟨bc, hbnc⟩ : ∃ b, Heap.n U = b := ⟨_, rfl⟩
      rw [hbnc] at hgc nc ⊢
      have hfc := Own.keep hfu kc
      have hic : Own 3 Hc (.slice (some ⟨bc, 0, none⟩) vs.length 0) ((rowF (cnt []) gs.length i).map VI) I4.n := by
        rw [cnt0_row, ← hvl]
        exact .inr ⟨bc, by rw [List.length_replicate], by omega, by omega, hgc⟩
      repeat' first
        | fail
      refine store_ask (i := i) sz26 hfc (by omega) (by omega) rfl ?_
      intro Hd hfd kbd
      have ld := kbd.le
      repeat' first
        | refine CO.cons rfl ?_
        | refine CO.nil ?_
        | refine CV.region callees ?_
        | refine ⟨(⟨by omega, by omega⟩ : inI64 _), ?_⟩
        | fail
      refine ⟨(i + 1, vs.set i (.slice (some ⟨bc, 0, none⟩) vs.length 0)), (by repeat' first | exact trivial | refine ⟨rfl, ?_⟩ | refine ⟨slot_int (by (try simp only [Int.toNat_natCast]); omega), ?_⟩), (by (try dsimp only); omega), ?_⟩
      have hself : (vs.set i (.slice (some ⟨bc, 0, none⟩) vs.length 0))[i]! = .slice (some ⟨bc, 0, none⟩) vs.length 0 := by
        rw [getElem!_pos (vs.set i _) i (by rw [List.length_set]; omega), List.getElem_set_self]
      have hoth : ∀ a, a < i → (vs.set i (.slice (some ⟨bc, 0, none⟩) vs.length 0))[a]! = vs[a]! := fun a h => by
        rw [getElem!_pos (vs.set i _) a (by rw [List.length_set]; omega), List.getElem_set_ne (by omega), ← getElem!_pos vs a (by omega)]
      refine ⟨by omega, by rw [List.length_set]; exact hvl, hfd, fun a h => ?_, fun a b' h1 h2 h3 c' h4 h5 => ?_, kbd.keep (ku.trans kc) (fun c' hc' => (hfc.lt hc').1)⟩
      · by_cases e : a = i
        · subst e
          rw [hself]
          exact own_but hic hfc kbd
        · rw [hoth a (by omega)]
          exact own_but (Own.keep (hru a (by omega)) kc) hfc kbd
      · by_cases e : a = i
        · subst e
          rw [hself] at h4
          rw [hoth b' (by omega)] at h5
          have := ((hru b' (by omega)).lt h5).2
          cases h4
          omega
        · rw [hoth a (by omega)] at h4
          by_cases e2 : b' = i
          · subst e2
            rw [hself] at h5
            have := ((hru a (by omega)).lt h4).2
            cases h5
            omega
          · rw [hoth b' (by omega)] at h5
            exact hap a b' (by omega) (by omega) h3 c' h4 h5
    obtain rfl : i = gs.length := by omega
    have hTB : TB U fv vs (cnt []) gs.length I4.n := ⟨hfu, hvl, hru, hap⟩
    have hPu := (ku.2 b3 (by omega)).trans hP4'
    repeat' first
      | refine CO.cons rfl ?_
      | refine CO.nil ?_
      | refine CV.seq ?_
      | refine CV.region callees ?_
      | refine CV.cond ?_
      | refine CV.exit ?_
      | (refine ⟨_, Row.alen hfu.row un34, ?_⟩)
      | (refine ⟨_, fS foP0 (by decide), ?_⟩)
      | (refine ⟨_, cell_load ag22g hPu rfl, ?_⟩)
      | (refine ⟨_, gs_len (hgv.keep ku).row, ?_⟩)
      | (refine ⟨fun _ => ?_, fun _ => ?_⟩ <;> first | (exfalso; omega) | skip)
      | fail
    refine (ordersRef_spec (C := U.n) h7 (r := gs.length) (pre := []) (by omega) (Nat.le_refl _) (.inl ⟨rfl, rfl⟩) (by simp)).mono ?_
    rintro av K ⟨⟨avs, hA⟩, kk⟩
    have lk := kk.1
    repeat' first
      | refine CO.cons rfl ?_
      | refine CO.nil ?_
      | refine CV.seq ?_
      | refine CV.region callees ?_
      | refine CV.block ?_
      | fail
    obtain ⟨A, hAe⟩ : ∃ A, fillL gs.length gs.length [] = A := ⟨_, rfl⟩
    have hAl : A.length ≤ 823543 := by
      have e4 := fillL_len h7 (r := gs.length) (pre := [])
      have e5 : 7 ^ gs.length ≤ 7 ^ 7 := Nat.pow_le_pow_right (by decide) (by omega)
      have e6 : 7 ^ 7 = 823543 := by decide
      rw [hAe] at e4
      omega
    have hTK := hTB.keep kk
    have hvt : ∀ a, a < gs.length → ∀ c', blkOf vs[a]! = some c' → c' < U.n := fun a ha c' hc' => ((hTB.at' a ha).lt hc').2
    rw [hAe] at hA
    have hok0 : okT gs rs 0 = [] := by simp [okT]
    refine CV.loopc ?_
    refine WCv.rounds callees false (α := Nat × Nat × Bool) (fun (i, fd, mt) => [(3, .pointer (some ⟨b3, 0, none⟩)), (4, VI F.length), (6, q3), (7, VI p3), (9, q), (11, fv), (13, av), (14, VI fd), (15, .bool mt), (16, VI i)]) (fun (i, fd, mt) Hz => i ≤ A.length ∧ fd = (okT gs rs i).length ∧ mt = decide (bl ∈ okT gs rs i) ∧ TB Hz fv vs (cnt (okT gs rs i)) gs.length I4.n ∧ LLs Hz av avs A U.n U.n ∧ Keep I4 Hz ∧ K.n ≤ Hz.n) (fun (i, fd, mt) => A.length - i) (0, 0, false) (by repeat' first | exact trivial | refine ⟨rfl, ?_⟩ | refine ⟨slot_int (by (try simp only [Int.toNat_natCast]); omega), ?_⟩) ?_ ?_
    · exact ⟨by omega, by rw [hok0]; rfl, by rw [hok0]; simp, by rw [hok0]; exact hTK, hA, ku.trans kk, Nat.le_refl _⟩
    rintro ⟨i, fd, mt⟩ V ⟨hi, hfd, hmt, hTV, hAV, kv, lv⟩ hBv
    have hfdl := okT_len (gs := gs) (rs := rs) (i := i)
    have lv0 := kv.1
    have hPv := (kv.2 b3 (by omega)).trans hP4'
    have hgV : OwnG V gv gs H1.n := hgv.keep kv
    have hrV : OwnR V rv rs H1.n := hrv.keep kv
    have hqV : Ints V q3 bl := Row.keep hq4 kv
    have hAvl := hAV.len
    by_cases hi3 : i < A.length
    · have hiw : avs[i]? = some avs[i]! := by rw [List.getElem?_eq_getElem (by omega), getElem!_pos avs i (by omega)]
      obtain ⟨o, ho⟩ : ∃ o, A[i]! = o := ⟨_, rfl⟩
      have hom : o ∈ A := by rw [← ho, getElem!_pos A i hi3]; exact List.getElem_mem _
      have hof : Full gs.length o := mem_orders.1 (by rw [hAe]; exact hom)
      have hov := hAV.at' i hi3
      have hsu := okT_succ (gs := gs) (rs := rs) (i := i) (by rw [hAe]; exact hi3)
      rw [ho] at hov
      rw [hAe, ho] at hsu
      repeat' first
        | refine CO.cons rfl ?_
        | refine CO.nil ?_
        | refine CV.seq ?_
        | refine CV.region callees ?_
        | refine CV.cond ?_
        | refine CV.block ?_
        | refine CV.skip ?_
        | refine CV.draw callees (by decide +kernel) ?_
        | refine CH.cons rfl ?_
        | refine CH.nil ?_
        | (refine ⟨_, Row.alen hAV.own.row un34, ?_⟩)
        | (refine ⟨_, ld25 hPv, ?_⟩)
        | (refine ⟨_, Row.addr hAV.own.row un34 sz26 (by omega) (by omega), ?_⟩)
        | (refine ⟨_, Row.load hAV.own.row ag22 hiw, ?_⟩)
        | (refine ⟨fun _ => ?_, fun _ => ?_⟩ <;> first | (exfalso; omega) | skip)
        | fail
      refine (price2_spec (by omega) hgV hrV hov.row hp hof).mono ?_
      rintro w V1 ⟨⟨q5, w0, rfl, hw1, hw2, hq5⟩, kv1⟩
      have lv1 := kv1.1
      have hP1 := (kv1.2 b3 (by omega)).trans hPv
      repeat' first
        | refine CO.cons rfl ?_
        | refine CO.nil ?_
        | refine CV.seq ?_
        | refine CV.region callees ?_
        | refine CV.cond ?_
        | refine CV.skip ?_
        | refine CH.cons rfl ?_
        | refine CH.nil ?_
        | (refine ⟨_, ld25 hP1, ?_⟩)
        | (refine ⟨fun _ => ?_, fun _ => ?_⟩ <;> first | (exfalso; omega) | skip)
        | fail
      have hbN := bitsL_len (N := brkO gs rs o) (i := w0)
      refine (free_spec (by omega) (hgV.keep kv1) (hrV.keep kv1) hq5.row (by omega) (by omega) (fun x hx => bits_in hx)).mono ?_
      rintro w V2 ⟨⟨cb, rfl, hcb⟩, kv2⟩
      have lv2 := kv2.1
      have kv12 := kv1.trans kv2
      have hcb' : cb = okB gs rs o := by rw [Bool.eq_iff_iff, hcb, ok_bits hw2]
      subst hcb'
      cases hob : okB gs rs o
      · rw [hob, cond_false] at hsu
        repeat' first
          | refine CO.cons rfl ?_
          | refine CO.nil ?_
          | refine CV.region callees ?_
          | refine CV.cond ?_
          | refine CV.exit ?_
          | refine ⟨(⟨by omega, by omega⟩ : inI64 _), ?_⟩
          | fail
        refine ⟨(i + 1, fd, mt), (by repeat' first | exact trivial | refine ⟨rfl, ?_⟩ | refine ⟨slot_int (by (try simp only [Int.toNat_natCast]); omega), ?_⟩), (by (try dsimp only); omega), ?_⟩
        exact ⟨by omega, by rw [hsu]; exact hfd, by rw [hsu]; exact hmt, by rw [hsu]; exact hTV.keep kv12, hAV.keep kv12, kv.trans kv12, by omega⟩
      rw [hob, cond_true] at hsu
      have hoF : o ∈ F := by rw [← hF]; exact mem_okL.2 ⟨hof, hob⟩
      obtain ⟨hbo, hle, hbf⟩ := hbest o hoF
      have hol := hof.l
      have hoi : Ints V2 avs[i]! o := Row.keep hov.row kv12
      have hqi : Ints V2 q3 bl := Row.keep hqV kv12
      have hA2 := hAV.keep kv12
      repeat' first
        | refine CO.cons rfl ?_
        | refine CO.nil ?_
        | refine CV.cond ?_
        | refine CV.skip ?_
        | fail
      refine CV.seq ?_
      repeat' first
        | refine CO.cons rfl ?_
        | refine CO.nil ?_
        | refine CV.region callees ?_
        | refine ⟨(⟨by omega, by omega⟩ : inI64 _), ?_⟩
        | fail
      refine CV.seq ?_
      refine CV.midK (α := Unit) (fun _ => [(3, .pointer (some ⟨b3, 0, none⟩)), (4, VI F.length), (6, q3), (7, VI p3), (9, q), (11, fv), (13, av), (14, VI ((fd : Int) + 1)), (15, .bool mt), (16, VI i), (18, VI (prO gs rs o))]) (fun _ Hz => Keep V2 Hz) ?_ ?_
      · by_cases he : prO gs rs o = p3
        · repeat' first
            | refine CO.cons rfl ?_
            | refine CV.seq ?_
            | refine CV.region callees ?_
            | refine CO.consG rfl ?_
            | (refine ⟨_, Row.addr hA2.own.row un34 sz26 (by omega) (by omega), ?_⟩)
            | (refine ⟨_, Row.load hA2.own.row ag22 hiw, ?_⟩)
            | (refine ⟨fun _ => ?_, fun _ => ?_⟩ <;> first | (exfalso; omega) | skip)
            | fail
          refine (before_spec (by omega) hoi hqi (by omega) (by omega)).mono ?_
          rw [hbf he]
          rintro w V3 ⟨rfl, kv3⟩
          repeat' first
            | refine CO.cons rfl ?_
            | refine CO.nil ?_
            | refine CV.cond ?_
            | refine CV.skip ?_
            | refine CO.consG rfl ?_
            | fail
          refine ⟨(()), (by repeat' first | exact trivial | refine ⟨rfl, ?_⟩), ?_⟩
          exact kv3
        · repeat' first
            | refine CO.cons rfl ?_
            | refine CO.nil ?_
            | refine CV.seq ?_
            | refine CV.region callees ?_
            | refine CV.cond ?_
            | refine CV.skip ?_
            | refine CO.consG rfl ?_
            | (refine ⟨fun _ => ?_, fun _ => ?_⟩ <;> first | (exfalso; omega) | skip)
            | fail
          refine ⟨(()), (by repeat' first | exact trivial | refine ⟨rfl, ?_⟩), ?_⟩
          exact Keep.refl _
      rintro _ V3 kv3 hB3
      have lv3 := kv3.1
      have hoi3 : Ints V3 avs[i]! o := Row.keep hoi kv3
      have hqi3 : Ints V3 q3 bl := Row.keep hqi kv3
      have hA3 := hA2.keep kv3
      refine CV.seq ?_
      refine CV.midK (α := Bool) (fun m2 => [(3, .pointer (some ⟨b3, 0, none⟩)), (4, VI F.length), (6, q3), (7, VI p3), (9, q), (11, fv), (13, av), (14, VI ((fd : Int) + 1)), (15, .bool m2), (16, VI i)]) (fun m2 Hz => m2 = decide (bl ∈ okT gs rs (i + 1)) ∧ Keep V3 Hz) ?_ ?_
      · cases mt with
        | true =>
          repeat' first
            | refine CO.cons rfl ?_
            | refine CO.nil ?_
            | refine CV.region callees ?_
            | refine CO.consG rfl ?_
            | fail
          refine ⟨(true), (by repeat' first | exact trivial | refine ⟨rfl, ?_⟩), ?_⟩
          exact ⟨(decide_eq_true (by rw [hsu]; exact List.mem_append.2 (.inl (of_decide_eq_true hmt.symm)))).symm, Keep.refl _⟩
        | false =>
          repeat' first
            | refine CO.cons rfl ?_
            | refine CV.region callees ?_
            | refine CO.consG rfl ?_
            | (refine ⟨_, Row.addr hA3.own.row un34 sz26 (by omega) (by omega), ?_⟩)
            | (refine ⟨_, Row.load hA3.own.row ag22 hiw, ?_⟩)
            | fail
          refine (eqInts_spec (by omega) hoi3 hqi3 (by omega)).mono ?_
          by_cases heq : o = bl
          · have hpe : prO gs rs o = p3 := by rw [heq]; exact (hbm (List.ne_nil_of_mem hoF)).2
            rw [decide_eq_true heq]
            rintro w V4 ⟨rfl, kv4⟩
            repeat' first
              | refine CO.cons rfl ?_
              | refine CO.nil ?_
              | refine CO.consG rfl ?_
              | (refine ⟨fun _ => ?_, fun _ => ?_⟩ <;> first | (exfalso; omega) | skip)
              | fail
            refine ⟨(true), (by repeat' first | exact trivial | refine ⟨rfl, ?_⟩), ?_⟩
            exact ⟨(decide_eq_true (by rw [hsu, heq]; simp)).symm, kv4⟩
          · rw [decide_eq_false heq]
            rintro w V4 ⟨rfl, kv4⟩
            repeat' first
              | refine CO.cons rfl ?_
              | refine CO.nil ?_
              | refine CO.consG rfl ?_
              | fail
            refine ⟨(false), (by repeat' first | exact trivial | refine ⟨rfl, ?_⟩), ?_⟩
            refine ⟨(decide_eq_false ?_).symm, kv4⟩
            rw [hsu]
            intro hm
            rcases List.mem_append.1 hm with g | g
            · exact of_decide_eq_false hmt.symm g
            · exact heq (List.mem_singleton.1 g).symm
      rintro m2 V4 ⟨hm2, kv4⟩ hB4
      have k24 := kv12.trans (kv3.trans kv4)
      have l24 := k24.1
      have hT4 := hTV.keep k24
      have hA4 := hAV.keep k24
      repeat' first
        | refine CO.cons rfl ?_
        | refine CO.nil ?_
        | refine CV.seq ?_
        | refine CV.region callees ?_
        | refine CV.block ?_
        | fail
      refine CV.loopc ?_
      refine WCv.rounds callees false (α := Nat × (Int → Int → Int)) (fun (s, f) => [(3, .pointer (some ⟨b3, 0, none⟩)), (4, VI F.length), (6, q3), (7, VI p3), (9, q), (11, fv), (13, av), (14, VI ((fd : Int) + 1)), (15, .bool m2), (16, VI i), (20, VI s)]) (fun (s, f) Hz => s ≤ o.length ∧ outF f (o.drop s) = outF (cnt (okT gs rs i)) o ∧ (∀ a b, 0 ≤ f a b ∧ f a b ≤ (okT gs rs i).length + s * 7) ∧ TB Hz fv vs f gs.length I4.n ∧ LLs Hz av avs A U.n U.n ∧ Keep I4 Hz ∧ K.n ≤ Hz.n) (fun (s, f) => o.length - s) (0, cnt (okT gs rs i)) (by repeat' first | exact trivial | refine ⟨rfl, ?_⟩ | refine ⟨slot_int (by (try simp only [Int.toNat_natCast]); omega), ?_⟩) ?_ ?_
      · exact ⟨by omega, rfl, fun a b => by have := cnt_bd (F := okT gs rs i) (a := a) (b := b); omega, hT4, hA4, kv.trans k24, by omega⟩
      rintro ⟨s, f⟩ Y ⟨hs, hf, hfb, hTY, hAY, ky, ly⟩ hBy
      have hoY := (hAY.at' i hi3)
      rw [ho] at hoY
      have hoYi : Ints Y avs[i]! o := hoY.row
      by_cases hs2 : s < o.length
      · have hxm : o[s]! ∈ o := by rw [getElem!_pos o s hs2]; exact List.getElem_mem _
        have hxr := hof.r _ hxm
        have hxi : o[(s : Int).toNat]! = o[s]! := rfl
        rw [drop_at hs2, outF] at hf
        obtain ⟨rest, hrest⟩ : ∃ rest, o.drop (s + 1) = rest := ⟨_, rfl⟩
        have hrl : rest.length = o.length - (s + 1) := by rw [← hrest, List.length_drop]
        rw [hrest] at hf
        obtain ⟨x, hx⟩ : ∃ x, o[s]! = x := ⟨_, rfl⟩
        rw [hx] at hxi hxr hf
        repeat' first
          | refine CO.cons rfl ?_
          | refine CO.nil ?_
          | refine CV.seq ?_
          | refine CV.region callees ?_
          | refine CV.cond ?_
          | refine CV.block ?_
          | refine CV.skip ?_
          | refine ⟨_, ints_len (by assumption), ?_⟩
          | refine ⟨(⟨by omega, by omega⟩ : inI64 _), ?_⟩
          | (refine ⟨_, Row.addr hAY.own.row un34 sz26 (by omega) (by omega), ?_⟩)
          | (refine ⟨_, Row.load hAY.own.row ag22 hiw, ?_⟩)
          | (refine ⟨fun _ => ?_, fun _ => ?_⟩ <;> first | (exfalso; omega) | skip)
          | fail
        refine CV.loopc ?_
        refine WCv.rounds callees false (α := Nat × (Int → Int → Int)) (fun (t, g) => [(3, .pointer (some ⟨b3, 0, none⟩)), (4, VI F.length), (6, q3), (7, VI p3), (9, q), (11, fv), (13, av), (14, VI ((fd : Int) + 1)), (15, .bool m2), (16, VI i), (20, VI s), (21, VI ((s : Int) + 1 + t))]) (fun (t, g) Hz => t ≤ rest.length ∧ innF g x (rest.drop t) = innF f x rest ∧ (∀ a b, 0 ≤ g a b ∧ g a b ≤ (okT gs rs i).length + s * 7 + t) ∧ TB Hz fv vs g gs.length I4.n ∧ LLs Hz av avs A U.n U.n ∧ Keep I4 Hz ∧ K.n ≤ Hz.n) (fun (t, g) => rest.length - t) (0, f) (by repeat' first | exact trivial | refine ⟨rfl, ?_⟩ | refine ⟨slot_int (by (try simp only [Int.toNat_natCast]); omega), ?_⟩) ?_ ?_
        · exact ⟨by omega, rfl, fun a b => by have := hfb a b; omega, hTY, hAY, ky, ly⟩
        rintro ⟨t, g⟩ Z ⟨ht, hgf, hgb, hTZ, hAZ, kz, lz⟩ hBz
        have hoZ := (hAZ.at' i hi3)
        rw [ho] at hoZ
        have hoZi : Ints Z avs[i]! o := hoZ.row
        by_cases ht2 : t < rest.length
        · have hyo : rest[t]! = o[s + 1 + t]! := by rw [← hrest]; exact drop_get (by omega)
          have hym : rest[t]! ∈ o := by
            rw [hyo, getElem!_pos o _ (by omega)]
            exact List.getElem_mem _
          have hyr := hof.r _ hym
          rw [drop_at ht2, innF] at hgf
          have hyi : o[((s : Int) + 1 + t).toNat]! = rest[t]! := by rw [hyo, show ((s : Int) + 1 + t).toNat = s + 1 + t by omega]
          obtain ⟨y, hy⟩ : ∃ y, rest[t]! = y := ⟨_, rfl⟩
          rw [hy] at hyi hyr hgf
          have hgxy := hgb x y
          have hvl2 := hTZ.len
          have exn : ((x.toNat : Nat) : Int) = x := by omega
          have eyn : ((y.toNat : Nat) : Int) = y := by omega
          have hrx := hTZ.at' x.toNat (by omega)
          have hrxi : Ints Z vs[x.toNat]! (rowF g gs.length x.toNat) := hrx.row
          have hrn := rowF_len (f := g) (n := gs.length) (a := x.toNat)
          have hvx : vs[x.toNat]? = some vs[x.toNat]! := by rw [List.getElem?_eq_getElem (by omega), getElem!_pos vs x.toNat (by omega)]
          have hxy : (rowF g gs.length x.toNat)[y.toNat]! = g x y := by rw [rowF_at (by omega), exn, eyn]
          repeat' first
            | refine CO.cons rfl ?_
            | refine CO.nil ?_
            | refine CV.seq ?_
            | refine CV.region callees ?_
            | refine CV.cond ?_
            | refine CV.block ?_
            | refine CV.skip ?_
            | refine CV.draw callees (by decide +kernel) ?_
            | refine CH.cons rfl ?_
            | refine ⟨_, ints_len (by assumption), ?_⟩
            | refine ⟨_, ints_addr (by assumption) (by omega) (by omega), ?_⟩
            | refine ⟨_, ints_load (by assumption) (by omega) (by omega), ?_⟩
            | (refine ⟨_, Row.addr hAZ.own.row un34 sz26 (by omega) (by omega), ?_⟩)
            | (refine ⟨_, Row.load hAZ.own.row ag22 hiw, ?_⟩)
            | (refine ⟨fun _ => ?_, fun _ => ?_⟩ <;> first | (exfalso; omega) | skip)
            | fail
          rw [hxi]
          repeat' first
            | refine CH.cons rfl ?_
            | refine ⟨_, ints_addr (by assumption) (by omega) (by omega), ?_⟩
            | refine ⟨_, ints_load (by assumption) (by omega) (by omega), ?_⟩
            | (refine ⟨_, Row.addr hAZ.own.row un34 sz26 (by omega) (by omega), ?_⟩)
            | (refine ⟨_, Row.load hAZ.own.row ag22 hiw, ?_⟩)
            | (refine ⟨_, Row.addr hTZ.own.row un34 sz26 (by omega) (by omega), ?_⟩)
            | (refine ⟨_, Row.load hTZ.own.row ag22 hvx, ?_⟩)
            | fail
          rw [hyi]
          repeat' first
            | refine CO.cons rfl ?_
            | refine CH.cons rfl ?_
            | refine CH.nil ?_
            | refine ⟨_, ints_addr (by assumption) (by omega) (by omega), ?_⟩
            | refine ⟨(⟨by omega, by omega⟩ : inI64 _), ?_⟩
            | fail
          rw [hxy]
          refine put_ask (i := y.toNat) hrx (by omega) (by omega) ?_
          intro W hW kb
          have lW := kb.le
          repeat' first
            | refine CO.cons rfl ?_
            | refine CO.nil ?_
            | refine CV.region callees ?_
            | refine CH.nil ?_
            | refine ⟨(⟨by omega, by omega⟩ : inI64 _), ?_⟩
            | fail
          refine ⟨(t + 1, upd g x y), (by repeat' first | exact trivial | refine ⟨rfl, ?_⟩ | refine ⟨slot_int (by (try simp only [Int.toNat_natCast]); omega), ?_⟩), (by (try dsimp only); omega), ?_⟩
          have hT' := TB.put hTZ (x := x.toNat) (y := y.toNat) (by omega) (by omega) (by rw [exn, eyn]; exact hW) kb
          rw [exn, eyn] at hT'
          refine ⟨by omega, hgf, fun a b' => ?_, hT', ⟨Own.keepBut hAZ.own kb (fun c' h1 h2 => own_apart hrx hAZ.own c' h2 h1), hAZ.len, fun a ha => Own.keepBut (hAZ.at' a ha) kb (fun c' h1 h2 => by have := ((hAZ.at' a ha).lt h1).1; have := hvt x.toNat (by omega) c' h2; omega)⟩, kb.keep kz (fun c' hc' => (hrx.lt hc').1), by omega⟩
          have := hgb a b'
          unfold upd
          split <;> omega
        obtain rfl : t = rest.length := by omega
        rw [List.drop_length, innF] at hgf
        repeat' first
          | refine CO.cons rfl ?_
          | refine CO.nil ?_
          | refine CV.seq ?_
          | refine CV.region callees ?_
          | refine CV.cond ?_
          | refine CV.exit ?_
          | refine ⟨_, ints_len (by assumption), ?_⟩
          | refine ⟨(⟨by omega, by omega⟩ : inI64 _), ?_⟩
          | (refine ⟨_, Row.addr hAZ.own.row un34 sz26 (by omega) (by omega), ?_⟩)
          | (refine ⟨_, Row.load hAZ.own.row ag22 hiw, ?_⟩)
          | (refine ⟨fun _ => ?_, fun _ => ?_⟩ <;> first | (exfalso; omega) | skip)
          | fail
        refine ⟨(s + 1, g), (by repeat' first | exact trivial | refine ⟨rfl, ?_⟩ | refine ⟨slot_int (by (try simp only [Int.toNat_natCast]); omega), ?_⟩), (by (try dsimp only); omega), ?_⟩
        exact ⟨by omega, by rw [hrest, hgf]; exact hf, fun a b' => by have := hgb a b'; omega, hTZ, hAZ, kz, lz⟩
      obtain rfl : s = o.length := by omega
      rw [List.drop_length, outF, outF_cnt hof.nd, ← hsu] at hf
      rw [hf] at hTY
      repeat' first
        | refine CO.cons rfl ?_
        | refine CO.nil ?_
        | refine CV.seq ?_
        | refine CV.region callees ?_
        | refine CV.cond ?_
        | refine CV.exit ?_
        | refine ⟨_, ints_len (by assumption), ?_⟩
        | refine ⟨(⟨by omega, by omega⟩ : inI64 _), ?_⟩
        | (refine ⟨_, Row.addr hAY.own.row un34 sz26 (by omega) (by omega), ?_⟩)
        | (refine ⟨_, Row.load hAY.own.row ag22 hiw, ?_⟩)
        | (refine ⟨fun _ => ?_, fun _ => ?_⟩ <;> first | (exfalso; omega) | skip)
        | fail
      refine ⟨(i + 1, fd + 1, m2), (by repeat' first | exact trivial | refine ⟨rfl, ?_⟩ | refine ⟨slot_int (by (try simp only [Int.toNat_natCast]); omega), ?_⟩), (by (try dsimp only); omega), ?_⟩
      exact ⟨by omega, by rw [hsu, List.length_append, List.length_singleton]; omega, hm2, hTY, hAY, ky, ly⟩
    obtain rfl : i = A.length := by omega
    have hoe : okT gs rs A.length = F := by rw [okT_end (by rw [hAe]), hF]
    rw [hoe] at hfd hmt hTV
    have hvl3 := hTV.len
    have hz : 0 < F.length := z0
    have hmt' : mt = true := by rw [hmt]; exact decide_eq_true (hbm (fun e => by rw [e] at hz; simp at hz)).1
    subst hmt'
    have hXV := (hX hz).keep (j4.trans kv)
    have hxl := hXV.len
    rw [List.length_map, List.length_range] at hxl
    repeat' first
      | refine CO.cons rfl ?_
      | refine CO.nil ?_
      | refine CV.seq ?_
      | refine CV.region callees ?_
      | refine CV.cond ?_
      | refine CV.block ?_
      | refine CV.skip ?_
      | refine CV.exit ?_
      | refine CO.consG rfl ?_
      | (refine ⟨_, Row.alen hAV.own.row un34, ?_⟩)
      | (refine ⟨_, fun tm ha => step1_boolNeq un4 rfl (ev_tmp ha rfl) (ev_tmp ha rfl), ?_⟩)
      | (refine ⟨fun _ => ?_, fun _ => ?_⟩ <;> first | (exfalso; omega) | skip)
      | fail
    refine CV.loopc ?_
    refine WCv.rounds callees false (α := Nat) (fun a => [(3, .pointer (some ⟨b3, 0, none⟩)), (4, VI F.length), (9, q), (11, fv), (22, VI a)]) (fun a Hz => a ≤ gs.length ∧ Keep V Hz) (fun a => gs.length - a) (0) (by repeat' first | exact trivial | refine ⟨rfl, ?_⟩ | refine ⟨slot_int (by (try simp only [Int.toNat_natCast]); omega), ?_⟩) ?_ ?_
    · exact ⟨by omega, Keep.refl _⟩
    rintro a Y ⟨ha, ky⟩ hBy
    have hTY := hTV.keep ky
    by_cases ha2 : a < gs.length
    · repeat' first
        | refine CO.cons rfl ?_
        | refine CO.nil ?_
        | refine CV.seq ?_
        | refine CV.region callees ?_
        | refine CV.cond ?_
        | refine CV.block ?_
        | refine CV.skip ?_
        | refine CO.consG rfl ?_
        | (refine ⟨_, Row.alen hTY.own.row un34, ?_⟩)
        | (refine ⟨fun _ => ?_, fun _ => ?_⟩ <;> first | (exfalso; omega) | skip)
        | fail
      refine CV.loopc ?_
      refine WCv.rounds callees false (α := Nat) (fun e => [(3, .pointer (some ⟨b3, 0, none⟩)), (4, VI F.length), (9, q), (11, fv), (22, VI a), (23, VI e)]) (fun e Hz => e ≤ gs.length ∧ Keep Y Hz) (fun e => gs.length - e) (0) (by repeat' first | exact trivial | refine ⟨rfl, ?_⟩ | refine ⟨slot_int (by (try simp only [Int.toNat_natCast]); omega), ?_⟩) ?_ ?_
      · exact ⟨by omega, Keep.refl _⟩
      rintro e Z ⟨he, kz⟩ hBz
      have hTZ := hTY.keep kz
      have hXZ := hXV.keep (ky.trans kz)
      by_cases he2 : e < gs.length
      · have hvx : vs[a]? = some vs[a]! := by rw [List.getElem?_eq_getElem (by omega), getElem!_pos vs a (by omega)]
        have hxx : xs[a]? = some xs[a]! := by rw [List.getElem?_eq_getElem (by omega), getElem!_pos xs a (by omega)]
        have hrr : Ints Z vs[a]! (rowF (cnt F) gs.length a) := (hTZ.at' a ha2).row
        have hrn := rowF_len (f := cnt F) (n := gs.length) (a := a)
        have hxr0 := hXZ.at' a (by rw [List.length_map, List.length_range]; exact ha2)
        rw [map_at (by rw [List.length_range]; exact ha2), show (List.range gs.length)[a]! = a by rw [getElem!_pos _ a (by rw [List.length_range]; exact ha2), List.getElem_range]] at hxr0
        have hxr : Ints Z xs[a]! (rowV F (a : Int) gs.length) := hxr0.row
        have hxn := rowV_len (F := F) (x := (a : Int)) (j := gs.length)
        have h1v : (rowF (cnt F) gs.length a)[(e : Int).toNat]! = cnt F a e := rowF_at he2
        have h2v : (rowV F (a : Int) gs.length)[(e : Int).toNat]! = verd (cnt F a e) F.length := by
          show (rowV F (a : Int) gs.length)[e]! = _
          unfold rowV
          rw [map_at (by rw [List.length_range]; exact he2), getElem!_pos _ e (by rw [List.length_range]; exact he2), List.getElem_range]
        have hcb := cnt_bd (F := F) (a := (a : Int)) (b := (e : Int))
        have hvd : (verd (cnt F a e) F.length = 1 ↔ cnt F a e = F.length) ∧ (verd (cnt F a e) F.length = 2 ↔ cnt F a e = 0) ∧ 1 ≤ verd (cnt F a e) F.length ∧ verd (cnt F a e) F.length ≤ 3 := by
          unfold verd
          split
          · omega
          · split <;> omega
        by_cases c0 : cnt F a e = 0
        all_goals by_cases c1 : cnt F a e = F.length
        all_goals
          repeat' first
            | refine CO.cons rfl ?_
            | refine CO.nil ?_
            | refine CV.seq ?_
            | refine CV.region callees ?_
            | refine CV.cond ?_
            | refine CV.block ?_
            | refine CV.skip ?_
            | refine CV.draw callees (by decide +kernel) ?_
            | refine CH.cons rfl ?_
            | refine CH.nil ?_
            | refine CH.consG rfl ?_
            | refine ⟨_, ints_addr (by assumption) (by omega) (by omega), ?_⟩
            | refine ⟨_, ints_load (by assumption) (by omega) (by omega), ?_⟩
            | refine ⟨(⟨by omega, by omega⟩ : inI64 _), ?_⟩
            | (refine ⟨_, Row.alen hTZ.own.row un34, ?_⟩)
            | (refine ⟨_, Row.addr hTZ.own.row un34 sz26 (by omega) (by omega), ?_⟩)
            | (refine ⟨_, Row.load hTZ.own.row ag22 hvx, ?_⟩)
            | (refine ⟨_, Row.addr hXZ.own.row un34 sz26 (by omega) (by omega), ?_⟩)
            | (refine ⟨_, Row.load hXZ.own.row ag22 hxx, ?_⟩)
            | (refine ⟨_, fun tm ha => step1_boolNeq un4 rfl (ev_tmp ha rfl) (ev_tmp ha rfl), ?_⟩)
            | (refine ⟨fun _ => ?_, fun _ => ?_⟩ <;> first | (exfalso; omega) | skip)
            | fail
        all_goals
          refine ⟨(e + 1), (by repeat' first | exact trivial | refine ⟨rfl, ?_⟩ | refine ⟨slot_int (by (try simp only [Int.toNat_natCast]); omega), ?_⟩), (by (try dsimp only); omega), ?_⟩
          exact ⟨by omega, kz⟩
      obtain rfl : e = gs.length := by omega
      repeat' first
        | refine CO.cons rfl ?_
        | refine CO.nil ?_
        | refine CV.seq ?_
        | refine CV.region callees ?_
        | refine CV.cond ?_
        | refine CV.exit ?_
        | refine ⟨(⟨by omega, by omega⟩ : inI64 _), ?_⟩
        | (refine ⟨_, Row.alen hTZ.own.row un34, ?_⟩)
        | (refine ⟨fun _ => ?_, fun _ => ?_⟩ <;> first | (exfalso; omega) | skip)
        | fail
      refine ⟨(a + 1), (by repeat' first | exact trivial | refine ⟨rfl, ?_⟩ | refine ⟨slot_int (by (try simp only [Int.toNat_natCast]); omega), ?_⟩), (by (try dsimp only); omega), ?_⟩
      exact ⟨by omega, ky.trans kz⟩
    obtain rfl : a = gs.length := by omega
    repeat' first
      | refine CO.cons rfl ?_
      | refine CO.nil ?_
      | refine CV.seq ?_
      | refine CV.region callees ?_
      | refine CV.cond ?_
      | refine CV.exit ?_
      | refine CO.consG rfl ?_
      | (refine ⟨_, Row.alen hTY.own.row un34, ?_⟩)
      | (refine ⟨fun _ => ?_, fun _ => ?_⟩ <;> first | (exfalso; omega) | skip)
      | fail
    refine (awake_spec (by omega)).mono ?_
    rintro v I5 ⟨rfl, j5⟩
    repeat' first
      | refine CO.cons rfl ?_
      | refine CO.nil ?_
      | refine CV.ret ?_
      | fail
    exact ⟨rfl, rfl⟩
end Go.Proofs.Ytlamceokhbigaaa
