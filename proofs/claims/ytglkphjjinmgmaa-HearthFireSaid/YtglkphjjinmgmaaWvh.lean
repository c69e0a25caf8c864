
/- HearthFire. -/
import Derived.Test.YtglkphjjinmgmaaWuh
set_option linter.unusedVariables false
set_option linter.unusedSimpArgs false
namespace Go.Proofs.Ytglkphjjinmgmaa
open Go.AI
set_option maxHeartbeats 16000000 in
set_option maxRecDepth 100000 in
theorem fire_spec {v : Value} {H : Heap} {nums : List Int} (hv : Ints H v nums) (hx : nums.length ≤ 9223372036854775807) :
    CallB Try.prog H.n 6 [v] H (fun r _ => r = .bool true) := by
  have hn : H.n ≤ H.n := Nat.le_refl _
  refine CV.enter callees false rfl Try.func6 rfl (by kernel_rfl) (Nat.le_of_ble_eq_true rfl) hn ?_
  repeat' first
    | refine CO.cons rfl ?_
    | refine CO.nil ?_
    | refine CV.seq ?_
    | refine CV.region callees ?_
    | fail
  refine (boxOf_spec hn hv hx).mono ?_
  rintro r H1 ⟨⟨b, rfl, hb, hbox⟩, k1⟩
  have l1 := k1.1
  repeat' first
    | refine CO.cons rfl ?_
    | refine CO.nil ?_
    | refine CV.seq ?_
    | refine CV.region callees ?_
    | fail
  refine (fireOf_spec hb l1 hbox (by omega) (by omega)).mono ?_
  rintro r H2 ⟨⟨cv, tv, cs, ts, rfl, hc2, ht2, hf, hcn, hcs⟩, hb2, x2⟩
  have l2 := x2.1
  have hbn := hbox.1
  have hbn2 := hb2.1
  repeat' first
    | refine CO.cons rfl ?_
    | (refine ⟨_, _, al28, ?_⟩)
    | fail
  generalize hs3 : Heap.new H2 _ = H3
  have hg3 := new_get hs3
  have k3 := new_keep hs3
  have n3 := new_n hs3
  obtain ⟨b3, hbn3⟩ : ∃ b, Heap.n H2 = b := ⟨_, rfl⟩
  rw [hbn3] at hg3 n3 ⊢
  repeat' first
    | fail
  refine ⟨_, _, st28 hc2.oneC ht2.oneC hg3, by omega, ?_⟩
  generalize hsb : Heap.set H3 b3 _ = Hb
  have hgb : Hb.get b3 = some (.cells (Fl cv tv) 25 1) := set_get hsb
  have nb := set_n hsb
  have ob := set_old hsb
  have kb : Keep H2 Hb := keep_put k3 (by omega) ob nb
  have hcb : OwnC Hb cv cs _ := hc2.keep kb
  have htb : OwnT Hb tv ts _ := ht2.keep kb
  have hbb := hb2.keep kb
  have lb := kb.1
  repeat' first
    | refine CO.nil ?_
    | refine CV.seq ?_
    | fail
  refine CV.al callees rfl 6 [(0, []), (1, []), (3, []), (4, []), (2, [4]), (5, []), (6, []), (7, []), (8, [])] (by kernel_rfl) rfl al31 ?_
  repeat' first
    | refine CR.cons ?_
    | (refine ⟨_, ld28 hgb, ?_⟩)
    | fail
  refine (burningOf_spec hb (by omega) hbb hcb htb hf).mono ?_
  rintro r H5 ⟨⟨u, w, U, V, rfl, hu5, hw5, hUl, hVl, hUV⟩, hb5, x5⟩
  have l5 := x5.1
  have hg5 := (x5.2 b3 (by omega) (by omega)).trans hgb
  have hc5 : OwnC H5 cv cs _ := OwnS.boxed hcb x5 hbb
  have ht5 : OwnT H5 tv ts _ := OwnS.boxed htb x5 hbb
  repeat' first
    | refine CR.cons ?_
    | (refine ⟨_, ld28 hg5, ?_⟩)
    | (refine ⟨(rfl : _ = Fv cv tv), ?_⟩)
    | (refine ⟨same_fv hc5 ht5, ?_⟩)
    | fail
  refine (heatsOf_spec hb (by omega) hb5 hc5 ht5 hf).mono ?_
  rintro ev H6 ⟨⟨E, he6, hEl, hE⟩, hb6, x6⟩
  have l6 := x6.1
  have hg6 := (x6.2 b3 (by omega) (by omega)).trans hg5
  have hc6 : OwnC H6 cv cs _ := OwnS.boxed hc5 x6 hb5
  have ht6 : OwnT H6 tv ts _ := OwnS.boxed ht5 x6 hb5
  have hu6 := hu5.box x6 hb5
  have hw6 := hw5.box x6 hb5
  repeat' first
    | refine CR.cons ?_
    | (refine ⟨_, _, al31, ?_⟩)
    | fail
  generalize hs7 : Heap.new H6 _ = H7
  have hg7 := new_get hs7
  have k7 := new_keep hs7
  have n7 := new_n hs7
  obtain ⟨b7, hbn7⟩ : ∃ b, Heap.n H6 = b := ⟨_, rfl⟩
  rw [hbn7] at hg7 n7 ⊢
  repeat' first
    | fail
  refine ⟨_, _, st31 (own_oneC hu6) (own_oneC hw6) hg7, by omega, ?_⟩
  generalize hs8 : Heap.set H7 b7 _ = H8
  have hg8 : H8.get b7 = some (.cells (Fl u w) 71 1) := set_get hs8
  have n8 := set_n hs8
  have o8 := set_old hs8
  have k8 : Keep H6 H8 := keep_put k7 (by omega) o8 n8
  have hc8 : OwnC H8 cv cs _ := hc6.keep k8
  have ht8 : OwnT H8 tv ts _ := ht6.keep k8
  have hu8 : Ints H8 u U := (hu6.keep k8).row
  have hw8 : Ints H8 w V := (hw6.keep k8).row
  have he8 : Ints H8 ev E := (he6.keep k8).row
  have hf8 := (k8.2 b3 (by omega)).trans hg6
  have l8 := k8.1
  obtain ⟨B0, hB0⟩ := isBeg_ex (e := 0) hf
  obtain ⟨B1, hB1⟩ := isBeg_ex (e := 1) hf
  have hfm := mkC_ok hf hUV
  obtain ⟨A, hA⟩ := isBeg_ex (e := 0) hfm
  have hml := mkC_len (cs := cs) (U := U) (V := V)
  have hin := beg_in hf hUV hB0 hB1 hA
  have hAl := hA.len
  repeat' first
    | refine CO.cons rfl ?_
    | refine CV.seq ?_
    | refine CV.region callees ?_
    | refine CR.cons ?_
    | refine CR.nil ?_
    | (refine ⟨_, ld28 hf8, ?_⟩)
    | (refine ⟨_, ld31 hg8, ?_⟩)
    | fail
  refine (truly_spec (cs := cs) (cs' := mkC cs U V) (e := 0) (by omega) hc8.row ht8.row ht8.same (by rw [mkC_ca hUl]; exact hu8) (by rw [mkC_bu hVl]; exact hw8) mkC_len (fun i hi => by rw [mkC_at hi]) hfm (by omega) (fun i hi => by
    rw [hml] at hi
    rw [mkC_at hi]
    show U[i]! ≤ 8
    have h1 := (hcs i hi).c8; have h2 := (hUV i hi).1; omega) hA).mono ?_
  rintro av H9 ⟨ha9, k9⟩
  have l9 := k9.1
  have hf9 := (k9.2 b3 (by omega)).trans hf8
  repeat' first
    | refine CO.cons rfl ?_
    | refine CO.nil ?_
    | refine CV.seq ?_
    | refine CV.region callees ?_
    | (refine ⟨_, ld28 hf9, ?_⟩)
    | fail
  refine (begins_spec (by omega) (hc8.keep k9).row (ht8.keep k9).row hf hB0 hB1).mono ?_
  rintro r Ha ⟨⟨q, rfl, hqa⟩, ka⟩
  have la := ka.1
  have k8a := k9.trans ka
  have hava : Ints Ha av A := (ha9.keep ka).row
  have hql := begS_len (cs := cs) (B0 := B0) (B1 := B1)
  repeat' first
    | refine CO.cons rfl ?_
    | refine CO.nil ?_
    | refine CV.seq ?_
    | refine CV.region callees ?_
    | refine CV.cond ?_
    | refine CV.block ?_
    | refine CV.skip ?_
    | refine CO.consG rfl ?_
    | refine ⟨_, ints_len (by assumption), ?_⟩
    | (refine ⟨_, sp_len hqa.row, ?_⟩)
    | (refine ⟨fun _ => ?_, fun _ => ?_⟩ <;> first | (exfalso; omega) | skip)
    | fail
  refine CV.loopc ?_
  refine WCv.rounds callees false (α := Nat) (fun i => [(4, .pointer (some ⟨b3, 0, none⟩)), (5, .pointer (some ⟨b7, 0, none⟩)), (6, ev), (7, av), (8, q), (10, VJ i)]) (fun i Hz => i ≤ cs.length ∧ Keep Ha Hz) (fun i => cs.length - i) (0) (by repeat' first | exact trivial | refine ⟨rfl, ?_⟩ | refine ⟨slot_int (by (try simp only [Int.toNat_natCast]); omega), ?_⟩) ?_ ?_
  · exact ⟨by omega, Keep.refl _⟩
  rintro i Hy ⟨hi3, ky⟩ hBy
  have hqy := (OwnS.keep hqa ky).row
  have havy : Ints Hy av A := hava.keep ky
  have ly := ky.1
  by_cases hi2 : i < cs.length
  · have hat := begS_at (B0 := B0) (B1 := B1) hi2
    have hld : aload Try.prog 27 Hy (elemS q 2 i) = some (Hv (B0[i]!, B1[i]!)) := by rw [sp_load hqy (by omega), hat]
    repeat' first
      | refine CO.cons rfl ?_
      | refine CO.nil ?_
      | refine CV.seq ?_
      | refine CV.region callees ?_
      | refine CV.cond ?_
      | refine CV.block ?_
      | refine CV.skip ?_
      | refine CV.draw callees (by decide +kernel) ?_
      | refine CH.cons rfl ?_
      | refine CH.nil ?_
      | refine ⟨_, ints_len (by assumption), ?_⟩
      | refine ⟨_, ints_addr (by assumption) (by omega) (by omega), ?_⟩
      | refine ⟨_, ints_load (by assumption) (by omega) (by omega), ?_⟩
      | (refine ⟨_, sp_addr hqy (by omega) (by omega), ?_⟩)
      | (refine ⟨_, hld, ?_⟩)
      | (refine ⟨fun _ => ?_, fun _ => ?_⟩ <;> first | (exfalso; omega) | skip)
      | fail
    refine (holds_spec (p := (B0[i]!, B1[i]!)) (x := A[i]!) (by omega) (hin i hi2).1 (hin i hi2).2).mono ?_
    rintro r Hw ⟨rfl, kw⟩
    repeat' first
      | refine CO.cons rfl ?_
      | refine CO.nil ?_
      | refine CV.region callees ?_
      | refine CV.cond ?_
      | refine CV.skip ?_
      | refine CH.cons rfl ?_
      | refine CH.nil ?_
      | refine ⟨(⟨by omega, by omega⟩ : inI64 _), ?_⟩
      | fail
    refine ⟨(i + 1), (by repeat' first | exact trivial | refine ⟨rfl, ?_⟩ | refine ⟨slot_int (by (try simp only [Int.toNat_natCast]); omega), ?_⟩), (by (try dsimp only); omega), ?_⟩
    exact ⟨by omega, ky.trans kw⟩
  repeat' first
    | refine CO.cons rfl ?_
    | refine CO.nil ?_
    | refine CV.seq ?_
    | refine CV.region callees ?_
    | refine CV.cond ?_
    | refine CV.block ?_
    | refine CV.exit ?_
    | refine ⟨_, ints_len (by assumption), ?_⟩
    | (refine ⟨fun _ => ?_, fun _ => ?_⟩ <;> first | (exfalso; omega) | skip)
    | fail
  refine CV.loopc ?_
  refine WCv.rounds callees false (α := Nat) (fun m => [(4, .pointer (some ⟨b3, 0, none⟩)), (5, .pointer (some ⟨b7, 0, none⟩)), (6, ev), (7, av), (11, VJ m)]) (fun m Hz => m ≤ 60 ∧ Keep Ha Hz) (fun m => 60 - m) (0) (by repeat' first | exact trivial | refine ⟨rfl, ?_⟩ | refine ⟨slot_int (by (try simp only [Int.toNat_natCast]); omega), ?_⟩) ?_ ?_
  · exact ⟨by omega, ky⟩
  clear hqy havy ly ky hBy hi3
  rintro m Hy ⟨hm3, ky⟩ hBy
  have ly := ky.1
  have k8y := k8a.trans ky
  by_cases hm2 : m < 60
  · have hfy := (k8y.2 b3 (by omega)).trans hf8
    have hry := (k8y.2 b7 (by omega)).trans hg8
    repeat' first
      | refine CO.cons rfl ?_
      | refine CO.nil ?_
      | refine CV.seq ?_
      | refine CV.region callees ?_
      | refine CV.cond ?_
      | refine CV.block ?_
      | refine CV.skip ?_
      | (refine ⟨_, ld28 hfy, ?_⟩)
      | (refine ⟨fun _ => ?_, fun _ => ?_⟩ <;> first | (exfalso; omega) | skip)
      | fail
    refine (heat_spec (m := (m : Int)) (by omega) (hc8.keep k8y).row (ht8.keep k8y).row hf hB0 hB1 (by omega) (by omega)).mono ?_
    rintro r Hp ⟨rfl, kp⟩
    have lp := kp.1
    repeat' first
      | refine CO.cons rfl ?_
      | (refine ⟨_, _, al41, ?_⟩)
      | fail
    generalize hsd : Heap.new Hp _ = Hd
    have hgd := new_get hsd
    have kd := new_keep hsd
    have nd := new_n hsd
    obtain ⟨bd, hbnd⟩ : ∃ b, Heap.n Hp = b := ⟨_, rfl⟩
    rw [hbnd] at hgd nd ⊢
    repeat' first
      | fail
    refine ⟨_, _, st41 hgd, by omega, ?_⟩
    generalize hse : Heap.set Hd bd _ = He
    have hge : He.get bd = some (.cells (Hl (heatL (emL cs B0 B1) m)) 27 1) := set_get hse
    have ne := set_n hse
    have oe := set_old hse
    have ke : Keep Hp He := keep_put kd (by omega) oe ne
    have kye := kp.trans ke
    have k8e := k8y.trans kye
    have hre := (k8e.2 b7 (by omega)).trans hg8
    have hue : Ints He u U := hu8.keep k8e
    have hwe : Ints He w V := hw8.keep k8e
    have hee : Ints He ev E := he8.keep k8e
    have have' : Ints He av A := hava.keep (ky.trans kye)
    have hht := heat_in (m := (m : Int)) (fun i hi => (hf.c i hi).h1) hUV hin hE
    repeat' first
      | refine CO.cons rfl ?_
      | refine CO.nil ?_
      | refine CV.seq ?_
      | fail
    refine CV.wide callees (by decide +kernel) [0, 1, 2, 3, 4, 5, 6, 7, 8, 9, 10, 11] (by kernel_rfl) ?_
    repeat' first
      | refine CG.cons rfl ?_
      | refine CG.consG rfl ?_
      | (refine ⟨_, ld41 hge, ?_⟩)
      | (refine ⟨_, ld31 hre, ?_⟩)
      | (refine ⟨fun _ => ?_, fun _ => ?_⟩ <;> first | (exfalso; omega) | skip)
      | fail
    refine (hot_spec (n := cs.length) (m := (m : Int)) (Nat.le_refl _) hue hwe have' hee hVl (by omega) hEl (by omega) (fun i hi => ⟨by have h1 := (hf.c i hi).b1; have h2 := (hUV i hi).2.1; omega, by have h1 := (hf.c i hi).b3; have h2 := (hUV i hi).2.2; omega⟩) (fun i hi => hA.lo i (by omega)) (fun i hi => ⟨by have h1 := (hf.c i hi).h1; have h2 := (hE i hi).1; omega, by have h1 := (hf.c i hi).h3; have h2 := (hE i hi).2; omega⟩)).mono ?_
    rintro r Hr ⟨rfl, kr⟩
    have lr := kr.1
    repeat' first
      | refine CG.consG rfl ?_
      | fail
    refine (holds_spec (Nat.le_refl _) hht.1 hht.2).mono ?_
    rintro r Hs ⟨rfl, ks⟩
    have ls := ks.1
    repeat' first
      | refine CO.cons rfl ?_
      | refine CO.nil ?_
      | refine CV.region callees ?_
      | refine CV.cond ?_
      | refine CV.skip ?_
      | refine CG.cons rfl ?_
      | refine CG.nil ?_
      | refine CG.consG rfl ?_
      | refine ⟨(⟨by omega, by omega⟩ : inI64 _), ?_⟩
      | fail
    refine ⟨(m + 1), (by repeat' first | exact trivial | refine ⟨rfl, ?_⟩ | refine ⟨slot_int (by (try simp only [Int.toNat_natCast]); omega), ?_⟩), (by (try dsimp only); omega), ?_⟩
    exact ⟨by omega, (ky.trans kye).trans (kr.trans ks)⟩
  repeat' first
    | refine CO.cons rfl ?_
    | refine CO.nil ?_
    | refine CV.seq ?_
    | refine CV.region callees ?_
    | refine CV.cond ?_
    | refine CV.exit ?_
    | (refine ⟨fun _ => ?_, fun _ => ?_⟩ <;> first | (exfalso; omega) | skip)
    | fail
  refine (awake_spec (by omega)).mono ?_
  rintro r Hw ⟨rfl, kw⟩
  repeat' first
    | refine CO.cons rfl ?_
    | refine CO.nil ?_
    | refine CV.ret ?_
    | fail
  exact ⟨rfl, rfl⟩
end Go.Proofs.Ytglkphjjinmgmaa
