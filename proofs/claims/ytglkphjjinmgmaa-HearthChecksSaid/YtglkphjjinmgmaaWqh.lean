
/- The chapter's examples, checked. -/
import Derived.Test.YtglkphjjinmgmaaWph
set_option linter.unusedVariables false
set_option linter.unusedSimpArgs false
namespace Go.Proofs.Ytglkphjjinmgmaa
open Go.AI
theorem begS3 : begS (emL cs3 b30 b31) = [(0, 0), (2, 3), (6, 1000000)] := by rfl
theorem heat3 : heatL (emL cs3 b30 b31) 3 = (20, 32) := by kernel_rfl
theorem warm3 : warmL pot3 (emL cs3 b30 b31) [] (3 + 1) = [(200, 200), (300, 320), (390, 428), (471, 726)] := by kernel_rfl
theorem kok3 : KOk pot3 := by constructor <;> decide
theorem pok3 : POk pot3.wa [] := by
  constructor
  all_goals first
    | decide
    | (intro i hi; simp at hi)
    | (intro i h1 hi; simp at hi)
    | (intro i j h1 h2; simp at h2)
theorem nil_row {s : Nat} {H : Heap} : RowS s H nilS (([] : List Po).map Pol) := ⟨fun r hr => (by cases hr), .inl ⟨rfl, rfl⟩⟩
theorem sp_three {H : Heap} : abuildSlice Try.prog H 48 3 [(0, Hv (0, 0)), (1, Hv (2, 3)), (2, Hv (6, 1000000))] = some (.slice (some ⟨H.n, 0, none⟩) 3 0, H.new (.cells (([(0, 0), (2, 3), (6, 1000000)] : List (Int × Int)).map Hl).flatten 27 2), H.n) := by kernel_rfl
theorem sp_four {H : Heap} : abuildSlice Try.prog H 48 4 [(0, Hv (200, 200)), (1, Hv (300, 320)), (2, Hv (390, 428)), (3, Hv (471, 726))] = some (.slice (some ⟨H.n, 0, none⟩) 4 0, H.new (.cells (([(200, 200), (300, 320), (390, 428), (471, 726)] : List (Int × Int)).map Hl).flatten 27 2), H.n) := by kernel_rfl
theorem sp_new {H' : Heap} {b n : Nat} {l : List (Int × Int)} (hn : n = l.length) (hb : b < H'.n) (hg : H'.get b = some (.cells (l.map Hl).flatten 27 2)) : OwnSp H' (.slice (some ⟨b, 0, none⟩) n 0) l 0 :=
  ⟨fun r hr => by obtain ⟨x, _, rfl⟩ := List.mem_map.1 hr; rfl, .inr ⟨b, by rw [hn, List.length_map], Nat.zero_le _, hb, hg⟩⟩
set_option maxHeartbeats 8000000 in
set_option maxRecDepth 100000 in
theorem awake_spec {B : Nat} {H : Heap} (hB : B ≤ H.n) :
    CallB Try.prog B 14 [] H (fun r H' => r = .bool true ∧ Keep H H') := by
  refine CV.enter callees false rfl Try.func14 rfl (by kernel_rfl) (Nat.le_of_ble_eq_true rfl) hB ?_
  repeat' first
    | refine CO.cons rfl ?_
    | refine CO.nil ?_
    | refine CV.seq ?_
    | refine CV.region callees ?_
    | fail
  refine (three_spec (by omega)).mono ?_
  rintro r H1 ⟨⟨cv1, tv1, rfl, hc1, ht1⟩, k1⟩
  have l1 := k1.1
  repeat' first
    | refine CO.cons rfl ?_
    | fail
  refine (begins_spec (by omega) hc1 ht1 fok3 beg30 beg31).mono ?_
  rintro r H2 ⟨⟨q, rfl, hq2⟩, k2⟩
  have l2 := k2.1
  rw [begS3] at hq2
  repeat' first
    | refine CO.cons rfl ?_
    | refine CO.nil ?_
    | refine CV.seq ?_
    | refine CV.region callees ?_
    | fail
  refine (three_spec (by omega)).mono ?_
  rintro r H3 ⟨⟨cv3, tv3, rfl, hc3, ht3⟩, k3⟩
  have l3 := k3.1
  repeat' first
    | refine CO.cons rfl ?_
    | fail
  refine (heat_spec (by omega) hc3 ht3 fok3 beg30 beg31 (by decide) (by decide)).mono ?_
  rintro r H4 ⟨rfl, k4⟩
  have l4 := k4.1
  rw [heat3]
  repeat' first
    | refine CO.cons rfl ?_
    | (refine ⟨_, _, al41, ?_⟩)
    | fail
  generalize hs5 : Heap.new H4 _ = H5
  have hg5 := new_get hs5
  have k5 := new_keep hs5
  have n5 := new_n hs5
  obtain ⟨b5, hbn5⟩ : ∃ b, Heap.n H4 = b := ⟨_, rfl⟩
  rw [hbn5] at hg5 n5 ⊢
  repeat' first
    | fail
  refine ⟨_, _, st41 hg5, by omega, ?_⟩
  generalize hs6 : Heap.set H5 b5 _ = H6
  have hg6 : H6.get b5 = some (.cells (Hl (20, 32)) 27 1) := set_get hs6
  have n6 := set_n hs6
  have o6 := set_old hs6
  have k6 : Keep H4 H6 := keep_put k5 (by omega) o6 n6
  have l6 := k6.1
  repeat' first
    | refine CO.cons rfl ?_
    | refine CO.nil ?_
    | refine CV.seq ?_
    | refine CV.region callees ?_
    | fail
  refine (pot_spec (by omega)).mono ?_
  rintro r H7 ⟨rfl, k7⟩
  have l7 := k7.1
  repeat' first
    | refine CO.cons rfl ?_
    | fail
  refine (three_spec (by omega)).mono ?_
  rintro r H8 ⟨⟨cv8, tv8, rfl, hc8, ht8⟩, k8⟩
  have l8 := k8.1
  repeat' first
    | refine CO.cons rfl ?_
    | fail
  refine (run_spec (m := 3) (ps := []) (by omega) kok3 hc8 ht8 nil_row pok3 rfl fok3 beg30 beg31 (by decide)).mono ?_
  rintro r H9 ⟨⟨w, rfl, hw9⟩, k9⟩
  have l9 := k9.1
  rw [warm3] at hw9
  have k29 := (((k3.trans k4).trans (k6.trans k7)).trans (k8.trans k9))
  have hq9 : OwnSp H9 q [(0, 0), (2, 3), (6, 1000000)] H1.n := OwnS.keep hq2 k29
  have hg9 := (((k7.trans k8).trans k9).2 b5 (by omega)).trans hg6
  have kx9 := (k1.trans k2).trans k29
  repeat' first
    | refine CO.cons rfl ?_
    | refine CO.nil ?_
    | refine CV.seq ?_
    | fail
  refine CV.wide callees (by decide +kernel) [0, 1, 2, 3, 4, 5, 6, 7, 8, 9, 10, 11, 12, 13, 14, 15, 16, 17, 18, 19, 20, 21, 22, 23, 24, 25, 26, 27, 28, 29, 30, 31, 32] (by kernel_rfl) ?_
  repeat' first
    | refine CG.cons rfl ?_
    | refine CG.consG rfl ?_
    | (refine ⟨fun _ => ?_, fun _ => ?_⟩ <;> first | (exfalso; omega) | skip)
    | fail
  refine (lone_spec (by omega)).mono ?_
  rintro r Ha ⟨rfl, ka⟩
  have la := ka.1
  repeat' first
    | refine CG.consG rfl ?_
    | fail
  refine (lspan_spec (by omega)).mono ?_
  rintro r Hb ⟨rfl, kb⟩
  have lb := kb.1
  repeat' first
    | refine CG.consG rfl ?_
    | fail
  refine (lspan_spec (by omega)).mono ?_
  rintro r Hc ⟨rfl, kc⟩
  have lc := kc.1
  repeat' first
    | refine CG.consG rfl ?_
    | fail
  refine ⟨_, _, sp_three, ?_⟩
  generalize hsd : Heap.new Hc _ = Hd
  have hgd := new_get hsd
  have kd := new_keep hsd
  have nd := new_n hsd
  obtain ⟨bd, hbnd⟩ : ∃ b, Heap.n Hc = b := ⟨_, rfl⟩
  rw [hbnd] at hgd nd ⊢
  have k9d := ((ka.trans kb).trans kc).trans kd
  have hqd : OwnSp Hd q [(0, 0), (2, 3), (6, 1000000)] H1.n := OwnS.keep hq9 k9d
  have hxd := sp_new (l := [(0, 0), (2, 3), (6, 1000000)]) rfl (by omega) hgd
  repeat' first
    | refine CG.consG rfl ?_
    | fail
  refine (eqSpans_spec (by omega) hqd.row hxd.row (by decide)).mono ?_
  rintro r He ⟨rfl, rfl⟩
  have hge := (k9d.2 b5 (by omega)).trans hg9
  repeat' first
    | refine CG.cons rfl ?_
    | refine CG.consG rfl ?_
    | (refine ⟨_, ld41 hge, ?_⟩)
    | fail
  refine (lspan_spec (by omega)).mono ?_
  rintro r Hf ⟨rfl, kf⟩
  have lf := kf.1
  have hgf := (kf.2 b5 (by omega)).trans hge
  repeat' first
    | refine CG.cons rfl ?_
    | refine CG.consG rfl ?_
    | (refine ⟨_, fun tm ha => step1_eqS rfl (ev_tmp ha rfl) (ev_tmp ha rfl), ?_⟩)
    | fail
  refine (lone_spec (by omega)).mono ?_
  rintro r Hg ⟨rfl, kg⟩
  have lg := kg.1
  repeat' first
    | refine CG.consG rfl ?_
    | fail
  refine (lspan_spec (by omega)).mono ?_
  rintro r Hh ⟨rfl, kh⟩
  have lh := kh.1
  repeat' first
    | refine CG.consG rfl ?_
    | fail
  refine (lspan_spec (by omega)).mono ?_
  rintro r Hi ⟨rfl, ki⟩
  have li := ki.1
  repeat' first
    | refine CG.consG rfl ?_
    | fail
  refine (lspan_spec (by omega)).mono ?_
  rintro r Hj ⟨rfl, kj⟩
  have lj := kj.1
  repeat' first
    | refine CG.consG rfl ?_
    | fail
  refine ⟨_, _, sp_four, ?_⟩
  generalize hsk : Heap.new Hj _ = Hk
  have hgk := new_get hsk
  have kk := new_keep hsk
  have nk := new_n hsk
  obtain ⟨bk, hbnk⟩ : ∃ b, Heap.n Hj = b := ⟨_, rfl⟩
  rw [hbnk] at hgk nk ⊢
  have k9k := ((k9d.trans kf).trans (kg.trans kh)).trans ((ki.trans kj).trans kk)
  have hwk : OwnSp Hk w _ _ := OwnS.keep hw9 k9k
  have hxk := sp_new (l := [(200, 200), (300, 320), (390, 428), (471, 726)]) rfl (by omega) hgk
  repeat' first
    | refine CG.consG rfl ?_
    | fail
  refine (eqSpans_spec (by omega) hwk.row hxk.row (by decide)).mono ?_
  rintro r Hl' ⟨rfl, rfl⟩
  repeat' first
    | refine CV.ret ?_
    | refine CG.cons rfl ?_
    | refine CG.nil ?_
    | fail
  exact ⟨rfl, rfl, kx9.trans k9k⟩
end Go.Proofs.Ytglkphjjinmgmaa

