
/- Kettles made of numbers. -/
import Derived.Test.YtglkphjjinmgmaaWph
set_option linter.unusedVariables false
set_option linter.unusedSimpArgs false
namespace Go.Proofs.Ytglkphjjinmgmaa
open Go.AI
theorem build_3 {H : Heap} {x y z : Int} : abuildSlice Try.prog H 33 3 [(0, VJ x), (1, VJ y), (2, VJ z)] = some (.slice (some ⟨H.n, 0, none⟩) 3 0, H.new (.cells [VJ x, VJ y, VJ z] 3 2), H.n) := build_vals [VJ x, VJ y, VJ z] un22 one3 rfl (by simp)
theorem bu51b {w r g l : Int} {p : Int × Int} : abuild Try.prog 29 [(0, VJ w), (1, Hv p), (2, VJ r), (3, VJ g), (4, VJ l)] = some (Kev ⟨w, p.1, p.2, r, g, l, 0, 0⟩) := by kernel_rfl
theorem pick3 {x y z : Int} {j : Nat} (hj : j < 3) : ∃ u, ([x, y, z] : List Int)[j]! = u ∧ (u = x ∨ u = y ∨ u = z) := by
  rcases (by omega : j = 0 ∨ j = 1 ∨ j = 2) with rfl | rfl | rfl
  · exact ⟨_, rfl, .inl rfl⟩
  · exact ⟨_, rfl, .inr (.inl rfl)⟩
  · exact ⟨_, rfl, .inr (.inr rfl)⟩
set_option maxHeartbeats 8000000 in
set_option maxRecDepth 100000 in
theorem kettleOf_spec {B b : Nat} {H : Heap} (hB : B ≤ b) (hn : B ≤ H.n) (hb : Box b H) :
    CallB Try.prog B 17 [bp b] H (fun r H' => (∃ k, r = Kev k ∧ KOk k ∧ k.wa ≤ 30) ∧ Box b H' ∧ KeepX b H H') := by
  have hbn := hb.1
  refine CV.enter callees false rfl Try.func17 rfl (by kernel_rfl) (Nat.le_of_ble_eq_true rfl) hn ?_
  repeat' first
    | refine CO.cons rfl ?_
    | refine CO.nil ?_
    | refine CV.seq ?_
    | refine CV.region callees ?_
    | (refine ⟨_, _, al51, ?_⟩)
    | fail
  generalize hs0 : Heap.new H _ = H0
  have hg0 := new_get hs0
  have k0 := new_keep hs0
  have n0 := new_n hs0
  obtain ⟨b0, hbn0⟩ : ∃ b, Heap.n H = b := ⟨_, rfl⟩
  rw [hbn0] at hg0 n0 ⊢
  have hb0 := hb.keep k0
  repeat' first
    | fail
  refine (any_spec hB (by omega) hb0 (by omega) (by omega) (by omega)).mono ?_
  rintro r H1 ⟨⟨wa, rfl, wa1, wa2⟩, hb1, k1⟩
  have l1 := k1.1
  repeat' first
    | refine CO.cons rfl ?_
    | fail
  refine (bspan_spec hB (by omega) hb1 (by omega) (by omega) (by omega)).mono ?_
  rintro r H2 ⟨⟨p, rfl, p1, p2, p3⟩, hb2, k2⟩
  have l2 := k2.1
  repeat' first
    | refine CO.cons rfl ?_
    | fail
  refine (any_spec hB (by omega) hb2 (by omega) (by omega) (by omega)).mono ?_
  rintro r H3 ⟨⟨ro, rfl, ro1, ro2⟩, hb3, k3⟩
  have l3 := k3.1
  repeat' first
    | refine CO.cons rfl ?_
    | fail
  refine (up_spec hB (by omega) hb3 (by omega)).mono ?_
  rintro r H4 ⟨⟨g1, rfl, g1a, g1b⟩, hb4, k4⟩
  have l4 := k4.1
  repeat' first
    | refine CO.cons rfl ?_
    | fail
  refine (up_spec hB (by omega) hb4 (by omega)).mono ?_
  rintro r H5 ⟨⟨g2, rfl, g2a, g2b⟩, hb5, k5⟩
  have l5 := k5.1
  repeat' first
    | refine CO.cons rfl ?_
    | fail
  refine ⟨_, _, build_3, ?_⟩
  have hI6 : Ints (H5.new (.cells [VJ 0, VJ g1, VJ g2] 3 2)) (.slice (some ⟨H5.n, 0, none⟩) 3 0) [0, g1, g2] := new_row rfl
  generalize hs6 : H5.new _ = H6 at hI6 ⊢
  have k6 := new_keep hs6
  have n6 := new_n hs6
  have hb6 := hb5.keep k6
  repeat' first
    | refine CO.cons rfl ?_
    | fail
  refine (pick_spec hB (by omega) hb6 hI6 (by show 0 < 3; omega) (by show 3 ≤ 1000; omega)).mono ?_
  rintro r H7 ⟨⟨j, hj, rfl⟩, hb7, k7⟩
  have l7 := k7.1
  obtain ⟨ga, hga, hga2⟩ := pick3 (x := 0) (y := g1) (z := g2) hj
  rw [hga]
  repeat' first
    | refine CO.cons rfl ?_
    | fail
  refine (up_spec hB (by omega) hb7 (by omega)).mono ?_
  rintro r H8 ⟨⟨o1, rfl, o1a, o1b⟩, hb8, k8⟩
  have l8 := k8.1
  repeat' first
    | refine CO.cons rfl ?_
    | fail
  refine (up_spec hB (by omega) hb8 (by omega)).mono ?_
  rintro r H9 ⟨⟨o2, rfl, o2a, o2b⟩, hb9, k9⟩
  have l9 := k9.1
  repeat' first
    | refine CO.cons rfl ?_
    | fail
  refine ⟨_, _, build_3, ?_⟩
  have hIa : Ints (H9.new (.cells [VJ 0, VJ o1, VJ o2] 3 2)) (.slice (some ⟨H9.n, 0, none⟩) 3 0) [0, o1, o2] := new_row rfl
  generalize hsa : H9.new _ = Ha at hIa ⊢
  have ka := new_keep hsa
  have na := new_n hsa
  have hba := hb9.keep ka
  repeat' first
    | refine CO.cons rfl ?_
    | fail
  refine (pick_spec hB (by omega) hba hIa (by show 0 < 3; omega) (by show 3 ≤ 1000; omega)).mono ?_
  rintro r Hc ⟨⟨i, hi, rfl⟩, hbc, kc⟩
  have lc := kc.1
  obtain ⟨lo, hlo, hlo2⟩ := pick3 (x := 0) (y := o1) (z := o2) hi
  rw [hlo]
  have x0c : KeepX b H0 Hc := (((k1.trans k2).trans (k3.trans k4)).trans ((k5.trans (k6.butX b)).trans (k7.trans k8))).trans ((k9.trans (ka.butX b)).trans kc)
  have hgc := (x0c.2 b0 (by omega) (by omega)).trans hg0
  repeat' first
    | refine CO.cons rfl ?_
    | (refine ⟨_, bu51b, ?_⟩)
    | (refine ⟨_, _, al51, ?_⟩)
    | fail
  generalize hsd : Heap.new Hc _ = Hd
  have hgd := new_get hsd
  have kd := new_keep hsd
  have nd := new_n hsd
  obtain ⟨bd, hbnd⟩ : ∃ b, Heap.n Hc = b := ⟨_, rfl⟩
  rw [hbnd] at hgd nd ⊢
  have hgcd := (kd.2 b0 (by omega)).trans hgc
  repeat' first
    | fail
  refine ⟨_, _, st51 hgd, by omega, ?_⟩
  generalize hse : Heap.set Hd bd _ = He
  have hge : He.get bd = some (.cells (Kel ⟨wa, p.1, p.2, ro, ga, lo, 0, 0⟩) 29 1) := set_get hse
  have ne := set_n hse
  have oe := set_old hse
  have hge0 := (oe b0 (by omega)).trans hgcd
  have ke : Keep Hc He := keep_put kd (by omega) oe ne
  have hbe := hbc.keep ke
  have le := ke.1
  repeat' first
    | refine CO.cons rfl ?_
    | refine CO.nil ?_
    | refine CV.seq ?_
    | refine CV.region callees ?_
    | fail
  refine (any_spec hB (by omega) hbe (by omega) (by omega) (by omega)).mono ?_
  rintro r Hf ⟨⟨si, rfl, si1, si2⟩, hbf, kf⟩
  have lf := kf.1
  have hgf := (kf.2 bd (by omega) (by omega)).trans hge
  have hgf0 := (kf.2 b0 (by omega) (by omega)).trans hge0
  repeat' first
    | refine CO.cons rfl ?_
    | (refine ⟨_, fS foK5 (by decide), ?_⟩)
    | fail
  refine ⟨_, _, store_row (i := 6) sz3 hgf (Nat.le_of_ble_eq_true rfl) rfl, by omega, ?_⟩
  generalize hsg : Heap.set Hf bd _ = Hg
  have hgg : Hg.get bd = some (.cells (Kel ⟨wa, p.1, p.2, ro, ga, lo, si, 0⟩) 29 1) := set_get hsg
  have ng := set_n hsg
  have og := set_old hsg
  have hgg0 := (og b0 (by omega)).trans hgf0
  have hbg := hbf.put (by omega) og ng
  repeat' first
    | refine CO.cons rfl ?_
    | refine CO.nil ?_
    | refine CV.seq ?_
    | refine CV.region callees ?_
    | (refine ⟨_, fS foK5 (by decide), ?_⟩)
    | (refine ⟨_, cell_load ag3 hgg rfl, ?_⟩)
    | fail
  refine (any_spec (l := si) hB (by omega) hbg (by omega) (by omega) (by omega)).mono ?_
  rintro r Hh ⟨⟨bo, rfl, bo1, bo2⟩, hbh, kh⟩
  have lh := kh.1
  have hgh := (kh.2 bd (by omega) (by omega)).trans hgg
  have hgh0 := (kh.2 b0 (by omega) (by omega)).trans hgg0
  repeat' first
    | refine CO.cons rfl ?_
    | (refine ⟨_, fS foK6 (by decide), ?_⟩)
    | fail
  refine ⟨_, _, store_row (i := 7) sz3 hgh (Nat.le_of_ble_eq_true rfl) rfl, by omega, ?_⟩
  generalize hsi : Heap.set Hh bd _ = Hi
  have hgi : Hi.get bd = some (.cells (Kel ⟨wa, p.1, p.2, ro, ga, lo, si, bo⟩) 29 1) := set_get hsi
  have ni := set_n hsi
  have oi := set_old hsi
  have hgi0 := (oi b0 (by omega)).trans hgh0
  have hbi := hbh.put (by omega) oi ni
  repeat' first
    | refine CO.cons rfl ?_
    | refine CO.nil ?_
    | refine CV.seq ?_
    | refine CV.region callees ?_
    | (refine ⟨_, ld51 hgi, ?_⟩)
    | fail
  refine ⟨_, _, st51 hgi0, by omega, ?_⟩
  generalize hsj : Heap.set Hi b0 _ = Hj
  have hgj : Hj.get b0 = some (.cells (Kel ⟨wa, p.1, p.2, ro, ga, lo, si, bo⟩) 29 1) := set_get hsj
  have nj := set_n hsj
  have oj := set_old hsj
  repeat' first
    | refine CO.nil ?_
    | refine CV.ret ?_
    | fail
  have xe : KeepX b H He := ((k0.butX b).trans x0c).trans (ke.butX b)
  have xg : KeepX b H Hg := KeepX.put (xe.trans kf) (by omega) og ng
  have xi : KeepX b H Hi := KeepX.put (xg.trans kh) (by omega) oi ni
  exact ⟨_, ld51 hgj, rfl, ⟨⟨wa, p.1, p.2, ro, ga, lo, si, bo⟩, rfl, ⟨wa1, by (show wa ≤ 50); omega, by (show 0 ≤ p.1); omega, p2, by (show p.2 ≤ 1000); omega, by (show 0 ≤ ro); omega, by (show ro ≤ 1000); omega, si1, bo2, bo1, by (show 0 ≤ ga); omega, by (show ga ≤ 1000); omega, by (show 0 ≤ lo); omega, by (show lo ≤ 1000000); omega⟩, wa2⟩, hbi.put (by omega) oj nj, KeepX.put xi (by omega) oj nj⟩
end Go.Proofs.Ytglkphjjinmgmaa

