
/- The heat that a coal gives in a minute. -/
import Derived.Test.YtglkphjjinmgmaaWbh
set_option linter.unusedVariables false
set_option linter.unusedSimpArgs false
namespace Go.Proofs.Ytglkphjjinmgmaa
open Go.AI
/-- An ember's numbers, within bounds. -/
structure EmOk (x : Em) : Prop where
  b0 : 0 ≤ x.b0
  b0' : x.b0 ≤ 1000000
  b1 : 0 ≤ x.b1
  b1' : x.b1 ≤ 1000000
  l0 : 1 ≤ x.l0
  l0' : x.l0 ≤ 300
  l1 : 1 ≤ x.l1
  l1' : x.l1 ≤ 300
  h0 : 0 ≤ x.h0
  h0' : x.h0 ≤ 1000
  h1 : 0 ≤ x.h1
  h1' : x.h1 ≤ 1000
theorem emL_ok {cs : List Co} {ts : List (Int × Int)} {B0 B1 : List Int} (hf : FOk cs ts) (h0 : IsBeg 0 cs ts B0) (h1 : IsBeg 1 cs ts B1) : ∀ i, i < (emL cs B0 B1).length → EmOk (emL cs B0 B1)[i]! := by
  intro i hi
  rw [emL_len] at hi
  rw [emL_at hi]
  have a := h0.lo i (by rw [h0.len]; exact hi)
  have b := h1.lo i (by rw [h1.len]; exact hi)
  obtain ⟨c1, c2, c3, d1, d2, d3, e1, e2, e3⟩ := hf.c i hi
  exact ⟨a.1, a.2, b.1, b.2, d1, by show cs[i]!.bl ≤ 300; omega, by show 1 ≤ cs[i]!.bh; omega, d3, e1, by show cs[i]!.hl ≤ 1000; omega, by show 0 ≤ cs[i]!.hh; omega, e3⟩
/-- The heat that a coal gives in a minute. -/
def giv (m : Int) (x : Em) : Int × Int := (if x.b1 ≤ m ∧ m < x.b0 + x.l0 then x.h0 else 0, if x.b0 ≤ m ∧ m < x.b1 + x.l1 then x.h1 else 0)
set_option maxHeartbeats 4000000 in
set_option maxRecDepth 100000 in
theorem given_spec {B : Nat} {H : Heap} {x : Em} {m : Int} (hB : B ≤ H.n) (hx : EmOk x) :
    CallB Try.prog B 95 [Emv x, VJ m] H (fun r H' => r = Hv (giv m x) ∧ Keep H H') := by
  obtain ⟨a1, a2, a3, a4, a5, a6, a7, a8, a9, a10, a11, a12⟩ := hx
  refine CV.enter callees false rfl Try.func95 rfl (by kernel_rfl) (Nat.le_of_ble_eq_true rfl) hB ?_
  repeat' first
    | refine CO.cons rfl ?_
    | refine CV.seq ?_
    | refine CV.region callees ?_
    | fail
  refine ⟨(by simp only [notTuple]), ?_⟩
  rw [boxEm]
  generalize hs0 : Heap.new H _ = H0
  have hg0 := new_get hs0
  have k0 := new_keep hs0
  have n0 := new_n hs0
  obtain ⟨b0, hbn0⟩ : ∃ b, Heap.n H = b := ⟨_, rfl⟩
  rw [hbn0] at hg0 n0 ⊢
  repeat' first
    | refine CO.cons rfl ?_
    | refine CO.nil ?_
    | refine CV.seq ?_
    | refine CV.region callees ?_
    | (refine ⟨_, _, al87, ?_⟩)
    | fail
  generalize hs1 : Heap.new H0 _ = H1
  have hg1 := new_get hs1
  have k1 := new_keep hs1
  have n1 := new_n hs1
  obtain ⟨b1, hbn1⟩ : ∃ b, Heap.n H0 = b := ⟨_, rfl⟩
  rw [hbn1] at hg1 n1 ⊢
  repeat' first
    | fail
  generalize hs2 : Heap.new H1 _ = H2
  have hg2 := new_get hs2
  have k2 := new_keep hs2
  have n2 := new_n hs2
  obtain ⟨b2, hbn2⟩ : ∃ b, Heap.n H1 = b := ⟨_, rfl⟩
  rw [hbn2] at hg2 n2 ⊢
  have k02 := (k0.trans k1).trans k2
  have he2 := (k2.2 b0 (by omega)).trans ((k1.2 b0 (by omega)).trans hg0)
  have hr2 := (k2.2 b1 (by omega)).trans hg1
  have hgE : giv m x = (if x.b1 ≤ m ∧ m < x.b0 + x.l0 then x.h0 else 0, if x.b0 ≤ m ∧ m < x.b1 + x.l1 then x.h1 else 0) := rfl
  repeat' first
    | refine CO.cons rfl ?_
    | refine CO.nil ?_
    | refine CV.seq ?_
    | refine CV.region callees ?_
    | refine CV.cond ?_
    | refine CV.skip ?_
    | refine CO.consG rfl ?_
    | refine ⟨(⟨by omega, by omega⟩ : inI64 _), ?_⟩
    | (refine ⟨_, fS foE0 (by decide), ?_⟩)
    | (refine ⟨_, fS foE1 (by decide), ?_⟩)
    | (refine ⟨_, fS foE2 (by decide), ?_⟩)
    | (refine ⟨_, cell_load ag3 he2 rfl, ?_⟩)
    | (refine ⟨fun _ => ?_, fun _ => ?_⟩ <;> first | (exfalso; omega) | skip)
    | fail
  · rename_i hd1 hd2
    refine ⟨_, _, store_row sz3 hg2 (Nat.le_of_ble_eq_true rfl) rfl, by omega, ?_⟩
    generalize hs3 : Heap.set H2 b2 _ = H3
    have hg3 : H3.get b2 = some (.cells (Hl (x.h0, 0)) 104 1) := set_get hs3
    have n3 := set_n hs3
    have o3 := set_old hs3
    have hr3 := (o3 b1 (by omega)).trans hr2
    have he3 := (o3 b0 (by omega)).trans he2
    have k3 : Keep H H3 := keep_put k02 (by omega) o3 n3
    repeat' first
      | refine CO.cons rfl ?_
      | refine CO.nil ?_
      | refine CV.seq ?_
      | refine CV.region callees ?_
      | refine CV.cond ?_
      | refine CV.skip ?_
      | refine CO.consG rfl ?_
      | refine ⟨(⟨by omega, by omega⟩ : inI64 _), ?_⟩
      | (refine ⟨_, fS foE0 (by decide), ?_⟩)
      | (refine ⟨_, fS foE1 (by decide), ?_⟩)
      | (refine ⟨_, fS foE2 (by decide), ?_⟩)
      | (refine ⟨_, cell_load ag3 he3 rfl, ?_⟩)
      | (refine ⟨fun _ => ?_, fun _ => ?_⟩ <;> first | (exfalso; omega) | skip)
      | fail
    · rename_i hc1 hc2
      refine ⟨_, _, store_row sz3 hg3 (Nat.le_of_ble_eq_true rfl) rfl, by omega, ?_⟩
      generalize hs5 : Heap.set H3 b2 _ = H5
      have hg5 : H5.get b2 = some (.cells (Hl (x.h0, x.h1)) 104 1) := set_get hs5
      have n5 := set_n hs5
      have o5 := set_old hs5
      have hr5 := (o5 b1 (by omega)).trans hr3
      have k5 : Keep H H5 := keep_put k3 (by omega) o5 n5
      rw [show (x.h0, x.h1) = giv m x by rw [hgE, if_pos (show x.b0 ≤ m ∧ m < x.b1 + x.l1 from ⟨hc1, hc2⟩)]; rw [if_pos (show x.b1 ≤ m ∧ m < x.b0 + x.l0 from ⟨hd1, hd2⟩)]] at hg5
      repeat' first
        | refine CO.cons rfl ?_
        | refine CO.nil ?_
        | refine CV.seq ?_
        | refine CV.region callees ?_
        | (refine ⟨_, ld87 hg5, ?_⟩)
        | fail
      refine ⟨_, _, st87 hr5, by omega, ?_⟩
      generalize hs9 : Heap.set H5 b1 _ = H9
      have hg9 : H9.get b1 = some (.cells (Hl (giv m x)) 104 1) := set_get hs9
      have n9 := set_n hs9
      have o9 := set_old hs9
      repeat' first
        | refine CO.nil ?_
        | refine CV.ret ?_
        | fail
      exact ⟨_, ld87 hg9, rfl, rfl, keep_put k5 (by omega) o9 n9⟩
    · rename_i hc1 hc2
      have hg6 := hg3
      rw [show (x.h0, (0 : Int)) = giv m x by rw [hgE, if_neg (fun h : x.b0 ≤ m ∧ m < x.b1 + x.l1 => hc2 h.2)]; rw [if_pos (show x.b1 ≤ m ∧ m < x.b0 + x.l0 from ⟨hd1, hd2⟩)]] at hg6
      repeat' first
        | refine CO.cons rfl ?_
        | (refine ⟨_, ld87 hg6, ?_⟩)
        | fail
      refine ⟨_, _, st87 hr3, by omega, ?_⟩
      generalize hs9 : Heap.set H3 b1 _ = H9
      have hg9 : H9.get b1 = some (.cells (Hl (giv m x)) 104 1) := set_get hs9
      have n9 := set_n hs9
      have o9 := set_old hs9
      repeat' first
        | refine CO.nil ?_
        | refine CV.ret ?_
        | fail
      exact ⟨_, ld87 hg9, rfl, rfl, keep_put k3 (by omega) o9 n9⟩
    · rename_i hc1
      have hg6 := hg3
      rw [show (x.h0, (0 : Int)) = giv m x by rw [hgE, if_neg (fun h : x.b0 ≤ m ∧ m < x.b1 + x.l1 => hc1 h.1)]; rw [if_pos (show x.b1 ≤ m ∧ m < x.b0 + x.l0 from ⟨hd1, hd2⟩)]] at hg6
      repeat' first
        | refine CO.cons rfl ?_
        | (refine ⟨_, ld87 hg6, ?_⟩)
        | fail
      refine ⟨_, _, st87 hr3, by omega, ?_⟩
      generalize hs9 : Heap.set H3 b1 _ = H9
      have hg9 : H9.get b1 = some (.cells (Hl (giv m x)) 104 1) := set_get hs9
      have n9 := set_n hs9
      have o9 := set_old hs9
      repeat' first
        | refine CO.nil ?_
        | refine CV.ret ?_
        | fail
      exact ⟨_, ld87 hg9, rfl, rfl, keep_put k3 (by omega) o9 n9⟩
  · rename_i hd1 hd2 hc1 hc2
    refine ⟨_, _, store_row sz3 hg2 (Nat.le_of_ble_eq_true rfl) rfl, by omega, ?_⟩
    generalize hs5 : Heap.set H2 b2 _ = H5
    have hg5 : H5.get b2 = some (.cells (Hl ((0 : Int), x.h1)) 104 1) := set_get hs5
    have n5 := set_n hs5
    have o5 := set_old hs5
    have hr5 := (o5 b1 (by omega)).trans hr2
    have k5 : Keep H H5 := keep_put k02 (by omega) o5 n5
    rw [show ((0 : Int), x.h1) = giv m x by rw [hgE, if_pos (show x.b0 ≤ m ∧ m < x.b1 + x.l1 from ⟨hc1, hc2⟩)]; rw [if_neg (fun h : x.b1 ≤ m ∧ m < x.b0 + x.l0 => hd2 h.2)]] at hg5
    repeat' first
      | refine CO.cons rfl ?_
      | refine CO.nil ?_
      | refine CV.seq ?_
      | refine CV.region callees ?_
      | (refine ⟨_, ld87 hg5, ?_⟩)
      | fail
    refine ⟨_, _, st87 hr5, by omega, ?_⟩
    generalize hs9 : Heap.set H5 b1 _ = H9
    have hg9 : H9.get b1 = some (.cells (Hl (giv m x)) 104 1) := set_get hs9
    have n9 := set_n hs9
    have o9 := set_old hs9
    repeat' first
      | refine CO.nil ?_
      | refine CV.ret ?_
      | fail
    exact ⟨_, ld87 hg9, rfl, rfl, keep_put k5 (by omega) o9 n9⟩
  · rename_i hd1 hd2 hc1 hc2
    have hg6 := hg2
    rw [show ((0 : Int), (0 : Int)) = giv m x by rw [hgE, if_neg (fun h : x.b0 ≤ m ∧ m < x.b1 + x.l1 => hc2 h.2)]; rw [if_neg (fun h : x.b1 ≤ m ∧ m < x.b0 + x.l0 => hd2 h.2)]] at hg6
    repeat' first
      | refine CO.cons rfl ?_
      | (refine ⟨_, ld87 hg6, ?_⟩)
      | fail
    refine ⟨_, _, st87 hr2, by omega, ?_⟩
    generalize hs9 : Heap.set H2 b1 _ = H9
    have hg9 : H9.get b1 = some (.cells (Hl (giv m x)) 104 1) := set_get hs9
    have n9 := set_n hs9
    have o9 := set_old hs9
    repeat' first
      | refine CO.nil ?_
      | refine CV.ret ?_
      | fail
    exact ⟨_, ld87 hg9, rfl, rfl, keep_put k02 (by omega) o9 n9⟩
  · rename_i hd1 hc1 hc2
    refine ⟨_, _, store_row sz3 hg2 (Nat.le_of_ble_eq_true rfl) rfl, by omega, ?_⟩
    generalize hs5 : Heap.set H2 b2 _ = H5
    have hg5 : H5.get b2 = some (.cells (Hl ((0 : Int), x.h1)) 104 1) := set_get hs5
    have n5 := set_n hs5
    have o5 := set_old hs5
    have hr5 := (o5 b1 (by omega)).trans hr2
    have k5 : Keep H H5 := keep_put k02 (by omega) o5 n5
    rw [show ((0 : Int), x.h1) = giv m x by rw [hgE, if_pos (show x.b0 ≤ m ∧ m < x.b1 + x.l1 from ⟨hc1, hc2⟩)]; rw [if_neg (fun h : x.b1 ≤ m ∧ m < x.b0 + x.l0 => hd1 h.1)]] at hg5
    repeat' first
      | refine CO.cons rfl ?_
      | refine CO.nil ?_
      | refine CV.seq ?_
      | refine CV.region callees ?_
      | (refine ⟨_, ld87 hg5, ?_⟩)
      | fail
    refine ⟨_, _, st87 hr5, by omega, ?_⟩
    generalize hs9 : Heap.set H5 b1 _ = H9
    have hg9 : H9.get b1 = some (.cells (Hl (giv m x)) 104 1) := set_get hs9
    have n9 := set_n hs9
    have o9 := set_old hs9
    repeat' first
      | refine CO.nil ?_
      | refine CV.ret ?_
      | fail
    exact ⟨_, ld87 hg9, rfl, rfl, keep_put k5 (by omega) o9 n9⟩
  · rename_i hd1 hc1
    have hg6 := hg2
    rw [show ((0 : Int), (0 : Int)) = giv m x by rw [hgE, if_neg (fun h : x.b0 ≤ m ∧ m < x.b1 + x.l1 => hc1 h.1)]; rw [if_neg (fun h : x.b1 ≤ m ∧ m < x.b0 + x.l0 => hd1 h.1)]] at hg6
    repeat' first
      | refine CO.cons rfl ?_
      | (refine ⟨_, ld87 hg6, ?_⟩)
      | fail
    refine ⟨_, _, st87 hr2, by omega, ?_⟩
    generalize hs9 : Heap.set H2 b1 _ = H9
    have hg9 : H9.get b1 = some (.cells (Hl (giv m x)) 104 1) := set_get hs9
    have n9 := set_n hs9
    have o9 := set_old hs9
    repeat' first
      | refine CO.nil ?_
      | refine CV.ret ?_
      | fail
    exact ⟨_, ld87 hg9, rfl, rfl, keep_put k02 (by omega) o9 n9⟩
end Go.Proofs.Ytglkphjjinmgmaa

