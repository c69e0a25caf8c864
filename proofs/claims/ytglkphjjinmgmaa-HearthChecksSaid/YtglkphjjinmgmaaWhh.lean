
/- Water that is heated; verdicts. -/
import Derived.Test.YtglkphjjinmgmaaWgh
set_option linter.unusedVariables false
set_option linter.unusedSimpArgs false
namespace Go.Proofs.Ytglkphjjinmgmaa
open Go.AI
set_option maxHeartbeats 4000000 in
set_option maxRecDepth 100000 in
theorem heated_spec {B : Nat} {H : Heap} {k : Ke} {w : Wt} {h : Int × Int} (hB : B ≤ H.n) (hw : WOk w) (hk : KOk k) (hh1 : 0 ≤ h.1) (hh2 : h.1 ≤ 12000) (hh3 : 0 ≤ h.2) (hh4 : h.2 ≤ 12000) :
    CallB Try.prog B 99 [Wtv w, Kev k, Hv h] H (fun r H' => r = Wtv (hotN k w h) ∧ Keep H H') := by
  obtain ⟨g0, g1⟩ := h
  replace hh1 : 0 ≤ g0 := hh1
  replace hh2 : g0 ≤ 12000 := hh2
  replace hh3 : 0 ≤ g1 := hh3
  replace hh4 : g1 ≤ 12000 := hh4
  obtain ⟨a1, a2, a3, a4, a5, a6⟩ := hw
  have s0 := hotS_bd hk a3 a4 a1 a2 hh1 hh2
  have s1 := hotS_bd hk a5 a6 a1 a2 hh3 hh4
  have hS : ∀ x y : Int, hotS k x y w.la = x * w.la * 1000000 + y * k.ga * 1000000 - (x - k.ro) * k.lo * w.la := fun _ _ => rfl
  obtain ⟨b1, b2, b3, b4, b5, b6, b7, b8, b9, b10, b11, b12, b13, b14⟩ := hk
  have m0 := mul_bd a3 a4 (show 0 ≤ w.la by omega) a2
  have m1 := mul_bd a5 a6 (show 0 ≤ w.la by omega) a2
  have p0 := mul_bd hh1 hh2 b11 b12
  have p1 := mul_bd hh3 hh4 b11 b12
  have q0 := mul0 (a := w.w0 - k.ro) (A := 1000) (by omega) (by omega) b13 b14 (by omega)
  have q1 := mul0 (a := w.w1 - k.ro) (A := 1000) (by omega) (by omega) b13 b14 (by omega)
  have u0 := mul0 (a := (w.w0 - k.ro) * k.lo) (A := 1000000000) (by omega) (by omega) (show 0 ≤ w.la by omega) a2 (by omega)
  have u1 := mul0 (a := (w.w1 - k.ro) * k.lo) (A := 1000000000) (by omega) (by omega) (show 0 ≤ w.la by omega) a2 (by omega)
  refine CV.enter callees false rfl Try.func99 rfl (by kernel_rfl) (Nat.le_of_ble_eq_true rfl) hB ?_
  repeat' first
    | refine CO.cons rfl ?_
    | refine CV.seq ?_
    | refine CV.region callees ?_
    | fail
  refine ⟨(by simp only [notTuple]), ?_⟩
  rw [boxWt]
  generalize hs0 : Heap.new H _ = H0
  have hg0 := new_get hs0
  have k0 := new_keep hs0
  have n0 := new_n hs0
  obtain ⟨b0, hbn0⟩ : ∃ b, Heap.n H = b := ⟨_, rfl⟩
  rw [hbn0] at hg0 n0 ⊢
  repeat' first
    | refine CO.cons rfl ?_
    | fail
  refine ⟨(by simp only [notTuple]), ?_⟩
  rw [boxKe]
  generalize hs1 : Heap.new H0 _ = H1
  have hg1 := new_get hs1
  have k1 := new_keep hs1
  have n1 := new_n hs1
  obtain ⟨b1, hbn1⟩ : ∃ b, Heap.n H0 = b := ⟨_, rfl⟩
  rw [hbn1] at hg1 n1 ⊢
  repeat' first
    | refine CO.cons rfl ?_
    | fail
  refine ⟨(by simp only [notTuple]), ?_⟩
  rw [allocHv]
  generalize hs2 : Heap.new H1 _ = H2
  have hg2 := new_get hs2
  have k2 := new_keep hs2
  have n2 := new_n hs2
  obtain ⟨b2, hbn2⟩ : ∃ b, Heap.n H1 = b := ⟨_, rfl⟩
  rw [hbn2] at hg2 n2 ⊢
  repeat' first
    | refine CO.cons rfl ?_
    | refine CO.nil ?_
    | refine CV.seq ?_
    | refine CV.region callees ?_
    | (refine ⟨_, _, al117, ?_⟩)
    | fail
  generalize hs3 : Heap.new H2 _ = H3
  have hg3 := new_get hs3
  have k3 := new_keep hs3
  have n3 := new_n hs3
  obtain ⟨b3, hbn3⟩ : ∃ b, Heap.n H2 = b := ⟨_, rfl⟩
  rw [hbn3] at hg3 n3 ⊢
  have k03 := ((k0.trans k1).trans k2).trans k3
  have hw3 := (k3.2 b0 (by omega)).trans ((k2.2 b0 (by omega)).trans ((k1.2 b0 (by omega)).trans hg0))
  have hk3 := (k3.2 b1 (by omega)).trans ((k2.2 b1 (by omega)).trans hg1)
  have hh3' : H3.get b2 = some (.cells [VJ g0, VJ g1] 104 1) := (k3.2 b2 (by omega)).trans hg2
  repeat' first
    | refine CO.cons rfl ?_
    | refine CO.nil ?_
    | refine CV.block ?_
    | (refine ⟨_, fS foW1 (by decide), ?_⟩)
    | (refine ⟨_, agg_load ag87 sz87 hw3 (Nat.le_of_ble_eq_true rfl), ?_⟩)
    | fail
  obtain ⟨r0, hr0⟩ : ∃ r, min (rnd (hotS k w.w0 g0 w.la) (w.la * 1000000) 0) 1000 = r := ⟨_, rfl⟩
  obtain ⟨r1, hr1⟩ : ∃ r, min (rnd (hotS k w.w1 g1 w.la) (w.la * 1000000) 1) 1000 = r := ⟨_, rfl⟩
  refine CV.loopc ?_
  refine WCv.rounds callees false (α := Nat) (fun i => [(3, .pointer (some ⟨b0, 0, none⟩)), (4, .pointer (some ⟨b1, 0, none⟩)), (5, .pointer (some ⟨b2, 0, none⟩)), (6, .pointer (some ⟨b3, 0, none⟩)), (11, Hv (w.w0, w.w1)), (12, VJ i)]) (fun i Hz => i ≤ 2 ∧ Hz.get b0 = some (.cells (Wtl ⟨w.la, if 0 < i then r0 else w.w0, if 1 < i then r1 else w.w1⟩) 138 1) ∧ Hz.get b1 = some (.cells (Kel k) 29 1) ∧ Hz.get b2 = some (.cells [VJ g0, VJ g1] 104 1) ∧ Hz.get b3 = some (.cells (Wtl ⟨0, 0, 0⟩) 138 1) ∧ Keep H Hz ∧ b3 < Hz.n) (fun i => 2 - i) (0) (by repeat' first | exact trivial | refine ⟨rfl, ?_⟩ | refine ⟨slot_int (by (try simp only [Int.toNat_natCast]); omega), ?_⟩) ?_ ?_
  · exact ⟨by omega, hw3, hk3, hh3', hg3, k03, by omega⟩
  clear hw3 hk3 hh3' hg3
  rintro i Hx ⟨hi, hwx, hkx, hhx, hgx, kx, lx⟩ hBx
  by_cases hi2 : i < 2
  · rcases (show i = 0 ∨ i = 1 by omega) with rfl | rfl
    · replace hwx : Hx.get b0 = some (.cells [VJ w.la, VJ w.w0, VJ w.w1] 138 1) := hwx
      have e0 := hS w.w0 g0
      repeat' first
        | refine CO.cons rfl ?_
        | refine CO.nil ?_
        | refine CV.seq ?_
        | refine CV.region callees ?_
        | refine CV.cond ?_
        | refine CV.block ?_
        | refine CV.skip ?_
        | refine CV.draw callees (by decide +kernel) ?_
        | refine CH.cons rfl ?_
        | refine CH.nil ?_
        | refine ⟨(⟨by omega, by omega⟩ : inI64 _), ?_⟩
        | (refine ⟨_, ixA, ?_⟩)
        | (refine ⟨_, fS foW0 (by decide), ?_⟩)
        | (refine ⟨_, fS foK2 (by decide), ?_⟩)
        | (refine ⟨_, fS foK3 (by decide), ?_⟩)
        | (refine ⟨_, fS foK4 (by decide), ?_⟩)
        | (refine ⟨_, cell_load ag3 hwx rfl, ?_⟩)
        | (refine ⟨_, cell_load ag3 hkx rfl, ?_⟩)
        | (refine ⟨_, cell_load ag3 hhx rfl, ?_⟩)
        | (refine ⟨fun _ => ?_, fun _ => ?_⟩ <;> first | (exfalso; omega) | skip)
        | fail
      refine (rounded_spec (by omega) (by rw [← e0]; omega) (by rw [← e0]; omega) (by omega) (by omega)).mono ?_
      rintro r H4 ⟨rfl, k4⟩
      rw [← e0]
      have l4 := k4.1
      have hw4 := (k4.2 b0 (by omega)).trans hwx
      repeat' first
        | refine CO.cons rfl ?_
        | (refine ⟨_, fun tm ha => step1_min rfl (ev_tmp ha rfl) rfl, ?_⟩)
        | (refine ⟨_, fS foW1 (by decide), ?_⟩)
        | fail
      refine ⟨_, _, store_row sz3 hw4 (Nat.le_of_ble_eq_true rfl) rfl, by omega, ?_⟩
      generalize hs5 : Heap.set H4 b0 _ = H5
      have hg5 : H5.get b0 = some (.cells ([VJ w.la, VJ (min (rnd (hotS k w.w0 g0 w.la) (w.la * 1000000) 0) 1000), VJ w.w1]) 138 1) := set_get hs5
      have n5 := set_n hs5
      have o5 := set_old hs5
      rw [hr0] at hg5
      repeat' first
        | refine CO.cons rfl ?_
        | refine CO.nil ?_
        | refine CV.region callees ?_
        | refine ⟨(⟨by omega, by omega⟩ : inI64 _), ?_⟩
        | fail
      refine ⟨(1), (by repeat' first | exact trivial | refine ⟨rfl, ?_⟩ | refine ⟨slot_int (by (try simp only [Int.toNat_natCast]); omega), ?_⟩), (by (try dsimp only); omega), ?_⟩
      exact ⟨by omega, hg5, (o5 b1 (by omega)).trans ((k4.2 b1 (by omega)).trans hkx), (o5 b2 (by omega)).trans ((k4.2 b2 (by omega)).trans hhx), (o5 b3 (by omega)).trans ((k4.2 b3 (by omega)).trans hgx), keep_put (kx.trans k4) (by omega) o5 n5, by omega⟩
    · replace hwx : Hx.get b0 = some (.cells [VJ w.la, VJ r0, VJ w.w1] 138 1) := hwx
      have e0 := hS w.w1 g1
      repeat' first
        | refine CO.cons rfl ?_
        | refine CO.nil ?_
        | refine CV.seq ?_
        | refine CV.region callees ?_
        | refine CV.cond ?_
        | refine CV.block ?_
        | refine CV.skip ?_
        | refine CV.draw callees (by decide +kernel) ?_
        | refine CH.cons rfl ?_
        | refine CH.nil ?_
        | refine ⟨(⟨by omega, by omega⟩ : inI64 _), ?_⟩
        | (refine ⟨_, ixB, ?_⟩)
        | (refine ⟨_, fS foW0 (by decide), ?_⟩)
        | (refine ⟨_, fS foK2 (by decide), ?_⟩)
        | (refine ⟨_, fS foK3 (by decide), ?_⟩)
        | (refine ⟨_, fS foK4 (by decide), ?_⟩)
        | (refine ⟨_, cell_load ag3 hwx rfl, ?_⟩)
        | (refine ⟨_, cell_load ag3 hkx rfl, ?_⟩)
        | (refine ⟨_, cell_load ag3 hhx rfl, ?_⟩)
        | (refine ⟨fun _ => ?_, fun _ => ?_⟩ <;> first | (exfalso; omega) | skip)
        | fail
      refine (rounded_spec (by omega) (by rw [← e0]; omega) (by rw [← e0]; omega) (by omega) (by omega)).mono ?_
      rintro r H4 ⟨rfl, k4⟩
      rw [← e0]
      have l4 := k4.1
      have hw4 := (k4.2 b0 (by omega)).trans hwx
      repeat' first
        | refine CO.cons rfl ?_
        | (refine ⟨_, fun tm ha => step1_min rfl (ev_tmp ha rfl) rfl, ?_⟩)
        | (refine ⟨_, fS foW1 (by decide), ?_⟩)
        | fail
      refine ⟨_, _, store_row sz3 hw4 (Nat.le_of_ble_eq_true rfl) rfl, by omega, ?_⟩
      generalize hs5 : Heap.set H4 b0 _ = H5
      have hg5 : H5.get b0 = some (.cells ([VJ w.la, VJ r0, VJ (min (rnd (hotS k w.w1 g1 w.la) (w.la * 1000000) 1) 1000)]) 138 1) := set_get hs5
      have n5 := set_n hs5
      have o5 := set_old hs5
      rw [hr1] at hg5
      repeat' first
        | refine CO.cons rfl ?_
        | refine CO.nil ?_
        | refine CV.region callees ?_
        | refine ⟨(⟨by omega, by omega⟩ : inI64 _), ?_⟩
        | fail
      refine ⟨(2), (by repeat' first | exact trivial | refine ⟨rfl, ?_⟩ | refine ⟨slot_int (by (try simp only [Int.toNat_natCast]); omega), ?_⟩), (by (try dsimp only); omega), ?_⟩
      exact ⟨by omega, hg5, (o5 b1 (by omega)).trans ((k4.2 b1 (by omega)).trans hkx), (o5 b2 (by omega)).trans ((k4.2 b2 (by omega)).trans hhx), (o5 b3 (by omega)).trans ((k4.2 b3 (by omega)).trans hgx), keep_put (kx.trans k4) (by omega) o5 n5, by omega⟩
  have hie : i = 2 := by omega
  subst hie
  replace hwx : Hx.get b0 = some (.cells (Wtl ⟨w.la, r0, r1⟩) 138 1) := hwx
  repeat' first
    | refine CO.cons rfl ?_
    | refine CO.nil ?_
    | refine CV.seq ?_
    | refine CV.region callees ?_
    | refine CV.cond ?_
    | refine CV.exit ?_
    | (refine ⟨_, ld117 hwx, ?_⟩)
    | (refine ⟨fun _ => ?_, fun _ => ?_⟩ <;> first | (exfalso; omega) | skip)
    | fail
  refine ⟨_, _, st117 hgx, by omega, ?_⟩
  generalize hs7 : Heap.set Hx b3 _ = H7
  have hg7 : H7.get b3 = some (.cells (Wtl ⟨w.la, r0, r1⟩) 138 1) := set_get hs7
  have n7 := set_n hs7
  have o7 := set_old hs7
  repeat' first
    | refine CO.nil ?_
    | refine CV.ret ?_
    | fail
  exact ⟨_, ld117 hg7, rfl, by rw [hotN, hr0, hr1], keep_put kx (by omega) o7 n7⟩
theorem foB0 : fieldOff Try.prog 116 0 = some (0, 8) := by kernel_rfl
theorem foB1 : fieldOff Try.prog 116 1 = some (8, 1) := by kernel_rfl
theorem foB2 : fieldOff Try.prog 116 2 = some (9, 1) := by kernel_rfl
end Go.Proofs.Ytglkphjjinmgmaa

