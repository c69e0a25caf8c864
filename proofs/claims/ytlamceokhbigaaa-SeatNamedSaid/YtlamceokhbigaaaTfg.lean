
/- Rules and parties made of numbers; copies of parties. -/
import Derived.Test.YtlamceokhbigaaaTeg
set_option linter.unusedVariables false
set_option linter.unusedSimpArgs false
namespace Go.Proofs.Ytlamceokhbigaaa
open Go.AI
set_option maxRecDepth 100000 in
theorem named_spec {B : Nat} {H : Heap} {k : Int} (hB : B ≤ H.n) (h : 1 ≤ k ∧ k ≤ 6) :
    CallB Try.prog B 113 [VI k] H (fun r H' => r = VI (nmd k) ∧ H' = H) := by
  refine CV.enter callees false rfl Try.func113 rfl (by kernel_rfl) (Nat.le_of_ble_eq_true rfl) hB ?_
  repeat' first
    | refine CO.cons rfl ?_
    | refine CO.nil ?_
    | refine CV.seq ?_
    | refine CV.region callees ?_
    | refine CV.cond ?_
    | refine CV.block ?_
    | refine CV.skip ?_
    | refine CV.ret ?_
    | (refine ⟨fun _ => ?_, fun _ => ?_⟩ <;> first | (exfalso; omega) | skip)
    | fail
  all_goals
    refine ⟨rfl, ?_, rfl⟩
    unfold nmd
    congr 1
    repeat' split
    all_goals omega
set_option maxHeartbeats 16000000 in
set_option maxRecDepth 100000 in
theorem ruleOf_spec {B b : Nat} {H : Heap} {n : Int} (hB : B ≤ b) (hn : B ≤ H.n) (hb : Box b H) (h1 : 1 ≤ n) (h7 : n ≤ 7) :
    CallB Try.prog B 57 [bp b, VI n] H (fun v H' => (∃ r, v = Ruv r ∧ RuOk n r) ∧ Box b H' ∧ KeepX b H H') := by
  have hbn := hb.1
  refine CV.enter callees false rfl Try.func57 rfl (by kernel_rfl) (Nat.le_of_ble_eq_true rfl) hn ?_
  repeat' first
    | refine CO.cons rfl ?_
    | refine CO.nil ?_
    | refine CV.seq ?_
    | refine CV.region callees ?_
    | (refine ⟨_, _, al81, ?_⟩)
    | fail
  generalize hs0 : Heap.new H _ = H0
  have hg0 := new_get hs0
  have k0 := new_keep hs0
  have n0 := new_n hs0
  obtain ⟨b0, hbn0⟩ : ∃ b, Heap.n H = b := ⟨_, rfl⟩
  rw [hbn0] at hg0 n0 ⊢
  have hb0 := hb.keep k0
  repeat' first
    | fail
  refine (any_spec hB (by omega) hb0 (by omega) (by omega) (by omega)).mono ?_
  rintro r1 H1 ⟨⟨kd, rfl, kd1, kd6⟩, hb1, k1⟩
  have l1 := k1.1
  repeat' first
    | refine CO.cons rfl ?_
    | fail
  refine (any_spec hB (by omega) hb1 (by omega) (by omega) (by omega)).mono ?_
  rintro r1 H2 ⟨⟨u, rfl, u1, u2⟩, hb2, k2⟩
  have l2 := k2.1
  repeat' first
    | refine CO.cons rfl ?_
    | fail
  refine (any_spec hB (by omega) hb2 (by omega) (by omega) (by omega)).mono ?_
  rintro r1 H3 ⟨⟨w, rfl, w1, w2⟩, hb3, k3⟩
  have l3 := k3.1
  repeat' first
    | refine CO.cons rfl ?_
    | (refine ⟨_, _, bld3, ?_⟩)
    | fail
  have kA := Keep.new H3 (.cells [VI 0, VI u, VI w] 3 2)
  have hIA : Ints (H3.new (.cells [VI 0, VI u, VI w] 3 2)) (.slice (some ⟨H3.n, 0, none⟩) 3 0) [0, u, w] := new_row rfl
  generalize hsA : H3.new _ = HA at kA hIA ⊢
  have lA := kA.1
  refine (pick_spec hB (by omega) (hb3.keep kA) hIA (by (show 0 < 3); decide) (by (show 3 ≤ 1000); decide)).mono ?_
  rintro r1 H4 ⟨⟨j, hj, rfl⟩, hb4, k4⟩
  have l4 := k4.1
  obtain ⟨wt, hwt, wt0, wt1⟩ : ∃ wt, ([0, u, w] : List Int)[j]! = wt ∧ 0 ≤ wt ∧ wt ≤ 1000 := by
    refine ⟨_, rfl, ?_⟩
    have hj3 : j < 3 := hj
    rcases (by omega : j = 0 ∨ j = 1 ∨ j = 2) with rfl | rfl | rfl
    · show (0 : Int) ≤ 0 ∧ (0 : Int) ≤ 1000; omega
    · show 0 ≤ u ∧ u ≤ 1000; omega
    · show 0 ≤ w ∧ w ≤ 1000; omega
  rw [hwt]
  have x4 : KeepX b H H4 := (((k0.butX b).trans k1).trans k2).trans ((k3.trans (kA.butX b)).trans k4)
  have hz4 : H4.get b0 = some (.cells (Rul ru0) 81 1) := (k4.2 b0 (by omega) (by omega)).trans ((kA.2 b0 (by omega)).trans ((k3.2 b0 (by omega) (by omega)).trans ((k2.2 b0 (by omega) (by omega)).trans ((k1.2 b0 (by omega) (by omega)).trans hg0))))
  repeat' first
    | refine CO.cons rfl ?_
    | (refine ⟨_, bu81, ?_⟩)
    | (refine ⟨_, _, al81, ?_⟩)
    | fail
  generalize hs5 : Heap.new H4 _ = H5
  have hg5 := new_get hs5
  have k5 := new_keep hs5
  have n5 := new_n hs5
  obtain ⟨b5, hbn5⟩ : ∃ b, Heap.n H4 = b := ⟨_, rfl⟩
  rw [hbn5] at hg5 n5 ⊢
  repeat' first
    | fail
  refine ⟨_, _, st81 hg5, by omega, ?_⟩
  generalize hs6 : Heap.set H5 b5 _ = H6
  have hg6 : H6.get b5 = some (.cells (Rul ⟨kd, 0, 0, wt⟩) 81 1) := set_get hs6
  have n6 := set_n hs6
  have o6 := set_old hs6
  have k46 : Keep H4 H6 := keep_put k5 (by omega) o6 n6
  have hz6 := (k46.2 b0 (by omega)).trans hz4
  have hb6 := hb4.keep k46
  have x6 := x4.trans (k46.butX b)
  refine CO.nil ?_
  refine CV.seq ?_
  refine CV.midK (α := Int) (fun kd => [(0, bp b), (1, VI n), (4, .pointer (some ⟨b0, 0, none⟩)), (5, .pointer (some ⟨b5, 0, none⟩))]) (fun kd Hz => (1 ≤ kd ∧ kd ≤ 6 ∧ (n = 1 → 3 < kd)) ∧ Hz.get b5 = some (.cells (Rul ⟨kd, 0, 0, wt⟩) 81 1) ∧ Hz.get b0 = some (.cells (Rul ru0) 81 1) ∧ Box b Hz ∧ KeepX b H Hz ∧ b5 < Hz.n) ?_ ?_
  · have hnm := nmd_cases kd
    by_cases hn1 : n = 1
    · repeat' first
        | refine CO.cons rfl ?_
        | refine CV.seq ?_
        | refine CV.region callees ?_
        | refine CO.consG rfl ?_
        | (refine ⟨_, fS foR0 (by decide), ?_⟩)
        | (refine ⟨_, cell_load ag3 hg6 rfl, ?_⟩)
        | (refine ⟨fun _ => ?_, fun _ => ?_⟩ <;> first | (exfalso; omega) | skip)
        | fail
      refine (named_spec (by omega) ⟨kd1, kd6⟩).mono ?_
      obtain ⟨nm, e, hnm⟩ := hnm
      rw [e]
      rintro r1 H7 ⟨rfl, rfl⟩
      by_cases h2 : nm = 2
      · repeat' first
          | refine CO.cons rfl ?_
          | refine CO.nil ?_
          | refine CV.region callees ?_
          | refine CV.cond ?_
          | refine CO.consG rfl ?_
          | (refine ⟨_, _, bld3, ?_⟩)
          | (refine ⟨fun _ => ?_, fun _ => ?_⟩ <;> first | (exfalso; omega) | skip)
          | fail
        have kA := Keep.new H7 (.cells [VI 4, VI 5, VI 6] 3 2)
        have hIA : Ints (H7.new (.cells [VI 4, VI 5, VI 6] 3 2)) (.slice (some ⟨H7.n, 0, none⟩) 3 0) [4, 5, 6] := new_row rfl
        generalize hsA : H7.new _ = HA at kA hIA ⊢
        have lA := kA.1
        refine (pick_spec hB (by omega) (hb6.keep kA) hIA (by (show 0 < 3); decide) (by (show 3 ≤ 1000); decide)).mono ?_
        rintro r1 H8 ⟨⟨j, hj, rfl⟩, hb8, k8⟩
        have l8 := k8.1
        obtain ⟨kd2, hk2, k20, k21⟩ : ∃ kd2, ([4, 5, 6] : List Int)[j]! = kd2 ∧ 4 ≤ kd2 ∧ kd2 ≤ 6 := by
          refine ⟨_, rfl, ?_⟩
          have hj3 : j < 3 := hj
          rcases (by omega : j = 0 ∨ j = 1 ∨ j = 2) with rfl | rfl | rfl <;> decide
        rw [hk2]
        have hg8 := (k8.2 b5 (by omega) (by omega)).trans ((kA.2 b5 (by omega)).trans hg6)
        have hz8 := (k8.2 b0 (by omega) (by omega)).trans ((kA.2 b0 (by omega)).trans hz6)
        repeat' first
          | refine CO.cons rfl ?_
          | (refine ⟨_, fS foR0 (by decide), ?_⟩)
          | fail
        refine ⟨_, _, store_row (i := 0 + 0) sz3 hg8 (Nat.le_of_ble_eq_true rfl) rfl, by omega, ?_⟩
        generalize hse : Heap.set H8 b5 _ = He
        have hge : He.get b5 = some (.cells (Rul ⟨kd2, 0, 0, wt⟩) 81 1) := set_get hse
        have ne := set_n hse
        have oe := set_old hse
        repeat' first
          | refine CO.nil ?_
          | fail
        refine ⟨(kd2), (by repeat' first | exact trivial | refine ⟨rfl, ?_⟩), ?_⟩
        exact ⟨⟨by omega, by omega, fun _ => by omega⟩, hge, (oe b0 (by omega)).trans hz8, hb8.put (by omega) oe ne, KeepX.put ((x6.trans (kA.butX b)).trans k8) (by omega) oe ne, by omega⟩
      · repeat' first
          | refine CO.cons rfl ?_
          | refine CO.nil ?_
          | refine CV.cond ?_
          | refine CV.skip ?_
          | refine CO.consG rfl ?_
          | (refine ⟨fun _ => ?_, fun _ => ?_⟩ <;> first | (exfalso; omega) | skip)
          | fail
        refine ⟨(kd), (by repeat' first | exact trivial | refine ⟨rfl, ?_⟩), ?_⟩
        exact ⟨⟨kd1, kd6, fun _ => by omega⟩, hg6, hz6, hb6, x6, by omega⟩
    · repeat' first
        | refine CO.cons rfl ?_
        | refine CO.nil ?_
        | refine CV.seq ?_
        | refine CV.region callees ?_
        | refine CV.cond ?_
        | refine CV.skip ?_
        | refine CO.consG rfl ?_
        | (refine ⟨fun _ => ?_, fun _ => ?_⟩ <;> first | (exfalso; omega) | skip)
        | fail
      refine ⟨(kd), (by repeat' first | exact trivial | refine ⟨rfl, ?_⟩), ?_⟩
      exact ⟨⟨kd1, kd6, fun h => absurd h hn1⟩, hg6, hz6, hb6, x6, by omega⟩
  clear hg6 hz6 hb6 x6
  rintro kd Hx ⟨⟨kd1, kd6, kdn⟩, hgx, hzx, hbx, xx, lx⟩ hBx
  obtain ⟨nm, enm, hnm⟩ := nmd_cases kd
  refine CV.seq ?_
  refine CV.midK (α := Int) (fun a => [(0, bp b), (1, VI n), (4, .pointer (some ⟨b0, 0, none⟩)), (5, .pointer (some ⟨b5, 0, none⟩))]) (fun a Hz => ((kd ≤ 5 → 0 ≤ a ∧ a < n) ∧ (5 < kd → a = 0)) ∧ Hz.get b5 = some (.cells (Rul ⟨kd, a, 0, wt⟩) 81 1) ∧ Hz.get b0 = some (.cells (Rul ru0) 81 1) ∧ Box b Hz ∧ KeepX b H Hz ∧ b5 < Hz.n) ?_ ?_
  · repeat' first
      | refine CO.cons rfl ?_
      | refine CV.seq ?_
      | refine CV.region callees ?_
      | (refine ⟨_, fS foR0 (by decide), ?_⟩)
      | (refine ⟨_, cell_load ag3 hgx rfl, ?_⟩)
      | fail
    refine (named_spec (by omega) ⟨kd1, kd6⟩).mono ?_
    rw [enm]
    rintro r1 H7 ⟨rfl, rfl⟩
    by_cases h2 : 0 < nm
    · repeat' first
        | refine CO.cons rfl ?_
        | refine CO.nil ?_
        | refine CV.region callees ?_
        | refine CV.cond ?_
        | (refine ⟨fun _ => ?_, fun _ => ?_⟩ <;> first | (exfalso; omega) | skip)
        | fail
      refine (up_spec hB (by omega) hbx (by omega)).mono ?_
      rintro r1 H8 ⟨⟨a, rfl, a0, a1⟩, hb8, k8⟩
      have l8 := k8.1
      have hg8 := (k8.2 b5 (by omega) (by omega)).trans hgx
      have hz8 := (k8.2 b0 (by omega) (by omega)).trans hzx
      repeat' first
        | refine CO.cons rfl ?_
        | (refine ⟨_, fS foR1 (by decide), ?_⟩)
        | fail
      refine ⟨_, _, store_row (i := 0 + 1) sz3 hg8 (Nat.le_of_ble_eq_true rfl) rfl, by omega, ?_⟩
      generalize hse : Heap.set H8 b5 _ = He
      have hge : He.get b5 = some (.cells (Rul ⟨kd, a, 0, wt⟩) 81 1) := set_get hse
      have ne := set_n hse
      have oe := set_old hse
      repeat' first
        | refine CO.nil ?_
        | fail
      refine ⟨(a), (by repeat' first | exact trivial | refine ⟨rfl, ?_⟩), ?_⟩
      exact ⟨⟨fun _ => by omega, fun h => by omega⟩, hge, (oe b0 (by omega)).trans hz8, hb8.put (by omega) oe ne, KeepX.put (xx.trans k8) (by omega) oe ne, by omega⟩
    · repeat' first
        | refine CO.cons rfl ?_
        | refine CO.nil ?_
        | refine CV.cond ?_
        | refine CV.skip ?_
        | (refine ⟨fun _ => ?_, fun _ => ?_⟩ <;> first | (exfalso; omega) | skip)
        | fail
      refine ⟨((0 : Int)), (by repeat' first | exact trivial | refine ⟨rfl, ?_⟩), ?_⟩
      exact ⟨⟨fun h => by omega, fun _ => rfl⟩, hgx, hzx, hbx, xx, lx⟩
  clear hgx hzx hbx xx lx hBx
  rintro a Hx ⟨⟨ha1, ha2⟩, hgx, hzx, hbx, xx, lx⟩ hBx
  refine CV.seq ?_
  refine CV.midK (α := Int) (fun c => [(0, bp b), (1, VI n), (4, .pointer (some ⟨b0, 0, none⟩)), (5, .pointer (some ⟨b5, 0, none⟩))]) (fun c Hz => ((kd ≤ 3 → 0 ≤ c ∧ c < n ∧ a ≠ c) ∧ (3 < kd → c = 0)) ∧ Hz.get b5 = some (.cells (Rul ⟨kd, a, c, wt⟩) 81 1) ∧ Hz.get b0 = some (.cells (Rul ru0) 81 1) ∧ Box b Hz ∧ KeepX b H Hz ∧ b5 < Hz.n) ?_ ?_
  · repeat' first
      | refine CO.cons rfl ?_
      | refine CV.seq ?_
      | refine CV.region callees ?_
      | (refine ⟨_, fS foR0 (by decide), ?_⟩)
      | (refine ⟨_, cell_load ag3 hgx rfl, ?_⟩)
      | fail
    refine (named_spec (by omega) ⟨kd1, kd6⟩).mono ?_
    rw [enm]
    rintro r1 H7 ⟨rfl, rfl⟩
    by_cases h2 : nm = 2
    · have han := ha1 (by omega)
      have hn2 : 2 ≤ n := by
        rcases (show n = 1 ∨ 2 ≤ n by omega) with h | h
        · have := kdn h; omega
        · exact h
      repeat' first
        | refine CO.cons rfl ?_
        | refine CO.nil ?_
        | refine CV.cond ?_
        | (refine ⟨fun _ => ?_, fun _ => ?_⟩ <;> first | (exfalso; omega) | skip)
        | fail
      refine CV.mX callees (by decide +kernel) [(0, []), (1, []), (2, []), (3, []), (4, []), (7, []), (5, [1]), (6, []), (8, []), (9, []), (10, [])] (by kernel_rfl) ?_
      have hla : aload Try.prog 3 H7 (.pointer (some ⟨b5, 0 + 1, none⟩)) = some (VI a) := cell_load ag3 hgx rfl
      repeat' first
        | refine CR.cons ?_
        | refine ⟨(⟨by omega, by omega⟩ : inI64 _), ?_⟩
        | (refine ⟨_, fS foR1 (by decide), ?_⟩)
        | (refine ⟨_, hla, ?_⟩)
        | fail
      refine (any_spec hB (by omega) hbx (by omega) (by omega) (by omega)).mono ?_
      rintro r1 H8 ⟨⟨d, rfl, d0, d1⟩, hb8, k8⟩
      have l8 := k8.1
      have hg8 := (k8.2 b5 (by omega) (by omega)).trans hgx
      have hz8 := (k8.2 b0 (by omega) (by omega)).trans hzx
      obtain ⟨c, hc, c0, c1, c2⟩ : ∃ c : Int, (a + d).tmod n = c ∧ 0 ≤ c ∧ c < n ∧ a ≠ c := by
        refine ⟨_, rfl, ?_⟩
        rw [Int.tmod_eq_emod_of_nonneg (by omega)]
        by_cases hlt : a + d < n
        · rw [Int.emod_eq_of_lt (by omega) hlt]; omega
        · rw [show a + d = (a + d - n) + n by omega, Int.add_emod_right, Int.emod_eq_of_lt (by omega) (by omega)]
          omega
      have hla8 : aload Try.prog 3 H8 (.pointer (some ⟨b5, 0 + 1, none⟩)) = some (VI a) := cell_load ag3 hg8 rfl
      repeat' first
        | refine CR.cons ?_
        | refine ⟨(⟨by omega, by omega⟩ : inI64 _), ?_⟩
        | (refine ⟨_, hla8, ?_⟩)
        | (refine ⟨(rfl : _ = Value.int _ _), ?_⟩)
        | (refine ⟨same_int, ?_⟩)
        | fail
      refine ⟨_, fun tm ha => step1_rem rfl (ev_tmp ha rfl) (ev_tmp ha rfl) (show n ≠ 0 by omega), ?_⟩
      repeat' first
        | refine CR.cons ?_
        | (refine ⟨_, fS foR2 (by decide), ?_⟩)
        | fail
      refine ⟨_, _, store_row (i := 0 + 2) sz3 hg8 (Nat.le_of_ble_eq_true rfl) rfl, by omega, ?_⟩
      rw [hc]
      generalize hse : Heap.set H8 b5 _ = He
      have hge : He.get b5 = some (.cells (Rul ⟨kd, a, c, wt⟩) 81 1) := set_get hse
      have ne := set_n hse
      have oe := set_old hse
      repeat' first
        | refine CR.nil ?_
        | fail
      refine ⟨(c), (by repeat' first | exact trivial | refine ⟨rfl, ?_⟩), ?_⟩
      exact ⟨⟨fun _ => ⟨c0, c1, c2⟩, fun h => by omega⟩, hge, (oe b0 (by omega)).trans hz8, hb8.put (by omega) oe ne, KeepX.put (xx.trans k8) (by omega) oe ne, by omega⟩
    · repeat' first
        | refine CO.cons rfl ?_
        | refine CO.nil ?_
        | refine CV.cond ?_
        | refine CV.skip ?_
        | (refine ⟨fun _ => ?_, fun _ => ?_⟩ <;> first | (exfalso; omega) | skip)
        | fail
      refine ⟨((0 : Int)), (by repeat' first | exact trivial | refine ⟨rfl, ?_⟩), ?_⟩
      exact ⟨⟨fun h => by omega, fun _ => rfl⟩, hgx, hzx, hbx, xx, lx⟩
  clear hgx hzx hbx xx lx hBx
  rintro c Hx ⟨⟨hc1, hc2⟩, hgx, hzx, hbx, xx, lx⟩ hBx
  repeat' first
    | refine CO.cons rfl ?_
    | refine CV.seq ?_
    | refine CV.region callees ?_
    | (refine ⟨_, ld81 hgx, ?_⟩)
    | fail
  refine ⟨_, _, st81 hzx, by omega, ?_⟩
  generalize hsz : Heap.set Hx b0 _ = Hz
  have hgz : Hz.get b0 = some (.cells (Rul ⟨kd, a, c, wt⟩) 81 1) := set_get hsz
  have nz := set_n hsz
  have oz := set_old hsz
  repeat' first
    | refine CO.nil ?_
    | refine CV.ret ?_
    | fail
  exact ⟨_, ld81 hgz, rfl, ⟨⟨kd, a, c, wt⟩, rfl, ⟨kd1, kd6, ha1, ha2, hc1, hc2, wt0, wt1⟩⟩, hbx.put (by omega) oz nz, KeepX.put xx (by omega) oz nz⟩
theorem gsOk_of {gs : List Gu} (hl : gs.length ≤ 10) (h : ∀ i, i < gs.length → gs[i]!.nm = nmL[i]! ∧ RaOk gs[i]!) : GsOk gs := by
  refine ⟨fun i hi => ?_, fun i j hij hj => ?_⟩
  · obtain ⟨h1, h2⟩ := h i hi
    exact ⟨by rw [h1]; exact nm_ok (by omega), h2.ra, h2.ra', h2.ho, h2.ho', h2.ne, h2.ne', h2.ma, h2.ma'⟩
  · rw [(h i (by omega)).1, (h j hj).1]
    exact nm_ne (by omega) (by omega) (by omega)
set_option maxHeartbeats 16000000 in
set_option maxRecDepth 100000 in
theorem partyOf_spec {B b : Nat} {H : Heap} {mg mr : Int} (hB : B ≤ b) (hn : B ≤ H.n) (hb : Box b H) (h1 : 1 ≤ mg) (h7 : mg ≤ 7) (h0 : 0 ≤ mr) (h12 : mr ≤ 12) :
    CallB Try.prog B 19 [bp b, VI mg, VI mr] H (fun v H' => (∃ gv rv gs rs, v = Pav gv rv ∧ OwnG H' gv gs H.n ∧ OwnR H' rv rs H.n ∧ PaOk gs rs ∧ (gs.length : Int) ≤ mg ∧ (rs.length : Int) ≤ mr) ∧ Box b H' ∧ KeepX b H H') := by
  have hbn := hb.1
  refine CV.enter callees false rfl Try.func19 rfl (by kernel_rfl) (Nat.le_of_ble_eq_true rfl) hn ?_
  repeat' first
    | refine CO.cons rfl ?_
    | refine CO.nil ?_
    | refine CV.seq ?_
    | refine CV.region callees ?_
    | (refine ⟨_, _, al25, ?_⟩)
    | fail
  generalize hs0 : Heap.new H _ = H0
  have hg0 := new_get hs0
  have k0 := new_keep hs0
  have n0 := new_n hs0
  obtain ⟨b0, hbn0⟩ : ∃ b, Heap.n H = b := ⟨_, rfl⟩
  rw [hbn0] at hg0 n0 ⊢
  have hb0 := hb.keep k0
  repeat' first
    | fail
  refine (any_spec hB (by omega) hb0 (by omega) (by omega) (by omega)).mono ?_
  rintro r1 H1 ⟨⟨n, rfl, n1, n2⟩, hb1, k1⟩
  have l1 := k1.1
  obtain ⟨nN, rfl⟩ : ∃ nN : Nat, n = (nN : Int) := ⟨n.toNat, by omega⟩
  repeat' first
    | refine CO.cons rfl ?_
    | fail
  refine (guestsOf_spec hB (by omega) hb1 (by omega)).mono ?_
  rintro gv H2 ⟨⟨gs, hg2, hgl, hgs⟩, hb2, k2⟩
  have l2 := k2.1
  have hz2 := (k2.2 b0 (by omega) (by omega)).trans ((k1.2 b0 (by omega) (by omega)).trans hg0)
  obtain ⟨x, xn, xc, rfl⟩ : ∃ x n d, gv = .slice x n d := by
    rcases hg2.2 with ⟨rfl, _⟩ | ⟨_, rfl, _⟩ <;> exact ⟨_, _, _, rfl⟩
  repeat' first
    | refine CO.cons rfl ?_
    | (refine ⟨_, bu25g, ?_⟩)
    | (refine ⟨_, _, al25, ?_⟩)
    | fail
  obtain ⟨gv, hgv⟩ : ∃ gv, Value.slice x xn xc = gv := ⟨_, rfl⟩
  rw [hgv] at hg2 ⊢
  generalize hs3 : Heap.new H2 _ = H3
  have hg3 := new_get hs3
  have k3 := new_keep hs3
  have n3 := new_n hs3
  obtain ⟨b3, hbn3⟩ : ∃ b, Heap.n H2 = b := ⟨_, rfl⟩
  rw [hbn3] at hg3 n3 ⊢
  repeat' first
    | fail
  refine ⟨_, _, st25 hg2.oneC rfl hg3, by omega, ?_⟩
  generalize hs4 : Heap.set H3 b3 _ = H4
  have hg4 : H4.get b3 = some (.cells (Pal gv nilS) 25 1) := set_get hs4
  have n4 := set_n hs4
  have o4 := set_old hs4
  have k24 : Keep H2 H4 := keep_put k3 (by omega) o4 n4
  have hz4 := (k24.2 b0 (by omega)).trans hz2
  have hb4 := hb2.keep k24
  have hg4' : OwnG H4 gv gs H1.n := OwnS.keep hg2 k24
  have x4 : KeepX b H H4 := (((k0.butX b).trans k1).trans k2).trans (k24.butX b)
  have l4 := k24.1
  repeat' first
    | refine CO.cons rfl ?_
    | refine CO.nil ?_
    | refine CV.seq ?_
    | refine CV.region callees ?_
    | refine ⟨(⟨by omega, by omega⟩ : inI64 _), ?_⟩
    | fail
  refine (up_spec hB (by omega) hb4 (by omega)).mono ?_
  rintro r1 H5 ⟨⟨t, rfl, t0, t1⟩, hb5, k5⟩
  have l5 := k5.1
  have hg5 := (k5.2 b3 (by omega) (by omega)).trans hg4
  have hz5 := (k5.2 b0 (by omega) (by omega)).trans hz4
  have hgg5 : OwnG H5 gv gs H1.n := OwnS.boxed hg4' k5 hb4
  repeat' first
    | refine CO.cons rfl ?_
    | refine CO.nil ?_
    | refine CV.block ?_
    | fail
  refine CV.loopc ?_
  refine WCv.rounds callees false (α := Value × List Ru × Int) (fun (q, rs, k) => [(0, bp b), (6, .pointer (some ⟨b0, 0, none⟩)), (7, .pointer (some ⟨b3, 0, none⟩)), (8, VI k)]) (fun (q, rs, k) Hz => ((rs.length : Int) + k = t ∧ 0 ≤ k) ∧ (∀ i, i < rs.length → RuOk gs.length rs[i]!) ∧ Hz.get b3 = some (.cells (Pal gv q) 25 1) ∧ Hz.get b0 = some (.cells (Pal nilS nilS) 25 1) ∧ OwnG Hz gv gs H1.n ∧ OwnR Hz q rs H5.n ∧ Box b Hz ∧ KeepX b H Hz ∧ H5.n ≤ Hz.n) (fun (q, rs, k) => k.toNat) (nilS, [], t) (by repeat' first | exact trivial | refine ⟨rfl, ?_⟩ | refine ⟨slot_int (by (try simp only [Int.toNat_natCast]); omega), ?_⟩) ?_ ?_
  · exact ⟨⟨by simp, by omega⟩, fun i hi => by simp at hi, hg5, hz5, hgg5, OwnS.nil, hb5, x4.trans k5, Nat.le_refl _⟩
  rintro ⟨q, rs, k⟩ Hx ⟨⟨hk, hk0⟩, hrs, hgx, hzx, hggx, hqx, hbx, xx, lx⟩ hBx
  have hgb : ∀ c, blkOf gv = some c → c < H5.n := fun c hc => (hgg5.lt hc).2
  have hqb : ∀ c, blkOf q = some c → H5.n ≤ c := fun c hc => (hqx.lt hc).1
  by_cases hp : 0 < k
  · repeat' first
      | refine CO.cons rfl ?_
      | refine CO.nil ?_
      | refine CV.seq ?_
      | refine CV.region callees ?_
      | refine CV.cond ?_
      | refine CV.block ?_
      | refine CV.skip ?_
      | (refine ⟨fun _ => ?_, fun _ => ?_⟩ <;> first | (exfalso; omega) | skip)
      | fail
    refine CV.wideR callees (by decide +kernel) [(0, []), (1, []), (2, []), (3, []), (4, []), (5, []), (6, [1]), (7, [1]), (8, []), (9, []), (10, [])] (by kernel_rfl) ?_
    repeat' first
      | refine CR.cons ?_
      | (refine ⟨_, fS foP0 (by decide), ?_⟩)
      | (refine ⟨_, fS foP1 (by decide), ?_⟩)
      | (refine ⟨_, cell_load ag22g hgx rfl, ?_⟩)
      | (refine ⟨_, gs_len hggx.row, ?_⟩)
      | fail
    refine (ruleOf_spec hB (by omega) hbx (by omega) (by omega)).mono ?_
    rintro v H6 ⟨⟨r, rfl, hr⟩, hb6, k6⟩
    have l6 := k6.1
    have hg6 := (k6.2 b3 (by omega) (by omega)).trans hgx
    have hz6 := (k6.2 b0 (by omega) (by omega)).trans hzx
    have hgg6 : OwnG H6 gv gs H1.n := OwnS.boxed hggx k6 hbx
    have hq6 : OwnR H6 q rs H5.n := OwnS.boxed hqx k6 hbx
    have kM := Keep.new H6 (.cells (Rul r) 81 2)
    have hgM := (kM.2 b3 (by omega)).trans hg6
    repeat' first
      | refine CR.cons ?_
      | (refine ⟨_, cell_load ag23r hg6 rfl, ?_⟩)
      | (refine ⟨(rfl : _ = q), ?_⟩)
      | (refine ⟨hq6.same, ?_⟩)
      | (refine ⟨_, _, ru_one, ?_⟩)
      | fail
    refine ru_push hq6 (by omega) (by omega) (by omega) ?_
    intro q7 H7 hq7 kb7 hf7
    have l7 := kb7.le
    have hg7 := (kb7.get b3 (by omega) (fun h => by have := hqb _ h; omega)).trans hg6
    have hz7 := (kb7.get b0 (by omega) (fun h => by have := hqb _ h; omega)).trans hz6
    have hgg7 : OwnG H7 gv gs H1.n := ownS_keepBt hgg6 kb7 fun c h1 h2 => by have := hqb _ h2; have := hgb _ h1; omega
    have hb7 := hb6.keepBut kb7 (fun h => by have := hqb _ h; omega)
    have x7 := kb7.keepX (xx.trans k6) fun c hc => by have := hqb _ hc; omega
    repeat' first
      | refine CR.cons ?_
      | (refine ⟨_, fS foP1 (by decide), ?_⟩)
      | fail
    refine ⟨_, _, store_row (i := 1) sz23r hg7 (by show 1 < 2; decide) hq7.oneC, by omega, ?_⟩
    generalize hsA : Heap.set H7 b3 _ = HA
    have hgA : HA.get b3 = some (.cells (Pal gv q7) 25 1) := set_get hsA
    have nA := set_n hsA
    have oA := set_old hsA
    have kA : KeepX b3 H7 HA := ⟨by omega, fun c hc hcl => oA c hcl⟩
    repeat' first
      | refine CO.cons rfl ?_
      | refine CO.nil ?_
      | refine CV.region callees ?_
      | refine CR.nil ?_
      | refine ⟨(⟨by omega, by omega⟩ : inI64 _), ?_⟩
      | fail
    refine ⟨(q7, rs ++ [r], k - 1), (by repeat' first | exact trivial | refine ⟨rfl, ?_⟩ | refine ⟨slot_int (by (try simp only [Int.toNat_natCast]); omega), ?_⟩), (by (try dsimp only); omega), ?_⟩
    exact ⟨⟨by simp; omega, by omega⟩, getAt_snoc (P := fun r => RuOk gs.length r) hrs hr, hgA, (oA b0 (by omega)).trans hz7, OwnS.keepX hgg7 kA hg7, OwnS.keepX hq7 kA hg7, hb7.put (by omega) oA nA, KeepX.put x7 (by omega) oA nA, by omega⟩
  obtain rfl : k = 0 := by omega
  repeat' first
    | refine CO.cons rfl ?_
    | refine CO.nil ?_
    | refine CV.seq ?_
    | refine CV.region callees ?_
    | refine CV.cond ?_
    | refine CV.exit ?_
    | (refine ⟨_, ld25 hgx, ?_⟩)
    | (refine ⟨fun _ => ?_, fun _ => ?_⟩ <;> first | (exfalso; omega) | skip)
    | fail
  refine ⟨_, _, st25 hggx.oneC hqx.oneC hzx, by omega, ?_⟩
  generalize hsz : Heap.set Hx b0 _ = Hz
  have hgz : Hz.get b0 = some (.cells (Pal gv q) 25 1) := set_get hsz
  have nz := set_n hsz
  have oz := set_old hsz
  repeat' first
    | refine CO.nil ?_
    | refine CV.ret ?_
    | fail
  have kz : KeepX b0 Hx Hz := ⟨by omega, fun c hc hcl => oz c hcl⟩
  exact ⟨_, ld25 hgz, rfl, ⟨gv, q, gs, rs, rfl, OwnS.low (OwnS.keepX hggx kz hzx) (by omega), OwnS.low (OwnS.keepX hqx kz hzx) (by omega), ⟨by omega, by omega, gsOk_of (by omega) (fun i hi => hgs i (by omega)), by omega, hrs⟩, by omega, by omega⟩, hbx.put (by omega) oz nz, KeepX.put xx (by omega) oz nz⟩
theorem gs_none {H : Heap} : abuildSlice Try.prog H 22 0 [] = some (.slice (some ⟨H.n, 0, none⟩) 0 0, H.new (.cells [] 68 2), H.n) := by kernel_rfl
theorem rs_none {H : Heap} : abuildSlice Try.prog H 23 0 [] = some (.slice (some ⟨H.n, 0, none⟩) 0 0, H.new (.cells [] 81 2), H.n) := by kernel_rfl
set_option maxRecDepth 100000 in
theorem ownParty_spec {B : Nat} {H : Heap} {gv rv : Value} {gs : List Gu} {rs : List Ru} {g0 r0 : Nat} (hB : B ≤ H.n) (hc : OwnG H gv gs g0) (ht : OwnR H rv rs r0) (hn : gs.length < 1000000) (hm : rs.length < 1000000) :
    CallB Try.prog B 21 [Pav gv rv] H (fun r H' => (∃ c t, r = Pav c t ∧ OwnG H' c gs H.n ∧ OwnR H' t rs H.n ∧ Apart t c) ∧ Keep H H') := by
  refine CV.enter callees false rfl Try.func21 rfl (by kernel_rfl) (Nat.le_of_ble_eq_true rfl) hB ?_
  repeat' first
    | refine CO.cons rfl ?_
    | refine CV.seq ?_
    | refine CV.region callees ?_
    | fail
  refine ⟨(by simp only [notTuple]), ?_⟩
  rw [boxP hc.row.cells.1 ht.row.cells.1]
  generalize hs0 : Heap.new H _ = H0
  have hg0 := new_get hs0
  have k0 := new_keep hs0
  have n0 := new_n hs0
  obtain ⟨b0, hbn0⟩ : ∃ b, Heap.n H = b := ⟨_, rfl⟩
  rw [hbn0] at hg0 n0 ⊢
  repeat' first
    | refine CO.cons rfl ?_
    | refine CO.nil ?_
    | refine CV.seq ?_
    | (refine ⟨_, _, al25, ?_⟩)
    | fail
  generalize hs1 : Heap.new H0 _ = H1
  have hg1 := new_get hs1
  have k1 := new_keep hs1
  have n1 := new_n hs1
  obtain ⟨b1, hbn1⟩ : ∃ b, Heap.n H0 = b := ⟨_, rfl⟩
  rw [hbn1] at hg1 n1 ⊢
  have k01 := k0.trans k1
  have hg01 := (k1.2 b0 (by omega)).trans hg0
  have hc1 : OwnG H1 gv gs g0 := OwnS.keep hc k01
  have ht1 : OwnR H1 rv rs r0 := OwnS.keep ht k01
  have kA := Keep.new H1 (.cells [] 68 2)
  have hgA := (kA.2 b0 (by omega)).trans hg01
  refine CV.mX callees (by decide +kernel) [(1, []), (2, []), (5, []), (6, []), (0, [6, 2]), (3, [6]), (4, [6]), (7, []), (8, []), (9, [])] (by kernel_rfl) ?_
  repeat' first
    | refine CR.cons ?_
    | (refine ⟨_, fS foP0 (by decide), ?_⟩)
    | (refine ⟨_, fS foP1 (by decide), ?_⟩)
    | (refine ⟨_, cell_load ag22g hg01 rfl, ?_⟩)
    | (refine ⟨_, _, gs_none, ?_⟩)
    | fail
  refine copy_askS (z := Gul gu0) un22g zero68b (by decide) hc1.row (by omega) (by rw [List.length_map]; exact hn) ?_
  intro c H2 hc2 k2
  have l2 := k2.1
  have hg2 := (k2.2 b0 (by omega)).trans hg01
  have ht2 : OwnR H2 rv rs r0 := OwnS.keep ht1 k2
  have kB := Keep.new H2 (.cells [] 81 2)
  have hgB := (kB.2 b0 (by omega)).trans hg2
  repeat' first
    | refine CR.cons ?_
    | (refine ⟨_, cell_load ag23r hg2 rfl, ?_⟩)
    | (refine ⟨_, _, rs_none, ?_⟩)
    | (refine ⟨(rfl : _ = rv), ?_⟩)
    | (refine ⟨ht1.same, ?_⟩)
    | fail
  refine copy_askS (z := Rul ru0) un23r zero81b (by decide) ht2.row (by omega) (by rw [List.length_map]; exact hm) ?_
  intro t H3 ht3 k3
  have l3 := k3.1
  have hc3 : OwnG H3 c gs H1.n := OwnS.keep hc2 k3
  have hg3 := ((k2.trans k3).2 b1 (by omega)).trans hg1
  have hap : Apart t c := fun q h1 h2 => by have := (ht3.lt h1).1; have := (hc2.lt h2).2; omega
  obtain ⟨x, n, d, rfl⟩ : ∃ x n d, c = .slice x n d := by
    rcases hc3.2 with ⟨rfl, _⟩ | ⟨_, rfl, _⟩ <;> exact ⟨_, _, _, rfl⟩
  obtain ⟨y, n', d', rfl⟩ : ∃ x n d, t = .slice x n d := by
    rcases ht3.2 with ⟨rfl, _⟩ | ⟨_, rfl, _⟩ <;> exact ⟨_, _, _, rfl⟩
  repeat' first
    | refine CR.cons ?_
    | (refine ⟨_, bu25, ?_⟩)
    | fail
  refine ⟨_, _, st25 rfl rfl hg3, by omega, ?_⟩
  generalize hsz : Heap.set H3 b1 _ = H4
  have hg4 := set_get hsz
  have n4 := set_n hsz
  have o4 := set_old hsz
  repeat' first
    | refine CV.ret ?_
    | refine CR.nil ?_
    | fail
  have kx4 : KeepX b1 H3 H4 := ⟨by omega, fun x _ hx => o4 x hx⟩
  exact ⟨_, ld25 hg4, rfl, ⟨_, _, rfl, OwnS.low (OwnS.keepX hc3 kx4 hg3) (by omega), OwnS.low (OwnS.keepX ht3 kx4 hg3) (by omega), hap⟩, keep_put ((k01.trans k2).trans k3) (by omega) o4 n4⟩
end Go.Proofs.Ytlamceokhbigaaa

