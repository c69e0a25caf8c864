
/- Beginnings and heats of whatever fire. -/
import Derived.Test.Ytglkphjjinmgmaaq6h
set_option linter.unusedVariables false
set_option linter.unusedSimpArgs false
namespace Go.Proofs.Ytglkphjjinmgmaa
open Go.AI
/-- When coals begin, if the fire may be. -/
def BegQ (cs : List Co) (ts : List (Int × Int)) (L : List (Int × Int)) : Prop := (fiE cs ts ≠ 0 ∧ L = []) ∨ (fiE cs ts = 0 ∧ ∃ B0 B1, IsBeg 0 cs ts B0 ∧ IsBeg 1 cs ts B1 ∧ L = begS (emL cs B0 B1))
theorem begQ_ex (cs : List Co) (ts : List (Int × Int)) : ∃ L, BegQ cs ts L ∧ L.length ≤ cs.length := by
  by_cases h : fiE cs ts = 0
  · obtain ⟨B0, h0⟩ := isBeg_ex (e := 0) (fiE_zero h)
    obtain ⟨B1, h1⟩ := isBeg_ex (e := 1) (fiE_zero h)
    exact ⟨_, .inr ⟨h, B0, B1, h0, h1, rfl⟩, by rw [begS_len]; exact Nat.le_refl _⟩
  · exact ⟨[], .inl ⟨h, rfl⟩, Nat.zero_le _⟩
/-- The heat of a minute, and the error. -/
def HeatQ (cs : List Co) (ts : List (Int × Int)) (m : Int) (x : Int × Int) (e : Int) : Prop := (fiE cs ts ≠ 0 ∧ e = fiE cs ts ∧ x = (0, 0)) ∨ (fiE cs ts = 0 ∧ ¬ (0 ≤ m ∧ m ≤ 300) ∧ e = 2 ∧ x = (0, 0)) ∨ (fiE cs ts = 0 ∧ (0 ≤ m ∧ m ≤ 300) ∧ e = 0 ∧ ∃ B0 B1, IsBeg 0 cs ts B0 ∧ IsBeg 1 cs ts B1 ∧ x = heatL (emL cs B0 B1) m)
theorem heatQ_ex (cs : List Co) (ts : List (Int × Int)) (m : Int) : ∃ x e, HeatQ cs ts m x e := by
  by_cases h : fiE cs ts = 0
  · by_cases hm : 0 ≤ m ∧ m ≤ 300
    · obtain ⟨B0, h0⟩ := isBeg_ex (e := 0) (fiE_zero h)
      obtain ⟨B1, h1⟩ := isBeg_ex (e := 1) (fiE_zero h)
      exact ⟨_, _, .inr (.inr ⟨h, hm, rfl, B0, B1, h0, h1, rfl⟩)⟩
    · exact ⟨_, _, .inr (.inl ⟨h, hm, rfl, rfl⟩)⟩
  · exact ⟨_, _, .inl ⟨h, rfl, rfl⟩⟩
theorem bu41e : abuild Try.prog 27 [] = some (Hv (0, 0)) := by kernel_rfl
set_option maxHeartbeats 4000000 in
set_option maxRecDepth 100000 in
theorem beginsQ_spec {B : Nat} {H : Heap} {cv tv : Value} {cs : List Co} {ts L : List _} (hB : B ≤ H.n) (hc : RowS 7 H cv (cs.map Col)) (ht : RowS 2 H tv (ts.map Hl)) (hcn : cs.length ≤ 100) (htn : ts.length ≤ 100) (hL : BegQ cs ts L) :
    CallB Try.prog B 23 [Fv cv tv] H (fun r H' => (∃ q, r = .tuple #[q, VJ (fiE cs ts)] ∧ RowS 2 H' q (L.map Hl)) ∧ Keep H H') := by
  rcases hL with ⟨he, rfl⟩ | ⟨he, B0, B1, h0, h1, rfl⟩
  rotate_left
  · rw [he]
    exact (begins_spec hB hc ht (fiE_zero he) h0 h1).mono fun r H' ⟨⟨q, hr, hq⟩, k⟩ => ⟨⟨q, hr, hq.row⟩, k⟩
  refine CV.enter callees false rfl Try.func23 rfl (by kernel_rfl) (Nat.le_of_ble_eq_true rfl) hB ?_
  repeat' first
    | refine CO.cons rfl ?_
    | refine CV.seq ?_
    | refine CV.region callees ?_
    | fail
  refine ⟨(by simp only [notTuple]), ?_⟩
  rw [allocFv hc.cells.1 ht.cells.1]
  generalize hs0 : Heap.new H _ = H0
  have hg0 := new_get hs0
  have k0 := new_keep hs0
  have n0 := new_n hs0
  obtain ⟨b0, hbn0⟩ : ∃ b, Heap.n H = b := ⟨_, rfl⟩
  rw [hbn0] at hg0 n0 ⊢
  repeat' first
    | refine CO.cons rfl ?_
    | refine CO.nil ?_
    | refine CV.seq ?_
    | refine CV.region callees ?_
    | (refine ⟨_, agg_load ag28 sz28 hg0 (Nat.le_refl _), ?_⟩)
    | fail
  refine (check_spec (cs := cs) (ts := ts) (by omega) (hc.keep k0) (ht.keep k0) hcn htn).mono ?_
  obtain ⟨x, hx⟩ : ∃ x, fiE cs ts = x := ⟨_, rfl⟩
  rw [hx] at he ⊢
  rintro r H1 ⟨rfl, k1⟩
  repeat' first
    | refine CO.cons rfl ?_
    | refine CO.nil ?_
    | refine CV.seq ?_
    | refine CV.region callees ?_
    | refine CV.cond ?_
    | refine CV.ret ?_
    | (refine ⟨fun _ => ?_, fun _ => ?_⟩ <;> first | (exfalso; omega) | skip)
    | fail
  exact ⟨rfl, ⟨nilS, rfl, OwnS.row (B := 0) (e := 27) OwnS.nil⟩, k0.trans k1⟩
set_option maxHeartbeats 4000000 in
set_option maxRecDepth 100000 in
theorem beginsR_spec {B : Nat} {H : Heap} {cv tv : Value} {cs : List Co} {ts L : List _} (hB : B ≤ H.n) (hc : RowS 7 H cv (cs.map Col)) (ht : RowS 2 H tv (ts.map Hl)) (hcn : cs.length ≤ 100) (htn : ts.length ≤ 100) (hL : BegQ cs ts L) :
    CallB Try.prog B 24 [Fv cv tv] H (fun r H' => (∃ q, r = .tuple #[q, VJ (fiE cs ts)] ∧ RowS 2 H' q (L.map Hl)) ∧ Keep H H') := by
  refine CV.enter callees false rfl Try.func24 rfl (by kernel_rfl) (Nat.le_of_ble_eq_true rfl) hB ?_
  repeat' first
    | refine CO.cons rfl ?_
    | refine CV.seq ?_
    | refine CV.region callees ?_
    | fail
  refine ⟨(by simp only [notTuple]), ?_⟩
  rw [allocFv hc.cells.1 ht.cells.1]
  generalize hs0 : Heap.new H _ = H0
  have hg0 := new_get hs0
  have k0 := new_keep hs0
  have n0 := new_n hs0
  obtain ⟨b0, hbn0⟩ : ∃ b, Heap.n H = b := ⟨_, rfl⟩
  rw [hbn0] at hg0 n0 ⊢
  repeat' first
    | refine CO.cons rfl ?_
    | refine CO.nil ?_
    | refine CV.seq ?_
    | refine CV.region callees ?_
    | (refine ⟨_, agg_load ag28 sz28 hg0 (Nat.le_refl _), ?_⟩)
    | fail
  refine (checkR_spec (cs := cs) (ts := ts) (by omega) (hc.keep k0) (ht.keep k0) hcn htn).mono ?_
  rcases hL with ⟨he, rfl⟩ | ⟨he, B0, B1, h0, h1, rfl⟩
  · obtain ⟨x, hx⟩ : ∃ x, fiE cs ts = x := ⟨_, rfl⟩
    rw [hx] at he ⊢
    rintro r H1 ⟨rfl, k1⟩
    repeat' first
      | refine CO.cons rfl ?_
      | refine CO.nil ?_
      | refine CV.seq ?_
      | refine CV.region callees ?_
      | refine CV.cond ?_
      | refine CV.ret ?_
      | (refine ⟨fun _ => ?_, fun _ => ?_⟩ <;> first | (exfalso; omega) | skip)
      | fail
    exact ⟨rfl, ⟨nilS, rfl, OwnS.row (B := 0) (e := 27) OwnS.nil⟩, k0.trans k1⟩
  · have hf := fiE_zero he
    rw [he]
    rintro r H1 ⟨rfl, k1⟩
    have l1 := k1.1
    have k01 := k0.trans k1
    have hr1 := (k1.2 b0 (by omega)).trans hg0
    repeat' first
      | refine CO.cons rfl ?_
      | refine CO.nil ?_
      | refine CV.seq ?_
      | refine CV.region callees ?_
      | refine CV.cond ?_
      | refine CV.skip ?_
      | (refine ⟨_, agg_load ag28 sz28 hr1 (Nat.le_refl _), ?_⟩)
      | (refine ⟨fun _ => ?_, fun _ => ?_⟩ <;> first | (exfalso; omega) | skip)
      | fail
    refine (beginsV_spec (by omega) (hc.keep k01) (ht.keep k01) hf h0 h1).mono ?_
    rintro q H2 ⟨hq, k2⟩
    repeat' first
      | refine CO.cons rfl ?_
      | refine CO.nil ?_
      | refine CV.ret ?_
      | fail
    exact ⟨by simp only [List.all_cons, List.all_nil, OwnS.notTuple hq]; rfl, ⟨q, rfl, hq.row⟩, k01.trans k2⟩
set_option maxHeartbeats 4000000 in
set_option maxRecDepth 100000 in
theorem heatQ_spec {B : Nat} {H : Heap} {cv tv : Value} {cs : List Co} {ts : List (Int × Int)} {m e : Int} {x : Int × Int} (hB : B ≤ H.n) (hc : RowS 7 H cv (cs.map Col)) (ht : RowS 2 H tv (ts.map Hl)) (hcn : cs.length ≤ 100) (htn : ts.length ≤ 100) (hQ : HeatQ cs ts m x e) :
    CallB Try.prog B 25 [Fv cv tv, VJ m] H (fun r H' => r = .tuple #[Hv x, VJ e] ∧ Keep H H') := by
  rcases hQ with ⟨he, rfl, rfl⟩ | ⟨he, hm, rfl, rfl⟩ | ⟨he, hm, rfl, B0, B1, h0, h1, rfl⟩
  rotate_left 2
  · exact heat_spec hB hc ht (fiE_zero he) h0 h1 hm.1 hm.2
  all_goals
    refine CV.enter callees false rfl Try.func25 rfl (by kernel_rfl) (Nat.le_of_ble_eq_true rfl) hB ?_
    repeat' first
      | refine CO.cons rfl ?_
      | refine CV.seq ?_
      | refine CV.region callees ?_
      | fail
    refine ⟨(by simp only [notTuple]), ?_⟩
    rw [allocFv hc.cells.1 ht.cells.1]
    generalize hs0 : Heap.new H _ = H0
    have hg0 := new_get hs0
    have k0 := new_keep hs0
    have n0 := new_n hs0
    obtain ⟨b0, hbn0⟩ : ∃ b, Heap.n H = b := ⟨_, rfl⟩
    rw [hbn0] at hg0 n0 ⊢
    repeat' first
      | refine CO.cons rfl ?_
      | refine CO.nil ?_
      | refine CV.seq ?_
      | refine CV.region callees ?_
      | (refine ⟨_, _, al41, ?_⟩)
      | fail
    generalize hs1 : Heap.new H0 _ = H1
    have hg1 := new_get hs1
    have k1 := new_keep hs1
    have n1 := new_n hs1
    obtain ⟨b1, hbn1⟩ : ∃ b, Heap.n H0 = b := ⟨_, rfl⟩
    rw [hbn1] at hg1 n1 ⊢
    have hr1 := (k1.2 b0 (by omega)).trans hg0
    have k01 := k0.trans k1
    repeat' first
      | refine CO.cons rfl ?_
      | (refine ⟨_, agg_load ag28 sz28 hr1 (Nat.le_refl _), ?_⟩)
      | fail
    refine (check_spec (cs := cs) (ts := ts) (by omega) (hc.keep k01) (ht.keep k01) hcn htn).mono ?_
    obtain ⟨y, hy⟩ : ∃ y, fiE cs ts = y := ⟨_, rfl⟩
    rw [hy] at he ⊢
    rintro r H2 ⟨rfl, k2⟩
    have l2 := k2.1
    have hg2 := (k2.2 b1 (by omega)).trans hg1
    have k02 := k01.trans k2
  · repeat' first
      | refine CO.cons rfl ?_
      | refine CO.nil ?_
      | refine CV.seq ?_
      | refine CV.region callees ?_
      | refine CV.cond ?_
      | (refine ⟨_, bu41e, ?_⟩)
      | (refine ⟨fun _ => ?_, fun _ => ?_⟩ <;> first | (exfalso; omega) | skip)
      | fail
    refine ⟨_, _, st41 hg2, by omega, ?_⟩
    generalize hsz : Heap.set H2 b1 _ = Hz
    have hgz : Hz.get b1 = some (.cells (Hl (0, 0)) 27 1) := set_get hsz
    have nz := set_n hsz
    have oz := set_old hsz
    repeat' first
      | refine CO.cons rfl ?_
      | refine CO.nil ?_
      | refine CV.ret ?_
      | fail
    exact ⟨_, ld41 hgz, rfl, rfl, keep_put k02 (by omega) oz nz⟩
  · repeat' first
      | refine CO.cons rfl ?_
      | refine CO.nil ?_
      | refine CV.seq ?_
      | refine CV.region callees ?_
      | refine CV.cond ?_
      | refine CV.skip ?_
      | (refine ⟨fun _ => ?_, fun _ => ?_⟩ <;> first | (exfalso; omega) | skip)
      | fail
    refine (isWithin_no (by omega) hm).mono ?_
    rintro r H3 ⟨rfl, rfl⟩
    repeat' first
      | refine CO.cons rfl ?_
      | refine CO.nil ?_
      | refine CV.seq ?_
      | refine CV.region callees ?_
      | refine CV.cond ?_
      | (refine ⟨_, bu41e, ?_⟩)
      | fail
    refine ⟨_, _, st41 hg2, by omega, ?_⟩
    generalize hsz : Heap.set H3 b1 _ = Hz
    have hgz : Hz.get b1 = some (.cells (Hl (0, 0)) 27 1) := set_get hsz
    have nz := set_n hsz
    have oz := set_old hsz
    repeat' first
      | refine CO.cons rfl ?_
      | refine CO.nil ?_
      | refine CV.ret ?_
      | fail
    exact ⟨_, ld41 hgz, rfl, rfl, keep_put k02 (by omega) oz nz⟩
set_option maxHeartbeats 4000000 in
set_option maxRecDepth 100000 in
theorem heatR_spec {B : Nat} {H : Heap} {cv tv : Value} {cs : List Co} {ts : List (Int × Int)} {m e : Int} {x : Int × Int} (hB : B ≤ H.n) (hc : RowS 7 H cv (cs.map Col)) (ht : RowS 2 H tv (ts.map Hl)) (hcn : cs.length ≤ 100) (htn : ts.length ≤ 100) (hQ : HeatQ cs ts m x e) :
    CallB Try.prog B 26 [Fv cv tv, VJ m] H (fun r H' => r = .tuple #[Hv x, VJ e] ∧ Keep H H') := by
  rcases hQ with ⟨he, rfl, rfl⟩ | ⟨he, hm, rfl, rfl⟩ | ⟨he, hm, rfl, B0, B1, h0, h1, rfl⟩
  all_goals
    refine CV.enter callees false rfl Try.func26 rfl (by kernel_rfl) (Nat.le_of_ble_eq_true rfl) hB ?_
    repeat' first
      | refine CO.cons rfl ?_
      | refine CV.seq ?_
      | refine CV.region callees ?_
      | fail
    refine ⟨(by simp only [notTuple]), ?_⟩
    rw [allocFv hc.cells.1 ht.cells.1]
    generalize hs0 : Heap.new H _ = H0
    have hg0 := new_get hs0
    have k0 := new_keep hs0
    have n0 := new_n hs0
    obtain ⟨b0, hbn0⟩ : ∃ b, Heap.n H = b := ⟨_, rfl⟩
    rw [hbn0] at hg0 n0 ⊢
    repeat' first
      | refine CO.cons rfl ?_
      | refine CO.nil ?_
      | refine CV.seq ?_
      | refine CV.region callees ?_
      | (refine ⟨_, _, al41, ?_⟩)
      | fail
    generalize hs1 : Heap.new H0 _ = H1
    have hg1 := new_get hs1
    have k1 := new_keep hs1
    have n1 := new_n hs1
    obtain ⟨b1, hbn1⟩ : ∃ b, Heap.n H0 = b := ⟨_, rfl⟩
    rw [hbn1] at hg1 n1 ⊢
    have hr1 := (k1.2 b0 (by omega)).trans hg0
    have k01 := k0.trans k1
    repeat' first
      | refine CO.cons rfl ?_
      | (refine ⟨_, agg_load ag28 sz28 hr1 (Nat.le_refl _), ?_⟩)
      | fail
    refine (checkR_spec (cs := cs) (ts := ts) (by omega) (hc.keep k01) (ht.keep k01) hcn htn).mono ?_
    have he' := he
    obtain ⟨y, hy⟩ : ∃ y, fiE cs ts = y := ⟨_, rfl⟩
    rw [hy] at he ⊢
    rintro r H2 ⟨rfl, k2⟩
    have l2 := k2.1
    have hg2 := (k2.2 b1 (by omega)).trans hg1
    have hr2 := (k2.2 b0 (by omega)).trans hr1
    have k02 := k01.trans k2
  · repeat' first
      | refine CO.cons rfl ?_
      | refine CO.nil ?_
      | refine CV.seq ?_
      | refine CV.region callees ?_
      | refine CV.cond ?_
      | (refine ⟨_, bu41e, ?_⟩)
      | (refine ⟨fun _ => ?_, fun _ => ?_⟩ <;> first | (exfalso; omega) | skip)
      | fail
    refine ⟨_, _, st41 hg2, by omega, ?_⟩
    generalize hsz : Heap.set H2 b1 _ = Hz
    have hgz : Hz.get b1 = some (.cells (Hl (0, 0)) 27 1) := set_get hsz
    have nz := set_n hsz
    have oz := set_old hsz
    repeat' first
      | refine CO.cons rfl ?_
      | refine CO.nil ?_
      | refine CV.ret ?_
      | fail
    exact ⟨_, ld41 hgz, rfl, rfl, keep_put k02 (by omega) oz nz⟩
  · repeat' first
      | refine CO.cons rfl ?_
      | refine CO.nil ?_
      | refine CV.seq ?_
      | refine CV.region callees ?_
      | refine CV.cond ?_
      | refine CV.skip ?_
      | (refine ⟨fun _ => ?_, fun _ => ?_⟩ <;> first | (exfalso; omega) | skip)
      | fail
    refine (within_no (by omega) hm).mono ?_
    rintro r H3 ⟨rfl, rfl⟩
    repeat' first
      | refine CO.cons rfl ?_
      | refine CO.nil ?_
      | refine CV.seq ?_
      | refine CV.region callees ?_
      | refine CV.cond ?_
      | (refine ⟨_, bu41e, ?_⟩)
      | fail
    refine ⟨_, _, st41 hg2, by omega, ?_⟩
    generalize hsz : Heap.set H3 b1 _ = Hz
    have hgz : Hz.get b1 = some (.cells (Hl (0, 0)) 27 1) := set_get hsz
    have nz := set_n hsz
    have oz := set_old hsz
    repeat' first
      | refine CO.cons rfl ?_
      | refine CO.nil ?_
      | refine CV.ret ?_
      | fail
    exact ⟨_, ld41 hgz, rfl, rfl, keep_put k02 (by omega) oz nz⟩
  · have hf := fiE_zero he'
    repeat' first
      | refine CO.cons rfl ?_
      | refine CO.nil ?_
      | refine CV.seq ?_
      | refine CV.region callees ?_
      | refine CV.cond ?_
      | refine CV.skip ?_
      | (refine ⟨fun _ => ?_, fun _ => ?_⟩ <;> first | (exfalso; omega) | skip)
      | fail
    refine (within_yes (by omega) hm).mono ?_
    rintro r H3 ⟨rfl, rfl⟩
    repeat' first
      | refine CO.cons rfl ?_
      | refine CO.nil ?_
      | refine CV.seq ?_
      | refine CV.cond ?_
      | refine CV.skip ?_
      | refine CR.cons (es := []) ?_
      | refine CR.call ?_
      | refine CV.wideR callees (by decide +kernel) [(0, []), (1, []), (3, []), (2, [0]), (4, []), (5, []), (6, [])] (by kernel_rfl) ?_
      | (refine ⟨_, agg_load ag28 sz28 hr2 (Nat.le_refl _), ?_⟩)
      | fail
    refine (beginsV_spec (Nat.le_refl _) (hc.keep k02) (ht.keep k02) hf h0 h1).mono ?_
    rintro q H4 ⟨hq, k4⟩
    have l4 := k4.1
    repeat' first
      | refine CR.cons (es := []) ?_
      | fail
    refine (heatV_spec (by omega) ((hc.keep k02).keep k4) ((ht.keep k02).keep k4) hq.row hf h0 h1 hm.1 hm.2).mono ?_
    rintro r H5 ⟨rfl, k5⟩
    have l5 := k5.1
    have hg5 := (k5.2 b1 (by omega)).trans ((k4.2 b1 (by omega)).trans hg2)
    repeat' first
      | refine CR.cons ?_
      | fail
    refine ⟨_, _, st41 hg5, by omega, ?_⟩
    generalize hsz : Heap.set H5 b1 _ = Hz
    have hgz : Hz.get b1 = some (.cells (Hl (heatL (emL cs B0 B1) m)) 27 1) := set_get hsz
    have nz := set_n hsz
    have oz := set_old hsz
    repeat' first
      | refine CV.ret ?_
      | refine CR.cons ?_
      | refine CR.nil ?_
      | fail
    exact ⟨_, ld41 hgz, rfl, rfl, keep_put ((k02.trans k4).trans k5) (by omega) oz nz⟩
set_option maxRecDepth 100000 in
theorem much_spec {B : Nat} {H : Heap} {cv tv pv : Value} {cs : List Co} {ts : List (Int × Int)} {ps : List Po} (hB : B ≤ H.n) (hc : RowS 7 H cv (cs.map Col)) (ht : RowS 2 H tv (ts.map Hl)) (hp : RowS 3 H pv (ps.map Pol)) :
    CallB Try.prog B 13 [Fv cv tv, pv] H (fun r H' => (r = .bool true ∨ r = .bool false ∧ cs.length ≤ 30 ∧ ts.length ≤ 60 ∧ ps.length ≤ 40) ∧ Keep H H') := by
  refine CV.enter callees false rfl Try.func13 rfl (by kernel_rfl) (Nat.le_of_ble_eq_true rfl) hB ?_
  repeat' first
    | refine CO.cons rfl ?_
    | refine CV.seq ?_
    | refine CV.region callees ?_
    | fail
  refine ⟨(by simp only [notTuple]), ?_⟩
  rw [allocFv hc.cells.1 ht.cells.1]
  generalize hs0 : Heap.new H _ = H0
  have hg0 := new_get hs0
  have k0 := new_keep hs0
  have n0 := new_n hs0
  obtain ⟨b0, hbn0⟩ : ∃ b, Heap.n H = b := ⟨_, rfl⟩
  rw [hbn0] at hg0 n0 ⊢
  have hc0 := hc.keep k0
  have ht0 := ht.keep k0
  have hp0 := hp.keep k0
  by_cases h : cs.length ≤ 30 ∧ ts.length ≤ 60 ∧ ps.length ≤ 40
  · repeat' first
      | refine CO.cons rfl ?_
      | refine CO.nil ?_
      | refine CV.seq ?_
      | refine CV.region callees ?_
      | refine CV.ret ?_
      | refine CO.consG rfl ?_
      | (refine ⟨_, fS foF0 (by decide), ?_⟩)
      | (refine ⟨_, fS foF1 (by decide), ?_⟩)
      | (refine ⟨_, cell_load ag25 hg0 rfl, ?_⟩)
      | (refine ⟨_, cs_len hc0, ?_⟩)
      | (refine ⟨_, ts_len ht0, ?_⟩)
      | (refine ⟨_, po_len hp0, ?_⟩)
      | (refine ⟨fun _ => ?_, fun _ => ?_⟩ <;> first | (exfalso; omega) | skip)
      | fail
    exact ⟨rfl, .inr ⟨rfl, h⟩, k0⟩
  · repeat' first
      | refine CO.cons rfl ?_
      | refine CO.nil ?_
      | refine CV.seq ?_
      | refine CV.region callees ?_
      | refine CV.ret ?_
      | refine CO.consG rfl ?_
      | (refine ⟨_, fS foF0 (by decide), ?_⟩)
      | (refine ⟨_, fS foF1 (by decide), ?_⟩)
      | (refine ⟨_, cell_load ag25 hg0 rfl, ?_⟩)
      | (refine ⟨_, cs_len hc0, ?_⟩)
      | (refine ⟨_, ts_len ht0, ?_⟩)
      | (refine ⟨_, po_len hp0, ?_⟩)
      | (refine ⟨fun _ => ?_, fun _ => ?_⟩ <;> first | (exfalso; omega) | skip)
      | fail
    all_goals exact ⟨rfl, .inl rfl, k0⟩
end Go.Proofs.Ytglkphjjinmgmaa

