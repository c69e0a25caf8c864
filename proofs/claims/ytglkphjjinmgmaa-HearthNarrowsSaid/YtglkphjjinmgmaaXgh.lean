
/- Narrower spans. -/
import Derived.Test.YtglkphjjinmgmaaXfh
set_option linter.unusedVariables false
set_option linter.unusedSimpArgs false
namespace Go.Proofs.Ytglkphjjinmgmaa
open Go.AI
theorem sum_le : ∀ (xs ys : List Int), xs.length = ys.length → (∀ i, i < xs.length → xs[i]! ≤ ys[i]!) → sumI xs ≤ sumI ys
  | [], [], _, _ => Int.le_refl _
  | x :: xs, y :: ys, hl, h => by
    have h0 : x ≤ y := h 0 (by simp)
    have h1 := sum_le xs ys (by simpa using hl) (fun i hi => by
      have := h (i + 1) (by simpa using hi)
      simpa using this)
    simp only [sumI]
    omega
/-- Each coal is known better. -/
def NarC (cs ds : List Co) (i : Nat) : Prop := ((cs[i]!.cl ≤ ds[i]!.cl ∧ ds[i]!.cl ≤ ds[i]!.ch ∧ ds[i]!.ch ≤ cs[i]!.ch) ∧ (cs[i]!.bl ≤ ds[i]!.bl ∧ ds[i]!.bl ≤ ds[i]!.bh ∧ ds[i]!.bh ≤ cs[i]!.bh) ∧ cs[i]!.hl ≤ ds[i]!.hl ∧ ds[i]!.hl ≤ ds[i]!.hh ∧ ds[i]!.hh ≤ cs[i]!.hh) ∧ ds[i]!.lt = cs[i]!.lt
theorem narC_ok {cs ds : List Co} {ts : List (Int × Int)} (hf : FOk cs ts) (hl : ds.length = cs.length) (h : ∀ i, i < cs.length → NarC cs ds i) : FOk ds ts := by
  refine ⟨by rw [hl]; exact hf.n, fun i hi => ?_, hf.m, fun i hi => by rw [hl]; exact hf.t i hi⟩
  obtain ⟨a1, a2, a3, a4, a5, a6, a7, a8, a9⟩ := hf.c i (by omega)
  obtain ⟨⟨⟨b1, b2, b3⟩, ⟨b4, b5, b6⟩, b7, b8, b9⟩, _⟩ := h i (by omega)
  exact ⟨by omega, by omega, by omega, by omega, by omega, by omega, by omega, by omega, by omega⟩
theorem narC_beg {cs ds : List Co} {ts : List (Int × Int)} {B0 B1 D0 D1 : List Int} (hf : FOk cs ts) (hl : ds.length = cs.length) (h : ∀ i, i < cs.length → NarC cs ds i) (h0 : IsBeg 0 cs ts B0) (h1 : IsBeg 1 cs ts B1) (d0 : IsBeg 0 ds ts D0) (d1 : IsBeg 1 ds ts D1) : ∀ i, i < cs.length → B0[i]! ≤ D0[i]! ∧ D1[i]! ≤ B1[i]! := by
  intro i hi
  have hfd := narC_ok hf hl h
  refine ⟨IsBeg.mono (cs := cs) (cs' := ds) hfd hl (fun j hj => (h j hj).2) (fun j hj => ?_) (fun j hj => ?_) h0 d0 _ i hi (Nat.le_refl _), IsBeg.mono (cs := ds) (cs' := cs) hf hl.symm (fun j hj => (h j (by omega)).2.symm) (fun j hj => ?_) (fun j hj => ?_) d1 h1 _ i (by omega) (Nat.le_refl _)⟩
  · exact (h j hj).1.1.1
  · exact (h j hj).1.2.1.2.2
  · exact (h j (by omega)).1.1.2.2
  · exact (h j (by omega)).1.2.1.1
theorem isBeg_ord {cs : List Co} {ts : List (Int × Int)} {B0 B1 : List Int} (hf : FOk cs ts) (h0 : IsBeg 0 cs ts B0) (h1 : IsBeg 1 cs ts B1) : ∀ i, i < cs.length → B0[i]! ≤ B1[i]! := fun i hi =>
  IsBeg.mono (e := 0) (e' := 1) (cs := cs) (cs' := cs) hf rfl (fun _ _ => rfl) (fun j hj => (hf.c j hj).c2) (fun j hj => (hf.c j hj).b2) h0 h1 _ i hi (Nat.le_refl _)
theorem emL_giv {cs : List Co} {B0 B1 : List Int} {m : Int} {i : Nat} (h : i < cs.length) : ((emL cs B0 B1).map (giv m))[i]! = (if B1[i]! ≤ m ∧ m < B0[i]! + cs[i]!.bl then cs[i]!.hl else 0, if B0[i]! ≤ m ∧ m < B1[i]! + cs[i]!.bh then cs[i]!.hh else 0) := by
  rw [giv_at (by rw [emL_len]; exact h), emL_at h]
  rfl
theorem heat_nar {cs ds : List Co} {ts : List (Int × Int)} {B0 B1 D0 D1 : List Int} {m : Int} (hf : FOk cs ts) (hl : ds.length = cs.length) (h : ∀ i, i < cs.length → NarC cs ds i) (hb : ∀ i, i < cs.length → B0[i]! ≤ D0[i]! ∧ D1[i]! ≤ B1[i]!) : (heatL (emL cs B0 B1) m).1 ≤ (heatL (emL ds D0 D1) m).1 ∧ (heatL (emL ds D0 D1) m).2 ≤ (heatL (emL cs B0 B1) m).2 := by
  have l1 : ((emL cs B0 B1).map (giv m)).length = cs.length := by rw [List.length_map, emL_len]
  have l2 : ((emL ds D0 D1).map (giv m)).length = cs.length := by rw [List.length_map, emL_len, hl]
  constructor
  · refine sum_le _ _ (by simp only [List.length_map, emL_len, hl]) fun i hi => ?_
    rw [List.length_map, l1] at hi
    rw [map_at1 (by omega), map_at1 (by omega), emL_giv hi, emL_giv (by omega)]
    obtain ⟨⟨⟨b1, b2, b3⟩, ⟨b4, b5, b6⟩, b7, b8, b9⟩, _⟩ := h i hi
    have a := hb i hi
    have c := (hf.c i hi).h1
    show (if _ then _ else _) ≤ (if _ then _ else _)
    split <;> split <;> omega
  · refine sum_le _ _ (by simp only [List.length_map, emL_len, hl]) fun i hi => ?_
    rw [List.length_map, l2] at hi
    rw [map_at2 (by omega), map_at2 (by omega), emL_giv hi, emL_giv (by omega)]
    obtain ⟨⟨⟨b1, b2, b3⟩, ⟨b4, b5, b6⟩, b7, b8, b9⟩, _⟩ := h i hi
    have a := hb i hi
    have c := (hf.c i hi).h1
    show (if _ then _ else _) ≤ (if _ then _ else _)
    split <;> split <;> omega
theorem heat_ord {cs : List Co} {ts : List (Int × Int)} {B0 B1 : List Int} {m : Int} (hf : FOk cs ts) (hb : ∀ i, i < cs.length → B0[i]! ≤ B1[i]!) : (heatL (emL cs B0 B1) m).1 ≤ (heatL (emL cs B0 B1) m).2 := by
  have l1 : ((emL cs B0 B1).map (giv m)).length = cs.length := by rw [List.length_map, emL_len]
  refine sum_le _ _ (by simp only [List.length_map]) fun i hi => ?_
  rw [List.length_map, l1] at hi
  rw [map_at1 (by omega), map_at2 (by omega), emL_giv hi]
  obtain ⟨a1, a2, a3, a4, a5, a6, a7, a8, a9⟩ := hf.c i hi
  have a := hb i hi
  show (if _ then _ else _) ≤ (if _ then _ else _)
  split <;> split <;> omega
theorem le_hotD {k : Ke} {la x x' y y' e : Int} (hk : KOk k) (h : 1 ≤ la) (hx : x ≤ x') (hy : y ≤ y') : rnd (hotS k x y la) (la * 1000000) e ≤ rnd (hotS k x' y' la) (la * 1000000) e := by
  refine rnd_le (by omega) ?_
  have m1 := Int.mul_le_mul_of_nonneg_right hy hk.ga
  have m2 : 0 ≤ (x' - x) * (la * (1000000 - k.lo)) := Int.mul_nonneg (by omega) (Int.mul_nonneg (by omega) (by have := hk.lo'; omega))
  have e1 : (x' - x) * (la * (1000000 - k.lo)) = (x' * la * 1000000 - (x' - k.ro) * k.lo * la) - (x * la * 1000000 - (x - k.ro) * k.lo * la) := by
    simp only [Int.sub_mul, Int.mul_sub, Int.mul_assoc, Int.mul_comm k.lo la]
    omega
  unfold hotS
  omega
/-- As much water, known better; and which lies in between. -/
def NarW (w w' : Wt) : Prop := w.la = w'.la ∧ w.w0 ≤ w'.w0 ∧ w'.w0 ≤ w'.w1 ∧ w'.w1 ≤ w.w1
theorem nar_hot {k : Ke} {w w' : Wt} {h h' : Int × Int} (hk : KOk k) (hw : 1 ≤ w.la) (hl : NarW w w') (h0 : h.1 ≤ h'.1) (h1 : h'.1 ≤ h'.2) (h2 : h'.2 ≤ h.2) : NarW (hotN k w h) (hotN k w' h') := by
  obtain ⟨e, a, b, c⟩ := hl
  have u := le_hotD (e := 0) hk hw a h0
  have v := le_hotD (e := 0) hk hw b h1
  have x := rnd01 (n := hotS k w'.w1 h'.2 w.la) (p := w.la * 1000000) (by omega)
  have y := le_hotD (e := 1) hk hw c h2
  unfold hotN
  rw [← e]
  exact ⟨rfl, by (show min _ _ ≤ min _ _); omega, by (show min _ _ ≤ min _ _); omega, by (show min _ _ ≤ min _ _); omega⟩
theorem nar_pour {w w' : Wt} {p : Po} (hw : 1 ≤ w.la) (hl : NarW w w') : NarW (pourN w p) (pourN w' p) := by
  obtain ⟨e, a, b, c⟩ := hl
  unfold pourN
  rw [← e]
  split
  · have m1 := Int.mul_le_mul_of_nonneg_right a (show 0 ≤ w.la by omega)
    have m2 := Int.mul_le_mul_of_nonneg_right b (show 0 ≤ w.la by omega)
    have m3 := Int.mul_le_mul_of_nonneg_right c (show 0 ≤ w.la by omega)
    have p1 : 1 ≤ w.la + p.la := by omega
    exact ⟨rfl, rnd_le (e := 0) p1 (show w.w0 * w.la + p.wm * p.la ≤ w'.w0 * w.la + p.wm * p.la by omega), Int.le_trans (rnd_le (e := 0) p1 (show w'.w0 * w.la + p.wm * p.la ≤ w'.w1 * w.la + p.wm * p.la by omega)) (rnd01 p1), rnd_le (e := 1) p1 (show w'.w1 * w.la + p.wm * p.la ≤ w.w1 * w.la + p.wm * p.la by omega)⟩
  · exact ⟨rfl, a, b, c⟩
theorem nar_pourR {k : Ke} {ps : List Po} (hp : POk k.wa ps) (m : Int) : ∀ (n j : Nat) (w w' : Wt), ps.length - j ≤ n → WS k ps j w → NarW w w' → ∃ j', (pourR m (ps.drop j) w).2 = ps.drop j' ∧ (pourR m (ps.drop j) w').2 = ps.drop j' ∧ WS k ps j' (pourR m (ps.drop j) w).1 ∧ NarW (pourR m (ps.drop j) w).1 (pourR m (ps.drop j) w').1 := by
  intro n
  induction n with
  | zero =>
    intro j w w' hn h ha
    have := h.jl
    rw [List.drop_eq_nil_of_le (by omega)]
    exact ⟨j, by rw [List.drop_eq_nil_of_le (show ps.length ≤ j by omega)]; rfl, by rw [List.drop_eq_nil_of_le (show ps.length ≤ j by omega)]; rfl, h, ha⟩
  | succ n ih =>
    intro j w w' hn h ha
    have hjl := h.jl
    by_cases hj : j < ps.length
    · rw [drop_at hj]
      unfold pourR
      split
      · exact ih (j + 1) _ _ (by omega) (h.pour hp hj) (nar_pour h.ok.la ha)
      · exact ⟨j, (drop_at hj).symm, (drop_at hj).symm, h, ha⟩
    · rw [List.drop_eq_nil_of_le (by omega)]
      exact ⟨j, by rw [List.drop_eq_nil_of_le (show ps.length ≤ j by omega)]; rfl, by rw [List.drop_eq_nil_of_le (show ps.length ≤ j by omega)]; rfl, h, ha⟩
/-- The same kettle, of whose water is known something else. -/
abbrev kN (k : Ke) (a b : Int) : Ke := ⟨k.wa, a, b, k.ro, k.ga, k.lo, k.si, k.bo⟩
theorem nar_bef {k : Ke} {E E' : List Em} {ps : List Po} {a b : Int} (hk : KOk k) (hp : POk k.wa ps) (hn : E.length ≤ 12) (hE : ∀ i, i < E.length → EmOk E[i]!) (ha : k.wl ≤ a ∧ a ≤ b ∧ b ≤ k.wh) (hh : ∀ m : Nat, (heatL E m).1 ≤ (heatL E' m).1 ∧ (heatL E' m).1 ≤ (heatL E' m).2 ∧ (heatL E' m).2 ≤ (heatL E m).2) : ∀ m, ∃ j, (befM k E ps m).2 = ps.drop j ∧ (befM (kN k a b) E' ps m).2 = ps.drop j ∧ WS k ps j (befM k E ps m).1 ∧ NarW (befM k E ps m).1 (befM (kN k a b) E' ps m).1
  | 0 => ⟨0, rfl, rfl, WS.zero hk, rfl, ha.1, ha.2.1, ha.2.2⟩
  | m + 1 => by
    obtain ⟨j, h1, h2, h3, h4⟩ := nar_bef hk hp hn hE ha hh m
    obtain ⟨j', g1, g2, g3, g4⟩ := nar_pourR hp (m : Int) _ j _ _ (Nat.le_refl _) h3 h4
    have hb := heatL_bd (m := (m : Int)) hn hE
    refine ⟨j', ?_, ?_, ?_, ?_⟩
    · simp only [befM, h1]; exact g1
    · simp only [befM, h2]; exact g2
    · simp only [befM, h1]
      exact ⟨g3.jl, g3.la, hotN_ok g3.ok hk hb.1.1 hb.1.2 hb.2.1 hb.2.2⟩
    · simp only [befM, h1, h2]
      exact nar_hot hk g3.ok.la g4 (hh m).1 (hh m).2.1 (hh m).2.2
theorem nar_warm {k : Ke} {E E' : List Em} {ps : List Po} {a b : Int} (hk : KOk k) (hp : POk k.wa ps) (hn : E.length ≤ 12) (hE : ∀ i, i < E.length → EmOk E[i]!) (ha : k.wl ≤ a ∧ a ≤ b ∧ b ≤ k.wh) (hh : ∀ m : Nat, (heatL E m).1 ≤ (heatL E' m).1 ∧ (heatL E' m).1 ≤ (heatL E' m).2 ∧ (heatL E' m).2 ≤ (heatL E m).2) (m : Nat) : (warmM k E ps m).1 ≤ (warmM (kN k a b) E' ps m).1 ∧ (warmM (kN k a b) E' ps m).1 ≤ (warmM (kN k a b) E' ps m).2 ∧ (warmM (kN k a b) E' ps m).2 ≤ (warmM k E ps m).2 := by
  obtain ⟨j, h1, h2, h3, h4⟩ := nar_bef hk hp hn hE ha hh m
  obtain ⟨j', g1, g2, g3, g4⟩ := nar_pourR hp (m : Int) _ j _ _ (Nat.le_refl _) h3 h4
  unfold warmM aftM
  rw [h1, h2]
  exact ⟨g4.2.1, g4.2.2.1, g4.2.2.2⟩
theorem ver_nar {k : Ke} {a b : Int} {w w' : Int × Int} (h0 : w.1 ≤ w'.1) (h1 : w'.1 ≤ w'.2) (h2 : w'.2 ≤ w.2) : verN k w = 3 ∨ verN (kN k a b) w' = verN k w := by
  show verN k w = 3 ∨ verN k w' = verN k w
  unfold verN
  repeat' split
  all_goals omega
set_option maxHeartbeats 4000000 in
set_option maxRecDepth 100000 in
theorem part_spec {B b : Nat} {H : Heap} {p : Int × Int} (hB : B ≤ b) (hn : B ≤ H.n) (hb : Box b H) (h0 : 0 ≤ p.1) (h1 : p.1 ≤ p.2) (h2 : p.2 < 100000) :
    CallB Try.prog B 55 [bp b, Hv p] H (fun r H' => (∃ q : Int × Int, r = Hv q ∧ p.1 ≤ q.1 ∧ q.1 ≤ q.2 ∧ q.2 ≤ p.2) ∧ Box b H' ∧ KeepX b H H') := by
  have hbn := hb.1
  refine CV.enter callees false rfl Try.func55 rfl (by kernel_rfl) (Nat.le_of_ble_eq_true rfl) hn ?_
  repeat' first
    | refine CO.cons rfl ?_
    | refine CV.seq ?_
    | refine CV.region callees ?_
    | fail
  refine ⟨(by simp only [notTuple]), ?_⟩
  rw [allocHv]
  generalize hs0 : Heap.new H _ = H0
  have hg0 := new_get hs0
  have k0 := new_keep hs0
  have n0 := new_n hs0
  obtain ⟨b0, hbn0⟩ : ∃ b, Heap.n H = b := ⟨_, rfl⟩
  rw [hbn0] at hg0 n0 ⊢
  repeat' first
    | refine CO.cons rfl ?_
    | refine CO.nil ?_
    | refine CV.seq ?_
    | (refine ⟨_, _, al41, ?_⟩)
    | fail
  generalize hs1 : Heap.new H0 _ = H1
  have hg1 := new_get hs1
  have k1 := new_keep hs1
  have n1 := new_n hs1
  obtain ⟨b1, hbn1⟩ : ∃ b, Heap.n H0 = b := ⟨_, rfl⟩
  rw [hbn1] at hg1 n1 ⊢
  have hg01 := (k1.2 b0 (by omega)).trans hg0
  have hb1 := (hb.keep k0).keep k1
  repeat' first
    | fail
  refine CV.wideR callees (by decide +kernel) [(0, []), (1, []), (3, []), (4, []), (2, [4]), (5, []), (6, []), (7, [])] (by kernel_rfl) ?_
  repeat' first
    | refine CR.cons ?_
    | (refine ⟨_, ld41 hg01, ?_⟩)
    | fail
  refine (in_spec (p := p) hB (by omega) hb1 h0 h1 h2).mono ?_
  rintro r H2 ⟨⟨x, rfl, x1, x2⟩, hb2, k2⟩
  have l2 := k2.1
  have hg02 := (k2.2 b0 (by omega) (by omega)).trans hg01
  have hg12 := (k2.2 b1 (by omega) (by omega)).trans hg1
  repeat' first
    | refine CR.cons ?_
    | (refine ⟨_, ld41 hg02, ?_⟩)
    | (refine ⟨(rfl : _ = Hv p), ?_⟩)
    | (refine ⟨same_h, ?_⟩)
    | fail
  refine (in_spec (p := p) hB (by omega) hb2 h0 h1 h2).mono ?_
  rintro r H3 ⟨⟨y, rfl, y1, y2⟩, hb3, k3⟩
  have l3 := k3.1
  have hg13 := (k3.2 b1 (by omega) (by omega)).trans hg12
  repeat' first
    | refine CO.cons rfl ?_
    | refine CV.seq ?_
    | refine CV.region callees ?_
    | refine CR.cons ?_
    | refine CR.nil ?_
    | refine ⟨_, fun tm ha => step1_max rfl (ev_tmp ha rfl) (ev_tmp ha rfl), ?_⟩
    | refine ⟨_, fun tm ha => step1_min rfl (ev_tmp ha rfl) (ev_tmp ha rfl), ?_⟩
    | (refine ⟨_, bu41, ?_⟩)
    | fail
  refine ⟨_, _, st41 hg13, by omega, ?_⟩
  generalize hsq : Heap.set H3 b1 _ = H4
  have hg4 := set_get hsq
  have n4 := set_n hsq
  have o4 := set_old hsq
  repeat' first
    | refine CO.nil ?_
    | refine CV.ret ?_
    | fail
  exact ⟨_, ld41 hg4, rfl, ⟨_, rfl, by (show p.1 ≤ min x y); omega, by (show min x y ≤ max x y); omega, by (show max x y ≤ p.2); omega⟩, hb3.put (by omega) o4 n4, KeepX.put ((((k0.trans k1).butX b).trans k2).trans k3) (by omega) o4 n4⟩
set_option maxRecDepth 100000 in
theorem within_spec {B : Nat} {H : Heap} {p q : Int × Int} (hB : B ≤ H.n) (h1 : q.1 ≤ p.1) (h2 : p.2 ≤ q.2) :
    CallB Try.prog B 56 [Hv p, Hv q] H (fun r H' => r = .bool true ∧ Keep H H') := by
  refine CV.enter callees false rfl Try.func56 rfl (by kernel_rfl) (Nat.le_of_ble_eq_true rfl) hB ?_
  repeat' first
    | refine CO.cons rfl ?_
    | refine CV.seq ?_
    | refine CV.region callees ?_
    | fail
  refine ⟨(by simp only [notTuple]), ?_⟩
  rw [allocHv]
  generalize hs0 : Heap.new H _ = H0
  have hg0 := new_get hs0
  have k0 := new_keep hs0
  have n0 := new_n hs0
  obtain ⟨b0, hbn0⟩ : ∃ b, Heap.n H = b := ⟨_, rfl⟩
  rw [hbn0] at hg0 n0 ⊢
  repeat' first
    | refine CO.cons rfl ?_
    | fail
  refine ⟨(by simp only [notTuple]), ?_⟩
  rw [allocHv]
  generalize hs1 : Heap.new H0 _ = H1
  have hg1 := new_get hs1
  have k1 := new_keep hs1
  have n1 := new_n hs1
  obtain ⟨b1, hbn1⟩ : ∃ b, Heap.n H0 = b := ⟨_, rfl⟩
  rw [hbn1] at hg1 n1 ⊢
  have hg01 := (k1.2 b0 (by omega)).trans hg0
  repeat' first
    | refine CO.cons rfl ?_
    | refine CO.nil ?_
    | refine CV.seq ?_
    | refine CV.region callees ?_
    | refine CV.ret ?_
    | refine CO.consG rfl ?_
    | (refine ⟨_, fS foS0 (by decide), ?_⟩)
    | (refine ⟨_, fS foS1 (by decide), ?_⟩)
    | (refine ⟨_, cell_load ag3 hg01 rfl, ?_⟩)
    | (refine ⟨_, cell_load ag3 hg1 rfl, ?_⟩)
    | (refine ⟨fun _ => ?_, fun _ => ?_⟩ <;> first | (exfalso; omega) | skip)
    | fail
  exact ⟨rfl, rfl, k0.trans k1⟩
theorem coL2 {H : Heap} {b : Nat} {c : Co} {e : TypeId} {k : Nat} (hg : H.get b = some (.cells (Col c) e k)) : aload Try.prog 27 H (.pointer (some ⟨b, 0 + 4, none⟩)) = some (Hv (c.hl, c.hh)) := agg_load ag41 sz41 hg (Nat.le_of_ble_eq_true rfl)
theorem bu28t {y : Option Addr} {n c : Nat} : abuild Try.prog 25 [(1, .slice y n c)] = some (Fv nilS (.slice y n c)) := by kernel_rfl
theorem narC_snoc {cs ds : List Co} {i : Nat} {d : Co} (hl : ds.length = i) (h : ∀ j, j < i → NarC cs ds j) (hd : ((cs[i]!.cl ≤ d.cl ∧ d.cl ≤ d.ch ∧ d.ch ≤ cs[i]!.ch) ∧ (cs[i]!.bl ≤ d.bl ∧ d.bl ≤ d.bh ∧ d.bh ≤ cs[i]!.bh) ∧ cs[i]!.hl ≤ d.hl ∧ d.hl ≤ d.hh ∧ d.hh ≤ cs[i]!.hh) ∧ d.lt = cs[i]!.lt) : ∀ j, j < i + 1 → NarC cs (ds ++ [d]) j := by
  intro j hj
  unfold NarC
  rw [getElem!_pos (ds ++ [d]) j (by rw [List.length_append, List.length_singleton]; omega)]
  by_cases hji : j < i
  · rw [List.getElem_append_left (by omega)]
    have := h j hji
    unfold NarC at this
    rwa [getElem!_pos ds j (by omega)] at this
  · obtain rfl : j = i := by omega
    rw [List.getElem_append_right (by omega)]
    simp only [List.getElem_singleton]
    exact hd
end Go.Proofs.Ytglkphjjinmgmaa
