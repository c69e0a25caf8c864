
/- More warmth: a coal more, warmer pours. Copies of fires and pours. -/
import Derived.Test.YtglkphjjinmgmaaW9h
set_option linter.unusedVariables false
set_option linter.unusedSimpArgs false
namespace Go.Proofs.Ytglkphjjinmgmaa
open Go.AI
theorem rnd_le {n n' p e : Int} (hp : 1 ≤ p) (h : n ≤ n') : rnd n p e ≤ rnd n' p e := by
  unfold rnd
  split
  · exact Int.ediv_le_ediv (by omega) (by omega)
  · exact Int.ediv_le_ediv (by omega) h
/-- As much water, and no colder. -/
def LeW (w w' : Wt) : Prop := w.la = w'.la ∧ w.w0 ≤ w'.w0 ∧ w.w1 ≤ w'.w1
theorem le_hot {k : Ke} {w w' : Wt} {h h' : Int × Int} (hk : KOk k) (hw : WOk w) (hl : LeW w w') (h0 : h.1 ≤ h'.1) (h1 : h.2 ≤ h'.2) : LeW (hotN k w h) (hotN k w' h') := by
  obtain ⟨e, a, b⟩ := hl
  have la := hw.la
  have key : ∀ x x' y y' : Int, x ≤ x' → y ≤ y' → hotS k x y w.la ≤ hotS k x' y' w.la := fun x x' y y' hx hy => by
    have m1 := Int.mul_le_mul_of_nonneg_right hy hk.ga
    have m2 : 0 ≤ (x' - x) * (w.la * (1000000 - k.lo)) := Int.mul_nonneg (by omega) (Int.mul_nonneg (by omega) (by have := hk.lo'; omega))
    have e1 : (x' - x) * (w.la * (1000000 - k.lo)) = (x' * w.la * 1000000 - (x' - k.ro) * k.lo * w.la) - (x * w.la * 1000000 - (x - k.ro) * k.lo * w.la) := by
      simp only [Int.sub_mul, Int.mul_sub, Int.mul_assoc, Int.mul_comm k.lo w.la]
      omega
    unfold hotS
    omega
  have r0 := rnd_le (e := 0) (show 1 ≤ w.la * 1000000 by omega) (key _ _ _ _ a h0)
  have r1 := rnd_le (e := 1) (show 1 ≤ w.la * 1000000 by omega) (key _ _ _ _ b h1)
  unfold hotN
  rw [← e]
  exact ⟨rfl, by show min _ _ ≤ min _ _; omega, by show min _ _ ≤ min _ _; omega⟩
theorem le_pour {w w' : Wt} {p p' : Po} (hw : 1 ≤ w.la) (hl : LeW w w') (he : p.la = p'.la) (hm : p.wm ≤ p'.wm) : LeW (pourN w p) (pourN w' p') := by
  obtain ⟨e, a, b⟩ := hl
  unfold pourN
  rw [← e, ← he]
  split
  · rename_i hp
    have m1 := Int.mul_le_mul_of_nonneg_right hm (show 0 ≤ p.la by omega)
    have m2 := Int.mul_le_mul_of_nonneg_right a (show 0 ≤ w.la by omega)
    have m3 := Int.mul_le_mul_of_nonneg_right b (show 0 ≤ w.la by omega)
    exact ⟨rfl, rnd_le (e := 0) (show 1 ≤ w.la + p.la by omega) (show w.w0 * w.la + p.wm * p.la ≤ w'.w0 * w.la + p'.wm * p.la by omega), rnd_le (e := 1) (show 1 ≤ w.la + p.la by omega) (show w.w1 * w.la + p.wm * p.la ≤ w'.w1 * w.la + p'.wm * p.la by omega)⟩
  · exact ⟨rfl, a, b⟩
theorem le_pourR {k : Ke} {ps qs : List Po} (hp : POk k.wa ps) (hl : qs.length = ps.length) (hq : ∀ i, i < ps.length → ps[i]!.mi = qs[i]!.mi ∧ ps[i]!.la = qs[i]!.la ∧ ps[i]!.wm ≤ qs[i]!.wm) (m : Int) : ∀ (n j : Nat) (w w' : Wt), ps.length - j ≤ n → WS k ps j w → LeW w w' → ∃ j', (pourR m (ps.drop j) w).2 = ps.drop j' ∧ (pourR m (qs.drop j) w').2 = qs.drop j' ∧ WS k ps j' (pourR m (ps.drop j) w).1 ∧ LeW (pourR m (ps.drop j) w).1 (pourR m (qs.drop j) w').1 := by
  intro n
  induction n with
  | zero =>
    intro j w w' hn h ha
    have := h.jl
    rw [List.drop_eq_nil_of_le (by omega), List.drop_eq_nil_of_le (show qs.length ≤ j by omega)]
    exact ⟨j, by rw [List.drop_eq_nil_of_le (show ps.length ≤ j by omega)]; rfl, by rw [List.drop_eq_nil_of_le (show qs.length ≤ j by omega)]; rfl, h, ha⟩
  | succ n ih =>
    intro j w w' hn h ha
    have hjl := h.jl
    by_cases hj : j < ps.length
    · have h1 := hq j hj
      rw [drop_at hj, drop_at (show j < qs.length by omega)]
      unfold pourR
      rw [← h1.1]
      split
      · exact ih (j + 1) _ _ (by omega) (h.pour hp hj) (le_pour h.ok.la ha h1.2.1 h1.2.2)
      · exact ⟨j, (drop_at hj).symm, (drop_at (show j < qs.length by omega)).symm, h, ha⟩
    · rw [List.drop_eq_nil_of_le (by omega), List.drop_eq_nil_of_le (show qs.length ≤ j by omega)]
      exact ⟨j, by rw [List.drop_eq_nil_of_le (show ps.length ≤ j by omega)]; rfl, by rw [List.drop_eq_nil_of_le (show qs.length ≤ j by omega)]; rfl, h, ha⟩
/-- More heat, or warmer pours: no minute is colder. -/
theorem le_bef {k : Ke} {E E' : List Em} {ps qs : List Po} (hk : KOk k) (hp : POk k.wa ps) (hn : E.length ≤ 12) (hE : ∀ i, i < E.length → EmOk E[i]!) (hl : qs.length = ps.length) (hq : ∀ i, i < ps.length → ps[i]!.mi = qs[i]!.mi ∧ ps[i]!.la = qs[i]!.la ∧ ps[i]!.wm ≤ qs[i]!.wm) (hh : ∀ m : Nat, (heatL E m).1 ≤ (heatL E' m).1 ∧ (heatL E m).2 ≤ (heatL E' m).2) : ∀ m, ∃ j, (befM k E ps m).2 = ps.drop j ∧ (befM k E' qs m).2 = qs.drop j ∧ WS k ps j (befM k E ps m).1 ∧ LeW (befM k E ps m).1 (befM k E' qs m).1
  | 0 => ⟨0, rfl, rfl, WS.zero hk, rfl, Int.le_refl _, Int.le_refl _⟩
  | m + 1 => by
    obtain ⟨j, h1, h2, h3, h4⟩ := le_bef hk hp hn hE hl hq hh m
    obtain ⟨j', g1, g2, g3, g4⟩ := le_pourR hp hl hq (m : Int) _ j _ _ (Nat.le_refl _) h3 h4
    have hb := heatL_bd (m := (m : Int)) hn hE
    refine ⟨j', ?_, ?_, ?_, ?_⟩
    · simp only [befM, h1]; exact g1
    · simp only [befM, h2]; exact g2
    · simp only [befM, h1]
      exact ⟨g3.jl, g3.la, hotN_ok g3.ok hk hb.1.1 hb.1.2 hb.2.1 hb.2.2⟩
    · simp only [befM, h1, h2]
      exact le_hot hk g3.ok g4 (hh m).1 (hh m).2
theorem le_warm {k : Ke} {E E' : List Em} {ps qs : List Po} (hk : KOk k) (hp : POk k.wa ps) (hn : E.length ≤ 12) (hE : ∀ i, i < E.length → EmOk E[i]!) (hl : qs.length = ps.length) (hq : ∀ i, i < ps.length → ps[i]!.mi = qs[i]!.mi ∧ ps[i]!.la = qs[i]!.la ∧ ps[i]!.wm ≤ qs[i]!.wm) (hh : ∀ m : Nat, (heatL E m).1 ≤ (heatL E' m).1 ∧ (heatL E m).2 ≤ (heatL E' m).2) (m : Nat) : (warmM k E ps m).1 ≤ (warmM k E' qs m).1 ∧ (warmM k E ps m).2 ≤ (warmM k E' qs m).2 := by
  obtain ⟨j, h1, h2, h3, h4⟩ := le_bef hk hp hn hE hl hq hh m
  obtain ⟨j', g1, g2, g3, g4⟩ := le_pourR hp hl hq (m : Int) _ j _ _ (Nat.le_refl _) h3 h4
  unfold warmM aftM
  rw [h1, h2]
  exact ⟨g4.2.1, g4.2.2⟩
theorem heat_app {E : List Em} {x : Em} {m : Int} : heatL (E ++ [x]) m = ((heatL E m).1 + (giv m x).1, (heatL E m).2 + (giv m x).2) := by
  unfold heatL sumA sumB
  rw [List.map_append, List.map_append, List.map_append]
  simp only [List.map_cons, List.map_nil, sumI_app]
theorem po_none {H : Heap} : abuildSlice Try.prog H 30 0 [] = some (.slice (some ⟨H.n, 0, none⟩) 0 0, H.new (.cells [] 82 2), H.n) := by kernel_rfl
theorem co_none {H : Heap} : abuildSlice Try.prog H 22 0 [] = some (.slice (some ⟨H.n, 0, none⟩) 0 0, H.new (.cells [] 32 2), H.n) := by kernel_rfl
theorem to_none {H : Heap} : abuildSlice Try.prog H 23 0 [] = some (.slice (some ⟨H.n, 0, none⟩) 0 0, H.new (.cells [] 99 2), H.n) := by kernel_rfl
set_option maxRecDepth 100000 in
theorem ownPours_spec {B : Nat} {H : Heap} {pv : Value} {ps : List Po} (hB : B ≤ H.n) (hp : RowS 3 H pv (ps.map Pol)) (hn : ps.length < 1000000) :
    CallB Try.prog B 22 [pv] H (fun r H' => OwnO H' r ps H.n ∧ Keep H H') := by
  refine CV.enter callees false rfl Try.func22 rfl (by kernel_rfl) (Nat.le_of_ble_eq_true rfl) hB ?_
  repeat' first
    | refine CO.cons rfl ?_
    | refine CO.nil ?_
    | refine CV.seq ?_
    | refine CV.region callees ?_
    | (refine ⟨_, _, po_none, ?_⟩)
    | fail
  refine copy_askS (z := Pol ⟨0, 0, 0⟩) un53 zero62b (by decide) hp hB (by rw [List.length_map]; exact hn) ?_
  intro r H' ho k
  repeat' first
    | refine CO.cons rfl ?_
    | refine CO.nil ?_
    | refine CV.ret ?_
    | fail
  exact ⟨by simp only [List.all_cons, List.all_nil, OwnS.notTuple ho]; rfl, ho, k⟩
set_option maxRecDepth 100000 in
theorem ownFire_spec {B : Nat} {H : Heap} {cv tv : Value} {cs : List Co} {ts : List (Int × Int)} {c0 t0 : Nat} (hB : B ≤ H.n) (hc : OwnC H cv cs c0) (ht : OwnT H tv ts t0) (hn : cs.length < 1000000) (hm : ts.length < 1000000) :
    CallB Try.prog B 21 [Fv cv tv] H (fun r H' => (∃ c t, r = Fv c t ∧ OwnC H' c cs H.n ∧ OwnT H' t ts H.n ∧ Apart t c) ∧ Keep H H') := by
  refine CV.enter callees false rfl Try.func21 rfl (by kernel_rfl) (Nat.le_of_ble_eq_true rfl) hB ?_
  repeat' first
    | refine CO.cons rfl ?_
    | refine CV.seq ?_
    | refine CV.region callees ?_
    | fail
  refine ⟨(by simp only [notTuple]), ?_⟩
  rw [allocFv hc.row.cells.1 ht.row.cells.1]
  generalize hs0 : Heap.new H _ = H0
  have hg0 := new_get hs0
  have k0 := new_keep hs0
  have n0 := new_n hs0
  obtain ⟨b0, hbn0⟩ : ∃ b, Heap.n H = b := ⟨_, rfl⟩
  rw [hbn0] at hg0 n0 ⊢
  repeat' first
    | refine CO.cons rfl ?_
    | refine CO.nil ?_
    | refine CV.seq ?_
    | (refine ⟨_, _, al28, ?_⟩)
    | fail
  generalize hs1 : Heap.new H0 _ = H1
  have hg1 := new_get hs1
  have k1 := new_keep hs1
  have n1 := new_n hs1
  obtain ⟨b1, hbn1⟩ : ∃ b, Heap.n H0 = b := ⟨_, rfl⟩
  rw [hbn1] at hg1 n1 ⊢
  have k01 := k0.trans k1
  have hg01 := (k1.2 b0 (by omega)).trans hg0
  have hc1 : OwnC H1 cv cs c0 := OwnS.keep hc k01
  have ht1 : OwnT H1 tv ts t0 := OwnS.keep ht k01
  have kA := Keep.new H1 (.cells [] 32 2)
  have hgA := (kA.2 b0 (by omega)).trans hg01
  refine CV.mX callees (by decide +kernel) [(1, []), (2, []), (5, []), (6, []), (0, [6, 2]), (3, [6]), (4, [6]), (7, []), (8, []), (9, [])] (by kernel_rfl) ?_
  repeat' first
    | refine CR.cons ?_
    | (refine ⟨_, fS foF0 (by decide), ?_⟩)
    | (refine ⟨_, fS foF1 (by decide), ?_⟩)
    | (refine ⟨_, cell_load ag25 hg01 rfl, ?_⟩)
    | (refine ⟨_, _, co_none, ?_⟩)
    | fail
  refine copy_askS (z := Col ⟨0, 0, 0, 0, 0, 0, false⟩) un25 zero48b (by decide) hc1.row (by omega) (by rw [List.length_map]; exact hn) ?_
  intro c H2 hc2 k2
  have l2 := k2.1
  have hg2 := (k2.2 b0 (by omega)).trans hg01
  have ht2 : OwnT H2 tv ts t0 := OwnS.keep ht1 k2
  have kB := Keep.new H2 (.cells [] 99 2)
  have hgB := (kB.2 b0 (by omega)).trans hg2
  repeat' first
    | refine CR.cons ?_
    | (refine ⟨_, cell_load ag26 hg2 rfl, ?_⟩)
    | (refine ⟨_, _, to_none, ?_⟩)
    | (refine ⟨(rfl : _ = tv), ?_⟩)
    | (refine ⟨ht1.same, ?_⟩)
    | fail
  refine copy_askS (z := Hl (0, 0)) un26 zero82b (by decide) ht2.row (by omega) (by rw [List.length_map]; exact hm) ?_
  intro t H3 ht3 k3
  have l3 := k3.1
  have hc3 : OwnC H3 c cs H1.n := OwnS.keep hc2 k3
  have hg3 := ((k2.trans k3).2 b1 (by omega)).trans hg1
  have hap : Apart t c := fun q h1 h2 => by have := (ht3.lt h1).1; have := (hc2.lt h2).2; omega
  obtain ⟨x, n, d, rfl⟩ : ∃ x n d, c = .slice x n d := by
    rcases hc3.2 with ⟨rfl, _⟩ | ⟨_, rfl, _⟩ <;> exact ⟨_, _, _, rfl⟩
  obtain ⟨y, n', d', rfl⟩ : ∃ x n d, t = .slice x n d := by
    rcases ht3.2 with ⟨rfl, _⟩ | ⟨_, rfl, _⟩ <;> exact ⟨_, _, _, rfl⟩
  repeat' first
    | refine CR.cons ?_
    | (refine ⟨_, bu28, ?_⟩)
    | fail
  refine ⟨_, _, st28 rfl rfl hg3, by omega, ?_⟩
  generalize hsz : Heap.set H3 b1 _ = H4
  have hg4 := set_get hsz
  have n4 := set_n hsz
  have o4 := set_old hsz
  repeat' first
    | refine CV.ret ?_
    | refine CR.nil ?_
    | fail
  have kx4 : KeepX b1 H3 H4 := ⟨by omega, fun x _ hx => o4 x hx⟩
  exact ⟨_, ld28 hg4, rfl, ⟨_, _, rfl, OwnS.low (OwnS.keepX hc3 kx4 hg3) (by omega), OwnS.low (OwnS.keepX ht3 kx4 hg3) (by omega), hap⟩, keep_put ((k01.trans k2).trans k3) (by omega) o4 n4⟩
end Go.Proofs.Ytglkphjjinmgmaa
