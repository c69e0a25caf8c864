
/- The best order. -/
import Derived.Test.YtlamceokhbigaaaTcg
set_option linter.unusedVariables false
set_option linter.unusedSimpArgs false
namespace Go.Proofs.Ytlamceokhbigaaa
open Go.AI
def prO (gs : List Gu) (rs : List Ru) (o : List Int) : Int := priceN (brkO gs rs o) rs
def bstep (gs : List Gu) (rs : List Ru) (acc : Option (List Int × Int)) (o : List Int) : Option (List Int × Int) :=
  match acc with
  | none => some (o, prO gs rs o)
  | some (b, p) => if prO gs rs o < p then some (o, prO gs rs o) else some (b, p)
/-- The best one of some orders, and its price. -/
def bestF (gs : List Gu) (rs : List Ru) (F : List (List Int)) : Option (List Int × Int) := F.foldl (bstep gs rs) none
theorem bestF_snoc {gs : List Gu} {rs : List Ru} {F : List (List Int)} {o : List Int} : bestF gs rs (F ++ [o]) = bstep gs rs (bestF gs rs F) o := by
  unfold bestF
  rw [List.foldl_append]
  rfl
/-- The best one yet, in its variables. -/
def BS (b1 b2 e : Nat) (X : Heap) (acc : Option (List Int × Int)) : Prop :=
  match acc with
  | none => X.get b1 = some (.cells [nilS] 26 1) ∧ X.get b2 = some (.cells [VI 0] 3 1)
  | some (b, p) => ∃ q, X.get b1 = some (.cells [q] 26 1) ∧ X.get b2 = some (.cells [VI p] 3 1) ∧ Own 3 X q (b.map VI) e ∧ b ≠ []
theorem BS.keepX {b1 b2 e q : Nat} {X X' : Heap} {acc : Option (List Int × Int)} (h : BS b1 b2 e X acc) (k : KeepX q X X') (h1 : b1 < X.n) (h2 : b2 < X.n) (n1 : b1 ≠ q) (n2 : b2 ≠ q) (hq : q < e) : BS b1 b2 e X' acc := by
  cases acc with
  | none => exact ⟨(k.2 b1 h1 n1).trans h.1, (k.2 b2 h2 n2).trans h.2⟩
  | some a =>
    obtain ⟨b, p⟩ := a
    obtain ⟨v, a1, a2, a3, a4⟩ := h
    exact ⟨v, (k.2 b1 h1 n1).trans a1, (k.2 b2 h2 n2).trans a2, own_keepN a3 k (fun hh => by have := (a3.lt hh).1; omega), a4⟩
theorem own_shape {H : Heap} {v : Value} {b : List Int} {B : Nat} (h : Own 3 H v (b.map VI) B) (hb : b ≠ []) : ∃ a n c, v = .slice (some a) n c := by
  rcases h with ⟨_, h⟩ | ⟨q, h, _⟩
  · exact absurd (by simpa using h) hb
  · exact ⟨_, _, _, h⟩
set_option maxHeartbeats 16000000 in
set_option maxRecDepth 100000 in
theorem best_spec {B : Nat} {H : Heap} {gv rv : Value} {gs : List Gu} {rs : List Ru} (hB : B ≤ H.n) (hg : RowS 5 H gv (gs.map Gul)) (hgs : sameFix gv gv = true) (hr : RowS 4 H rv (rs.map Rul)) (hp : PaOk gs rs) :
    CallB Try.prog B 31 [Pav gv rv] H (fun v H' => (∃ q p c, v = .tuple #[q, VI p, VI c] ∧ (bestF gs rs (okL gs rs) = none ∧ q = nilS ∧ p = 0 ∧ c = 12 ∨ ∃ b, bestF gs rs (okL gs rs) = some (b, p) ∧ c = 0 ∧ Own 3 H' q (b.map VI) H.n)) ∧ Keep H H') := by
  have hm := hp.m
  refine CV.enter callees false rfl Try.func31 rfl (by kernel_rfl) (Nat.le_of_ble_eq_true rfl) hB ?_
  repeat' first
    | refine CO.cons rfl ?_
    | refine CV.seq ?_
    | refine CV.region callees ?_
    | fail
  refine ⟨(by simp only [notTuple]), ?_⟩
  rw [boxP hg.cells.1 hr.cells.1]
  generalize hs0 : Heap.new H _ = H0
  have hg0 := new_get hs0
  have k0 := new_keep hs0
  have n0 := new_n hs0
  obtain ⟨b0, hbn0⟩ : ∃ b, Heap.n H = b := ⟨_, rfl⟩
  rw [hbn0] at hg0 n0 ⊢
  repeat' first
    | refine CO.cons rfl ?_
    | (refine ⟨_, _, al26, ?_⟩)
    | fail
  generalize hs1 : Heap.new H0 _ = H1
  have hg1 := new_get hs1
  have k1 := new_keep hs1
  have n1 := new_n hs1
  obtain ⟨b1, hbn1⟩ : ∃ b, Heap.n H0 = b := ⟨_, rfl⟩
  rw [hbn1] at hg1 n1 ⊢
  repeat' first
    | refine CO.cons rfl ?_
    | refine CO.nil ?_
    | refine CV.seq ?_
    | refine CV.region callees ?_
    | (refine ⟨_, _, al3, ?_⟩)
    | fail
  generalize hs2 : Heap.new H1 _ = H2
  have hg2 := new_get hs2
  have k2 := new_keep hs2
  have n2 := new_n hs2
  obtain ⟨b2, hbn2⟩ : ∃ b, Heap.n H1 = b := ⟨_, rfl⟩
  rw [hbn2] at hg2 n2 ⊢
  have k02 := (k0.trans k1).trans k2
  have hP2 := (k2.2 b0 (by omega)).trans ((k1.2 b0 (by omega)).trans hg0)
  have hb12 := (k2.2 b1 (by omega)).trans hg1
  repeat' first
    | refine CO.cons rfl ?_
    | (refine ⟨_, ld25 hP2, ?_⟩)
    | fail
  refine (check_spec (by omega) (hg.keep k02) (hr.keep k02) hp).mono ?_
  rintro v H3 ⟨rfl, k3⟩
  have l3 := k3.1
  have k03 := k02.trans k3
  have hP3 := (k3.2 b0 (by omega)).trans hP2
  repeat' first
    | refine CO.cons rfl ?_
    | refine CO.nil ?_
    | refine CV.seq ?_
    | refine CV.region callees ?_
    | refine CV.cond ?_
    | refine CV.skip ?_
    | (refine ⟨_, ld25 hP3, ?_⟩)
    | (refine ⟨fun _ => ?_, fun _ => ?_⟩ <;> first | (exfalso; omega) | skip)
    | fail
  refine (allowed_spec (by omega) hg.cells.1 hr.cells.1).mono ?_
  rintro v H4 ⟨⟨pp, rfl, hpp, hp1, hp2⟩, k4⟩
  have l4 := k4.1
  repeat' first
    | refine CO.nil ?_
    | refine CV.block ?_
    | fail
  refine CV.rangeFunc callees ?_
  refine fun tm ha => ?_
  generalize hs5 : Heap.new H4 _ = H5
  have hg5 := new_get hs5
  have k5 := new_keep hs5
  have n5 := new_n hs5
  obtain ⟨l, hl⟩ : ∃ l, H4.n = l := ⟨_, rfl⟩
  rw [hl] at hg5 n5 ⊢
  have k25 : Keep H2 H5 := (k3.trans k4).trans k5
  have k05 : Keep H H5 := (k03.trans k4).trans k5
  have l05 := k05.1
  have hpp5 := (k5.2 pp (by omega)).trans hpp
  have hP5 := (k25.2 b0 (by omega)).trans hP2
  have hB5 : ∀ e, BS b1 b2 e H5 none := fun e => ⟨(k25.2 b1 (by omega)).trans hb12, (k25.2 b2 (by omega)).trans hg2⟩
  have hw : ∀ i, i < rs.length → 0 ≤ rs[i]!.wt ∧ rs[i]!.wt ≤ 1000 := fun i hi => ⟨(hp.rk i hi).w, (hp.rk i hi).w'⟩
  refine (allowed1_spec (B := B) (l := l) (pp := pp) (gv := gv) (rv := rv)
    (fun e F X => X.get l = H5.get l ∧ BS b1 b2 e X (bestF gs rs F) ∧ X.get pp = H5.get pp ∧ Keep H X ∧ H5.n ≤ X.n ∧ X.get b0 = some (.cells (Pal gv rv) 25 1))
    (by omega) hp hgs hpp5 (by omega) (hg.keep k05) (hr.keep k05) ?_ ?_ ?_ ?_).mono ?_
  · intro e X kk h1 h2
    exact ⟨kk.2 l (by omega), ⟨(kk.2 b1 (by omega)).trans (hB5 0).1, (kk.2 b2 (by omega)).trans (hB5 0).2⟩, kk.2 pp (by omega), k05.trans kk, kk.1, (kk.2 b0 (by omega)).trans hP5⟩
  · rintro e F X ⟨q1, q2, q3, q4, q5, q6⟩
    exact ⟨q3, hg.keep q4, hr.keep q4⟩
  · rintro e F X X' q ⟨q1, q2, q3, q4, q5, q6⟩ h1 h2 kk
    exact ⟨(kk.2 l (by omega) (by omega)).trans q1, q2.keepX kk (by omega) (by omega) (by omega) (by omega) h2, (kk.2 pp (by omega) (by omega)).trans q3, kk.keep q4 (by omega), by have := kk.1; omega, (kk.2 b0 (by omega) (by omega)).trans q6⟩
  · rintro e F o ov X ⟨q1, q2, q3, q4, q5, q6⟩ hok ho1 ho2 hpre hov hBX h1 h2
    have hone : o ≠ [] := fun h => by
      have := hp.n1
      rw [h] at ho2
      simp at ho2
      omega
    refine RoundB.enter callees false (q1.trans hg5) ha rfl hBX (by omega) ?_
    repeat' first
      | refine CO.cons rfl ?_
      | refine CO.nil ?_
      | refine CV.seq ?_
      | refine CV.region callees ?_
      | fail
    refine ⟨_, _, _, _, _, q1.trans hg5, ?_⟩
    generalize hs6 : X.set l _ = X1
    have hg6 := set_get hs6
    have n6 := set_n hs6
    have o6 := set_old hs6
    have kx1 : KeepX l X X1 := ⟨by omega, fun q _ hq => o6 q hq⟩
    have kk1 := kx1.keep q4 (by omega)
    have hP6 := (o6 b0 (by omega)).trans q6
    repeat' first
      | refine CO.cons rfl ?_
      | refine CV.seq ?_
      | refine CV.region callees ?_
      | refine CV.block ?_
      | (refine ⟨_, ld25 hP6, ?_⟩)
      | fail
    refine (priceOf_spec (by omega) (hg.keep kk1) (hr.keep kk1) hm (brkO_lt hm) hw).mono ?_
    rintro v X2 ⟨rfl, k7⟩
    have l7 := k7.1
    have hS7 : BS b1 b2 e X2 (bestF gs rs F) := (q2.keepX kx1 (by omega) (by omega) (by omega) (by omega) (by omega)).keepX (k7.butX l) (by omega) (by omega) (by omega) (by omega) (by omega)
    have hg7 := (k7.2 l (by omega)).trans hg6
    have hov7 : Ints X2 ov o := by
      have h3 : Ints X1 ov o := by
        rcases hov with hh | hh | ⟨b', i', c', cs', e', k', a1, a2, a3, a4, a5, a6⟩
        · exact .inl hh
        · exact .inr (.inl hh)
        · exact .inr (.inr ⟨b', i', c', cs', e', k', a1, by omega, by rw [o6 b' (fun hh => by rw [hh, q1.trans hg5] at a3; cases a3)]; exact a3, a4, a5, a6⟩)
      exact h3.keep k7
    have hprO : priceN (brkO gs rs o) rs = prO gs rs o := rfl
    rw [hprO]
    have hol : o.length < 1000000 := by have := hp.n7; omega
    have hold2 : ∀ q, q < X.n → q ≠ l → X2.get q = X.get q := fun q h3 h4 => (k7.2 q (by omega)).trans (o6 q h4)
    have hsn : bestF gs rs (F ++ [o]) = bstep gs rs (bestF gs rs F) o := bestF_snoc
    cases hacc : bestF gs rs F with
    | none =>
      rw [hacc] at hS7 hsn
      have hb1 : X2.get b1 = some (.cells [nilS] 26 1) := hS7.1
      have hb2 : X2.get b2 = some (.cells [VI 0] 3 1) := hS7.2
      have hsn2 : bestF gs rs (F ++ [o]) = some (o, prO gs rs o) := hsn
      repeat' first
        | refine CO.cons rfl ?_
        | refine CO.nil ?_
        | refine CV.seq ?_
        | refine CV.region callees ?_
        | refine CV.cond ?_
        | refine CO.consG rfl ?_
        | (refine ⟨_, cell_load ag22 hb1 rfl, ?_⟩)
        | (refine ⟨_, fun tm ha => step1_nilnil un22 rfl (ev_tmp ha rfl) rfl, ?_⟩)
        | fail
      refine (clone_spec (by omega) hov7 hol).mono ?_
      rintro r X3 ⟨hr3, k8⟩
      have l8 := k8.1
      have hb13 := (k8.2 b1 (by omega)).trans hb1
      have hb23 := (k8.2 b2 (by omega)).trans hb2
      repeat' first
        | refine CO.cons rfl ?_
        | fail
      refine ⟨_, _, var_store sz26 hb13 (own_oneC hr3), by omega, ?_⟩
      generalize hs9 : Heap.set X3 b1 _ = X4
      have hg9 := set_get hs9
      have n9 := set_n hs9
      have o9 := set_old hs9
      have hb24 := (o9 b2 (by omega)).trans hb23
      repeat' first
        | refine CO.cons rfl ?_
        | fail
      refine ⟨_, _, var_store sz3 hb24 rfl, by omega, ?_⟩
      generalize hs10 : Heap.set X4 b2 _ = X5
      have hg10 := set_get hs10
      have n10 := set_n hs10
      have o10 := set_old hs10
      repeat' first
        | refine CO.nil ?_
        | fail
      have hold5 : ∀ q, q < X.n → q ≠ l → q ≠ b1 → q ≠ b2 → X5.get q = X.get q := fun q h3 h4 h5 h6 => (o10 q h6).trans ((o9 q h5).trans ((k8.2 q (by omega)).trans (hold2 q h3 h4)))
      have hr5 : Own 3 X5 r (o.map VI) e := Own.lower (own_keepF hr3 (by omega) (fun c hc => by have := (hr3.lt hc).1; exact (o10 c (by omega)).trans (o9 c (by omega)))) (by omega)
      have hS : BS b1 b2 e X5 (some (o, prO gs rs o)) := ⟨_, (o10 b1 (by omega)).trans hg9, hg10, hr5, hone⟩
      have hg75 : X5.get l = _ := (o10 l (by omega)).trans ((o9 l (by omega)).trans ((k8.2 l (by omega)).trans hg7))
      refine ⟨_, _, _, _, _, _, _, hg75, rfl, ⟨rfl, ⟨?_, ?_, ?_, ?_, ?_, ?_⟩, ?_, ?_⟩⟩
      · rw [Heap.get_set_eq]; exact hg5.symm
      · rw [hsn2]; exact hS.keepX (KeepX.set _ _) (by omega) (by omega) (by omega) (by omega) (by omega)
      · rw [Heap.get_set_ne _ _ (by omega)]; exact (hold5 pp (by omega) (by omega) (by omega) (by omega)).trans q3
      · exact ⟨by show H.n ≤ X5.n; omega, fun q hq => by rw [Heap.get_set_ne _ _ (by omega)]; exact (hold5 q (by omega) (by omega) (by omega) (by omega)).trans (q4.2 q hq)⟩
      · show H5.n ≤ X5.n; omega
      · rw [Heap.get_set_ne _ _ (by omega)]; exact (hold5 b0 (by omega) (by omega) (by omega) (by omega)).trans q6
      · intro q h3 h4
        rw [Heap.get_set_ne _ _ (by omega)]; exact hold5 q (by omega) (by omega) (by omega) (by omega)
      · show X.n ≤ X5.n; omega
    | some ac =>
      obtain ⟨b, p⟩ := ac
      rw [hacc] at hS7 hsn
      obtain ⟨q, hb1, hb2, hq, hbn⟩ := hS7
      obtain ⟨qa, qn, qc, rfl⟩ := own_shape hq hbn
      by_cases hlt : prO gs rs o < p
      · have hsn2 : bestF gs rs (F ++ [o]) = some (o, prO gs rs o) := by rw [hsn]; simp only [bstep, if_pos hlt]
        repeat' first
          | refine CO.cons rfl ?_
          | refine CO.nil ?_
          | refine CV.seq ?_
          | refine CV.region callees ?_
          | refine CV.cond ?_
          | refine CO.consG rfl ?_
          | (refine ⟨_, cell_load ag22 hb1 rfl, ?_⟩)
          | (refine ⟨_, cell_load ag3 hb2 rfl, ?_⟩)
          | (refine ⟨_, fun tm ha => step1_nil rfl (ev_tmp ha rfl) rfl rfl (by simp [anil, un22]; rfl), ?_⟩)
          | (refine ⟨fun _ => ?_, fun _ => ?_⟩ <;> first | (exfalso; omega) | skip)
          | fail
        refine (clone_spec (by omega) hov7 hol).mono ?_
        rintro r X3 ⟨hr3, k8⟩
        have l8 := k8.1
        have hb13 := (k8.2 b1 (by omega)).trans hb1
        have hb23 := (k8.2 b2 (by omega)).trans hb2
        repeat' first
          | refine CO.cons rfl ?_
          | fail
        refine ⟨_, _, var_store sz26 hb13 (own_oneC hr3), by omega, ?_⟩
        generalize hs9 : Heap.set X3 b1 _ = X4
        have hg9 := set_get hs9
        have n9 := set_n hs9
        have o9 := set_old hs9
        have hb24 := (o9 b2 (by omega)).trans hb23
        repeat' first
          | refine CO.cons rfl ?_
          | fail
        refine ⟨_, _, var_store sz3 hb24 rfl, by omega, ?_⟩
        generalize hs10 : Heap.set X4 b2 _ = X5
        have hg10 := set_get hs10
        have n10 := set_n hs10
        have o10 := set_old hs10
        repeat' first
          | refine CO.nil ?_
          | fail
        have hold5 : ∀ q, q < X.n → q ≠ l → q ≠ b1 → q ≠ b2 → X5.get q = X.get q := fun q h3 h4 h5 h6 => (o10 q h6).trans ((o9 q h5).trans ((k8.2 q (by omega)).trans (hold2 q h3 h4)))
        have hr5 : Own 3 X5 r (o.map VI) e := Own.lower (own_keepF hr3 (by omega) (fun c hc => by have := (hr3.lt hc).1; exact (o10 c (by omega)).trans (o9 c (by omega)))) (by omega)
        have hS : BS b1 b2 e X5 (some (o, prO gs rs o)) := ⟨_, (o10 b1 (by omega)).trans hg9, hg10, hr5, hone⟩
        have hg75 : X5.get l = _ := (o10 l (by omega)).trans ((o9 l (by omega)).trans ((k8.2 l (by omega)).trans hg7))
        refine ⟨_, _, _, _, _, _, _, hg75, rfl, ⟨rfl, ⟨?_, ?_, ?_, ?_, ?_, ?_⟩, ?_, ?_⟩⟩
        · rw [Heap.get_set_eq]; exact hg5.symm
        · rw [hsn2]; exact hS.keepX (KeepX.set _ _) (by omega) (by omega) (by omega) (by omega) (by omega)
        · rw [Heap.get_set_ne _ _ (by omega)]; exact (hold5 pp (by omega) (by omega) (by omega) (by omega)).trans q3
        · exact ⟨by show H.n ≤ X5.n; omega, fun q hq => by rw [Heap.get_set_ne _ _ (by omega)]; exact (hold5 q (by omega) (by omega) (by omega) (by omega)).trans (q4.2 q hq)⟩
        · show H5.n ≤ X5.n; omega
        · rw [Heap.get_set_ne _ _ (by omega)]; exact (hold5 b0 (by omega) (by omega) (by omega) (by omega)).trans q6
        · intro q h3 h4
          rw [Heap.get_set_ne _ _ (by omega)]; exact hold5 q (by omega) (by omega) (by omega) (by omega)
        · show X.n ≤ X5.n; omega
      · have hsn2 : bestF gs rs (F ++ [o]) = some (b, p) := by rw [hsn]; simp only [bstep, if_neg hlt]
        repeat' first
          | refine CO.cons rfl ?_
          | refine CO.nil ?_
          | refine CV.seq ?_
          | refine CV.region callees ?_
          | refine CV.cond ?_
          | refine CV.skip ?_
          | refine CO.consG rfl ?_
          | (refine ⟨_, cell_load ag22 hb1 rfl, ?_⟩)
          | (refine ⟨_, cell_load ag3 hb2 rfl, ?_⟩)
          | (refine ⟨_, fun tm ha => step1_nil rfl (ev_tmp ha rfl) rfl rfl (by simp [anil, un22]; rfl), ?_⟩)
          | (refine ⟨fun _ => ?_, fun _ => ?_⟩ <;> first | (exfalso; omega) | skip)
          | fail
        have hS : BS b1 b2 e X2 (some (b, p)) := ⟨_, hb1, hb2, hq, hbn⟩
        refine ⟨_, _, _, _, _, _, _, hg7, rfl, ⟨rfl, ⟨?_, ?_, ?_, ?_, ?_, ?_⟩, ?_, ?_⟩⟩
        · rw [Heap.get_set_eq]; exact hg5.symm
        · rw [hsn2]; exact hS.keepX (KeepX.set _ _) (by omega) (by omega) (by omega) (by omega) (by omega)
        · rw [Heap.get_set_ne _ _ (by omega)]; exact (hold2 pp (by omega) (by omega)).trans q3
        · exact ⟨by show H.n ≤ X2.n; omega, fun q hq => by rw [Heap.get_set_ne _ _ (by omega)]; exact (hold2 q (by omega) (by omega)).trans (q4.2 q hq)⟩
        · show H5.n ≤ X2.n; omega
        · rw [Heap.get_set_ne _ _ (by omega)]; exact (hold2 b0 (by omega) (by omega)).trans q6
        · intro q h3 h4
          rw [Heap.get_set_ne _ _ (by omega)]; exact hold2 q (by omega) (by omega)
        · show X.n ≤ X2.n; omega
  rintro _ HZ ⟨e, h1, h2, q1, q2, q3, q4, q5, q6⟩
  refine ⟨_, _, _, _, _, _, _, q1.trans hg5, rfl, rfl, ?_⟩
  generalize hsZ : HZ.set l _ = HY
  have nZ := set_n hsZ
  have oZ := set_old hsZ
  have kZ : KeepX l HZ HY := ⟨by omega, fun q _ hq => oZ q hq⟩
  have hSZ := q2.keepX kZ (by omega) (by omega) (by omega) (by omega) (by omega)
  have kHY : Keep H HY := kZ.keep q4 (by omega)
  cases hacc : bestF gs rs (okL gs rs) with
  | none =>
    rw [hacc] at hSZ
    have hb1 : HY.get b1 = some (.cells [nilS] 26 1) := hSZ.1
    have hb2 : HY.get b2 = some (.cells [VI 0] 3 1) := hSZ.2
    repeat' first
      | refine CO.cons rfl ?_
      | refine CO.nil ?_
      | refine CV.seq ?_
      | refine CV.region callees ?_
      | refine CV.cond ?_
      | (refine ⟨_, cell_load ag22 hb1 rfl, ?_⟩)
      | (refine ⟨_, fun tm ha => step1_nilnil un22 rfl (ev_tmp ha rfl) rfl, ?_⟩)
      | fail
    refine ⟨_, _, var_store sz26 hb1 rfl, by omega, ?_⟩
    generalize hsx : Heap.set HY b1 _ = Hx
    have hgx : Hx.get b1 = some (.cells ([nilS]) 26 1) := set_get hsx
    have nx := set_n hsx
    have ox := set_old hsx
    have hb2x := (ox b2 (by omega)).trans hb2
    repeat' first
      | refine CO.cons rfl ?_
      | fail
    refine ⟨_, _, var_store sz3 hb2x rfl, by omega, ?_⟩
    generalize hsy : Heap.set Hx b2 _ = Hy
    have hgy : Hy.get b2 = some (.cells ([VI 0]) 3 1) := set_get hsy
    have ny := set_n hsy
    have oy := set_old hsy
    have hb1y := (oy b1 (by omega)).trans hgx
    repeat' first
      | refine CO.cons rfl ?_
      | refine CO.nil ?_
      | refine CV.ret ?_
      | (refine ⟨_, cell_load ag22 hb1y rfl, ?_⟩)
      | (refine ⟨_, cell_load ag3 hgy rfl, ?_⟩)
      | fail
    exact ⟨rfl, ⟨_, _, _, rfl, .inl ⟨rfl, rfl, rfl, rfl⟩⟩, keep_put (keep_put kHY (by omega) ox nx) (by omega) oy ny⟩
  | some ac =>
    obtain ⟨b, p⟩ := ac
    rw [hacc] at hSZ
    obtain ⟨q, hb1, hb2, hq, hbn⟩ := hSZ
    obtain ⟨qa, qn, qc, rfl⟩ := own_shape hq hbn
    repeat' first
      | refine CO.cons rfl ?_
      | refine CO.nil ?_
      | refine CV.seq ?_
      | refine CV.region callees ?_
      | refine CV.cond ?_
      | refine CV.skip ?_
      | (refine ⟨_, cell_load ag22 hb1 rfl, ?_⟩)
      | (refine ⟨_, fun tm ha => step1_nil rfl (ev_tmp ha rfl) rfl rfl (by simp [anil, un22]; rfl), ?_⟩)
      | fail
    refine CV.wideR callees (by decide +kernel) [(0, []), (1, []), (2, [1]), (3, []), (4, [])] (by kernel_rfl) ?_
    repeat' first
      | refine CR.cons ?_
      | (refine ⟨_, cell_load ag22 hb1 rfl, ?_⟩)
      | (refine ⟨_, cell_load ag3 hb2 rfl, ?_⟩)
      | (refine ⟨(show b2 ≠ b1 by omega), ?_⟩)
      | fail
    refine ⟨_, _, var_store sz26 hb1 rfl, by omega, ?_⟩
    generalize hsx : Heap.set HY b1 _ = Hx
    have hgx : Hx.get b1 = some (.cells ([.slice (some qa) qn qc]) 26 1) := set_get hsx
    have nx := set_n hsx
    have ox := set_old hsx
    have hb2x := (ox b2 (by omega)).trans hb2
    repeat' first
      | refine CR.cons ?_
      | fail
    refine ⟨_, _, var_store sz3 hb2x rfl, by omega, ?_⟩
    generalize hsy : Heap.set Hx b2 _ = Hy
    have hgy : Hy.get b2 = some (.cells ([VI p]) 3 1) := set_get hsy
    have ny := set_n hsy
    have oy := set_old hsy
    have hb1y := (oy b1 (by omega)).trans hgx
    repeat' first
      | refine CV.ret ?_
      | refine CR.cons ?_
      | refine CR.nil ?_
      | (refine ⟨_, cell_load ag22 hb1y rfl, ?_⟩)
      | (refine ⟨_, cell_load ag3 hgy rfl, ?_⟩)
      | fail
    have hqy : Own 3 Hy (.slice (some qa) qn qc) (b.map VI) e := own_keepF hq (by omega) (fun c hc => by have := (hq.lt hc).1; exact (oy c (by omega)).trans (ox c (by omega)))
    exact ⟨rfl, ⟨_, _, _, rfl, .inr ⟨b, rfl, rfl, Own.lower hqy (by omega)⟩⟩, keep_put (keep_put kHY (by omega) ox nx) (by omega) oy ny⟩
end Go.Proofs.Ytlamceokhbigaaa

