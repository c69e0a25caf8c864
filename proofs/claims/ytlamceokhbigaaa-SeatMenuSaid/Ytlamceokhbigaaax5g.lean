
/- The best menu. -/
import Derived.Test.Ytlamceokhbigaaax4g
import Derived.Test.YtlamceokhbigaaaTdg
set_option linter.unusedVariables false
set_option linter.unusedSimpArgs false
namespace Go.Proofs.Ytlamceokhbigaaa
open Go.AI
theorem sum_pick {ds : List Di} {m : List Int} : sumI ((pickD ds m).map (·.co)) = costM ds m := by
  unfold pickD costM
  rw [List.map_map]
  rfl
theorem en_pick {gs : List Gu} {ds : List Di} {need : Int} {m : List Int} : enD gs (pickD ds m) need = enM gs ds need m := by
  unfold enD enM
  congr 1
  funext g
  rw [cntD_pick]
theorem pick_ok {ds : List Di} {m : List Int} (hok : ∀ i, i < ds.length → DiOk ds[i]!) (h : ∀ x ∈ m, 0 ≤ x ∧ x < ds.length) : ∀ i, i < (pickD ds m).length → DiOk (pickD ds m)[i]! := by
  intro i hi
  have hi' : i < m.length := by unfold pickD at hi; rwa [List.length_map] at hi
  have e : (pickD ds m)[i]! = ds[m[i]!.toNat]! := by
    unfold pickD
    rw [getElem!_pos (m.map fun x => ds[x.toNat]!) i (by rw [List.length_map]; exact hi'), List.getElem_map, getElem!_pos m i hi']
  rw [e]
  have := h m[i]! (by rw [getElem!_pos m i hi']; exact List.getElem_mem _)
  exact hok _ (by omega)
set_option maxHeartbeats 16000000 in
set_option maxRecDepth 100000 in
theorem menu_spec {B : Nat} {H : Heap} {gv dv : Value} {gs : List Gu} {ds : List Di} {turns : Nat} {need : Int} (hB : B ≤ H.n) (hg : RowS 5 H gv (gs.map Gul)) (hd : RowS 3 H dv (ds.map Dil)) (hl : gs.length ≤ 10) (h : GsOk gs) (hdl : ds.length ≤ 16) (hok : ∀ i, i < ds.length → DiOk ds[i]!) (t1 : 1 ≤ turns) (t4 : turns ≤ 4) (hn0 : 0 ≤ need) (hn : need ≤ turns) :
    CallB Try.prog B 48 [gv, dv, VI turns, VI need] H (fun v H' => (∃ q p c, v = .tuple #[q, VI p, VI c] ∧ (menF gs ds need (menusL ds turns) = none ∧ q = nilS ∧ p = 0 ∧ c = 7 ∨ ∃ b, menF gs ds need (menusL ds turns) = some (b, p) ∧ c = 0 ∧ Own 3 H' q (b.map VI) H.n)) ∧ Keep H H') := by
  have hgk : ∀ i, i < gs.length → RaOk gs[i]! := fun i hi => ra_gu (h.ok i hi)
  refine CV.enter callees false rfl Try.func48 rfl (by kernel_rfl) (Nat.le_of_ble_eq_true rfl) hB ?_
  repeat' first
    | refine CO.cons rfl ?_
    | refine CV.seq ?_
    | refine CV.region callees ?_
    | fail
  refine ⟨hg.cells.2.2, ?_⟩
  rw [hg.cells.1, show anew H [gv] 22 1 = H.new (.cells [gv] 22 1) from rfl]
  obtain ⟨b0, hb0⟩ : ∃ b, H.n = b := ⟨_, rfl⟩
  generalize hs0 : Heap.new H _ = H0
  have hg0 := new_get hs0
  have k0 := new_keep hs0
  have n0 := new_n hs0
  rw [hb0] at hg0 n0 ⊢
  repeat' first
    | refine CO.cons rfl ?_
    | fail
  refine ⟨hd.cells.2.2, ?_⟩
  rw [hd.cells.1, show anew H0 [dv] dS 1 = H0.new (.cells [dv] dS 1) from rfl]
  obtain ⟨bd, hbd⟩ : ∃ b, H0.n = b := ⟨_, rfl⟩
  generalize hs1 : Heap.new H0 _ = H1
  have hg1 := new_get hs1
  have k1 := new_keep hs1
  have n1 := new_n hs1
  rw [hbd] at hg1 n1 ⊢
  repeat' first
    | refine CO.cons rfl ?_
    | fail
  refine ⟨(by rfl), ?_⟩
  obtain ⟨bn, hbn⟩ : ∃ b, H1.n = b := ⟨_, rfl⟩
  generalize hs2' : anew H1 _ _ _ = H2
  have hs2 : H1.new (.cells [VI need] 3 1) = H2 := hs2'
  have hg2 := new_get hs2
  have k2 := new_keep hs2
  have n2 := new_n hs2
  rw [hbn] at hg2 n2 ⊢
  repeat' first
    | refine CO.cons rfl ?_
    | (refine ⟨_, _, al26, ?_⟩)
    | fail
  obtain ⟨b1, hb1e⟩ : ∃ b, H2.n = b := ⟨_, rfl⟩
  generalize hs3 : Heap.new H2 _ = H3
  have hg3 := new_get hs3
  have k3 := new_keep hs3
  have n3 := new_n hs3
  rw [hb1e] at hg3 n3 ⊢
  repeat' first
    | refine CO.cons rfl ?_
    | refine CO.nil ?_
    | refine CV.seq ?_
    | refine CV.region callees ?_
    | (refine ⟨_, _, al3, ?_⟩)
    | fail
  obtain ⟨b2, hb2e⟩ : ∃ b, H3.n = b := ⟨_, rfl⟩
  generalize hs4 : Heap.new H3 _ = H4
  have hg4 := new_get hs4
  have k4 := new_keep hs4
  have n4 := new_n hs4
  rw [hb2e] at hg4 n4 ⊢
  have k04 := (((k0.trans k1).trans k2).trans k3).trans k4
  have hG4 := (k4.2 b0 (by omega)).trans ((k3.2 b0 (by omega)).trans ((k2.2 b0 (by omega)).trans ((k1.2 b0 (by omega)).trans hg0)))
  have hD4 := (k4.2 bd (by omega)).trans ((k3.2 bd (by omega)).trans ((k2.2 bd (by omega)).trans hg1))
  have hN4 := (k4.2 bn (by omega)).trans ((k3.2 bn (by omega)).trans hg2)
  have hb14 := (k4.2 b1 (by omega)).trans hg3
  repeat' first
    | refine CO.cons rfl ?_
    | (refine ⟨_, cell_load ag22g hG4 rfl, ?_⟩)
    | (refine ⟨_, cell_load agDS hD4 rfl, ?_⟩)
    | fail
  refine (checkDishes_spec (by omega) (hg.keep k04) (hd.keep k04) hl h hdl hok).mono ?_
  rintro v H5 ⟨rfl, k5⟩
  have l5 := k5.1
  repeat' first
    | refine CO.cons rfl ?_
    | refine CO.nil ?_
    | refine CV.seq ?_
    | refine CV.region callees ?_
    | refine CV.cond ?_
    | refine CV.skip ?_
    | (refine ⟨fun _ => ?_, fun _ => ?_⟩ <;> first | (exfalso; omega) | skip)
    | fail
  refine (isWithin_yes (by omega) ⟨by omega, by omega⟩).mono ?_
  rintro r H6 ⟨rfl, rfl⟩
  have hN5 := (k5.2 bn (by omega)).trans hN4
  have hD5 := (k5.2 bd (by omega)).trans hD4
  repeat' first
    | refine CO.cons rfl ?_
    | refine CO.consG rfl ?_
    | (refine ⟨_, cell_load ag3 hN5 rfl, ?_⟩)
    | fail
  refine (isWithin_yes (by omega) ⟨by omega, by omega⟩).mono ?_
  rintro r H6 ⟨rfl, rfl⟩
  have hd5 := hd.keep (k04.trans k5)
  repeat' first
    | refine CO.cons rfl ?_
    | refine CO.nil ?_
    | refine CV.seq ?_
    | refine CV.region callees ?_
    | refine CV.cond ?_
    | refine CV.skip ?_
    | refine CO.consG rfl ?_
    | (refine ⟨_, cell_load agDS hD5 rfl, ?_⟩)
    | fail
  refine (menus_spec (by omega) hd5).mono ?_
  rintro v HA ⟨⟨c, d, rfl, hC, hd1, hdc, hc2⟩, kA⟩
  have lA := kA.1
  repeat' first
    | refine CO.nil ?_
    | refine CV.block ?_
    | fail
  refine CV.rangeFunc callees ?_
  refine fun tm ha => ?_
  generalize hsR : Heap.new HA _ = HR
  have hg5 := new_get hsR
  have kB := new_keep hsR
  have n5 := new_n hsR
  obtain ⟨l, hlE⟩ : ∃ l, HA.n = l := ⟨_, rfl⟩
  rw [hlE] at hg5 n5 ⊢
  have kAB := kA.trans kB
  have k0R : Keep H HR := (k04.trans k5).trans kAB
  have l0R := k0R.1
  have hb1R := (kAB.2 b1 (by omega)).trans ((k5.2 b1 (by omega)).trans hb14)
  have hb2R := (kAB.2 b2 (by omega)).trans ((k5.2 b2 (by omega)).trans hg4)
  have hGR := (kAB.2 b0 (by omega)).trans ((k5.2 b0 (by omega)).trans hG4)
  have hDR := (kAB.2 bd (by omega)).trans hD5
  have hNR := (kAB.2 bn (by omega)).trans hN5
  have hBR : ∀ e, BS b1 b2 e HR none := fun e => ⟨hb1R, hb2R⟩
  have hCR : CapsM c turns d dv ds HR := ⟨(kB.2 _ (by omega)).trans hC.a, (kB.2 _ (by omega)).trans hC.b, (kB.2 _ (by omega)).trans hC.f, (kB.2 _ (by omega)).trans hC.d, hd.keep k0R⟩
  obtain ⟨e, he⟩ : ∃ e, HR.n + 4 = e := ⟨_, rfl⟩
  have hml : menusL ds turns = growM ds turns [] := rfl
  refine (listsM_spec (B := B) (c := c) (l := l) (n := turns) (d := d)
    (fun S X => X.get l = HR.get l ∧ BS b1 b2 e X (menF gs ds need S) ∧ CapsM c turns d dv ds X ∧ Keep H X ∧ e ≤ X.n ∧ X.get b0 = some (.cells [gv] 22 1) ∧ X.get bd = some (.cells [dv] dS 1) ∧ X.get bn = some (.cells [VI need] 3 1))
    (by omega) t4 hdl (by omega) hCR ?_ ?_ ?_ ?_).mono ?_
  · rintro S X ⟨_, _, q3, _⟩
    exact q3
  · intro X kk hX
    exact ⟨kk.2 l (by omega), ⟨(kk.2 b1 (by omega)).trans (hBR 0).1, (kk.2 b2 (by omega)).trans (hBR 0).2⟩, ⟨(kk.2 _ (by omega)).trans hCR.a, (kk.2 _ (by omega)).trans hCR.b, (kk.2 _ (by omega)).trans hCR.f, (kk.2 _ (by omega)).trans hCR.d, hCR.r.keep kk⟩, k0R.trans kk, by omega, (kk.2 _ (by omega)).trans hGR, (kk.2 _ (by omega)).trans hDR, (kk.2 _ (by omega)).trans hNR⟩
  · rintro S X X' ⟨q1, q2, q3, q4, q5, q6, q7, q8⟩ hX kk
    have lk := kk.1
    exact ⟨(kk.2 l (by omega) (by omega)).trans q1, q2.keepX kk (by omega) (by omega) (by omega) (by omega) (by omega), ⟨(kk.2 _ (by omega) (by omega)).trans q3.a, (kk.2 _ (by omega) (by omega)).trans q3.b, (kk.2 _ (by omega) (by omega)).trans q3.f, (kk.2 _ (by omega) (by omega)).trans q3.d, hd.keep (kk.keep q4 (by omega))⟩, kk.keep q4 (by omega), by omega, (kk.2 _ (by omega) (by omega)).trans q6, (kk.2 _ (by omega) (by omega)).trans q7, (kk.2 _ (by omega) (by omega)).trans q8⟩
  · rintro S o X hpre ⟨q1, q2, q3, q4, q5, q6, q7, q8⟩ hM hBX hX
    have hmem : o ∈ menusL ds turns := by rw [hml]; exact hpre.subset (by simp)
    obtain ⟨holen, hfit⟩ := mem_menus.1 hmem
    have hob : ∀ x ∈ o, 0 ≤ x ∧ x < ds.length := fun x hx => by
      obtain ⟨j, hj, ej⟩ := List.getElem_of_mem hx
      have := hfit j (Nat.zero_le _) hj
      rw [getElem!_pos o j hj, ej] at this
      exact ⟨this.1, this.2.1⟩
    have hone : o ≠ [] := fun h => by rw [h] at holen; simp at holen; omega
    have hol : o.length < 1000000 := by omega
    have hpl : (pickD ds o).length ≤ 100 := by unfold pickD; rw [List.length_map]; omega
    have lq4 := q4.1
    refine RoundB.enter callees false (q1.trans hg5) ha rfl hBX (by omega) ?_
    repeat' first
      | refine CO.cons rfl ?_
      | refine CO.nil ?_
      | refine CV.region callees ?_
      | fail
    refine ⟨_, _, _, _, _, q1.trans hg5, ?_⟩
    generalize hs6 : X.set l _ = X1
    have hg6 := set_get hs6
    have n6 := set_n hs6
    have o6 := set_old hs6
    have kx1 : KeepX l X X1 := ⟨by omega, fun q _ hq => o6 q hq⟩
    have kk1 := kx1.keep q4 (by omega)
    have hD6 := (o6 bd (by omega)).trans q7
    have hov1 : Ints X1 (.slice (some ⟨HR.n + 1, 0, none⟩) turns 0) o := .inr (.inr ⟨HR.n + 1, 0, 0, o.map VI, 3, 2, by rw [List.length_map, hM.n], by omega, (o6 _ (by omega)).trans hM.a, by decide, by simp, fun j w hj => by simpa using hj⟩)
    repeat' first
      | refine CO.cons rfl ?_
      | refine CV.seq ?_
      | refine CV.region callees ?_
      | refine CV.block ?_
      | (refine ⟨_, cell_load agDS hD6 rfl, ?_⟩)
      | fail
    refine (pickD_spec (by omega) (hd.keep kk1) hov1 (by omega) hob).mono ?_
    rintro sv X2 ⟨hsv, k7⟩
    have l7 := k7.1
    repeat' first
      | refine CO.cons rfl ?_
      | refine CO.nil ?_
      | refine CV.seq ?_
      | refine CV.region callees ?_
      | fail
    refine (costOf_spec (by omega) hsv.row hpl (pick_ok hok hob)).mono ?_
    rintro v X3 ⟨rfl, k8⟩
    have l8 := k8.1
    rw [sum_pick]
    have k18 := k7.trans k8
    have hS3 : BS b1 b2 e X3 (menF gs ds need S) := (q2.keepX kx1 (by omega) (by omega) (by omega) (by omega) (by omega)).keepX (k18.butX l) (by omega) (by omega) (by omega) (by omega) (by omega)
    have hg38 := (k18.2 l (by omega)).trans hg6
    have hG3 := (k18.2 b0 (by omega)).trans ((o6 b0 (by omega)).trans q6)
    have hN3 := (k18.2 bn (by omega)).trans ((o6 bn (by omega)).trans q8)
    have hold3 : ∀ q, q < X.n → q ≠ l → X3.get q = X.get q := fun q h3 h4 => (k18.2 q (by omega)).trans (o6 q h4)
    have hen : CallB Try.prog B 104 [gv, sv, VI need] X3 (fun r H' => r = .bool (enM gs ds need o) ∧ Keep X3 H') := by
      rw [← en_pick]
      exact isEnough_spec (by omega) (hg.keep (kk1.trans k18)) (OwnS.keep hsv k8).row (by omega) hpl hgk (pick_ok hok hob)
    have hsn : menF gs ds need (S ++ [o]) = mstep gs ds need (menF gs ds need S) o := menF_snoc
    cases hacc : menF gs ds need S with
    | none =>
      rw [hacc] at hS3 hsn
      have hb1 : X3.get b1 = some (.cells [nilS] 26 1) := hS3.1
      have hb2 : X3.get b2 = some (.cells [VI 0] 3 1) := hS3.2
      repeat' first
        | refine CO.cons rfl ?_
        | refine CO.nil ?_
        | refine CV.seq ?_
        | refine CV.region callees ?_
        | refine CO.consG rfl ?_
        | (refine ⟨_, cell_load ag22 hb1 rfl, ?_⟩)
        | (refine ⟨_, fun tm ha => step1_nilnil un22 rfl (ev_tmp ha rfl) rfl, ?_⟩)
        | (refine ⟨_, cell_load ag22g hG3 rfl, ?_⟩)
        | (refine ⟨_, cell_load ag3 hN3 rfl, ?_⟩)
        | fail
      refine hen.mono ?_
      rintro r X4 ⟨rfl, k9⟩
      have l9 := k9.1
      have hb14 := (k9.2 b1 (by omega)).trans hb1
      have hb24 := (k9.2 b2 (by omega)).trans hb2
      have hg47 := (k9.2 l (by omega)).trans hg38
      have hov4 := (hov1.keep k18).keep k9
      have hold4 : ∀ q, q < X.n → q ≠ l → X4.get q = X.get q := fun q h3 h4 => (k9.2 q (by omega)).trans (hold3 q h3 h4)
      cases hc : enM gs ds need o with
      | true =>
        have hsn2 : menF gs ds need (S ++ [o]) = some (o, costM ds o) := by rw [hsn]; unfold mstep; dsimp only; rw [if_pos hc]
        repeat' first
          | refine CO.cons rfl ?_
          | refine CO.nil ?_
          | refine CV.region callees ?_
          | refine CV.cond ?_
          | fail
        refine (clone_spec (by omega) hov4 hol).mono ?_
        rintro r X5 ⟨hr5, k8⟩
        have l8 := k8.1
        have hb15 := (k8.2 b1 (by omega)).trans hb14
        have hb25 := (k8.2 b2 (by omega)).trans hb24
        repeat' first
          | refine CO.cons rfl ?_
          | fail
        refine ⟨_, _, var_store sz26 hb15 (own_oneC hr5), by omega, ?_⟩
        generalize hs9 : Heap.set X5 b1 _ = X6
        have hg9 := set_get hs9
        have n9 := set_n hs9
        have o9 := set_old hs9
        have hb26 := (o9 b2 (by omega)).trans hb25
        repeat' first
          | refine CO.cons rfl ?_
          | fail
        refine ⟨_, _, var_store sz3 hb26 rfl, by omega, ?_⟩
        generalize hs10 : Heap.set X6 b2 _ = X7
        have hg10 := set_get hs10
        have n10 := set_n hs10
        have o10 := set_old hs10
        repeat' first
          | refine CO.nil ?_
          | fail
        have hold7 : ∀ q, q < X.n → q ≠ l → q ≠ b1 → q ≠ b2 → X7.get q = X.get q := fun q h3 h4 h5 h6 => (o10 q h6).trans ((o9 q h5).trans ((k8.2 q (by omega)).trans (hold4 q h3 h4)))
        have hr7 : Own 3 X7 r (o.map VI) e := Own.lower (own_keepF hr5 (by omega) (fun c hc => by have := (hr5.lt hc).1; exact (o10 c (by omega)).trans (o9 c (by omega)))) (by omega)
        have hS : BS b1 b2 e X7 (some (o, costM ds o)) := ⟨_, (o10 b1 (by omega)).trans hg9, hg10, hr7, hone⟩
        have hg77 : X7.get l = _ := (o10 l (by omega)).trans ((o9 l (by omega)).trans ((k8.2 l (by omega)).trans hg47))
        refine ⟨_, _, _, _, _, _, _, hg77, rfl, ⟨rfl, ⟨?_, ?_, ⟨?_, ?_, ?_, ?_, ?_⟩, ?_, ?_, ?_, ?_, ?_⟩, ?_, ?_⟩⟩
        · rw [Heap.get_set_eq]; exact hg5.symm
        · rw [hsn2]; exact hS.keepX (KeepX.set _ _) (by omega) (by omega) (by omega) (by omega) (by omega)
        · rw [Heap.get_set_ne _ _ (by omega)]; exact (hold7 _ (by omega) (by omega) (by omega) (by omega)).trans q3.a
        · rw [Heap.get_set_ne _ _ (by omega)]; exact (hold7 _ (by omega) (by omega) (by omega) (by omega)).trans q3.b
        · rw [Heap.get_set_ne _ _ (by omega)]; exact (hold7 _ (by omega) (by omega) (by omega) (by omega)).trans q3.f
        · rw [Heap.get_set_ne _ _ (by omega)]; exact (hold7 _ (by omega) (by omega) (by omega) (by omega)).trans q3.d
        · exact hd.keep ⟨by show H.n ≤ X7.n; omega, fun q hq => by rw [Heap.get_set_ne _ _ (by omega)]; exact (hold7 q (by omega) (by omega) (by omega) (by omega)).trans (q4.2 q hq)⟩
        · exact ⟨by show H.n ≤ X7.n; omega, fun q hq => by rw [Heap.get_set_ne _ _ (by omega)]; exact (hold7 q (by omega) (by omega) (by omega) (by omega)).trans (q4.2 q hq)⟩
        · show e ≤ X7.n; omega
        · rw [Heap.get_set_ne _ _ (by omega)]; exact (hold7 b0 (by omega) (by omega) (by omega) (by omega)).trans q6
        · rw [Heap.get_set_ne _ _ (by omega)]; exact (hold7 bd (by omega) (by omega) (by omega) (by omega)).trans q7
        · rw [Heap.get_set_ne _ _ (by omega)]; exact (hold7 bn (by omega) (by omega) (by omega) (by omega)).trans q8
        · intro q h3 h4
          rw [Heap.get_set_ne _ _ (by omega)]; exact hold7 q (by omega) (by omega) (by omega) (by omega)
        · show X.n ≤ X7.n; omega
      | false =>
        have hsn2 : menF gs ds need (S ++ [o]) = none := by rw [hsn]; unfold mstep; dsimp only; rw [if_neg (by rw [hc]; exact Bool.false_ne_true)]
        repeat' first
          | refine CO.cons rfl ?_
          | refine CO.nil ?_
          | refine CV.cond ?_
          | refine CV.skip ?_
          | fail
        have hS : BS b1 b2 e X4 none := ⟨hb14, hb24⟩
        refine ⟨_, _, _, _, _, _, _, hg47, rfl, ⟨rfl, ⟨?_, ?_, ⟨?_, ?_, ?_, ?_, ?_⟩, ?_, ?_, ?_, ?_, ?_⟩, ?_, ?_⟩⟩
        · rw [Heap.get_set_eq]; exact hg5.symm
        · rw [hsn2]; exact hS.keepX (KeepX.set _ _) (by omega) (by omega) (by omega) (by omega) (by omega)
        · rw [Heap.get_set_ne _ _ (by omega)]; exact (hold4 _ (by omega) (by omega)).trans q3.a
        · rw [Heap.get_set_ne _ _ (by omega)]; exact (hold4 _ (by omega) (by omega)).trans q3.b
        · rw [Heap.get_set_ne _ _ (by omega)]; exact (hold4 _ (by omega) (by omega)).trans q3.f
        · rw [Heap.get_set_ne _ _ (by omega)]; exact (hold4 _ (by omega) (by omega)).trans q3.d
        · exact hd.keep ⟨by show H.n ≤ X4.n; omega, fun q hq => by rw [Heap.get_set_ne _ _ (by omega)]; exact (hold4 q (by omega) (by omega)).trans (q4.2 q hq)⟩
        · exact ⟨by show H.n ≤ X4.n; omega, fun q hq => by rw [Heap.get_set_ne _ _ (by omega)]; exact (hold4 q (by omega) (by omega)).trans (q4.2 q hq)⟩
        · show e ≤ X4.n; omega
        · rw [Heap.get_set_ne _ _ (by omega)]; exact (hold4 b0 (by omega) (by omega)).trans q6
        · rw [Heap.get_set_ne _ _ (by omega)]; exact (hold4 bd (by omega) (by omega)).trans q7
        · rw [Heap.get_set_ne _ _ (by omega)]; exact (hold4 bn (by omega) (by omega)).trans q8
        · intro q h3 h4
          rw [Heap.get_set_ne _ _ (by omega)]; exact hold4 q (by omega) (by omega)
        · show X.n ≤ X4.n; omega
    | some ac =>
      obtain ⟨b, p⟩ := ac
      rw [hacc] at hS3 hsn
      obtain ⟨q, hb1, hb2, hq, hbn⟩ := hS3
      obtain ⟨qa, qn, qc, rfl⟩ := own_shape hq hbn
      by_cases hlt : costM ds o < p
      · repeat' first
          | refine CO.cons rfl ?_
          | refine CO.nil ?_
          | refine CV.seq ?_
          | refine CV.region callees ?_
          | refine CO.consG rfl ?_
          | (refine ⟨_, cell_load ag22 hb1 rfl, ?_⟩)
          | (refine ⟨_, cell_load ag3 hb2 rfl, ?_⟩)
          | (refine ⟨_, fun tm ha => step1_nil rfl (ev_tmp ha rfl) rfl rfl (by simp [anil, un22]; rfl), ?_⟩)
          | (refine ⟨_, cell_load ag22g hG3 rfl, ?_⟩)
          | (refine ⟨_, cell_load ag3 hN3 rfl, ?_⟩)
          | (refine ⟨fun _ => ?_, fun _ => ?_⟩ <;> first | (exfalso; omega) | skip)
          | fail
        refine hen.mono ?_
        rintro r X4 ⟨rfl, k9⟩
        have l9 := k9.1
        have hb14 := (k9.2 b1 (by omega)).trans hb1
        have hb24 := (k9.2 b2 (by omega)).trans hb2
        have hg47 := (k9.2 l (by omega)).trans hg38
        have hov4 := (hov1.keep k18).keep k9
        have hold4 : ∀ q, q < X.n → q ≠ l → X4.get q = X.get q := fun q h3 h4 => (k9.2 q (by omega)).trans (hold3 q h3 h4)
        cases hc : enM gs ds need o with
        | true =>
          have hsn2 : menF gs ds need (S ++ [o]) = some (o, costM ds o) := by rw [hsn]; unfold mstep; dsimp only; rw [if_pos ⟨hlt, hc⟩]
          repeat' first
            | refine CO.cons rfl ?_
            | refine CO.nil ?_
            | refine CV.region callees ?_
            | refine CV.cond ?_
            | fail
          refine (clone_spec (by omega) hov4 hol).mono ?_
          rintro r X5 ⟨hr5, k8⟩
          have l8 := k8.1
          have hb15 := (k8.2 b1 (by omega)).trans hb14
          have hb25 := (k8.2 b2 (by omega)).trans hb24
          repeat' first
            | refine CO.cons rfl ?_
            | fail
          refine ⟨_, _, var_store sz26 hb15 (own_oneC hr5), by omega, ?_⟩
          generalize hs9 : Heap.set X5 b1 _ = X6
          have hg9 := set_get hs9
          have n9 := set_n hs9
          have o9 := set_old hs9
          have hb26 := (o9 b2 (by omega)).trans hb25
          repeat' first
            | refine CO.cons rfl ?_
            | fail
          refine ⟨_, _, var_store sz3 hb26 rfl, by omega, ?_⟩
          generalize hs10 : Heap.set X6 b2 _ = X7
          have hg10 := set_get hs10
          have n10 := set_n hs10
          have o10 := set_old hs10
          repeat' first
            | refine CO.nil ?_
            | fail
          have hold7 : ∀ q, q < X.n → q ≠ l → q ≠ b1 → q ≠ b2 → X7.get q = X.get q := fun q h3 h4 h5 h6 => (o10 q h6).trans ((o9 q h5).trans ((k8.2 q (by omega)).trans (hold4 q h3 h4)))
          have hr7 : Own 3 X7 r (o.map VI) e := Own.lower (own_keepF hr5 (by omega) (fun c hc => by have := (hr5.lt hc).1; exact (o10 c (by omega)).trans (o9 c (by omega)))) (by omega)
          have hS : BS b1 b2 e X7 (some (o, costM ds o)) := ⟨_, (o10 b1 (by omega)).trans hg9, hg10, hr7, hone⟩
          have hg77 : X7.get l = _ := (o10 l (by omega)).trans ((o9 l (by omega)).trans ((k8.2 l (by omega)).trans hg47))
          refine ⟨_, _, _, _, _, _, _, hg77, rfl, ⟨rfl, ⟨?_, ?_, ⟨?_, ?_, ?_, ?_, ?_⟩, ?_, ?_, ?_, ?_, ?_⟩, ?_, ?_⟩⟩
          · rw [Heap.get_set_eq]; exact hg5.symm
          · rw [hsn2]; exact hS.keepX (KeepX.set _ _) (by omega) (by omega) (by omega) (by omega) (by omega)
          · rw [Heap.get_set_ne _ _ (by omega)]; exact (hold7 _ (by omega) (by omega) (by omega) (by omega)).trans q3.a
          · rw [Heap.get_set_ne _ _ (by omega)]; exact (hold7 _ (by omega) (by omega) (by omega) (by omega)).trans q3.b
          · rw [Heap.get_set_ne _ _ (by omega)]; exact (hold7 _ (by omega) (by omega) (by omega) (by omega)).trans q3.f
          · rw [Heap.get_set_ne _ _ (by omega)]; exact (hold7 _ (by omega) (by omega) (by omega) (by omega)).trans q3.d
          · exact hd.keep ⟨by show H.n ≤ X7.n; omega, fun q hq => by rw [Heap.get_set_ne _ _ (by omega)]; exact (hold7 q (by omega) (by omega) (by omega) (by omega)).trans (q4.2 q hq)⟩
          · exact ⟨by show H.n ≤ X7.n; omega, fun q hq => by rw [Heap.get_set_ne _ _ (by omega)]; exact (hold7 q (by omega) (by omega) (by omega) (by omega)).trans (q4.2 q hq)⟩
          · show e ≤ X7.n; omega
          · rw [Heap.get_set_ne _ _ (by omega)]; exact (hold7 b0 (by omega) (by omega) (by omega) (by omega)).trans q6
          · rw [Heap.get_set_ne _ _ (by omega)]; exact (hold7 bd (by omega) (by omega) (by omega) (by omega)).trans q7
          · rw [Heap.get_set_ne _ _ (by omega)]; exact (hold7 bn (by omega) (by omega) (by omega) (by omega)).trans q8
          · intro q h3 h4
            rw [Heap.get_set_ne _ _ (by omega)]; exact hold7 q (by omega) (by omega) (by omega) (by omega)
          · show X.n ≤ X7.n; omega
        | false =>
          have hsn2 : menF gs ds need (S ++ [o]) = some (b, p) := by rw [hsn]; unfold mstep; dsimp only; rw [if_neg (fun h => by rw [hc] at h; exact Bool.false_ne_true h.2)]
          repeat' first
            | refine CO.cons rfl ?_
            | refine CO.nil ?_
            | refine CV.cond ?_
            | refine CV.skip ?_
            | fail
          have hS : BS b1 b2 e X4 (some (b, p)) := ⟨_, hb14, hb24, own_keepF hq (by omega) (fun c hc => k9.2 c (by have := hq.lt hc; omega)), hbn⟩
          refine ⟨_, _, _, _, _, _, _, hg47, rfl, ⟨rfl, ⟨?_, ?_, ⟨?_, ?_, ?_, ?_, ?_⟩, ?_, ?_, ?_, ?_, ?_⟩, ?_, ?_⟩⟩
          · rw [Heap.get_set_eq]; exact hg5.symm
          · rw [hsn2]; exact hS.keepX (KeepX.set _ _) (by omega) (by omega) (by omega) (by omega) (by omega)
          · rw [Heap.get_set_ne _ _ (by omega)]; exact (hold4 _ (by omega) (by omega)).trans q3.a
          · rw [Heap.get_set_ne _ _ (by omega)]; exact (hold4 _ (by omega) (by omega)).trans q3.b
          · rw [Heap.get_set_ne _ _ (by omega)]; exact (hold4 _ (by omega) (by omega)).trans q3.f
          · rw [Heap.get_set_ne _ _ (by omega)]; exact (hold4 _ (by omega) (by omega)).trans q3.d
          · exact hd.keep ⟨by show H.n ≤ X4.n; omega, fun q hq => by rw [Heap.get_set_ne _ _ (by omega)]; exact (hold4 q (by omega) (by omega)).trans (q4.2 q hq)⟩
          · exact ⟨by show H.n ≤ X4.n; omega, fun q hq => by rw [Heap.get_set_ne _ _ (by omega)]; exact (hold4 q (by omega) (by omega)).trans (q4.2 q hq)⟩
          · show e ≤ X4.n; omega
          · rw [Heap.get_set_ne _ _ (by omega)]; exact (hold4 b0 (by omega) (by omega)).trans q6
          · rw [Heap.get_set_ne _ _ (by omega)]; exact (hold4 bd (by omega) (by omega)).trans q7
          · rw [Heap.get_set_ne _ _ (by omega)]; exact (hold4 bn (by omega) (by omega)).trans q8
          · intro q h3 h4
            rw [Heap.get_set_ne _ _ (by omega)]; exact hold4 q (by omega) (by omega)
          · show X.n ≤ X4.n; omega
      · have hsn2 : menF gs ds need (S ++ [o]) = some (b, p) := by rw [hsn]; unfold mstep; dsimp only; rw [if_neg (fun h => hlt h.1)]
        repeat' first
          | refine CO.cons rfl ?_
          | refine CO.nil ?_
          | refine CV.seq ?_
          | refine CV.region callees ?_
          | refine CV.cond ?_
          | refine CV.skip ?_
          | refine CO.consG rfl ?_
          | (refine ⟨_, cell_load ag22 hb1 rfl, ?_⟩)
          | (refine ⟨_, cell_load ag3 hb2 rfl, ?_⟩)
          | (refine ⟨_, fun tm ha => step1_nil rfl (ev_tmp ha rfl) rfl rfl (by simp [anil, un22]; rfl), ?_⟩)
          | (refine ⟨fun _ => ?_, fun _ => ?_⟩ <;> first | (exfalso; omega) | skip)
          | fail
        have hS : BS b1 b2 e X3 (some (b, p)) := ⟨_, hb1, hb2, hq, hbn⟩
        obtain ⟨X4, hX4⟩ : ∃ X4, X3 = X4 := ⟨_, rfl⟩
        rw [hX4] at hS hg38 ⊢
        have hg47 := hg38
        have hold4 : ∀ q, q < X.n → q ≠ l → X4.get q = X.get q := by rw [← hX4]; exact hold3
        have l9 : X3.n ≤ X4.n := by rw [hX4]; exact Nat.le_refl _
        refine ⟨_, _, _, _, _, _, _, hg47, rfl, ⟨rfl, ⟨?_, ?_, ⟨?_, ?_, ?_, ?_, ?_⟩, ?_, ?_, ?_, ?_, ?_⟩, ?_, ?_⟩⟩
        · rw [Heap.get_set_eq]; exact hg5.symm
        · rw [hsn2]; exact hS.keepX (KeepX.set _ _) (by omega) (by omega) (by omega) (by omega) (by omega)
        · rw [Heap.get_set_ne _ _ (by omega)]; exact (hold4 _ (by omega) (by omega)).trans q3.a
        · rw [Heap.get_set_ne _ _ (by omega)]; exact (hold4 _ (by omega) (by omega)).trans q3.b
        · rw [Heap.get_set_ne _ _ (by omega)]; exact (hold4 _ (by omega) (by omega)).trans q3.f
        · rw [Heap.get_set_ne _ _ (by omega)]; exact (hold4 _ (by omega) (by omega)).trans q3.d
        · exact hd.keep ⟨by show H.n ≤ X4.n; omega, fun q hq => by rw [Heap.get_set_ne _ _ (by omega)]; exact (hold4 q (by omega) (by omega)).trans (q4.2 q hq)⟩
        · exact ⟨by show H.n ≤ X4.n; omega, fun q hq => by rw [Heap.get_set_ne _ _ (by omega)]; exact (hold4 q (by omega) (by omega)).trans (q4.2 q hq)⟩
        · show e ≤ X4.n; omega
        · rw [Heap.get_set_ne _ _ (by omega)]; exact (hold4 b0 (by omega) (by omega)).trans q6
        · rw [Heap.get_set_ne _ _ (by omega)]; exact (hold4 bd (by omega) (by omega)).trans q7
        · rw [Heap.get_set_ne _ _ (by omega)]; exact (hold4 bn (by omega) (by omega)).trans q8
        · intro q h3 h4
          rw [Heap.get_set_ne _ _ (by omega)]; exact hold4 q (by omega) (by omega)
        · show X.n ≤ X4.n; omega
  rintro _ HZ ⟨⟨q1, q2, q3, q4, q5, q6, q7, q8⟩, lZ⟩
  refine ⟨_, _, _, _, _, _, _, q1.trans hg5, rfl, rfl, ?_⟩
  generalize hsZ : HZ.set l _ = HY
  have nZ := set_n hsZ
  have oZ := set_old hsZ
  have kZ : KeepX l HZ HY := ⟨by omega, fun q _ hq => oZ q hq⟩
  have hSZ := q2.keepX kZ (by omega) (by omega) (by omega) (by omega) (by omega)
  have kHY : Keep H HY := kZ.keep q4 (by omega)
  rw [← hml] at hSZ
  cases hacc : menF gs ds need (menusL ds turns) with
  | none =>
    rw [hacc] at hSZ
    have hb1 : HY.get b1 = some (.cells [nilS] 26 1) := hSZ.1
    have hb2 : HY.get b2 = some (.cells [VI 0] 3 1) := hSZ.2
    repeat' first
      | refine CO.cons rfl ?_
      | refine CO.nil ?_
      | refine CV.seq ?_
      | refine CV.region callees ?_
      | refine CV.cond ?_
      | (refine ⟨_, cell_load ag22 hb1 rfl, ?_⟩)
      | (refine ⟨_, fun tm ha => step1_nilnil un22 rfl (ev_tmp ha rfl) rfl, ?_⟩)
      | fail
    refine ⟨_, _, var_store sz26 hb1 rfl, by omega, ?_⟩
    generalize hsx : Heap.set HY b1 _ = Hx
    have hgx : Hx.get b1 = some (.cells ([nilS]) 26 1) := set_get hsx
    have nx := set_n hsx
    have ox := set_old hsx
    have hb2x := (ox b2 (by omega)).trans hb2
    repeat' first
      | refine CO.cons rfl ?_
      | fail
    refine ⟨_, _, var_store sz3 hb2x rfl, by omega, ?_⟩
    generalize hsy : Heap.set Hx b2 _ = Hy
    have hgy : Hy.get b2 = some (.cells ([VI 0]) 3 1) := set_get hsy
    have ny := set_n hsy
    have oy := set_old hsy
    have hb1y := (oy b1 (by omega)).trans hgx
    repeat' first
      | refine CO.cons rfl ?_
      | refine CO.nil ?_
      | refine CV.ret ?_
      | (refine ⟨_, cell_load ag22 hb1y rfl, ?_⟩)
      | (refine ⟨_, cell_load ag3 hgy rfl, ?_⟩)
      | fail
    exact ⟨rfl, ⟨_, _, _, rfl, .inl ⟨rfl, rfl, rfl, rfl⟩⟩, keep_put (keep_put kHY (by omega) ox nx) (by omega) oy ny⟩
  | some ac =>
    obtain ⟨b, p⟩ := ac
    rw [hacc] at hSZ
    obtain ⟨q, hb1, hb2, hq, hbn⟩ := hSZ
    obtain ⟨qa, qn, qc, rfl⟩ := own_shape hq hbn
    repeat' first
      | refine CO.cons rfl ?_
      | refine CO.nil ?_
      | refine CV.seq ?_
      | refine CV.region callees ?_
      | refine CV.cond ?_
      | refine CV.skip ?_
      | (refine ⟨_, cell_load ag22 hb1 rfl, ?_⟩)
      | (refine ⟨_, fun tm ha => step1_nil rfl (ev_tmp ha rfl) rfl rfl (by simp [anil, un22]; rfl), ?_⟩)
      | fail
    refine CV.wideR callees (by decide +kernel) [(0, []), (1, []), (2, [1]), (3, []), (4, [])] (by kernel_rfl) ?_
    repeat' first
      | refine CR.cons ?_
      | (refine ⟨_, cell_load ag22 hb1 rfl, ?_⟩)
      | (refine ⟨_, cell_load ag3 hb2 rfl, ?_⟩)
      | (refine ⟨(show b2 ≠ b1 by omega), ?_⟩)
      | fail
    refine ⟨_, _, var_store sz26 hb1 rfl, by omega, ?_⟩
    generalize hsx : Heap.set HY b1 _ = Hx
    have hgx : Hx.get b1 = some (.cells ([.slice (some qa) qn qc]) 26 1) := set_get hsx
    have nx := set_n hsx
    have ox := set_old hsx
    have hb2x := (ox b2 (by omega)).trans hb2
    repeat' first
      | refine CR.cons ?_
      | fail
    refine ⟨_, _, var_store sz3 hb2x rfl, by omega, ?_⟩
    generalize hsy : Heap.set Hx b2 _ = Hy
    have hgy : Hy.get b2 = some (.cells ([VI p]) 3 1) := set_get hsy
    have ny := set_n hsy
    have oy := set_old hsy
    have hb1y := (oy b1 (by omega)).trans hgx
    repeat' first
      | refine CV.ret ?_
      | refine CR.cons ?_
      | refine CR.nil ?_
      | (refine ⟨_, cell_load ag22 hb1y rfl, ?_⟩)
      | (refine ⟨_, cell_load ag3 hgy rfl, ?_⟩)
      | fail
    have hqy : Own 3 Hy (.slice (some qa) qn qc) (b.map VI) e := own_keepF hq (by omega) (fun c hc => by have := (hq.lt hc).1; exact (oy c (by omega)).trans (ox c (by omega)))
    exact ⟨rfl, ⟨_, _, _, rfl, .inr ⟨b, rfl, rfl, Own.lower hqy (by omega)⟩⟩, keep_put (keep_put kHY (by omega) ox nx) (by omega) oy ny⟩
end Go.Proofs.Ytlamceokhbigaaa

