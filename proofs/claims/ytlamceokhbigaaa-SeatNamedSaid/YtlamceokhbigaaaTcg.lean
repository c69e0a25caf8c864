
/- How many orders are allowed. -/
import Derived.Test.YtlamceokhbigaaaTbg
set_option linter.unusedVariables false
set_option linter.unusedSimpArgs false
namespace Go.Proofs.Ytlamceokhbigaaa
open Go.AI
theorem row_shape {H : Heap} {v : Value} {vs : List Value} (h : Row H v vs) : (v = .slice none 0 0 ∧ vs = []) ∨ ∃ a n c, v = .slice (some a) n c := by
  rcases h with h | ⟨h, _⟩ | ⟨b, i, c, cs, e, k, h, _⟩
  · exact .inl h
  · exact .inr ⟨_, _, _, h⟩
  · exact .inr ⟨_, _, _, h⟩
theorem step1_nilnil {P : Program} {tm : Tm} {H : Heap} {o : Oper} {t u e : TypeId} {x y : Operand} (ht : P.underlying t = some (.slice e)) (ho : o.op = .binOp .eql t x y u) (hx : ev P tm x = some (.slice none 0 0)) (hy : ev P tm y = some (.slice none 0 0)) : step1 P tm H o = some (.bool true, H, H.n) := by
  refine step1_bin ho hx hy rfl rfl (apure_bin ho hx hy rfl rfl (by rfl) ?_ rfl)
  rw [show binOp .eql t (.slice none 0 0) (.slice none 0 0) = (do pure (.bool (← Op.equal t (.slice none 0 0) (.slice none 0 0)))) from rfl, pureRun_bind]
  rw [show pureRun P (Op.equal t (.slice none 0 0) (.slice none 0 0)) = some true by
    unfold Op.equal
    rw [show Op.maxDepth = 9999 + 1 from rfl, Op.equalIn, pureRun_bind, pureRun_underlying ht]
    rfl]
  rfl

set_option maxRecDepth 100000 in
theorem clone_spec {B : Nat} {v : Value} {H : Heap} {xs : List Int} (hB : B ≤ H.n) (hv : Ints H v xs) (hn : xs.length < 1000000) :
    CallB Try.prog B 80 [v] H (fun r H' => Own 3 H' r (xs.map VI) H.n ∧ Keep H H') := by
  rcases row_shape hv with ⟨rfl, h0⟩ | ⟨a, n, c, rfl⟩
  · refine CV.enter callees false rfl Try.func80 rfl (by kernel_rfl) (Nat.le_of_ble_eq_true rfl) hB ?_
    repeat' first
      | refine CO.cons rfl ?_
      | refine CO.nil ?_
      | refine CV.seq ?_
      | refine CV.region callees ?_
      | refine CV.cond ?_
      | refine CV.ret ?_
      | (refine ⟨_, fun tm ha => step1_nilnil un22 rfl (ev_tmp ha rfl) rfl, ?_⟩)
      | fail
    exact ⟨rfl, .inl ⟨rfl, h0⟩, Keep.refl _⟩
  · refine CV.enter callees false rfl Try.func80 rfl (by kernel_rfl) (Nat.le_of_ble_eq_true rfl) hB ?_
    repeat' first
      | refine CO.cons rfl ?_
      | refine CO.nil ?_
      | refine CV.seq ?_
      | refine CV.region callees ?_
      | refine CV.cond ?_
      | refine CV.skip ?_
      | (refine ⟨_, fun tm ha => step1_nil rfl (ev_tmp ha rfl) rfl rfl (by simp [anil, un22]; rfl), ?_⟩)
      | (refine ⟨_, _, build_none un22 one3, ?_⟩)
      | fail
    refine copy_ask un22 one3 (by omega) hv hB (by simpa using hn) ?_
    intro r H' ho k
    repeat' first
      | refine CO.cons rfl ?_
      | refine CO.nil ?_
      | refine CV.ret ?_
      | fail
    exact ⟨by simp only [List.all_cons, List.all_nil, ho.notTuple]; rfl, ho, k⟩
theorem zc3 : zeroCellsW Try.prog 3 = some [VI 0] := by kernel_rfl
theorem al3 {H : Heap} : sAlloc Try.prog H 3 = some (.pointer (some ⟨H.n, 0, none⟩), H.new (.cells [VI 0] 3 1), H.n) := alloc_ofW zc3
set_option maxHeartbeats 16000000 in
set_option maxRecDepth 100000 in
theorem count_spec {B : Nat} {H : Heap} {gv rv : Value} {gs : List Gu} {rs : List Ru} (hB : B ≤ H.n) (hg : RowS 5 H gv (gs.map Gul)) (hgs : sameFix gv gv = true) (hr : RowS 4 H rv (rs.map Rul)) (hp : PaOk gs rs) :
    CallB Try.prog B 29 [Pav gv rv] H (fun v H' => v = .tuple #[VI (okL gs rs).length, VI 0] ∧ Keep H H') := by
  refine CV.enter callees false rfl Try.func29 rfl (by kernel_rfl) (Nat.le_of_ble_eq_true rfl) hB ?_
  repeat' first
    | refine CO.cons rfl ?_
    | refine CV.seq ?_
    | refine CV.region callees ?_
    | fail
  refine ⟨(by simp only [notTuple]), ?_⟩
  rw [boxP hg.cells.1 hr.cells.1]
  generalize hs0 : Heap.new H _ = H0
  have hg0 := new_get hs0
  have k0 := new_keep hs0
  have n0 := new_n hs0
  obtain ⟨b0, hbn0⟩ : ∃ b, Heap.n H = b := ⟨_, rfl⟩
  rw [hbn0] at hg0 n0 ⊢
  repeat' first
    | refine CO.cons rfl ?_
    | refine CO.nil ?_
    | refine CV.seq ?_
    | refine CV.region callees ?_
    | (refine ⟨_, ld25 hg0, ?_⟩)
    | fail
  refine (check_spec (by omega) (hg.keep k0) (hr.keep k0) hp).mono ?_
  rintro v H1 ⟨rfl, k1⟩
  have l1 := k1.1
  have hP1 := (k1.2 b0 (by omega)).trans hg0
  repeat' first
    | refine CO.cons rfl ?_
    | refine CO.nil ?_
    | refine CV.seq ?_
    | refine CV.region callees ?_
    | refine CV.cond ?_
    | refine CV.skip ?_
    | (refine ⟨_, _, al3, ?_⟩)
    | (refine ⟨fun _ => ?_, fun _ => ?_⟩ <;> first | (exfalso; omega) | skip)
    | fail
  generalize hs2 : Heap.new H1 _ = H2
  have hg2 := new_get hs2
  have k2 := new_keep hs2
  have n2 := new_n hs2
  obtain ⟨b2, hbn2⟩ : ∃ b, Heap.n H1 = b := ⟨_, rfl⟩
  rw [hbn2] at hg2 n2 ⊢
  repeat' first
    | fail
  refine ⟨_, _, var_store sz3 hg2 rfl, by omega, ?_⟩
  generalize hs3 : Heap.set H2 b2 _ = H3
  have hg3 : H3.get b2 = some (.cells ([VI 0]) 3 1) := set_get hs3
  have n3 := set_n hs3
  have o3 := set_old hs3
  have k3 : Keep H1 H3 := keep_put k2 (by omega) o3 n3
  have hP3 := (k3.2 b0 (by omega)).trans hP1
  have k03 := (k0.trans k1).trans k3
  have l3 := k3.1
  repeat' first
    | refine CO.cons rfl ?_
    | refine CO.nil ?_
    | refine CV.seq ?_
    | refine CV.region callees ?_
    | (refine ⟨_, ld25 hP3, ?_⟩)
    | fail
  refine (allowed_spec (by omega) hg.cells.1 hr.cells.1).mono ?_
  rintro v H4 ⟨⟨pp, rfl, hpp, hp1, hp2⟩, k4⟩
  have l4 := k4.1
  have hc4 := (k4.2 b2 (by omega)).trans hg3
  repeat' first
    | refine CO.nil ?_
    | refine CV.block ?_
    | fail
  refine CV.rangeFunc callees ?_
  refine fun tm ha => ?_
  generalize hs5 : Heap.new H4 _ = H5
  have hg5 := new_get hs5
  have k5 := new_keep hs5
  have n5 := new_n hs5
  obtain ⟨l, hl⟩ : ∃ l, H4.n = l := ⟨_, rfl⟩
  rw [hl] at hg5 n5 ⊢
  have k05 : Keep H H5 := (k03.trans k4).trans k5
  have l05 := k05.1
  have hpp5 := (k5.2 pp (by omega)).trans hpp
  have hc5 := (k5.2 b2 (by omega)).trans hc4
  refine (allowed1_spec (B := B) (l := l) (pp := pp) (gv := gv) (rv := rv)
    (fun _ F X => X.get l = H5.get l ∧ X.get b2 = some (.cells [VI F.length] 3 1) ∧ X.get pp = H5.get pp ∧ Keep H X ∧ H5.n ≤ X.n)
    (by omega) hp hgs hpp5 (by omega) (hg.keep k05) (hr.keep k05) ?_ ?_ ?_ ?_).mono ?_
  · intro e X kk h1 h2
    exact ⟨kk.2 l (by omega), (kk.2 b2 (by omega)).trans hc5, kk.2 pp (by omega), k05.trans kk, kk.1⟩
  · rintro e F X ⟨q1, q2, q3, q4, q5⟩
    exact ⟨q3, hg.keep q4, hr.keep q4⟩
  · rintro e F X X' q ⟨q1, q2, q3, q4, q5⟩ h1 h2 kk
    exact ⟨(kk.2 l (by omega) (by omega)).trans q1, (kk.2 b2 (by omega) (by omega)).trans q2, (kk.2 pp (by omega) (by omega)).trans q3, kk.keep q4 (by omega), by have := kk.1; omega⟩
  · rintro e F o ov X ⟨q1, q2, q3, q4, q5⟩ hok ho1 ho2 hpre hov hBX h1 h2
    have hFl : F.length < 823544 := by
      have a := hpre.length_le
      have b := okL_len (gs := gs) (rs := rs) hp.n7
      rw [List.length_append] at a
      omega
    have hFs : ((F ++ [o]).length : Int) = (F.length : Int) + 1 := by rw [List.length_append, List.length_singleton]; omega
    refine RoundB.enter callees false (q1.trans hg5) ha rfl hBX (by omega) ?_
    repeat' first
      | refine CV.skip ?_
      | fail
    refine ⟨_, _, _, _, _, q1.trans hg5, ?_⟩
    generalize hs6 : X.set l _ = X1
    have hg6 := set_get hs6
    have n6 := set_n hs6
    have o6 := set_old hs6
    have hc6 := (o6 b2 (by omega)).trans q2
    repeat' first
      | refine CO.cons rfl ?_
      | refine CV.region callees ?_
      | refine CV.block ?_
      | refine ⟨(⟨by omega, by omega⟩ : inI64 _), ?_⟩
      | (refine ⟨_, cell_load ag3 hc6 rfl, ?_⟩)
      | fail
    refine ⟨_, _, var_store sz3 hc6 rfl, by omega, ?_⟩
    generalize hs7 : Heap.set X1 b2 _ = X2
    have hg7 := set_get hs7
    have n7 := set_n hs7
    have o7 := set_old hs7
    repeat' first
      | refine CO.nil ?_
      | fail
    have hold : ∀ q, q ≠ b2 → q ≠ l → X2.get q = X.get q := fun q h1 h2 => (o7 q h1).trans (o6 q h2)
    refine ⟨_, _, _, _, _, _, _, (o7 l (by omega)).trans hg6, rfl, ⟨rfl, ⟨?_, ?_, ?_, ?_, ?_⟩, ?_, ?_⟩⟩
    · rw [Heap.get_set_eq]; exact hg5.symm
    · rw [Heap.get_set_ne _ _ (by omega), hFs]; exact hg7
    · rw [Heap.get_set_ne _ _ (by omega)]; exact (hold pp (by omega) (by omega)).trans q3
    · exact ⟨by show H.n ≤ X2.n; omega, fun q hq => by rw [Heap.get_set_ne _ _ (by omega)]; exact (hold q (by omega) (by omega)).trans (q4.2 q hq)⟩
    · show H5.n ≤ X2.n; omega
    · intro q h3 h4
      rw [Heap.get_set_ne _ _ (by omega)]; exact hold q (by omega) (by omega)
    · show X.n ≤ X2.n; omega
  rintro _ HZ ⟨e, h1, h2, q1, q2, q3, q4, q5⟩
  refine ⟨_, _, _, _, _, _, _, q1.trans hg5, rfl, rfl, ?_⟩
  generalize hsZ : HZ.set l _ = HY
  have nZ := set_n hsZ
  have oZ := set_old hsZ
  have hcZ := (oZ b2 (by omega)).trans q2
  repeat' first
    | refine CO.cons rfl ?_
    | refine CO.nil ?_
    | refine CV.seq ?_
    | refine CV.region callees ?_
    | refine CV.ret ?_
    | (refine ⟨_, cell_load ag3 hcZ rfl, ?_⟩)
    | fail
  exact ⟨rfl, rfl, ⟨by have := q4.1; omega, fun q hq => (oZ q (by omega)).trans (q4.2 q hq)⟩⟩
end Go.Proofs.Ytlamceokhbigaaa

