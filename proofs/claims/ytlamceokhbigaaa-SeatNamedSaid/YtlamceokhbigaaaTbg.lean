
/- The orders that are allowed, handed out one by one. -/
import Derived.Test.YtlamceokhbigaaaT9g
set_option linter.unusedVariables false
set_option linter.unusedSimpArgs false
namespace Go.Proofs.Ytlamceokhbigaaa
open Go.AI
set_option maxRecDepth 100000 in
theorem orders_spec {B n : Nat} {H : Heap} (hB : B ≤ H.n) :
    CallB Try.prog B 84 [VI n] H (fun v H' => (∃ c, v = .func (.func 145) #[] #[.pointer (some ⟨c, 0, none⟩), .pointer (some ⟨c + 1, 0, none⟩), .pointer (some ⟨c + 2, 0, none⟩)] ∧ Caps c n H' ∧ H.n ≤ c ∧ c + 2 < H'.n) ∧ Keep H H') := by
  have hl : CallB Try.prog B 128 [VI n, VI n, fnV 129] H (fun v H' => (∃ c, v = .func (.func 145) #[] #[.pointer (some ⟨c, 0, none⟩), .pointer (some ⟨c + 1, 0, none⟩), .pointer (some ⟨c + 2, 0, none⟩)] ∧ Caps c n H' ∧ H.n ≤ c ∧ c + 2 < H'.n) ∧ Keep H H') := by
    refine CV.enter callees false rfl Try.func128 rfl (by kernel_rfl) (Nat.le_of_ble_eq_true rfl) hB ?_
    repeat' first
      | refine CO.cons rfl ?_
      | refine CV.seq ?_
      | refine CV.region callees ?_
      | fail
    refine ⟨(by rfl), ?_⟩
    generalize hs0' : anew H _ _ _ = H0
    have hs0 : H.new (.cells [VI n] 3 1) = H0 := hs0'
    have hg0 := new_get hs0
    have k0 := new_keep hs0
    have n0 := new_n hs0
    repeat' first
      | refine CO.cons rfl ?_
      | fail
    refine ⟨(by rfl), ?_⟩
    generalize hs1' : anew H0 _ _ _ = H1
    have hs1 : H0.new (.cells [VI n] 3 1) = H1 := hs1'
    have hg1 := new_get hs1
    have k1 := new_keep hs1
    have n1 := new_n hs1
    rw [n0] at hg1
    repeat' first
      | refine CO.cons rfl ?_
      | fail
    refine ⟨(by rfl), ?_⟩
    generalize hs2' : anew H1 _ _ _ = H2
    have hs2 : H1.new (.cells [fnV 129] fT 1) = H2 := hs2'
    have hg2 := new_get hs2
    have k2 := new_keep hs2
    have n2 := new_n hs2
    rw [n1, n0] at hg2
    repeat' first
      | refine CO.cons rfl ?_
      | refine CO.nil ?_
      | refine CV.seq ?_
      | refine CV.region callees ?_
      | refine CV.ret ?_
      | (refine ⟨(rfl : List.all _ cellLike = true), ?_⟩)
      | fail
    exact ⟨rfl, ⟨H.n, by rw [n1, n0], ⟨(k2.2 _ (by omega)).trans ((k1.2 _ (by omega)).trans hg0), (k2.2 _ (by omega)).trans hg1, hg2⟩, by omega, by omega⟩, (k0.trans k1).trans k2⟩
  refine CV.enter callees false rfl Try.func84 rfl (by kernel_rfl) (Nat.le_of_ble_eq_true rfl) hB ?_
  repeat' first
    | refine CO.cons rfl ?_
    | refine CO.nil ?_
    | refine CV.seq ?_
    | refine CV.region callees ?_
    | fail
  refine hl.mono ?_
  rintro v H1 ⟨⟨c, rfl, h1, h2, h3⟩, k1⟩
  repeat' first
    | refine CO.cons rfl ?_
    | refine CO.nil ?_
    | refine CV.ret ?_
    | fail
  exact ⟨rfl, ⟨c, rfl, h1, h2, h3⟩, k1⟩
set_option maxRecDepth 100000 in
theorem allowed_spec {B : Nat} {H : Heap} {gv rv : Value} (hB : B ≤ H.n) (h1 : gv.cells.toList = [gv]) (h2 : rv.cells.toList = [rv]) :
    CallB Try.prog B 78 [Pav gv rv] H (fun v H' => (∃ p, v = .func (.func 126) #[] #[.pointer (some ⟨p, 0, none⟩)] ∧ H'.get p = some (.cells (Pal gv rv) 25 1) ∧ H.n ≤ p ∧ p < H'.n) ∧ Keep H H') := by
  refine CV.enter callees false rfl Try.func78 rfl (by kernel_rfl) (Nat.le_of_ble_eq_true rfl) hB ?_
  repeat' first
    | refine CO.cons rfl ?_
    | refine CV.seq ?_
    | refine CV.region callees ?_
    | fail
  refine ⟨(by simp only [notTuple]), ?_⟩
  rw [boxP h1 h2]
  generalize hs0 : Heap.new H _ = H0
  have hg0 := new_get hs0
  have k0 := new_keep hs0
  have n0 := new_n hs0
  obtain ⟨b0, hbn0⟩ : ∃ b, Heap.n H = b := ⟨_, rfl⟩
  rw [hbn0] at hg0 n0 ⊢
  repeat' first
    | refine CO.cons rfl ?_
    | refine CO.nil ?_
    | refine CV.seq ?_
    | refine CV.region callees ?_
    | refine CV.ret ?_
    | (refine ⟨(rfl : List.all _ cellLike = true), ?_⟩)
    | fail
  exact ⟨rfl, ⟨b0, rfl, hg0, by omega, by omega⟩, k0⟩
theorem ag97 : isAggB Try.prog 97 = some false := by kernel_rfl
theorem sz97 : sizeB Try.prog 97 = some 1 := by kernel_rfl
theorem zc97 : zeroCellsW Try.prog 97 = some [VU 0] := by kernel_rfl
theorem al97 {H : Heap} : sAlloc Try.prog H 97 = some (.pointer (some ⟨H.n, 0, none⟩), H.new (.cells [VU 0] 97 1), H.n) := alloc_ofW zc97
abbrev aT : TypeId := 154
theorem agA : isAggB Try.prog aT = some false := by kernel_rfl
/-- Whether an order is allowed. -/
def okB (gs : List Gu) (rs : List Ru) (o : List Int) : Bool := (brkO gs rs o &&& strN rs rs.length) == 0
def okL (gs : List Gu) (rs : List Ru) : List (List Int) := (fillL gs.length gs.length []).filter (okB gs rs)
theorem fillL_len {n : Nat} (hn : n ≤ 7) : ∀ {r : Nat} {pre : List Int}, (fillL n r pre).length ≤ 7 ^ r
  | 0, pre => by simp [fillL]
  | r + 1, pre => by
    have hp : ∀ i, (fillP n r pre i).length ≤ i * 7 ^ r := by
      intro i
      induction i with
      | zero => simp [fillP]
      | succ i ih =>
        rw [fillP_succ, List.length_append, Nat.succ_mul]
        have h1 : (if (i : Int) ∈ pre then [] else fillL n r (pre ++ [(i : Int)])).length ≤ 7 ^ r := by
          split
          · simp
          · exact fillL_len hn
        omega
    have h2 := hp n
    have h3 : n * 7 ^ r ≤ 7 * 7 ^ r := Nat.mul_le_mul_right _ hn
    have h4 : (7 : Nat) ^ (r + 1) = 7 * 7 ^ r := by rw [Nat.pow_succ, Nat.mul_comm]
    show (fillP n r pre n).length ≤ _
    omega
theorem okL_len {gs : List Gu} {rs : List Ru} (h7 : gs.length ≤ 7) : (okL gs rs).length ≤ 823543 := by
  refine Nat.le_trans (List.length_filter_le _ _) (Nat.le_trans (fillL_len h7) ?_)
  have : (7 : Nat) ^ gs.length ≤ 7 ^ 7 := Nat.pow_le_pow_right (by decide) h7
  omega
theorem brkO_lt {gs : List Gu} {rs : List Ru} {o : List Int} (hm : rs.length ≤ 12) : brkO gs rs o < 2 ^ 64 := Nat.lt_of_lt_of_le (brkN_lt _) (Nat.pow_le_pow_right (by decide) (by omega))
set_option maxHeartbeats 16000000 in
set_option maxRecDepth 100000 in
theorem allowed1_spec {B l pp : Nat} {H : Heap} {gv rv : Value} {gs : List Gu} {rs : List Ru} (J : Nat → List (List Int) → Heap → Prop) (hB : B ≤ H.n) (hp : PaOk gs rs) (hgs : sameFix gv gv = true)
    (hP : H.get pp = some (.cells (Pal gv rv) 25 1)) (hpn : pp < H.n) (hg : RowS 5 H gv (gs.map Gul)) (hr : RowS 4 H rv (rs.map Rul))
    (hJ0 : ∀ e X, Keep H X → H.n ≤ e → e ≤ X.n → J e [] X)
    (hJp : ∀ e F X, J e F X → X.get pp = H.get pp ∧ RowS 5 X gv (gs.map Gul) ∧ RowS 4 X rv (rs.map Rul))
    (hJs : ∀ e F X X' q, J e F X → H.n ≤ q → q < e → KeepX q X X' → J e F X')
    (hY : ∀ e F o ov X, J e F X → okB gs rs o = true → Pre gs.length o → o.length = gs.length → (F ++ [o]) <+: okL gs rs → Ints X ov o → B ≤ X.n → H.n ≤ e → e ≤ X.n → RoundB Try.prog B l [ov, VU ((brkO gs rs o : Nat) : Int)] X (fun r X' => r = .bool true ∧ J e (F ++ [o]) X' ∧ (∀ q, H.n ≤ q → q < e → X'.get q = X.get q) ∧ X.n ≤ X'.n)) :
    CallB Try.prog B 126 [.func (.yield l) #[] #[], .pointer (some ⟨pp, 0, none⟩)] H (fun _ X' => ∃ e, H.n ≤ e ∧ e ≤ X'.n ∧ J e (okL gs rs) X') := by
  have h1 := hp.n1
  have h7 := hp.n7
  have hm := hp.m
  refine CV.enter callees false rfl Try.func126 rfl (by kernel_rfl) (Nat.le_of_ble_eq_true rfl) hB ?_
  repeat' first
    | refine CO.cons rfl ?_
    | refine CV.seq ?_
    | refine CV.region callees ?_
    | fail
  refine ⟨(by rfl), ?_⟩
  generalize hs0' : anew H _ _ _ = H0
  have hs0 : H.new (.cells [.func (.yield l) #[] #[]] aT 1) = H0 := hs0'
  have hg0 := new_get hs0
  have k0 := new_keep hs0
  have n0 := new_n hs0
  have hP0 := (k0.2 pp hpn).trans hP
  repeat' first
    | refine CO.cons rfl ?_
    | refine CO.nil ?_
    | refine CV.seq ?_
    | refine CV.region callees ?_
    | (refine ⟨_, ld25 hP0, ?_⟩)
    | fail
  refine (must_spec (by omega) (hg.keep k0) (hr.keep k0) (by omega)).mono ?_
  rintro v H1 ⟨rfl, k1⟩
  have l1 := k1.1
  repeat' first
    | refine CO.cons rfl ?_
    | (refine ⟨_, _, al97, ?_⟩)
    | fail
  generalize hs2 : Heap.new H1 _ = H2
  have hg2 := new_get hs2
  have k2 := new_keep hs2
  have n2 := new_n hs2
  obtain ⟨b2, hbn2⟩ : ∃ b, Heap.n H1 = b := ⟨_, rfl⟩
  rw [hbn2] at hg2 n2 ⊢
  repeat' first
    | fail
  refine ⟨_, _, var_store sz97 hg2 rfl, by omega, ?_⟩
  generalize hs3 : Heap.set H2 b2 _ = H3
  have hg3 : H3.get b2 = some (.cells ([VU ((strN rs rs.length : Nat) : Int)]) 97 1) := set_get hs3
  have n3 := set_n hs3
  have o3 := set_old hs3
  have k13 : Keep H1 H3 := keep_put k2 (by omega) o3 n3
  have k03 : Keep H H3 := (k0.trans k1).trans k13
  have hP3 := (k03.2 pp hpn).trans hP
  have hY3 := (k13.2 H.n (by omega)).trans ((k1.2 H.n (by omega)).trans hg0)
  have hg3' := hg.keep k03
  have l3 := k03.1
  repeat' first
    | refine CO.cons rfl ?_
    | refine CO.nil ?_
    | refine CV.seq ?_
    | refine CV.region callees ?_
    | (refine ⟨_, fS foP0 (by decide), ?_⟩)
    | (refine ⟨_, cell_load ag22g hP3 rfl, ?_⟩)
    | (refine ⟨_, gs_len hg3', ?_⟩)
    | fail
  refine (orders_spec (by omega)).mono ?_
  rintro v H4 ⟨⟨c, rfl, hC, hc1, hc2⟩, k4⟩
  have l4 := k4.1
  repeat' first
    | refine CO.nil ?_
    | refine CV.block ?_
    | fail
  refine CV.rangeFunc callees ?_
  refine fun tm ha => ?_
  generalize hs5 : Heap.new H4 _ = H5
  have hg5 := new_get hs5
  have k5 := new_keep hs5
  have n5 := new_n hs5
  obtain ⟨d, hd⟩ : ∃ d, H4.n = d := ⟨_, rfl⟩
  rw [hd] at hg5 n5 ⊢
  have k05 : Keep H H5 := (k03.trans k4).trans k5
  have hC5 : Caps c gs.length H5 := ⟨(k5.2 _ (by omega)).trans hC.a, (k5.2 _ (by omega)).trans hC.b, (k5.2 _ (by omega)).trans hC.f⟩
  have hP5 := (k05.2 pp hpn).trans hP
  have hY5 := (k5.2 H.n (by omega)).trans ((k4.2 H.n (by omega)).trans hY3)
  have hS5 := (k5.2 b2 (by omega)).trans ((k4.2 b2 (by omega)).trans hg3)
  obtain ⟨e, he⟩ : ∃ e, H5.n + 4 = e := ⟨_, rfl⟩
  have hlt : ∀ S o, (S ++ [o]) <+: fillL gs.length gs.length [] → Pre gs.length o ∧ o.length = gs.length := fun S o hpre => by
    have hm : o ∈ fillL gs.length gs.length [] := hpre.subset (by simp)
    exact fillL_pre Pre.nil (by simp) hm
  refine (lists1_spec (B := B) (c := c) (l := d) (n := gs.length)
    (fun S X => J e (S.filter (okB gs rs)) X ∧ X.get d = H5.get d ∧ Caps c gs.length X ∧ X.get H.n = some (.cells [.func (.yield l) #[] #[]] aT 1) ∧ X.get b2 = some (.cells [VU ((strN rs rs.length : Nat) : Int)] 97 1) ∧ e ≤ X.n)
    (by omega) h7 (by omega) hC5 ?_ ?_ ?_ ?_).mono ?_
  · rintro S X ⟨_, _, q3, _⟩
    exact q3
  · intro X kk hX
    exact ⟨hJ0 e X (k05.trans kk) (by omega) (by omega), kk.2 d (by omega), ⟨(kk.2 _ (by omega)).trans hC5.a, (kk.2 _ (by omega)).trans hC5.b, (kk.2 _ (by omega)).trans hC5.f⟩, (kk.2 _ (by omega)).trans hY5, (kk.2 _ (by omega)).trans hS5, by omega⟩
  · rintro S X X' ⟨q1, q2, q3, q4, q5, q6⟩ hX kk
    exact ⟨hJs e _ X X' (H5.n + 1) q1 (by omega) (by omega) kk, (kk.2 d (by omega) (by omega)).trans q2, ⟨(kk.2 _ (by omega) (by omega)).trans q3.a, (kk.2 _ (by omega) (by omega)).trans q3.b, (kk.2 _ (by omega) (by omega)).trans q3.f⟩, (kk.2 _ (by omega) (by omega)).trans q4, (kk.2 _ (by omega) (by omega)).trans q5, by have := kk.1; omega⟩
  · rintro S o X hpre ⟨q1, q2, q3, q4, q5, q6⟩ hM hBX hX
    obtain ⟨ho1, ho2⟩ := hlt S o hpre
    refine RoundB.enter callees false (q2.trans hg5) ha rfl hBX (by omega) ?_
    repeat' first
      | refine CO.cons rfl ?_
      | refine CO.nil ?_
      | refine CV.region callees ?_
      | fail
    refine ⟨_, _, _, _, _, q2.trans hg5, ?_⟩
    generalize hs6 : X.set d _ = X1
    have hg6 := set_get hs6
    have n6 := set_n hs6
    have o6 := set_old hs6
    have kx1 : KeepX d X X1 := ⟨by omega, fun q _ hq => o6 q hq⟩
    have q1' := hJs e _ X X1 d q1 (by omega) (by omega) kx1
    obtain ⟨hPx, hgx, hrx⟩ := hJp e _ X1 q1'
    have hrow : Ints X1 (.slice (some ⟨H5.n + 1, 0, none⟩) gs.length 0) o := .inr (.inr ⟨H5.n + 1, 0, 0, o.map VI, 3, 2, by rw [List.length_map, hM.n], by omega, (o6 _ (by omega)).trans hM.a, by decide, by simp, fun j w hj => by simpa using hj⟩)
    repeat' first
      | refine CO.cons rfl ?_
      | refine CV.seq ?_
      | refine CV.region callees ?_
      | refine CV.block ?_
      | (refine ⟨_, ld25 (hPx.trans hP), ?_⟩)
      | fail
    refine (brokenBy_spec (by omega) hgx hgs hrx hrow hp ho1).mono ?_
    rintro v X2 ⟨rfl, k7⟩
    have l7 := k7.1
    have q1'' := hJs e _ X1 X2 H.n q1' (Nat.le_refl _) (by omega) (k7.butX _)
    have hY7 := (k7.2 H.n (by omega)).trans ((o6 _ (by omega)).trans q4)
    have hS7 := (k7.2 b2 (by omega)).trans ((o6 _ (by omega)).trans q5)
    have hg7 := (k7.2 d (by omega)).trans hg6
    have hb1 := brkO_lt (gs := gs) (rs := rs) (o := o) hm
    have hb2 : strN rs rs.length < 2 ^ 64 := Nat.lt_of_lt_of_le (strN_lt _) (Nat.pow_le_pow_right (by decide) (by omega))
    have hold : ∀ q, q < X.n → q ≠ d → X2.get q = X.get q := fun q hq hqd => (k7.2 q (by omega)).trans (o6 q hqd)
    obtain ⟨a, hka⟩ : ∃ a, brkO gs rs o &&& strN rs rs.length = a := ⟨_, rfl⟩
    by_cases hok : a = 0
    · have hokb : okB gs rs o = true := by rw [okB, hka, hok]; rfl
      repeat' first
        | refine CO.cons rfl ?_
        | refine CO.nil ?_
        | refine CV.seq ?_
        | refine CV.region callees ?_
        | refine CO.consG rfl ?_
        | (refine ⟨_, cell_load ag97 hS7 rfl, ?_⟩)
        | (refine ⟨_, fun tm ha => andUu rfl (ev_tmp ha rfl) (ev_tmp ha rfl) hb1 hb2, ?_⟩)
        | (rw [hka])
        | (refine ⟨_, cell_load agA hY7 rfl, ?_⟩)
        | (refine ⟨fun _ => ?_, fun _ => ?_⟩ <;> first | (exfalso; omega) | skip)
        | fail
      have hfil : (S ++ [o]).filter (okB gs rs) = S.filter (okB gs rs) ++ [o] := by rw [List.filter_append, List.filter_cons_of_pos hokb]; rfl
      refine (hY e _ o _ X2 q1'' hokb ho1 ho2 (by rw [← hfil]; exact hpre.filter _) (hrow.keep k7) (by omega) (by omega) (by omega)).mono ?_
      rintro v X3 ⟨rfl, q1s, hfr, l8⟩
      have hg8 := (hfr d (by omega) (by omega)).trans hg7
      have hold3 : ∀ q, H.n ≤ q → q < e → q ≠ d → X3.get q = X.get q := fun q h1 h2 h3 => (hfr q h1 h2).trans (hold q (by omega) h3)
      repeat' first
        | refine CO.cons rfl ?_
        | refine CO.nil ?_
        | refine CV.cond ?_
        | refine CV.skip ?_
        | refine CO.consG rfl ?_
        | fail
      refine ⟨_, _, _, _, _, _, _, hg8, rfl, ⟨rfl, ⟨?_, ?_, ⟨?_, ?_, ?_⟩, ?_, ?_, ?_⟩, ?_, ?_⟩⟩
      · rw [hfil]
        exact hJs e _ X3 _ d q1s (by omega) (by omega) (KeepX.set _ _)
      · rw [Heap.get_set_eq]; exact hg5.symm
      · rw [Heap.get_set_ne _ _ (by omega)]; exact (hold3 _ (by omega) (by omega) (by omega)).trans q3.a
      · rw [Heap.get_set_ne _ _ (by omega)]; exact (hold3 _ (by omega) (by omega) (by omega)).trans q3.b
      · rw [Heap.get_set_ne _ _ (by omega)]; exact (hold3 _ (by omega) (by omega) (by omega)).trans q3.f
      · rw [Heap.get_set_ne _ _ (by omega)]; exact (hold3 _ (by omega) (by omega) (by omega)).trans q4
      · rw [Heap.get_set_ne _ _ (by omega)]; exact (hold3 _ (by omega) (by omega) (by omega)).trans q5
      · show e ≤ X3.n; omega
      · intro q h1 h2
        rw [Heap.get_set_ne _ _ (by omega)]; exact hold3 q (by omega) (by omega) (by omega)
      · show X.n ≤ X3.n; omega
    · have hokb : okB gs rs o = false := by rw [okB, hka]; simpa using hok
      repeat' first
        | refine CO.cons rfl ?_
        | refine CO.nil ?_
        | refine CV.seq ?_
        | refine CV.region callees ?_
        | refine CV.cond ?_
        | refine CV.skip ?_
        | refine CO.consG rfl ?_
        | (refine ⟨_, cell_load ag97 hS7 rfl, ?_⟩)
        | (refine ⟨_, fun tm ha => andUu rfl (ev_tmp ha rfl) (ev_tmp ha rfl) hb1 hb2, ?_⟩)
        | (rw [hka])
        | (refine ⟨fun _ => ?_, fun _ => ?_⟩ <;> first | (exfalso; omega) | skip)
        | fail
      have hfil : (S ++ [o]).filter (okB gs rs) = S.filter (okB gs rs) := by rw [List.filter_append, List.filter_cons_of_neg (by rw [hokb]; simp)]; simp
      have hold3 : ∀ q, H.n ≤ q → q < e → q ≠ d → X2.get q = X.get q := fun q h1 h2 h3 => hold q (by omega) h3
      refine ⟨_, _, _, _, _, _, _, hg7, rfl, ⟨rfl, ⟨?_, ?_, ⟨?_, ?_, ?_⟩, ?_, ?_, ?_⟩, ?_, ?_⟩⟩
      · rw [hfil]
        exact hJs e _ X2 _ d q1'' (by omega) (by omega) (KeepX.set _ _)
      · rw [Heap.get_set_eq]; exact hg5.symm
      · rw [Heap.get_set_ne _ _ (by omega)]; exact (hold3 _ (by omega) (by omega) (by omega)).trans q3.a
      · rw [Heap.get_set_ne _ _ (by omega)]; exact (hold3 _ (by omega) (by omega) (by omega)).trans q3.b
      · rw [Heap.get_set_ne _ _ (by omega)]; exact (hold3 _ (by omega) (by omega) (by omega)).trans q3.f
      · rw [Heap.get_set_ne _ _ (by omega)]; exact (hold3 _ (by omega) (by omega) (by omega)).trans q4
      · rw [Heap.get_set_ne _ _ (by omega)]; exact (hold3 _ (by omega) (by omega) (by omega)).trans q5
      · show e ≤ X2.n; omega
      · intro q h1 h2
        rw [Heap.get_set_ne _ _ (by omega)]; exact hold3 q (by omega) (by omega) (by omega)
      · show X.n ≤ X2.n; omega
  rintro _ HZ ⟨⟨q1, q2, q3, q4, q5, q6⟩, hZn⟩
  refine ⟨_, _, _, _, _, _, _, q2.trans hg5, rfl, rfl, ?_⟩
  generalize hsZ : HZ.set d _ = HY
  have nZ := set_n hsZ
  have oZ := set_old hsZ
  repeat' first
    | fail
  exact ⟨rfl, ⟨e, by omega, by omega, hJs e _ HZ HY d q1 (by omega) (by omega) ⟨by omega, fun q _ hq => oZ q hq⟩⟩⟩
end Go.Proofs.Ytlamceokhbigaaa

