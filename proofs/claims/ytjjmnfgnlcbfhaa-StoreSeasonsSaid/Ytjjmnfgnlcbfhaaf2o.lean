
/- Combinations, by the program and by the reference. -/
import Derived.Test.Ytjjmnfgnlcbfhaaf1o
set_option linter.unusedVariables false
set_option linter.unusedSimpArgs false
namespace Go.Proofs.Ytjjmnfgnlcbfhaa
open Go.AI
theorem quoI {P : Program} {tm : Tm} {H : Heap} {o : Oper} {t u : TypeId} {x y : Operand} {a b : Int} (ho : o.op = .binOp .quo t x y u) (hx : ev P tm x = some (.int .i64 a)) (hy : ev P tm y = some (.int .i64 b)) (hb : b ≠ 0) (h0 : -9223372036854775808 ≤ a.tdiv b) (h1 : a.tdiv b < 9223372036854775808) : step1 P tm H o = some (.int .i64 (a.tdiv b), H, H.n) := by
  have := step1_quo ho hx hy hb (H := H)
  rw [wrapI h0 h1] at this
  exact this
theorem tdiv_bd {a b : Int} (h0 : 0 ≤ a) (h1 : 1 ≤ b) : 0 ≤ a.tdiv b ∧ a.tdiv b ≤ a := by
  rw [Int.tdiv_eq_ediv_of_nonneg h0]
  exact ⟨Int.ediv_nonneg h0 (by omega), Int.ediv_le_self b h0⟩
/-- The things of a combination: from the last sort on. -/
def digF (st : List Int) : Nat → Int → List Int → List Int
  | 0, _, out => out
  | i + 1, n, out => digF st i (n.tdiv st[i]!) (out.set i (n.tmod st[i]!))
def comboL (st : List Int) (n : Int) : List Int := digF st st.length n (List.replicate st.length 0)
theorem digF_len {st : List Int} : ∀ {i : Nat} {n : Int} {out : List Int}, (digF st i n out).length = out.length
  | 0, _, _ => rfl
  | i + 1, n, out => by rw [digF, digF_len, List.length_set]
theorem comboL_len {st : List Int} {n : Int} : (comboL st n).length = st.length := by rw [comboL, digF_len, List.length_replicate]
theorem zc3' : zeroCellsW Try.prog 29 = some [nilS] := by kernel_rfl
theorem alN {H : Heap} : sAlloc Try.prog H 29 = some (.pointer (some ⟨H.n, 0, none⟩), H.new (.cells [nilS] 29 1), H.n) := alloc_ofW zc3'
set_option maxHeartbeats 16000000 in
set_option maxRecDepth 100000 in
/-- What the iterator slices.Backward does. -/
theorem back_spec [Orc] {B c l : Nat} {H : Heap} {sv : Value} {xs : List Int} (J : Nat → Heap → Prop) (hB : B ≤ H.n) (hn : xs.length < 1000000) (hJ0 : J xs.length H)
    (hJ : ∀ i X, J i X → X.get c = some (.cells [sv] 29 1) ∧ Ints X sv xs ∧ B ≤ X.n)
    (hY : ∀ i X, i < xs.length → J (i + 1) X → RoundB Try.prog B l [VI i, VI xs[i]!] X (fun r X' => r = .bool true ∧ J i X')) :
    CallB Try.prog B 131 [.func (.yield l) #[] #[], .pointer (some ⟨c, 0, none⟩)] H (fun _ X' => J 0 X') := by
  refine CV.enter callees false (Orc.hv rfl rfl) Try.func131 rfl (by kernel_rfl) (Nat.le_of_ble_eq_true rfl) hB ?_ (Orc.hw rfl rfl)
  obtain ⟨hc, hx, _⟩ := hJ _ _ hJ0
  repeat' first
    | refine CO.cons rfl ?_
    | refine CO.nil ?_
    | refine CV.seq ?_
    | refine CV.region callees ?_
    | refine CV.block ?_
    | refine ⟨_, ints_len (by assumption), ?_⟩
    | refine ⟨(⟨by omega, by omega⟩ : inI64 _), ?_⟩
    | (refine ⟨_, cell_load agN hc rfl, ?_⟩)
    | fail
  refine CV.loopc ?_
  refine WCv.rounds callees false (α := Nat) (fun i => [(0, .func (.yield l) #[] #[]), (1, .pointer (some ⟨c, 0, none⟩)), (3, VI ((i : Int) - 1))]) (fun i Hz => i ≤ xs.length ∧ J i Hz) (fun i => i) (xs.length) (by repeat' first | exact trivial | refine ⟨rfl, ?_⟩ | refine ⟨slot_int (by (try simp only [Int.toNat_natCast]); omega), ?_⟩) ?_ ?_
  · exact ⟨Nat.le_refl _, hJ0⟩
  clear hc hx
  rintro i X ⟨hi, hj⟩ hBX
  obtain ⟨hc, hx, _⟩ := hJ _ _ hj
  by_cases h0 : 0 < i
  · obtain ⟨i, rfl⟩ : ∃ k, i = k + 1 := ⟨i - 1, by omega⟩
    rw [show ((i + 1 : Nat) : Int) - 1 = (i : Int) by omega]
    repeat' first
      | refine CO.cons rfl ?_
      | refine CO.nil ?_
      | refine CV.seq ?_
      | refine CV.region callees ?_
      | refine CV.cond ?_
      | refine CV.block ?_
      | refine CV.skip ?_
      | refine ⟨_, ints_addr (by assumption) (by omega) (by omega), ?_⟩
      | refine ⟨_, ints_load (by assumption) (by omega) (by omega), ?_⟩
      | (refine ⟨_, cell_load agN hc rfl, ?_⟩)
      | (refine ⟨fun _ => ?_, fun _ => ?_⟩ <;> first | (exfalso; omega) | skip)
      | fail
    refine (hY i X (by omega) hj).mono ?_
    rintro r X1 ⟨rfl, hj1⟩
    repeat' first
      | refine CO.cons rfl ?_
      | refine CO.nil ?_
      | refine CV.region callees ?_
      | refine CV.cond ?_
      | refine CV.skip ?_
      | refine ⟨(⟨by omega, by omega⟩ : inI64 _), ?_⟩
      | fail
    refine ⟨(i), (by repeat' first | exact trivial | refine ⟨rfl, ?_⟩ | refine ⟨slot_int (by (try simp only [Int.toNat_natCast]); omega), ?_⟩), (by (try dsimp only); omega), ?_⟩
    exact ⟨by omega, hj1⟩
  · obtain rfl : i = 0 := by omega
    repeat' first
      | refine CO.cons rfl ?_
      | refine CO.nil ?_
      | refine CV.seq ?_
      | refine CV.region callees ?_
      | refine CV.cond ?_
      | refine CV.exit ?_
      | (refine ⟨fun _ => ?_, fun _ => ?_⟩ <;> first | (exfalso; omega) | skip)
      | fail
    exact ⟨rfl, hj⟩
set_option maxRecDepth 100000 in
theorem back0_spec [Orc] {B : Nat} {H : Heap} {sv : Value} {xs : List Int} (hB : B ≤ H.n) (hx : Ints H sv xs) :
    CallB Try.prog B 104 [sv] H (fun v H' => (∃ c, v = .func (.func 131) #[] #[.pointer (some ⟨c, 0, none⟩)] ∧ H'.get c = some (.cells [sv] 29 1) ∧ H.n ≤ c ∧ c < H'.n) ∧ Keep H H') := by
  refine CV.enter callees false (Orc.hv rfl rfl) Try.func104 rfl (by kernel_rfl) (Nat.le_of_ble_eq_true rfl) hB ?_ (Orc.hw rfl rfl)
  repeat' first
    | refine CO.cons rfl ?_
    | refine CV.seq ?_
    | refine CV.region callees ?_
    | fail
  refine ⟨(Row.oneC hx).2.1, ?_⟩
  rw [show anew H (Value.cells sv).toList 29 1 = H.new (.cells [sv] 29 1) by rw [(Row.oneC hx).2.2]; rfl]
  generalize hs0 : Heap.new H _ = H0
  have hg0 := new_get hs0
  have k0 := new_keep hs0
  have n0 := new_n hs0
  obtain ⟨b0, hbn0⟩ : ∃ b, Heap.n H = b := ⟨_, rfl⟩
  rw [hbn0] at hg0 n0 ⊢
  repeat' first
    | refine CO.cons rfl ?_
    | refine CO.nil ?_
    | refine CV.seq ?_
    | refine CV.region callees ?_
    | refine CV.ret ?_
    | (refine ⟨(rfl : List.all _ cellLike = true), ?_⟩)
    | fail
  exact ⟨rfl, ⟨b0, rfl, hg0, by omega, by omega⟩, k0⟩
/-- What Combination answers. -/
def ComR (st : List Int) (gs : List (List Int)) (n : Int) (hn : Nat) (v : Value) (H' : Heap) : Prop :=
  (seaE st gs ≠ 0 ∧ v = .tuple #[nilS, VI (seaE st gs)]) ∨ (seaE st gs = 0 ∧ inB n 0 (combos st - 1) = false ∧ v = .tuple #[nilS, VI 7]) ∨
  (seaE st gs = 0 ∧ inB n 0 (combos st - 1) = true ∧ ∃ q, v = .tuple #[q, VI 0] ∧ Own 3 H' q ((comboL st n).map VI) hn)
set_option maxHeartbeats 16000000 in
set_option maxRecDepth 100000 in
theorem combination_spec [Orc] {B : Nat} {H : Heap} {s g : Value} {gv : List Value} {st : List Int} {gs : List (List Int)} {n : Int} (hB : B ≤ H.n) (hs : Ints H s st) (hg : Gri H g gv gs) (hsn : st.length < 1000000) (hgn : gs.length < 1000000) (hgg : ∀ x ∈ gs, x.length < 1000000) :
    CallB Try.prog B 48 [Sev s g, VI n] H (fun v H' => ComR st gs n H.n v H' ∧ Keep H H') := by
  refine CV.enter callees false (Orc.hv rfl rfl) Try.func48 rfl (by kernel_rfl) (Nat.le_of_ble_eq_true rfl) hB ?_ (Orc.hw rfl rfl)
  repeat' first
    | refine CO.cons rfl ?_
    | refine CV.seq ?_
    | refine CV.region callees ?_
    | fail
  refine ⟨(by simp only [notTuple]), ?_⟩
  rw [boxSe]
  generalize hs0 : Heap.new H _ = H0
  have hg0 := new_get hs0
  have k0 := new_keep hs0
  have n0 := new_n hs0
  obtain ⟨b0, hbn0⟩ : ∃ b, Heap.n H = b := ⟨_, rfl⟩
  rw [hbn0] at hg0 n0 ⊢
  repeat' first
    | refine CO.cons rfl ?_
    | fail
  refine ⟨(by rfl), ?_⟩
  generalize hs1' : anew H0 _ _ _ = H1
  have hs1 : H0.new (.cells [VI n] 3 1) = H1 := hs1'
  have hg1 := new_get hs1
  have k1 := new_keep hs1
  have n1 := new_n hs1
  obtain ⟨b1, hbn1⟩ : ∃ b, Heap.n H0 = b := ⟨_, rfl⟩
  rw [hbn1] at hg1 n1 ⊢
  have hS1 := (k1.2 b0 (by omega)).trans hg0
  have k01 := k0.trans k1
  have hs1x : Ints H1 s st := hs.keep k01
  have hgr1 := hg.keep k01
  repeat' first
    | refine CO.cons rfl ?_
    | refine CO.nil ?_
    | refine CV.seq ?_
    | refine CV.region callees ?_
    | (refine ⟨_, ldSe hS1, ?_⟩)
    | fail
  refine (checkSeason_spec (by omega) hs1x hgr1 hsn hgn hgg).mono ?_
  rintro r H2 ⟨rfl, k2⟩
  have l2 := k2.1
  have k02 := k01.trans k2
  by_cases he : seaE st gs = 0
  rotate_left
  · repeat' first
      | refine CO.cons rfl ?_
      | refine CO.nil ?_
      | refine CV.seq ?_
      | refine CV.region callees ?_
      | refine CV.cond ?_
      | refine CV.ret ?_
      | (refine ⟨fun _ => ?_, fun _ => ?_⟩ <;> first | (exfalso; omega) | skip)
      | fail
    exact ⟨rfl, .inl ⟨he, rfl⟩, k02⟩
  obtain ⟨hok, _, _⟩ := seaE_ok he
  have hc := hok.all
  have hS2 := (k2.2 b0 (by omega)).trans hS1
  have hN2 := (k2.2 b1 (by omega)).trans hg1
  have hs2 : Ints H2 s st := hs.keep k02
  repeat' first
    | refine CO.cons rfl ?_
    | refine CO.nil ?_
    | refine CV.seq ?_
    | refine CV.region callees ?_
    | refine CV.cond ?_
    | refine CV.skip ?_
    | (refine ⟨_, ldSe hS2, ?_⟩)
    | (refine ⟨_, cell_load ag3 hN2 rfl, ?_⟩)
    | (refine ⟨fun _ => ?_, fun _ => ?_⟩ <;> first | (exfalso; omega) | skip)
    | fail
  refine (isCombo_spec (by omega) hs2 hok).mono ?_
  cases hin : inB n 0 (combos st - 1)
  · rintro r H3 ⟨rfl, k3⟩
    repeat' first
      | refine CO.cons rfl ?_
      | refine CO.nil ?_
      | refine CV.seq ?_
      | refine CV.region callees ?_
      | refine CV.cond ?_
      | refine CV.ret ?_
      | fail
    exact ⟨rfl, .inr (.inl ⟨he, hin, rfl⟩), k02.trans k3⟩
  rintro r H3 ⟨rfl, k3⟩
  have hn0 : 0 ≤ n ∧ n ≤ 1296 := by
    simp only [inB, Bool.and_eq_true, decide_eq_true_eq] at hin
    omega
  have l3 := k3.1
  have k03 := k02.trans k3
  have hS3 := (k3.2 b0 (by omega)).trans hS2
  have hN3 := (k3.2 b1 (by omega)).trans hN2
  have hs3 : Ints H3 s st := hs.keep k03
  have hst := hok.n
  repeat' first
    | refine CO.cons rfl ?_
    | refine CO.nil ?_
    | refine CV.seq ?_
    | refine CV.region callees ?_
    | refine CV.cond ?_
    | refine CV.skip ?_
    | refine ⟨_, ints_len (by assumption), ?_⟩
    | (refine ⟨_, fS fe0 (by decide), ?_⟩)
    | (refine ⟨_, cell_load agN hS3 rfl, ?_⟩)
    | fail
  refine ⟨_, _, make_row un22 one3 (by omega) st.length (by omega), ?_⟩
  generalize hs4 : Heap.new H3 _ = H4
  have hg4 := new_get hs4
  have k4 := new_keep hs4
  have n4 := new_n hs4
  obtain ⟨b4, hbn4⟩ : ∃ b, Heap.n H3 = b := ⟨_, rfl⟩
  rw [hbn4] at hg4 n4 ⊢
  rw [← List.map_replicate] at hg4
  repeat' first
    | refine CO.cons rfl ?_
    | (refine ⟨_, _, alN, ?_⟩)
    | fail
  generalize hs5 : Heap.new H4 _ = H5
  have hg5 := new_get hs5
  have k5 := new_keep hs5
  have n5 := new_n hs5
  obtain ⟨b5, hbn5⟩ : ∃ b, Heap.n H4 = b := ⟨_, rfl⟩
  rw [hbn5] at hg5 n5 ⊢
  have hA5 := (k5.2 b4 (by omega)).trans hg4
  repeat' first
    | fail
  refine ⟨_, _, var_store szN hg5 rfl, by omega, ?_⟩
  generalize hs6 : Heap.set H5 b5 _ = H6
  have hg6 : H6.get b5 = some (.cells ([.slice (some ⟨b4, 0, none⟩) st.length 0]) 29 1) := set_get hs6
  have n6 := set_n hs6
  have o6 := set_old hs6
  have hA6 := (o6 b4 (by omega)).trans hA5
  have k36 : Keep H3 H6 := ⟨by omega, fun p hp => (o6 p (by omega)).trans ((k5.2 p (by omega)).trans (k4.2 p hp))⟩
  have k06 := k03.trans k36
  have hS6 := (k36.2 b0 (by omega)).trans hS3
  have hN6 := (k36.2 b1 (by omega)).trans hN3
  have hs6x : Ints H6 s st := hs.keep k06
  repeat' first
    | refine CO.cons rfl ?_
    | refine CO.nil ?_
    | refine CV.seq ?_
    | refine CV.region callees ?_
    | (refine ⟨_, fS fe0 (by decide), ?_⟩)
    | (refine ⟨_, cell_load agN hS6 rfl, ?_⟩)
    | fail
  refine (back0_spec (by omega) hs6x).mono ?_
  rintro v H7 ⟨⟨c, rfl, hc7, hc1, hc2⟩, k7⟩
  have l7 := k7.1
  repeat' first
    | refine CO.nil ?_
    | refine CV.block ?_
    | fail
  refine CV.rangeFunc callees ?_
  refine fun tm ha => ?_
  generalize hs8 : Heap.new H7 _ = H8
  have hg8 := new_get hs8
  have k8 := new_keep hs8
  have n8 := new_n hs8
  obtain ⟨l, hl⟩ : ∃ l, H7.n = l := ⟨_, rfl⟩
  rw [hl] at hg8 n8 ⊢
  have k68 := k7.trans k8
  have k08 := k06.trans k68
  refine (back_spec (B := B) (c := c) (l := l) (sv := s) (xs := st)
    (fun i X => ∃ (m : Int) (out : List Int), digF st i m out = comboL st n ∧ out.length = st.length ∧ 0 ≤ m ∧ m ≤ 1296 ∧ X.get b1 = some (.cells [VI m] 3 1) ∧ X.get b5 = some (.cells [.slice (some ⟨b4, 0, none⟩) st.length 0] 29 1) ∧ X.get b4 = some (.cells (out.map VI) 3 2) ∧ X.get l = H8.get l ∧ X.get c = H8.get c ∧ Keep H X ∧ H8.n ≤ X.n)
    (by omega) (by omega) ?_ ?_ ?_).mono ?_
  · exact ⟨n, _, rfl, by simp, hn0.1, hn0.2, (k68.2 b1 (by omega)).trans hN6, (k68.2 b5 (by omega)).trans hg6, (k68.2 b4 (by omega)).trans hA6, rfl, rfl, k08, Nat.le_refl _⟩
  · rintro i X ⟨m, out, q1, q2, q3, q4, q5, q6, q7, q8, q9, q10, q11⟩
    exact ⟨q9.trans ((k8.2 c (by omega)).trans hc7), hs.keep q10, by omega⟩
  · rintro i X hi ⟨m, out, q1, q2, q3, q4, q5, q6, q7, q8, q9, q10, q11⟩
    have hsm := hok.m st[i]! (by rw [getElem!_pos st i hi]; exact List.getElem_mem _)
    have hdv := tdiv_bd q3 hsm.1
    rw [digF] at q1
    refine RoundB.enter callees false (q8.trans hg8) ha rfl (by omega) (by omega) ?_
    repeat' first
      | refine CO.cons rfl ?_
      | refine CO.nil ?_
      | refine CV.seq ?_
      | refine CV.region callees ?_
      | fail
    refine ⟨_, _, _, _, _, q8.trans hg8, ?_⟩
    generalize hs9 : X.set l _ = X1
    have hg9 := set_get hs9
    have n9 := set_n hs9
    have o9 := set_old hs9
    have hm1 := (o9 b1 (by omega)).trans q5
    have hv1 := (o9 b5 (by omega)).trans q6
    have ho1 := (o9 b4 (by omega)).trans q7
    repeat' first
      | refine CO.cons rfl ?_
      | refine CV.seq ?_
      | refine CV.block ?_
      | refine CV.draw callees (by decide +kernel) ?_
      | refine CH.cons rfl ?_
      | refine CH.nil ?_
      | (refine ⟨_, cell_load agN hv1 rfl, ?_⟩)
      | (refine ⟨_, cell_load ag3 hm1 rfl, ?_⟩)
      | (refine ⟨_, fun tm ha => step1_rem rfl (ev_tmp ha rfl) (ev_tmp ha rfl) (by omega), ?_⟩)
      | (refine ⟨_, sl_adr (by omega) (by omega), ?_⟩)
      | fail
    refine ⟨_, _, arr_put ho1 (by omega), by omega, ?_⟩
    generalize hs10 : Heap.set X1 b4 _ = X2
    have hg10 := set_get hs10
    have n10 := set_n hs10
    have o10 := set_old hs10
    have hm2 := (o10 b1 (by omega)).trans hm1
    repeat' first
      | refine CO.cons rfl ?_
      | refine CO.nil ?_
      | refine CV.region callees ?_
      | refine CH.nil ?_
      | (refine ⟨_, cell_load ag3 hm2 rfl, ?_⟩)
      | (refine ⟨_, fun tm ha => quoI rfl (ev_tmp ha rfl) (ev_tmp ha rfl) (by omega) (by omega) (by omega), ?_⟩)
      | fail
    refine ⟨_, _, var_store sz3 hm2 rfl, by omega, ?_⟩
    generalize hs11 : Heap.set X2 b1 _ = X3
    have hg11 := set_get hs11
    have n11 := set_n hs11
    have o11 := set_old hs11
    repeat' first
      | refine CO.nil ?_
      | fail
    refine ⟨_, _, _, _, _, _, _, (o11 l (by omega)).trans ((o10 l (by omega)).trans hg9), rfl, ⟨rfl, m.tdiv st[i]!, out.set i (m.tmod st[i]!), q1, by rw [List.length_set]; exact q2, hdv.1, by omega, ?_, ?_, ?_, ?_, ?_, ?_, ?_⟩⟩
    · rw [Heap.get_set_ne _ _ (by omega)]; exact hg11
    · rw [Heap.get_set_ne _ _ (by omega)]; exact (o11 b5 (by omega)).trans ((o10 b5 (by omega)).trans hv1)
    · rw [Heap.get_set_ne _ _ (by omega)]; exact (o11 b4 (by omega)).trans hg10
    · rw [Heap.get_set_eq]; exact hg8.symm
    · rw [Heap.get_set_ne _ _ (by omega)]; exact (o11 c (by omega)).trans ((o10 c (by omega)).trans ((o9 c (by omega)).trans q9))
    · exact ⟨by show H.n ≤ X3.n; omega, fun p hp => by rw [Heap.get_set_ne _ _ (by omega)]; exact (o11 p (by omega)).trans ((o10 p (by omega)).trans ((o9 p (by omega)).trans (q10.2 p hp)))⟩
    · show H8.n ≤ X3.n; omega
  rintro _ HZ ⟨m, out, q1, q2, q3, q4, q5, q6, q7, q8, q9, q10, q11⟩
  refine ⟨_, _, _, _, _, _, _, q8.trans hg8, rfl, rfl, ?_⟩
  generalize hsZ : HZ.set l _ = HY
  have nZ := set_n hsZ
  have oZ := set_old hsZ
  have hvZ := (oZ b5 (by omega)).trans q6
  have hoZ := (oZ b4 (by omega)).trans q7
  have q1 : out = comboL st n := q1
  repeat' first
    | refine CO.cons rfl ?_
    | refine CO.nil ?_
    | refine CV.seq ?_
    | refine CV.region callees ?_
    | refine CV.ret ?_
    | (refine ⟨_, cell_load agN hvZ rfl, ?_⟩)
    | fail
  refine ⟨rfl, .inr (.inr ⟨he, hin, _, rfl, .inr ⟨b4, ?_, by omega, by omega, ?_⟩⟩), ⟨by have := q10.1; omega, fun p hp => (oZ p (by omega)).trans (q10.2 p hp)⟩⟩
  · rw [List.length_map, comboL_len]
  · rw [← q1]; exact hoZ
set_option maxHeartbeats 16000000 in
set_option maxRecDepth 100000 in
theorem combinationR_spec [Orc] {B : Nat} {H : Heap} {s g : Value} {gv : List Value} {st : List Int} {gs : List (List Int)} {n : Int} (hB : B ≤ H.n) (hs : Ints H s st) (hg : Gri H g gv gs) (hsn : st.length < 1000000) (hgn : gs.length < 1000000) (hgg : ∀ x ∈ gs, x.length < 1000000) :
    CallB Try.prog B 49 [Sev s g, VI n] H (fun v H' => ComR st gs n H.n v H' ∧ Keep H H') := by
  refine CV.enter callees false (Orc.hv rfl rfl) Try.func49 rfl (by kernel_rfl) (Nat.le_of_ble_eq_true rfl) hB ?_ (Orc.hw rfl rfl)
  repeat' first
    | refine CO.cons rfl ?_
    | refine CV.seq ?_
    | refine CV.region callees ?_
    | fail
  refine ⟨(by simp only [notTuple]), ?_⟩
  rw [boxSe]
  generalize hs0 : Heap.new H _ = H0
  have hg0 := new_get hs0
  have k0 := new_keep hs0
  have n0 := new_n hs0
  obtain ⟨b0, hbn0⟩ : ∃ b, Heap.n H = b := ⟨_, rfl⟩
  rw [hbn0] at hg0 n0 ⊢
  have hs0x : Ints H0 s st := hs.keep k0
  have hgr0 := hg.keep k0
  repeat' first
    | refine CO.cons rfl ?_
    | refine CO.nil ?_
    | refine CV.seq ?_
    | refine CV.region callees ?_
    | (refine ⟨_, ldSe hg0, ?_⟩)
    | fail
  refine (checkSeasonR_spec (by omega) hs0x hgr0 hsn hgn hgg).mono ?_
  rintro r H2 ⟨rfl, k2⟩
  have l2 := k2.1
  have k02 := k0.trans k2
  by_cases he : seaE st gs = 0
  rotate_left
  · repeat' first
      | refine CO.cons rfl ?_
      | refine CO.nil ?_
      | refine CV.seq ?_
      | refine CV.region callees ?_
      | refine CV.cond ?_
      | refine CV.ret ?_
      | (refine ⟨fun _ => ?_, fun _ => ?_⟩ <;> first | (exfalso; omega) | skip)
      | fail
    exact ⟨rfl, .inl ⟨he, rfl⟩, k02⟩
  obtain ⟨hok, _, _⟩ := seaE_ok he
  have hc := hok.all
  have hS2 := (k2.2 b0 (by omega)).trans hg0
  have hs2 : Ints H2 s st := hs.keep k02
  repeat' first
    | refine CO.cons rfl ?_
    | refine CO.nil ?_
    | refine CV.seq ?_
    | refine CV.region callees ?_
    | refine CV.cond ?_
    | refine CV.skip ?_
    | (refine ⟨_, ldSe hS2, ?_⟩)
    | (refine ⟨fun _ => ?_, fun _ => ?_⟩ <;> first | (exfalso; omega) | skip)
    | fail
  refine (combosR_spec (by omega) hs2 hok).mono ?_
  rintro r H3 ⟨rfl, k3⟩
  have l3 := k3.1
  have k03 := k02.trans k3
  repeat' first
    | refine CO.cons rfl ?_
    | refine ⟨(⟨by omega, by omega⟩ : inI64 _), ?_⟩
    | fail
  refine (withinR_spec (by omega)).mono ?_
  cases hin : inB n 0 (combos st - 1)
  · rintro r H4 ⟨rfl, rfl⟩
    repeat' first
      | refine CO.cons rfl ?_
      | refine CO.nil ?_
      | refine CV.seq ?_
      | refine CV.region callees ?_
      | refine CV.cond ?_
      | refine CV.ret ?_
      | fail
    exact ⟨rfl, .inr (.inl ⟨he, hin, rfl⟩), k03⟩
  rintro r H4 ⟨rfl, rfl⟩
  have hn0 : 0 ≤ n ∧ n ≤ 1296 := by
    simp only [inB, Bool.and_eq_true, decide_eq_true_eq] at hin
    omega
  have hS3 := (k3.2 b0 (by omega)).trans hS2
  have hst := hok.n
  repeat' first
    | refine CO.cons rfl ?_
    | refine CO.nil ?_
    | refine CV.seq ?_
    | refine CV.region callees ?_
    | refine CV.cond ?_
    | refine CV.skip ?_
    | (refine ⟨_, fS fe0 (by decide), ?_⟩)
    | (refine ⟨_, cell_load agN hS3 rfl, ?_⟩)
    | (refine ⟨_, ints_len (hs.keep k03), ?_⟩)
    | fail
  refine ⟨_, _, make_row un22 one3 (by omega) st.length (by omega), ?_⟩
  generalize hs5 : Heap.new H4 _ = H5
  have hg5 := new_get hs5
  have k5 := new_keep hs5
  have n5 := new_n hs5
  obtain ⟨b5, hbn5⟩ : ∃ b, Heap.n H4 = b := ⟨_, rfl⟩
  rw [hbn5] at hg5 n5 ⊢
  rw [← List.map_replicate] at hg5
  have hS5 := (k5.2 b0 (by omega)).trans hS3
  have k05 := k03.trans k5
  repeat' first
    | refine CO.cons rfl ?_
    | refine CO.nil ?_
    | refine CV.seq ?_
    | refine CV.region callees ?_
    | refine CV.block ?_
    | refine ⟨(⟨by omega, by omega⟩ : inI64 _), ?_⟩
    | (refine ⟨_, sl_len, ?_⟩)
    | fail
  refine CV.loopc ?_
  refine WCv.rounds callees false (α := Nat × Int × List Int) (fun (i, m, out) => [(1, VI m), (2, .pointer (some ⟨b0, 0, none⟩)), (7, .slice (some ⟨b5, 0, none⟩) st.length 0), (8, VI ((i : Int) - 1))]) (fun (i, m, out) Hz => i ≤ st.length ∧ digF st i m out = comboL st n ∧ out.length = st.length ∧ 0 ≤ m ∧ m ≤ 1296 ∧ Hz.get b0 = some (.cells [s, g] 68 1) ∧ Hz.get b5 = some (.cells (out.map VI) 3 2) ∧ Keep H Hz ∧ H5.n ≤ Hz.n) (fun (i, m, out) => i) (st.length, n, List.replicate st.length 0) (by repeat' first | exact trivial | refine ⟨rfl, ?_⟩ | refine ⟨slot_int (by (try simp only [Int.toNat_natCast]); omega), ?_⟩) ?_ ?_
  · exact ⟨Nat.le_refl _, rfl, by simp, hn0.1, hn0.2, hS5, hg5, k05, Nat.le_refl _⟩
  clear hS5 hg5
  rintro ⟨i, m, out⟩ X ⟨hi, q1, q2, q3, q4, q5, q6, q10, q11⟩ hBX
  have hsx : Ints X s st := hs.keep q10
  by_cases h0 : 0 < i
  · obtain ⟨i, rfl⟩ : ∃ k, i = k + 1 := ⟨i - 1, by omega⟩
    dsimp only
    rw [show ((i + 1 : Nat) : Int) - 1 = (i : Int) by omega]
    have hsm := hok.m st[i]! (by rw [getElem!_pos st i hi]; exact List.getElem_mem _)
    have hsm' : 1 ≤ st[(i : Int).toNat]! := hsm.1
    have hdv := tdiv_bd q3 hsm.1
    have hdv' : 0 ≤ m.tdiv st[(i : Int).toNat]! ∧ m.tdiv st[(i : Int).toNat]! ≤ m := hdv
    rw [digF] at q1
    repeat' first
      | refine CO.cons rfl ?_
      | refine CO.nil ?_
      | refine CV.seq ?_
      | refine CV.region callees ?_
      | refine CV.cond ?_
      | refine CV.block ?_
      | refine CV.skip ?_
      | refine ⟨_, ints_addr (by assumption) (by omega) (by omega), ?_⟩
      | refine ⟨_, ints_load (by assumption) (by omega) (by omega), ?_⟩
      | (refine ⟨_, fS fe0 (by decide), ?_⟩)
      | (refine ⟨_, cell_load agN q5 rfl, ?_⟩)
      | (refine ⟨_, fun tm ha => step1_rem rfl (ev_tmp ha rfl) (ev_tmp ha rfl) (by omega), ?_⟩)
      | (refine ⟨_, sl_adr (by omega) (by omega), ?_⟩)
      | (refine ⟨fun _ => ?_, fun _ => ?_⟩ <;> first | (exfalso; omega) | skip)
      | fail
    refine ⟨_, _, arr_put q6 (by omega), by omega, ?_⟩
    generalize hs7 : Heap.set X b5 _ = X2
    have hg7 := set_get hs7
    have n7 := set_n hs7
    have o7 := set_old hs7
    have hS7 := (o7 b0 (by omega)).trans q5
    have kX2 : Keep H X2 := ⟨by omega, fun p hp => (o7 p (by omega)).trans (q10.2 p hp)⟩
    have hsx2 : Ints X2 s st := hs.keep kX2
    repeat' first
      | refine CO.cons rfl ?_
      | refine CO.nil ?_
      | refine CV.region callees ?_
      | refine ⟨_, ints_addr (by assumption) (by omega) (by omega), ?_⟩
      | refine ⟨_, ints_load (by assumption) (by omega) (by omega), ?_⟩
      | refine ⟨(⟨by omega, by omega⟩ : inI64 _), ?_⟩
      | (refine ⟨_, fS fe0 (by decide), ?_⟩)
      | (refine ⟨_, cell_load agN hS7 rfl, ?_⟩)
      | (refine ⟨_, fun tm ha => quoI rfl (ev_tmp ha rfl) (ev_tmp ha rfl) (by omega) (by omega) (by omega), ?_⟩)
      | fail
    refine ⟨(i, m.tdiv st[i]!, out.set i (m.tmod st[i]!)), (by repeat' first | exact trivial | refine ⟨rfl, ?_⟩ | refine ⟨slot_int (by (try simp only [Int.toNat_natCast]); omega), ?_⟩), (by (try dsimp only); omega), ?_⟩
    exact ⟨by omega, q1, by rw [List.length_set]; exact q2, hdv.1, by dsimp only; omega, hS7, hg7, kX2, by omega⟩
  obtain rfl : i = 0 := by omega
  have q1 : out = comboL st n := q1
  repeat' first
    | refine CO.cons rfl ?_
    | refine CO.nil ?_
    | refine CV.seq ?_
    | refine CV.region callees ?_
    | refine CV.cond ?_
    | refine CV.exit ?_
    | refine CV.ret ?_
    | (refine ⟨fun _ => ?_, fun _ => ?_⟩ <;> first | (exfalso; omega) | skip)
    | fail
  refine ⟨rfl, .inr (.inr ⟨he, hin, _, rfl, .inr ⟨b5, ?_, by omega, by omega, ?_⟩⟩), q10⟩
  · rw [List.length_map, comboL_len]
  · rw [← q1]; exact q6
end Go.Proofs.Ytjjmnfgnlcbfhaa
