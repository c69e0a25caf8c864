
/- StoreFewest. -/
import Derived.Test.Ytijimplcjaeneaap9o
set_option linter.unusedVariables false
set_option linter.unusedSimpArgs false
namespace Go.Proofs.Ytijimplcjaeneaa
open Go.AI
set_option maxHeartbeats 32000000 in
set_option maxRecDepth 100000 in
theorem fewL_spec {v : Value} {H : Heap} {nums : List Int} (hv : Ints H v nums) (hx : nums.length ≤ 9223372036854775807) :
    CallB Try.prog H.n 13 [v] H (fun r _ => r = .bool true) := by
  have hn : H.n ≤ H.n := Nat.le_refl _
  refine CV.enter callees false rfl Try.func13 rfl (by kernel_rfl) (Nat.le_of_ble_eq_true rfl) hn ?_
  repeat' first
    | refine CO.cons rfl ?_
    | refine CO.nil ?_
    | refine CV.seq ?_
    | refine CV.region callees ?_
    | fail
  refine (boxOf_spec hn hv hx).mono ?_
  rintro r H1 ⟨⟨b, rfl, hb, hbox⟩, k1⟩
  have l1 := k1.1
  have hbn := hbox.1
  repeat' first
    | refine CO.cons rfl ?_
    | fail
  refine (seasonOf_spec (most := 6) hb l1 hbox (by omega)).mono ?_
  rintro r H2 ⟨⟨s, g, gv, st, gs, rfl, hse, hgl, hst3, hstn⟩, hb2, x2⟩
  have l2 := x2.1
  repeat' first
    | refine CO.cons rfl ?_
    | (refine ⟨_, _, alSe, ?_⟩)
    | fail
  generalize hs3 : Heap.new H2 _ = H3
  have hg3 := new_get hs3
  have k3 := new_keep hs3
  have n3 := new_n hs3
  obtain ⟨b3, hbn3⟩ : ∃ b, Heap.n H2 = b := ⟨_, rfl⟩
  rw [hbn3] at hg3 n3 ⊢
  repeat' first
    | fail
  refine ⟨_, _, stSe (Row.oneC (hse.s.keep k3).row).1 (Row.oneC (hse.g.keep k3).row).1 hg3, by omega, ?_⟩
  generalize hs4 : Heap.set H3 b3 _ = H4
  have hg4 : H4.get b3 = some (.cells ([s, g]) 68 1) := set_get hs4
  have n4 := set_n hs4
  have o4 := set_old hs4
  have k24 : Keep H2 H4 := keep_put k3 (by omega) o4 n4
  have l4 := k24.1
  have hok := hse.so
  have hc := hok.all
  have hseok : seaE st gs = 0 := hse.ok (by omega)
  have hgo := gsOk_of hseok
  have hs4 : Ints H4 s st := (hse.s.keep k24).row
  have hg4x : Gri H4 g gv gs := hse.gri.keep k24
  have hglen : ∀ i, i < gs.length → gs[i]!.length < 1000000 := fun i hi => by have := (hse.go i hi).m; omega
  have hgmem : ∀ x ∈ gs, x.length < 1000000 := fun x hx => by
    obtain ⟨i, hi, rfl⟩ := List.getElem_of_mem hx
    have := hglen i hi
    rwa [getElem!_pos gs i hi] at this
  clear hse hb2 hg3
  obtain ⟨K, hK⟩ : ∃ K : Nat, combos st = (K : Int) := ⟨(combos st).toNat, by omega⟩
  have e1 : plaXs st gs = planA gs K := by unfold plaXs; rw [if_pos hseok, hK]; rfl
  have e2 : fewXs st gs = planB gs K := by unfold fewXs; rw [if_pos hseok, hK]; rfl
  have hA := (planA_ok (gs := gs) (K := K)).n
  have hB := planB_ok (K := K) hgo (by omega)
  have hzz := plans_zero (K := K) hgo (by omega)
  obtain ⟨Q, hQe⟩ : ∃ P, planA gs K = P := ⟨_, rfl⟩
  obtain ⟨⟨P, M⟩, hPe⟩ : ∃ P, planB gs K = P := ⟨_, rfl⟩
  rw [hQe] at e1 hA hzz
  rw [hPe] at e2 hB hzz
  obtain ⟨hPn, hz, hlt, hm, hle, A, Bq, hAB, hA'⟩ := hB
  simp only at hPn hz hlt hm hle hAB hA' hzz
  rw [← hPn] at hle hAB
  repeat' first
    | refine CO.cons rfl ?_
    | refine CO.nil ?_
    | refine CV.seq ?_
    | refine CV.region callees ?_
    | (refine ⟨_, ldSe hg4, ?_⟩)
    | fail
  refine (fewest_spec (by omega) hs4 hg4x (by omega) (by omega) hgmem).mono ?_
  rw [e2, hseok]
  rintro r H5 ⟨⟨pv, rfl, hp5⟩, k5⟩
  have l5 := k5.1
  have hS5 := (k5.2 b3 (by omega)).trans hg4
  have hs5 : Ints H5 s st := hs4.keep k5
  have hg5 := hg4x.keep k5
  repeat' first
    | refine CO.cons rfl ?_
    | refine CO.nil ?_
    | refine CV.seq ?_
    | refine CV.region callees ?_
    | (refine ⟨_, ldSe hS5, ?_⟩)
    | fail
  refine (plan_spec (by omega) hs5 hg5 (by omega) (by omega) hgmem).mono ?_
  rw [e1, hseok]
  rintro r H6 ⟨⟨lv, rfl, hl6⟩, k6⟩
  have l6 := k6.1
  have hS6 := (k6.2 b3 (by omega)).trans hS5
  have hs6 : Ints H6 s st := hs5.keep k6
  have hg6 := hg5.keep k6
  have hp6 : Ints H6 pv P := Row.keep hp5 k6
  have hpe : planE st gs P = 0 := by
    unfold planE
    rw [if_pos hseok, if_neg (by omega)]
    exact plE_of fun y hy => by have := hm y hy; omega
  have hz' : (repS gs P P.length).2.2 = M := hz
  have hrv : repV st gs P = .tuple #[VI (repS gs P P.length).1, VI (repS gs P P.length).2.1, VI M, VI 0] := by unfold repV; rw [if_pos hpe, hz']
  repeat' first
    | refine CO.cons rfl ?_
    | refine CO.nil ?_
    | refine CV.seq ?_
    | refine CV.region callees ?_
    | (refine ⟨_, ldSe hS6, ?_⟩)
    | fail
  refine (repeats_spec (by omega) hs6 hg6 hp6 (by omega) (by omega) hgmem (by omega)).mono ?_
  rw [hrv]
  rintro r HA ⟨rfl, kA⟩
  have lA := kA.1
  have hSA := (kA.2 b3 (by omega)).trans hS6
  have hgA := hg6.keep kA
  have hsA : Ints HA s st := Row.keep hs6 kA
  have hpA : Ints HA pv P := Row.keep hp6 kA
  have hlA : Ints HA lv Q := Row.keep hl6 kA
  have hrep : ∀ q : List Int, q.length ≤ gs.length → repT gs q q.length 12 = repP gs q := fun q hq => repT_all hgo hq
  generalize (repS gs P P.length).1 = ga
  generalize (repS gs P P.length).2.1 = gu
  repeat' first
    | refine CO.cons rfl ?_
    | refine CO.nil ?_
    | refine CV.seq ?_
    | refine CV.region callees ?_
    | refine CO.consG rfl ?_
    | refine ⟨_, ints_len (by assumption), ?_⟩
    | (refine ⟨_, fS fe1 (by decide), ?_⟩)
    | (refine ⟨_, cell_load agGr hSA rfl, ?_⟩)
    | (refine ⟨_, hgA.alen, ?_⟩)
    | (refine ⟨_, ldSe hSA, ?_⟩)
    | (refine ⟨fun _ => ?_, fun _ => ?_⟩ <;> first | (exfalso; omega) | skip)
    | fail
  refine (repeatsL_spec (by omega) hgA hpA (by omega) (by omega) hglen).mono ?_
  rw [hrep P (by omega), hz]
  rintro r HB ⟨rfl, kB⟩
  have lB := kB.1
  have hSB := (kB.2 b3 (by omega)).trans hSA
  have hgB := hgA.keep kB
  have hsB : Ints HB s st := Row.keep hsA kB
  have hpB : Ints HB pv P := Row.keep hpA kB
  have hlB : Ints HB lv Q := Row.keep hlA kB
  replace hA := hA'
  by_cases hM : M = 0
  · have hQ : Q.length = gs.length := hzz.1 hM
    repeat' first
      | refine CO.cons rfl ?_
      | refine CO.nil ?_
      | refine CV.seq ?_
      | refine CV.region callees ?_
      | refine CV.cond ?_
      | refine CV.skip ?_
      | refine CO.consG rfl ?_
      | refine ⟨_, ints_len (by assumption), ?_⟩
      | (refine ⟨_, fS fe1 (by decide), ?_⟩)
      | (refine ⟨_, cell_load agGr hSB rfl, ?_⟩)
      | (refine ⟨_, hgB.alen, ?_⟩)
      | (refine ⟨_, ldSe hSB, ?_⟩)
      | (refine ⟨_, fun tm ha => step1_boolNeq un4 rfl (ev_tmp ha rfl) (ev_tmp ha rfl), ?_⟩)
      | (refine ⟨fun _ => ?_, fun _ => ?_⟩ <;> first | (exfalso; omega) | skip)
      | fail
    refine (plansL_spec (n := P.length) (by omega) hsB hok hK (by omega)).mono ?_
    rintro w HC ⟨⟨ww, hwC⟩, kC⟩
    have lC := kC.1
    have hSC := (kC.2 b3 (by omega)).trans hSB
    have hgC := hgB.keep kC
    have hpC : Ints HC pv P := Row.keep hpB kC
    have hAl : A.length < (genK K P.length []).length := by rw [hAB]; simp
    have hg1n := gen_len (K := K) (n := P.length) (by omega)
    repeat' first
      | refine CO.cons rfl ?_
      | refine CO.nil ?_
      | refine CV.seq ?_
      | refine CV.region callees ?_
      | refine CV.block ?_
      | fail
    refine CV.loopc ?_
    refine WCv.rounds callees false (α := Nat × Bool) (fun (i, x) => [(3, .pointer (some ⟨b3, 0, none⟩)), (4, pv), (5, VI M), (13, .bool x), (14, w), (15, VI i)]) (fun (i, x) Hz => i ≤ (genK K P.length []).length ∧ x = decide (i ≤ A.length) ∧ Keep HC Hz) (fun (i, x) => (genK K P.length []).length - i) (0, true) (by repeat' first | exact trivial | refine ⟨rfl, ?_⟩ | refine ⟨slot_int (by (try simp only [Int.toNat_natCast]); omega), ?_⟩) ?_ ?_
    · exact ⟨by omega, by simp, Keep.refl _⟩
    rintro ⟨i, x⟩ Hx ⟨hi, rfl, kx⟩ hBx
    have lx := kx.1
    have hwx := hwC.keep kx
    have hgx := hgC.keep kx
    have hpx : Ints Hx pv P := Row.keep hpC kx
    have hSx := (kx.2 b3 (by omega)).trans hSC
    by_cases hi2 : i < (genK K P.length []).length
    rotate_left
    · obtain rfl : i = (genK K P.length []).length := by omega
      rw [decide_eq_false (by omega)]
      repeat' first
        | refine CO.cons rfl ?_
        | refine CO.nil ?_
        | refine CV.seq ?_
        | refine CV.region callees ?_
        | refine CV.cond ?_
        | refine CV.exit ?_
        | refine CO.consG rfl ?_
        | (refine ⟨_, hwx.alen, ?_⟩)
        | (refine ⟨fun _ => ?_, fun _ => ?_⟩ <;> first | (exfalso; omega) | skip)
        | fail
      refine (awake_spec (by omega)).mono ?_
      rintro r I5 ⟨rfl, j5⟩
      repeat' first
        | refine CO.cons rfl ?_
        | refine CO.nil ?_
        | refine CV.ret ?_
        | fail
      exact ⟨rfl, rfl⟩
    have had := hwx.addr hi2
    have hld := hwx.load hi2
    have hli := hwx.ints i hi2
    have hmem : (genK K P.length [])[i]! ∈ genK K P.length [] := by rw [getElem!_pos _ i hi2]; exact List.getElem_mem _
    have hqn : (genK K P.length [])[i]!.length = P.length := by
      have := (gen_rep (gs := gs) hmem).2
      simpa using this
    have hqi := hle _ hmem
    have hlt : i < A.length → M < repP gs (genK K P.length [])[i]! := fun h => by
      refine hA _ ?_
      have h2 : (genK K P.length [])[i]? = A[i]? := by rw [hAB, List.getElem?_append_left h]
      rw [List.getElem?_eq_getElem hi2, List.getElem?_eq_getElem h] at h2
      rw [getElem!_pos _ i hi2, Option.some.inj h2]
      exact List.getElem_mem _
    have heq : i = A.length → (genK K P.length [])[i]! = P := fun h => by
      have h2 : (genK K P.length [])[i]? = some P := by rw [hAB, List.getElem?_append_right (by omega), h]; simp
      rw [List.getElem?_eq_getElem hi2] at h2
      rw [getElem!_pos _ i hi2, Option.some.inj h2]
    obtain ⟨qi, hqe⟩ : ∃ q, (genK K P.length [])[i]! = q := ⟨_, rfl⟩
    rw [hqe] at hqi hqn hli hlt heq
    clear hmem
    by_cases hi3 : i ≤ A.length
    · rw [decide_eq_true hi3]
      repeat' first
        | refine CO.cons rfl ?_
        | refine CO.nil ?_
        | refine CV.seq ?_
        | refine CV.region callees ?_
        | refine CV.cond ?_
        | refine CV.block ?_
        | refine CV.skip ?_
        | refine CO.consG rfl ?_
        | (refine ⟨_, hwx.alen, ?_⟩)
        | (refine ⟨_, had, ?_⟩)
        | (refine ⟨_, hld, ?_⟩)
        | (refine ⟨fun _ => ?_, fun _ => ?_⟩ <;> first | (exfalso; omega) | skip)
        | fail
      refine (eqInts_spec (by omega) hli hpx (by omega)).mono ?_
      by_cases hi4 : i < A.length
      · have hgt := hlt hi4
        have hne : ¬ qi = P := fun h => by rw [h, hz] at hgt; omega
        rw [decide_eq_false hne]
        rintro r HD ⟨rfl, kD⟩
        have lD := kD.1
        have hSD := (kD.2 b3 (by omega)).trans hSx
        have hwD := hwx.keep kD
        have had2 := hwD.addr hi2
        have hld2 := hwD.load hi2
        repeat' first
          | refine CO.cons rfl ?_
          | refine CO.nil ?_
          | refine CV.seq ?_
          | refine CV.draw callees (by decide +kernel) ?_
          | refine CH.cons rfl ?_
          | refine CH.nil ?_
          | refine CO.consG rfl ?_
          | (refine ⟨_, ldSe hSD, ?_⟩)
          | (refine ⟨_, had2, ?_⟩)
          | (refine ⟨_, hld2, ?_⟩)
          | fail
        refine (repeatsL_spec (plan := qi) (by omega) (hgx.keep kD) (Row.keep hli kD) (by omega) (by omega) hglen).mono ?_
        rw [hrep qi (by omega)]
        rintro r HE ⟨rfl, kE⟩
        repeat' first
          | refine CO.cons rfl ?_
          | refine CO.nil ?_
          | refine CV.seq ?_
          | refine CV.region callees ?_
          | refine CV.cond ?_
          | refine CV.skip ?_
          | refine CH.cons rfl ?_
          | refine CH.nil ?_
          | refine CO.consG rfl ?_
          | refine ⟨(⟨by omega, by omega⟩ : inI64 _), ?_⟩
          | (refine ⟨fun _ => ?_, fun _ => ?_⟩ <;> first | (exfalso; omega) | skip)
          | fail
        refine ⟨(i + 1, true), (by repeat' first | exact trivial | refine ⟨rfl, ?_⟩ | refine ⟨slot_int (by (try simp only [Int.toNat_natCast]); omega), ?_⟩), (by (try dsimp only); omega), ?_⟩
        exact ⟨by omega, (decide_eq_true (by omega)).symm, (kx.trans kD).trans kE⟩
      · have hq := heq (by omega)
        have hrq : repP gs qi = M := by rw [hq, hz]
        rw [decide_eq_true hq]
        rintro r HD ⟨rfl, kD⟩
        have lD := kD.1
        have hSD := (kD.2 b3 (by omega)).trans hSx
        have hwD := hwx.keep kD
        have had2 := hwD.addr hi2
        have hld2 := hwD.load hi2
        repeat' first
          | refine CO.cons rfl ?_
          | refine CO.nil ?_
          | refine CV.seq ?_
          | refine CV.draw callees (by decide +kernel) ?_
          | refine CH.cons rfl ?_
          | refine CH.nil ?_
          | refine CO.consG rfl ?_
          | (refine ⟨_, ldSe hSD, ?_⟩)
          | (refine ⟨_, had2, ?_⟩)
          | (refine ⟨_, hld2, ?_⟩)
          | fail
        refine (repeatsL_spec (plan := qi) (by omega) (hgx.keep kD) (Row.keep hli kD) (by omega) (by omega) hglen).mono ?_
        rw [hrep qi (by omega), hrq]
        rintro r HE ⟨rfl, kE⟩
        repeat' first
          | refine CO.cons rfl ?_
          | refine CO.nil ?_
          | refine CV.seq ?_
          | refine CV.region callees ?_
          | refine CV.cond ?_
          | refine CV.skip ?_
          | refine CH.cons rfl ?_
          | refine CH.nil ?_
          | refine CO.consG rfl ?_
          | refine ⟨(⟨by omega, by omega⟩ : inI64 _), ?_⟩
          | (refine ⟨fun _ => ?_, fun _ => ?_⟩ <;> first | (exfalso; omega) | skip)
          | fail
        refine ⟨(i + 1, false), (by repeat' first | exact trivial | refine ⟨rfl, ?_⟩ | refine ⟨slot_int (by (try simp only [Int.toNat_natCast]); omega), ?_⟩), (by (try dsimp only); omega), ?_⟩
        exact ⟨by omega, (decide_eq_false (by omega)).symm, (kx.trans kD).trans kE⟩
    · rw [decide_eq_false hi3]
      repeat' first
        | refine CO.cons rfl ?_
        | refine CO.nil ?_
        | refine CV.seq ?_
        | refine CV.region callees ?_
        | refine CV.cond ?_
        | refine CV.block ?_
        | refine CV.skip ?_
        | refine CV.draw callees (by decide +kernel) ?_
        | refine CH.cons rfl ?_
        | refine CH.nil ?_
        | refine CO.consG rfl ?_
        | (refine ⟨_, hwx.alen, ?_⟩)
        | (refine ⟨_, had, ?_⟩)
        | (refine ⟨_, hld, ?_⟩)
        | (refine ⟨_, ldSe hSx, ?_⟩)
        | (refine ⟨fun _ => ?_, fun _ => ?_⟩ <;> first | (exfalso; omega) | skip)
        | fail
      refine (repeatsL_spec (plan := qi) (by omega) hgx hli (by omega) (by omega) hglen).mono ?_
      rw [hrep qi (by omega)]
      rintro r HE ⟨rfl, kE⟩
      repeat' first
        | refine CO.cons rfl ?_
        | refine CO.nil ?_
        | refine CV.seq ?_
        | refine CV.region callees ?_
        | refine CV.cond ?_
        | refine CV.skip ?_
        | refine CH.cons rfl ?_
        | refine CH.nil ?_
        | refine CO.consG rfl ?_
        | refine ⟨(⟨by omega, by omega⟩ : inI64 _), ?_⟩
        | (refine ⟨fun _ => ?_, fun _ => ?_⟩ <;> first | (exfalso; omega) | skip)
        | fail
      refine ⟨(i + 1, false), (by repeat' first | exact trivial | refine ⟨rfl, ?_⟩ | refine ⟨slot_int (by (try simp only [Int.toNat_natCast]); omega), ?_⟩), (by (try dsimp only); omega), ?_⟩
      exact ⟨by omega, (decide_eq_false (by omega)).symm, kx.trans kE⟩
  · have hQ : ¬ Q.length = gs.length := fun h => hM (hzz.2 h)
    repeat' first
      | refine CO.cons rfl ?_
      | refine CO.nil ?_
      | refine CV.seq ?_
      | refine CV.region callees ?_
      | refine CV.cond ?_
      | refine CV.skip ?_
      | refine CO.consG rfl ?_
      | refine ⟨_, ints_len (by assumption), ?_⟩
      | (refine ⟨_, fS fe1 (by decide), ?_⟩)
      | (refine ⟨_, cell_load agGr hSB rfl, ?_⟩)
      | (refine ⟨_, hgB.alen, ?_⟩)
      | (refine ⟨_, ldSe hSB, ?_⟩)
      | (refine ⟨_, fun tm ha => step1_boolNeq un4 rfl (ev_tmp ha rfl) (ev_tmp ha rfl), ?_⟩)
      | (refine ⟨fun _ => ?_, fun _ => ?_⟩ <;> first | (exfalso; omega) | skip)
      | fail
    refine (plansL_spec (n := P.length) (by omega) hsB hok hK (by omega)).mono ?_
    rintro w HC ⟨⟨ww, hwC⟩, kC⟩
    have lC := kC.1
    have hSC := (kC.2 b3 (by omega)).trans hSB
    have hgC := hgB.keep kC
    have hpC : Ints HC pv P := Row.keep hpB kC
    have hAl : A.length < (genK K P.length []).length := by rw [hAB]; simp
    have hg1n := gen_len (K := K) (n := P.length) (by omega)
    repeat' first
      | refine CO.cons rfl ?_
      | refine CO.nil ?_
      | refine CV.seq ?_
      | refine CV.region callees ?_
      | refine CV.block ?_
      | fail
    refine CV.loopc ?_
    refine WCv.rounds callees false (α := Nat × Bool) (fun (i, x) => [(3, .pointer (some ⟨b3, 0, none⟩)), (4, pv), (5, VI M), (13, .bool x), (14, w), (15, VI i)]) (fun (i, x) Hz => i ≤ (genK K P.length []).length ∧ x = decide (i ≤ A.length) ∧ Keep HC Hz) (fun (i, x) => (genK K P.length []).length - i) (0, true) (by repeat' first | exact trivial | refine ⟨rfl, ?_⟩ | refine ⟨slot_int (by (try simp only [Int.toNat_natCast]); omega), ?_⟩) ?_ ?_
    · exact ⟨by omega, by simp, Keep.refl _⟩
    rintro ⟨i, x⟩ Hx ⟨hi, rfl, kx⟩ hBx
    have lx := kx.1
    have hwx := hwC.keep kx
    have hgx := hgC.keep kx
    have hpx : Ints Hx pv P := Row.keep hpC kx
    have hSx := (kx.2 b3 (by omega)).trans hSC
    by_cases hi2 : i < (genK K P.length []).length
    rotate_left
    · obtain rfl : i = (genK K P.length []).length := by omega
      rw [decide_eq_false (by omega)]
      repeat' first
        | refine CO.cons rfl ?_
        | refine CO.nil ?_
        | refine CV.seq ?_
        | refine CV.region callees ?_
        | refine CV.cond ?_
        | refine CV.exit ?_
        | refine CO.consG rfl ?_
        | (refine ⟨_, hwx.alen, ?_⟩)
        | (refine ⟨fun _ => ?_, fun _ => ?_⟩ <;> first | (exfalso; omega) | skip)
        | fail
      refine (awake_spec (by omega)).mono ?_
      rintro r I5 ⟨rfl, j5⟩
      repeat' first
        | refine CO.cons rfl ?_
        | refine CO.nil ?_
        | refine CV.ret ?_
        | fail
      exact ⟨rfl, rfl⟩
    have had := hwx.addr hi2
    have hld := hwx.load hi2
    have hli := hwx.ints i hi2
    have hmem : (genK K P.length [])[i]! ∈ genK K P.length [] := by rw [getElem!_pos _ i hi2]; exact List.getElem_mem _
    have hqn : (genK K P.length [])[i]!.length = P.length := by
      have := (gen_rep (gs := gs) hmem).2
      simpa using this
    have hqi := hle _ hmem
    have hlt : i < A.length → M < repP gs (genK K P.length [])[i]! := fun h => by
      refine hA _ ?_
      have h2 : (genK K P.length [])[i]? = A[i]? := by rw [hAB, List.getElem?_append_left h]
      rw [List.getElem?_eq_getElem hi2, List.getElem?_eq_getElem h] at h2
      rw [getElem!_pos _ i hi2, Option.some.inj h2]
      exact List.getElem_mem _
    have heq : i = A.length → (genK K P.length [])[i]! = P := fun h => by
      have h2 : (genK K P.length [])[i]? = some P := by rw [hAB, List.getElem?_append_right (by omega), h]; simp
      rw [List.getElem?_eq_getElem hi2] at h2
      rw [getElem!_pos _ i hi2, Option.some.inj h2]
    obtain ⟨qi, hqe⟩ : ∃ q, (genK K P.length [])[i]! = q := ⟨_, rfl⟩
    rw [hqe] at hqi hqn hli hlt heq
    clear hmem
    by_cases hi3 : i ≤ A.length
    · rw [decide_eq_true hi3]
      repeat' first
        | refine CO.cons rfl ?_
        | refine CO.nil ?_
        | refine CV.seq ?_
        | refine CV.region callees ?_
        | refine CV.cond ?_
        | refine CV.block ?_
        | refine CV.skip ?_
        | refine CO.consG rfl ?_
        | (refine ⟨_, hwx.alen, ?_⟩)
        | (refine ⟨_, had, ?_⟩)
        | (refine ⟨_, hld, ?_⟩)
        | (refine ⟨fun _ => ?_, fun _ => ?_⟩ <;> first | (exfalso; omega) | skip)
        | fail
      refine (eqInts_spec (by omega) hli hpx (by omega)).mono ?_
      by_cases hi4 : i < A.length
      · have hgt := hlt hi4
        have hne : ¬ qi = P := fun h => by rw [h, hz] at hgt; omega
        rw [decide_eq_false hne]
        rintro r HD ⟨rfl, kD⟩
        have lD := kD.1
        have hSD := (kD.2 b3 (by omega)).trans hSx
        have hwD := hwx.keep kD
        have had2 := hwD.addr hi2
        have hld2 := hwD.load hi2
        repeat' first
          | refine CO.cons rfl ?_
          | refine CO.nil ?_
          | refine CV.seq ?_
          | refine CV.draw callees (by decide +kernel) ?_
          | refine CH.cons rfl ?_
          | refine CH.nil ?_
          | refine CO.consG rfl ?_
          | (refine ⟨_, ldSe hSD, ?_⟩)
          | (refine ⟨_, had2, ?_⟩)
          | (refine ⟨_, hld2, ?_⟩)
          | fail
        refine (repeatsL_spec (plan := qi) (by omega) (hgx.keep kD) (Row.keep hli kD) (by omega) (by omega) hglen).mono ?_
        rw [hrep qi (by omega)]
        rintro r HE ⟨rfl, kE⟩
        repeat' first
          | refine CO.cons rfl ?_
          | refine CO.nil ?_
          | refine CV.seq ?_
          | refine CV.region callees ?_
          | refine CV.cond ?_
          | refine CV.skip ?_
          | refine CH.cons rfl ?_
          | refine CH.nil ?_
          | refine CO.consG rfl ?_
          | refine ⟨(⟨by omega, by omega⟩ : inI64 _), ?_⟩
          | (refine ⟨fun _ => ?_, fun _ => ?_⟩ <;> first | (exfalso; omega) | skip)
          | fail
        refine ⟨(i + 1, true), (by repeat' first | exact trivial | refine ⟨rfl, ?_⟩ | refine ⟨slot_int (by (try simp only [Int.toNat_natCast]); omega), ?_⟩), (by (try dsimp only); omega), ?_⟩
        exact ⟨by omega, (decide_eq_true (by omega)).symm, (kx.trans kD).trans kE⟩
      · have hq := heq (by omega)
        have hrq : repP gs qi = M := by rw [hq, hz]
        rw [decide_eq_true hq]
        rintro r HD ⟨rfl, kD⟩
        have lD := kD.1
        have hSD := (kD.2 b3 (by omega)).trans hSx
        have hwD := hwx.keep kD
        have had2 := hwD.addr hi2
        have hld2 := hwD.load hi2
        repeat' first
          | refine CO.cons rfl ?_
          | refine CO.nil ?_
          | refine CV.seq ?_
          | refine CV.draw callees (by decide +kernel) ?_
          | refine CH.cons rfl ?_
          | refine CH.nil ?_
          | refine CO.consG rfl ?_
          | (refine ⟨_, ldSe hSD, ?_⟩)
          | (refine ⟨_, had2, ?_⟩)
          | (refine ⟨_, hld2, ?_⟩)
          | fail
        refine (repeatsL_spec (plan := qi) (by omega) (hgx.keep kD) (Row.keep hli kD) (by omega) (by omega) hglen).mono ?_
        rw [hrep qi (by omega), hrq]
        rintro r HE ⟨rfl, kE⟩
        repeat' first
          | refine CO.cons rfl ?_
          | refine CO.nil ?_
          | refine CV.seq ?_
          | refine CV.region callees ?_
          | refine CV.cond ?_
          | refine CV.skip ?_
          | refine CH.cons rfl ?_
          | refine CH.nil ?_
          | refine CO.consG rfl ?_
          | refine ⟨(⟨by omega, by omega⟩ : inI64 _), ?_⟩
          | (refine ⟨fun _ => ?_, fun _ => ?_⟩ <;> first | (exfalso; omega) | skip)
          | fail
        refine ⟨(i + 1, false), (by repeat' first | exact trivial | refine ⟨rfl, ?_⟩ | refine ⟨slot_int (by (try simp only [Int.toNat_natCast]); omega), ?_⟩), (by (try dsimp only); omega), ?_⟩
        exact ⟨by omega, (decide_eq_false (by omega)).symm, (kx.trans kD).trans kE⟩
    · rw [decide_eq_false hi3]
      repeat' first
        | refine CO.cons rfl ?_
        | refine CO.nil ?_
        | refine CV.seq ?_
        | refine CV.region callees ?_
        | refine CV.cond ?_
        | refine CV.block ?_
        | refine CV.skip ?_
        | refine CV.draw callees (by decide +kernel) ?_
        | refine CH.cons rfl ?_
        | refine CH.nil ?_
        | refine CO.consG rfl ?_
        | (refine ⟨_, hwx.alen, ?_⟩)
        | (refine ⟨_, had, ?_⟩)
        | (refine ⟨_, hld, ?_⟩)
        | (refine ⟨_, ldSe hSx, ?_⟩)
        | (refine ⟨fun _ => ?_, fun _ => ?_⟩ <;> first | (exfalso; omega) | skip)
        | fail
      refine (repeatsL_spec (plan := qi) (by omega) hgx hli (by omega) (by omega) hglen).mono ?_
      rw [hrep qi (by omega)]
      rintro r HE ⟨rfl, kE⟩
      repeat' first
        | refine CO.cons rfl ?_
        | refine CO.nil ?_
        | refine CV.seq ?_
        | refine CV.region callees ?_
        | refine CV.cond ?_
        | refine CV.skip ?_
        | refine CH.cons rfl ?_
        | refine CH.nil ?_
        | refine CO.consG rfl ?_
        | refine ⟨(⟨by omega, by omega⟩ : inI64 _), ?_⟩
        | (refine ⟨fun _ => ?_, fun _ => ?_⟩ <;> first | (exfalso; omega) | skip)
        | fail
      refine ⟨(i + 1, false), (by repeat' first | exact trivial | refine ⟨rfl, ?_⟩ | refine ⟨slot_int (by (try simp only [Int.toNat_natCast]); omega), ?_⟩), (by (try dsimp only); omega), ?_⟩
      exact ⟨by omega, (decide_eq_false (by omega)).symm, kx.trans kE⟩
end Go.Proofs.Ytijimplcjaeneaa
