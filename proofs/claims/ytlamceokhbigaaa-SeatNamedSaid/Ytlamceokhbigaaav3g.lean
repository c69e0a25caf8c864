
/- The conflict, as it runs. -/
import Derived.Test.Ytlamceokhbigaaav1g
import Derived.Test.Ytlamceokhbigaaav2g
set_option linter.unusedVariables false
set_option linter.unusedSimpArgs false
namespace Go.Proofs.Ytlamceokhbigaaa
open Go.AI
abbrev eT : TypeId := 37
abbrev tT : TypeId := 114
theorem zcE : zeroCellsW Try.prog eT = some [VI 0] := by kernel_rfl
theorem szE : sizeB Try.prog eT = some 1 := by kernel_rfl
theorem agE : isAggB Try.prog eT = some false := by kernel_rfl
theorem alE {H : Heap} : sAlloc Try.prog H eT = some (.pointer (some ⟨H.n, 0, none⟩), H.new (.cells [VI 0] eT 1), H.n) := alloc_ofW zcE
theorem zcT : zeroCellsW Try.prog tT = some (List.replicate 4096 (.bool false)) := by kernel_rfl
theorem unT : Try.prog.underlying tT = some (.array 4096 4) := by kernel_rfl
theorem sz4 : sizeB Try.prog 4 = some 1 := by kernel_rfl
theorem ag4 : isAggB Try.prog 4 = some false := by kernel_rfl
theorem zcU : zeroCellsW Try.prog uS = some [nilS] := by kernel_rfl
theorem szUS : sizeB Try.prog uS = some 1 := by kernel_rfl
theorem agUS : isAggB Try.prog uS = some false := by kernel_rfl
theorem alU {H : Heap} : sAlloc Try.prog H uS = some (.pointer (some ⟨H.n, 0, none⟩), H.new (.cells [nilS] uS 1), H.n) := alloc_ofW zcU
/-- A table of what has been seen. -/
def tabB (A : List Nat) : List Value := (List.range 4096).map fun (i : Nat) => .bool (decide (i ∈ A))
theorem tabB_len {A : List Nat} : (tabB A).length = 4096 := by unfold tabB; rw [List.length_map, List.length_range]
theorem tabB_get {A : List Nat} {i : Nat} (h : i < (tabB A).length) : (tabB A)[i] = .bool (decide (i ∈ A)) := by simp only [tabB, List.getElem_map, List.getElem_range]
theorem tabB_nil : List.replicate 4096 (Value.bool false) = tabB [] := by
  apply List.ext_getElem
  · rw [tabB_len, List.length_replicate]
  · intro i h1 h2
    rw [List.getElem_replicate, tabB_get]
    simp
theorem tabB_at {A : List Nat} {a : Nat} (h : a < 4096) : (tabB A)[a]? = some (.bool (decide (a ∈ A))) := by
  unfold tabB
  rw [List.getElem?_map, List.getElem?_range h]
  rfl
theorem tabB_set {A : List Nat} {a : Nat} (h : a < 4096) : (tabB A).set a (.bool true) = tabB (A ++ [a]) := by
  apply List.ext_getElem
  · rw [List.length_set, tabB_len, tabB_len]
  · intro i h1 h2
    rw [List.getElem_set, tabB_get, tabB_get]
    by_cases e : a = i
    · rw [if_pos e]
      subst e
      simp
    · rw [if_neg e]
      congr 1
      rw [decide_eq_decide, List.mem_append, List.mem_singleton]
      exact ⟨fun h => .inl h, fun h => h.elim id fun h => absurd h.symm e⟩
theorem alT {H : Heap} : sAlloc Try.prog H tT = some (.pointer (some ⟨H.n, 0, none⟩), H.new (.cells (tabB []) tT 1), H.n) := by
  rw [← tabB_nil]
  exact alloc_ofW zcT
theorem arrT {b i : Nat} {k : Int} {kd : IntKind} (h0 : 0 ≤ k) (h1 : k < 4096) : aindexAddr Try.prog tT (.pointer (some ⟨b, i, none⟩)) (.int kd k) = some (.pointer (some ⟨b, i + k.toNat * 1, none⟩)) := array_addrW unT sz4 h0 h1
theorem ul_push {K : Value → Heap → Prop} {B B0 : Nat} {H : Heap} {x : Value} {A : List Nat} {a : Nat} (hx : Own uT H x (UL A) B0) (hB0 : B0 ≤ H.n) (hB : B ≤ B0) (hn : A.length < 1000000)
    (hk : ∀ r H', Own uT H' r (UL (A ++ [a])) B0 → KeepBut x H H' → (∀ c, blkOf r = some c → H.n ≤ c) → K r H') :
    ∃ v H' b, aappend Try.prog (H.new (.cells [VU (a : Int)] uT 2)) #[uS, uS] x (.slice (some ⟨H.n, 0, none⟩) 1 0) = some (v, H', b) ∧ B ≤ b ∧ K v H' :=
  append_ask unU oneU (by omega) hx hB0 hB (by simpa using hn) fun r H' h => hk r H' (by simpa using h)
theorem allB_old {gs : List Gu} {rs : List Ru} {S : List (List Int)} {A : List Nat} {o : List Int} (h : AllB gs rs S A) (ho : brS gs rs o ∈ A) : AllB gs rs (S ++ [o]) A := by
  refine ⟨fun a ha => ?_, fun p hp => ?_, h.nz⟩
  · obtain ⟨p, hp, e⟩ := h.a a ha
    exact ⟨p, List.mem_append_left _ hp, e⟩
  · rcases List.mem_append.1 hp with hp | hp
    · exact h.o p hp
    · rw [List.mem_singleton] at hp
      rw [hp]; exact ho
theorem allB_new {gs : List Gu} {rs : List Ru} {S : List (List Int)} {A : List Nat} {o : List Int} (h : AllB gs rs S A) (ho : brS gs rs o ≠ 0) : AllB gs rs (S ++ [o]) (A ++ [brS gs rs o]) := by
  refine ⟨fun a ha => ?_, fun p hp => ?_, fun a ha => ?_⟩
  · rcases List.mem_append.1 ha with ha | ha
    · obtain ⟨p, hp, e⟩ := h.a a ha
      exact ⟨p, List.mem_append_left _ hp, e⟩
    · rw [List.mem_singleton] at ha
      exact ⟨o, by simp, ha⟩
  · rcases List.mem_append.1 hp with hp | hp
    · exact List.mem_append_left _ (h.o p hp)
    · rw [List.mem_singleton] at hp
      rw [hp]; simp
  · rcases List.mem_append.1 ha with ha | ha
    · exact h.nz a ha
    · rw [List.mem_singleton] at ha
      rw [ha]; exact ho
set_option maxHeartbeats 32000000 in
set_option maxRecDepth 100000 in
theorem conflict_spec {B : Nat} {H : Heap} {gv rv : Value} {gs : List Gu} {rs : List Ru} (hB : B ≤ H.n) (hg : RowS 5 H gv (gs.map Gul)) (hgs : sameFix gv gv = true) (hr : RowS 4 H rv (rs.map Rul)) (hp : PaOk gs rs) :
    CallB Try.prog B 37 [Pav gv rv] H (fun v H' => ((okL gs rs ≠ [] ∧ v = .tuple #[nilS, VI 7]) ∨ (okL gs rs = [] ∧ ∃ q A, AllB gs rs (fillL gs.length gs.length []) A ∧ v = .tuple #[q, VI 0] ∧ Own 3 H' q ((fewK (strN rs rs.length) 12 A (strN rs rs.length)).map VI) H.n)) ∧ Keep H H') := by
  have h1 := hp.n1
  have h7 := hp.n7
  have hm := hp.m
  refine CV.enter callees false rfl Try.func37 rfl (by kernel_rfl) (Nat.le_of_ble_eq_true rfl) hB ?_
  repeat' first
    | refine CO.cons rfl ?_
    | refine CV.seq ?_
    | refine CV.region callees ?_
    | fail
  refine ⟨(by simp only [notTuple]), ?_⟩
  rw [boxP hg.cells.1 hr.cells.1]
  generalize hs0 : Heap.new H _ = H0
  have hg0 := new_get hs0
  have k0 := new_keep hs0
  have n0 := new_n hs0
  obtain ⟨b0, hbn0⟩ : ∃ b, Heap.n H = b := ⟨_, rfl⟩
  rw [hbn0] at hg0 n0 ⊢
  repeat' first
    | refine CO.cons rfl ?_
    | (refine ⟨_, _, al26, ?_⟩)
    | fail
  generalize hs1 : Heap.new H0 _ = H1
  have hg1 := new_get hs1
  have k1 := new_keep hs1
  have n1 := new_n hs1
  obtain ⟨b1, hbn1⟩ : ∃ b, Heap.n H0 = b := ⟨_, rfl⟩
  rw [hbn1] at hg1 n1 ⊢
  repeat' first
    | refine CO.cons rfl ?_
    | refine CO.nil ?_
    | refine CV.seq ?_
    | refine CV.region callees ?_
    | (refine ⟨_, _, alE, ?_⟩)
    | fail
  generalize hs2 : Heap.new H1 _ = H2
  have hg2 := new_get hs2
  have k2 := new_keep hs2
  have n2 := new_n hs2
  obtain ⟨b2, hbn2⟩ : ∃ b, Heap.n H1 = b := ⟨_, rfl⟩
  rw [hbn2] at hg2 n2 ⊢
  have k02 := (k0.trans k1).trans k2
  have hP2 := (k2.2 b0 (by omega)).trans ((k1.2 b0 (by omega)).trans hg0)
  have hr2 := (k2.2 b1 (by omega)).trans hg1
  repeat' first
    | refine CO.cons rfl ?_
    | (refine ⟨_, ld25 hP2, ?_⟩)
    | fail
  refine (check_spec (by omega) (hg.keep k02) (hr.keep k02) hp).mono ?_
  rintro v H3 ⟨rfl, k3⟩
  have l3 := k3.1
  have k03 := k02.trans k3
  have hP3 := (k3.2 b0 (by omega)).trans hP2
  have hr3 := (k3.2 b1 (by omega)).trans hr2
  have he3 := (k3.2 b2 (by omega)).trans hg2
  repeat' first
    | refine CO.cons rfl ?_
    | refine CO.nil ?_
    | refine CV.seq ?_
    | refine CV.region callees ?_
    | refine CV.cond ?_
    | refine CV.skip ?_
    | (refine ⟨_, ld25 hP3, ?_⟩)
    | (refine ⟨fun _ => ?_, fun _ => ?_⟩ <;> first | (exfalso; omega) | skip)
    | fail
  refine (must_spec (by omega) (hg.keep k03) (hr.keep k03) (by omega)).mono ?_
  rintro v H4 ⟨rfl, k4⟩
  have l4 := k4.1
  obtain ⟨St, hSt⟩ : ∃ St, strN rs rs.length = St := ⟨_, rfl⟩
  have hSt12 : St < 2 ^ 12 := by rw [← hSt]; exact Nat.lt_of_lt_of_le (strN_lt _) (Nat.pow_le_pow_right (by decide) hm)
  rw [hSt]
  repeat' first
    | refine CO.cons rfl ?_
    | (refine ⟨_, _, al97, ?_⟩)
    | fail
  generalize hs5 : Heap.new H4 _ = H5
  have hg5 := new_get hs5
  have k5 := new_keep hs5
  have n5 := new_n hs5
  obtain ⟨b5, hbn5⟩ : ∃ b, Heap.n H4 = b := ⟨_, rfl⟩
  rw [hbn5] at hg5 n5 ⊢
  repeat' first
    | fail
  refine ⟨_, _, var_store sz97 hg5 rfl, by omega, ?_⟩
  generalize hs6 : Heap.set H5 b5 _ = H6
  have hg6 : H6.get b5 = some (.cells ([VU (St : Int)]) 97 1) := set_get hs6
  have n6 := set_n hs6
  have o6 := set_old hs6
  have k46 : Keep H4 H6 := keep_put k5 (by omega) o6 n6
  repeat' first
    | refine CO.cons rfl ?_
    | refine CO.nil ?_
    | refine CV.seq ?_
    | refine CV.region callees ?_
    | (refine ⟨_, _, alT, ?_⟩)
    | fail
  generalize hs7 : Heap.new H6 _ = H7
  have hg7 := new_get hs7
  have k7 := new_keep hs7
  have n7 := new_n hs7
  obtain ⟨b7, hbn7⟩ : ∃ b, Heap.n H6 = b := ⟨_, rfl⟩
  rw [hbn7] at hg7 n7 ⊢
  repeat' first
    | refine CO.cons rfl ?_
    | refine CO.nil ?_
    | refine CV.seq ?_
    | refine CV.region callees ?_
    | (refine ⟨_, _, alU, ?_⟩)
    | fail
  generalize hs8 : Heap.new H7 _ = H8
  have hg8 := new_get hs8
  have k8 := new_keep hs8
  have n8 := new_n hs8
  obtain ⟨b8, hbn8⟩ : ∃ b, Heap.n H7 = b := ⟨_, rfl⟩
  rw [hbn8] at hg8 n8 ⊢
  have k68 := k7.trans k8
  have k48 := k46.trans k68
  have k38 := k4.trans k48
  have k08 := k03.trans k38
  have hP8 := (k38.2 b0 (by omega)).trans hP3
  have hr8 := (k38.2 b1 (by omega)).trans hr3
  have he8 := (k38.2 b2 (by omega)).trans he3
  have hS8 := (k68.2 b5 (by omega)).trans hg6
  have hT8 := (k8.2 b7 (by omega)).trans hg7
  have hg8' := hg.keep k08
  repeat' first
    | refine CO.cons rfl ?_
    | (refine ⟨_, fS foP0 (by decide), ?_⟩)
    | (refine ⟨_, cell_load ag22g hP8 rfl, ?_⟩)
    | (refine ⟨_, gs_len hg8', ?_⟩)
    | fail
  refine (orders_spec (by omega)).mono ?_
  rintro v H9 ⟨⟨c, rfl, hC, hc1, hc2⟩, k9⟩
  have l9 := k9.1
  repeat' first
    | refine CO.nil ?_
    | refine CV.block ?_
    | fail
  refine CV.rangeFunc callees ?_
  refine fun tm ha => ?_
  generalize hs10 : Heap.new H9 _ = HA
  have hgA := new_get hs10
  have kA := new_keep hs10
  have nA := new_n hs10
  obtain ⟨l, hl⟩ : ∃ l, H9.n = l := ⟨_, rfl⟩
  rw [hl] at hgA nA ⊢
  have k8A : Keep H8 HA := k9.trans kA
  have k0A := k08.trans k8A
  have hPA := (k8A.2 b0 (by omega)).trans hP8
  have hrA := (k8A.2 b1 (by omega)).trans hr8
  have heA := (k8A.2 b2 (by omega)).trans he8
  have hSA := (k8A.2 b5 (by omega)).trans hS8
  have hTA := (k8A.2 b7 (by omega)).trans hT8
  have hUA := (k8A.2 b8 (by omega)).trans hg8
  have hCA : Caps c gs.length HA := ⟨(kA.2 _ (by omega)).trans hC.a, (kA.2 _ (by omega)).trans hC.b, (kA.2 _ (by omega)).trans hC.f⟩
  have hnn : H.n ≤ b0 ∧ b0 < b1 ∧ b1 < b2 ∧ b2 < b5 ∧ b5 < b7 ∧ b7 < b8 ∧ b8 < c ∧ c + 2 < l ∧ HA.n = l + 1 := ⟨by omega, by omega, by omega, by omega, by omega, by omega, by omega, by omega, by omega⟩
  have hlt : ∀ S o, (S ++ [o]) <+: fillL gs.length gs.length [] → Pre gs.length o ∧ o.length = gs.length := fun S o hpre => by
    have hm : o ∈ fillL gs.length gs.length [] := hpre.subset (by simp)
    exact fillL_pre Pre.nil (by simp) hm
  refine (listsS_spec (B := B) (c := c) (l := l) (n := gs.length)
    (fun S X => X.get l = HA.get l ∧ Caps c gs.length X ∧ X.get b0 = HA.get b0 ∧ X.get b1 = HA.get b1 ∧ X.get b2 = HA.get b2 ∧ X.get b5 = HA.get b5 ∧ (∃ A q, X.get b7 = some (.cells (tabB A) tT 1) ∧ X.get b8 = some (.cells [q] uS 1) ∧ Own uT X q (UL A) (HA.n + 4) ∧ AllB gs rs S A ∧ A.length ≤ S.length) ∧ Keep H X ∧ HA.n + 4 ≤ X.n)
    (fun X => X.get b1 = some (.cells [nilS] 26 1) ∧ X.get b2 = some (.cells [VI 7] eT 1) ∧ (∃ tm ps x y, X.get l = some (.loop .done (some .ret) tm ps x y)) ∧ Keep H X ∧ okL gs rs ≠ [])
    (by omega) h7 (by omega) hCA ?_ ?_ ?_ ?_).mono ?_
  · rintro S X ⟨_, q2, _⟩
    exact q2
  · intro X kk hX
    exact ⟨kk.2 l (by omega), ⟨(kk.2 _ (by omega)).trans hCA.a, (kk.2 _ (by omega)).trans hCA.b, (kk.2 _ (by omega)).trans hCA.f⟩, kk.2 b0 (by omega), kk.2 b1 (by omega), kk.2 b2 (by omega), kk.2 b5 (by omega), ⟨[], nilS, (kk.2 b7 (by omega)).trans hTA, (kk.2 b8 (by omega)).trans hUA, .inl ⟨rfl, rfl⟩, ⟨fun a ha => (by cases ha), fun o ho => (by cases ho), fun a ha => (by cases ha)⟩, Nat.le_refl _⟩, k0A.trans kk, hX⟩
  · rintro S X X' ⟨q1, q2, q3, q4, q5, q6, ⟨A, q, qT, qU, qA, qB, qL⟩, qK, qN⟩ hX kk
    have hqb : blkOf q ≠ some (HA.n + 1) := fun e => by have := (qA.lt e).1; omega
    have g : ∀ p, p < HA.n → X'.get p = X.get p := fun p hp => kk.2 p (by omega) (by omega)
    exact ⟨(g l (by omega)).trans q1, ⟨(g _ (by omega)).trans q2.a, (g _ (by omega)).trans q2.b, (g _ (by omega)).trans q2.f⟩, (g b0 (by omega)).trans q3, (g b1 (by omega)).trans q4, (g b2 (by omega)).trans q5, (g b5 (by omega)).trans q6, ⟨A, q, (g b7 (by omega)).trans qT, (g b8 (by omega)).trans qU, own_keepN qA kk hqb, qB, qL⟩, kk.keep qK (by omega), by have := kk.1; omega⟩
  · rintro S o X hpre ⟨q1, q2, q3, q4, q5, q6, ⟨A, q, qT, qU, qA, qB, qL⟩, qK, qN⟩ hM hBX hX
    obtain ⟨ho1, ho2⟩ := hlt S o hpre
    have hom : o ∈ fillL gs.length gs.length [] := hpre.subset (by simp)
    have hAb : A.length < 1000000 := by
      have e1 := hpre.length_le
      have e2 := fillL_len h7 (r := gs.length) (pre := [])
      have e3 : 7 ^ gs.length ≤ 7 ^ 7 := Nat.pow_le_pow_right (by decide) h7
      rw [List.length_append] at e1
      have e4 : (7 : Nat) ^ 7 = 823543 := by decide
      omega
    refine RoundB.enter callees false (q1.trans hgA) ha rfl hBX (by omega) ?_
    repeat' first
      | refine CO.cons rfl ?_
      | refine CO.nil ?_
      | refine CV.region callees ?_
      | fail
    refine ⟨_, _, _, _, _, q1.trans hgA, ?_⟩
    generalize hs11 : X.set l _ = X1
    have hg11 := set_get hs11
    have n11 := set_n hs11
    have o11 := set_old hs11
    have hP1 := (o11 b0 (by omega)).trans (q3.trans hPA)
    have hS1 := (o11 b5 (by omega)).trans (q6.trans hSA)
    have hT1 := (o11 b7 (by omega)).trans qT
    have hU1 := (o11 b8 (by omega)).trans qU
    have hr1' := (o11 b1 (by omega)).trans (q4.trans hrA)
    have he1' := (o11 b2 (by omega)).trans (q5.trans heA)
    have hA1 : Own uT X1 q (UL A) (HA.n + 4) := own_keepN qA ⟨by omega, fun p _ hp => o11 p hp⟩ (fun e => by have := (qA.lt e).1; omega)
    have kX1 : Keep H X1 := ⟨by have := qK.1; omega, fun p hp => (o11 p (by omega)).trans (qK.2 p hp)⟩
    have hgx := hg.keep kX1
    have hrx := hr.keep kX1
    have hrow : Ints X1 (.slice (some ⟨HA.n + 1, 0, none⟩) gs.length 0) o := .inr (.inr ⟨HA.n + 1, 0, 0, o.map VI, 3, 2, by rw [List.length_map, hM.n], by omega, (o11 _ (by omega)).trans hM.a, by decide, by simp, fun j w hj => by simpa using hj⟩)
    repeat' first
      | refine CV.seq ?_
      | refine CV.block ?_
      | refine CV.draw callees (by decide +kernel) ?_
      | refine CH.cons rfl ?_
      | (refine ⟨_, ld25 hP1, ?_⟩)
      | fail
    refine (brokenBy_spec (by omega) hgx hgs hrx hrow hp ho1).mono ?_
    rintro v X2 ⟨rfl, k12⟩
    clear k12
    have hold : ∀ p, p < X.n → p ≠ l → X1.get p = X.get p := fun p hp hpl => o11 p hpl
    have hb1 := brkO_lt (gs := gs) (rs := rs) (o := o) hm
    obtain ⟨a, hka⟩ : ∃ a, brkO gs rs o &&& St = a := ⟨_, rfl⟩
    have hab : brS gs rs o = a := by rw [← hka, ← hSt]; rfl
    have ha12 : a < 4096 := by
      have := Nat.and_le_right (n := brkO gs rs o) (m := St)
      omega
    by_cases h0 : a = 0
    · repeat' first
        | refine CO.cons rfl ?_
        | refine CO.nil ?_
        | refine CV.seq ?_
        | refine CV.region callees ?_
        | refine CV.cond ?_
        | refine CH.cons rfl ?_
        | refine CH.nil ?_
        | refine ⟨(rfl : plain _ = true), ?_⟩
        | (refine ⟨_, cell_load ag97 hS1 rfl, ?_⟩)
        | (refine ⟨_, fun tm ha => andUu rfl (ev_tmp ha rfl) (ev_tmp ha rfl) hb1 (by omega), ?_⟩)
        | (rw [hka])
        | (refine ⟨fun _ => ?_, fun _ => ?_⟩ <;> first | (exfalso; omega) | skip)
        | fail
      refine ⟨_, _, var_store sz26 hr1' rfl, by omega, ?_⟩
      generalize hs13 : Heap.set X1 b1 _ = H13
      have hg13 : H13.get b1 = some (.cells ([nilS]) 26 1) := set_get hs13
      have n13 := set_n hs13
      have o13 := set_old hs13
      have he3' := (o13 b2 (by omega)).trans he1'
      repeat' first
        | refine CO.cons rfl ?_
        | fail
      refine ⟨_, _, var_store szE he3' rfl, by omega, ?_⟩
      generalize hs14 : Heap.set H13 b2 _ = H14
      have hg14 : H14.get b2 = some (.cells ([VI 7]) eT 1) := set_get hs14
      have n14 := set_n hs14
      have o14 := set_old hs14
      have hr4' := (o14 b1 (by omega)).trans hg13
      have hl4 := (o14 l (by omega)).trans ((o13 l (by omega)).trans hg11)
      repeat' first
        | refine CO.nil ?_
        | refine CV.ret ?_
        | fail
      refine ⟨_, _, _, _, _, _, _, hl4, rfl, ⟨.inr ⟨rfl, ?_, ?_, ?_, ?_, ?_⟩, ?_⟩⟩
      · rw [Heap.get_set_ne _ _ (by omega)]; exact hr4'
      · rw [Heap.get_set_ne _ _ (by omega)]; exact hg14
      · exact ⟨_, _, _, _, Heap.get_set_eq _ _ _⟩
      · exact ⟨by show H.n ≤ H14.n; have := kX1.1; omega, fun p hp => by rw [Heap.get_set_ne _ _ (by omega)]; exact (o14 p (by omega)).trans ((o13 p (by omega)).trans (kX1.2 p hp))⟩
      · intro he
        have hok : o ∈ okL gs rs := mem_okL.2 ⟨mem_orders.1 hom, by unfold okB; rw [hSt, hka, h0]; rfl⟩
        rw [he] at hok
        cases hok
      · show X.n ≤ H14.n; omega
    have hnz : brS gs rs o ≠ 0 := by rw [hab]; exact h0
    have fin : ∀ {X3 : Heap} {A' : List Nat} {q' : Value} {ob : AObj}, HA.get l = some ob → X3.get b7 = some (.cells (tabB A') tT 1) → X3.get b8 = some (.cells [q'] uS 1) → Own uT X3 q' (UL A') (HA.n + 4) → AllB gs rs (S ++ [o]) A' → A'.length ≤ S.length + 1 → (∀ p, p < HA.n + 4 → p ≠ l → p ≠ b7 → p ≠ b8 → X3.get p = X.get p) → X.n ≤ X3.n →
        (((X3.set l ob).get l = HA.get l ∧ Caps c gs.length (X3.set l ob) ∧ (X3.set l ob).get b0 = HA.get b0 ∧ (X3.set l ob).get b1 = HA.get b1 ∧ (X3.set l ob).get b2 = HA.get b2 ∧ (X3.set l ob).get b5 = HA.get b5 ∧ (∃ A q, (X3.set l ob).get b7 = some (.cells (tabB A) tT 1) ∧ (X3.set l ob).get b8 = some (.cells [q] uS 1) ∧ Own uT (X3.set l ob) q (UL A) (HA.n + 4) ∧ AllB gs rs (S ++ [o]) A ∧ A.length ≤ (S ++ [o]).length) ∧ Keep H (X3.set l ob) ∧ HA.n + 4 ≤ (X3.set l ob).n) ∧ (∀ q, HA.n ≤ q → q < HA.n + 4 → (X3.set l ob).get q = X.get q)) ∧ X.n ≤ (X3.set l ob).n := by
      intro X3 A' q' ob hob t1 t2 t3 t4 t5 t6 t7
      have g : ∀ p, p < HA.n + 4 → p ≠ l → p ≠ b7 → p ≠ b8 → (X3.set l ob).get p = X.get p := fun p u1 u2 u3 u4 => by rw [Heap.get_set_ne _ _ (by omega)]; exact t6 p u1 u2 u3 u4
      refine ⟨⟨⟨?_, ⟨?_, ?_, ?_⟩, ?_, ?_, ?_, ?_, ⟨A', q', ?_, ?_, ?_, t4, ?_⟩, ?_, ?_⟩, ?_⟩, t7⟩
      · rw [Heap.get_set_eq]; exact hob.symm
      · exact (g _ (by omega) (by omega) (by omega) (by omega)).trans q2.a
      · exact (g _ (by omega) (by omega) (by omega) (by omega)).trans q2.b
      · exact (g _ (by omega) (by omega) (by omega) (by omega)).trans q2.f
      · exact (g _ (by omega) (by omega) (by omega) (by omega)).trans q3
      · exact (g _ (by omega) (by omega) (by omega) (by omega)).trans q4
      · exact (g _ (by omega) (by omega) (by omega) (by omega)).trans q5
      · exact (g _ (by omega) (by omega) (by omega) (by omega)).trans q6
      · rw [Heap.get_set_ne _ _ (by omega)]; exact t1
      · rw [Heap.get_set_ne _ _ (by omega)]; exact t2
      · exact own_keepN t3 (KeepX.set _ _) (fun e => by have := (t3.lt e).1; omega)
      · rw [List.length_append, List.length_singleton]; exact t5
      · exact ⟨by show H.n ≤ X3.n; have := qK.1; omega, fun p hp => (g p (by omega) (by omega) (by omega) (by omega)).trans (qK.2 p hp)⟩
      · show HA.n + 4 ≤ X3.n; omega
      · exact fun p u1 u2 => g p (by omega) (by omega) (by omega) (by omega)
    have hai : 0 + ((a : Int)).toNat * 1 = a := by omega
    have hld : aload Try.prog 4 X1 (.pointer (some ⟨b7, 0 + ((a : Int)).toNat * 1, none⟩)) = some (.bool (decide (a ∈ A))) := by rw [hai]; exact cell_load ag4 hT1 (tabB_at ha12)
    by_cases hin : a ∈ A
    · rw [decide_eq_true hin] at hld
      repeat' first
        | refine CO.cons rfl ?_
        | refine CO.nil ?_
        | refine CV.seq ?_
        | refine CV.region callees ?_
        | refine CV.cond ?_
        | refine CV.skip ?_
        | refine CH.cons rfl ?_
        | refine CH.nil ?_
        | refine ⟨(rfl : plain _ = true), ?_⟩
        | (refine ⟨_, cell_load ag97 hS1 rfl, ?_⟩)
        | (refine ⟨_, fun tm ha => andUu rfl (ev_tmp ha rfl) (ev_tmp ha rfl) hb1 (by omega), ?_⟩)
        | (rw [hka])
        | (refine ⟨_, arrT (by omega) (by omega), ?_⟩)
        | (refine ⟨_, hld, ?_⟩)
        | (refine ⟨fun _ => ?_, fun _ => ?_⟩ <;> first | (exfalso; omega) | skip)
        | fail
      have hf := fin hgA hT1 hU1 hA1 (allB_old qB (by rw [hab]; exact hin)) (by omega) (fun p u1 u2 _ _ => hold p (by omega) u2) (by omega)
      refine ⟨_, _, _, _, _, _, _, hg11, rfl, ⟨.inl ⟨rfl, hf.1⟩, hf.2⟩⟩
    rw [decide_eq_false hin] at hld
    repeat' first
      | refine CO.cons rfl ?_
      | refine CO.nil ?_
      | refine CV.seq ?_
      | refine CV.region callees ?_
      | refine CV.cond ?_
      | refine CV.skip ?_
      | refine CH.cons rfl ?_
      | refine CH.nil ?_
      | refine ⟨(rfl : plain _ = true), ?_⟩
      | (refine ⟨_, cell_load ag97 hS1 rfl, ?_⟩)
      | (refine ⟨_, fun tm ha => andUu rfl (ev_tmp ha rfl) (ev_tmp ha rfl) hb1 (by omega), ?_⟩)
      | (rw [hka])
      | (refine ⟨_, arrT (by omega) (by omega), ?_⟩)
      | (refine ⟨_, hld, ?_⟩)
      | (refine ⟨fun _ => ?_, fun _ => ?_⟩ <;> first | (exfalso; omega) | skip)
      | fail
    refine ⟨_, _, store_row (i := 0 + ((a : Int)).toNat * 1) sz4 hT1 (by rw [tabB_len]; omega) rfl, by omega, ?_⟩
    rw [hai, tabB_set ha12]
    generalize hs15 : Heap.set X1 b7 _ = H15
    have hg15 : H15.get b7 = some (.cells (tabB (A ++ [a])) tT 1) := set_get hs15
    have n15 := set_n hs15
    have o15 := set_old hs15
    have hU5 := (o15 b8 (by omega)).trans hU1
    have hA5 : Own uT H15 q (UL A) (HA.n + 4) := own_keepN hA1 ⟨by omega, fun p _ hp => o15 p hp⟩ (fun e => by have := (hA1.lt e).1; omega)
    repeat' first
      | refine CO.cons rfl ?_
      | refine CO.nil ?_
      | refine CV.region callees ?_
      | (refine ⟨_, cell_load agUS hU5 rfl, ?_⟩)
      | (refine ⟨_, _, build_one unU oneU rfl, ?_⟩)
      | fail
    refine ul_push hA5 (by omega) (by omega) hAb ?_
    intro q6' H16 hA6 kb6 hf6
    have l16 := kb6.le
    have hqn : ∀ p, p < HA.n + 4 → blkOf q ≠ some p := fun p hp e => by have := (hA5.lt e).1; omega
    have g6 : ∀ p, p < HA.n + 4 → H16.get p = H15.get p := fun p hp => kb6.get p (by omega) (hqn p hp)
    have hU6 := (g6 b8 (by omega)).trans hU5
    have hT6 := (g6 b7 (by omega)).trans hg15
    repeat' first
      | refine CO.cons rfl ?_
      | fail
    refine ⟨_, _, var_store szUS hU6 (own_oneC hA6), by omega, ?_⟩
    generalize hs17 : Heap.set H16 b8 _ = H17
    have hg17 : H17.get b8 = some (.cells ([q6']) uS 1) := set_get hs17
    have n17 := set_n hs17
    have o17 := set_old hs17
    have hl7 := (o17 l (by omega)).trans ((g6 l (by omega)).trans ((o15 l (by omega)).trans hg11))
    have hT7 := (o17 b7 (by omega)).trans hT6
    have hA7 : Own uT H17 q6' (UL (A ++ [a])) (HA.n + 4) := own_keepN hA6 ⟨by omega, fun p _ hp => o17 p hp⟩ (fun e => by have := (hA6.lt e).1; omega)
    repeat' first
      | refine CO.nil ?_
      | fail
    have hf := fin hgA hT7 hg17 hA7 (by rw [← hab]; exact allB_new qB hnz) (by rw [List.length_append, List.length_singleton]; omega) (fun p u1 u2 u3 u4 => (o17 p u4).trans ((g6 p u1).trans ((o15 p u3).trans (hold p (by omega) u2)))) (by omega)
    refine ⟨_, _, _, _, _, _, _, hl7, rfl, ⟨.inl ⟨rfl, hf.1⟩, hf.2⟩⟩
  rintro _ HZ ⟨⟨q1, q2, q3, q4, q5, q6, ⟨A, q, qT, qU, qA, qB, qL⟩, qK, qN⟩ | ⟨q1, q2, ⟨tm', ps', x', y', q3⟩, qK, qne⟩, hZn⟩
  · have hAb : A.length < 1000000 := by
      have e2 := fillL_len h7 (r := gs.length) (pre := [])
      have e3 : 7 ^ gs.length ≤ 7 ^ 7 := Nat.pow_le_pow_right (by decide) h7
      have e4 : (7 : Nat) ^ 7 = 823543 := by decide
      omega
    have hA12 : ∀ a ∈ A, a < 2 ^ 12 := fun a ha2 => by
      obtain ⟨o, _, rfl⟩ := qB.a a ha2
      have : brS gs rs o ≤ strN rs rs.length := Nat.and_le_right
      omega
    have hnone : okL gs rs = [] := by
      apply List.eq_nil_iff_forall_not_mem.2
      intro o ho
      obtain ⟨hf, hok⟩ := mem_okL.1 ho
      have e : brS gs rs o = 0 := by
        unfold okB at hok
        rw [beq_iff_eq] at hok
        exact hok
      exact qB.nz _ (qB.o o (mem_orders.2 hf)) e
    refine ⟨_, _, _, _, _, _, _, q1.trans hgA, rfl, rfl, ?_⟩
    generalize hsZ : HZ.set l _ = HY
    have nZ := set_n hsZ
    have oZ := set_old hsZ
    have hSY := (oZ b5 (by omega)).trans (q6.trans hSA)
    have hUY := (oZ b8 (by omega)).trans qU
    have hrY := (oZ b1 (by omega)).trans (q4.trans hrA)
    have heY := (oZ b2 (by omega)).trans (q5.trans heA)
    have hAY : Own uT HY q (UL A) (HA.n + 4) := own_keepN qA ⟨by omega, fun p _ hp => oZ p hp⟩ (fun e => by have := (qA.lt e).1; omega)
    have kY : Keep H HY := ⟨by have := qK.1; omega, fun p hp => (oZ p (by omega)).trans (qK.2 p hp)⟩
    have lY := kY.1
    repeat' first
      | refine CO.cons rfl ?_
      | refine CV.seq ?_
      | refine CV.region callees ?_
      | (refine ⟨_, cell_load ag97 hSY rfl, ?_⟩)
      | (refine ⟨_, cell_load agUS hUY rfl, ?_⟩)
      | fail
    refine (fewestP_spec (by omega) hAY.row hSt12 hAb hA12).mono ?_
    rintro v HW ⟨hv, kW⟩
    have lW := kW.1
    have hrW := (kW.2 b1 (by omega)).trans hrY
    have heW := (kW.2 b2 (by omega)).trans heY
    repeat' first
      | refine CO.cons rfl ?_
      | fail
    refine ⟨_, _, var_store sz26 hrW (own_oneC hv), by omega, ?_⟩
    generalize hs18 : Heap.set HW b1 _ = H18
    have hg18 : H18.get b1 = some (.cells ([v]) 26 1) := set_get hs18
    have n18 := set_n hs18
    have o18 := set_old hs18
    have he18 := (o18 b2 (by omega)).trans heW
    have hv18 : Own 3 H18 v ((fewK St 12 A St).map VI) HY.n := own_keepN hv ⟨by omega, fun p _ hp => o18 p hp⟩ (fun e => by have := (hv.lt e).1; omega)
    repeat' first
      | refine CO.cons rfl ?_
      | fail
    refine ⟨_, _, var_store szE he18 rfl, by omega, ?_⟩
    generalize hs19 : Heap.set H18 b2 _ = H19
    have hg19 : H19.get b2 = some (.cells ([VI 0]) eT 1) := set_get hs19
    have n19 := set_n hs19
    have o19 := set_old hs19
    have hr19 := (o19 b1 (by omega)).trans hg18
    have hv19 : Own 3 H19 v ((fewK St 12 A St).map VI) HY.n := own_keepN hv18 ⟨by omega, fun p _ hp => o19 p hp⟩ (fun e => by have := (hv18.lt e).1; omega)
    repeat' first
      | refine CO.nil ?_
      | refine CV.ret ?_
      | fail
    exact ⟨_, cell_load ag22 hr19 rfl, _, cell_load agE hg19 rfl, by simp only [List.all_cons, List.all_nil, hv.notTuple]; rfl, .inr ⟨hnone, v, A, qB, rfl, Own.lower hv19 (by omega)⟩, keep_put (keep_put (kY.trans kW) (by omega) o18 n18) (by omega) o19 n19⟩
  · refine ⟨_, _, _, _, _, _, _, q3, rfl, rfl, ?_⟩
    generalize hsZ : HZ.set l _ = HY
    have nZ := set_n hsZ
    have oZ := set_old hsZ
    have hrY := (oZ b1 (by omega)).trans q1
    have heY := (oZ b2 (by omega)).trans q2
    have kY : Keep H HY := ⟨by have := qK.1; omega, fun p hp => (oZ p (by omega)).trans (qK.2 p hp)⟩
    repeat' first
      | fail
    exact ⟨_, cell_load ag22 hrY rfl, _, cell_load agE heY rfl, rfl, .inl ⟨qne, rfl⟩, kY⟩
end Go.Proofs.Ytlamceokhbigaaa

