
/- StoreFresh. -/
import Derived.Test.Ytijimplcjaeneaacbo
import Derived.Test.Ytijimplcjaeneaap3o
import Derived.Test.Ytijimplcjaeneaap8o
set_option linter.unusedVariables false
set_option linter.unusedSimpArgs false
namespace Go.Proofs.Ytijimplcjaeneaa
open Go.AI
theorem gri_box {H H' : Heap} {v : Value} {vs : List Value} {gs : List (List Int)} {b : Nat} (h : Gri H v vs gs) (k : KeepX b H H') (hb : Box b H) : Gri H' v vs gs := ⟨row_box h.row k hb, h.len, fun i hi => row_box (h.ints i hi) k hb⟩
theorem plE_of {m : Int} : ∀ {l : List Int}, (∀ x ∈ l, 0 ≤ x ∧ x ≤ m) → plE m l = 0
  | [], _ => rfl
  | p :: t, h => by
    have h1 := h p (by simp)
    simp only [plE]
    rw [show inB p 0 m = true by simp [inB]; omega, cond_true]
    exact plE_of fun x hx => h x (by simp [hx])
theorem plaXs_len {st : List Int} {gs : List (List Int)} (h : gs.length < 1000000) : (plaXs st gs).length < 1000000 := by
  unfold plaXs
  split
  · have := (planA_ok (gs := gs) (K := (combos st).toNat)).n
    omega
  · simp
theorem gen_len {K n : Nat} (h : n ≤ 6) : (genK K n []).length ≤ 300 := by
  by_cases h0 : n = 0
  · subst h0; simp [genK]
  · rw [← all_filter]
    exact Nat.le_trans (List.length_filter_le _ _) (allP (by omega) h).n
/-- One thing of a sort more. -/
theorem combos_more : ∀ {st : List Int} {x : Nat}, (∀ y ∈ st, 1 ≤ y) → x < st.length → combos st ≤ combos (st.set x (st[x]! + 1))
  | s :: t, 0, h, _ => by
    have h0 := h s (by simp)
    have ht : 0 ≤ combos t := by
      have : ∀ {l : List Int}, (∀ y ∈ l, 1 ≤ y) → 1 ≤ combos l := fun {l} => by
        induction l with
        | nil => intro _; exact Int.le_refl _
        | cons a l ih =>
          intro hl
          have h1 := hl a (by simp)
          have h2 := ih fun y hy => hl y (by simp [hy])
          have := Int.mul_le_mul h1 h2 (by omega) (by omega)
          simp only [combos]
          omega
      have := this (l := t) fun y hy => h y (by simp [hy])
      omega
    simp only [List.getElem!_cons_zero, List.set_cons_zero, combos]
    exact Int.mul_le_mul_of_nonneg_right (by omega) ht
  | s :: t, x + 1, h, hx => by
    have h0 := h s (by simp)
    have ih := combos_more (st := t) (x := x) (fun y hy => h y (by simp [hy])) (by simpa using hx)
    simp only [List.getElem!_cons_succ, List.set_cons_succ, combos]
    exact Int.mul_le_mul_of_nonneg_left ih (by omega)
theorem soE_of' : ∀ {l : List Int}, (∀ x ∈ l, 1 ≤ x ∧ x ≤ 6) → soE l = 0
  | [], _ => rfl
  | s :: t, h => by
    have h1 := h s (by simp)
    simp only [soE]
    rw [show inB s 1 6 = true by simp [inB]; omega, cond_true]
    exact soE_of' fun x hx => h x (by simp [hx])
theorem sea_more {st : List Int} {gs : List (List Int)} {x : Nat} (h : seaE st gs = 0) (h3 : ∀ y ∈ st, y ≤ 3) (hx : x < st.length) : seaE (st.set x (st[x]! + 1)) gs = 0 ∧ combos st ≤ combos (st.set x (st[x]! + 1)) := by
  obtain ⟨hok, h9, hg⟩ := seaE_ok h
  have hn := hok.n
  have hp := hok.p
  have hm : ∀ y ∈ st.set x (st[x]! + 1), 1 ≤ y ∧ y ≤ 6 := fun y hy => by
    rcases List.mem_or_eq_of_mem_set hy with h | rfl
    · exact hok.m y h
    · have h1 : st[x]! ∈ st := by rw [getElem!_pos st x hx]; exact List.getElem_mem _
      have := hok.m _ h1
      have := h3 _ h1
      omega
  refine ⟨?_, combos_more (fun y hy => (hok.m y hy).1) hx⟩
  unfold seaE
  rw [List.length_set, if_neg (by omega), if_neg (by omega), if_pos (soE_of' hm), if_neg (by omega)]
  exact hg
set_option maxHeartbeats 16000000 in
set_option maxRecDepth 100000 in
theorem lists2_spec {B : Nat} {H : Heap} {v : Value} {vs : List Value} {gs : List (List Int)} (hB : B ≤ H.n) (hg : Gri H v vs gs) (hgn : gs.length < 1000000) (hgl : ∀ i, i < gs.length → gs[i]!.length < 1000000) :
    CallB Try.prog B 102 [v] H (fun r H' => (∃ ws, Own 29 H' r ws H.n ∧ Gri H' r ws gs ∧ ∀ j, j < gs.length → Own 3 H' ws[j]! (gs[j]!.map VI) H.n) ∧ Keep H H') := by
  refine CV.enter callees false rfl Try.func102 rfl (by kernel_rfl) (Nat.le_of_ble_eq_true rfl) hB ?_
  repeat' first
    | refine CO.cons rfl ?_
    | refine CO.nil ?_
    | refine CV.seq ?_
    | refine CV.region callees ?_
    | refine CV.block ?_
    | fail
  refine CV.loopc ?_
  refine WCv.rounds callees false (α := Nat × Value × List Value) (fun (i, q, ws) => [(0, v), (3, q), (4, VI i)]) (fun (i, q, ws) Hz => i ≤ gs.length ∧ ws.length = i ∧ Own 29 Hz q ws H.n ∧ (∀ j, j < i → Own 3 Hz ws[j]! (gs[j]!.map VI) H.n ∧ (∀ c, blkOf ws[j]! = some c → blkOf q ≠ some c)) ∧ Keep H Hz) (fun (i, q, ws) => gs.length - i) (0, nilS, []) (by repeat' first | exact trivial | refine ⟨rfl, ?_⟩ | refine ⟨slot_int (by (try simp only [Int.toNat_natCast]); omega), ?_⟩) ?_ ?_
  · exact ⟨by omega, rfl, .inl ⟨rfl, rfl⟩, fun j h => by omega, Keep.refl _⟩
  rintro ⟨i, q, ws⟩ Hx ⟨hi, hwl, hq, hws, kx⟩ hBx
  have lx := kx.1
  have hgx := hg.keep kx
  by_cases hi2 : i < gs.length
  · have had := hgx.addr hi2
    have hld := hgx.load hi2
    have hli := hgl i hi2
    repeat' first
      | refine CO.cons rfl ?_
      | refine CO.nil ?_
      | refine CV.seq ?_
      | refine CV.region callees ?_
      | refine CV.cond ?_
      | refine CV.block ?_
      | refine CV.skip ?_
      | (refine ⟨_, hgx.alen, ?_⟩)
      | (refine ⟨_, had, ?_⟩)
      | (refine ⟨_, hld, ?_⟩)
      | (refine ⟨fun _ => ?_, fun _ => ?_⟩ <;> first | (exfalso; omega) | skip)
      | fail
    refine (ints_spec (by omega) (hgx.ints i hi2) (by omega)).mono ?_
    rintro w H2 ⟨hw, k2⟩
    have l2 := k2.1
    have hq2 := hq.keep k2
    have hqa : ∀ c, blkOf q = some c → H.n ≤ c ∧ c < Hx.n := fun c hc => hq.lt hc
    have hwa : ∀ c, blkOf w = some c → Hx.n ≤ c ∧ c < H2.n := fun c hc => hw.lt hc
    repeat' first
      | refine CO.cons rfl ?_
      | (refine ⟨_, _, build_one unG oneN (Row.oneC hw.row).1, ?_⟩)
      | fail
    refine append_askW unG oneN (by omega) hq2 (by omega) (by omega) (by omega) ?_
    intro q9 H9 hq9 kb9 hf9
    have l9 := kb9.le
    repeat' first
      | refine CO.cons rfl ?_
      | refine CO.nil ?_
      | refine CV.region callees ?_
      | refine ⟨(⟨by omega, by omega⟩ : inI64 _), ?_⟩
      | fail
    refine ⟨(i + 1, q9, ws ++ [w]), (by repeat' first | exact trivial | refine ⟨rfl, ?_⟩ | refine ⟨slot_int (by (try simp only [Int.toNat_natCast]); omega), ?_⟩), (by (try dsimp only); omega), ?_⟩
    refine ⟨by omega, by simp [hwl], hq9, fun j hj => ?_, kb9.keep (kx.trans k2) fun c hc => (hqa c hc).1⟩
    by_cases hj2 : j < i
    · have hnd : (ws ++ [w])[j]! = ws[j]! := by
        rw [getElem!_pos _ j (by rw [List.length_append]; omega), List.getElem_append_left (by omega), getElem!_pos ws j (by omega)]
      rw [hnd]
      obtain ⟨h1, h2⟩ := hws j hj2
      have h1' := h1.keep k2
      refine ⟨own_keepF h1' l9 fun c hc => kb9.get c (h1'.lt hc).2 (h2 c hc), fun c hc h => ?_⟩
      have := hf9 c h
      have := (h1'.lt hc).2
      omega
    · obtain rfl : j = i := by omega
      have hnd : (ws ++ [w])[j]! = w := by
        rw [getElem!_pos _ j (by rw [List.length_append, List.length_singleton]; omega), List.getElem_append_right (by omega)]
        simp
      rw [hnd]
      have hw' : Own 3 H2 w (gs[j]!.map VI) H.n := Own.lower hw lx
      refine ⟨own_keepF hw' l9 fun c hc => kb9.get c (hwa c hc).2 (fun h => by have := hqa c h; have := hwa c hc; omega), fun c hc h => ?_⟩
      have := hf9 c h
      have := hwa c hc
      omega
  obtain rfl : i = gs.length := by omega
  repeat' first
    | refine CO.cons rfl ?_
    | refine CO.nil ?_
    | refine CV.seq ?_
    | refine CV.region callees ?_
    | refine CV.cond ?_
    | refine CV.exit ?_
    | refine CV.ret ?_
    | (refine ⟨_, hgx.alen, ?_⟩)
    | (refine ⟨fun _ => ?_, fun _ => ?_⟩ <;> first | (exfalso; omega) | skip)
    | fail
  exact ⟨by simp only [List.all_cons, List.all_nil, hq.notTuple]; rfl, ⟨ws, hq, ⟨hq.row, hwl, fun j hj => (hws j hj).1.row⟩, fun j hj => (hws j hj).1⟩, kx⟩
set_option maxHeartbeats 16000000 in
set_option maxRecDepth 100000 in
theorem ownSeason2_spec {B : Nat} {H : Heap} {s g : Value} {vs : List Value} {st : List Int} {gs : List (List Int)} (hB : B ≤ H.n) (hs : Ints H s st) (hg : Gri H g vs gs) (hsn : st.length < 1000000) (hgn : gs.length < 1000000) (hgl : ∀ i, i < gs.length → gs[i]!.length < 1000000) :
    CallB Try.prog B 46 [Sev s g] H (fun r H' => (∃ s' g' ws, r = Sev s' g' ∧ Own 3 H' s' (st.map VI) H.n ∧ Own 29 H' g' ws H.n ∧ Gri H' g' ws gs ∧ (∀ c, blkOf g' = some c → blkOf s' ≠ some c) ∧ ∀ j, j < gs.length → ∀ c, blkOf ws[j]! = some c → blkOf s' ≠ some c) ∧ Keep H H') := by
  refine CV.enter callees false rfl Try.func46 rfl (by kernel_rfl) (Nat.le_of_ble_eq_true rfl) hB ?_
  repeat' first
    | refine CO.cons rfl ?_
    | refine CV.seq ?_
    | refine CV.region callees ?_
    | fail
  refine ⟨(by simp only [notTuple]), ?_⟩
  rw [boxSe]
  generalize hs0 : Heap.new H _ = H0
  have hg0 := new_get hs0
  have k0 := new_keep hs0
  have n0 := new_n hs0
  obtain ⟨b0, hbn0⟩ : ∃ b, Heap.n H = b := ⟨_, rfl⟩
  rw [hbn0] at hg0 n0 ⊢
  repeat' first
    | refine CO.cons rfl ?_
    | refine CO.nil ?_
    | refine CV.seq ?_
    | (refine ⟨_, _, alSe, ?_⟩)
    | fail
  generalize hs1 : Heap.new H0 _ = H1
  have hg1 := new_get hs1
  have k1 := new_keep hs1
  have n1 := new_n hs1
  obtain ⟨b1, hbn1⟩ : ∃ b, Heap.n H0 = b := ⟨_, rfl⟩
  rw [hbn1] at hg1 n1 ⊢
  have k01 := k0.trans k1
  have hS1 := (k1.2 b0 (by omega)).trans hg0
  have hs1 : Ints H1 s st := hs.keep k01
  have hgr1 := hg.keep k01
  repeat' first
    | refine CR.cons (es := []) ?_
    | refine CR.call ?_
    | refine CV.wideR callees (by decide +kernel) [(0, []), (1, []), (3, []), (4, []), (2, [4]), (5, []), (6, []), (7, [])] (by kernel_rfl) ?_
    | (refine ⟨_, fS fe0 (by decide), ?_⟩)
    | (refine ⟨_, cell_load agN hS1 rfl, ?_⟩)
    | (refine ⟨_, fS fe1 (by decide), ?_⟩)
    | fail
  refine (ints_spec (Nat.le_refl _) hs1 hsn).mono ?_
  rintro s' H2 ⟨hs2, k2⟩
  have l2 := k2.1
  have hgr2 := hgr1.keep k2
  repeat' first
    | refine CR.cons (es := []) ?_
    | fail
  refine (lists2_spec (by omega) hgr2 hgn hgl).mono ?_
  rintro g' H3 ⟨⟨ws, hw, hgr3, hin⟩, k3⟩
  have hsb : ∀ c, blkOf s' = some c → c < H2.n := fun c hc => (hs2.lt hc).2
  have l3 := k3.1
  have hs3 := hs2.keep k3
  have hbu : abuild Try.prog 68 [(0, s'), (1, g')] = some (Sev s' g') := buSe hs3.row hgr3.row
  have hz3 := (k3.2 b1 (by omega)).trans ((k2.2 b1 (by omega)).trans hg1)
  repeat' first
    | refine CR.cons (es := []) ?_
    | (refine ⟨_, hbu, ?_⟩)
    | fail
  refine ⟨_, _, stSe (Row.oneC hs3.row).1 (Row.oneC hw.row).1 hz3, by omega, ?_⟩
  generalize hs5 : Heap.set H3 b1 _ = H5
  have hg5 : H5.get b1 = some (.cells ([s', g']) 68 1) := set_get hs5
  have n5 := set_n hs5
  have o5 := set_old hs5
  repeat' first
    | refine CV.ret ?_
    | refine CR.nil ?_
    | fail
  have k03 := (k01.trans k2).trans k3
  have l03 := k03.1
  have l01 := k01.1
  have o5x : ∀ c, c ≠ b1 → H5.get c = H3.get c := o5
  have kA : KeepX b1 H3 H5 := ⟨by omega, fun c hc hcl => o5 c hcl⟩
  exact ⟨_, ldSe hg5, rfl, ⟨s', g', ws, rfl, Own.lower (Own.keepX hs3 kA hz3) (by omega), Own.lower (Own.keepX hw kA hz3) (by omega), ⟨Row.keepX hgr3.row kA hz3, hgr3.len, fun i hi => Row.keepX (hgr3.ints i hi) kA hz3⟩, (fun c hc h => by have := (hw.lt hc).1; have := hsb c h; omega), fun j hj c hc h => by have := ((hin j hj).lt hc).1; have := hsb c h; omega⟩, by omega, fun p hp => (o5 p (by omega)).trans (k03.2 p hp)⟩
set_option maxHeartbeats 32000000 in
set_option maxRecDepth 100000 in
theorem fresh_spec {v : Value} {H : Heap} {nums : List Int} (hv : Ints H v nums) (hx : nums.length ≤ 9223372036854775807) :
    CallB Try.prog H.n 12 [v] H (fun r _ => r = .bool true) := by
  have hn : H.n ≤ H.n := Nat.le_refl _
  refine CV.enter callees false rfl Try.func12 rfl (by kernel_rfl) (Nat.le_of_ble_eq_true rfl) hn ?_
  repeat' first
    | refine CO.cons rfl ?_
    | refine CO.nil ?_
    | refine CV.seq ?_
    | refine CV.region callees ?_
    | fail
  refine (boxOf_spec hn hv hx).mono ?_
  rintro r H1 ⟨⟨b, rfl, hb, hbox⟩, k1⟩
  have l1 := k1.1
  have hbn := hbox.1
  repeat' first
    | refine CO.cons rfl ?_
    | refine CO.nil ?_
    | refine CV.seq ?_
    | refine CV.region callees ?_
    | fail
  refine (seasonOf_spec (most := 6) hb l1 hbox (by omega)).mono ?_
  rintro r H2 ⟨⟨s, g, gv, st, gs, rfl, hse, hgl, hst3, hstn⟩, hb2, x2⟩
  have l2 := x2.1
  repeat' first
    | refine CO.cons rfl ?_
    | (refine ⟨_, _, alSe, ?_⟩)
    | fail
  generalize hs3 : Heap.new H2 _ = H3
  have hg3 := new_get hs3
  have k3 := new_keep hs3
  have n3 := new_n hs3
  obtain ⟨b3, hbn3⟩ : ∃ b, Heap.n H2 = b := ⟨_, rfl⟩
  rw [hbn3] at hg3 n3 ⊢
  repeat' first
    | fail
  refine ⟨_, _, stSe (Row.oneC (hse.s.keep k3).row).1 (Row.oneC (hse.g.keep k3).row).1 hg3, by omega, ?_⟩
  generalize hs4 : Heap.set H3 b3 _ = H4
  have hg4 : H4.get b3 = some (.cells ([s, g]) 68 1) := set_get hs4
  have n4 := set_n hs4
  have o4 := set_old hs4
  have k24 : Keep H2 H4 := keep_put k3 (by omega) o4 n4
  have l4 := k24.1
  have hok := hse.so
  have hc := hok.all
  have hseok : seaE st gs = 0 := hse.ok (by omega)
  have hgo := gsOk_of hseok
  have hb4 := hb2.keep k24
  have hs4 : Ints H4 s st := (hse.s.keep k24).row
  have hg4x : Gri H4 g gv gs := hse.gri.keep k24
  have hglen : ∀ i, i < gs.length → gs[i]!.length < 1000000 := fun i hi => by have := (hse.go i hi).m; omega
  have hgmem : ∀ x ∈ gs, x.length < 1000000 := fun x hx => by
    obtain ⟨i, hi, rfl⟩ := List.getElem_of_mem hx
    have := hglen i hi
    rwa [getElem!_pos gs i hi] at this
  clear hse hb2 hg3
  obtain ⟨K, hK⟩ : ∃ K : Nat, combos st = (K : Int) := ⟨(combos st).toNat, by omega⟩
  have e1 : plaXs st gs = planA gs K := by unfold plaXs; rw [if_pos hseok, hK]; rfl
  have hP := planA_ok (gs := gs) (K := K)
  have hmono : ∀ K', K ≤ K' → (planA gs K).length ≤ (planA gs K').length := fun K' h => planA_mono h
  obtain ⟨P, hPe⟩ : ∃ P, planA gs K = P := ⟨_, rfl⟩
  rw [hPe] at e1 hP hmono
  have hPn := hP.n
  repeat' first
    | refine CO.cons rfl ?_
    | refine CO.nil ?_
    | refine CV.seq ?_
    | refine CV.region callees ?_
    | (refine ⟨_, ldSe hg4, ?_⟩)
    | fail
  refine (plan_spec (by omega) hs4 hg4x (by omega) (by omega) hgmem).mono ?_
  rw [e1, hseok]
  rintro r H5 ⟨⟨pv, rfl, hp5⟩, k5⟩
  have l5 := k5.1
  have hS5 := (k5.2 b3 (by omega)).trans hg4
  have hb5 := hb4.keep k5
  have hs5 : Ints H5 s st := hs4.keep k5
  have hg5 := hg4x.keep k5
  repeat' first
    | refine CO.cons rfl ?_
    | refine CO.nil ?_
    | refine CV.seq ?_
    | refine CV.region callees ?_
    | (refine ⟨_, ldSe hS5, ?_⟩)
    | fail
  refine (ownSeason2_spec (by omega) hs5 hg5 (by omega) (by omega) hglen).mono ?_
  rintro r H6 ⟨⟨ms, mg, mw, rfl, ho1, ho2, ho3, ha1, ha2⟩, k6⟩
  have l6 := k6.1
  repeat' first
    | refine CO.cons rfl ?_
    | (refine ⟨_, _, alSe, ?_⟩)
    | fail
  generalize hsm : Heap.new H6 _ = Hm
  have hgm := new_get hsm
  have km := new_keep hsm
  have nm := new_n hsm
  obtain ⟨bm, hbnm⟩ : ∃ b, Heap.n H6 = b := ⟨_, rfl⟩
  rw [hbnm] at hgm nm ⊢
  have ho1m := ho1.keep km
  have ho2m := ho2.keep km
  repeat' first
    | fail
  refine ⟨_, _, stSe (Row.oneC ho1m.row).1 (Row.oneC ho2m.row).1 hgm, by omega, ?_⟩
  generalize hsw : Heap.set Hm bm _ = Hw
  have hgw : Hw.get bm = some (.cells ([ms, mg]) 68 1) := set_get hsw
  have nw := set_n hsw
  have ow := set_old hsw
  have kmw : Keep H6 Hw := keep_put km (by omega) ow nw
  have k5w : Keep H5 Hw := k6.trans kmw
  have lw := k5w.1
  have hmsw : Own 3 Hw ms (st.map VI) H5.n := ho1.keep kmw
  have hmgw : Gri Hw mg mw gs := ho3.keep kmw
  have hmgo : Own 29 Hw mg mw H5.n := ho2.keep kmw
  have hbw := hb5.keep k5w
  have hsn := hok.n
  have hsp := hok.p
  have hmsr : Ints Hw ms st := hmsw.row
  have hmsb : ∀ c, blkOf ms = some c → c < H6.n := fun c hc => (ho1.lt hc).2
  clear ho1 ho2 ho3 ho1m ho2m hgm
  repeat' first
    | refine CO.nil ?_
    | refine CV.seq ?_
    | refine CR.cons (es := []) ?_
    | refine ⟨_, ints_len (by assumption), ?_⟩
    | refine CV.mX callees (by decide +kernel) [(0, []), (1, []), (2, []), (3, []), (4, []), (5, []), (6, [1]), (7, []), (8, []), (9, []), (10, []), (11, [])] (by kernel_rfl) ?_
    | (refine ⟨_, fS fe0 (by decide), ?_⟩)
    | (refine ⟨_, cell_load agN hgw rfl, ?_⟩)
    | fail
  refine CR.callL b (by omega) ?_
  refine (up_spec (Nat.le_refl _) (by omega) hbw (by omega)).mono ?_
  rintro r H7 ⟨⟨x, rfl, hx0, hx1⟩, hb7, x7⟩
  have l7 := x7.1
  have hg7 := (x7.2 bm (by omega) (by omega)).trans hgw
  have hms7 := own_box hmsw x7 hbw
  repeat' first
    | fail
  refine .inl ⟨_, cell_load agN hg7 rfl, rfl, hms7.same, ?_⟩
  obtain ⟨x, rfl⟩ : ∃ n : Nat, x = (n : Int) := ⟨x.toNat, by omega⟩
  have hxl : x < st.length := by omega
  have hxs : st[(x : Int).toNat]! = st[x]! := rfl
  have hm7 : Ints H7 ms st := hms7.row
  have hxb : 1 ≤ st[x]! ∧ st[x]! ≤ 6 := hok.m _ (by rw [getElem!_pos st x hxl]; exact List.getElem_mem _)
  repeat' first
    | refine CR.cons ?_
    | refine ⟨_, ints_addr (by assumption) (by omega) (by omega), ?_⟩
    | refine ⟨_, ints_load (by assumption) (by omega) (by omega), ?_⟩
    | refine ⟨(⟨by omega, by omega⟩ : inI64 _), ?_⟩
    | fail
  refine put_ask (i := x) (y := st[x]! + 1) hms7 (by omega) hxl ?_
  intro H8 hms8 kb8
  have l8 := kb8.le
  have hmsa : ∀ c, blkOf ms = some c → H5.n ≤ c ∧ c < H7.n := fun c hc => ⟨(hms7.lt hc).1, (hms7.lt hc).2⟩
  have k58 : KeepX b H5 H8 := ⟨by omega, fun c hc hcb => (kb8.get c (by omega) (fun h => by have := hmsa c h; omega)).trans ((x7.2 c (by omega) hcb).trans (k5w.2 c hc))⟩
  have hg8 := (kb8.get bm (by omega) (fun h => by have := hmsb bm h; omega)).trans hg7
  have hS8 := (k58.2 b3 (by omega) (by omega)).trans hS5
  have hmg7 : Gri H7 mg mw gs := gri_box hmgw x7 hbw
  have hmg8 : Gri H8 mg mw gs := ⟨row_but hmg7.row kb8 ha1, hmg7.len, fun i hi => row_but (hmg7.ints i hi) kb8 (ha2 i hi)⟩
  have hs8 : Ints H8 s st := row_box hs5 k58 hb5
  have hg8x : Gri H8 g gv gs := gri_box hg5 k58 hb5
  have hp8 : Ints H8 pv P := row_box hp5 k58 hb5
  obtain ⟨hsea2, hcm⟩ := sea_more (gs := gs) hseok hst3 hxl
  obtain ⟨hok2, _, _⟩ := seaE_ok hsea2
  have hc2 := hok2.all
  have hsl2 : (st.set x (st[x]! + 1)).length = st.length := List.length_set
  obtain ⟨K2, hK2⟩ : ∃ K : Nat, combos (st.set x (st[x]! + 1)) = (K : Int) := ⟨(combos (st.set x (st[x]! + 1))).toNat, by omega⟩
  have e2 : plaXs (st.set x (st[x]! + 1)) gs = planA gs K2 := by unfold plaXs; rw [if_pos hsea2, hK2]; rfl
  have hlong := hmono K2 (by omega)
  have hl2 := (planA_ok (gs := gs) (K := K2)).n
  repeat' first
    | refine CO.cons rfl ?_
    | refine CV.seq ?_
    | refine CV.region callees ?_
    | refine CR.nil ?_
    | (refine ⟨_, ldSe hg8, ?_⟩)
    | fail
  refine (plan_spec (by omega) hms8.row hmg8 (by omega) (by omega) hgmem).mono ?_
  rw [e2, hsea2]
  rintro r H9 ⟨⟨lv, rfl, hl9⟩, k9⟩
  have l9 := k9.1
  have hS9 := (k9.2 b3 (by omega)).trans hS8
  have hp9 : Ints H9 pv P := Row.keep hp8 k9
  have hpe : planE st gs P = 0 := by
    unfold planE
    rw [if_pos hseok, if_neg (by omega)]
    exact plE_of fun y hy => by have := hP.m y hy; omega
  have hz : (repS gs P P.length).2.2 = 0 := hP.z
  have hrv : repV st gs P = .tuple #[VI (repS gs P P.length).1, VI (repS gs P P.length).2.1, VI 0, VI 0] := by unfold repV; rw [if_pos hpe, hz]
  repeat' first
    | refine CO.cons rfl ?_
    | refine CO.nil ?_
    | refine CV.seq ?_
    | refine CV.region callees ?_
    | (refine ⟨_, ldSe hS9, ?_⟩)
    | fail
  refine (repeats_spec (by omega) (Row.keep hs8 k9) (hg8x.keep k9) hp9 (by omega) (by omega) hgmem (by omega)).mono ?_
  rw [hrv]
  rintro r HA ⟨rfl, kA⟩
  have lA := kA.1
  have hSA := (kA.2 b3 (by omega)).trans hS9
  have hgA := (hg8x.keep k9).keep kA
  have hsA : Ints HA s st := Row.keep (Row.keep hs8 k9) kA
  have hpA : Ints HA pv P := Row.keep hp9 kA
  have hlA : Ints HA lv (planA gs K2) := Row.keep hl9 kA
  have hrep : ∀ q : List Int, q.length ≤ gs.length → repT gs q q.length 12 = repP gs q := fun q hq => repT_all hgo hq
  generalize (repS gs P P.length).1 = ga
  generalize (repS gs P P.length).2.1 = gu
  repeat' first
    | refine CO.cons rfl ?_
    | refine CO.nil ?_
    | refine CV.seq ?_
    | refine CV.region callees ?_
    | refine CO.consG rfl ?_
    | refine ⟨_, ints_len (by assumption), ?_⟩
    | (refine ⟨_, fS fe1 (by decide), ?_⟩)
    | (refine ⟨_, cell_load agGr hSA rfl, ?_⟩)
    | (refine ⟨_, hgA.alen, ?_⟩)
    | (refine ⟨_, ldSe hSA, ?_⟩)
    | (refine ⟨fun _ => ?_, fun _ => ?_⟩ <;> first | (exfalso; omega) | skip)
    | fail
  refine (repeatsL_spec (by omega) hgA hpA hPn (by omega) hglen).mono ?_
  rw [hrep P hPn, hP.z]
  rintro r HB ⟨rfl, kB⟩
  have lB := kB.1
  have hSB := (kB.2 b3 (by omega)).trans hSA
  have hgB := hgA.keep kB
  have hsB : Ints HB s st := Row.keep hsA kB
  have hpB : Ints HB pv P := Row.keep hpA kB
  have hlB : Ints HB lv (planA gs K2) := Row.keep hlA kB
  repeat' first
    | refine CO.cons rfl ?_
    | refine CO.nil ?_
    | refine CV.seq ?_
    | refine CV.region callees ?_
    | refine CV.cond ?_
    | refine CV.skip ?_
    | refine CO.consG rfl ?_
    | refine ⟨_, ints_len (by assumption), ?_⟩
    | (refine ⟨_, ldSe hSB, ?_⟩)
    | (refine ⟨fun _ => ?_, fun _ => ?_⟩ <;> first | (exfalso; omega) | skip)
    | fail
  refine (plansL_spec (n := P.length) (by omega) hsB hok hK (by omega)).mono ?_
  rintro w HC ⟨⟨ww, hwC⟩, kC⟩
  have lC := kC.1
  have hSC := (kC.2 b3 (by omega)).trans hSB
  have hgC := hgB.keep kC
  have hsC : Ints HC s st := Row.keep hsB kC
  have hpC : Ints HC pv P := Row.keep hpB kC
  obtain ⟨A, Bq, hAB, hA⟩ := hP.first
  have hAl : A.length < (genK K P.length []).length := by rw [hAB]; simp
  have hg1n := gen_len (K := K) (n := P.length) (by omega)
  repeat' first
    | refine CO.cons rfl ?_
    | refine CO.nil ?_
    | refine CV.seq ?_
    | refine CV.region callees ?_
    | refine CV.block ?_
    | fail
  refine CV.loopc ?_
  refine WCv.rounds callees false (α := Nat) (fun i => [(4, .pointer (some ⟨b3, 0, none⟩)), (5, pv), (14, w), (15, VI i)]) (fun i Hz => i ≤ A.length ∧ Keep HC Hz) (fun i => A.length - i) (0) (by repeat' first | exact trivial | refine ⟨rfl, ?_⟩ | refine ⟨slot_int (by (try simp only [Int.toNat_natCast]); omega), ?_⟩) ?_ ?_
  · exact ⟨by omega, Keep.refl _⟩
  rintro i Hx ⟨hi, kx⟩ hBx
  have lx := kx.1
  have hwx := hwC.keep kx
  have hgx := hgC.keep kx
  have hpx : Ints Hx pv P := Row.keep hpC kx
  have hSx := (kx.2 b3 (by omega)).trans hSC
  have hilt : i < (genK K P.length []).length := by omega
  have had := hwx.addr hilt
  have hld := hwx.load hilt
  have hli := hwx.ints i hilt
  have hqn : (genK K P.length [])[i]!.length = P.length := by
    have := (gen_rep (gs := gs) (show (genK K P.length [])[i]! ∈ genK K P.length [] by rw [getElem!_pos _ i hilt]; exact List.getElem_mem _)).2
    simpa using this
  by_cases hi2 : i < A.length
  · have hqi : repP gs (genK K P.length [])[i]! ≠ 0 := by
      refine hA _ ?_
      rw [getElem!_pos _ i hilt]
      have : (genK K P.length [])[i] = A[i] := by
        have h2 : (genK K P.length [])[i]? = A[i]? := by rw [hAB, List.getElem?_append_left hi2]
        rw [List.getElem?_eq_getElem hilt, List.getElem?_eq_getElem hi2] at h2
        exact Option.some.inj h2
      rw [this]
      exact List.getElem_mem _
    obtain ⟨qi, hqe⟩ : ∃ q, (genK K P.length [])[i]! = q := ⟨_, rfl⟩
    rw [hqe] at hqi hqn hli
    have hne : ¬ qi = P := fun h => hqi (by rw [h]; exact hP.z)
    repeat' first
      | refine CO.cons rfl ?_
      | refine CV.seq ?_
      | refine CV.region callees ?_
      | refine CO.consG rfl ?_
      | (refine ⟨_, hwx.alen, ?_⟩)
      | (refine ⟨_, had, ?_⟩)
      | (refine ⟨_, hld, ?_⟩)
      | (refine ⟨fun _ => ?_, fun _ => ?_⟩ <;> first | (exfalso; omega) | skip)
      | fail
    refine (eqInts_spec (by omega) hli hpx (by omega)).mono ?_
    rw [decide_eq_false hne]
    rintro r HD ⟨rfl, kD⟩
    have lD := kD.1
    have hSD := (kD.2 b3 (by omega)).trans hSx
    have hwD := hwx.keep kD
    have had2 := hwD.addr hilt
    have hld2 := hwD.load hilt
    repeat' first
      | refine CO.cons rfl ?_
      | refine CO.nil ?_
      | refine CV.seq ?_
      | refine CV.cond ?_
      | refine CV.block ?_
      | refine CV.skip ?_
      | refine CV.draw callees (by decide +kernel) ?_
      | refine CH.cons rfl ?_
      | refine CH.nil ?_
      | refine CO.consG rfl ?_
      | (refine ⟨_, ldSe hSD, ?_⟩)
      | (refine ⟨_, had2, ?_⟩)
      | (refine ⟨_, hld2, ?_⟩)
      | fail
    refine (repeatsL_spec (plan := qi) (by omega) (hgx.keep kD) (Row.keep hli kD) (by omega) (by omega) hglen).mono ?_
    rw [hrep qi (by omega)]
    rintro r HE ⟨rfl, kE⟩
    repeat' first
      | refine CO.cons rfl ?_
      | refine CO.nil ?_
      | refine CV.region callees ?_
      | refine CV.cond ?_
      | refine CV.skip ?_
      | refine CH.cons rfl ?_
      | refine CH.nil ?_
      | refine ⟨(⟨by omega, by omega⟩ : inI64 _), ?_⟩
      | (refine ⟨fun _ => ?_, fun _ => ?_⟩ <;> first | (exfalso; omega) | skip)
      | fail
    refine ⟨(i + 1), (by repeat' first | exact trivial | refine ⟨rfl, ?_⟩ | refine ⟨slot_int (by (try simp only [Int.toNat_natCast]); omega), ?_⟩), (by (try dsimp only); omega), ?_⟩
    exact ⟨by omega, (kx.trans kD).trans kE⟩
  obtain rfl : i = A.length := by omega
  have hqe : (genK K P.length [])[A.length]! = P := by
    rw [getElem!_pos (genK K P.length []) A.length hilt]
    have h2 : (genK K P.length [])[A.length]? = some P := by rw [hAB, List.getElem?_append_right (Nat.le_refl _)]; simp
    rw [List.getElem?_eq_getElem hilt] at h2
    exact Option.some.inj h2
  rw [hqe] at hli
  repeat' first
    | refine CO.cons rfl ?_
    | refine CV.seq ?_
    | refine CV.region callees ?_
    | refine CO.consG rfl ?_
    | (refine ⟨_, hwx.alen, ?_⟩)
    | (refine ⟨_, had, ?_⟩)
    | (refine ⟨_, hld, ?_⟩)
    | (refine ⟨fun _ => ?_, fun _ => ?_⟩ <;> first | (exfalso; omega) | skip)
    | fail
  refine (eqInts_spec (by omega) hli hpx (by omega)).mono ?_
  rw [decide_eq_true rfl]
  rintro r HD ⟨rfl, kD⟩
  have lD := kD.1
  have kCD := kx.trans kD
  have lCD := kCD.1
  have hSD := (kCD.2 b3 (by omega)).trans hSC
  have hgD := hgC.keep kCD
  have hsD : Ints HD s st := Row.keep hsC kCD
  have hpD : Ints HD pv P := Row.keep hpC kCD
  by_cases hfull : P.length = gs.length
  · repeat' first
      | refine CO.cons rfl ?_
      | refine CO.nil ?_
      | refine CV.seq ?_
      | refine CV.region callees ?_
      | refine CV.cond ?_
      | refine CV.exit ?_
      | refine CO.consG rfl ?_
      | refine ⟨_, ints_len (by assumption), ?_⟩
      | (refine ⟨_, fS fe1 (by decide), ?_⟩)
      | (refine ⟨_, cell_load agGr hSD rfl, ?_⟩)
      | (refine ⟨_, hgD.alen, ?_⟩)
      | (refine ⟨fun _ => ?_, fun _ => ?_⟩ <;> first | (exfalso; omega) | skip)
      | fail
    refine (awake_spec (by omega)).mono ?_
    rintro r I5 ⟨rfl, j5⟩
    repeat' first
      | refine CO.cons rfl ?_
      | refine CO.nil ?_
      | refine CV.ret ?_
      | fail
    exact ⟨rfl, rfl⟩
  have hnone := hP.none (by omega)
  have hg2n := gen_len (K := K) (n := P.length + 1) (by omega)
  repeat' first
    | refine CO.cons rfl ?_
    | refine CO.nil ?_
    | refine CV.seq ?_
    | refine CV.region callees ?_
    | refine CV.cond ?_
    | refine CV.skip ?_
    | refine CV.exit ?_
    | refine CO.consG rfl ?_
    | refine ⟨_, ints_len (by assumption), ?_⟩
    | refine ⟨(⟨by omega, by omega⟩ : inI64 _), ?_⟩
    | (refine ⟨_, fS fe1 (by decide), ?_⟩)
    | (refine ⟨_, cell_load agGr hSD rfl, ?_⟩)
    | (refine ⟨_, hgD.alen, ?_⟩)
    | (refine ⟨_, ldSe hSD, ?_⟩)
    | (refine ⟨fun _ => ?_, fun _ => ?_⟩ <;> first | (exfalso; omega) | skip)
    | fail
  refine (plansL_spec (n := P.length + 1) (by omega) hsD hok hK (by omega)).mono ?_
  rintro w2 HF ⟨⟨ww2, hwF⟩, kF⟩
  have lF := kF.1
  have hSF := (kF.2 b3 (by omega)).trans hSD
  have hgF := hgD.keep kF
  repeat' first
    | refine CO.cons rfl ?_
    | refine CO.nil ?_
    | refine CV.seq ?_
    | refine CV.region callees ?_
    | refine CV.block ?_
    | fail
  refine CV.loopc ?_
  refine WCv.rounds callees false (α := Nat) (fun i => [(4, .pointer (some ⟨b3, 0, none⟩)), (14, w2), (16, VI i)]) (fun i Hz => i ≤ (genK K (P.length + 1) []).length ∧ Keep HF Hz) (fun i => (genK K (P.length + 1) []).length - i) (0) (by repeat' first | exact trivial | refine ⟨rfl, ?_⟩ | refine ⟨slot_int (by (try simp only [Int.toNat_natCast]); omega), ?_⟩) ?_ ?_
  · exact ⟨by omega, Keep.refl _⟩
  clear had hld hli kx lx hwx hgx hpx hSx hBx
  rintro i Hx ⟨hi, kx⟩ hBx
  have lx := kx.1
  have hwx := hwF.keep kx
  have hgx := hgF.keep kx
  have hSx := (kx.2 b3 (by omega)).trans hSF
  by_cases hi2 : i < (genK K (P.length + 1) []).length
  · have had := hwx.addr hi2
    have hld := hwx.load hi2
    have hli := hwx.ints i hi2
    have hmem : (genK K (P.length + 1) [])[i]! ∈ genK K (P.length + 1) [] := by rw [getElem!_pos _ i hi2]; exact List.getElem_mem _
    have hqi := hnone _ hmem
    have hqn : (genK K (P.length + 1) [])[i]!.length = P.length + 1 := by
      have := (gen_rep (gs := gs) hmem).2
      simpa using this
    obtain ⟨qi, hqe⟩ : ∃ q, (genK K (P.length + 1) [])[i]! = q := ⟨_, rfl⟩
    rw [hqe] at hqi hqn hli
    repeat' first
      | refine CO.cons rfl ?_
      | refine CO.nil ?_
      | refine CV.seq ?_
      | refine CV.region callees ?_
      | refine CV.cond ?_
      | refine CV.block ?_
      | refine CV.skip ?_
      | refine CV.draw callees (by decide +kernel) ?_
      | refine CH.cons rfl ?_
      | refine CH.nil ?_
      | (refine ⟨_, hwx.alen, ?_⟩)
      | (refine ⟨_, ldSe hSx, ?_⟩)
      | (refine ⟨_, had, ?_⟩)
      | (refine ⟨_, hld, ?_⟩)
      | (refine ⟨fun _ => ?_, fun _ => ?_⟩ <;> first | (exfalso; omega) | skip)
      | fail
    refine (repeatsL_spec (plan := qi) (by omega) hgx hli (by omega) (by omega) hglen).mono ?_
    rw [hrep qi (by omega)]
    rintro r HE ⟨rfl, kE⟩
    repeat' first
      | refine CO.cons rfl ?_
      | refine CO.nil ?_
      | refine CV.region callees ?_
      | refine CV.cond ?_
      | refine CV.skip ?_
      | refine CH.cons rfl ?_
      | refine CH.nil ?_
      | refine ⟨(⟨by omega, by omega⟩ : inI64 _), ?_⟩
      | (refine ⟨fun _ => ?_, fun _ => ?_⟩ <;> first | (exfalso; omega) | skip)
      | fail
    refine ⟨(i + 1), (by repeat' first | exact trivial | refine ⟨rfl, ?_⟩ | refine ⟨slot_int (by (try simp only [Int.toNat_natCast]); omega), ?_⟩), (by (try dsimp only); omega), ?_⟩
    exact ⟨by omega, kx.trans kE⟩
  obtain rfl : i = (genK K (P.length + 1) []).length := by omega
  repeat' first
    | refine CO.cons rfl ?_
    | refine CO.nil ?_
    | refine CV.seq ?_
    | refine CV.region callees ?_
    | refine CV.cond ?_
    | refine CV.exit ?_
    | (refine ⟨_, hwx.alen, ?_⟩)
    | (refine ⟨fun _ => ?_, fun _ => ?_⟩ <;> first | (exfalso; omega) | skip)
    | fail
  refine (awake_spec (by omega)).mono ?_
  rintro r I5 ⟨rfl, j5⟩
  repeat' first
    | refine CO.cons rfl ?_
    | refine CO.nil ?_
    | refine CV.ret ?_
    | fail
  exact ⟨rfl, rfl⟩
end Go.Proofs.Ytijimplcjaeneaa
