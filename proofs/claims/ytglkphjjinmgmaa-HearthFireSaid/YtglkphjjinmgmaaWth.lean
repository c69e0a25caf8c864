
/- How a fire truly burns, made of numbers. -/
import Derived.Test.YtglkphjjinmgmaaWsh
set_option linter.unusedVariables false
set_option linter.unusedSimpArgs false
namespace Go.Proofs.Ytglkphjjinmgmaa
open Go.AI
theorem coL0 {H : Heap} {b : Nat} {c : Co} {e : TypeId} {k : Nat} (hg : H.get b = some (.cells (Col c) e k)) : aload Try.prog 27 H (.pointer (some ⟨b, 0 + 0, none⟩)) = some (Hv (c.cl, c.ch)) := agg_load ag41 sz41 hg (Nat.le_of_ble_eq_true rfl)
theorem coL1 {H : Heap} {b : Nat} {c : Co} {e : TypeId} {k : Nat} (hg : H.get b = some (.cells (Col c) e k)) : aload Try.prog 27 H (.pointer (some ⟨b, 0 + 2, none⟩)) = some (Hv (c.bl, c.bh)) := agg_load ag41 sz41 hg (Nat.le_of_ble_eq_true rfl)
/-- Numbers within the spans of the coals. -/
def InB (cs : List Co) (U V : List Int) (i : Nat) : Prop := (cs[i]!.cl ≤ U[i]! ∧ U[i]! ≤ cs[i]!.ch) ∧ cs[i]!.bl ≤ V[i]! ∧ V[i]! ≤ cs[i]!.bh
theorem inB_snoc {cs : List Co} {U V : List Int} {i : Nat} {x y : Int} (hU : U.length = i) (hV : V.length = i) (h : ∀ j, j < i → InB cs U V j) (hx : cs[i]!.cl ≤ x ∧ x ≤ cs[i]!.ch) (hy : cs[i]!.bl ≤ y ∧ y ≤ cs[i]!.bh) : ∀ j, j < i + 1 → InB cs (U ++ [x]) (V ++ [y]) j := by
  intro j hj
  unfold InB
  rw [getElem!_pos (U ++ [x]) j (by rw [List.length_append, List.length_singleton]; omega), getElem!_pos (V ++ [y]) j (by rw [List.length_append, List.length_singleton]; omega)]
  by_cases hji : j < i
  · rw [List.getElem_append_left (by omega), List.getElem_append_left (by omega)]
    have := h j hji
    unfold InB at this
    rwa [getElem!_pos U j (by omega), getElem!_pos V j (by omega)] at this
  · obtain rfl : j = i := by omega
    rw [List.getElem_append_right (by omega), List.getElem_append_right (by omega)]
    simp only [List.getElem_singleton]
    exact ⟨hx, hy⟩
set_option maxHeartbeats 16000000 in
set_option maxRecDepth 100000 in
theorem burningOf_spec {B b : Nat} {H : Heap} {cv tv : Value} {cs : List Co} {ts : List (Int × Int)} {c0 t0 : Nat} (hB : B ≤ b) (hn : B ≤ H.n) (hb : Box b H) (hc : OwnC H cv cs c0) (ht : OwnT H tv ts t0) (hf : FOk cs ts) :
    CallB Try.prog B 45 [bp b, Fv cv tv] H (fun r H' => (∃ (u v : Value) (U V : List Int), r = Fv u v ∧ Own 3 H' u (U.map VJ) H.n ∧ Own 3 H' v (V.map VJ) H.n ∧ U.length = cs.length ∧ V.length = cs.length ∧ ∀ i, i < cs.length → InB cs U V i) ∧ Box b H' ∧ KeepX b H H') := by
  have hbn := hb.1
  have hn12 := hf.n
  refine CV.enter callees false rfl Try.func45 rfl (by kernel_rfl) (Nat.le_of_ble_eq_true rfl) hn ?_
  repeat' first
    | refine CO.cons rfl ?_
    | refine CV.seq ?_
    | refine CV.region callees ?_
    | fail
  refine ⟨(by simp only [notTuple]), ?_⟩
  rw [allocFv hc.row.cells.1 ht.row.cells.1]
  generalize hs3 : Heap.new H _ = H3
  have hg3 := new_get hs3
  have k3 := new_keep hs3
  have n3 := new_n hs3
  obtain ⟨b3, hbn3⟩ : ∃ b, Heap.n H = b := ⟨_, rfl⟩
  rw [hbn3] at hg3 n3 ⊢
  repeat' first
    | refine CO.cons rfl ?_
    | refine CO.nil ?_
    | refine CV.seq ?_
    | refine CV.region callees ?_
    | (refine ⟨_, _, al31, ?_⟩)
    | fail
  generalize hs4 : Heap.new H3 _ = H4
  have hg4 := new_get hs4
  have k4 := new_keep hs4
  have n4 := new_n hs4
  obtain ⟨b4, hbn4⟩ : ∃ b, Heap.n H3 = b := ⟨_, rfl⟩
  rw [hbn4] at hg4 n4 ⊢
  repeat' first
    | fail
  generalize hs5 : Heap.new H4 _ = H5
  have hg5 := new_get hs5
  have k5 := new_keep hs5
  have n5 := new_n hs5
  obtain ⟨b5, hbn5⟩ : ∃ b, Heap.n H4 = b := ⟨_, rfl⟩
  rw [hbn5] at hg5 n5 ⊢
  have k35 := (k3.trans k4).trans k5
  have hb5 := hb.keep k35
  have hc5 : OwnC H5 cv cs c0 := OwnS.keep hc k35
  have hf5 := ((k4.trans k5).2 b3 (by omega)).trans hg3
  have hr5 := (k5.2 b4 (by omega)).trans hg4
  repeat' first
    | fail
  refine (up_spec hB (by omega) hb5 (by omega)).mono ?_
  rintro r H6 ⟨⟨how, rfl, w1, w2⟩, hb6, k6⟩
  have l6 := k6.1
  have hc6 : OwnC H6 cv cs c0 := OwnS.boxed hc5 k6 hb5
  have hf6 := (k6.2 b3 (by omega) (by omega)).trans hf5
  have hr6 := (k6.2 b4 (by omega) (by omega)).trans hr5
  have hg6 := (k6.2 b5 (by omega) (by omega)).trans hg5
  have x6 := (k35.butX b).trans k6
  obtain ⟨bn, hbnn⟩ : ∃ bn, H6.n = bn := ⟨_, rfl⟩
  have hcq : ∀ c, blkOf cv = some c → c < bn := fun c hc => by have := (hc6.lt hc).2; omega
  have hU0 : Bu H6 b5 nilS nilS [] [] bn := ⟨by omega, hg6, .inl ⟨rfl, rfl⟩, .inl ⟨rfl, rfl⟩, fun c hc => by cases hc⟩
  repeat' first
    | refine CO.cons rfl ?_
    | refine CO.nil ?_
    | refine CV.seq ?_
    | refine CV.region callees ?_
    | refine CV.block ?_
    | fail
  refine CV.loopc ?_
  refine WCv.rounds callees false (α := Nat × Value × Value × List Int × List Int) (fun (i, u, v, U, V) => [(0, bp b), (3, .pointer (some ⟨b3, 0, none⟩)), (4, .pointer (some ⟨b4, 0, none⟩)), (5, .pointer (some ⟨b5, 0, none⟩)), (6, VJ how), (7, VJ i)]) (fun (i, u, v, U, V) Hz => i ≤ cs.length ∧ (U.length = i ∧ V.length = i ∧ ∀ j, j < i → InB cs U V j) ∧ Bu Hz b5 u v U V bn ∧ Hz.get b3 = some (.cells (Fl cv tv) 25 1) ∧ Hz.get b4 = some (.cells (Fl nilS nilS) 71 1) ∧ OwnC Hz cv cs c0 ∧ Box b Hz ∧ KeepX b H Hz ∧ bn ≤ Hz.n) (fun (i, u, v, U, V) => cs.length - i) (0, nilS, nilS, [], []) (by repeat' first | exact trivial | refine ⟨rfl, ?_⟩ | refine ⟨slot_int (by (try simp only [Int.toNat_natCast]); omega), ?_⟩) ?_ ?_
  · exact ⟨by omega, ⟨rfl, rfl, fun j hj => by omega⟩, hU0, hf6, hr6, hc6, hb6, x6, by omega⟩
  clear hU0 hf6 hr6 hc6 hb6 x6 hg6 hf5 hr5 hc5 hb5 k35 hg5 hg4 hg3
  rintro ⟨i, u, v, U, V⟩ Hx ⟨hi, ⟨hUl, hVl, hUV⟩, hBu, hfx, hrx, hcx, hbx, xx, lx⟩ hBx
  by_cases hi2 : i < cs.length
  · obtain ⟨g1, g2, g3, g4, g5, g6⟩ := (⟨(hf.c i hi2).c1, (hf.c i hi2).c2, (hf.c i hi2).c3, (hf.c i hi2).b1, (hf.c i hi2).b2, (hf.c i hi2).b3⟩ : _ ∧ _ ∧ _ ∧ _ ∧ _ ∧ _)
    repeat' first
      | refine CO.cons rfl ?_
      | refine CO.nil ?_
      | refine CV.seq ?_
      | refine CV.region callees ?_
      | refine CV.cond ?_
      | refine CV.block ?_
      | refine CV.skip ?_
      | (refine ⟨_, fS foF0 (by decide), ?_⟩)
      | (refine ⟨_, cell_load ag25 hfx rfl, ?_⟩)
      | (refine ⟨_, cs_len hcx.row, ?_⟩)
      | (refine ⟨_, cs_addr hcx.row (by omega) (by omega), ?_⟩)
      | (refine ⟨_, cs_load hcx.row hi2, ?_⟩)
      | (refine ⟨_, _, al48, ?_⟩)
      | (refine ⟨fun _ => ?_, fun _ => ?_⟩ <;> first | (exfalso; omega) | skip)
      | fail
    generalize hs7 : Heap.new Hx _ = H7
    have hg7 := new_get hs7
    have k7 := new_keep hs7
    have n7 := new_n hs7
    obtain ⟨b7, hbn7⟩ : ∃ b, Heap.n Hx = b := ⟨_, rfl⟩
    rw [hbn7] at hg7 n7 ⊢
    obtain ⟨bc, hbc⟩ : ∃ bc, b7 = bc := ⟨_, rfl⟩
    rw [hbc] at hg7 n7 hbn7 ⊢
    repeat' first
      | fail
    refine ⟨_, _, st48 hg7, by omega, ?_⟩
    generalize hs8 : Heap.set H7 bc _ = H8
    have hg8 : H8.get bc = some (.cells (Col cs[i]!) 32 1) := set_get hs8
    have n8 := set_n hs8
    have o8 := set_old hs8
    have k8 : Keep Hx H8 := keep_put k7 (by omega) o8 n8
    have l8 := k8.1
    have hb8 := hbx.keep k8
    obtain ⟨c, hcc⟩ : ∃ c, cs[i]! = c := ⟨_, rfl⟩
    rw [hcc] at hg8 g1 g2 g3 g4 g5 g6
    have hxb := hbx.1
    repeat' first
      | refine CO.nil ?_
      | refine CV.seq ?_
      | fail
    refine CV.wideR callees (by decide +kernel) [(0, []), (1, []), (2, []), (4, []), (5, []), (6, []), (3, [6]), (7, []), (8, []), (9, [])] (by kernel_rfl) ?_
    repeat' first
      | refine CR.cons ?_
      | (refine ⟨_, fS foC0 (by decide), ?_⟩)
      | (refine ⟨_, fS foC1 (by decide), ?_⟩)
      | (refine ⟨_, coL0 hg8, ?_⟩)
      | (refine ⟨_, coL1 hg8, ?_⟩)
      | fail
    refine (in_spec (p := (c.cl, c.ch)) hB (by omega) hb8 (by show 0 ≤ c.cl; omega) g2 (by show c.ch < 100000; omega)).mono ?_
    rintro r H9 ⟨⟨x, rfl, x1, x2⟩, hb9, k9⟩
    have l9 := k9.1
    have hg9 := (k9.2 bc (by omega) (by omega)).trans hg8
    repeat' first
      | refine CR.cons ?_
      | (refine ⟨_, coL1 hg9, ?_⟩)
      | (refine ⟨(rfl : _ = Hv (c.bl, c.bh)), ?_⟩)
      | (refine ⟨same_h, ?_⟩)
      | fail
    refine (in_spec (p := (c.bl, c.bh)) hB (by omega) hb9 (by show 0 ≤ c.bl; omega) g5 (by show c.bh < 100000; omega)).mono ?_
    rintro r Ha ⟨⟨y, rfl, y1, y2⟩, hba, ka⟩
    have la := ka.1
    have hga := (ka.2 bc (by omega) (by omega)).trans hg9
    have k8a : KeepX b Hx Ha := ((k8.butX b).trans k9).trans ka
    have hfa := (k8a.2 b3 (by omega) (by omega)).trans hfx
    have hra := (k8a.2 b4 (by omega) (by omega)).trans hrx
    have hca : OwnC Ha cv cs c0 := OwnS.boxed hcx k8a hbx
    have hBa : Bu Ha b5 u v U V bn := ⟨by have := hBu.lt; omega, (k8a.2 b5 hBu.lt (by omega)).trans hBu.g, hBu.u.box k8a hbx, hBu.v.box k8a hbx, hBu.ap⟩
    have xa := xx.trans k8a
    have hm : Ha = Ha := rfl
    simp only at x1 x2 y1 y2
    repeat' first
      | refine CO.cons rfl ?_
      | refine CO.nil ?_
      | refine CV.seq ?_
      | refine CV.region callees ?_
      | refine CR.cons ?_
      | refine CR.nil ?_
      | fail
    refine CV.midK (α := Int × Int) (fun (x, y) => [(0, bp b), (3, .pointer (some ⟨b3, 0, none⟩)), (4, .pointer (some ⟨b4, 0, none⟩)), (5, .pointer (some ⟨b5, 0, none⟩)), (6, VJ how), (7, VJ i), (8, .pointer (some ⟨bc, 0, none⟩)), (9, VJ x), (10, VJ y)]) (fun (x, y) Hz => (c.cl ≤ x ∧ x ≤ c.ch) ∧ (c.bl ≤ y ∧ y ≤ c.bh) ∧ Hz = Ha) ?_ ?_
    · repeat' first
        | refine CO.cons rfl ?_
        | refine CO.nil ?_
        | refine CV.seq ?_
        | refine CV.region callees ?_
        | refine CV.cond ?_
        | refine CV.block ?_
        | refine CV.skip ?_
        | refine CV.draw callees (by decide +kernel) ?_
        | refine CH.cons rfl ?_
        | refine CH.nil ?_
        | (refine ⟨_, fS foC0 (by decide), ?_⟩)
        | (refine ⟨_, fS foC1 (by decide), ?_⟩)
        | (refine ⟨_, fS foS0 (by decide), ?_⟩)
        | (refine ⟨_, fS foS1 (by decide), ?_⟩)
        | (refine ⟨_, cell_load ag3 hga rfl, ?_⟩)
        | (refine ⟨fun _ => ?_, fun _ => ?_⟩ <;> first | (exfalso; omega) | skip)
        | fail
      · refine ⟨((c.cl, c.bh)), (by repeat' first | exact trivial | refine ⟨rfl, ?_⟩), ?_⟩
        exact ⟨⟨by omega, by omega⟩, ⟨by omega, by omega⟩, hm⟩
      · refine ⟨((c.ch, c.bl)), (by repeat' first | exact trivial | refine ⟨rfl, ?_⟩), ?_⟩
        exact ⟨⟨by omega, by omega⟩, ⟨by omega, by omega⟩, hm⟩
      · refine ⟨((x, y)), (by repeat' first | exact trivial | refine ⟨rfl, ?_⟩), ?_⟩
        exact ⟨⟨by omega, by omega⟩, ⟨by omega, by omega⟩, hm⟩
    rintro ⟨x, y⟩ Hq ⟨hx, hy, rfl⟩ hBq
    have bu : ∀ c, blkOf u = some c → bn ≤ c := fun c hc => (hBa.u.lt hc).1
    have bv : ∀ c, blkOf v = some c → bn ≤ c := fun c hc => (hBa.v.lt hc).1
    have kN := Keep.new Hq (.cells [VJ x] 3 2)
    have hgN := (kN.2 b5 hBa.lt).trans hBa.g
    have lt5 := hBa.lt
    repeat' first
      | fail
    refine CV.mX callees (by decide +kernel) [(0, []), (1, []), (2, []), (5, []), (6, []), (7, []), (3, [6, 1]), (4, [6]), (10, []), (8, [6]), (9, []), (11, []), (12, []), (13, [])] (by kernel_rfl) ?_
    repeat' first
      | refine CR.cons ?_
      | (refine ⟨_, fS foR0 (by decide), ?_⟩)
      | (refine ⟨_, fS foR1 (by decide), ?_⟩)
      | (refine ⟨_, cell_load ag22h hBa.g rfl, ?_⟩)
      | (refine ⟨_, _, build_one un22 one3 rfl, ?_⟩)
      | fail
    refine push_ask (y := x) hBa.u (by omega) (by omega) (by omega) ?_
    intro u1 Hu hu1 kbu fu
    have lu := kbu.le
    have hgu := (kbu.get b5 (by omega) (fun h => by have := bu _ h; omega)).trans hBa.g
    have hvu := hBa.v.keepBut kbu hBa.ap.symm
    have au : Apart v u1 := hBa.v.apartNew fu
    have hcu : OwnC Hu cv cs c0 := ownS_keepBt hca kbu fun c h1 h2 => by have := bu _ h2; have := hcq _ h1; omega
    have hfu := (kbu.get b3 (by omega) (fun h => by have := bu _ h; omega)).trans hfa
    have hru := (kbu.get b4 (by omega) (fun h => by have := bu _ h; omega)).trans hra
    have hbu := hba.keepBut kbu (fun h => by have := bu _ h; omega)
    have xu := kbu.keepX xa fun c hc => by have := bu _ hc; omega
    have kM := Keep.new Hu (.cells [VJ y] 3 2)
    have hgM := (kM.2 b5 (by omega)).trans hgu
    repeat' first
      | refine CR.cons ?_
      | (refine ⟨_, cell_load ag22h hgu rfl, ?_⟩)
      | (refine ⟨(rfl : _ = v), ?_⟩)
      | (refine ⟨hvu.same, ?_⟩)
      | (refine ⟨_, fS foR0 (by decide), ?_⟩)
      | (refine ⟨_, _, build_one un22 one3 rfl, ?_⟩)
      | fail
    refine push_ask (y := y) hvu (by omega) (by omega) (by omega) ?_
    intro v1 Hv1 hv1 kbv fv
    have lv := kbv.le
    have hgv := (kbv.get b5 (by omega) (fun h => by have := bv _ h; omega)).trans hgu
    have huv := hu1.keepBut kbv au.symm
    have av1 : Apart u1 v1 := hu1.apartNew fv
    have hcv : OwnC Hv1 cv cs c0 := ownS_keepBt hcu kbv fun c h1 h2 => by have := bv _ h2; have := hcq _ h1; omega
    have hfv := (kbv.get b3 (by omega) (fun h => by have := bv _ h; omega)).trans hfu
    have hrv := (kbv.get b4 (by omega) (fun h => by have := bv _ h; omega)).trans hru
    have hbv := hbu.keepBut kbv (fun h => by have := bv _ h; omega)
    have xv := kbv.keepX xu fun c hc => by have := bv _ hc; omega
    repeat' first
      | refine CR.cons ?_
      | fail
    refine ⟨_, _, store_row (i := 0) sz22h hgv (by show 0 < 2; decide) (own_oneC huv), by omega, ?_⟩
    generalize hsq : Heap.set Hv1 b5 _ = Hw
    have hgw : Hw.get b5 = some (.cells (Fl u1 v) 71 1) := set_get hsq
    have nw := set_n hsq
    have ow := set_old hsq
    repeat' first
      | refine CR.cons ?_
      | (refine ⟨_, fS foR1 (by decide), ?_⟩)
      | fail
    refine ⟨_, _, store_row (i := 1) sz22h hgw (by show 1 < 2; decide) (own_oneC hv1), by omega, ?_⟩
    generalize hsz : Heap.set Hw b5 _ = Ht
    have hgt : Ht.get b5 = some (.cells (Fl u1 v1) 71 1) := set_get hsz
    have nt := set_n hsz
    have ot := set_old hsz
    have kxw : KeepX b5 Hv1 Hw := ⟨by omega, fun x _ hx => ow x hx⟩
    have kxt : KeepX b5 Hw Ht := ⟨by omega, fun x _ hx => ot x hx⟩
    repeat' first
      | refine CO.cons rfl ?_
      | refine CO.nil ?_
      | refine CV.region callees ?_
      | refine CR.nil ?_
      | refine ⟨(⟨by omega, by omega⟩ : inI64 _), ?_⟩
      | fail
    refine ⟨(i + 1, u1, v1, U ++ [x], V ++ [y]), (by repeat' first | exact trivial | refine ⟨rfl, ?_⟩ | refine ⟨slot_int (by (try simp only [Int.toNat_natCast]); omega), ?_⟩), (by (try dsimp only); omega), ?_⟩
    refine ⟨by omega, ⟨by show (U ++ [x]).length = i + 1; rw [List.length_append, List.length_singleton]; omega, by show (V ++ [y]).length = i + 1; rw [List.length_append, List.length_singleton]; omega, inB_snoc hUl hVl hUV (by rw [hcc]; exact hx) (by rw [hcc]; exact hy)⟩, ⟨by omega, hgt, (huv.keepX kxw hgv).keepX kxt hgw, (hv1.keepX kxw hgv).keepX kxt hgw, av1⟩, (ot b3 (by omega)).trans ((ow b3 (by omega)).trans hfv), (ot b4 (by omega)).trans ((ow b4 (by omega)).trans hrv), OwnS.keepX (OwnS.keepX hcv kxw hgv) kxt hgw, (hbv.put (by omega) ow nw).put (by omega) ot nt, KeepX.put (KeepX.put xv (by omega) ow nw) (by omega) ot nt, by omega⟩
  obtain rfl : i = cs.length := by omega
  repeat' first
    | refine CO.cons rfl ?_
    | refine CO.nil ?_
    | refine CV.seq ?_
    | refine CV.region callees ?_
    | refine CV.cond ?_
    | refine CV.exit ?_
    | (refine ⟨_, fS foF0 (by decide), ?_⟩)
    | (refine ⟨_, cell_load ag25 hfx rfl, ?_⟩)
    | (refine ⟨_, cs_len hcx.row, ?_⟩)
    | (refine ⟨_, ld31 hBu.g, ?_⟩)
    | (refine ⟨fun _ => ?_, fun _ => ?_⟩ <;> first | (exfalso; omega) | skip)
    | fail
  have st31 : ∀ {q : Nat} {c p c' p' : Value} {e : TypeId} {Hw : Heap} (h1 : oneC c' = true) (h2 : oneC p' = true) (hg : Hw.get b4 = some (.cells (Fl c p) e (q + 1))), astore Try.prog 71 Hw (Fv c' p') (.pointer (some ⟨b4, 0, none⟩)) = some (Hw.set b4 (.cells (Fl c' p') e (q + 1)), b4) := fun {q c p c' p' e Hw} h1 h2 hg => store_all (vs := Fl c' p') hg rfl sz31 (by
    have : (Fl c' p').all oneC = (oneC c' && (oneC p' && true)) := rfl
    rw [this, h1, h2]; rfl)
  refine ⟨_, _, st31 (own_oneC hBu.u) (own_oneC hBu.v) hrx, by omega, ?_⟩
  generalize hs9 : Heap.set Hx b4 _ = H9
  have hg9 : H9.get b4 = some (.cells (Fl u v) 71 1) := set_get hs9
  have n9 := set_n hs9
  have o9 := set_old hs9
  repeat' first
    | refine CO.nil ?_
    | refine CV.ret ?_
    | fail
  have kA : KeepX b4 Hx H9 := ⟨by omega, fun c hc hcl => o9 c hcl⟩
  exact ⟨_, ld31 hg9, rfl, ⟨u, v, U, V, rfl, (hBu.u.keepX kA hrx).lower (by omega), (hBu.v.keepX kA hrx).lower (by omega), hUl, hVl, hUV⟩, hbx.put (by omega) o9 n9, KeepX.put xx (by omega) o9 n9⟩
end Go.Proofs.Ytglkphjjinmgmaa
