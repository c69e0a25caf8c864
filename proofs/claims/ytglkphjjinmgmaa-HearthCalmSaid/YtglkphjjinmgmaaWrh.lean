
/- HearthEnds. -/
import Derived.Test.YtglkphjjinmgmaaWoh
import Derived.Test.YtglkphjjinmgmaaWqh
set_option linter.unusedVariables false
set_option linter.unusedSimpArgs false
namespace Go.Proofs.Ytglkphjjinmgmaa
open Go.AI
theorem own_oneC {e : TypeId} {H : Heap} {v : Value} {vs : List Value} {B : Nat} (h : Own e H v vs B) : AI.oneC v = true := by
  rcases h with ⟨rfl, _⟩ | ⟨_, rfl, _⟩ <;> rfl
theorem take_fn {f : Co → Int} {l : List Co} {i : Nat} (h : i < l.length) : (l.take i).map f ++ [f l[i]!] = (l.take (i + 1)).map f := by
  rw [List.take_add_one, List.map_append, List.getElem?_eq_getElem h, getElem!_pos l i h]; rfl
theorem sz22h : sizeB Try.prog 33 = some 1 := by kernel_rfl
theorem zero31 : zeroCells Try.prog 71 = some (Fl nilS nilS) := by kernel_rfl
theorem al31 {H : Heap} : sAlloc Try.prog H 71 = some (.pointer (some ⟨H.n, 0, none⟩), H.new (.cells (Fl nilS nilS) 71 1), H.n) := alloc_of zero31
theorem sz31 : sizeB Try.prog 71 = some 2 := by kernel_rfl
theorem ag31 : isAggB Try.prog 71 = some true := by kernel_rfl
theorem ld31 {H : Heap} {b : Nat} {c p : Value} {e : TypeId} {q : Nat} (hg : H.get b = some (.cells (Fl c p) e q)) : aload Try.prog 71 H (.pointer (some ⟨b, 0, none⟩)) = some (Fv c p) := agg_load ag31 sz31 hg (Nat.le_refl _)
theorem begS_at {cs : List Co} {B0 B1 : List Int} {i : Nat} (h : i < cs.length) : (begS (emL cs B0 B1))[i]! = (B0[i]!, B1[i]!) := by
  have h2 : i < (emL cs B0 B1).length := by rw [emL_len]; exact h
  have h3 : i < (begS (emL cs B0 B1)).length := by rw [begS, List.length_map]; exact h2
  rw [getElem!_pos _ i h3]
  simp only [begS, List.getElem_map]
  have := emL_at (B0 := B0) (B1 := B1) h
  rw [getElem!_pos _ i h2] at this
  rw [this]; rfl
theorem begS_len {cs : List Co} {B0 B1 : List Int} : (begS (emL cs B0 B1)).length = cs.length := by rw [begS, List.length_map, emL_len]
/-- Two rows of numbers behind a block. -/
structure Bu (H : Heap) (b : Nat) (x y : Value) (U V : List Int) (B0 : Nat) : Prop where
  lt : b < H.n
  g : H.get b = some (.cells (Fl x y) 71 1)
  u : Own 3 H x (U.map VJ) B0
  v : Own 3 H y (V.map VJ) B0
  ap : Apart x y
theorem Bu.keep {H H' : Heap} {b B0 : Nat} {u v : Value} {U V : List Int} (h : Bu H b u v U V B0) (k : Keep H H') : Bu H' b u v U V B0 := ⟨Nat.lt_of_lt_of_le h.lt k.1, (k.2 b h.lt).trans h.g, h.u.keep k, h.v.keep k, h.ap⟩
/-- Another block with its rows, when a row is made longer. -/
theorem Bu.but {H H' : Heap} {b B0 : Nat} {x u v : Value} {U V : List Int} (h : Bu H b u v U V B0) (k : KeepBut x H H') (hb : blkOf x ≠ some b) (h1 : Apart u x) (h2 : Apart v x) : Bu H' b u v U V B0 := ⟨Nat.lt_of_lt_of_le h.lt k.le, (k.get b h.lt hb).trans h.g, h.u.keepBut k h1, h.v.keepBut k h2, h.ap⟩
theorem Bu.set {H H' : Heap} {b c B0 : Nat} {u v : Value} {U V : List Int} {cs0 : List Value} {e0 : TypeId} (h : Bu H b u v U V B0) (hg : H.get c = some (.cells cs0 e0 1)) (hbc : b ≠ c) (o : ∀ x, x ≠ c → H'.get x = H.get x) (n : H'.n = H.n) : Bu H' b u v U V B0 := by
  have k : KeepX c H H' := ⟨by omega, fun x _ hx => o x hx⟩
  exact ⟨by have := h.lt; omega, (o b hbc).trans h.g, h.u.keepX k hg, h.v.keepX k hg, h.ap⟩
set_option maxHeartbeats 16000000 in
set_option maxRecDepth 100000 in
theorem ends_spec {v : Value} {H : Heap} {nums : List Int} (hv : Ints H v nums) (hx : nums.length ≤ 9223372036854775807) :
    CallB Try.prog H.n 7 [v] H (fun r _ => r = .bool true) := by
  have hn : H.n ≤ H.n := Nat.le_refl _
  refine CV.enter callees false rfl Try.func7 rfl (by kernel_rfl) (Nat.le_of_ble_eq_true rfl) hn ?_
  repeat' first
    | refine CO.cons rfl ?_
    | refine CO.nil ?_
    | refine CV.seq ?_
    | refine CV.region callees ?_
    | fail
  refine (boxOf_spec hn hv hx).mono ?_
  rintro r H1 ⟨⟨b, rfl, hb, hbox⟩, k1⟩
  have l1 := k1.1
  repeat' first
    | refine CO.cons rfl ?_
    | fail
  refine (fireOf_spec hb l1 hbox (by omega) (by omega)).mono ?_
  rintro r H2 ⟨⟨cv, tv, cs, ts, rfl, hc2, ht2, hf, hcn, hcs⟩, hb2, x2⟩
  have l2 := x2.1
  have hbn := hbox.1
  have kH2 : Keep H H2 := x2.keep k1 hb
  repeat' first
    | refine CO.cons rfl ?_
    | (refine ⟨_, _, al28, ?_⟩)
    | fail
  generalize hs3 : Heap.new H2 _ = H3
  have hg3 := new_get hs3
  have k3 := new_keep hs3
  have n3 := new_n hs3
  obtain ⟨b3, hbn3⟩ : ∃ b, Heap.n H2 = b := ⟨_, rfl⟩
  rw [hbn3] at hg3 n3 ⊢
  repeat' first
    | fail
  refine ⟨_, _, st28 hc2.oneC ht2.oneC hg3, by omega, ?_⟩
  generalize hsb : Heap.set H3 b3 _ = Hb
  have hgb : Hb.get b3 = some (.cells (Fl cv tv) 25 1) := set_get hsb
  have nb := set_n hsb
  have ob := set_old hsb
  have kb : Keep H2 Hb := keep_put k3 (by omega) ob nb
  have hcb := hc2.keep kb
  have htb := ht2.keep kb
  repeat' first
    | refine CO.cons rfl ?_
    | refine CO.nil ?_
    | refine CV.seq ?_
    | refine CV.region callees ?_
    | refine CV.block ?_
    | (refine ⟨_, _, al31, ?_⟩)
    | fail
  generalize hs4 : Heap.new Hb _ = H4
  have hg4 := new_get hs4
  have k4 := new_keep hs4
  have n4 := new_n hs4
  obtain ⟨b4, hbn4⟩ : ∃ b, Heap.n Hb = b := ⟨_, rfl⟩
  rw [hbn4] at hg4 n4 ⊢
  repeat' first
    | fail
  generalize hs5 : Heap.new H4 _ = H5
  have hg5 := new_get hs5
  have k5 := new_keep hs5
  have n5 := new_n hs5
  obtain ⟨b5, hbn5⟩ : ∃ b, Heap.n H4 = b := ⟨_, rfl⟩
  rw [hbn5] at hg5 n5 ⊢
  have k45 := k4.trans k5
  have hg45 := (k5.2 b4 (by omega)).trans hg4
  obtain ⟨bn, hbnn⟩ : ∃ bn, H5.n = bn := ⟨_, rfl⟩
  have hBs0 : Bu H5 b4 nilS nilS [] [] bn := ⟨by omega, hg45, .inl ⟨rfl, rfl⟩, .inl ⟨rfl, rfl⟩, fun c hc => by cases hc⟩
  have hBl0 : Bu H5 b5 nilS nilS [] [] bn := ⟨by omega, hg5, .inl ⟨rfl, rfl⟩, .inl ⟨rfl, rfl⟩, fun c hc => by cases hc⟩
  repeat' first
    | fail
  refine CV.loopc ?_
  refine WCv.rounds callees false (α := Nat × Value × Value × Value × Value) (fun (i, s1, s2, t1, t2) => [(3, .pointer (some ⟨b3, 0, none⟩)), (4, .pointer (some ⟨b4, 0, none⟩)), (5, .pointer (some ⟨b5, 0, none⟩)), (6, VJ i)]) (fun (i, s1, s2, t1, t2) Hz => i ≤ cs.length ∧ Bu Hz b4 s1 s2 ((cs.take i).map (ca 0)) ((cs.take i).map (bu 0)) bn ∧ Bu Hz b5 t1 t2 ((cs.take i).map (ca 1)) ((cs.take i).map (bu 1)) bn ∧ (Apart t1 s1 ∧ Apart t2 s1 ∧ Apart t1 s2 ∧ Apart t2 s2) ∧ Keep Hb Hz ∧ bn ≤ Hz.n) (fun (i, s1, s2, t1, t2) => cs.length - i) (0, nilS, nilS, nilS, nilS) (by repeat' first | exact trivial | refine ⟨rfl, ?_⟩ | refine ⟨slot_int (by (try simp only [Int.toNat_natCast]); omega), ?_⟩) ?_ ?_
  · exact ⟨by omega, hBs0, hBl0, ⟨fun c hc => (by cases hc), fun c hc => (by cases hc), fun c hc => (by cases hc), fun c hc => (by cases hc)⟩, k45, by omega⟩
  clear hBs0 hBl0 k45 hg45 hg5 hg4 k4 k5
  rintro ⟨i, s1, s2, t1, t2⟩ Hx ⟨hi, hBs, hBl, ⟨p1, p2, p3, p4⟩, kx, lx⟩ hBx
  have hfx := (kx.2 b3 (by omega)).trans hgb
  have hcx := hcb.keep kx
  have htx := htb.keep kx
  by_cases hi2 : i < cs.length
  · repeat' first
      | refine CO.cons rfl ?_
      | refine CO.nil ?_
      | refine CV.seq ?_
      | refine CV.region callees ?_
      | refine CV.cond ?_
      | refine CV.block ?_
      | refine CV.skip ?_
      | (refine ⟨_, fS foF0 (by decide), ?_⟩)
      | (refine ⟨_, cell_load ag25 hfx rfl, ?_⟩)
      | (refine ⟨_, cs_len hcx.row, ?_⟩)
      | (refine ⟨_, cs_addr hcx.row (by omega) (by omega), ?_⟩)
      | (refine ⟨_, cs_load hcx.row hi2, ?_⟩)
      | (refine ⟨_, _, al48, ?_⟩)
      | (refine ⟨fun _ => ?_, fun _ => ?_⟩ <;> first | (exfalso; omega) | skip)
      | fail
    generalize hs6 : Heap.new Hx _ = H6
    have hg6 := new_get hs6
    have k6 := new_keep hs6
    have n6 := new_n hs6
    obtain ⟨b6, hbn6⟩ : ∃ b, Heap.n Hx = b := ⟨_, rfl⟩
    rw [hbn6] at hg6 n6 ⊢
    obtain ⟨bc, hbc⟩ : ∃ bc, b6 = bc := ⟨_, rfl⟩
    rw [hbc] at hg6 n6 hbn6 ⊢
    repeat' first
      | fail
    refine ⟨_, _, st48 hg6, by omega, ?_⟩
    generalize hs7 : Heap.set H6 bc _ = H7
    have hg7 : H7.get bc = some (.cells (Col cs[i]!) 32 1) := set_get hs7
    have n7 := set_n hs7
    have o7 := set_old hs7
    have k7 : Keep Hx H7 := keep_put k6 (by omega) o7 n7
    have kinA : Keep Hb H7 := kx.trans k7
    have hBA := hBs.keep k7
    have hOA := hBl.keep k7
    have nuA : blkOf s1 ≠ some bc := fun h => by have := (hBs.u.lt h).2; omega
    have nvA : blkOf s2 ≠ some bc := fun h => by have := (hBs.v.lt h).2; omega
    have nuB : blkOf t1 ≠ some bc := fun h => by have := (hBl.u.lt h).2; omega
    have nvB : blkOf t2 ≠ some bc := fun h => by have := (hBl.v.lt h).2; omega
    have a31A := p1
    have a32A := p2
    have a41A := p3
    have a42A := p4
    have hccA := hg7
    repeat' first
      | refine CO.nil ?_
      | refine CV.seq ?_
      | fail
    have kNA := Keep.new H7 (.cells [VJ cs[i]!.cl] 3 2)
    have hgNA := (kNA.2 b4 (by omega)).trans hBA.g
    have hcNA := (kNA.2 bc (by omega)).trans hccA
    have buA : ∀ c, blkOf s1 = some c → bn ≤ c := fun c hc => (hBA.u.lt hc).1
    have bvA : ∀ c, blkOf s2 = some c → bn ≤ c := fun c hc => (hBA.v.lt hc).1
    refine CV.mX callees (by decide +kernel) [(0, []), (1, []), (2, []), (3, []), (4, []), (7, []), (8, []), (9, []), (10, []), (11, []), (5, [11, 8, 1]), (6, [11, 8]), (14, []), (12, [8]), (13, []), (15, []), (16, []), (17, [])] (by kernel_rfl) ?_
    repeat' first
      | refine CR.cons ?_
      | (refine ⟨_, fS foR0 (by decide), ?_⟩)
      | (refine ⟨_, fS foR1 (by decide), ?_⟩)
      | (refine ⟨_, cell_load ag22h hBA.g rfl, ?_⟩)
      | (refine ⟨_, fS foC0 (by decide), ?_⟩)
      | (refine ⟨_, fS foC1 (by decide), ?_⟩)
      | (refine ⟨_, cell_load ag3 hccA rfl, ?_⟩)
      | (refine ⟨_, _, build_one un22 one3 rfl, ?_⟩)
      | fail
    refine push_ask (y := cs[i]!.cl) hBA.u (by omega) (by omega) (by rw [List.length_map, List.length_take]; omega) ?_
    intro uA HuA huA kbuA fuA
    have luA := kbuA.le
    have hguA := (kbuA.get b4 (by omega) (fun h => by have := buA _ h; omega)).trans hBA.g
    have hcuA := (kbuA.get bc (by omega) nuA).trans hccA
    have hvuA := hBA.v.keepBut kbuA hBA.ap.symm
    have auA : Apart s2 uA := hBA.v.apartNew fuA
    have hOuA := hOA.but kbuA (fun h => by have := buA _ h; omega) a31A a32A
    have kMA := Keep.new HuA (.cells [VJ cs[i]!.bh] 3 2)
    have hgMA := (kMA.2 b4 (by omega)).trans hguA
    repeat' first
      | refine CR.cons ?_
      | (refine ⟨_, cell_load ag3 hcuA rfl, ?_⟩)
      | (refine ⟨_, cell_load ag22h hguA rfl, ?_⟩)
      | (refine ⟨(rfl : _ = Value.int _ _), ?_⟩)
      | (refine ⟨same_int, ?_⟩)
      | (refine ⟨(rfl : _ = s2), ?_⟩)
      | (refine ⟨hvuA.same, ?_⟩)
      | (refine ⟨_, fS foR0 (by decide), ?_⟩)
      | (refine ⟨_, _, build_one un22 one3 rfl, ?_⟩)
      | fail
    refine push_ask (y := cs[i]!.bh) hvuA (by omega) (by omega) (by rw [List.length_map, List.length_take]; omega) ?_
    intro vA HvA hvA kbvA fvA
    have lvA := kbvA.le
    have hgvA := (kbvA.get b4 (by omega) (fun h => by have := bvA _ h; omega)).trans hguA
    have hcvA := (kbvA.get bc (by omega) nvA).trans hcuA
    have huvA := huA.keepBut kbvA auA.symm
    have avA : Apart uA vA := huA.apartNew fvA
    have hOvA := hOuA.but kbvA (fun h => by have := bvA _ h; omega) a41A a42A
    have c1A : Apart t1 uA := hOA.u.apartNew fuA
    have c2A : Apart t2 uA := hOA.v.apartNew fuA
    have c3A : Apart t1 vA := hOuA.u.apartNew fvA
    have c4A : Apart t2 vA := hOuA.v.apartNew fvA
    have kvA : Keep Hb HvA := kbvA.keep (kbuA.keep kinA fun c hc => by have := buA c hc; omega) fun c hc => by have := bvA c hc; omega
    repeat' first
      | refine CR.cons ?_
      | fail
    refine ⟨_, _, store_row (i := 0) sz22h hgvA (by show 0 < 2; decide) (own_oneC huvA), by omega, ?_⟩
    generalize hsqA : Heap.set HvA b4 _ = HqA
    have hgqA : HqA.get b4 = some (.cells (Fl uA s2) 71 1) := set_get hsqA
    have nqA := set_n hsqA
    have oqA := set_old hsqA
    repeat' first
      | refine CR.cons ?_
      | (refine ⟨_, fS foR1 (by decide), ?_⟩)
      | fail
    refine ⟨_, _, store_row (i := 1) sz22h hgqA (by show 1 < 2; decide) (own_oneC hvA), by omega, ?_⟩
    generalize hszA : Heap.set HqA b4 _ = HzA
    have hgzA : HzA.get b4 = some (.cells (Fl uA vA) 71 1) := set_get hszA
    have nzA := set_n hszA
    have ozA := set_old hszA
    have hOzA := (hOvA.set hgvA (by omega) oqA nqA).set hgqA (by omega) ozA nzA
    have kxqA : KeepX b4 HvA HqA := ⟨by omega, fun x _ hx => oqA x hx⟩
    have kxzA : KeepX b4 HqA HzA := ⟨by omega, fun x _ hx => ozA x hx⟩
    have hBzA : Bu HzA b4 uA vA _ _ bn := ⟨by omega, hgzA, (huvA.keepX kxqA hgvA).keepX kxzA hgqA, (hvA.keepX kxqA hgvA).keepX kxzA hgqA, avA⟩
    have hczA := (ozA bc (by omega)).trans ((oqA bc (by omega)).trans hcvA)
    have kzA : Keep Hb HzA := keep_put (keep_put kvA (by omega) oqA nqA) (by omega) ozA nzA
    have hBB := hOzA
    have hOB := hBzA
    have hccB := hczA
    have kinB := kzA
    have a31B : Apart uA t1 := c1A.symm
    have a32B : Apart vA t1 := c3A.symm
    have a41B : Apart uA t2 := c2A.symm
    have a42B : Apart vA t2 := c4A.symm
    repeat' first
      | refine CR.nil ?_
      | fail
    have kNB := Keep.new HzA (.cells [VJ cs[i]!.ch] 3 2)
    have hgNB := (kNB.2 b5 (by omega)).trans hBB.g
    have hcNB := (kNB.2 bc (by omega)).trans hccB
    have buB : ∀ c, blkOf t1 = some c → bn ≤ c := fun c hc => (hBB.u.lt hc).1
    have bvB : ∀ c, blkOf t2 = some c → bn ≤ c := fun c hc => (hBB.v.lt hc).1
    refine CV.mX callees (by decide +kernel) [(0, []), (1, []), (2, []), (3, []), (4, []), (7, []), (8, []), (9, []), (10, []), (11, []), (5, [11, 8, 1]), (6, [11, 8]), (14, []), (12, [8]), (13, []), (15, []), (16, []), (17, [])] (by kernel_rfl) ?_
    repeat' first
      | refine CR.cons ?_
      | (refine ⟨_, fS foR0 (by decide), ?_⟩)
      | (refine ⟨_, fS foR1 (by decide), ?_⟩)
      | (refine ⟨_, cell_load ag22h hBB.g rfl, ?_⟩)
      | (refine ⟨_, fS foC0 (by decide), ?_⟩)
      | (refine ⟨_, fS foC1 (by decide), ?_⟩)
      | (refine ⟨_, cell_load ag3 hccB rfl, ?_⟩)
      | (refine ⟨_, _, build_one un22 one3 rfl, ?_⟩)
      | fail
    refine push_ask (y := cs[i]!.ch) hBB.u (by omega) (by omega) (by rw [List.length_map, List.length_take]; omega) ?_
    intro uB HuB huB kbuB fuB
    have luB := kbuB.le
    have hguB := (kbuB.get b5 (by omega) (fun h => by have := buB _ h; omega)).trans hBB.g
    have hcuB := (kbuB.get bc (by omega) nuB).trans hccB
    have hvuB := hBB.v.keepBut kbuB hBB.ap.symm
    have auB : Apart t2 uB := hBB.v.apartNew fuB
    have hOuB := hOB.but kbuB (fun h => by have := buB _ h; omega) a31B a32B
    have kMB := Keep.new HuB (.cells [VJ cs[i]!.bl] 3 2)
    have hgMB := (kMB.2 b5 (by omega)).trans hguB
    repeat' first
      | refine CR.cons ?_
      | (refine ⟨_, cell_load ag3 hcuB rfl, ?_⟩)
      | (refine ⟨_, cell_load ag22h hguB rfl, ?_⟩)
      | (refine ⟨(rfl : _ = Value.int _ _), ?_⟩)
      | (refine ⟨same_int, ?_⟩)
      | (refine ⟨(rfl : _ = t2), ?_⟩)
      | (refine ⟨hvuB.same, ?_⟩)
      | (refine ⟨_, fS foR0 (by decide), ?_⟩)
      | (refine ⟨_, _, build_one un22 one3 rfl, ?_⟩)
      | fail
    refine push_ask (y := cs[i]!.bl) hvuB (by omega) (by omega) (by rw [List.length_map, List.length_take]; omega) ?_
    intro vB HvB hvB kbvB fvB
    have lvB := kbvB.le
    have hgvB := (kbvB.get b5 (by omega) (fun h => by have := bvB _ h; omega)).trans hguB
    have hcvB := (kbvB.get bc (by omega) nvB).trans hcuB
    have huvB := huB.keepBut kbvB auB.symm
    have avB : Apart uB vB := huB.apartNew fvB
    have hOvB := hOuB.but kbvB (fun h => by have := bvB _ h; omega) a41B a42B
    have c1B : Apart uA uB := hOB.u.apartNew fuB
    have c2B : Apart vA uB := hOB.v.apartNew fuB
    have c3B : Apart uA vB := hOuB.u.apartNew fvB
    have c4B : Apart vA vB := hOuB.v.apartNew fvB
    have kvB : Keep Hb HvB := kbvB.keep (kbuB.keep kinB fun c hc => by have := buB c hc; omega) fun c hc => by have := bvB c hc; omega
    repeat' first
      | refine CR.cons ?_
      | fail
    refine ⟨_, _, store_row (i := 0) sz22h hgvB (by show 0 < 2; decide) (own_oneC huvB), by omega, ?_⟩
    generalize hsqB : Heap.set HvB b5 _ = HqB
    have hgqB : HqB.get b5 = some (.cells (Fl uB t2) 71 1) := set_get hsqB
    have nqB := set_n hsqB
    have oqB := set_old hsqB
    repeat' first
      | refine CR.cons ?_
      | (refine ⟨_, fS foR1 (by decide), ?_⟩)
      | fail
    refine ⟨_, _, store_row (i := 1) sz22h hgqB (by show 1 < 2; decide) (own_oneC hvB), by omega, ?_⟩
    generalize hszB : Heap.set HqB b5 _ = HzB
    have hgzB : HzB.get b5 = some (.cells (Fl uB vB) 71 1) := set_get hszB
    have nzB := set_n hszB
    have ozB := set_old hszB
    have hOzB := (hOvB.set hgvB (by omega) oqB nqB).set hgqB (by omega) ozB nzB
    have kxqB : KeepX b5 HvB HqB := ⟨by omega, fun x _ hx => oqB x hx⟩
    have kxzB : KeepX b5 HqB HzB := ⟨by omega, fun x _ hx => ozB x hx⟩
    have hBzB : Bu HzB b5 uB vB _ _ bn := ⟨by omega, hgzB, (huvB.keepX kxqB hgvB).keepX kxzB hgqB, (hvB.keepX kxqB hgvB).keepX kxzB hgqB, avB⟩
    have hczB := (ozB bc (by omega)).trans ((oqB bc (by omega)).trans hcvB)
    have kzB : Keep Hb HzB := keep_put (keep_put kvB (by omega) oqB nqB) (by omega) ozB nzB
    have e1 : (cs.take i).map (ca 0) ++ [cs[i]!.cl] = (cs.take (i + 1)).map (ca 0) := take_fn hi2
    have e2 : (cs.take i).map (bu 0) ++ [cs[i]!.bh] = (cs.take (i + 1)).map (bu 0) := take_fn hi2
    have e3 : (cs.take i).map (ca 1) ++ [cs[i]!.ch] = (cs.take (i + 1)).map (ca 1) := take_fn hi2
    have e4 : (cs.take i).map (bu 1) ++ [cs[i]!.bl] = (cs.take (i + 1)).map (bu 1) := take_fn hi2
    rw [e1, e2] at hOzB
    rw [e3, e4] at hBzB
    repeat' first
      | refine CO.cons rfl ?_
      | refine CO.nil ?_
      | refine CV.region callees ?_
      | refine CR.nil ?_
      | refine ⟨(⟨by omega, by omega⟩ : inI64 _), ?_⟩
      | fail
    refine ⟨(i + 1, uA, vA, uB, vB), (by repeat' first | exact trivial | refine ⟨rfl, ?_⟩ | refine ⟨slot_int (by (try simp only [Int.toNat_natCast]); omega), ?_⟩), (by (try dsimp only); omega), ?_⟩
    exact ⟨by omega, hOzB, hBzB, ⟨c1B.symm, c3B.symm, c2B.symm, c4B.symm⟩, kzB, by omega⟩
  obtain rfl : i = cs.length := by omega
  rw [List.take_length] at hBs hBl
  obtain ⟨B0, hB0⟩ := isBeg_ex (e := 0) hf
  obtain ⟨B1, hB1⟩ := isBeg_ex (e := 1) hf
  have hC1 := hBs.u.row
  have hR1 := hBs.v.row
  have hC2 := hBl.u.row
  have hR2 := hBl.v.row
  have hs0 : ∀ i, i < cs.length → ca 0 cs[i]! ≤ 8 := fun i hi => by
    have h1 := (hcs i hi).c8; have h2 := (hcs i hi).c2
    show cs[i]!.cl ≤ 8; omega
  have hs1 : ∀ i, i < cs.length → ca 1 cs[i]! ≤ 8 := fun i hi => (hcs i hi).c8
  repeat' first
    | refine CO.cons rfl ?_
    | refine CO.nil ?_
    | refine CV.seq ?_
    | refine CV.region callees ?_
    | refine CV.cond ?_
    | refine CV.exit ?_
    | (refine ⟨_, fS foF0 (by decide), ?_⟩)
    | (refine ⟨_, cell_load ag25 hfx rfl, ?_⟩)
    | (refine ⟨_, cs_len hcx.row, ?_⟩)
    | (refine ⟨fun _ => ?_, fun _ => ?_⟩ <;> first | (exfalso; omega) | skip)
    | fail
  refine CV.wide callees (by decide +kernel) [0, 1, 3, 4, 2, 5, 6, 7] (by kernel_rfl) ?_
  repeat' first
    | refine CG.cons rfl ?_
    | (refine ⟨_, ld28 hfx, ?_⟩)
    | (refine ⟨_, ld31 hBs.g, ?_⟩)
    | (refine ⟨_, ld31 hBl.g, ?_⟩)
    | fail
  refine (truly_spec (Nat.le_refl _) hcx.row htx.row htx.same hC1 hR1 rfl (fun _ _ => rfl) hf (by omega) hs0 hB0).mono ?_
  rintro lo H8 ⟨hlo, k8⟩
  have l8 := k8.1
  have hfx8 := (k8.2 b3 (by have := kx.1; omega)).trans hfx
  repeat' first
    | refine CG.cons rfl ?_
    | fail
  refine (truly_spec (Nat.le_refl _) (hcx.keep k8).row (htx.keep k8).row htx.same (hC2.keep k8) (hR2.keep k8) rfl (fun _ _ => rfl) hf (by omega) hs1 hB1).mono ?_
  rintro hi H9 ⟨hhi, k9⟩
  have l9 := k9.1
  have kx9 := kx.trans (k8.trans k9)
  have hfx9 := (kx9.2 b3 (by omega)).trans hgb
  have hlo9 := hlo.keep k9
  repeat' first
    | refine CO.cons rfl ?_
    | refine CV.seq ?_
    | refine CV.region callees ?_
    | refine CG.cons rfl ?_
    | refine CG.nil ?_
    | (refine ⟨_, ld28 hfx9, ?_⟩)
    | fail
  refine (begins_spec (by omega) (hcb.keep kx9).row (htb.keep kx9).row hf hB0 hB1).mono ?_
  rintro r Ha ⟨⟨q, rfl, hqa⟩, ka⟩
  have la := ka.1
  have hloa : Ints Ha lo B0 := (hlo9.keep ka).row
  have hhia : Ints Ha hi B1 := (hhi.keep ka).row
  have hb0l := hB0.len
  have hb1l := hB1.len
  have hql := begS_len (cs := cs) (B0 := B0) (B1 := B1)
  repeat' first
    | refine CO.cons rfl ?_
    | refine CO.nil ?_
    | refine CV.seq ?_
    | refine CV.region callees ?_
    | refine CV.cond ?_
    | refine CV.block ?_
    | refine CV.skip ?_
    | refine CO.consG rfl ?_
    | refine ⟨_, ints_len (by assumption), ?_⟩
    | (refine ⟨_, sp_len hqa.row, ?_⟩)
    | (refine ⟨fun _ => ?_, fun _ => ?_⟩ <;> first | (exfalso; omega) | skip)
    | fail
  refine CV.loopc ?_
  refine WCv.rounds callees false (α := Nat) (fun i => [(8, lo), (9, hi), (10, q), (12, VJ i)]) (fun i Hz => i ≤ cs.length ∧ Keep Ha Hz) (fun i => cs.length - i) (0) (by repeat' first | exact trivial | refine ⟨rfl, ?_⟩ | refine ⟨slot_int (by (try simp only [Int.toNat_natCast]); omega), ?_⟩) ?_ ?_
  · exact ⟨by omega, Keep.refl _⟩
  rintro i Hy ⟨hi3, ky⟩ hBy
  have hqy := (OwnS.keep hqa ky).row
  have hloy : Ints Hy lo B0 := hloa.keep ky
  have hhiy : Ints Hy hi B1 := hhia.keep ky
  have ly := ky.1
  by_cases hi2 : i < cs.length
  · have hat := begS_at (B0 := B0) (B1 := B1) hi2
    have hld : aload Try.prog 27 Hy (elemS q 2 i) = some (Hv (B0[i]!, B1[i]!)) := by rw [sp_load hqy (by omega), hat]
    repeat' first
      | refine CO.cons rfl ?_
      | refine CO.nil ?_
      | refine CV.seq ?_
      | refine CV.region callees ?_
      | refine CV.cond ?_
      | refine CV.block ?_
      | refine CV.skip ?_
      | refine CV.draw callees (by decide +kernel) ?_
      | refine CH.cons rfl ?_
      | refine ⟨_, ints_addr (by assumption) (by omega) (by omega), ?_⟩
      | refine ⟨_, ints_load (by assumption) (by omega) (by omega), ?_⟩
      | (refine ⟨_, sp_len hqy, ?_⟩)
      | (refine ⟨_, sp_addr hqy (by omega) (by omega), ?_⟩)
      | (refine ⟨_, hld, ?_⟩)
      | (refine ⟨fun _ => ?_, fun _ => ?_⟩ <;> first | (exfalso; omega) | skip)
      | fail
    refine (lspan_spec (by omega)).mono ?_
    rintro r Hw ⟨rfl, kw⟩
    repeat' first
      | refine CO.cons rfl ?_
      | refine CO.nil ?_
      | refine CV.region callees ?_
      | refine CV.cond ?_
      | refine CV.skip ?_
      | refine CH.cons rfl ?_
      | refine CH.nil ?_
      | refine ⟨(rfl : plain _ = true), ?_⟩
      | refine ⟨(⟨by omega, by omega⟩ : inI64 _), ?_⟩
      | (refine ⟨_, fun tm ha => step1_neS rfl (ev_tmp ha rfl) (ev_tmp ha rfl), ?_⟩)
      | fail
    refine ⟨(i + 1), (by repeat' first | exact trivial | refine ⟨rfl, ?_⟩ | refine ⟨slot_int (by (try simp only [Int.toNat_natCast]); omega), ?_⟩), (by (try dsimp only); omega), ?_⟩
    exact ⟨by omega, ky⟩
  repeat' first
    | refine CO.cons rfl ?_
    | refine CO.nil ?_
    | refine CV.seq ?_
    | refine CV.region callees ?_
    | refine CV.cond ?_
    | refine CV.exit ?_
    | (refine ⟨_, sp_len hqy, ?_⟩)
    | (refine ⟨fun _ => ?_, fun _ => ?_⟩ <;> first | (exfalso; omega) | skip)
    | fail
  refine (awake_spec (by omega)).mono ?_
  rintro r Hw ⟨rfl, kw⟩
  repeat' first
    | refine CO.cons rfl ?_
    | refine CO.nil ?_
    | refine CV.ret ?_
    | fail
  exact ⟨rfl, rfl⟩
end Go.Proofs.Ytglkphjjinmgmaa
