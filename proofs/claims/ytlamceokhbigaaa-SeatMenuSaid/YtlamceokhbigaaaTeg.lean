
/- Guests made of numbers. -/
import Derived.Test.YtlamceokhbigaaaTdg
import Derived.Test.YtlamceokhbigaaaW7g
set_option linter.unusedVariables false
set_option linter.unusedSimpArgs false
namespace Go.Proofs.Ytlamceokhbigaaa
open Go.AI
def nmL : List (List Int) := [[97, 110, 110], [98, 111, 98], [99, 105, 100], [100, 111, 114, 97], [101, 118, 101], [102, 97, 121], [103, 117, 115], [104], [97, 98, 99, 100, 101, 102, 103, 104], [122, 111, 101]]
theorem nm_ok {i : Nat} (h : i < 10) : Name nmL[i]! := by
  have key : (List.range 10).all (fun i => decide (1 ≤ nmL[i]!.length ∧ nmL[i]!.length ≤ 8 ∧ ∀ x ∈ nmL[i]!, 97 ≤ x ∧ x ≤ 122)) = true := by decide +kernel
  show 1 ≤ nmL[i]!.length ∧ nmL[i]!.length ≤ 8 ∧ ∀ x ∈ nmL[i]!, 97 ≤ x ∧ x ≤ 122
  exact of_decide_eq_true (List.all_eq_true.1 key i (List.mem_range.2 h))
theorem nm_ne {i j : Nat} (h : i < 10) (h2 : j < 10) (hn : i ≠ j) : nmL[i]! ≠ nmL[j]! := by
  have key : (List.range 10).all (fun i => (List.range 10).all fun j => decide (i = j ∨ nmL[i]! ≠ nmL[j]!)) = true := by decide +kernel
  have := of_decide_eq_true (List.all_eq_true.1 (List.all_eq_true.1 key i (List.mem_range.2 h)) j (List.mem_range.2 h2))
  exact this.resolve_left hn
theorem un122 : Try.prog.underlying 122 = some (.slice 9) := by kernel_rfl
theorem one9 : oneBB Try.prog 9 = some (.string .empty, 16) := by kernel_rfl
theorem sz9 : sizeB Try.prog 9 = some 1 := by kernel_rfl
theorem all_oneS (l : List (List Int)) : (l.map VS).all oneC = true := by
  induction l with
  | nil => rfl
  | cons x l ih => simp only [List.map_cons, List.all_cons, ih]; rfl
theorem bu_names {H : Heap} : abuildSlice Try.prog H 122 10 (idxFrom 0 (nmL.map VS)) = some (.slice (some ⟨H.n, 0, none⟩) 10 0, H.new (.cells (nmL.map VS) 9 2), H.n) := build_vals (nmL.map VS) un122 one9 (all_oneS _) (by simp [nmL])
theorem same_str {l : List Int} : sameFix (VS l) (VS l) = true := by simp [sameFix, sameFix1]
set_option maxRecDepth 100000 in
theorem guestNames_spec {B : Nat} {H : Heap} (hB : B ≤ H.n) :
    CallB Try.prog B 89 [] H (fun v H' => (∃ b, v = .slice (some ⟨b, 0, none⟩) 10 0 ∧ H'.get b = some (.cells (nmL.map VS) 9 2) ∧ H.n ≤ b ∧ b < H'.n) ∧ Keep H H') := by
  refine CV.enter callees false rfl Try.func89 rfl (by kernel_rfl) (Nat.le_of_ble_eq_true rfl) hB ?_
  repeat' first
    | refine CO.cons rfl ?_
    | refine CO.nil ?_
    | refine CV.seq ?_
    | refine CV.region callees ?_
    | refine CV.ret ?_
    | (refine ⟨_, _, bu_names, ?_⟩)
    | fail
  generalize hs0 : Heap.new H _ = H0
  have hg0 := new_get hs0
  have k0 := new_keep hs0
  have n0 := new_n hs0
  obtain ⟨b0, hbn0⟩ : ∃ b, Heap.n H = b := ⟨_, rfl⟩
  rw [hbn0] at hg0 n0 ⊢
  repeat' first
    | fail
  exact ⟨rfl, ⟨b0, rfl, hg0, by omega, by omega⟩, k0⟩
theorem andI {a b : Nat} (ha : a < 2 ^ 32) (hb : b < 2 ^ 32) : IntKind.wrap .i64 ((BitVec.ofInt (IntKind.bits .i64) (a : Int) &&& BitVec.ofInt (IntKind.bits .i64) (b : Int)).toNat) = ((a &&& b : Nat) : Int) := by
  have h2 : (2 : Nat) ^ 32 = 4294967296 := by decide
  have ha' : a < 2 ^ 64 := Nat.lt_trans ha (by decide)
  have hb' : b < 2 ^ 64 := Nat.lt_trans hb (by decide)
  rw [show IntKind.bits .i64 = 64 from rfl, bvN, bvN, BitVec.toNat_and, BitVec.toNat_ofNat, BitVec.toNat_ofNat, Nat.mod_eq_of_lt ha', Nat.mod_eq_of_lt hb']
  have := Nat.and_le_left (n := a) (m := b)
  exact wrapI (by omega) (by omega)
theorem andIs {P : Program} {tm : Tm} {H : Heap} {q : Oper} {t u : TypeId} {x y : Operand} {a b : Nat} (ho : q.op = .binOp .and t x y u) (hx : ev P tm x = some (VI (a : Int))) (hy : ev P tm y = some (VI (b : Int))) (ha : a < 2 ^ 32) (hb : b < 2 ^ 32) : step1 P tm H q = some (VI ((a &&& b : Nat) : Int), H, H.n) := by
  rw [step1_bits (.inr (.inl rfl)) ho hx hy rfl rfl, andI ha hb]
structure RaOk (g : Gu) : Prop where
  ra : 0 ≤ g.ra
  ra' : g.ra ≤ 9
  ho : 0 ≤ g.ho
  ho' : g.ho ≤ 1000
  ne : 0 ≤ g.ne
  ne' : g.ne ≤ 255
  ma : 0 ≤ g.ma
  ma' : g.ma ≤ 255
theorem bld2 {H : Heap} : abuildSlice Try.prog H 26 2 [(0, VI 2), (1, VI 10)] = some (.slice (some ⟨H.n, 0, none⟩) 2 0, H.new (.cells [VI 2, VI 10] 3 2), H.n) := build_vals [VI 2, VI 10] un22 one3 rfl (by simp)
theorem bld3 {H : Heap} {x y z : Int} : abuildSlice Try.prog H 26 3 [(0, VI x), (1, VI y), (2, VI z)] = some (.slice (some ⟨H.n, 0, none⟩) 3 0, H.new (.cells [VI x, VI y, VI z] 3 2), H.n) := build_vals [VI x, VI y, VI z] un22 one3 rfl (by simp)
set_option maxHeartbeats 16000000 in
set_option maxRecDepth 100000 in
theorem guestsOf_spec {B b many : Nat} {H : Heap} (hB : B ≤ b) (hn : B ≤ H.n) (hb : Box b H) (hm : many ≤ 10) :
    CallB Try.prog B 40 [bp b, VI many] H (fun r H' => (∃ gs, OwnG H' r gs H.n ∧ gs.length = many ∧ ∀ i, i < many → gs[i]!.nm = nmL[i]! ∧ RaOk gs[i]!) ∧ Box b H' ∧ KeepX b H H') := by
  have hbn := hb.1
  refine CV.enter callees false rfl Try.func40 rfl (by kernel_rfl) (Nat.le_of_ble_eq_true rfl) hn ?_
  repeat' first
    | refine CO.cons rfl ?_
    | refine CO.nil ?_
    | refine CV.seq ?_
    | refine CV.region callees ?_
    | refine CV.block ?_
    | fail
  refine CV.loopc ?_
  refine WCv.rounds callees false (α := Nat × Value × List Gu) (fun (i, q, gs) => [(0, bp b), (1, VI many), (5, q), (6, VI i)]) (fun (i, q, gs) Hz => i ≤ many ∧ gs.length = i ∧ OwnG Hz q gs H.n ∧ (∀ j, j < i → gs[j]!.nm = nmL[j]! ∧ RaOk gs[j]!) ∧ Box b Hz ∧ KeepX b H Hz ∧ H.n ≤ Hz.n) (fun (i, q, gs) => many - i) (0, nilS, []) (by repeat' first | exact trivial | refine ⟨rfl, ?_⟩ | refine ⟨slot_int (by (try simp only [Int.toNat_natCast]); omega), ?_⟩) ?_ ?_
  · exact ⟨by omega, rfl, OwnS.nil, fun j hj => by omega, hb, KeepX.refl _ _, Nat.le_refl _⟩
  rintro ⟨i, q, gs⟩ Hx ⟨hi, hgl, hq, hgs, hbx, xx, lx⟩ hBx
  by_cases hi2 : i < many
  · have hqb : ∀ c, blkOf q = some c → H.n ≤ c := fun c hc => (hq.lt hc).1
    repeat' first
      | refine CO.cons rfl ?_
      | refine CO.nil ?_
      | refine CV.seq ?_
      | refine CV.region callees ?_
      | refine CV.cond ?_
      | refine CV.block ?_
      | refine CV.skip ?_
      | (refine ⟨fun _ => ?_, fun _ => ?_⟩ <;> first | (exfalso; omega) | skip)
      | fail
    refine CV.mX callees (by decide +kernel) [(1, []), (4, []), (5, []), (9, []), (10, []), (0, []), (2, []), (3, []), (6, [3]), (7, [3]), (8, [3]), (11, [3]), (12, [3]), (13, [3]), (14, []), (15, [14, 3]), (16, [])] (by kernel_rfl) ?_
    repeat' first
      | refine CR.cons ?_
      | fail
    refine (guestNames_spec (by omega)).mono ?_
    rintro v H1 ⟨⟨bn, rfl, hN1, hbn1, hbn2⟩, k1⟩
    have l1 := k1.1
    have hb1 := hbx.keep k1
    have hxb := hbx.1
    have hnm : (nmL.map VS)[(i : Int).toNat]? = some (VS nmL[i]!) := by
      rw [show (i : Int).toNat = i by omega, List.getElem?_map, List.getElem?_eq_getElem (show i < nmL.length by simp [nmL]; omega), getElem!_pos nmL i (show i < nmL.length by simp [nmL]; omega)]
      rfl
    have kA := Keep.new H1 (.cells [VI 2, VI 10] 3 2)
    have hNA := (kA.2 bn (by omega)).trans hN1
    repeat' first
      | refine CR.cons ?_
      | (refine ⟨_, addr_row un122 sz9 (by omega) (by omega), ?_⟩)
      | (refine ⟨_, cell_load ag9 hN1 hnm, ?_⟩)
      | (refine ⟨_, _, bld2, ?_⟩)
      | fail
    have hIA : Ints (H1.new (.cells [VI 2, VI 10] 3 2)) (.slice (some ⟨H1.n, 0, none⟩) 2 0) [2, 10] := new_row rfl
    generalize hsA : H1.new _ = HA at kA hNA hIA ⊢
    have lA := kA.1
    refine (pick_spec hB (by omega) (hb1.keep kA) hIA (by decide) (by decide)).mono ?_
    rintro r H2 ⟨⟨j, hj, rfl⟩, hb2, k2⟩
    have l2 := k2.1
    have hN2 := (k2.2 bn (by omega) (by omega)).trans hNA
    obtain ⟨u, hu, hu1, hu2⟩ : ∃ u, ([2, 10] : List Int)[j]! = u ∧ 2 ≤ u ∧ u ≤ 10 := by
      refine ⟨_, rfl, ?_⟩
      have hj2 : j < 2 := hj
      rcases (by omega : j = 0 ∨ j = 1) with rfl | rfl <;> decide
    rw [hu]
    repeat' first
      | refine CR.cons ?_
      | (refine ⟨_, cell_load ag9 hN2 hnm, ?_⟩)
      | (refine ⟨(rfl : _ = VS nmL[i]!), ?_⟩)
      | (refine ⟨same_str, ?_⟩)
      | fail
    refine (up_spec hB (by omega) hb2 (by omega)).mono ?_
    rintro r H3 ⟨⟨ra, rfl, ra0, ra1⟩, hb3, k3⟩
    have l3 := k3.1
    have hN3 := (k3.2 bn (by omega) (by omega)).trans hN2
    have kC := Keep.new H3 (.cells [VI 1, VI 4, VI 1001] 3 2)
    have hNC := (kC.2 bn (by omega)).trans hN3
    repeat' first
      | refine CR.cons ?_
      | (refine ⟨_, cell_load ag9 hN3 hnm, ?_⟩)
      | (refine ⟨(rfl : _ = VS nmL[i]!), ?_⟩)
      | (refine ⟨same_str, ?_⟩)
      | (refine ⟨_, _, bld3, ?_⟩)
      | fail
    have hIC : Ints (H3.new (.cells [VI 1, VI 4, VI 1001] 3 2)) (.slice (some ⟨H3.n, 0, none⟩) 3 0) [1, 4, 1001] := new_row rfl
    generalize hsC : H3.new _ = HC at kC hNC hIC ⊢
    have lC := kC.1
    refine (pick_spec hB (by omega) (hb3.keep kC) hIC (by decide) (by decide)).mono ?_
    rintro r H4 ⟨⟨j2, hj2, rfl⟩, hb4, k4⟩
    have l4 := k4.1
    have hN4 := (k4.2 bn (by omega) (by omega)).trans hNC
    obtain ⟨w, hw, hw1, hw2⟩ : ∃ w, ([1, 4, 1001] : List Int)[j2]! = w ∧ 1 ≤ w ∧ w ≤ 1001 := by
      refine ⟨_, rfl, ?_⟩
      have hj3 : j2 < 3 := hj2
      rcases (by omega : j2 = 0 ∨ j2 = 1 ∨ j2 = 2) with rfl | rfl | rfl <;> decide
    rw [hw]
    repeat' first
      | refine CR.cons ?_
      | (refine ⟨_, cell_load ag9 hN4 hnm, ?_⟩)
      | (refine ⟨(rfl : _ = VS nmL[i]!), ?_⟩)
      | (refine ⟨same_str, ?_⟩)
      | fail
    refine (up_spec hB (by omega) hb4 (by omega)).mono ?_
    rintro r H5 ⟨⟨ho, rfl, ho0, ho1⟩, hb5, k5⟩
    have l5 := k5.1
    have hN5 := (k5.2 bn (by omega) (by omega)).trans hN4
    have kD := Keep.new H5 (.cells (Gul gu0) 68 1)
    have hND := (kD.2 bn (by omega)).trans hN5
    have x15 : KeepX b Hx H5 := ((((k1.trans kA).butX b).trans k2).trans k3).trans (((kC.butX b).trans k4).trans k5)
    repeat' first
      | refine CR.cons ?_
      | (refine ⟨_, cell_load ag9 hN5 hnm, ?_⟩)
      | (refine ⟨(rfl : _ = VS nmL[i]!), ?_⟩)
      | (refine ⟨same_str, ?_⟩)
      | (refine ⟨_, bu68, ?_⟩)
      | (refine ⟨_, _, al68, ?_⟩)
      | fail
    obtain ⟨bt, hbt⟩ : ∃ bt, H5.n = bt := ⟨_, rfl⟩
    generalize hsD : H5.new _ = HD
    have hgD := new_get hsD
    have kD' := new_keep hsD
    have nD := new_n hsD
    rw [hbt] at hgD nD ⊢
    repeat' first
      | fail
    refine ⟨_, _, st68 hgD, by omega, ?_⟩
    generalize hs6 : Heap.set HD bt _ = H6
    have hg6 : H6.get bt = some (.cells (Gul ⟨nmL[i]!, ra, ho, 0, 0⟩) 68 1) := set_get hs6
    have n6 := set_n hs6
    have o6 := set_old hs6
    have k56 : Keep H5 H6 := keep_put kD' (by omega) o6 n6
    have l6 := k56.1
    have hb6 := hb5.keep k56
    have x6 := x15.trans (k56.butX b)
    have hq6 : OwnG H6 q gs H.n := OwnS.boxed hq x6 hbx
    have xx6 := xx.trans x6
    have hg0 : RaOk ⟨nmL[i]!, ra, ho, 0, 0⟩ := ⟨by (show 0 ≤ ra); omega, by (show ra ≤ 9); omega, by (show 0 ≤ ho); omega, by (show ho ≤ 1000); omega, Int.le_refl _, by (show (0 : Int) ≤ 255); decide, Int.le_refl _, by (show (0 : Int) ≤ 255); decide⟩
    clear hN1 hN2 hN3 hN4 hN5 hNA hNC hND hIA hIC
    repeat' first
      | refine CO.cons rfl ?_
      | refine CV.seq ?_
      | refine CV.region callees ?_
      | refine CR.nil ?_
      | fail
    refine (one_spec hB (by omega) hb6 (by omega)).mono ?_
    rintro r H7 ⟨⟨c, rfl⟩, hb7, k7⟩
    have l7 := k7.1
    have hg7 := (k7.2 bt (by omega) (by omega)).trans hg6
    have hq7 : OwnG H7 q gs H.n := OwnS.boxed hq6 k7 hb6
    have xx7 := xx6.trans k7
    repeat' first
      | refine CO.nil ?_
      | fail
    refine CV.midK (α := Gu) (fun g => [(0, bp b), (1, VI many), (5, q), (6, VI i), (7, .pointer (some ⟨bt, 0, none⟩))]) (fun g Hz => (g.nm = nmL[i]! ∧ RaOk g) ∧ Hz.get bt = some (.cells (Gul g) 68 1) ∧ OwnG Hz q gs H.n ∧ Box b Hz ∧ KeepX b H Hz ∧ bt < Hz.n) ?_ ?_
    · cases c
      · repeat' first
          | refine CV.cond ?_
          | refine CV.skip ?_
          | fail
        refine ⟨((⟨nmL[i]!, ra, ho, 0, 0⟩ : Gu)), (by repeat' first | exact trivial | refine ⟨rfl, ?_⟩), ?_⟩
        exact ⟨⟨rfl, hg0⟩, hg7, hq7, hb7, xx7, by omega⟩
      · repeat' first
          | refine CO.cons rfl ?_
          | refine CV.region callees ?_
          | refine CV.cond ?_
          | fail
        refine (up_spec hB (by omega) hb7 (by omega)).mono ?_
        rintro r1 Ha ⟨⟨x, rfl, hx0, hx1⟩, hba, ka⟩
        have la := ka.1
        repeat' first
          | refine CO.cons rfl ?_
          | fail
        refine (up_spec hB (by omega) hba (by omega)).mono ?_
        rintro r1 Hb ⟨⟨y, rfl, hy0, hy1⟩, hbb, kb⟩
        have lb := kb.1
        obtain ⟨xa, rfl⟩ : ∃ xa : Nat, x = (xa : Int) := ⟨x.toNat, by omega⟩
        obtain ⟨ya, rfl⟩ : ∃ ya : Nat, y = (ya : Int) := ⟨y.toNat, by omega⟩
        have hand := Nat.and_le_left (n := xa) (m := ya)
        have kab := ka.trans kb
        have hgb := (kab.2 bt (by omega) (by omega)).trans hg7
        repeat' first
          | refine CO.cons rfl ?_
          | (refine ⟨_, fun tm ha => andIs rfl (ev_tmp ha rfl) (ev_tmp ha rfl) (by omega) (by omega), ?_⟩)
          | (refine ⟨_, fS foG3 (by decide), ?_⟩)
          | fail
        refine ⟨_, _, store_row (i := 0 + 3) sz3 hgb (Nat.le_of_ble_eq_true rfl) rfl, by omega, ?_⟩
        generalize hse : Heap.set Hb bt _ = He
        have hge : He.get bt = some (.cells (Gul ⟨nmL[i]!, ra, ho, ((xa &&& ya : Nat) : Int), 0⟩) 68 1) := set_get hse
        have ne := set_n hse
        have oe := set_old hse
        repeat' first
          | refine CO.nil ?_
          | fail
        refine ⟨((⟨nmL[i]!, ra, ho, ((xa &&& ya : Nat) : Int), 0⟩ : Gu)), (by repeat' first | exact trivial | refine ⟨rfl, ?_⟩), ?_⟩
        exact ⟨⟨rfl, hg0.ra, hg0.ra', hg0.ho, hg0.ho', by (show 0 ≤ ((xa &&& ya : Nat) : Int)); omega, by (show ((xa &&& ya : Nat) : Int) ≤ 255); omega, Int.le_refl _, by (show (0 : Int) ≤ 255); decide⟩, hge, OwnS.keepX (OwnS.boxed hq7 kab hb7) ⟨by omega, fun x _ hx => oe x hx⟩ hgb, hbb.put (by omega) oe ne, KeepX.put (xx7.trans kab) (by omega) oe ne, by omega⟩
    clear hg7 hq7 hb7 xx7 hg6 hq6 hb6 xx6
    rintro g Hy ⟨⟨hgn, hgr⟩, hgy, hqy, hby, xy, ly⟩ hBy
    have l5y := xy.1
    repeat' first
      | refine CO.cons rfl ?_
      | refine CV.seq ?_
      | refine CV.region callees ?_
      | fail
    refine (one_spec hB (by omega) hby (by omega)).mono ?_
    rintro r H8 ⟨⟨c, rfl⟩, hb8, k8⟩
    have l8 := k8.1
    have hg8 := (k8.2 bt (by omega) (by omega)).trans hgy
    have hq8 : OwnG H8 q gs H.n := OwnS.boxed hqy k8 hby
    have xx8 := xy.trans k8
    repeat' first
      | refine CO.nil ?_
      | fail
    refine CV.midK (α := Gu) (fun g => [(0, bp b), (1, VI many), (5, q), (6, VI i), (7, .pointer (some ⟨bt, 0, none⟩))]) (fun g Hz => (g.nm = nmL[i]! ∧ RaOk g) ∧ Hz.get bt = some (.cells (Gul g) 68 1) ∧ OwnG Hz q gs H.n ∧ Box b Hz ∧ KeepX b H Hz ∧ bt < Hz.n) ?_ ?_
    · cases c
      · repeat' first
          | refine CV.cond ?_
          | refine CV.skip ?_
          | fail
        refine ⟨(g), (by repeat' first | exact trivial | refine ⟨rfl, ?_⟩), ?_⟩
        exact ⟨⟨hgn, hgr⟩, hg8, hq8, hb8, xx8, by omega⟩
      · repeat' first
          | refine CO.cons rfl ?_
          | refine CV.region callees ?_
          | refine CV.cond ?_
          | fail
        refine (up_spec hB (by omega) hb8 (by omega)).mono ?_
        rintro r1 Ha ⟨⟨x, rfl, hx0, hx1⟩, hba, ka⟩
        have la := ka.1
        repeat' first
          | refine CO.cons rfl ?_
          | fail
        refine (up_spec hB (by omega) hba (by omega)).mono ?_
        rintro r1 Hb ⟨⟨y, rfl, hy0, hy1⟩, hbb, kb⟩
        have lb := kb.1
        obtain ⟨xa, rfl⟩ : ∃ xa : Nat, x = (xa : Int) := ⟨x.toNat, by omega⟩
        obtain ⟨ya, rfl⟩ : ∃ ya : Nat, y = (ya : Int) := ⟨y.toNat, by omega⟩
        have hand := Nat.and_le_left (n := xa) (m := ya)
        have kab := ka.trans kb
        have hgb := (kab.2 bt (by omega) (by omega)).trans hg8
        repeat' first
          | refine CO.cons rfl ?_
          | (refine ⟨_, fun tm ha => andIs rfl (ev_tmp ha rfl) (ev_tmp ha rfl) (by omega) (by omega), ?_⟩)
          | (refine ⟨_, fS foG4 (by decide), ?_⟩)
          | fail
        refine ⟨_, _, store_row (i := 0 + 4) sz3 hgb (Nat.le_of_ble_eq_true rfl) rfl, by omega, ?_⟩
        generalize hse : Heap.set Hb bt _ = He
        have hge : He.get bt = some (.cells (Gul ⟨g.nm, g.ra, g.ho, g.ne, ((xa &&& ya : Nat) : Int)⟩) 68 1) := set_get hse
        have ne := set_n hse
        have oe := set_old hse
        repeat' first
          | refine CO.nil ?_
          | fail
        refine ⟨((⟨g.nm, g.ra, g.ho, g.ne, ((xa &&& ya : Nat) : Int)⟩ : Gu)), (by repeat' first | exact trivial | refine ⟨rfl, ?_⟩), ?_⟩
        exact ⟨⟨hgn, hgr.ra, hgr.ra', hgr.ho, hgr.ho', hgr.ne, hgr.ne', by (show 0 ≤ ((xa &&& ya : Nat) : Int)); omega, by (show ((xa &&& ya : Nat) : Int) ≤ 255); omega⟩, hge, OwnS.keepX (OwnS.boxed hq8 kab hb8) ⟨by omega, fun x _ hx => oe x hx⟩ hgb, hbb.put (by omega) oe ne, KeepX.put (xx8.trans kab) (by omega) oe ne, by omega⟩
    clear hg8 hq8 hb8 xx8 hgy hqy hby xy ly hgn hgr
    rintro g Hy ⟨⟨hgn, hgr⟩, hgy, hqy, hby, xy, ly⟩ hBy
    have l5y := xy.1
    repeat' first
      | refine CO.cons rfl ?_
      | refine CV.region callees ?_
      | (refine ⟨_, ld68 hgy, ?_⟩)
      | (refine ⟨_, _, gu_one, ?_⟩)
      | fail
    refine gu_push hqy (by omega) (by omega) (by omega) ?_
    intro q9 H9 hq9 kb9 hf9
    have l9 := kb9.le
    have hby2 := hby.1
    repeat' first
      | refine CO.cons rfl ?_
      | refine CO.nil ?_
      | refine CV.region callees ?_
      | refine ⟨(⟨by omega, by omega⟩ : inI64 _), ?_⟩
      | fail
    refine ⟨(i + 1, q9, gs ++ [g]), (by repeat' first | exact trivial | refine ⟨rfl, ?_⟩ | refine ⟨slot_int (by (try simp only [Int.toNat_natCast]); omega), ?_⟩), (by (try dsimp only); omega), ?_⟩
    refine ⟨by omega, by show (gs ++ [g]).length = i + 1; rw [List.length_append, List.length_singleton]; omega, hq9, fun j hj => ?_, hby.keepBut kb9 (fun h => by have := hqb _ h; omega), kb9.keepX xy fun c hc => by have := hqb _ hc; omega, by omega⟩
    show (gs ++ [g])[j]!.nm = _ ∧ RaOk (gs ++ [g])[j]!
    rw [getElem!_pos (gs ++ [g]) j (by rw [List.length_append, List.length_singleton]; omega)]
    by_cases hji : j < gs.length
    · rw [List.getElem_append_left hji]
      have := hgs j (by omega)
      rwa [getElem!_pos gs j hji] at this
    · obtain rfl : j = i := by omega
      rw [List.getElem_append_right (by omega)]
      simp only [List.getElem_singleton]
      exact ⟨hgn, hgr⟩
  obtain rfl : i = many := by omega
  repeat' first
    | refine CO.cons rfl ?_
    | refine CO.nil ?_
    | refine CV.seq ?_
    | refine CV.region callees ?_
    | refine CV.cond ?_
    | refine CV.exit ?_
    | refine CV.ret ?_
    | (refine ⟨fun _ => ?_, fun _ => ?_⟩ <;> first | (exfalso; omega) | skip)
    | fail
  exact ⟨by simp only [List.all_cons, List.all_nil, OwnS.notTuple hq]; rfl, ⟨gs, hq, hgl, hgs⟩, hbx, xx⟩
end Go.Proofs.Ytlamceokhbigaaa

