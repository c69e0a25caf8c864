
/- Dishes made of numbers; whether guests are fed. -/
import Derived.Test.Ytlamceokhbigaaax5g
import Derived.Test.YtlamceokhbigaaaTfg
set_option linter.unusedVariables false
set_option linter.unusedSimpArgs false
namespace Go.Proofs.Ytlamceokhbigaaa
open Go.AI
theorem buDi {a b c : Int} : abuild Try.prog dT [(0, VI a), (1, VI b), (2, VI c)] = some (Div ⟨a, b, c⟩) := by kernel_rfl
theorem bldP {H : Heap} : abuildSlice Try.prog H 26 2 [(0, VI 4), (1, VI 1001)] = some (.slice (some ⟨H.n, 0, none⟩) 2 0, H.new (.cells [VI 4, VI 1001] 3 2), H.n) := build_vals [VI 4, VI 1001] un22 one3 rfl (by simp)
set_option maxHeartbeats 16000000 in
set_option maxRecDepth 100000 in
theorem dishesOf_spec {B b : Nat} {H : Heap} {turns : Nat} (hB : B ≤ b) (hn : B ≤ H.n) (hb : Box b H) (h1 : 1 ≤ turns) (h4 : turns ≤ 4) :
    CallB Try.prog B 47 [bp b, VI 10, VI turns] H (fun v H' => (∃ ds, OwnD H' v ds H.n ∧ 1 ≤ ds.length ∧ ds.length ≤ 10 ∧ ∀ i, i < ds.length → DiOk ds[i]!) ∧ Box b H' ∧ KeepX b H H') := by
  have hbn := hb.1
  refine CV.enter callees false rfl Try.func47 rfl (by kernel_rfl) (Nat.le_of_ble_eq_true rfl) hn ?_
  repeat' first
    | refine CO.cons rfl ?_
    | refine CO.nil ?_
    | refine CV.seq ?_
    | refine CV.region callees ?_
    | fail
  refine (any_spec hB (by omega) hb (by omega) (by omega) (by omega)).mono ?_
  rintro r1 H1 ⟨⟨tot, rfl, t0, t1⟩, hb1, k1⟩
  have l1 := k1.1
  repeat' first
    | refine CO.cons rfl ?_
    | refine CO.nil ?_
    | refine CV.block ?_
    | fail
  refine CV.loopc ?_
  refine WCv.rounds callees false (α := Value × List Di × Int) (fun (q, ds, k) => [(0, bp b), (2, VI turns), (7, q), (8, VI k)]) (fun (q, ds, k) Hz => ((ds.length : Int) + k = tot ∧ 0 ≤ k) ∧ (∀ i, i < ds.length → DiOk ds[i]!) ∧ OwnD Hz q ds H.n ∧ Box b Hz ∧ KeepX b H Hz ∧ H.n ≤ Hz.n) (fun (q, ds, k) => k.toNat) (nilS, [], tot) (by repeat' first | exact trivial | refine ⟨rfl, ?_⟩ | refine ⟨slot_int (by (try simp only [Int.toNat_natCast]); omega), ?_⟩) ?_ ?_
  · exact ⟨⟨by simp, by omega⟩, fun i hi => by simp at hi, OwnS.nil, hb1, k1, l1⟩
  rintro ⟨q, ds, k⟩ Hx ⟨⟨hk, hk0⟩, hds, hqx, hbx, xx, lx⟩ hBx
  have hqb : ∀ c, blkOf q = some c → H.n ≤ c := fun c hc => (hqx.lt hc).1
  by_cases hp : 0 < k
  · repeat' first
      | refine CO.cons rfl ?_
      | refine CO.nil ?_
      | refine CV.seq ?_
      | refine CV.region callees ?_
      | refine CV.cond ?_
      | refine CV.block ?_
      | refine CV.skip ?_
      | (refine ⟨fun _ => ?_, fun _ => ?_⟩ <;> first | (exfalso; omega) | skip)
      | fail
    refine (up_spec hB (by omega) hbx (by omega)).mono ?_
    rintro r1 H2 ⟨⟨tn, rfl, tn0, tn1⟩, hb2, k2⟩
    have l2 := k2.1
    repeat' first
      | refine CO.cons rfl ?_
      | fail
    refine (up_spec hB (by omega) hb2 (by omega)).mono ?_
    rintro r1 H3 ⟨⟨pa, rfl, pa0, pa1⟩, hb3, k3⟩
    have l3 := k3.1
    repeat' first
      | refine CO.cons rfl ?_
      | (refine ⟨_, _, bldP, ?_⟩)
      | fail
    have kA := Keep.new H3 (.cells [VI 4, VI 1001] 3 2)
    have hIA : Ints (H3.new (.cells [VI 4, VI 1001] 3 2)) (.slice (some ⟨H3.n, 0, none⟩) 2 0) [4, 1001] := new_row rfl
    generalize hsA : H3.new _ = HA at kA hIA ⊢
    have lA := kA.1
    refine (pick_spec hB (by omega) (hb3.keep kA) hIA (by (show 0 < 2); decide) (by (show 2 ≤ 1000); decide)).mono ?_
    rintro r1 HB ⟨⟨j, hj, rfl⟩, hbB, kB⟩
    have lB := kB.1
    obtain ⟨m, hm, m0, m1⟩ : ∃ m, ([4, 1001] : List Int)[j]! = m ∧ 0 < m ∧ m ≤ 1001 := by
      refine ⟨_, rfl, ?_⟩
      have hj2 : j < 2 := hj
      rcases (by omega : j = 0 ∨ j = 1) with rfl | rfl
      · show (0 : Int) < 4 ∧ (4 : Int) ≤ 1001; omega
      · show (0 : Int) < 1001 ∧ (1001 : Int) ≤ 1001; omega
    rw [hm]
    repeat' first
      | refine CO.cons rfl ?_
      | fail
    refine (up_spec hB (by omega) hbB (by omega)).mono ?_
    rintro r1 HC ⟨⟨co, rfl, co0, co1⟩, hbC, kC⟩
    have lC := kC.1
    repeat' first
      | refine CO.cons rfl ?_
      | (refine ⟨_, buDi, ?_⟩)
      | (refine ⟨_, _, alDi, ?_⟩)
      | fail
    generalize hs4 : Heap.new HC _ = H4
    have hg4 := new_get hs4
    have k4 := new_keep hs4
    have n4 := new_n hs4
    obtain ⟨b4, hbn4⟩ : ∃ b, Heap.n HC = b := ⟨_, rfl⟩
    rw [hbn4] at hg4 n4 ⊢
    repeat' first
      | fail
    refine ⟨_, _, stDi hg4, by omega, ?_⟩
    generalize hs5 : Heap.set H4 b4 _ = H5
    have hg5 : H5.get b4 = some (.cells (Dil ⟨tn, pa, co⟩) dT 1) := set_get hs5
    have n5 := set_n hs5
    have o5 := set_old hs5
    have k45 : Keep HC H5 := keep_put k4 (by omega) o5 n5
    have hb5 := hbC.keep k45
    have hbCn := hbC.1
    have x5 := ((((xx.trans k2).trans k3).trans (kA.butX b)).trans kB).trans (kC.trans (k45.butX b))
    have hq5 : OwnD H5 q ds H.n := OwnS.keep (OwnS.boxed (OwnS.boxed (OwnS.keep (OwnS.boxed (OwnS.boxed hqx k2 hbx) k3 hb2) kA) kB (hb3.keep kA)) kC hbB) k45
    have l5 := k45.1
    by_cases hlt : (ds.length : Int) < turns
    · repeat' first
        | refine CO.cons rfl ?_
        | refine CO.nil ?_
        | refine CV.seq ?_
        | refine CV.region callees ?_
        | refine CV.cond ?_
        | (refine ⟨_, di_len hq5.row, ?_⟩)
        | (refine ⟨_, fS foD0 (by decide), ?_⟩)
        | (refine ⟨fun _ => ?_, fun _ => ?_⟩ <;> first | (exfalso; omega) | skip)
        | fail
      refine ⟨_, _, store_row (i := 0 + 0) sz3 hg5 (Nat.le_of_ble_eq_true rfl) rfl, by omega, ?_⟩
      generalize hs6 : Heap.set H5 b4 _ = H6
      have hg6 : H6.get b4 = some (.cells (Dil ⟨ds.length, pa, co⟩) dT 1) := set_get hs6
      have n6 := set_n hs6
      have o6 := set_old hs6
      have hq6 : OwnD H6 q ds H.n := OwnS.keepX hq5 ⟨by omega, fun x _ hx => o6 x hx⟩ hg5
      have hb6 := hb5.put (by omega) o6 n6
      have x6 := KeepX.put x5 (by omega) o6 n6
      repeat' first
        | refine CO.cons rfl ?_
        | refine CO.nil ?_
        | refine CV.seq ?_
        | refine CV.region callees ?_
        | fail
      refine (one_spec hB (by omega) hb6 (by omega)).mono ?_
      rintro r H7 ⟨⟨x, rfl⟩, hb7, k7⟩
      have l7 := k7.1
      have hg7 := (k7.2 b4 (by omega) (by omega)).trans hg6
      have hq7 : OwnD H7 q ds H.n := OwnS.boxed hq6 k7 hb6
      have x7 := x6.trans k7
      cases x
      · repeat' first
          | refine CO.cons rfl ?_
          | refine CO.nil ?_
          | refine CV.region callees ?_
          | refine CV.cond ?_
          | refine CV.skip ?_
          | fail
        repeat' first
          | refine CO.cons rfl ?_
          | (refine ⟨_, ldDi hg7, ?_⟩)
          | (refine ⟨_, _, di_one, ?_⟩)
          | fail
        refine di_push hq7 (by omega) (by omega) (by omega) ?_
        intro q9 H9 hq9 kb9 hf9
        have l9 := kb9.le
        have hbn2 := hb7.1
        repeat' first
          | refine CO.cons rfl ?_
          | refine CO.nil ?_
          | refine CV.region callees ?_
          | refine ⟨(⟨by omega, by omega⟩ : inI64 _), ?_⟩
          | fail
        refine ⟨(q9, ds ++ [⟨ds.length, pa, co⟩], k - 1), (by repeat' first | exact trivial | refine ⟨rfl, ?_⟩ | refine ⟨slot_int (by (try simp only [Int.toNat_natCast]); omega), ?_⟩), (by (try dsimp only); omega), ?_⟩
        exact ⟨⟨by rw [List.length_append, List.length_singleton]; omega, by omega⟩, getAt_snoc (P := DiOk) hds ⟨by (show 0 ≤ (ds.length : Int)); omega, by (show (ds.length : Int) ≤ 3); omega, pa0, by (show pa ≤ 255); omega, co0, by (show co ≤ 1000); omega⟩, hq9, hb7.keepBut kb9 (fun h => by have := hqb _ h; omega), kb9.keepX x7 fun c hc => by have := hqb _ hc; omega, by omega⟩
      · repeat' first
          | refine CO.cons rfl ?_
          | refine CO.nil ?_
          | refine CV.region callees ?_
          | refine CV.cond ?_
          | (refine ⟨_, fS foD1 (by decide), ?_⟩)
          | fail
        refine ⟨_, _, store_row (i := 0 + 1) sz3 hg7 (Nat.le_of_ble_eq_true rfl) rfl, by omega, ?_⟩
        generalize hs8 : Heap.set H7 b4 _ = H8
        have hg8 : H8.get b4 = some (.cells (Dil ⟨ds.length, 0, co⟩) dT 1) := set_get hs8
        have n8 := set_n hs8
        have o8 := set_old hs8
        have hq8 : OwnD H8 q ds H.n := OwnS.keepX hq7 ⟨by omega, fun x _ hx => o8 x hx⟩ hg7
        have hb8 := hb7.put (by omega) o8 n8
        have x8 := KeepX.put x7 (by omega) o8 n8
        repeat' first
          | refine CO.cons rfl ?_
          | refine CO.nil ?_
          | refine CV.region callees ?_
          | (refine ⟨_, ldDi hg8, ?_⟩)
          | (refine ⟨_, _, di_one, ?_⟩)
          | fail
        refine di_push hq8 (by omega) (by omega) (by omega) ?_
        intro q9 H9 hq9 kb9 hf9
        have l9 := kb9.le
        have hbn2 := hb8.1
        repeat' first
          | refine CO.cons rfl ?_
          | refine CO.nil ?_
          | refine CV.region callees ?_
          | refine ⟨(⟨by omega, by omega⟩ : inI64 _), ?_⟩
          | fail
        refine ⟨(q9, ds ++ [⟨ds.length, 0, co⟩], k - 1), (by repeat' first | exact trivial | refine ⟨rfl, ?_⟩ | refine ⟨slot_int (by (try simp only [Int.toNat_natCast]); omega), ?_⟩), (by (try dsimp only); omega), ?_⟩
        exact ⟨⟨by rw [List.length_append, List.length_singleton]; omega, by omega⟩, getAt_snoc (P := DiOk) hds ⟨by (show 0 ≤ (ds.length : Int)); omega, by (show (ds.length : Int) ≤ 3); omega, by (show (0 : Int) ≤ 0); omega, by (show (0 : Int) ≤ 255); omega, co0, by (show co ≤ 1000); omega⟩, hq9, hb8.keepBut kb9 (fun h => by have := hqb _ h; omega), kb9.keepX x8 fun c hc => by have := hqb _ hc; omega, by omega⟩
    · repeat' first
        | refine CO.cons rfl ?_
        | refine CO.nil ?_
        | refine CV.seq ?_
        | refine CV.region callees ?_
        | refine CV.cond ?_
        | refine CV.skip ?_
        | (refine ⟨_, di_len hq5.row, ?_⟩)
        | (refine ⟨fun _ => ?_, fun _ => ?_⟩ <;> first | (exfalso; omega) | skip)
        | fail
      repeat' first
        | fail
      refine (one_spec hB (by omega) hb5 (by omega)).mono ?_
      rintro r H7 ⟨⟨x, rfl⟩, hb7, k7⟩
      have l7 := k7.1
      have hg7 := (k7.2 b4 (by omega) (by omega)).trans hg5
      have hq7 : OwnD H7 q ds H.n := OwnS.boxed hq5 k7 hb5
      have x7 := x5.trans k7
      cases x
      · repeat' first
          | refine CO.cons rfl ?_
          | refine CO.nil ?_
          | refine CV.region callees ?_
          | refine CV.cond ?_
          | refine CV.skip ?_
          | fail
        repeat' first
          | refine CO.cons rfl ?_
          | (refine ⟨_, ldDi hg7, ?_⟩)
          | (refine ⟨_, _, di_one, ?_⟩)
          | fail
        refine di_push hq7 (by omega) (by omega) (by omega) ?_
        intro q9 H9 hq9 kb9 hf9
        have l9 := kb9.le
        have hbn2 := hb7.1
        repeat' first
          | refine CO.cons rfl ?_
          | refine CO.nil ?_
          | refine CV.region callees ?_
          | refine ⟨(⟨by omega, by omega⟩ : inI64 _), ?_⟩
          | fail
        refine ⟨(q9, ds ++ [⟨tn, pa, co⟩], k - 1), (by repeat' first | exact trivial | refine ⟨rfl, ?_⟩ | refine ⟨slot_int (by (try simp only [Int.toNat_natCast]); omega), ?_⟩), (by (try dsimp only); omega), ?_⟩
        exact ⟨⟨by rw [List.length_append, List.length_singleton]; omega, by omega⟩, getAt_snoc (P := DiOk) hds ⟨tn0, by (show tn ≤ 3); omega, pa0, by (show pa ≤ 255); omega, co0, by (show co ≤ 1000); omega⟩, hq9, hb7.keepBut kb9 (fun h => by have := hqb _ h; omega), kb9.keepX x7 fun c hc => by have := hqb _ hc; omega, by omega⟩
      · repeat' first
          | refine CO.cons rfl ?_
          | refine CO.nil ?_
          | refine CV.region callees ?_
          | refine CV.cond ?_
          | (refine ⟨_, fS foD1 (by decide), ?_⟩)
          | fail
        refine ⟨_, _, store_row (i := 0 + 1) sz3 hg7 (Nat.le_of_ble_eq_true rfl) rfl, by omega, ?_⟩
        generalize hs8 : Heap.set H7 b4 _ = H8
        have hg8 : H8.get b4 = some (.cells (Dil ⟨tn, 0, co⟩) dT 1) := set_get hs8
        have n8 := set_n hs8
        have o8 := set_old hs8
        have hq8 : OwnD H8 q ds H.n := OwnS.keepX hq7 ⟨by omega, fun x _ hx => o8 x hx⟩ hg7
        have hb8 := hb7.put (by omega) o8 n8
        have x8 := KeepX.put x7 (by omega) o8 n8
        repeat' first
          | refine CO.cons rfl ?_
          | refine CO.nil ?_
          | refine CV.region callees ?_
          | (refine ⟨_, ldDi hg8, ?_⟩)
          | (refine ⟨_, _, di_one, ?_⟩)
          | fail
        refine di_push hq8 (by omega) (by omega) (by omega) ?_
        intro q9 H9 hq9 kb9 hf9
        have l9 := kb9.le
        have hbn2 := hb8.1
        repeat' first
          | refine CO.cons rfl ?_
          | refine CO.nil ?_
          | refine CV.region callees ?_
          | refine ⟨(⟨by omega, by omega⟩ : inI64 _), ?_⟩
          | fail
        refine ⟨(q9, ds ++ [⟨tn, 0, co⟩], k - 1), (by repeat' first | exact trivial | refine ⟨rfl, ?_⟩ | refine ⟨slot_int (by (try simp only [Int.toNat_natCast]); omega), ?_⟩), (by (try dsimp only); omega), ?_⟩
        exact ⟨⟨by rw [List.length_append, List.length_singleton]; omega, by omega⟩, getAt_snoc (P := DiOk) hds ⟨tn0, by (show tn ≤ 3); omega, by (show (0 : Int) ≤ 0); omega, by (show (0 : Int) ≤ 255); omega, co0, by (show co ≤ 1000); omega⟩, hq9, hb8.keepBut kb9 (fun h => by have := hqb _ h; omega), kb9.keepX x8 fun c hc => by have := hqb _ hc; omega, by omega⟩
  · repeat' first
      | refine CO.cons rfl ?_
      | refine CO.nil ?_
      | refine CV.seq ?_
      | refine CV.region callees ?_
      | refine CV.cond ?_
      | refine CV.exit ?_
      | refine CV.ret ?_
      | (refine ⟨fun _ => ?_, fun _ => ?_⟩ <;> first | (exfalso; omega) | skip)
      | fail
    exact ⟨by simp only [List.all_cons, List.all_nil, hqx.notTuple]; rfl, ⟨ds, hqx, by omega, by omega, hds⟩, hbx, xx⟩
theorem cost_snoc {ds : List Di} {m : List Int} {i : Nat} (h : i < m.length) : costM ds (m.take (i + 1)) = costM ds (m.take i) + ds[m[i]!.toNat]!.co := by
  unfold costM
  rw [one_at h, List.map_append, List.map_singleton, sumI_app]
theorem cost_bd {ds : List Di} (hok : ∀ i, i < ds.length → DiOk ds[i]!) : ∀ {m : List Int}, (∀ x ∈ m, 0 ≤ x ∧ x < ds.length) → 0 ≤ costM ds m ∧ costM ds m ≤ 1000 * m.length
  | [], _ => by simp [costM, sumI]
  | x :: m, h => by
    have h1 := cost_bd hok (m := m) fun y hy => h y (List.mem_cons_of_mem _ hy)
    have h2 := h x (by simp)
    have h3 := hok x.toNat (by omega)
    have e : costM ds (x :: m) = ds[x.toNat]!.co + costM ds m := rfl
    have := h3.c0
    have := h3.c1
    rw [e, List.length_cons]
    omega
/-- One dish of each turn. -/
def fitB (ds : List Di) (m : List Int) : Prop := ∀ i, i < m.length → ds[m[i]!.toNat]!.tn = (i : Int)
set_option maxHeartbeats 16000000 in
set_option maxRecDepth 100000 in
theorem fed_spec {B : Nat} {H : Heap} {gv dv mv : Value} {gs : List Gu} {ds : List Di} {m : List Int} {need : Int} (hB : B ≤ H.n) (hg : RowS 5 H gv (gs.map Gul)) (hd : RowS 3 H dv (ds.map Dil)) (hm : Ints H mv m) (hl : gs.length ≤ 10) (h : GsOk gs) (hdl : ds.length ≤ 16) (hok : ∀ i, i < ds.length → DiOk ds[i]!) (hml : m.length ≤ 100) (hr : ∀ x ∈ m, 0 ≤ x ∧ x < ds.length) :
    CallB Try.prog B 61 [gv, dv, mv, VI need] H (fun r H' => (∃ c is, r = .tuple #[VI c, .bool is] ∧ (is = true → fitB ds m ∧ enM gs ds need m = true ∧ c = costM ds m) ∧ (fitB ds m → enM gs ds need m = true → is = true)) ∧ Keep H H') := by
  refine CV.enter callees false rfl Try.func61 rfl (by kernel_rfl) (Nat.le_of_ble_eq_true rfl) hB ?_
  repeat' first
    | refine CO.cons rfl ?_
    | refine CO.nil ?_
    | refine CV.seq ?_
    | refine CV.region callees ?_
    | refine CV.block ?_
    | fail
  refine CV.loopc ?_
  refine WCv.rounds callees false (α := Nat × Int) (fun (i, c) => [(0, gv), (1, dv), (2, mv), (3, VI need), (10, VI c), (11, VI i)]) (fun (i, c) Hz => i ≤ m.length ∧ (∀ j, j < i → ds[m[j]!.toNat]!.tn = (j : Int)) ∧ c = costM ds (m.take i) ∧ Hz = H) (fun (i, c) => m.length - i) (0, 0) (by repeat' first | exact trivial | refine ⟨rfl, ?_⟩ | refine ⟨slot_int (by (try simp only [Int.toNat_natCast]); omega), ?_⟩) ?_ ?_
  · exact ⟨by omega, fun j hj => by omega, rfl, rfl⟩
  rintro ⟨i, c⟩ Hx ⟨hi, hfit, hc, rfl⟩ hBx
  by_cases hi2 : i < m.length
  · have hxi : m[(i : Int).toNat]! = m[i]! := rfl
    have hb := hr m[i]! (by rw [getElem!_pos m i hi2]; exact List.getElem_mem _)
    have hlt : m[i]!.toNat < ds.length := by omega
    have hdk := hok _ hlt
    have hcb := cost_bd hok (m := m.take i) fun x hx => hr x (List.mem_of_mem_take hx)
    rw [← hc, List.length_take] at hcb
    have hsn := cost_snoc (ds := ds) hi2
    rw [← hc] at hsn
    have := hdk.c0
    have := hdk.c1
    have hxt : ds[m[(i : Int).toNat]!.toNat]!.tn = ds[m[i]!.toNat]!.tn := rfl
    have hxc : ds[m[(i : Int).toNat]!.toNat]!.co = ds[m[i]!.toNat]!.co := rfl
    by_cases ht : ds[m[i]!.toNat]!.tn = (i : Int)
    · repeat' first
        | refine CO.cons rfl ?_
        | refine CO.nil ?_
        | refine CV.seq ?_
        | refine CV.region callees ?_
        | refine CV.cond ?_
        | refine CV.block ?_
        | refine CV.skip ?_
        | refine ⟨_, ints_len (by assumption), ?_⟩
        | refine ⟨_, ints_addr (by assumption) (by omega) (by omega), ?_⟩
        | refine ⟨_, ints_load (by assumption) (by omega) (by omega), ?_⟩
        | refine ⟨(⟨by omega, by omega⟩ : inI64 _), ?_⟩
        | (refine ⟨_, di_addr hd (by omega) (by omega), ?_⟩)
        | (refine ⟨_, di_f hd foD0 (by decide) hlt, ?_⟩)
        | (refine ⟨_, di_l hd (o := 0) hlt rfl, ?_⟩)
        | (refine ⟨_, di_f hd foD2 (by decide) hlt, ?_⟩)
        | (refine ⟨_, di_l hd (o := 2) hlt rfl, ?_⟩)
        | (refine ⟨fun _ => ?_, fun _ => ?_⟩ <;> first | (exfalso; omega) | skip)
        | fail
      refine ⟨(i + 1, c + ds[m[i]!.toNat]!.co), (by repeat' first | exact trivial | refine ⟨rfl, ?_⟩ | refine ⟨slot_int (by (try simp only [Int.toNat_natCast]); omega), ?_⟩), (by (try dsimp only); omega), ?_⟩
      refine ⟨by omega, fun j hj => ?_, hsn.symm, rfl⟩
      by_cases e : j = i
      · rw [e]; exact ht
      · exact hfit j (by omega)
    · repeat' first
        | refine CO.cons rfl ?_
        | refine CO.nil ?_
        | refine CV.seq ?_
        | refine CV.region callees ?_
        | refine CV.cond ?_
        | refine CV.block ?_
        | refine CV.skip ?_
        | refine CV.ret ?_
        | refine ⟨_, ints_len (by assumption), ?_⟩
        | refine ⟨_, ints_addr (by assumption) (by omega) (by omega), ?_⟩
        | refine ⟨_, ints_load (by assumption) (by omega) (by omega), ?_⟩
        | (refine ⟨_, di_addr hd (by omega) (by omega), ?_⟩)
        | (refine ⟨_, di_f hd foD0 (by decide) hlt, ?_⟩)
        | (refine ⟨_, di_l hd (o := 0) hlt rfl, ?_⟩)
        | (refine ⟨fun _ => ?_, fun _ => ?_⟩ <;> first | (exfalso; omega) | skip)
        | fail
      exact ⟨rfl, ⟨_, _, rfl, (fun h => by cases h), fun h _ => absurd (h i hi2) ht⟩, Keep.refl _⟩
  obtain rfl : i = m.length := by omega
  rw [List.take_length] at hc
  have hfb : fitB ds m := hfit
  repeat' first
    | refine CO.cons rfl ?_
    | refine CO.nil ?_
    | refine CV.seq ?_
    | refine CV.region callees ?_
    | refine CV.cond ?_
    | refine CV.block ?_
    | refine CV.exit ?_
    | refine ⟨_, ints_len (by assumption), ?_⟩
    | (refine ⟨fun _ => ?_, fun _ => ?_⟩ <;> first | (exfalso; omega) | skip)
    | fail
  refine CV.loopc ?_
  refine WCv.rounds callees false (α := Nat) (fun i => [(0, gv), (1, dv), (2, mv), (3, VI need), (10, VI c), (12, VI i)]) (fun i Hz => i ≤ gs.length ∧ (∀ j, j < i → need ≤ (cntS gs[j]! ds m : Int)) ∧ Keep Hx Hz) (fun i => gs.length - i) (0) (by repeat' first | exact trivial | refine ⟨rfl, ?_⟩ | refine ⟨slot_int (by (try simp only [Int.toNat_natCast]); omega), ?_⟩) ?_ ?_
  · exact ⟨by omega, fun j hj => by omega, Keep.refl _⟩
  rintro i Hy ⟨hi, hall, ky⟩ hBy
  have ly := ky.1
  by_cases hi2 : i < gs.length
  · have hgy := hg.keep ky
    obtain ⟨g, hgE⟩ : ∃ g, gs[i]! = g := ⟨_, rfl⟩
    have hgok := h.ok i hi2
    rw [hgE] at hgok
    repeat' first
      | refine CO.cons rfl ?_
      | refine CO.nil ?_
      | refine CV.seq ?_
      | refine CV.region callees ?_
      | refine CV.cond ?_
      | refine CV.block ?_
      | refine CV.skip ?_
      | (refine ⟨_, gs_len hgy, ?_⟩)
      | (refine ⟨fun _ => ?_, fun _ => ?_⟩ <;> first | (exfalso; omega) | skip)
      | fail
    refine CV.loopc ?_
    refine WCv.rounds callees false (α := Nat × Nat) (fun (k, n) => [(0, gv), (1, dv), (2, mv), (3, VI need), (10, VI c), (12, VI i), (13, VI n), (14, VI k)]) (fun (k, n) Hz => k ≤ m.length ∧ n = cntS g ds (m.take k) ∧ Keep Hx Hz) (fun (k, n) => m.length - k) (0, 0) (by repeat' first | exact trivial | refine ⟨rfl, ?_⟩ | refine ⟨slot_int (by (try simp only [Int.toNat_natCast]); omega), ?_⟩) ?_ ?_
    · exact ⟨by omega, rfl, ky⟩
    rintro ⟨k, n⟩ Hz ⟨hk, hn, kz⟩ hBz
    have lz := kz.1
    have hnl : n ≤ k := by
      rw [hn]; unfold cntS
      exact Nat.le_trans (List.length_filter_le _ _) (by rw [List.length_take]; omega)
    have hmz : Ints Hz mv m := Row.keep hm kz
    by_cases hk2 : k < m.length
    · have hgz := hg.keep kz
      have hdz := hd.keep kz
      have hxk : m[(k : Int).toNat]! = m[k]! := rfl
      have hb := hr m[k]! (by rw [getElem!_pos m k hk2]; exact List.getElem_mem _)
      have hlt : m[k]!.toNat < ds.length := by omega
      have hldg : aload Try.prog 68 Hz (elemS gv 5 (i : Int).toNat) = some (Guv g) := by rw [← hgE]; exact gs_load hgz hi2
      repeat' first
        | refine CO.cons rfl ?_
        | refine CO.nil ?_
        | refine CV.seq ?_
        | refine CV.region callees ?_
        | refine CV.cond ?_
        | refine CV.block ?_
        | refine CV.skip ?_
        | refine CV.draw callees (by decide +kernel) ?_
        | refine CH.cons rfl ?_
        | refine CH.nil ?_
        | refine ⟨_, ints_len (by assumption), ?_⟩
        | refine ⟨_, ints_addr (by assumption) (by omega) (by omega), ?_⟩
        | refine ⟨_, ints_load (by assumption) (by omega) (by omega), ?_⟩
        | (refine ⟨_, gs_addr hgz (by omega) (by omega), ?_⟩)
        | (refine ⟨_, hldg, ?_⟩)
        | (refine ⟨_, di_addr hdz (by omega) (by omega), ?_⟩)
        | (refine ⟨_, di_load hdz hlt, ?_⟩)
        | (refine ⟨fun _ => ?_, fun _ => ?_⟩ <;> first | (exfalso; omega) | skip)
        | fail
      refine (eatsP_spec (by omega) hgok (hok _ hlt)).mono ?_
      rintro r H6 ⟨⟨v, rfl, hv⟩, k6⟩
      have l6 := k6.1
      have hct : cntS g ds (m.take (k + 1)) = n + if sureB g ds[m[k]!.toNat]! = true then 1 else 0 := by
        rw [hn]
        unfold cntS
        rw [one_at hk2, List.filter_append, List.length_append]
        split
        · rename_i e; rw [show List.filter (fun x : Int => sureB g ds[x.toNat]!) [m[k]!] = [m[k]!] from List.filter_cons_of_pos e]; rfl
        · rename_i e; rw [show List.filter (fun x : Int => sureB g ds[x.toNat]!) [m[k]!] = [] from List.filter_cons_of_neg e]; rfl
      by_cases hv1 : v = 1
      · rw [if_pos (hv.1 hv1)] at hct
        repeat' first
          | refine CO.cons rfl ?_
          | refine CO.nil ?_
          | refine CV.seq ?_
          | refine CV.region callees ?_
          | refine CV.cond ?_
          | refine CV.skip ?_
          | refine CH.cons rfl ?_
          | refine CH.nil ?_
          | refine ⟨(⟨by omega, by omega⟩ : inI64 _), ?_⟩
          | (refine ⟨fun _ => ?_, fun _ => ?_⟩ <;> first | (exfalso; omega) | skip)
          | fail
        refine ⟨(k + 1, n + 1), (by repeat' first | exact trivial | refine ⟨rfl, ?_⟩ | refine ⟨slot_int (by (try simp only [Int.toNat_natCast]); omega), ?_⟩), (by (try dsimp only); omega), ?_⟩
        exact ⟨by omega, hct.symm, kz.trans k6⟩
      · rw [if_neg (fun h => hv1 (hv.2 h))] at hct
        repeat' first
          | refine CO.cons rfl ?_
          | refine CO.nil ?_
          | refine CV.seq ?_
          | refine CV.region callees ?_
          | refine CV.cond ?_
          | refine CV.skip ?_
          | refine CH.cons rfl ?_
          | refine CH.nil ?_
          | refine ⟨(⟨by omega, by omega⟩ : inI64 _), ?_⟩
          | (refine ⟨fun _ => ?_, fun _ => ?_⟩ <;> first | (exfalso; omega) | skip)
          | fail
        refine ⟨(k + 1, n), (by repeat' first | exact trivial | refine ⟨rfl, ?_⟩ | refine ⟨slot_int (by (try simp only [Int.toNat_natCast]); omega), ?_⟩), (by (try dsimp only); omega), ?_⟩
        exact ⟨by omega, hct.symm, kz.trans k6⟩
    obtain rfl : k = m.length := by omega
    rw [List.take_length] at hn
    by_cases hnd : need ≤ (n : Int)
    · repeat' first
        | refine CO.cons rfl ?_
        | refine CO.nil ?_
        | refine CV.seq ?_
        | refine CV.region callees ?_
        | refine CV.cond ?_
        | refine CV.skip ?_
        | refine CV.exit ?_
        | refine ⟨_, ints_len (by assumption), ?_⟩
        | refine ⟨(⟨by omega, by omega⟩ : inI64 _), ?_⟩
        | (refine ⟨fun _ => ?_, fun _ => ?_⟩ <;> first | (exfalso; omega) | skip)
        | fail
      refine ⟨(i + 1), (by repeat' first | exact trivial | refine ⟨rfl, ?_⟩ | refine ⟨slot_int (by (try simp only [Int.toNat_natCast]); omega), ?_⟩), (by (try dsimp only); omega), ?_⟩
      refine ⟨by omega, fun j hj => ?_, kz⟩
      by_cases e : j = i
      · rw [e, hgE, ← hn]; exact hnd
      · exact hall j (by omega)
    · repeat' first
        | refine CO.cons rfl ?_
        | refine CO.nil ?_
        | refine CV.seq ?_
        | refine CV.region callees ?_
        | refine CV.cond ?_
        | refine CV.exit ?_
        | refine CV.ret ?_
        | refine ⟨_, ints_len (by assumption), ?_⟩
        | (refine ⟨fun _ => ?_, fun _ => ?_⟩ <;> first | (exfalso; omega) | skip)
        | fail
      refine ⟨rfl, ⟨_, _, rfl, (fun h => by cases h), fun _ he => ?_⟩, kz⟩
      unfold enM at he
      rw [List.all_eq_true] at he
      have := of_decide_eq_true (he gs[i]! (by rw [getElem!_pos gs i hi2]; exact List.getElem_mem _))
      rw [hgE, ← hn] at this
      exact absurd this hnd
  obtain rfl : i = gs.length := by omega
  have he : enM gs ds need m = true := by
    unfold enM
    rw [List.all_eq_true]
    intro g hg
    obtain ⟨j, hj, e⟩ := List.getElem_of_mem hg
    have := hall j hj
    rw [getElem!_pos gs j hj, e] at this
    exact decide_eq_true this
  repeat' first
    | refine CO.cons rfl ?_
    | refine CO.nil ?_
    | refine CV.seq ?_
    | refine CV.region callees ?_
    | refine CV.cond ?_
    | refine CV.exit ?_
    | refine CV.ret ?_
    | (refine ⟨_, gs_len (hg.keep ky), ?_⟩)
    | (refine ⟨fun _ => ?_, fun _ => ?_⟩ <;> first | (exfalso; omega) | skip)
    | fail
  exact ⟨rfl, ⟨_, _, rfl, fun _ => ⟨hfb, he, hc⟩, fun _ _ => rfl⟩, ky⟩
end Go.Proofs.Ytlamceokhbigaaa

