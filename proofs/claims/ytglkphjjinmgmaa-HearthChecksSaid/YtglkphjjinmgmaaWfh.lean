
/- Pours, and a kettle over a fire. -/
import Derived.Test.YtglkphjjinmgmaaWeh
set_option linter.unusedVariables false
set_option linter.unusedSimpArgs false
namespace Go.Proofs.Ytglkphjjinmgmaa
open Go.AI
theorem un53 : Try.prog.underlying 30 = some (.slice 82) := by kernel_rfl
theorem ag62 : isAggB Try.prog 82 = some true := by kernel_rfl
theorem sz62 : sizeB Try.prog 82 = some 3 := by kernel_rfl
theorem ag53 : isAggB Try.prog 30 = some false := by kernel_rfl
theorem foO0 : fieldOff Try.prog 82 0 = some (0, 1) := by kernel_rfl
theorem foO1 : fieldOff Try.prog 82 1 = some (1, 1) := by kernel_rfl
theorem foO2 : fieldOff Try.prog 82 2 = some (2, 1) := by kernel_rfl
theorem zc62 : zeroCells Try.prog 82 = some (Pol ⟨0, 0, 0⟩) := by kernel_rfl
theorem al62 {H : Heap} : sAlloc Try.prog H 82 = some (.pointer (some ⟨H.n, 0, none⟩), H.new (.cells (Pol ⟨0, 0, 0⟩) 82 1), H.n) := alloc_of zc62
theorem st62 {H : Heap} {b k : Nat} {x y : Po} {e : TypeId} (hg : H.get b = some (.cells (Pol x) e (k + 1))) : astore Try.prog 82 H (Pov y) (.pointer (some ⟨b, 0, none⟩)) = some (H.set b (.cells (Pol y) e (k + 1)), b) := store_all (vs := Pol y) hg rfl sz62 rfl
theorem po_at {l : List Po} {j : Nat} (hj : j < l.length) : (l.map Pol)[j]? = some (Pol l[j]!) := by rw [List.getElem?_map, List.getElem?_eq_getElem hj, getElem!_pos l j hj]; rfl
theorem po_len {H : Heap} {v : Value} {l : List Po} (h : RowS 3 H v (l.map Pol)) : alen Try.prog H 30 v = some (.int .i64 l.length) := by
  have := h.alen un53; rwa [List.length_map] at this
theorem po_addr {H : Heap} {v : Value} {l : List Po} (h : RowS 3 H v (l.map Pol)) {n : Int} (h0 : 0 ≤ n) (h1 : n < l.length) : aindexAddr Try.prog 30 v (.int .i64 n) = some (elemS v 3 n.toNat) := h.addr un53 sz62 h0 (by rw [List.length_map]; exact h1)
theorem po_load {H : Heap} {v : Value} {l : List Po} (h : RowS 3 H v (l.map Pol)) {j : Nat} (hj : j < l.length) : aload Try.prog 82 H (elemS v 3 j) = some (Pov l[j]!) := h.load ag62 sz62 (po_at hj)
theorem po_f {H : Heap} {v : Value} {l : List Po} (h : RowS 3 H v (l.map Pol)) {f o n j : Nat} (hf : fieldOff Try.prog 82 f = some (o, n)) (hn : n ≠ 0) (hj : j < l.length) : afieldAddr Try.prog 82 (elemS v 3 j) f = some (fieldOf (elemS v 3 j) o) := h.faddr hf hn (by rw [List.length_map]; exact hj)
theorem po_min {H : Heap} {v : Value} {l : List Po} (h : RowS 3 H v (l.map Pol)) {j : Nat} (hj : j < l.length) : aload Try.prog 3 H (fieldOf (elemS v 3 j) 0) = some (VJ l[j]!.mi) := h.fload ag3 (j := j) (o := 0) (r := Pol l[j]!) (po_at hj) rfl
/-- How many ladles there are behind some of the pours. -/
def watN (w : Int) (ps : List Po) (i : Nat) : Int := w + sumI ((ps.map (·.la)).take i)
theorem map_atL {l : List Po} {i : Nat} (h : i < l.length) : (l.map (·.la))[i]! = l[i]!.la := by
  rw [getElem!_pos _ i (by simpa using h), getElem!_pos l i h]; simp
theorem watN_succ {w : Int} {ps : List Po} {i : Nat} (h : i < ps.length) : watN w ps (i + 1) = watN w ps i + ps[i]!.la := by
  unfold watN
  rw [sumI_take (by rw [List.length_map]; exact h), map_atL h]; omega
theorem watN_zero {w : Int} {ps : List Po} : watN w ps 0 = w := by simp [watN, sumI]
/-- Pours that may be. -/
structure POk (w : Int) (ps : List Po) : Prop where
  n : ps.length ≤ 20
  mi : ∀ i, i < ps.length → 0 ≤ ps[i]!.mi ∧ ps[i]!.mi ≤ 300
  la : ∀ i, i < ps.length → -50 ≤ ps[i]!.la ∧ ps[i]!.la ≤ 50 ∧ ps[i]!.la ≠ 0
  wm : ∀ i, i < ps.length → 0 ≤ ps[i]!.wm ∧ ps[i]!.wm ≤ 1000
  up : ∀ i, i + 1 < ps.length → ps[i]!.mi ≤ ps[i + 1]!.mi
  wa : ∀ i, i ≤ ps.length → 1 ≤ watN w ps i ∧ watN w ps i ≤ 50
set_option maxHeartbeats 4000000 in
set_option maxRecDepth 100000 in
theorem checkPours_ok {B : Nat} {H : Heap} {k : Ke} {pv : Value} {ps : List Po} (hB : B ≤ H.n) (hk : KOk k) (hp : RowS 3 H pv (ps.map Pol)) (ho : POk k.wa ps) :
    CallB Try.prog B 31 [Kev k, pv] H (fun r H' => r = VJ 0 ∧ Keep H H') := by
  have hn20 := ho.n
  refine CV.enter callees false rfl Try.func31 rfl (by kernel_rfl) (Nat.le_of_ble_eq_true rfl) hB ?_
  repeat' first
    | refine CO.cons rfl ?_
    | refine CV.seq ?_
    | refine CV.region callees ?_
    | fail
  refine ⟨(by simp only [notTuple]), ?_⟩
  rw [boxKe]
  generalize hs0 : Heap.new H _ = H0
  have hg0 := new_get hs0
  have k0 := new_keep hs0
  have n0 := new_n hs0
  obtain ⟨b0, hbn0⟩ : ∃ b, Heap.n H = b := ⟨_, rfl⟩
  rw [hbn0] at hg0 n0 ⊢
  repeat' first
    | refine CO.cons rfl ?_
    | refine CO.nil ?_
    | refine CV.seq ?_
    | refine CV.region callees ?_
    | (refine ⟨_, agg_load (n := 8) (by kernel_rfl) (by kernel_rfl) hg0 (Nat.le_of_ble_eq_true rfl), ?_⟩)
    | fail
  refine (checkKettle_ok (by omega) hk).mono ?_
  rintro r H1 ⟨rfl, k1⟩
  have l1 := k1.1
  have hg1 := (k1.2 b0 (by omega)).trans hg0
  have k01 := k0.trans k1
  have hp1 := hp.keep k01
  repeat' first
    | refine CO.cons rfl ?_
    | refine CO.nil ?_
    | refine CV.seq ?_
    | refine CV.region callees ?_
    | refine CV.cond ?_
    | refine CV.block ?_
    | refine CV.skip ?_
    | (refine ⟨_, po_len hp1, ?_⟩)
    | (refine ⟨_, fS foK0 (by decide), ?_⟩)
    | (refine ⟨_, cell_load ag3 hg1 rfl, ?_⟩)
    | (refine ⟨fun _ => ?_, fun _ => ?_⟩ <;> first | (exfalso; omega) | skip)
    | fail
  have hwz := watN_zero (w := k.wa) (ps := ps)
  refine CV.loopc ?_
  refine WCv.rounds callees false (α := Nat) (fun i => [(1, pv), (6, VJ (watN k.wa ps i)), (19, pv), (20, VJ ps.length), (21, VJ i)]) (fun i Hz => i ≤ ps.length ∧ Keep H Hz) (fun i => ps.length - i) (0) (by repeat' first | exact trivial | refine ⟨rfl, ?_⟩ | refine ⟨slot_int (by (try simp only [Int.toNat_natCast]); omega), ?_⟩) ?_ ?_
  · exact ⟨by omega, k01⟩
  rintro i Hx ⟨hi, kx⟩ hBx
  by_cases hi2 : i < ps.length
  · have hpx := hp.keep kx
    have hmi := ho.mi i hi2
    have hla := ho.la i hi2
    have hwm := ho.wm i hi2
    have hwa := ho.wa (i + 1) (by omega)
    have hwi := ho.wa i (by omega)
    have hws := watN_succ (w := k.wa) hi2
    repeat' first
      | refine CO.cons rfl ?_
      | refine CO.nil ?_
      | refine CV.seq ?_
      | refine CV.region callees ?_
      | refine CV.cond ?_
      | refine CV.block ?_
      | refine CV.skip ?_
      | (refine ⟨_, po_addr hpx (by omega) (by omega), ?_⟩)
      | (refine ⟨_, po_load hpx hi2, ?_⟩)
      | (refine ⟨_, _, al62, ?_⟩)
      | (refine ⟨fun _ => ?_, fun _ => ?_⟩ <;> first | (exfalso; omega) | skip)
      | fail
    generalize hs2 : Heap.new Hx _ = H2
    have hg2 := new_get hs2
    have k2 := new_keep hs2
    have n2 := new_n hs2
    obtain ⟨b2, hbn2⟩ : ∃ b, Heap.n Hx = b := ⟨_, rfl⟩
    rw [hbn2] at hg2 n2 ⊢
    repeat' first
      | fail
    refine ⟨_, _, st62 hg2, by omega, ?_⟩
    generalize hs3 : Heap.set H2 b2 _ = H3
    have hg3 : H3.get b2 = some (.cells (Pol ps[i]!) 82 1) := set_get hs3
    have n3 := set_n hs3
    have o3 := set_old hs3
    have k3 : Keep Hx H3 := keep_put k2 (by omega) o3 n3
    have hp3 := hpx.keep k3
    repeat' first
      | refine CO.cons rfl ?_
      | refine CO.nil ?_
      | refine CV.seq ?_
      | refine CV.region callees ?_
      | (refine ⟨_, fS foO0 (by decide), ?_⟩)
      | (refine ⟨_, cell_load ag3 hg3 rfl, ?_⟩)
      | fail
    refine (isWithin_yes (by omega) ⟨by omega, by omega⟩).mono ?_
    rintro r H4 ⟨rfl, rfl⟩
    repeat' first
      | refine CO.cons rfl ?_
      | refine CO.consG rfl ?_
      | (refine ⟨_, fS foO1 (by decide), ?_⟩)
      | (refine ⟨_, cell_load ag3 hg3 rfl, ?_⟩)
      | fail
    refine (isWithin_yes (by omega) ⟨by omega, by omega⟩).mono ?_
    rintro r H4 ⟨rfl, rfl⟩
    repeat' first
      | refine CO.cons rfl ?_
      | refine CO.consG rfl ?_
      | (refine ⟨_, fS foO1 (by decide), ?_⟩)
      | (refine ⟨_, fS foO2 (by decide), ?_⟩)
      | (refine ⟨_, cell_load ag3 hg3 rfl, ?_⟩)
      | (refine ⟨fun _ => ?_, fun _ => ?_⟩ <;> first | (exfalso; omega) | skip)
      | fail
    refine (isWithin_yes (by omega) ⟨by omega, by omega⟩).mono ?_
    rintro r H4 ⟨rfl, rfl⟩
    by_cases h0 : i = 0
    · repeat' first
        | refine CO.cons rfl ?_
        | refine CO.nil ?_
        | refine CV.seq ?_
        | refine CV.region callees ?_
        | refine CV.cond ?_
        | refine CV.skip ?_
        | refine CV.draw callees (by decide +kernel) ?_
        | refine CH.cons rfl ?_
        | refine CH.nil ?_
        | refine CO.consG rfl ?_
        | refine CH.consG rfl ?_
        | refine ⟨(⟨by omega, by omega⟩ : inI64 _), ?_⟩
        | (refine ⟨_, fS foO1 (by decide), ?_⟩)
        | (refine ⟨_, cell_load ag3 hg3 rfl, ?_⟩)
        | (refine ⟨fun _ => ?_, fun _ => ?_⟩ <;> first | (exfalso; omega) | skip)
        | fail
      refine (isWithin_yes (by omega) ⟨by omega, by omega⟩).mono ?_
      rintro r H4 ⟨rfl, rfl⟩
      repeat' first
        | refine CO.cons rfl ?_
        | refine CO.nil ?_
        | refine CV.region callees ?_
        | refine CV.cond ?_
        | refine CV.skip ?_
        | refine ⟨(⟨by omega, by omega⟩ : inI64 _), ?_⟩
        | fail
      refine ⟨i + 1, (by repeat' first | exact trivial | refine ⟨rfl, ?_⟩ | refine ⟨slot_int (by (try simp only [Int.toNat_natCast]); omega), ?_⟩), (by (try dsimp only); omega), ?_⟩
      exact ⟨by omega, kx.trans k3⟩
    · have hix : ((i : Int) - 1).toNat = i - 1 := by omega
      have hup : ps[((i : Int) - 1).toNat]!.mi ≤ ps[i]!.mi := by
        have := ho.up (i - 1) (by omega)
        rw [show i - 1 + 1 = i by omega] at this
        rw [hix]; exact this
      repeat' first
        | refine CO.cons rfl ?_
        | refine CO.nil ?_
        | refine CV.seq ?_
        | refine CV.region callees ?_
        | refine CV.cond ?_
        | refine CV.skip ?_
        | refine CV.draw callees (by decide +kernel) ?_
        | refine CH.cons rfl ?_
        | refine CH.nil ?_
        | refine CO.consG rfl ?_
        | refine CH.consG rfl ?_
        | refine ⟨(⟨by omega, by omega⟩ : inI64 _), ?_⟩
        | (refine ⟨_, fS foO0 (by decide), ?_⟩)
        | (refine ⟨_, fS foO1 (by decide), ?_⟩)
        | (refine ⟨_, cell_load ag3 hg3 rfl, ?_⟩)
        | (refine ⟨_, po_addr hp3 (by omega) (by omega), ?_⟩)
        | (refine ⟨_, po_f hp3 foO0 (by decide) (by omega), ?_⟩)
        | (refine ⟨_, po_min hp3 (by omega), ?_⟩)
        | (refine ⟨fun _ => ?_, fun _ => ?_⟩ <;> first | (exfalso; omega) | skip)
        | fail
      refine (isWithin_yes (by omega) ⟨by omega, by omega⟩).mono ?_
      rintro r H4 ⟨rfl, rfl⟩
      repeat' first
        | refine CO.cons rfl ?_
        | refine CO.nil ?_
        | refine CV.region callees ?_
        | refine CV.cond ?_
        | refine CV.skip ?_
        | refine ⟨(⟨by omega, by omega⟩ : inI64 _), ?_⟩
        | fail
      refine ⟨i + 1, (by repeat' first | exact trivial | refine ⟨rfl, ?_⟩ | refine ⟨slot_int (by (try simp only [Int.toNat_natCast]); omega), ?_⟩), (by (try dsimp only); omega), ?_⟩
      exact ⟨by omega, kx.trans k3⟩
  repeat' first
    | refine CO.cons rfl ?_
    | refine CO.nil ?_
    | refine CV.seq ?_
    | refine CV.region callees ?_
    | refine CV.cond ?_
    | refine CV.exit ?_
    | refine CV.ret ?_
    | (refine ⟨fun _ => ?_, fun _ => ?_⟩ <;> first | (exfalso; omega) | skip)
    | fail
  exact ⟨rfl, rfl, kx⟩
theorem ag98 : isAggB Try.prog 116 = some true := by kernel_rfl
theorem sz98 : sizeB Try.prog 116 = some 10 := by kernel_rfl
theorem zc98 : zeroCells Try.prog 116 = some (Bol ⟨0, 0, 0, 0, 0, 0, 0, 0⟩ nilS nilS) := by kernel_rfl
theorem al98 {H : Heap} : sAlloc Try.prog H 116 = some (.pointer (some ⟨H.n, 0, none⟩), H.new (.cells (Bol ⟨0, 0, 0, 0, 0, 0, 0, 0⟩ nilS nilS) 116 1), H.n) := alloc_of zc98
theorem ld98 {H : Heap} {b : Nat} {k : Ke} {c p : Value} {e : TypeId} {q : Nat} (hg : H.get b = some (.cells (Bol k c p) e q)) : aload Try.prog 116 H (.pointer (some ⟨b, 0, none⟩)) = some (Bov k c p) := agg_load ag98 sz98 hg (Nat.le_refl _)
theorem st98 {H : Heap} {b q : Nat} {k k' : Ke} {c p c' p' : Value} {e : TypeId} (h1 : oneC c' = true) (h2 : oneC p' = true) (hg : H.get b = some (.cells (Bol k c p) e (q + 1))) : astore Try.prog 116 H (Bov k' c' p') (.pointer (some ⟨b, 0, none⟩)) = some (H.set b (.cells (Bol k' c' p') e (q + 1)), b) := store_all (vs := Bol k' c' p') hg rfl sz98 (by
  have : (Bol k' c' p').all oneC = (oneC c' && (oneC p' && true)) := rfl
  rw [this, h1, h2]; rfl)
theorem bu98x {k : Ke} {x y : Option Addr} {n m c d : Nat} : abuild Try.prog 116 [(0, Kev k), (1, .slice x n c), (2, .slice y m d)] = some (Bov k (.slice x n c) (.slice y m d)) := by kernel_rfl
theorem RowS.isl {s : Nat} {H : Heap} {v : Value} {rs : List (List Value)} (h : RowS s H v rs) : ∃ x n c, v = .slice x n c := by
  rcases h.2 with ⟨rfl, _⟩ | ⟨rfl, _⟩ | ⟨_, _, _, _, _, _, rfl, _⟩ <;> exact ⟨_, _, _, rfl⟩
theorem bu98 {s s' : Nat} {H H' : Heap} {rs rs' : List (List Value)} {k : Ke} {c p : Value} (h1 : RowS s H c rs) (h2 : RowS s' H' p rs') : abuild Try.prog 116 [(0, Kev k), (1, c), (2, p)] = some (Bov k c p) := by
  obtain ⟨_, _, _, rfl⟩ := RowS.isl h1
  obtain ⟨_, _, _, rfl⟩ := RowS.isl h2
  exact bu98x
set_option maxHeartbeats 4000000 in
set_option maxRecDepth 100000 in
theorem boilingOf_spec {B : Nat} {H : Heap} {k : Ke} {cv tv pv : Value} {cs : List Co} {ts : List (Int × Int)} {ps : List Po} {B0 B1 : List Int} (hB : B ≤ H.n) (hk : KOk k) (hc : RowS 7 H cv (cs.map Col)) (ht : RowS 2 H tv (ts.map Hl)) (hp : RowS 3 H pv (ps.map Pol)) (ho : POk k.wa ps) (hf : FOk cs ts) (h0 : IsBeg 0 cs ts B0) (h1 : IsBeg 1 cs ts B1) :
    CallB Try.prog B 84 [Kev k, Fv cv tv, pv] H (fun r H' => (∃ ev, r = .tuple #[Bov k ev pv, VJ 0] ∧ OwnE H' ev (emL cs B0 B1) H.n) ∧ Keep H H') := by
  refine CV.enter callees false rfl Try.func84 rfl (by kernel_rfl) (Nat.le_of_ble_eq_true rfl) hB ?_
  repeat' first
    | refine CO.cons rfl ?_
    | refine CV.seq ?_
    | refine CV.region callees ?_
    | fail
  refine ⟨(by simp only [notTuple]), ?_⟩
  rw [boxKe]
  generalize hs0 : Heap.new H _ = H0
  have hg0 := new_get hs0
  have k0 := new_keep hs0
  have n0 := new_n hs0
  obtain ⟨b0, hbn0⟩ : ∃ b, Heap.n H = b := ⟨_, rfl⟩
  rw [hbn0] at hg0 n0 ⊢
  repeat' first
    | refine CO.cons rfl ?_
    | fail
  refine ⟨(by simp only [notTuple]), ?_⟩
  rw [allocFv hc.cells.1 ht.cells.1]
  generalize hs1 : Heap.new H0 _ = H1
  have hg1 := new_get hs1
  have k1 := new_keep hs1
  have n1 := new_n hs1
  obtain ⟨b1, hbn1⟩ : ∃ b, Heap.n H0 = b := ⟨_, rfl⟩
  rw [hbn1] at hg1 n1 ⊢
  repeat' first
    | refine CO.cons rfl ?_
    | refine CO.nil ?_
    | refine CV.seq ?_
    | refine CV.region callees ?_
    | (refine ⟨_, _, al98, ?_⟩)
    | fail
  generalize hs2 : Heap.new H1 _ = H2
  have hg2 := new_get hs2
  have k2 := new_keep hs2
  have n2 := new_n hs2
  obtain ⟨b2, hbn2⟩ : ∃ b, Heap.n H1 = b := ⟨_, rfl⟩
  rw [hbn2] at hg2 n2 ⊢
  have k02 := (k0.trans k1).trans k2
  have hk2 := (k2.2 b0 (by omega)).trans ((k1.2 b0 (by omega)).trans hg0)
  have hr2 := (k2.2 b1 (by omega)).trans hg1
  repeat' first
    | refine CO.cons rfl ?_
    | (refine ⟨_, agg_load (n := 8) (by kernel_rfl) (by kernel_rfl) hk2 (Nat.le_of_ble_eq_true rfl), ?_⟩)
    | fail
  refine (checkPours_ok (by omega) hk (hp.keep k02) ho).mono ?_
  rintro r H3 ⟨rfl, k3⟩
  have l3 := k3.1
  have k03 := k02.trans k3
  have hr3 := (k3.2 b1 (by omega)).trans hr2
  have hk3 := (k3.2 b0 (by omega)).trans hk2
  have hg3 := (k3.2 b2 (by omega)).trans hg2
  repeat' first
    | refine CO.cons rfl ?_
    | refine CO.nil ?_
    | refine CV.seq ?_
    | refine CV.region callees ?_
    | refine CV.cond ?_
    | refine CV.skip ?_
    | (refine ⟨_, agg_load ag28 sz28 hr3 (Nat.le_refl _), ?_⟩)
    | (refine ⟨fun _ => ?_, fun _ => ?_⟩ <;> first | (exfalso; omega) | skip)
    | fail
  refine (check_ok (cs := cs) (ts := ts) (by omega) (hc.keep k03) (ht.keep k03) hf).mono ?_
  rintro r H4 ⟨rfl, k4⟩
  have l4 := k4.1
  have k04 := k03.trans k4
  have hr4 := (k4.2 b1 (by omega)).trans hr3
  have hk4 := (k4.2 b0 (by omega)).trans hk3
  have hg4 := (k4.2 b2 (by omega)).trans hg3
  repeat' first
    | refine CO.cons rfl ?_
    | refine CO.nil ?_
    | refine CV.seq ?_
    | refine CV.region callees ?_
    | refine CV.cond ?_
    | refine CV.skip ?_
    | (refine ⟨fun _ => ?_, fun _ => ?_⟩ <;> first | (exfalso; omega) | skip)
    | fail
  refine CV.mX callees (by decide +kernel) [(0, []), (1, []), (3, []), (2, [0]), (4, []), (5, []), (6, [])] (by kernel_rfl) ?_
  repeat' first
    | refine CR.cons ?_
    | (refine ⟨_, agg_load (n := 8) (by kernel_rfl) (by kernel_rfl) hk4 (Nat.le_of_ble_eq_true rfl), ?_⟩)
    | (refine ⟨_, agg_load ag28 sz28 hr4 (Nat.le_refl _), ?_⟩)
    | fail
  refine (embers_spec (by omega) (hc.keep k04) (ht.keep k04) hf h0 h1).mono ?_
  rintro ev H5 ⟨he5, k5⟩
  have l5 := k5.1
  have hk5 := (k5.2 b0 (by omega)).trans hk4
  have hg5 := (k5.2 b2 (by omega)).trans hg4
  have k05 := k04.trans k5
  have hp5 := hp.keep k05
  repeat' first
    | refine CR.cons ?_
    | (refine ⟨_, agg_load (n := 8) (by kernel_rfl) (by kernel_rfl) hk5 (Nat.le_of_ble_eq_true rfl), ?_⟩)
    | (refine ⟨(rfl : _ = Value.agg _), ?_⟩)
    | (refine ⟨by simp [sameFix, sameFixL, sameFix1], ?_⟩)
    | (refine ⟨_, bu98 he5.row hp5, ?_⟩)
    | fail
  refine ⟨_, _, st98 he5.oneC hp5.cells.2.1 hg5, by omega, ?_⟩
  generalize hs6 : Heap.set H5 b2 _ = H6
  have hg6 : H6.get b2 = some (.cells (Bol k ev pv) 116 1) := set_get hs6
  have n6 := set_n hs6
  have o6 := set_old hs6
  repeat' first
    | refine CV.ret ?_
    | refine CR.cons ?_
    | refine CR.nil ?_
    | fail
  have y6 : KeepX b2 H5 H6 := by rw [← hs6]; exact KeepX.set _ _
  exact ⟨_, ld98 hg6, rfl, ⟨ev, rfl, OwnS.low (OwnS.keepX he5 y6 hg5) (by omega)⟩, keep_put k05 (by omega) o6 n6⟩
end Go.Proofs.Ytglkphjjinmgmaa

