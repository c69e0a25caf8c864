
/- When coals begin, and the heat in a minute. -/
import Derived.Test.YtglkphjjinmgmaaWdh
set_option linter.unusedVariables false
set_option linter.unusedSimpArgs false
namespace Go.Proofs.Ytglkphjjinmgmaa
open Go.AI
theorem un35 : Try.prog.underlying 48 = some (.slice 27) := by kernel_rfl
theorem zero41b : zeroBB Try.prog 27 = some (Hl (0, 0), 16) := by kernel_rfl
abbrev OwnSp (H : Heap) (v : Value) (l : List (Int × Int)) (B : Nat) : Prop := OwnS 27 2 H v (l.map Hl) B
theorem sp_one {H : Heap} {x : Int × Int} : abuildSlice Try.prog H 48 1 [(0, Hv x)] = some (.slice (some ⟨H.n, 0, none⟩) 1 0, H.new (.cells (Hl x) 27 2), H.n) :=
  build_oneS (row := Hl x) un35 zero41b (by decide) rfl
theorem sp_push {K : Value → Heap → Prop} {B B0 : Nat} {H : Heap} {x : Value} {l : List (Int × Int)} {d : Int × Int} (hx : OwnSp H x l B0) (hB0 : B0 ≤ H.n) (hB : B ≤ B0) (hn : l.length < 1000000)
    (hk : ∀ r H', OwnSp H' r (l ++ [d]) B0 → KeepBut x H H' → (∀ c, blkOf r = some c → H.n ≤ c) → K r H') :
    ∃ v H' b, aappend Try.prog (H.new (.cells (Hl d) 27 2)) #[48, 48] x (.slice (some ⟨H.n, 0, none⟩) 1 0) = some (v, H', b) ∧ B ≤ b ∧ K v H' :=
  append_askS (z := Hl (0, 0)) un35 zero41b (by decide) rfl hx hB0 hB (by rw [List.length_map]; exact hn) (fun r H' ho => hk r H' (by rw [OwnSp, List.map_append]; exact ho))
def begS (E : List Em) : List (Int × Int) := E.map fun x => (x.b0, x.b1)
theorem take_beg {E : List Em} {i : Nat} (h : i < E.length) : (begS (E.take i)) ++ [(E[i]!.b0, E[i]!.b1)] = begS (E.take (i + 1)) := by
  unfold begS
  rw [List.take_succ_eq_append_getElem h, List.map_append, getElem!_pos E i h]; rfl
set_option maxHeartbeats 4000000 in
set_option maxRecDepth 100000 in
theorem begins_spec {B : Nat} {H : Heap} {cv tv : Value} {cs : List Co} {ts : List (Int × Int)} {B0 B1 : List Int} (hB : B ≤ H.n) (hc : RowS 7 H cv (cs.map Col)) (ht : RowS 2 H tv (ts.map Hl)) (hf : FOk cs ts) (h0 : IsBeg 0 cs ts B0) (h1 : IsBeg 1 cs ts B1) :
    CallB Try.prog B 23 [Fv cv tv] H (fun r H' => (∃ q, r = .tuple #[q, VJ 0] ∧ OwnSp H' q (begS (emL cs B0 B1)) H.n) ∧ Keep H H') := by
  have hn12 := hf.n
  refine CV.enter callees false rfl Try.func23 rfl (by kernel_rfl) (Nat.le_of_ble_eq_true rfl) hB ?_
  repeat' first
    | refine CO.cons rfl ?_
    | refine CV.seq ?_
    | refine CV.region callees ?_
    | fail
  refine ⟨(by simp only [notTuple]), ?_⟩
  rw [allocFv hc.cells.1 ht.cells.1]
  generalize hs0 : Heap.new H _ = H0
  have hg0 := new_get hs0
  have k0 := new_keep hs0
  have n0 := new_n hs0
  obtain ⟨b0, hbn0⟩ : ∃ b, Heap.n H = b := ⟨_, rfl⟩
  rw [hbn0] at hg0 n0 ⊢
  repeat' first
    | refine CO.cons rfl ?_
    | refine CO.nil ?_
    | refine CV.seq ?_
    | refine CV.region callees ?_
    | (refine ⟨_, agg_load ag28 sz28 hg0 (Nat.le_refl _), ?_⟩)
    | fail
  refine (check_ok (cs := cs) (ts := ts) (by omega) (hc.keep k0) (ht.keep k0) hf).mono ?_
  rintro r H1 ⟨rfl, k1⟩
  have l1 := k1.1
  have hr1 := (k1.2 b0 (by omega)).trans hg0
  have k01 := k0.trans k1
  repeat' first
    | refine CO.cons rfl ?_
    | refine CO.nil ?_
    | refine CV.seq ?_
    | refine CV.region callees ?_
    | refine CV.cond ?_
    | refine CV.skip ?_
    | (refine ⟨_, agg_load ag28 sz28 hr1 (Nat.le_refl _), ?_⟩)
    | (refine ⟨fun _ => ?_, fun _ => ?_⟩ <;> first | (exfalso; omega) | skip)
    | fail
  refine (embers_spec (by omega) (hc.keep k01) (ht.keep k01) hf h0 h1).mono ?_
  rintro ev H2 ⟨he2, k2⟩
  have l2 := k2.1
  have k02 := k01.trans k2
  have hel : (emL cs B0 B1).length = cs.length := emL_len
  obtain ⟨E, hE⟩ : ∃ E, emL cs B0 B1 = E := ⟨_, rfl⟩
  rw [hE] at he2 hel ⊢
  have her := he2.row
  repeat' first
    | refine CO.cons rfl ?_
    | refine CO.nil ?_
    | refine CV.block ?_
    | (refine ⟨_, em_len her, ?_⟩)
    | fail
  refine CV.loopc ?_
  refine WCv.rounds callees false (α := Value × Nat) (fun (q, i) => [(5, q), (14, ev), (15, VJ E.length), (16, VJ i)]) (fun (q, i) Hz => i ≤ E.length ∧ OwnSp Hz q (begS (E.take i)) H2.n ∧ Keep H2 Hz) (fun (q, i) => E.length - i) (nilS, 0) (by repeat' first | exact trivial | refine ⟨rfl, ?_⟩ | refine ⟨slot_int (by (try simp only [Int.toNat_natCast]); omega), ?_⟩) ?_ ?_
  · exact ⟨by omega, OwnS.nil, Keep.refl _⟩
  rintro ⟨q, i⟩ Hx ⟨hi, hq, kx⟩ hBx
  have lx := kx.1
  by_cases hi2 : i < E.length
  · have hex := her.keep kx
    repeat' first
      | refine CO.cons rfl ?_
      | refine CO.nil ?_
      | refine CV.seq ?_
      | refine CV.region callees ?_
      | refine CV.cond ?_
      | refine CV.block ?_
      | refine CV.skip ?_
      | (refine ⟨_, em_addr hex (by omega) (by omega), ?_⟩)
      | (refine ⟨_, em_load hex hi2, ?_⟩)
      | (refine ⟨_, _, al89, ?_⟩)
      | (refine ⟨fun _ => ?_, fun _ => ?_⟩ <;> first | (exfalso; omega) | skip)
      | fail
    generalize hs3 : Heap.new Hx _ = H3
    have hg3 := new_get hs3
    have k3 := new_keep hs3
    have n3 := new_n hs3
    obtain ⟨b3, hbn3⟩ : ∃ b, Heap.n Hx = b := ⟨_, rfl⟩
    rw [hbn3] at hg3 n3 ⊢
    repeat' first
      | fail
    refine ⟨_, _, st89 hg3, by omega, ?_⟩
    generalize hs4 : Heap.set H3 b3 _ = H4
    have hg4 : H4.get b3 = some (.cells (Eml E[i]!) 106 1) := set_get hs4
    have n4 := set_n hs4
    have o4 := set_old hs4
    have k4 : Keep Hx H4 := keep_put k3 (by omega) o4 n4
    repeat' first
      | refine CO.cons rfl ?_
      | refine CO.nil ?_
      | refine CV.region callees ?_
      | (refine ⟨_, fS foE0 (by decide), ?_⟩)
      | (refine ⟨_, agg_load ag87 sz87 hg4 (Nat.le_of_ble_eq_true rfl), ?_⟩)
      | fail
    refine (span_spec (p := (E[i]!.b0, E[i]!.b1)) (by omega)).mono ?_
    rintro r H5 ⟨rfl, k5⟩
    have l5 := k5.1
    have k45 := k4.trans k5
    have hq5 : OwnSp H5 q (begS (E.take i)) H2.n := OwnS.keep hq k45
    repeat' first
      | refine CO.cons rfl ?_
      | (refine ⟨_, _, sp_one, ?_⟩)
      | fail
    refine sp_push hq5 (by omega) (by omega) (by simp [begS]; omega) ?_
    intro q6 H6 hq6 kb6 hf6
    have l6 := kb6.le
    rw [take_beg hi2] at hq6
    have kx6 : Keep H2 H6 := kb6.keep (kx.trans k45) fun c hc => (hq5.lt hc).1
    repeat' first
      | refine CO.cons rfl ?_
      | refine CO.nil ?_
      | refine CV.region callees ?_
      | refine ⟨(⟨by omega, by omega⟩ : inI64 _), ?_⟩
      | fail
    refine ⟨(q6, i + 1), (by repeat' first | exact trivial | refine ⟨rfl, ?_⟩ | refine ⟨slot_int (by (try simp only [Int.toNat_natCast]); omega), ?_⟩), (by (try dsimp only); omega), ?_⟩
    exact ⟨by omega, hq6, kx6⟩
  have hie : i = E.length := by omega
  rw [hie, List.take_length] at hq
  repeat' first
    | refine CO.cons rfl ?_
    | refine CO.nil ?_
    | refine CV.seq ?_
    | refine CV.region callees ?_
    | refine CV.cond ?_
    | refine CV.exit ?_
    | refine CV.ret ?_
    | (refine ⟨fun _ => ?_, fun _ => ?_⟩ <;> first | (exfalso; omega) | skip)
    | fail
  refine ⟨by simp only [List.all_cons, List.all_nil, OwnS.notTuple hq]; rfl, ⟨q, rfl, OwnS.low hq (by omega)⟩, k02.trans kx⟩
set_option maxHeartbeats 4000000 in
set_option maxRecDepth 100000 in
theorem heat_spec {B : Nat} {H : Heap} {cv tv : Value} {cs : List Co} {ts : List (Int × Int)} {B0 B1 : List Int} {m : Int} (hB : B ≤ H.n) (hc : RowS 7 H cv (cs.map Col)) (ht : RowS 2 H tv (ts.map Hl)) (hf : FOk cs ts) (h0 : IsBeg 0 cs ts B0) (h1 : IsBeg 1 cs ts B1) (hm0 : 0 ≤ m) (hm1 : m ≤ 300) :
    CallB Try.prog B 25 [Fv cv tv, VJ m] H (fun r H' => r = .tuple #[Hv (heatL (emL cs B0 B1) m), VJ 0] ∧ Keep H H') := by
  have hn12 := hf.n
  refine CV.enter callees false rfl Try.func25 rfl (by kernel_rfl) (Nat.le_of_ble_eq_true rfl) hB ?_
  repeat' first
    | refine CO.cons rfl ?_
    | refine CV.seq ?_
    | refine CV.region callees ?_
    | fail
  refine ⟨(by simp only [notTuple]), ?_⟩
  rw [allocFv hc.cells.1 ht.cells.1]
  generalize hs0 : Heap.new H _ = H0
  have hg0 := new_get hs0
  have k0 := new_keep hs0
  have n0 := new_n hs0
  obtain ⟨b0, hbn0⟩ : ∃ b, Heap.n H = b := ⟨_, rfl⟩
  rw [hbn0] at hg0 n0 ⊢
  repeat' first
    | refine CO.cons rfl ?_
    | refine CO.nil ?_
    | refine CV.seq ?_
    | refine CV.region callees ?_
    | (refine ⟨_, _, al41, ?_⟩)
    | fail
  generalize hs1 : Heap.new H0 _ = H1
  have hg1 := new_get hs1
  have k1 := new_keep hs1
  have n1 := new_n hs1
  obtain ⟨b1, hbn1⟩ : ∃ b, Heap.n H0 = b := ⟨_, rfl⟩
  rw [hbn1] at hg1 n1 ⊢
  have hr1 := (k1.2 b0 (by omega)).trans hg0
  have k01 := k0.trans k1
  repeat' first
    | refine CO.cons rfl ?_
    | (refine ⟨_, agg_load ag28 sz28 hr1 (Nat.le_refl _), ?_⟩)
    | fail
  refine (check_ok (cs := cs) (ts := ts) (by omega) (hc.keep k01) (ht.keep k01) hf).mono ?_
  rintro r H2 ⟨rfl, k2⟩
  have l2 := k2.1
  have hr2 := (k2.2 b0 (by omega)).trans hr1
  have hg2 := (k2.2 b1 (by omega)).trans hg1
  have k02 := k01.trans k2
  repeat' first
    | refine CO.cons rfl ?_
    | refine CO.nil ?_
    | refine CV.seq ?_
    | refine CV.region callees ?_
    | refine CV.cond ?_
    | refine CV.skip ?_
    | (refine ⟨fun _ => ?_, fun _ => ?_⟩ <;> first | (exfalso; omega) | skip)
    | fail
  refine (isWithin_yes (by omega) ⟨hm0, hm1⟩).mono ?_
  rintro r H3 ⟨rfl, rfl⟩
  repeat' first
    | refine CO.cons rfl ?_
    | refine CO.nil ?_
    | refine CV.seq ?_
    | refine CV.region callees ?_
    | refine CV.cond ?_
    | refine CV.skip ?_
    | (refine ⟨_, agg_load ag28 sz28 hr2 (Nat.le_refl _), ?_⟩)
    | fail
  refine (embers_spec (by omega) (hc.keep k02) (ht.keep k02) hf h0 h1).mono ?_
  rintro ev H3 ⟨he3, k3⟩
  have l3 := k3.1
  have hg3 := (k3.2 b1 (by omega)).trans hg2
  repeat' first
    | refine CO.cons rfl ?_
    | fail
  refine (heatOf_spec (by omega) he3.row (by rw [emL_len]; omega) (emL_ok hf h0 h1)).mono ?_
  rintro r H4 ⟨rfl, k4⟩
  have l4 := k4.1
  have hg4 := (k4.2 b1 (by omega)).trans hg3
  repeat' first
    | refine CO.cons rfl ?_
    | fail
  refine (span_spec (by omega)).mono ?_
  rintro r H5 ⟨rfl, k5⟩
  have l5 := k5.1
  have hg5 := (k5.2 b1 (by omega)).trans hg4
  repeat' first
    | refine CO.cons rfl ?_
    | fail
  refine ⟨_, _, st41 hg5, by omega, ?_⟩
  generalize hs6 : Heap.set H5 b1 _ = H6
  have hg6 : H6.get b1 = some (.cells (Hl (heatL (emL cs B0 B1) m)) 27 1) := set_get hs6
  have n6 := set_n hs6
  have o6 := set_old hs6
  repeat' first
    | refine CO.cons rfl ?_
    | refine CO.nil ?_
    | refine CV.ret ?_
    | fail
  exact ⟨_, ld41 hg6, rfl, rfl, keep_put (((k02.trans k3).trans k4).trans k5) (by omega) o6 n6⟩
/-- A kettle that may be. -/
structure KOk (k : Ke) : Prop where
  wa : 1 ≤ k.wa
  wa' : k.wa ≤ 50
  wl : 0 ≤ k.wl
  wm : k.wl ≤ k.wh
  wh : k.wh ≤ 1000
  ro : 0 ≤ k.ro
  ro' : k.ro ≤ 1000
  si : 0 ≤ k.si
  bo : k.bo ≤ 1000
  sb : k.si ≤ k.bo
  ga : 0 ≤ k.ga
  ga' : k.ga ≤ 1000
  lo : 0 ≤ k.lo
  lo' : k.lo ≤ 1000000
theorem foK0 : fieldOff Try.prog 29 0 = some (0, 1) := by kernel_rfl
theorem foK1 : fieldOff Try.prog 29 1 = some (1, 2) := by kernel_rfl
theorem foK2 : fieldOff Try.prog 29 2 = some (3, 1) := by kernel_rfl
theorem foK3 : fieldOff Try.prog 29 3 = some (4, 1) := by kernel_rfl
theorem foK4 : fieldOff Try.prog 29 4 = some (5, 1) := by kernel_rfl
theorem foK5 : fieldOff Try.prog 29 5 = some (6, 1) := by kernel_rfl
theorem foK6 : fieldOff Try.prog 29 6 = some (7, 1) := by kernel_rfl
theorem bu128 {x y z : Int} : abuild Try.prog 114 [(0, VJ x), (1, VJ y), (2, VJ z)] = some (.agg #[VJ x, VJ y, VJ z]) := by kernel_rfl
theorem ix128a {x y z : Int} : aindex Try.prog 114 (.agg #[VJ x, VJ y, VJ z]) (VJ 0) = some (VJ x) := by kernel_rfl
theorem ix128b {x y z : Int} : aindex Try.prog 114 (.agg #[VJ x, VJ y, VJ z]) (VJ 1) = some (VJ y) := by kernel_rfl
theorem ix128c {x y z : Int} : aindex Try.prog 114 (.agg #[VJ x, VJ y, VJ z]) (VJ 2) = some (VJ z) := by kernel_rfl
def thr (x y z : Int) : Nat → Int
  | 0 => x
  | 1 => y
  | _ => z
theorem ix128 {x y z : Int} {j : Nat} (hj : j < 3) : aindex Try.prog 114 (.agg #[VJ x, VJ y, VJ z]) (VJ j) = some (VJ (thr x y z j)) := by
  match j, hj with
  | 0, _ => exact ix128a
  | 1, _ => exact ix128b
  | 2, _ => exact ix128c
set_option maxHeartbeats 4000000 in
set_option maxRecDepth 100000 in
theorem checkKettle_ok {B : Nat} {H : Heap} {k : Ke} (hB : B ≤ H.n) (hk : KOk k) :
    CallB Try.prog B 29 [Kev k] H (fun r H' => r = VJ 0 ∧ Keep H H') := by
  obtain ⟨a1, a2, a3, a4, a5, a6, a7, a8, a9, a10, a11, a12, a13, a14⟩ := hk
  refine CV.enter callees false rfl Try.func29 rfl (by kernel_rfl) (Nat.le_of_ble_eq_true rfl) hB ?_
  repeat' first
    | refine CO.cons rfl ?_
    | refine CV.seq ?_
    | refine CV.region callees ?_
    | fail
  refine ⟨(by simp only [notTuple]), ?_⟩
  rw [boxKe]
  generalize hs0 : Heap.new H _ = H0
  have hg0 := new_get hs0
  have k0 := new_keep hs0
  have n0 := new_n hs0
  obtain ⟨b0, hbn0⟩ : ∃ b, Heap.n H = b := ⟨_, rfl⟩
  rw [hbn0] at hg0 n0 ⊢
  repeat' first
    | refine CO.cons rfl ?_
    | refine CO.nil ?_
    | refine CV.seq ?_
    | refine CV.region callees ?_
    | (refine ⟨_, fS foK0 (by decide), ?_⟩)
    | (refine ⟨_, cell_load ag3 hg0 rfl, ?_⟩)
    | fail
  refine (isWithin_yes (by omega) ⟨by omega, by omega⟩).mono ?_
  rintro r H1 ⟨rfl, rfl⟩
  repeat' first
    | refine CO.cons rfl ?_
    | refine CO.nil ?_
    | refine CV.seq ?_
    | refine CV.region callees ?_
    | refine CV.cond ?_
    | refine CV.skip ?_
    | (refine ⟨_, fS foK1 (by decide), ?_⟩)
    | (refine ⟨_, agg_load ag41 sz41 hg0 (Nat.le_of_ble_eq_true rfl), ?_⟩)
    | fail
  refine (checkSpan_ok (p := (k.wl, k.wh)) (by omega) (by omega) a4 (by omega)).mono ?_
  rintro r H1 ⟨rfl, k1⟩
  have l1 := k1.1
  have hg1 := (k1.2 b0 (by omega)).trans hg0
  have k01 := k0.trans k1
  repeat' first
    | refine CO.cons rfl ?_
    | refine CO.nil ?_
    | refine CV.seq ?_
    | refine CV.region callees ?_
    | refine CV.cond ?_
    | refine CV.block ?_
    | refine CV.skip ?_
    | (refine ⟨_, fS foK2 (by decide), ?_⟩)
    | (refine ⟨_, fS foK5 (by decide), ?_⟩)
    | (refine ⟨_, fS foK6 (by decide), ?_⟩)
    | (refine ⟨_, cell_load ag3 hg1 rfl, ?_⟩)
    | (refine ⟨_, bu128, ?_⟩)
    | (refine ⟨fun _ => ?_, fun _ => ?_⟩ <;> first | (exfalso; omega) | skip)
    | fail
  refine CV.loopc ?_
  refine WCv.rounds callees false (α := Nat) (fun i => [(1, .pointer (some ⟨b0, 0, none⟩)), (22, .agg #[VJ k.ro, VJ k.si, VJ k.bo]), (23, VJ i)]) (fun i Hz => i ≤ 3 ∧ Hz = H1) (fun i => 3 - i) (0) (by repeat' first | exact trivial | refine ⟨rfl, ?_⟩ | refine ⟨slot_int (by (try simp only [Int.toNat_natCast]); omega), ?_⟩) ?_ ?_
  · exact ⟨by omega, rfl⟩
  rintro i Hx ⟨hi, rfl⟩ hBx
  by_cases hi2 : i < 3
  · repeat' first
      | refine CO.cons rfl ?_
      | refine CO.nil ?_
      | refine CV.seq ?_
      | refine CV.region callees ?_
      | refine CV.cond ?_
      | refine CV.block ?_
      | refine CV.skip ?_
      | (refine ⟨_, ix128 hi2, ?_⟩)
      | (refine ⟨fun _ => ?_, fun _ => ?_⟩ <;> first | (exfalso; omega) | skip)
      | fail
    refine (isWithin_yes (by omega) (by match i, hi2 with | 0, _ => exact ⟨a6, a7⟩ | 1, _ => exact ⟨a8, (by omega : k.si ≤ 1000)⟩ | 2, _ => exact ⟨(by omega : 0 ≤ k.bo), a9⟩)).mono ?_
    rintro r H2 ⟨rfl, rfl⟩
    repeat' first
      | refine CO.cons rfl ?_
      | refine CO.nil ?_
      | refine CV.region callees ?_
      | refine CV.cond ?_
      | refine CV.skip ?_
      | refine ⟨(⟨by omega, by omega⟩ : inI64 _), ?_⟩
      | fail
    refine ⟨(i + 1), (by repeat' first | exact trivial | refine ⟨rfl, ?_⟩ | refine ⟨slot_int (by (try simp only [Int.toNat_natCast]); omega), ?_⟩), (by (try dsimp only); omega), ?_⟩
    exact ⟨by omega, rfl⟩
  repeat' first
    | refine CO.cons rfl ?_
    | refine CO.nil ?_
    | refine CV.seq ?_
    | refine CV.region callees ?_
    | refine CV.cond ?_
    | refine CV.exit ?_
    | (refine ⟨_, fS foK3 (by decide), ?_⟩)
    | (refine ⟨_, cell_load ag3 hg1 rfl, ?_⟩)
    | (refine ⟨fun _ => ?_, fun _ => ?_⟩ <;> first | (exfalso; omega) | skip)
    | fail
  refine (isWithin_yes (by omega) ⟨by omega, by omega⟩).mono ?_
  rintro r H2 ⟨rfl, rfl⟩
  repeat' first
    | refine CO.cons rfl ?_
    | refine CO.consG rfl ?_
    | (refine ⟨_, fS foK4 (by decide), ?_⟩)
    | (refine ⟨_, cell_load ag3 hg1 rfl, ?_⟩)
    | fail
  refine (isWithin_yes (by omega) ⟨by omega, by omega⟩).mono ?_
  rintro r H2 ⟨rfl, rfl⟩
  repeat' first
    | refine CO.cons rfl ?_
    | refine CO.nil ?_
    | refine CV.seq ?_
    | refine CV.region callees ?_
    | refine CV.cond ?_
    | refine CV.skip ?_
    | refine CV.ret ?_
    | refine CO.consG rfl ?_
    | (refine ⟨_, fS foK5 (by decide), ?_⟩)
    | (refine ⟨_, fS foK6 (by decide), ?_⟩)
    | (refine ⟨_, cell_load ag3 hg1 rfl, ?_⟩)
    | (refine ⟨fun _ => ?_, fun _ => ?_⟩ <;> first | (exfalso; omega) | skip)
    | fail
  exact ⟨rfl, rfl, k01⟩
end Go.Proofs.Ytglkphjjinmgmaa

