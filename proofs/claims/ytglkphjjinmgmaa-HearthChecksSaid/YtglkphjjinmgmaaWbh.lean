
/- What is known of each coal, and of heats. -/
import Derived.Test.YtglkphjjinmgmaaWah
set_option linter.unusedVariables false
set_option linter.unusedSimpArgs false
namespace Go.AI
theorem OwnS.same {e : TypeId} {s : Nat} {H : Heap} {v : Value} {rs : List (List Value)} {B : Nat} (h : OwnS e s H v rs B) : sameFix v v = true := by
  rcases h.2 with ⟨rfl, _⟩ | ⟨b, rfl, _⟩
  · rfl
  · exact same_sl
theorem OwnS.keepX {e : TypeId} {s : Nat} {H H' : Heap} {b : Nat} {v : Value} {rs : List (List Value)} {B : Nat} {cs0 : List Value} {e0 : TypeId} (h : OwnS e s H v rs B) (k : KeepX b H H') (hb : H.get b = some (.cells cs0 e0 1)) : OwnS e s H' v rs B := by
  refine ⟨h.1, ?_⟩
  rcases h.2 with h | ⟨b', rfl, h2, h3, h4⟩
  · exact .inl h
  · refine .inr ⟨b', rfl, h2, Nat.lt_of_lt_of_le h3 k.1, ?_⟩
    rw [k.2 b' h3 (by rintro rfl; rw [h4] at hb; cases hb)]; exact h4
theorem OwnS.oneC {e : TypeId} {s : Nat} {H : Heap} {v : Value} {rs : List (List Value)} {B : Nat} (h : OwnS e s H v rs B) : AI.oneC v = true := by
  rcases h.2 with ⟨rfl, _⟩ | ⟨_, rfl, _⟩ <;> rfl
theorem Own.lower {e : TypeId} {H : Heap} {v : Value} {vs : List Value} {B B' : Nat} (h : Own e H v vs B) (hB : B' ≤ B) : Own e H v vs B' := by
  rcases h with h | ⟨b, h1, h2, h3, h4⟩
  · exact .inl h
  · exact .inr ⟨b, h1, Nat.le_trans hB h2, h3, h4⟩
end Go.AI
namespace Go.Proofs.Ytglkphjjinmgmaa
open Go.AI
theorem same_h {x : Int × Int} : sameFix (Hv x) (Hv x) = true := by simp [sameFix, sameFixL, sameFix1]
theorem beginning_spec {B : Nat} {H : Heap} {cv tv : Value} {cs : List Co} {ts : List (Int × Int)} {e : Int} {Bs : List Int} (hB : B ≤ H.n) (hc : RowS 7 H cv (cs.map Col)) (ht : RowS 2 H tv (ts.map Hl)) (hf : FOk cs ts) (he : e = 0 ∨ e = 1) (hb : IsBeg e cs ts Bs) :
    CallB Try.prog B 92 [Fv cv tv, VJ e] H (fun r H' => Own 3 H' r (Bs.map VJ) H.n ∧ Keep H H') := by
  refine CallB.wild (v := .slice (some ⟨H.n, 0, none⟩) Bs.length 0) (H' := H.new (.cells (Bs.map VJ) 3 2)) (lo := H.n) rfl rfl ?_ ⟨hB, by (show B ≤ H.n + 1); omega⟩ ⟨.inr ⟨H.n, by simp, Nat.le_refl _, Nat.lt_succ_self _, Heap.get_new_eq _ _⟩, Keep.new _ _⟩
  exact wildB_is ⟨cv, tv, e, cs, ts, rfl, hc, ht, hf, he, hb⟩
set_option maxRecDepth 100000 in
theorem knownOf_spec {B : Nat} {H : Heap} {p : Int × Int} (hB : B ≤ H.n) :
    CallB Try.prog B 93 [Hv p] H (fun r H' => r = Hv p ∧ Keep H H') := by
  refine CV.enter callees false rfl Try.func93 rfl (by kernel_rfl) (Nat.le_of_ble_eq_true rfl) hB ?_
  repeat' first
    | refine CO.cons rfl ?_
    | refine CV.seq ?_
    | refine CV.region callees ?_
    | fail
  refine ⟨(by simp only [notTuple]), ?_⟩
  rw [allocHv]
  generalize hs0 : Heap.new H _ = H0
  have hg0 := new_get hs0
  have k0 := new_keep hs0
  have n0 := new_n hs0
  obtain ⟨b0, hbn0⟩ : ∃ b, Heap.n H = b := ⟨_, rfl⟩
  rw [hbn0] at hg0 n0 ⊢
  repeat' first
    | refine CO.cons rfl ?_
    | refine CO.nil ?_
    | refine CV.seq ?_
    | refine CV.region callees ?_
    | (refine ⟨_, _, al87, ?_⟩)
    | fail
  generalize hs1 : Heap.new H0 _ = H1
  have hg1 := new_get hs1
  have k1 := new_keep hs1
  have n1 := new_n hs1
  obtain ⟨b1, hbn1⟩ : ∃ b, Heap.n H0 = b := ⟨_, rfl⟩
  rw [hbn1] at hg1 n1 ⊢
  have hg01 := (k1.2 b0 (by omega)).trans hg0
  repeat' first
    | refine CO.cons rfl ?_
    | (refine ⟨_, fS foS0 (by decide), ?_⟩)
    | (refine ⟨_, fS foS1 (by decide), ?_⟩)
    | (refine ⟨_, cell_load ag3 hg01 rfl, ?_⟩)
    | (refine ⟨_, bu87, ?_⟩)
    | fail
  refine ⟨_, _, st87 hg1, by omega, ?_⟩
  generalize hs2 : Heap.set H1 b1 _ = H2
  have hg2 : H2.get b1 = some (.cells (Hl p) 104 1) := set_get hs2
  have n2 := set_n hs2
  have o2 := set_old hs2
  repeat' first
    | refine CO.nil ?_
    | refine CV.ret ?_
    | fail
  exact ⟨_, ld87 hg2, rfl, rfl, keep_put (k0.trans k1) (by omega) o2 n2⟩
theorem addrK {b i : Nat} {k : Int} (h0 : 0 ≤ k) (h1 : k < 2) : aindexAddr Try.prog 104 (.pointer (some ⟨b, i, none⟩)) (.int .i64 k) = some (.pointer (some ⟨b, i + k.toNat * 1, none⟩)) := array_addr un87 sz3 h0 h1
set_option maxRecDepth 100000 in
theorem span_spec {B : Nat} {H : Heap} {p : Int × Int} (hB : B ≤ H.n) :
    CallB Try.prog B 69 [Hv p] H (fun r H' => r = Hv p ∧ Keep H H') := by
  refine CV.enter callees false rfl Try.func69 rfl (by kernel_rfl) (Nat.le_of_ble_eq_true rfl) hB ?_
  repeat' first
    | refine CO.cons rfl ?_
    | refine CV.seq ?_
    | refine CV.region callees ?_
    | fail
  refine ⟨(by simp only [notTuple]), ?_⟩
  rw [allocHv]
  generalize hs0 : Heap.new H _ = H0
  have hg0 := new_get hs0
  have k0 := new_keep hs0
  have n0 := new_n hs0
  obtain ⟨b0, hbn0⟩ : ∃ b, Heap.n H = b := ⟨_, rfl⟩
  rw [hbn0] at hg0 n0 ⊢
  repeat' first
    | refine CO.cons rfl ?_
    | refine CO.nil ?_
    | refine CV.seq ?_
    | refine CV.region callees ?_
    | (refine ⟨_, _, al41, ?_⟩)
    | fail
  generalize hs1 : Heap.new H0 _ = H1
  have hg1 := new_get hs1
  have k1 := new_keep hs1
  have n1 := new_n hs1
  obtain ⟨b1, hbn1⟩ : ∃ b, Heap.n H0 = b := ⟨_, rfl⟩
  rw [hbn1] at hg1 n1 ⊢
  have hg01 := (k1.2 b0 (by omega)).trans hg0
  repeat' first
    | refine CO.cons rfl ?_
    | (refine ⟨_, addrK (by decide) (by decide), ?_⟩)
    | (refine ⟨_, cell_load ag3 hg01 rfl, ?_⟩)
    | (refine ⟨_, bu41, ?_⟩)
    | fail
  refine ⟨_, _, st41 hg1, by omega, ?_⟩
  generalize hs2 : Heap.set H1 b1 _ = H2
  have hg2 : H2.get b1 = some (.cells (Hl p) 27 1) := set_get hs2
  have n2 := set_n hs2
  have o2 := set_old hs2
  repeat' first
    | refine CO.nil ?_
    | refine CV.ret ?_
    | fail
  exact ⟨_, ld41 hg2, rfl, rfl, keep_put (k0.trans k1) (by omega) o2 n2⟩
theorem foE0 : fieldOff Try.prog 106 0 = some (0, 2) := by kernel_rfl
theorem foE1 : fieldOff Try.prog 106 1 = some (2, 2) := by kernel_rfl
theorem foE2 : fieldOff Try.prog 106 2 = some (4, 2) := by kernel_rfl
theorem sz89 : sizeB Try.prog 106 = some 6 := by kernel_rfl
theorem ag89 : isAggB Try.prog 106 = some true := by kernel_rfl
theorem un85 : Try.prog.underlying 101 = some (.slice 106) := by kernel_rfl
theorem zero89 : zeroBB Try.prog 106 = some (Eml ⟨0, 0, 0, 0, 0, 0⟩, 48) := by kernel_rfl
theorem zc89 : zeroCells Try.prog 106 = some (Eml ⟨0, 0, 0, 0, 0, 0⟩) := by kernel_rfl
theorem al89 {H : Heap} : sAlloc Try.prog H 106 = some (.pointer (some ⟨H.n, 0, none⟩), H.new (.cells (Eml ⟨0, 0, 0, 0, 0, 0⟩) 106 1), H.n) := alloc_of zc89
theorem st89 {H : Heap} {b k : Nat} {x y : Em} {e : TypeId} (hg : H.get b = some (.cells (Eml x) e (k + 1))) : astore Try.prog 106 H (Emv y) (.pointer (some ⟨b, 0, none⟩)) = some (H.set b (.cells (Eml y) e (k + 1)), b) := store_all (vs := Eml y) hg rfl sz89 rfl
theorem ld89 {H : Heap} {b : Nat} {x : Em} {e : TypeId} {k : Nat} (hg : H.get b = some (.cells (Eml x) e k)) : aload Try.prog 106 H (.pointer (some ⟨b, 0, none⟩)) = some (Emv x) := agg_load ag89 sz89 hg (Nat.le_refl _)
theorem bu89 {p q r : Int × Int} : abuild Try.prog 106 [(0, Hv p), (1, Hv q), (2, Hv r)] = some (Emv ⟨p.1, p.2, q.1, q.2, r.1, r.2⟩) := by kernel_rfl
abbrev OwnE (H : Heap) (v : Value) (l : List Em) (B : Nat) : Prop := OwnS 106 6 H v (l.map Eml) B
theorem em_at {l : List Em} {j : Nat} (hj : j < l.length) : (l.map Eml)[j]? = some (Eml l[j]!) := by rw [List.getElem?_map, List.getElem?_eq_getElem hj, getElem!_pos l j hj]; rfl
theorem em_len {H : Heap} {v : Value} {l : List Em} (h : RowS 6 H v (l.map Eml)) : alen Try.prog H 101 v = some (.int .i64 l.length) := by
  have := h.alen un85; rwa [List.length_map] at this
theorem em_addr {H : Heap} {v : Value} {l : List Em} (h : RowS 6 H v (l.map Eml)) {n : Int} (h0 : 0 ≤ n) (h1 : n < l.length) : aindexAddr Try.prog 101 v (.int .i64 n) = some (elemS v 6 n.toNat) := h.addr un85 sz89 h0 (by rw [List.length_map]; exact h1)
theorem em_load {H : Heap} {v : Value} {l : List Em} (h : RowS 6 H v (l.map Eml)) {j : Nat} (hj : j < l.length) : aload Try.prog 106 H (elemS v 6 j) = some (Emv l[j]!) := h.load ag89 sz89 (em_at hj)
theorem em_put {H : Heap} {K : Heap → Prop} {B B0 : Nat} {x : Value} {l : List Em} {j : Nat} {d : Em} (hx : OwnE H x l B0) (hB : B ≤ B0) (hj : j < l.length)
    (hk : ∀ H', OwnE H' x (l.set j d) B0 → KeepBut x H H' → K H') :
    ∃ H' b, astore Try.prog 106 H (Emv d) (elemS x 6 j) = some (H', b) ∧ B ≤ b ∧ K H' :=
  rstore_askS (row := Eml d) sz89 hx hB (by rw [List.length_map]; exact hj) rfl rfl fun H' h1 h2 => hk H' (by rw [OwnE, List.map_set]; exact h1) h2
/-- What is known of a coal. -/
def emAt (cs : List Co) (B0 B1 : List Int) (i : Nat) : Em := ⟨B0[i]!, B1[i]!, cs[i]!.bl, cs[i]!.bh, cs[i]!.hl, cs[i]!.hh⟩
def emL (cs : List Co) (B0 B1 : List Int) : List Em := (List.range cs.length).map (emAt cs B0 B1)
theorem emL_len {cs : List Co} {B0 B1 : List Int} : (emL cs B0 B1).length = cs.length := by simp [emL]
theorem emL_at {cs : List Co} {B0 B1 : List Int} {i : Nat} (h : i < cs.length) : (emL cs B0 B1)[i]! = emAt cs B0 B1 i := by
  rw [getElem!_pos _ i (by rw [emL_len]; exact h)]; simp [emL]
set_option maxHeartbeats 4000000 in
set_option maxRecDepth 100000 in
theorem embers_spec {B : Nat} {H : Heap} {cv tv : Value} {cs : List Co} {ts : List (Int × Int)} {B0 B1 : List Int} (hB : B ≤ H.n) (hc : RowS 7 H cv (cs.map Col)) (ht : RowS 2 H tv (ts.map Hl)) (hf : FOk cs ts) (h0 : IsBeg 0 cs ts B0) (h1 : IsBeg 1 cs ts B1) :
    CallB Try.prog B 68 [Fv cv tv] H (fun r H' => OwnE H' r (emL cs B0 B1) H.n ∧ Keep H H') := by
  have hn12 := hf.n
  have hl0 := h0.len
  have hl1 := h1.len
  refine CV.enter callees false rfl Try.func68 rfl (by kernel_rfl) (Nat.le_of_ble_eq_true rfl) hB ?_
  repeat' first
    | refine CO.cons rfl ?_
    | refine CV.seq ?_
    | refine CV.region callees ?_
    | fail
  refine ⟨(by simp only [notTuple]), ?_⟩
  rw [allocFv hc.cells.1 ht.cells.1]
  generalize hs0 : Heap.new H _ = H0
  have hg0 := new_get hs0
  have k0 := new_keep hs0
  have n0 := new_n hs0
  obtain ⟨b0, hbn0⟩ : ∃ b, Heap.n H = b := ⟨_, rfl⟩
  rw [hbn0] at hg0 n0 ⊢
  have hc0 := hc.keep k0
  have ht0 := ht.keep k0
  repeat' first
    | refine CO.cons rfl ?_
    | refine CO.nil ?_
    | refine CV.seq ?_
    | fail
  refine CV.wide callees (by decide +kernel) [0, 2, 1, 3, 4, 5] (by kernel_rfl) ?_
  repeat' first
    | refine CG.cons rfl ?_
    | (refine ⟨_, agg_load ag28 sz28 hg0 (Nat.le_refl _), ?_⟩)
    | fail
  refine (beginning_spec (Nat.le_refl _) hc0 ht0 hf (.inl rfl) h0).mono ?_
  rintro sv H1 ⟨hs1, k1⟩
  have l1 := k1.1
  repeat' first
    | refine CG.cons rfl ?_
    | fail
  refine (beginning_spec (Nat.le_refl _) (hc0.keep k1) (ht0.keep k1) hf (.inr rfl) h1).mono ?_
  rintro lv H2 ⟨hl2, k2⟩
  have l2 := k2.1
  have hs2 := hs1.keep k2
  have k02 := (k0.trans k1).trans k2
  have hr2 := (k2.2 b0 (by omega)).trans ((k1.2 b0 (by omega)).trans hg0)
  have hc2 := hc.keep k02
  repeat' first
    | refine CO.cons rfl ?_
    | refine CV.seq ?_
    | refine CV.region callees ?_
    | refine CG.cons rfl ?_
    | refine CG.nil ?_
    | (refine ⟨_, fS foF0 (by decide), ?_⟩)
    | (refine ⟨_, cell_load ag25 hr2 rfl, ?_⟩)
    | (refine ⟨_, cs_len hc2, ?_⟩)
    | fail
  refine ⟨_, _, make_rows un85 zero89 (by decide) cs.length (by omega), ?_⟩
  generalize hs3 : Heap.new H2 _ = H3
  have hg3 := new_get hs3
  have k3 := new_keep hs3
  have n3 := new_n hs3
  obtain ⟨b3, hbn3⟩ : ∃ b, Heap.n H2 = b := ⟨_, rfl⟩
  rw [hbn3] at hg3 n3 ⊢
  have k03 := k02.trans k3
  have hr3 := (k3.2 b0 (by omega)).trans hr2
  have hc3 := hc.keep k03
  have hs3 := hs2.keep k3
  have hl3 := hl2.keep k3
  have ho3 : OwnE H3 (.slice (some ⟨b3, 0, none⟩) cs.length 0) (List.replicate cs.length ⟨0, 0, 0, 0, 0, 0⟩) b3 := ⟨fun r hr => by obtain ⟨x, _, rfl⟩ := List.mem_map.1 hr; rfl, .inr ⟨b3, by simp, Nat.le_refl _, by omega, by rw [hg3, List.map_replicate]⟩⟩
  obtain ⟨ov, hov⟩ : ∃ ov, Value.slice (some ⟨b3, 0, none⟩) cs.length 0 = ov := ⟨_, rfl⟩
  have hblk : blkOf ov = some b3 := by rw [← hov]; rfl
  rw [hov] at ho3 ⊢
  repeat' first
    | refine CO.cons rfl ?_
    | refine CO.nil ?_
    | refine CV.seq ?_
    | refine CV.region callees ?_
    | refine CV.block ?_
    | (refine ⟨_, fS foF0 (by decide), ?_⟩)
    | (refine ⟨_, cell_load ag25 hr3 rfl, ?_⟩)
    | (refine ⟨_, cs_len hc3, ?_⟩)
    | fail
  obtain ⟨n3', hn3'⟩ : ∃ n, H3.n = n := ⟨_, rfl⟩
  have hsb : ∀ c, blkOf sv = some c → c < b3 := fun c hc => by have := (hs2.lt hc).2; omega
  have hlb : ∀ c, blkOf lv = some c → c < b3 := fun c hc => by have := (hl2.lt hc).2; omega
  refine CV.loopc ?_
  refine WCv.rounds callees false (α := List Em × Nat) (fun (L, i) => [(1, .pointer (some ⟨b0, 0, none⟩)), (3, sv), (4, lv), (5, ov), (17, cv), (18, VJ cs.length), (19, VJ i)]) (fun (L, i) Hz => i ≤ cs.length ∧ L.length = cs.length ∧ (∀ j : Nat, j < i → L[j]! = emAt cs B0 B1 j) ∧ OwnE Hz ov L b3 ∧ Own 3 Hz sv (B0.map VJ) 0 ∧ Own 3 Hz lv (B1.map VJ) 0 ∧ Keep H Hz ∧ b3 < Hz.n) (fun (L, i) => cs.length - i) (List.replicate cs.length ⟨0, 0, 0, 0, 0, 0⟩, 0) (by repeat' first | exact trivial | refine ⟨rfl, ?_⟩ | refine ⟨slot_int (by (try simp only [Int.toNat_natCast]); omega), ?_⟩) ?_ ?_
  · exact ⟨by omega, by simp, fun j hj => by omega, ho3, Own.lower hs3 (by omega), Own.lower hl3 (by omega), k03, by omega⟩
  clear hs1 hs2 hs3 hl2 hl3 ho3 hr3 hc3 hr2 hc2 hg3
  rintro ⟨L, i⟩ Hx ⟨hi, hLl, hL, ho, hs, hl, kx, lx⟩ hBx
  by_cases hi2 : i < cs.length
  · have hcx := hc.keep kx
    have hco := hf.c i hi2
    repeat' first
      | refine CO.cons rfl ?_
      | refine CO.nil ?_
      | refine CV.seq ?_
      | refine CV.region callees ?_
      | refine CV.cond ?_
      | refine CV.block ?_
      | refine CV.skip ?_
      | (refine ⟨_, cs_addr hcx (by omega) (by omega), ?_⟩)
      | (refine ⟨_, cs_load hcx hi2, ?_⟩)
      | (refine ⟨_, _, al48, ?_⟩)
      | (refine ⟨fun _ => ?_, fun _ => ?_⟩ <;> first | (exfalso; omega) | skip)
      | fail
    generalize hs4 : Heap.new Hx _ = H4
    have hg4 := new_get hs4
    have k4 := new_keep hs4
    have n4 := new_n hs4
    obtain ⟨b4, hbn4⟩ : ∃ b, Heap.n Hx = b := ⟨_, rfl⟩
    rw [hbn4] at hg4 n4 ⊢
    repeat' first
      | fail
    refine ⟨_, _, st48 hg4, by omega, ?_⟩
    generalize hs5 : Heap.set H4 b4 _ = H5
    have hg5 : H5.get b4 = some (.cells (Col cs[i]!) 32 1) := set_get hs5
    have n5 := set_n hs5
    have o5 := set_old hs5
    have k5 : Keep Hx H5 := keep_put k4 (by omega) o5 n5
    have hs5 := hs.keep k5
    have hl5 := hl.keep k5
    have hI0 : Ints H5 sv B0 := hs5.row
    have hI1 : Ints H5 lv B1 := hl5.row
    have ho5 : OwnE H5 ov L b3 := OwnS.keep ho k5
    repeat' first
      | refine CO.nil ?_
      | fail
    refine CV.wideR callees (by decide +kernel) [(0, []), (1, []), (2, []), (3, []), (4, []), (5, []), (6, []), (7, []), (8, []), (9, []), (10, []), (11, []), (12, []), (14, []), (15, []), (13, [15, 10, 9, 5]), (16, [10, 9, 5]), (17, []), (18, []), (19, [])] (by kernel_rfl) ?_
    repeat' first
      | refine CR.cons ?_
      | refine ⟨_, ints_addr (by assumption) (by omega) (by omega), ?_⟩
      | refine ⟨_, ints_load (by assumption) (by omega) (by omega), ?_⟩
      | (refine ⟨_, bu87, ?_⟩)
      | (refine ⟨_, fS foC1 (by decide), ?_⟩)
      | (refine ⟨_, fS foC2 (by decide), ?_⟩)
      | (refine ⟨_, agg_load ag41 sz41 hg5 (Nat.le_of_ble_eq_true rfl), ?_⟩)
      | fail
    refine (knownOf_spec (p := (cs[i]!.bl, cs[i]!.bh)) (by omega)).mono ?_
    rintro r H6 ⟨rfl, k6⟩
    have l6 := k6.1
    have hg6 := (k6.2 b4 (by omega)).trans hg5
    have hs6 := hs5.keep k6
    have hl6 := hl5.keep k6
    have hJ0 : Ints H6 sv B0 := hs6.row
    have hJ1 : Ints H6 lv B1 := hl6.row
    clear hI0 hI1
    repeat' first
      | refine CR.cons ?_
      | refine ⟨_, ints_load (by assumption) (by omega) (by omega), ?_⟩
      | (refine ⟨_, agg_load ag41 sz41 hg6 (Nat.le_of_ble_eq_true rfl), ?_⟩)
      | (refine ⟨_, bu87, ?_⟩)
      | (refine ⟨(rfl : _ = Value.int _ _), ?_⟩)
      | (refine ⟨same_int, ?_⟩)
      | (refine ⟨(rfl : _ = Hv _), ?_⟩)
      | (refine ⟨same_h, ?_⟩)
      | (refine ⟨(rfl : _ = Value.agg _), ?_⟩)
      | (refine ⟨same_h (x := (cs[i]!.hl, cs[i]!.hh)), ?_⟩)
      | fail
    refine (knownOf_spec (p := (cs[i]!.hl, cs[i]!.hh)) (by omega)).mono ?_
    rintro r H7 ⟨rfl, k7⟩
    have l7 := k7.1
    have k57 := k6.trans k7
    have hs7 := hs6.keep k7
    have hl7 := hl6.keep k7
    have hK0 : Ints H7 sv B0 := hs7.row
    have hK1 : Ints H7 lv B1 := hl7.row
    have ho7 : OwnE H7 ov L b3 := OwnS.keep ho5 k57
    have kx7 := kx.trans (k5.trans k57)
    clear hJ0 hJ1
    repeat' first
      | refine CR.cons ?_
      | refine ⟨_, ints_load (by assumption) (by omega) (by omega), ?_⟩
      | (refine ⟨_, bu87, ?_⟩)
      | (refine ⟨(rfl : _ = Value.int _ _), ?_⟩)
      | (refine ⟨same_int, ?_⟩)
      | (refine ⟨(rfl : _ = Hv _), ?_⟩)
      | (refine ⟨same_h, ?_⟩)
      | (refine ⟨_, bu89, ?_⟩)
      | (refine ⟨_, em_addr ho7.row (by omega) (by omega), ?_⟩)
      | fail
    refine em_put (d := emAt cs B0 B1 i) ho7 (by omega) (by omega) ?_
    intro H8 ho8 kb8
    have l8 := kb8.le
    rw [Int.toNat_natCast] at ho8
    have kx8 : Keep H H8 := kb8.keep kx7 fun c hc => by rw [hblk] at hc; cases hc; omega
    have hs8 := hs7.keepBut kb8 (fun c hc hd => by rw [hblk] at hd; cases hd; have := hsb _ hc; omega)
    have hl8 := hl7.keepBut kb8 (fun c hc hd => by rw [hblk] at hd; cases hd; have := hlb _ hc; omega)
    repeat' first
      | refine CO.cons rfl ?_
      | refine CO.nil ?_
      | refine CV.region callees ?_
      | refine CR.nil ?_
      | refine ⟨(⟨by omega, by omega⟩ : inI64 _), ?_⟩
      | fail
    refine ⟨(L.set i (emAt cs B0 B1 i), i + 1), (by repeat' first | exact trivial | refine ⟨rfl, ?_⟩ | refine ⟨slot_int (by (try simp only [Int.toNat_natCast]); omega), ?_⟩), (by (try dsimp only); omega), ?_⟩
    refine ⟨by omega, by rw [List.length_set]; exact hLl, fun j hj => ?_, ho8, hs8, hl8, kx8, by omega⟩
    by_cases hji : j = i
    · subst hji
      rw [getElem!_pos _ j (by rw [List.length_set]; omega)]; simp
    · rw [getElem!_pos _ j (by rw [List.length_set]; omega), List.getElem_set_ne (by omega), ← getElem!_pos L j (by omega)]
      exact hL j (by omega)
  have hie : i = cs.length := by omega
  have hLe : L = emL cs B0 B1 := by
    apply List.ext_getElem (by rw [hLl, emL_len])
    intro j h1 h2
    have := hL j (by omega)
    rw [← emL_at (by omega), getElem!_pos L j h1, getElem!_pos _ j h2] at this
    exact this
  subst hLe
  repeat' first
    | refine CO.cons rfl ?_
    | refine CO.nil ?_
    | refine CV.seq ?_
    | refine CV.region callees ?_
    | refine CV.cond ?_
    | refine CV.exit ?_
    | refine CV.ret ?_
    | (refine ⟨fun _ => ?_, fun _ => ?_⟩ <;> first | (exfalso; omega) | skip)
    | fail
  exact ⟨by simp only [List.all_cons, List.all_nil, OwnS.notTuple ho]; rfl, OwnS.low ho (by omega), kx⟩
end Go.Proofs.Ytglkphjjinmgmaa

