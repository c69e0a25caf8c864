
/- Which coal lights which. -/
import Derived.Test.YtglkphjjinmgmaaW2h
set_option linter.unusedVariables false
set_option linter.unusedSimpArgs false
namespace Go.Proofs.Ytglkphjjinmgmaa
open Go.AI
/-- The ways of the first touches. -/
def Wy (ts : List (Int × Int)) (i : Nat) (p : Int × Int) : Prop := ∃ k, k < i ∧ (ts[k]! = p ∨ ts[k]! = (p.2, p.1))
abbrev tm (e : Int) (cs : List Co) (p : Int × Int) : Int := ca e (coAt cs p.2)
def lit (e : Int) (cs : List Co) (p : Int × Int) : Prop := ca e (coAt cs p.2) ≤ bu e (coAt cs p.1)
theorem wy_arc {e : Int} {cs : List Co} {ts : List (Int × Int)} {p : Int × Int} : (Wy ts ts.length p ∧ lit e cs p) ↔ Arc e cs ts p := by
  unfold Arc lit
  refine and_congr ⟨?_, ?_⟩ Iff.rfl
  · rintro ⟨k, hk, h | h⟩
    · left; rw [← h, getElem!_pos ts k hk]; exact List.getElem_mem hk
    · right; rw [← h, getElem!_pos ts k hk]; exact List.getElem_mem hk
  · rintro (h | h)
    · obtain ⟨i, hi, h⟩ := mem_ats h; exact ⟨i, hi, .inl h⟩
    · obtain ⟨i, hi, h⟩ := mem_ats h; exact ⟨i, hi, .inr h⟩
/-- The way of a number. -/
def wayOf (t : Int × Int) (j : Nat) : Int × Int := bif Nat.beq j 0 then t else (t.2, t.1)
theorem ix127 {t : Int × Int} {j : Nat} (hj : j < 2) : aindex Try.prog 147 (.agg #[VJ t.1, VJ t.2, VJ t.2, VJ t.1]) (VJ j) = some (Hv (wayOf t j)) := by
  match j, hj with
  | 0, _ => exact ix127a (p := t) (q := (t.2, t.1))
  | 1, _ => exact ix127b (p := t) (q := (t.2, t.1))
theorem ixk {x y : Int} {e : Int} (he : e = 0 ∨ e = 1) : aindex Try.prog 104 (Hv (x, y)) (VJ e) = some (VJ (if e = 0 then x else y)) := by
  rcases he with rfl | rfl
  · exact ix87a
  · exact ix87b
theorem ixo {x y : Int} {e : Int} (he : e = 0 ∨ e = 1) : aindex Try.prog 104 (Hv (x, y)) (VJ (1 - e)) = some (VJ (if e = 0 then y else x)) := by
  rcases he with rfl | rfl
  · exact ix87b
  · exact ix87a
set_option maxHeartbeats 4000000 in
set_option maxRecDepth 100000 in
theorem catching_spec {B : Nat} {H : Heap} {cv tv : Value} {cs : List Co} {ts : List (Int × Int)} {e : Int} (hB : B ≤ H.n) (hc : RowS 7 H cv (cs.map Col)) (ht : RowS 2 H tv (ts.map Hl)) (hf : FOk cs ts) (he : e = 0 ∨ e = 1) :
    CallB Try.prog B 103 [Fv cv tv, VJ e] H (fun r H' => (∃ M b, r = .map (some b) ∧ H.n ≤ b ∧ b < H'.n ∧ H'.get b = some (.map (ents (tm e cs) M)) ∧ ∀ p, p ∈ M ↔ Arc e cs ts p) ∧ Keep H H') := by
  have hn12 := hf.n
  have hm40 := hf.m
  refine CV.enter callees1 false rfl Try.func103 rfl (by kernel_rfl) (Nat.le_of_ble_eq_true rfl) hB ?_
  repeat' first
    | refine CO.cons rfl ?_
    | refine CV.seq ?_
    | refine CV.region callees1 ?_
    | fail
  refine ⟨(by simp only [notTuple]), ?_⟩
  rw [allocFv hc.cells.1 ht.cells.1]
  generalize hs0 : H.new _ = H0
  have hg0 := new_get hs0
  have k0 := new_keep hs0
  have n0 := new_n hs0
  obtain ⟨br, hbr⟩ : ∃ br, H.n = br := ⟨_, rfl⟩
  rw [hbr] at hg0 n0 ⊢
  repeat' first
    | refine CO.cons rfl ?_
    | refine CO.nil ?_
    | refine CV.seq ?_
    | refine CV.region callees1 ?_
    | fail
  generalize hs1 : H0.new _ = H1
  have hg1 := new_get hs1
  have k1 := new_keep hs1
  have n1 := new_n hs1
  obtain ⟨bm, hbm⟩ : ∃ bm, H0.n = bm := ⟨_, rfl⟩
  rw [hbm] at hg1 n1 ⊢
  have k01 := k0.trans k1
  have hr1 : H1.get br = some (.cells (Fl cv tv) 25 1) := by rw [k1.2 br (by omega)]; exact hg0
  have ht1 := ht.keep k01
  repeat' first
    | refine CO.cons rfl ?_
    | refine CO.nil ?_
    | refine CV.block ?_
    | (refine ⟨_, fS foF1 (by decide), ?_⟩)
    | (refine ⟨_, cell_loadW ag26 hr1 rfl, ?_⟩)
    | (refine ⟨_, ts_len ht1, ?_⟩)
    | fail
  refine CV.loopc ?_
  refine WCv.rounds callees1 false (α := List (Int × Int) × Nat) (fun (M, i) => [(1, VJ e), (2, .pointer (some ⟨br, 0, none⟩)), (5, .map (some bm)), (13, tv), (14, VJ ts.length), (15, VJ i)]) (fun (M, i) Hz => i ≤ ts.length ∧ Hz.get bm = some (.map (ents (tm e cs) M)) ∧ Hz.get br = some (.cells (Fl cv tv) 25 1) ∧ (∀ p, p ∈ M ↔ Wy ts i p ∧ lit e cs p) ∧ Keep H Hz ∧ bm < Hz.n) (fun (M, i) => ts.length - i) ([], 0) (by repeat' first | exact trivial | refine ⟨rfl, ?_⟩ | refine ⟨slot_int (by (try simp only [Int.toNat_natCast]); omega), ?_⟩) ?_ ?_
  · exact ⟨by omega, hg1, hr1, fun p => by simp [Wy], k01, by omega⟩
  rintro ⟨M, i⟩ Hx ⟨hi, hgx, hrx, hM, kx, lx⟩ hBx
  have hcx := hc.keep kx
  have htx := ht.keep kx
  by_cases hi2 : i < ts.length
  · have hti := hf.t i hi2
    repeat' first
      | refine CO.cons rfl ?_
      | refine CO.nil ?_
      | refine CV.seq ?_
      | refine CV.region callees1 ?_
      | refine CV.cond ?_
      | refine CV.block ?_
      | refine CV.skip ?_
      | (refine ⟨_, ts_addr htx (by omega) (by omega), ?_⟩)
      | (refine ⟨_, ts_load htx hi2, ?_⟩)
      | (refine ⟨_, _, al82, ?_⟩)
      | (refine ⟨fun _ => ?_, fun _ => ?_⟩ <;> first | (exfalso; omega) | skip)
      | fail
    generalize hs2 : Hx.new _ = H2
    have hg2 := new_get hs2
    have k2 := new_keep hs2
    have n2 := new_n hs2
    obtain ⟨bt, hbt⟩ : ∃ bt, Hx.n = bt := ⟨_, rfl⟩
    rw [hbt] at hg2 n2 ⊢
    repeat' first
      | fail
    refine ⟨_, _, st82 hg2, by omega, ?_⟩
    generalize hs3 : Heap.set H2 bt _ = H3
    have hg3 : H3.get bt = some (.cells (Hl ts[i]!) 99 1) := set_get hs3
    have n3 := set_n hs3
    have o3 := set_old hs3
    have k3 : Keep Hx H3 := keep_putW k2 (by omega) o3 n3
    obtain ⟨t0, ht0⟩ : ∃ t0, ts[i]! = t0 := ⟨_, rfl⟩
    rw [ht0] at hg3 hti
    repeat' first
      | refine CO.cons rfl ?_
      | refine CO.nil ?_
      | refine CV.seq ?_
      | refine CV.region callees1 ?_
      | refine CV.block ?_
      | (refine ⟨_, ld82 hg3, ?_⟩)
      | (refine ⟨_, fS foT0 (by decide), ?_⟩)
      | (refine ⟨_, fS foT1 (by decide), ?_⟩)
      | (refine ⟨_, cell_loadW ag3 hg3 rfl, ?_⟩)
      | (refine ⟨_, bu82, ?_⟩)
      | (refine ⟨_, bu127, ?_⟩)
      | fail
    have hgm3 : H3.get bm = some (.map (ents (tm e cs) M)) := by rw [k3.2 bm (by omega)]; exact hgx
    have hgr3 : H3.get br = some (.cells (Fl cv tv) 25 1) := by rw [k3.2 br (by omega)]; exact hrx
    have kx3 := kx.trans k3
    refine CV.loopc ?_
    refine WCv.rounds callees1 false (α := List (Int × Int) × Nat) (fun (M', j) => [(1, VJ e), (2, .pointer (some ⟨br, 0, none⟩)), (5, .map (some bm)), (13, tv), (14, VJ ts.length), (15, VJ i), (25, .agg #[VJ t0.1, VJ t0.2, VJ t0.2, VJ t0.1]), (26, VJ j)]) (fun (M', j) Hz => j ≤ 2 ∧ Hz.get bm = some (.map (ents (tm e cs) M')) ∧ Hz.get br = some (.cells (Fl cv tv) 25 1) ∧ (∀ p, p ∈ M' ↔ p ∈ M ∨ (∃ q, q < j ∧ wayOf t0 q = p) ∧ lit e cs p) ∧ Keep H Hz ∧ bm < Hz.n) (fun (M', j) => 2 - j) (M, 0) (by repeat' first | exact trivial | refine ⟨rfl, ?_⟩ | refine ⟨slot_int (by (try simp only [Int.toNat_natCast]); omega), ?_⟩) ?_ ?_
    · exact ⟨by omega, hgm3, hgr3, fun p => by simp, kx3, by omega⟩
    clear hgx hrx kx hcx htx hgm3 hgr3 kx3 hg3 k3
    rintro ⟨M', j⟩ Hy ⟨hj, hgy, hry, hM', ky, ly⟩ hBy
    have hcy := hc.keep ky
    by_cases hj2 : j < 2
    · obtain ⟨w, hw⟩ : ∃ w, wayOf t0 j = w := ⟨_, rfl⟩
      have hwb : (0 ≤ w.1 ∧ w.1 < cs.length) ∧ (0 ≤ w.2 ∧ w.2 < cs.length) := by
        rw [← hw]; unfold wayOf
        cases Nat.beq j 0
        · exact ⟨hti.2.1, hti.1⟩
        · exact ⟨hti.1, hti.2.1⟩
      repeat' first
        | refine CO.cons rfl ?_
        | refine CO.nil ?_
        | refine CV.seq ?_
        | refine CV.region callees1 ?_
        | refine CV.cond ?_
        | refine CV.block ?_
        | refine CV.skip ?_
        | (refine ⟨_, ix127 hj2, ?_⟩)
        | (refine ⟨_, _, al82, ?_⟩)
        | (refine ⟨fun _ => ?_, fun _ => ?_⟩ <;> first | (exfalso; omega) | skip)
        | fail
      generalize hs4 : Hy.new _ = H4
      have hg4 := new_get hs4
      have k4 := new_keep hs4
      have n4 := new_n hs4
      obtain ⟨bw, hbw⟩ : ∃ bw, Hy.n = bw := ⟨_, rfl⟩
      rw [hbw] at hg4 n4 ⊢
      repeat' first
        | fail
      refine ⟨_, _, st82 hg4, by omega, ?_⟩
      generalize hs5 : Heap.set H4 bw _ = H5
      have hg5 : H5.get bw = some (.cells (Hl (wayOf t0 j)) 99 1) := set_get hs5
      have n5 := set_n hs5
      have o5 := set_old hs5
      have k5 : Keep Hy H5 := keep_putW k4 (by omega) o5 n5
      rw [hw] at hg5
      have hr5 : H5.get br = some (.cells (Fl cv tv) 25 1) := by rw [k5.2 br (by omega)]; exact hry
      have hgm5 : H5.get bm = some (.map (ents (tm e cs) M')) := by rw [k5.2 bm (by omega)]; exact hgy
      have hc5 := hcy.keep k5
      have h1n : w.1.toNat < cs.length := by omega
      have h2n : w.2.toNat < cs.length := by omega
      have ky5 := ky.trans k5
      repeat' first
        | refine CO.cons rfl ?_
        | refine CO.nil ?_
        | refine CV.seq ?_
        | refine CV.region callees1 ?_
        | (refine ⟨_, fS foF0 (by decide), ?_⟩)
        | (refine ⟨_, cell_loadW ag25 hr5 rfl, ?_⟩)
        | (refine ⟨_, fS foT1 (by decide), ?_⟩)
        | (refine ⟨_, cell_loadW ag3 hg5 rfl, ?_⟩)
        | (refine ⟨_, cs_addr hc5 (by omega) (by omega), ?_⟩)
        | (refine ⟨_, cs_f hc5 foC0 (by decide) h2n, ?_⟩)
        | (refine ⟨_, cs_catch hc5 h2n, ?_⟩)
        | fail
      refine (knownOf_spec1 (by omega)).mono ?_
      rintro r H6 ⟨rfl, k6⟩
      have l6 := k6.1
      have hg6 : H6.get bw = some (.cells (Hl w) 99 1) := by rw [k6.2 bw (by omega)]; exact hg5
      have hr6 : H6.get br = some (.cells (Fl cv tv) 25 1) := by rw [k6.2 br (by omega)]; exact hr5
      have hgm6 : H6.get bm = some (.map (ents (tm e cs) M')) := by rw [k6.2 bm (by omega)]; exact hgm5
      have hc6 := hc5.keep k6
      have ky6 := ky5.trans k6
      repeat' first
        | refine CO.cons rfl ?_
        | refine CO.nil ?_
        | refine CV.seq ?_
        | refine CV.region callees1 ?_
        | (refine ⟨_, ixk he, ?_⟩)
        | (refine ⟨_, fS foF0 (by decide), ?_⟩)
        | (refine ⟨_, cell_loadW ag25 hr6 rfl, ?_⟩)
        | (refine ⟨_, cell_loadW ag3 hg6 rfl, ?_⟩)
        | (refine ⟨_, cs_addr hc6 (by omega) (by omega), ?_⟩)
        | (refine ⟨_, cs_f hc6 foC1 (by decide) h1n, ?_⟩)
        | (refine ⟨_, cs_burn hc6 h1n, ?_⟩)
        | fail
      refine (knownOf_spec1 (by omega)).mono ?_
      rintro r H7 ⟨rfl, k7⟩
      have l7 := k7.1
      have hg7 : H7.get bw = some (.cells (Hl w) 99 1) := by rw [k7.2 bw (by omega)]; exact hg6
      have hr7 : H7.get br = some (.cells (Fl cv tv) 25 1) := by rw [k7.2 br (by omega)]; exact hr6
      have hgm7 : H7.get bm = some (.map (ents (tm e cs) M')) := by rw [k7.2 bm (by omega)]; exact hgm6
      have ky7 := ky6.trans k7
      repeat' first
        | refine CO.cons rfl ?_
        | fail
      refine (other_spec1 (by omega) he).mono ?_
      rintro r H8 ⟨rfl, k8⟩
      have l8 := k8.1
      have hg8 : H8.get bw = some (.cells (Hl w) 99 1) := by rw [k8.2 bw (by omega)]; exact hg7
      have hr8 : H8.get br = some (.cells (Fl cv tv) 25 1) := by rw [k8.2 br (by omega)]; exact hr7
      have hgm8 : H8.get bm = some (.map (ents (tm e cs) M')) := by rw [k8.2 bm (by omega)]; exact hgm7
      have ky8 := ky7.trans k8
      have ec : (if e = 0 then cs[w.2.toNat]!.cl else cs[w.2.toNat]!.ch) = tm e cs w := rfl
      have eb : (if e = 0 then cs[w.1.toNat]!.bh else cs[w.1.toNat]!.bl) = bu e (coAt cs w.1) := rfl
      rw [ec]
      repeat' first
        | refine CO.cons rfl ?_
        | refine CO.nil ?_
        | refine CV.region callees1 ?_
        | refine CV.cond ?_
        | refine CV.skip ?_
        | refine ⟨(⟨by omega, by omega⟩ : inI64 _), ?_⟩
        | (refine ⟨_, ixo he, ?_⟩)
        | (refine ⟨fun _ => ?_, fun _ => ?_⟩ <;> first | (exfalso; omega) | skip)
        | fail
      · rename_i hcond
        rw [eb] at hcond
        repeat' first
          | refine CO.cons rfl ?_
          | (refine ⟨_, ld82 hg8, ?_⟩)
          | fail
        refine ⟨_, _, updT hgm8, by omega, ?_⟩
        generalize hs9 : Heap.set H8 bm _ = H9
        have hg9 := set_get hs9
        have n9 := set_n hs9
        have o9 := set_old hs9
        repeat' first
          | refine CO.cons rfl ?_
          | refine CO.nil ?_
          | refine CV.region callees1 ?_
          | refine ⟨(⟨by omega, by omega⟩ : inI64 _), ?_⟩
          | fail
        refine ⟨(addK M' w, j + 1), (by repeat' first | exact trivial | refine ⟨rfl, ?_⟩ | refine ⟨slot_int (by (try simp only [Int.toNat_natCast]); omega), ?_⟩), (by (try dsimp only); omega), ?_⟩
        refine ⟨by omega, hg9, by rw [o9 br (by omega)]; exact hr8, fun p => ?_, keep_putW ky8 (by omega) o9 n9, by omega⟩
        rw [mem_addK, hM']
        constructor
        · rintro ((h | ⟨⟨q, hq, h⟩, h2⟩) | rfl)
          · exact .inl h
          · exact .inr ⟨⟨q, by omega, h⟩, h2⟩
          · exact .inr ⟨⟨j, by omega, hw⟩, hcond⟩
        · rintro (h | ⟨⟨q, hq, h⟩, h2⟩)
          · exact .inl (.inl h)
          · by_cases hqj : q = j
            · subst hqj; exact .inr (by rw [← h, hw])
            · exact .inl (.inr ⟨⟨q, by omega, h⟩, h2⟩)
      · rename_i hcond
        rw [eb] at hcond
        repeat' first
          | fail
        refine ⟨(M', j + 1), (by repeat' first | exact trivial | refine ⟨rfl, ?_⟩ | refine ⟨slot_int (by (try simp only [Int.toNat_natCast]); omega), ?_⟩), (by (try dsimp only); omega), ?_⟩
        refine ⟨by omega, hgm8, hr8, fun p => ?_, ky8, by omega⟩
        rw [hM']
        constructor
        · rintro (h | ⟨⟨q, hq, h⟩, h2⟩)
          · exact .inl h
          · exact .inr ⟨⟨q, by omega, h⟩, h2⟩
        · rintro (h | ⟨⟨q, hq, h⟩, h2⟩)
          · exact .inl h
          · by_cases hqj : q = j
            · subst hqj
              rw [hw] at h
              subst h
              exact absurd h2 hcond
            · exact .inr ⟨⟨q, by omega, h⟩, h2⟩
    have hje : j = 2 := by omega
    subst hje
    repeat' first
      | refine CO.cons rfl ?_
      | refine CO.nil ?_
      | refine CV.seq ?_
      | refine CV.region callees1 ?_
      | refine CV.cond ?_
      | refine CV.exit ?_
      | refine ⟨(⟨by omega, by omega⟩ : inI64 _), ?_⟩
      | (refine ⟨fun _ => ?_, fun _ => ?_⟩ <;> first | (exfalso; omega) | skip)
      | fail
    refine ⟨(M', i + 1), (by repeat' first | exact trivial | refine ⟨rfl, ?_⟩ | refine ⟨slot_int (by (try simp only [Int.toNat_natCast]); omega), ?_⟩), (by (try dsimp only); omega), ?_⟩
    refine ⟨by omega, hgy, hry, fun p => ?_, ky, ly⟩
    rw [hM', hM]
    constructor
    · rintro (⟨⟨k, hk, h⟩, h2⟩ | ⟨⟨q, hq, h⟩, h2⟩)
      · exact ⟨⟨k, by omega, h⟩, h2⟩
      · refine ⟨⟨i, by omega, ?_⟩, h2⟩
        rw [ht0]
        unfold wayOf at h
        cases hb : Nat.beq q 0 with
        | true => rw [hb] at h; exact .inl h
        | false => rw [hb] at h; right; rw [← h]; rfl
    · rintro ⟨⟨k, hk, h⟩, h2⟩
      by_cases hki : k = i
      · subst hki
        rw [ht0] at h
        rcases h with h | h
        · exact .inr ⟨⟨0, by omega, h⟩, h2⟩
        · exact .inr ⟨⟨1, by omega, by rw [h]; rfl⟩, h2⟩
      · exact .inl ⟨⟨k, by omega, h⟩, h2⟩
  have hie : i = ts.length := by omega
  repeat' first
    | refine CO.cons rfl ?_
    | refine CO.nil ?_
    | refine CV.seq ?_
    | refine CV.region callees1 ?_
    | refine CV.cond ?_
    | refine CV.exit ?_
    | refine CV.ret ?_
    | (refine ⟨fun _ => ?_, fun _ => ?_⟩ <;> first | (exfalso; omega) | skip)
    | fail
  exact ⟨rfl, ⟨M, bm, rfl, by omega, lx, hgx, fun p => by rw [hM, hie]; exact wy_arc⟩, kx⟩
end Go.Proofs.Ytglkphjjinmgmaa

