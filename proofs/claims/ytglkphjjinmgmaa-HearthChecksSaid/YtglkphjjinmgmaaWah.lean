
/- Kettles, pours, embers; which fires may be. -/
import Derived.Test.YtglkphjjinmgmaaW7h
set_option linter.unusedVariables false
set_option linter.unusedSimpArgs false
namespace Go.Proofs.Ytglkphjjinmgmaa
open Go.AI
structure Ke where
  wa : Int
  wl : Int
  wh : Int
  ro : Int
  ga : Int
  lo : Int
  si : Int
  bo : Int
deriving Inhabited
structure Po where
  mi : Int
  la : Int
  wm : Int
deriving Inhabited
structure Em where
  b0 : Int
  b1 : Int
  l0 : Int
  l1 : Int
  h0 : Int
  h1 : Int
deriving Inhabited
structure Wt where
  la : Int
  w0 : Int
  w1 : Int
deriving Inhabited
abbrev Kel (k : Ke) : List Value := [VJ k.wa, VJ k.wl, VJ k.wh, VJ k.ro, VJ k.ga, VJ k.lo, VJ k.si, VJ k.bo]
abbrev Kev (k : Ke) : Value := .agg #[VJ k.wa, VJ k.wl, VJ k.wh, VJ k.ro, VJ k.ga, VJ k.lo, VJ k.si, VJ k.bo]
abbrev Pol (p : Po) : List Value := [VJ p.mi, VJ p.la, VJ p.wm]
abbrev Pov (p : Po) : Value := .agg #[VJ p.mi, VJ p.la, VJ p.wm]
abbrev Eml (x : Em) : List Value := [VJ x.b0, VJ x.b1, VJ x.l0, VJ x.l1, VJ x.h0, VJ x.h1]
abbrev Emv (x : Em) : Value := .agg #[VJ x.b0, VJ x.b1, VJ x.l0, VJ x.l1, VJ x.h0, VJ x.h1]
abbrev Wtl (x : Wt) : List Value := [VJ x.la, VJ x.w0, VJ x.w1]
abbrev Wtv (x : Wt) : Value := .agg #[VJ x.la, VJ x.w0, VJ x.w1]
abbrev Bol (k : Ke) (c p : Value) : List Value := [VJ k.wa, VJ k.wl, VJ k.wh, VJ k.ro, VJ k.ga, VJ k.lo, VJ k.si, VJ k.bo, c, p]
abbrev Bov (k : Ke) (c p : Value) : Value := .agg #[VJ k.wa, VJ k.wl, VJ k.wh, VJ k.ro, VJ k.ga, VJ k.lo, VJ k.si, VJ k.bo, c, p]
theorem boxCo {H : Heap} {c : Co} : anew H (Value.cells (Cov c)).toList 32 1 = H.new (.cells (Col c) 32 1) := rfl
theorem boxKe {H : Heap} {k : Ke} : anew H (Value.cells (Kev k)).toList 29 1 = H.new (.cells (Kel k) 29 1) := rfl
theorem boxPo {H : Heap} {p : Po} : anew H (Value.cells (Pov p)).toList 82 1 = H.new (.cells (Pol p) 82 1) := rfl
theorem boxEm {H : Heap} {x : Em} : anew H (Value.cells (Emv x)).toList 106 1 = H.new (.cells (Eml x) 106 1) := rfl
theorem boxWt {H : Heap} {x : Wt} : anew H (Value.cells (Wtv x)).toList 138 1 = H.new (.cells (Wtl x) 138 1) := rfl
theorem boxBo {H : Heap} {k : Ke} {c p : Value} (h1 : c.cells.toList = [c]) (h2 : p.cells.toList = [p]) : anew H (Value.cells (Bov k c p)).toList 116 1 = H.new (.cells (Bol k c p) 116 1) := by
  have : (Value.cells (Bov k c p)).toList = Kel k ++ (c.cells.toList ++ (p.cells.toList ++ [])) := by
    rw [h1, h2]; rfl
  rw [this, h1, h2]; rfl
set_option maxRecDepth 100000 in
theorem isWithin_spec {B : Nat} {H : Heap} {n a b : Int} (hB : B ≤ H.n) :
    CallB Try.prog B 71 [VJ n, VJ a, VJ b] H (fun r H' => r = .bool (decide (a ≤ n ∧ n ≤ b)) ∧ H' = H) := by
  refine CV.enter callees false rfl Try.func71 rfl (by kernel_rfl) (Nat.le_of_ble_eq_true rfl) hB ?_
  repeat' first
    | refine CO.cons rfl ?_
    | refine CO.nil ?_
    | refine CV.seq ?_
    | refine CV.region callees ?_
    | refine CV.ret ?_
    | refine CO.consG rfl ?_
    | (refine ⟨fun _ => ?_, fun _ => ?_⟩ <;> first | (exfalso; omega) | skip)
    | fail
  · rename_i h1 h2
    exact ⟨rfl, by rw [decide_eq_true (⟨h1, h2⟩ : a ≤ n ∧ n ≤ b)], rfl⟩
  · rename_i h1 h2
    exact ⟨rfl, by rw [decide_eq_false (fun h => h2 h.2)], rfl⟩
  · rename_i h1
    exact ⟨rfl, by rw [decide_eq_false (fun h => h1 h.1)], rfl⟩
theorem isWithin_yes {B : Nat} {H : Heap} {n a b : Int} (hB : B ≤ H.n) (h : a ≤ n ∧ n ≤ b) :
    CallB Try.prog B 71 [VJ n, VJ a, VJ b] H (fun r H' => r = .bool true ∧ H' = H) :=
  (isWithin_spec hB).mono fun r H' ⟨h1, h2⟩ => ⟨by rw [h1, decide_eq_true h], h2⟩
set_option maxRecDepth 100000 in
theorem checkSpan_ok {B : Nat} {H : Heap} {p : Int × Int} {a b : Int} (hB : B ≤ H.n) (h1 : a ≤ p.1) (h2 : p.1 ≤ p.2) (h3 : p.2 ≤ b) :
    CallB Try.prog B 77 [Hv p, VJ a, VJ b] H (fun r H' => r = VJ 0 ∧ Keep H H') := by
  refine CV.enter callees false rfl Try.func77 rfl (by kernel_rfl) (Nat.le_of_ble_eq_true rfl) hB ?_
  repeat' first
    | refine CO.cons rfl ?_
    | refine CV.seq ?_
    | refine CV.region callees ?_
    | fail
  refine ⟨(by simp only [notTuple]), ?_⟩
  rw [allocHv]
  generalize hs0 : Heap.new H _ = H0
  have hg0 := new_get hs0
  have k0 := new_keep hs0
  have n0 := new_n hs0
  obtain ⟨b0, hbn0⟩ : ∃ b, Heap.n H = b := ⟨_, rfl⟩
  rw [hbn0] at hg0 n0 ⊢
  repeat' first
    | refine CO.cons rfl ?_
    | refine CO.nil ?_
    | refine CV.seq ?_
    | refine CV.region callees ?_
    | (refine ⟨_, fS foS0 (by decide), ?_⟩)
    | (refine ⟨_, cell_load ag3 hg0 rfl, ?_⟩)
    | fail
  refine (isWithin_yes (by omega) ⟨by omega, by omega⟩).mono ?_
  rintro r H1 ⟨rfl, rfl⟩
  repeat' first
    | refine CO.cons rfl ?_
    | refine CO.consG rfl ?_
    | (refine ⟨_, fS foS1 (by decide), ?_⟩)
    | (refine ⟨_, cell_load ag3 hg0 rfl, ?_⟩)
    | fail
  refine (isWithin_yes (by omega) ⟨by omega, by omega⟩).mono ?_
  rintro r H2 ⟨rfl, rfl⟩
  repeat' first
    | refine CO.cons rfl ?_
    | refine CO.nil ?_
    | refine CV.seq ?_
    | refine CV.region callees ?_
    | refine CV.cond ?_
    | refine CV.skip ?_
    | refine CV.ret ?_
    | refine CO.consG rfl ?_
    | (refine ⟨_, fS foS0 (by decide), ?_⟩)
    | (refine ⟨_, fS foS1 (by decide), ?_⟩)
    | (refine ⟨_, cell_load ag3 hg0 rfl, ?_⟩)
    | (refine ⟨fun _ => ?_, fun _ => ?_⟩ <;> first | (exfalso; omega) | skip)
    | fail
  exact ⟨rfl, rfl, k0⟩
set_option maxRecDepth 100000 in
theorem checkCoal_ok {B : Nat} {H : Heap} {c : Co} (hB : B ≤ H.n) (hc : CoOk c) :
    CallB Try.prog B 75 [Cov c] H (fun r H' => r = VJ 0 ∧ Keep H H') := by
  obtain ⟨c1, c2, c3, d1, d2, d3, e1, e2, e3⟩ := hc
  refine CV.enter callees false rfl Try.func75 rfl (by kernel_rfl) (Nat.le_of_ble_eq_true rfl) hB ?_
  repeat' first
    | refine CO.cons rfl ?_
    | refine CV.seq ?_
    | refine CV.region callees ?_
    | fail
  refine ⟨(by simp only [notTuple]), ?_⟩
  rw [boxCo]
  generalize hs0 : Heap.new H _ = H0
  have hg0 := new_get hs0
  have k0 := new_keep hs0
  have n0 := new_n hs0
  obtain ⟨b0, hbn0⟩ : ∃ b, Heap.n H = b := ⟨_, rfl⟩
  rw [hbn0] at hg0 n0 ⊢
  repeat' first
    | refine CO.cons rfl ?_
    | refine CO.nil ?_
    | refine CV.seq ?_
    | refine CV.region callees ?_
    | (refine ⟨_, fS foC0 (by decide), ?_⟩)
    | (refine ⟨_, agg_load ag41 sz41 hg0 (Nat.le_of_ble_eq_true rfl), ?_⟩)
    | fail
  refine (checkSpan_ok (p := (c.cl, c.ch)) (by omega) (by omega) c2 (by omega)).mono ?_
  rintro r H1 ⟨rfl, k1⟩
  have hg1 := (k1.2 b0 (by omega)).trans hg0
  have l1 := k1.1
  repeat' first
    | refine CO.cons rfl ?_
    | refine CO.nil ?_
    | refine CV.seq ?_
    | refine CV.region callees ?_
    | refine CV.cond ?_
    | refine CV.skip ?_
    | (refine ⟨_, fS foC1 (by decide), ?_⟩)
    | (refine ⟨_, agg_load ag41 sz41 hg1 (Nat.le_of_ble_eq_true rfl), ?_⟩)
    | (refine ⟨fun _ => ?_, fun _ => ?_⟩ <;> first | (exfalso; omega) | skip)
    | fail
  refine (checkSpan_ok (p := (c.bl, c.bh)) (by omega) (by omega) d2 (by omega)).mono ?_
  rintro r H2 ⟨rfl, k2⟩
  have hg2 := (k2.2 b0 (by omega)).trans hg1
  have l2 := k2.1
  repeat' first
    | refine CO.cons rfl ?_
    | refine CO.nil ?_
    | refine CV.seq ?_
    | refine CV.region callees ?_
    | refine CV.cond ?_
    | refine CV.skip ?_
    | (refine ⟨_, fS foC2 (by decide), ?_⟩)
    | (refine ⟨_, agg_load ag41 sz41 hg2 (Nat.le_of_ble_eq_true rfl), ?_⟩)
    | (refine ⟨fun _ => ?_, fun _ => ?_⟩ <;> first | (exfalso; omega) | skip)
    | fail
  refine (checkSpan_ok (p := (c.hl, c.hh)) (by omega) (by omega) e2 (by omega)).mono ?_
  rintro r H3 ⟨rfl, k3⟩
  repeat' first
    | refine CO.cons rfl ?_
    | refine CO.nil ?_
    | refine CV.ret ?_
    | fail
  exact ⟨rfl, rfl, ((k0.trans k1).trans k2).trans k3⟩
set_option maxHeartbeats 4000000 in
set_option maxRecDepth 100000 in
theorem check_ok {B : Nat} {H : Heap} {cv tv : Value} {cs : List Co} {ts : List (Int × Int)} (hB : B ≤ H.n) (hc : RowS 7 H cv (cs.map Col)) (ht : RowS 2 H tv (ts.map Hl)) (hf : FOk cs ts) :
    CallB Try.prog B 27 [Fv cv tv] H (fun r H' => r = VJ 0 ∧ Keep H H') := by
  have hn12 := hf.n
  have hm40 := hf.m
  refine CV.enter callees false rfl Try.func27 rfl (by kernel_rfl) (Nat.le_of_ble_eq_true rfl) hB ?_
  repeat' first
    | refine CO.cons rfl ?_
    | refine CV.seq ?_
    | refine CV.region callees ?_
    | fail
  refine ⟨(by simp only [notTuple]), ?_⟩
  rw [allocFv hc.cells.1 ht.cells.1]
  generalize hs0 : Heap.new H _ = H0
  have hg0 := new_get hs0
  have k0 := new_keep hs0
  have n0 := new_n hs0
  obtain ⟨b0, hbn0⟩ : ∃ b, Heap.n H = b := ⟨_, rfl⟩
  rw [hbn0] at hg0 n0 ⊢
  have hc0 := hc.keep k0
  repeat' first
    | refine CO.cons rfl ?_
    | refine CO.nil ?_
    | refine CV.seq ?_
    | refine CV.region callees ?_
    | refine CV.cond ?_
    | refine CV.block ?_
    | refine CV.skip ?_
    | (refine ⟨_, fS foF0 (by decide), ?_⟩)
    | (refine ⟨_, cell_load ag25 hg0 rfl, ?_⟩)
    | (refine ⟨_, cs_len hc0, ?_⟩)
    | (refine ⟨fun _ => ?_, fun _ => ?_⟩ <;> first | (exfalso; omega) | skip)
    | fail
  refine CV.loopc ?_
  refine WCv.rounds callees false (α := Nat) (fun i => [(1, .pointer (some ⟨b0, 0, none⟩)), (13, cv), (14, VJ cs.length), (15, VJ i)]) (fun i Hz => i ≤ cs.length ∧ Hz.get b0 = some (.cells (Fl cv tv) 25 1) ∧ Keep H Hz ∧ b0 < Hz.n) (fun i => cs.length - i) (0) (by repeat' first | exact trivial | refine ⟨rfl, ?_⟩ | refine ⟨slot_int (by (try simp only [Int.toNat_natCast]); omega), ?_⟩) ?_ ?_
  · exact ⟨by omega, hg0, k0, by omega⟩
  rintro i Hx ⟨hi, hgx, kx, lx⟩ hBx
  by_cases hi2 : i < cs.length
  · have hcx := hc.keep kx
    repeat' first
      | refine CO.cons rfl ?_
      | refine CO.nil ?_
      | refine CV.seq ?_
      | refine CV.region callees ?_
      | refine CV.cond ?_
      | refine CV.block ?_
      | refine CV.skip ?_
      | (refine ⟨_, cs_addr hcx (by omega) (by omega), ?_⟩)
      | (refine ⟨_, cs_load hcx hi2, ?_⟩)
      | (refine ⟨_, _, al48, ?_⟩)
      | (refine ⟨fun _ => ?_, fun _ => ?_⟩ <;> first | (exfalso; omega) | skip)
      | fail
    generalize hs2 : Heap.new Hx _ = H2
    have hg2 := new_get hs2
    have k2 := new_keep hs2
    have n2 := new_n hs2
    obtain ⟨b2, hbn2⟩ : ∃ b, Heap.n Hx = b := ⟨_, rfl⟩
    rw [hbn2] at hg2 n2 ⊢
    repeat' first
      | fail
    refine ⟨_, _, st48 hg2, by omega, ?_⟩
    generalize hs3 : Heap.set H2 b2 _ = H3
    have hg3 : H3.get b2 = some (.cells (Col cs[i]!) 32 1) := set_get hs3
    have n3 := set_n hs3
    have o3 := set_old hs3
    have k3 : Keep Hx H3 := keep_put k2 (by omega) o3 n3
    repeat' first
      | refine CO.cons rfl ?_
      | refine CO.nil ?_
      | refine CV.seq ?_
      | refine CV.region callees ?_
      | (refine ⟨_, ld48 hg3, ?_⟩)
      | fail
    refine (checkCoal_ok (by omega) (hf.c i hi2)).mono ?_
    rintro r H4 ⟨rfl, k4⟩
    have l4 := k4.1
    have k34 := k3.trans k4
    repeat' first
      | refine CO.cons rfl ?_
      | refine CO.nil ?_
      | refine CV.seq ?_
      | refine CV.region callees ?_
      | refine CV.cond ?_
      | refine CV.skip ?_
      | refine ⟨(⟨by omega, by omega⟩ : inI64 _), ?_⟩
      | (refine ⟨fun _ => ?_, fun _ => ?_⟩ <;> first | (exfalso; omega) | skip)
      | fail
    refine ⟨(i + 1), (by repeat' first | exact trivial | refine ⟨rfl, ?_⟩ | refine ⟨slot_int (by (try simp only [Int.toNat_natCast]); omega), ?_⟩), (by (try dsimp only); omega), ?_⟩
    exact ⟨by omega, (k34.2 b0 (by omega)).trans hgx, kx.trans k34, by omega⟩
  have htx := ht.keep kx
  repeat' first
    | refine CO.cons rfl ?_
    | refine CO.nil ?_
    | refine CV.seq ?_
    | refine CV.region callees ?_
    | refine CV.cond ?_
    | refine CV.block ?_
    | refine CV.skip ?_
    | refine CV.exit ?_
    | (refine ⟨_, fS foF1 (by decide), ?_⟩)
    | (refine ⟨_, cell_load ag26 hgx rfl, ?_⟩)
    | (refine ⟨_, ts_len htx, ?_⟩)
    | (refine ⟨fun _ => ?_, fun _ => ?_⟩ <;> first | (exfalso; omega) | skip)
    | fail
  refine CV.loopc ?_
  refine WCv.rounds callees false (α := Nat) (fun i => [(1, .pointer (some ⟨b0, 0, none⟩)), (30, tv), (31, VJ ts.length), (32, VJ i)]) (fun i Hz => i ≤ ts.length ∧ Hz.get b0 = some (.cells (Fl cv tv) 25 1) ∧ Keep H Hz ∧ b0 < Hz.n) (fun i => ts.length - i) (0) (by repeat' first | exact trivial | refine ⟨rfl, ?_⟩ | refine ⟨slot_int (by (try simp only [Int.toNat_natCast]); omega), ?_⟩) ?_ ?_
  · exact ⟨by omega, hgx, kx, lx⟩
  clear hgx kx htx
  rintro i Hx ⟨hi, hgx, kx, lx⟩ hBx
  by_cases hi2 : i < ts.length
  · have hti := hf.t i hi2
    have htx := ht.keep kx
    repeat' first
      | refine CO.cons rfl ?_
      | refine CO.nil ?_
      | refine CV.seq ?_
      | refine CV.region callees ?_
      | refine CV.cond ?_
      | refine CV.block ?_
      | refine CV.skip ?_
      | (refine ⟨_, ts_addr htx (by omega) (by omega), ?_⟩)
      | (refine ⟨_, ts_load htx hi2, ?_⟩)
      | (refine ⟨_, _, al82, ?_⟩)
      | (refine ⟨fun _ => ?_, fun _ => ?_⟩ <;> first | (exfalso; omega) | skip)
      | fail
    generalize hs2 : Heap.new Hx _ = H2
    have hg2 := new_get hs2
    have k2 := new_keep hs2
    have n2 := new_n hs2
    obtain ⟨b2, hbn2⟩ : ∃ b, Heap.n Hx = b := ⟨_, rfl⟩
    rw [hbn2] at hg2 n2 ⊢
    repeat' first
      | fail
    refine ⟨_, _, st82 hg2, by omega, ?_⟩
    generalize hs3 : Heap.set H2 b2 _ = H3
    have hg3 : H3.get b2 = some (.cells (Hl ts[i]!) 99 1) := set_get hs3
    have n3 := set_n hs3
    have o3 := set_old hs3
    have k3 : Keep Hx H3 := keep_put k2 (by omega) o3 n3
    have hgr3 := (k3.2 b0 (by omega)).trans hgx
    have hc3 := hc.keep (kx.trans k3)
    repeat' first
      | refine CO.cons rfl ?_
      | refine CO.nil ?_
      | refine CV.seq ?_
      | refine CV.region callees ?_
      | refine ⟨(⟨by omega, by omega⟩ : inI64 _), ?_⟩
      | (refine ⟨_, fS foT0 (by decide), ?_⟩)
      | (refine ⟨_, cell_load ag3 hg3 rfl, ?_⟩)
      | (refine ⟨_, cell_load ag25 hgr3 rfl, ?_⟩)
      | (refine ⟨_, cs_len hc3, ?_⟩)
      | fail
    refine (isWithin_yes (by omega) ⟨by omega, by omega⟩).mono ?_
    rintro r H4 ⟨rfl, rfl⟩
    repeat' first
      | refine CO.cons rfl ?_
      | refine CO.consG rfl ?_
      | refine ⟨(⟨by omega, by omega⟩ : inI64 _), ?_⟩
      | (refine ⟨_, fS foT0 (by decide), ?_⟩)
      | (refine ⟨_, fS foT1 (by decide), ?_⟩)
      | (refine ⟨_, cell_load ag3 hg3 rfl, ?_⟩)
      | (refine ⟨_, cell_load ag25 hgr3 rfl, ?_⟩)
      | (refine ⟨_, cs_len hc3, ?_⟩)
      | fail
    refine (isWithin_yes (by omega) ⟨by omega, by omega⟩).mono ?_
    rintro r H5 ⟨rfl, rfl⟩
    repeat' first
      | refine CO.cons rfl ?_
      | refine CO.nil ?_
      | refine CV.seq ?_
      | refine CV.region callees ?_
      | refine CV.cond ?_
      | refine CV.skip ?_
      | refine CO.consG rfl ?_
      | refine ⟨(⟨by omega, by omega⟩ : inI64 _), ?_⟩
      | (refine ⟨_, fS foT0 (by decide), ?_⟩)
      | (refine ⟨_, fS foT1 (by decide), ?_⟩)
      | (refine ⟨_, cell_load ag3 hg3 rfl, ?_⟩)
      | (refine ⟨fun _ => ?_, fun _ => ?_⟩ <;> first | (exfalso; omega) | skip)
      | fail
    refine ⟨(i + 1), (by repeat' first | exact trivial | refine ⟨rfl, ?_⟩ | refine ⟨slot_int (by (try simp only [Int.toNat_natCast]); omega), ?_⟩), (by (try dsimp only); omega), ?_⟩
    exact ⟨by omega, hgr3, kx.trans k3, by omega⟩
  repeat' first
    | refine CO.cons rfl ?_
    | refine CO.nil ?_
    | refine CV.seq ?_
    | refine CV.region callees ?_
    | refine CV.cond ?_
    | refine CV.exit ?_
    | refine CV.ret ?_
    | (refine ⟨fun _ => ?_, fun _ => ?_⟩ <;> first | (exfalso; omega) | skip)
    | fail
  exact ⟨rfl, rfl, kx⟩
end Go.Proofs.Ytglkphjjinmgmaa

