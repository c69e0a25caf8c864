
/- The rules that an order does not keep: the walk. -/
import Derived.Test.YtlamceokhbigaaaT6g
set_option linter.unusedVariables false
set_option linter.unusedSimpArgs false
namespace Go.Proofs.Ytlamceokhbigaaa
open Go.AI
abbrev fnV (k : Nat) : Value := .func (.func k) #[] #[]
abbrev askL : List Value := [.nilFunc, fnV 138, fnV 139, fnV 140, fnV 141, fnV 142, fnV 143]
abbrev nilL : List Value := [.nilFunc, .nilFunc, .nilFunc, .nilFunc, .nilFunc, .nilFunc, .nilFunc]
theorem ag144 : isAggB Try.prog 144 = some true := by kernel_rfl
theorem sz144 : sizeB Try.prog 144 = some 7 := by kernel_rfl
theorem ag143 : isAggB Try.prog 143 = some false := by kernel_rfl
theorem zero144 : zeroCellsW Try.prog 144 = some nilL := by kernel_rfl
theorem al144 {H : Heap} : sAlloc Try.prog H 144 = some (.pointer (some ⟨H.n, 0, none⟩), H.new (.cells nilL 144 1), H.n) := alloc_ofW zero144
theorem bu144 : abuild Try.prog 144 [(1, fnV 138), (2, fnV 139), (3, fnV 140), (4, fnV 141), (5, fnV 142), (6, fnV 143)] = some (.agg askL.toArray) := by kernel_rfl
theorem st144 {H : Heap} {b k : Nat} {e : TypeId} (hg : H.get b = some (.cells nilL e (k + 1))) : astore Try.prog 144 H (.agg askL.toArray) (.pointer (some ⟨b, 0, none⟩)) = some (H.set b (.cells askL e (k + 1)), b) := store_allW (vs := askL) hg rfl sz144 rfl
theorem ld144 {H : Heap} {b k : Nat} {e : TypeId} (hg : H.get b = some (.cells askL e k)) : aload Try.prog 144 H (.pointer (some ⟨b, 0, none⟩)) = some (.agg askL.toArray) := agg_load ag144 sz144 hg (Nat.le_refl _)
set_option maxRecDepth 100000 in
theorem asked_spec {B : Nat} {H : Heap} (hB : B ≤ H.n) :
    CallB Try.prog B 118 [] H (fun v H' => v = .agg askL.toArray ∧ Keep H H') := by
  refine CV.enter callees false rfl Try.func118 rfl (by kernel_rfl) (Nat.le_of_ble_eq_true rfl) hB ?_
  repeat' first
    | refine CO.cons rfl ?_
    | refine CO.nil ?_
    | refine CV.seq ?_
    | refine CV.region callees ?_
    | (refine ⟨_, _, al144, ?_⟩)
    | fail
  generalize hs0 : Heap.new H _ = H0
  have hg0 := new_get hs0
  have k0 := new_keep hs0
  have n0 := new_n hs0
  obtain ⟨b0, hbn0⟩ : ∃ b, Heap.n H = b := ⟨_, rfl⟩
  rw [hbn0] at hg0 n0 ⊢
  repeat' first
    | refine CO.cons rfl ?_
    | (refine ⟨_, bu144, ?_⟩)
    | fail
  refine ⟨_, _, st144 hg0, by omega, ?_⟩
  generalize hs1 : Heap.set H0 b0 _ = H1
  have hg1 : H1.get b0 = some (.cells (askL) 144 1) := set_get hs1
  have n1 := set_n hs1
  have o1 := set_old hs1
  repeat' first
    | refine CO.nil ?_
    | refine CV.ret ?_
    | fail
  exact ⟨_, ld144 hg1, rfl, rfl, keep_put k0 (by omega) o1 n1⟩
abbrev setB (N k : Nat) : Nat := N ||| 2 ^ k
/-- Whether a rule is kept. -/
def keepN (n : Nat) (S R : List Int) (r : Ru) : Bool :=
  if r.kd = 1 then decide (S[r.a.toNat]! < S[r.b.toNat]!) else
  if r.kd = 2 then decide (S[r.a.toNat]! - S[r.b.toNat]! = 1 ∨ S[r.a.toNat]! - S[r.b.toNat]! = -1) else
  if r.kd = 3 then !decide (S[r.a.toNat]! - S[r.b.toNat]! = 1 ∨ S[r.a.toNat]! - S[r.b.toNat]! = -1) else
  if r.kd = 4 then decide (S[r.a.toNat]! = 0) else
  if r.kd = 5 then decide (S[r.a.toNat]! = (n : Int) - 1) else downR R n
/-- The first rules that are not kept, as bits. -/
def brkN (n : Nat) (S R : List Int) (rs : List Ru) : Nat → Nat
  | 0 => 0
  | i + 1 => bif keepN n S R rs[i]! then brkN n S R rs i else brkN n S R rs i ||| 2 ^ i
theorem brkN_lt {n : Nat} {S R : List Int} {rs : List Ru} : ∀ i, brkN n S R rs i < 2 ^ i
  | 0 => by simp [brkN]
  | i + 1 => by
    have h := brkN_lt (n := n) (S := S) (R := R) (rs := rs) i
    have h2 : 2 ^ i < 2 ^ (i + 1) := Nat.pow_lt_pow_right (by decide) (by omega)
    unfold brkN
    cases keepN n S R rs[i]! with
    | true => exact Nat.lt_trans h h2
    | false => exact Nat.or_lt_two_pow (Nat.lt_trans h h2) h2
def brkO (gs : List Gu) (rs : List Ru) (o : List Int) : Nat := brkN gs.length (seatL o) (rankL gs o) rs rs.length
theorem seatL_bd {n : Nat} {o : List Int} (h : Pre n o) (h7 : n ≤ 7) : ∀ j : Nat, j < 7 → 0 ≤ (seatL o)[j]! ∧ (seatL o)[j]! ≤ 7 := by
  intro j hj
  rw [seatL_at hj]
  split
  · rename_i hm
    have := List.idxOf_lt_length_iff.2 hm
    have := h.l
    omega
  · omega
set_option maxHeartbeats 16000000 in
set_option maxRecDepth 100000 in
theorem brokenBy_spec {B : Nat} {H : Heap} {gv rv ov : Value} {gs : List Gu} {rs : List Ru} {o : List Int} (hB : B ≤ H.n) (hg : RowS 5 H gv (gs.map Gul)) (hgs : sameFix gv gv = true) (hr : RowS 4 H rv (rs.map Rul)) (ho : Ints H ov o) (h : PaOk gs rs) (hp : Pre gs.length o) :
    CallB Try.prog B 69 [Pav gv rv, ov] H (fun v H' => v = VU ((brkO gs rs o : Nat) : Int) ∧ Keep H H') := by
  have h1 := h.n1
  have h7 := h.n7
  have hm := h.m
  have hSb := seatL_bd hp h7
  refine CV.enter callees false rfl Try.func69 rfl (by kernel_rfl) (Nat.le_of_ble_eq_true rfl) hB ?_
  repeat' first
    | refine CO.cons rfl ?_
    | refine CV.seq ?_
    | refine CV.region callees ?_
    | fail
  refine ⟨(by simp only [notTuple]), ?_⟩
  rw [boxP hg.cells.1 hr.cells.1]
  generalize hs0 : Heap.new H _ = H0
  have hg0 := new_get hs0
  have k0 := new_keep hs0
  have n0 := new_n hs0
  obtain ⟨b0, hbn0⟩ : ∃ b, Heap.n H = b := ⟨_, rfl⟩
  rw [hbn0] at hg0 n0 ⊢
  have hg0' := hg.keep k0
  repeat' first
    | refine CO.cons rfl ?_
    | refine CO.nil ?_
    | refine CV.seq ?_
    | refine CV.region callees ?_
    | fail
  refine CV.mX callees (by decide +kernel) [(1, []), (2, []), (3, []), (0, [2]), (4, []), (5, []), (6, []), (7, []), (8, [])] (by kernel_rfl) ?_
  repeat' first
    | refine CR.cons ?_
    | (refine ⟨_, fS foP0 (by decide), ?_⟩)
    | (refine ⟨_, cell_load ag22g hg0 rfl, ?_⟩)
    | fail
  refine (asked_spec (by omega)).mono ?_
  rintro v Ha ⟨rfl, ka⟩
  have la := ka.1
  have hga := (ka.2 b0 (by omega)).trans hg0
  repeat' first
    | refine CR.cons ?_
    | (refine ⟨_, cell_load ag22g hga rfl, ?_⟩)
    | (refine ⟨(rfl : _ = gv), ?_⟩)
    | (refine ⟨hgs, ?_⟩)
    | fail
  refine (seated_spec (by omega) (hg0'.keep ka) ((ho.keep k0).keep ka) h7 hp (fun i hi => ⟨(h.gk.ok i hi).ra, (h.gk.ok i hi).ra'⟩)).mono ?_
  rintro v Hb ⟨rfl, kb⟩
  have lb := kb.1
  repeat' first
    | refine CR.cons ?_
    | (refine ⟨_, _, al144, ?_⟩)
    | fail
  generalize hs1 : Heap.new Hb _ = H1
  have hg1 := new_get hs1
  have k1 := new_keep hs1
  have n1 := new_n hs1
  obtain ⟨b1, hbn1⟩ : ∃ b, Heap.n Hb = b := ⟨_, rfl⟩
  rw [hbn1] at hg1 n1 ⊢
  repeat' first
    | refine CR.cons ?_
    | (refine ⟨_, _, al147, ?_⟩)
    | fail
  generalize hs2 : Heap.new H1 _ = H2
  have hg2 := new_get hs2
  have k2 := new_keep hs2
  have n2 := new_n hs2
  obtain ⟨b2, hbn2⟩ : ∃ b, Heap.n H1 = b := ⟨_, rfl⟩
  rw [hbn2] at hg2 n2 ⊢
  have hg12 := (k2.2 b1 (by omega)).trans hg1
  repeat' first
    | fail
  refine ⟨_, _, st144 hg12, by omega, ?_⟩
  generalize hsc : Heap.set H2 b1 _ = Hc
  have hgc : Hc.get b1 = some (.cells (askL) 144 1) := set_get hsc
  have nc := set_n hsc
  have oc := set_old hsc
  have hg2c := (oc b2 (by omega)).trans hg2
  repeat' first
    | refine CR.cons ?_
    | fail
  refine ⟨_, _, st147 rfl rfl seatL_len rankL_len hg2c, by omega, ?_⟩
  generalize hsd : Heap.set Hc b2 _ = Hd
  have hgd : Hd.get b2 = some (.cells (Rwl gs.length (seatL o) (rankL gs o)) 147 1) := set_get hsd
  have nd := set_n hsd
  have od := set_old hsd
  have hAd := (od b1 (by omega)).trans hgc
  have kd : Keep Hb Hd := keep_put (keep_put (k1.trans k2) (by omega) oc nc) (by omega) od nd
  have k0d : Keep H Hd := ((k0.trans ka).trans kb).trans kd
  have ld := kd.1
  have hPd := (kd.2 b0 (by omega)).trans ((kb.2 b0 (by omega)).trans hga)
  have hrd := hr.keep k0d
  repeat' first
    | refine CO.cons rfl ?_
    | refine CO.nil ?_
    | refine CV.seq ?_
    | refine CV.region callees ?_
    | refine CV.block ?_
    | refine CR.nil ?_
    | (refine ⟨_, fS foP1 (by decide), ?_⟩)
    | (refine ⟨_, cell_load ag23r hPd rfl, ?_⟩)
    | (refine ⟨_, rs_len hrd, ?_⟩)
    | fail
  refine CV.loopc ?_
  refine WCv.rounds callees false (α := Nat × Nat) (fun (i, N) => [(2, .pointer (some ⟨b0, 0, none⟩)), (5, VU (N : Int)), (6, .pointer (some ⟨b1, 0, none⟩)), (7, .pointer (some ⟨b2, 0, none⟩)), (16, rv), (17, VI rs.length), (18, VI i)]) (fun (i, N) Hz => i ≤ rs.length ∧ N = brkN gs.length (seatL o) (rankL gs o) rs i ∧ Hz.get b1 = some (.cells askL 144 1) ∧ Hz.get b2 = some (.cells (Rwl gs.length (seatL o) (rankL gs o)) 147 1) ∧ Hz.get b0 = some (.cells (Pal gv rv) 25 1) ∧ Keep H Hz ∧ b2 < Hz.n) (fun (i, N) => rs.length - i) (0, 0) (by repeat' first | exact trivial | refine ⟨rfl, ?_⟩ | refine ⟨slot_int (by (try simp only [Int.toNat_natCast]); omega), ?_⟩) ?_ ?_
  · exact ⟨by omega, rfl, hAd, hgd, hPd, k0d, by omega⟩
  rintro ⟨i, N⟩ Hx ⟨hi, hN, hAx, hWx, hPx, kx, lx2⟩ hBx
  subst hN
  have lx := kx.1
  have l0d := k0d.1
  have hrx := hr.keep kx
  by_cases hi2 : i < rs.length
  · repeat' first
      | refine CO.cons rfl ?_
      | refine CO.nil ?_
      | refine CV.seq ?_
      | refine CV.region callees ?_
      | refine CV.cond ?_
      | refine CV.block ?_
      | refine CV.skip ?_
      | (refine ⟨_, rs_addr hrx (by omega) (by omega), ?_⟩)
      | (refine ⟨_, rs_load hrx hi2, ?_⟩)
      | (refine ⟨_, _, al81, ?_⟩)
      | (refine ⟨fun _ => ?_, fun _ => ?_⟩ <;> first | (exfalso; omega) | skip)
      | fail
    generalize hs4 : Heap.new Hx _ = H4
    have hg4 := new_get hs4
    have k4 := new_keep hs4
    have n4 := new_n hs4
    obtain ⟨b4, hbn4⟩ : ∃ b, Heap.n Hx = b := ⟨_, rfl⟩
    rw [hbn4] at hg4 n4 ⊢
    repeat' first
      | fail
    refine ⟨_, _, st81 hg4, by omega, ?_⟩
    generalize hs5 : Heap.set H4 b4 _ = H5
    have hg5 : H5.get b4 = some (.cells (Rul rs[i]!) 81 1) := set_get hs5
    have n5 := set_n hs5
    have o5 := set_old hs5
    have k5 : Keep Hx H5 := keep_put k4 (by omega) o5 n5
    have l5 := k5.1
    have hA5 := (k5.2 b1 (by omega)).trans hAx
    have hW5 := (k5.2 b2 (by omega)).trans hWx
    have hP5 := (k5.2 b0 (by omega)).trans hPx
    obtain ⟨c1, c2, c3, c4, c5, c6, c7, c8⟩ := h.rk i hi2
    have hN1 : brkN gs.length (seatL o) (rankL gs o) rs i < 2 ^ 64 := Nat.lt_of_lt_of_le (brkN_lt i) (Nat.pow_le_pow_right (by decide) (by omega))
    have hI1 : 2 ^ (i : Int).toNat < 2 ^ 64 := Nat.pow_lt_pow_right (by decide) (by omega)
    have hIt : (i : Int).toNat = i := by omega
    rcases hri : rs[i]! with ⟨kd, a, b, wt⟩
    rw [hri] at hg5 c1 c2 c3 c4 c5 c6
    replace c1 : 1 ≤ kd := c1
    replace c2 : kd ≤ 6 := c2
    replace c3 : kd ≤ 5 → 0 ≤ a ∧ a < (gs.length : Int) := c3
    replace c5 : kd ≤ 3 → 0 ≤ b ∧ b < (gs.length : Int) ∧ a ≠ b := c5
    rcases (show kd = 1 ∨ kd = 2 ∨ kd = 3 ∨ kd = 4 ∨ kd = 5 ∨ kd = 6 by omega) with rfl | rfl | rfl | rfl | rfl | rfl
    · repeat' first
        | refine CO.cons rfl ?_
        | refine CO.nil ?_
        | refine CV.seq ?_
        | refine CV.draw callees (by decide +kernel) ?_
        | refine CH.cons rfl ?_
        | refine CH.nil ?_
        | (refine ⟨_, fS foR0 (by decide), ?_⟩)
        | (refine ⟨_, cell_load ag3 hg5 rfl, ?_⟩)
        | (refine ⟨_, cell_load ag143 hA5 rfl, ?_⟩)
        | (refine ⟨_, ld147 seatL_len rankL_len hW5, ?_⟩)
        | (refine ⟨_, ld81 hg5, ?_⟩)
        | fail
      refine (isBefore_spec (by omega) seatL_len ⟨by (show 0 ≤ a); omega, by (show a < 7); omega⟩ ⟨by (show 0 ≤ b); omega, by (show b < 7); omega⟩).mono ?_
      have hkp : keepN gs.length (seatL o) (rankL gs o) rs[i]! = decide ((seatL o)[a.toNat]! < (seatL o)[b.toNat]!) := by rw [hri]; rfl
      generalize (decide ((seatL o)[a.toNat]! < (seatL o)[b.toNat]!)) = c at hkp ⊢
      rintro v H6 ⟨rfl, k6⟩
      cases c
      · repeat' first
          | refine CO.cons rfl ?_
          | refine CO.nil ?_
          | refine CV.region callees ?_
          | refine CV.cond ?_
          | refine CH.cons rfl ?_
          | refine CH.nil ?_
          | refine ⟨(⟨by omega, by omega⟩ : inI64 _), ?_⟩
          | (refine ⟨_, fun tm ha => shlU rfl rfl (ev_tmp ha rfl) (by omega) (by omega), ?_⟩)
          | (refine ⟨_, fun tm ha => orU rfl (ev_tmp ha rfl) (ev_tmp ha rfl) hN1 hI1, ?_⟩)
          | fail
        refine ⟨(i + 1, setB (brkN gs.length (seatL o) (rankL gs o) rs i) (i : Int).toNat), (by repeat' first | exact trivial | refine ⟨rfl, ?_⟩ | refine ⟨slot_int (by (try simp only [Int.toNat_natCast]); omega), ?_⟩), (by (try dsimp only); omega), ?_⟩
        first
          | exact ⟨by omega, by simp only [brkN, hkp, hIt]; rfl, hA5, hW5, hP5, kx.trans k5, by omega⟩
          | exact ⟨by omega, by simp only [brkN, hkp, hIt]; rfl, (k6.2 b1 (by omega)).trans hA5, (k6.2 b2 (by omega)).trans hW5, (k6.2 b0 (by omega)).trans hP5, (kx.trans k5).trans k6, by have := k6.1; omega⟩
      · repeat' first
          | refine CO.cons rfl ?_
          | refine CO.nil ?_
          | refine CV.region callees ?_
          | refine CV.cond ?_
          | refine CV.skip ?_
          | refine CH.cons rfl ?_
          | refine CH.nil ?_
          | refine ⟨(⟨by omega, by omega⟩ : inI64 _), ?_⟩
          | fail
        refine ⟨(i + 1, brkN gs.length (seatL o) (rankL gs o) rs i), (by repeat' first | exact trivial | refine ⟨rfl, ?_⟩ | refine ⟨slot_int (by (try simp only [Int.toNat_natCast]); omega), ?_⟩), (by (try dsimp only); omega), ?_⟩
        first
          | exact ⟨by omega, by simp only [brkN, hkp, hIt]; rfl, hA5, hW5, hP5, kx.trans k5, by omega⟩
          | exact ⟨by omega, by simp only [brkN, hkp, hIt]; rfl, (k6.2 b1 (by omega)).trans hA5, (k6.2 b2 (by omega)).trans hW5, (k6.2 b0 (by omega)).trans hP5, (kx.trans k5).trans k6, by have := k6.1; omega⟩
    · repeat' first
        | refine CO.cons rfl ?_
        | refine CO.nil ?_
        | refine CV.seq ?_
        | refine CV.draw callees (by decide +kernel) ?_
        | refine CH.cons rfl ?_
        | refine CH.nil ?_
        | (refine ⟨_, fS foR0 (by decide), ?_⟩)
        | (refine ⟨_, cell_load ag3 hg5 rfl, ?_⟩)
        | (refine ⟨_, cell_load ag143 hA5 rfl, ?_⟩)
        | (refine ⟨_, ld147 seatL_len rankL_len hW5, ?_⟩)
        | (refine ⟨_, ld81 hg5, ?_⟩)
        | fail
      refine (isBeside_spec (by omega) seatL_len hSb ⟨by (show 0 ≤ a); omega, by (show a < 7); omega⟩ ⟨by (show 0 ≤ b); omega, by (show b < 7); omega⟩).mono ?_
      have hkp : keepN gs.length (seatL o) (rankL gs o) rs[i]! = decide ((seatL o)[a.toNat]! - (seatL o)[b.toNat]! = 1 ∨ (seatL o)[a.toNat]! - (seatL o)[b.toNat]! = -1) := by rw [hri]; rfl
      generalize (decide ((seatL o)[a.toNat]! - (seatL o)[b.toNat]! = 1 ∨ (seatL o)[a.toNat]! - (seatL o)[b.toNat]! = -1)) = c at hkp ⊢
      rintro v H6 ⟨rfl, k6⟩
      cases c
      · repeat' first
          | refine CO.cons rfl ?_
          | refine CO.nil ?_
          | refine CV.region callees ?_
          | refine CV.cond ?_
          | refine CH.cons rfl ?_
          | refine CH.nil ?_
          | refine ⟨(⟨by omega, by omega⟩ : inI64 _), ?_⟩
          | (refine ⟨_, fun tm ha => shlU rfl rfl (ev_tmp ha rfl) (by omega) (by omega), ?_⟩)
          | (refine ⟨_, fun tm ha => orU rfl (ev_tmp ha rfl) (ev_tmp ha rfl) hN1 hI1, ?_⟩)
          | fail
        refine ⟨(i + 1, setB (brkN gs.length (seatL o) (rankL gs o) rs i) (i : Int).toNat), (by repeat' first | exact trivial | refine ⟨rfl, ?_⟩ | refine ⟨slot_int (by (try simp only [Int.toNat_natCast]); omega), ?_⟩), (by (try dsimp only); omega), ?_⟩
        first
          | exact ⟨by omega, by simp only [brkN, hkp, hIt]; rfl, hA5, hW5, hP5, kx.trans k5, by omega⟩
          | exact ⟨by omega, by simp only [brkN, hkp, hIt]; rfl, (k6.2 b1 (by omega)).trans hA5, (k6.2 b2 (by omega)).trans hW5, (k6.2 b0 (by omega)).trans hP5, (kx.trans k5).trans k6, by have := k6.1; omega⟩
      · repeat' first
          | refine CO.cons rfl ?_
          | refine CO.nil ?_
          | refine CV.region callees ?_
          | refine CV.cond ?_
          | refine CV.skip ?_
          | refine CH.cons rfl ?_
          | refine CH.nil ?_
          | refine ⟨(⟨by omega, by omega⟩ : inI64 _), ?_⟩
          | fail
        refine ⟨(i + 1, brkN gs.length (seatL o) (rankL gs o) rs i), (by repeat' first | exact trivial | refine ⟨rfl, ?_⟩ | refine ⟨slot_int (by (try simp only [Int.toNat_natCast]); omega), ?_⟩), (by (try dsimp only); omega), ?_⟩
        first
          | exact ⟨by omega, by simp only [brkN, hkp, hIt]; rfl, hA5, hW5, hP5, kx.trans k5, by omega⟩
          | exact ⟨by omega, by simp only [brkN, hkp, hIt]; rfl, (k6.2 b1 (by omega)).trans hA5, (k6.2 b2 (by omega)).trans hW5, (k6.2 b0 (by omega)).trans hP5, (kx.trans k5).trans k6, by have := k6.1; omega⟩
    · repeat' first
        | refine CO.cons rfl ?_
        | refine CO.nil ?_
        | refine CV.seq ?_
        | refine CV.draw callees (by decide +kernel) ?_
        | refine CH.cons rfl ?_
        | refine CH.nil ?_
        | (refine ⟨_, fS foR0 (by decide), ?_⟩)
        | (refine ⟨_, cell_load ag3 hg5 rfl, ?_⟩)
        | (refine ⟨_, cell_load ag143 hA5 rfl, ?_⟩)
        | (refine ⟨_, ld147 seatL_len rankL_len hW5, ?_⟩)
        | (refine ⟨_, ld81 hg5, ?_⟩)
        | fail
      refine (isApart_spec (by omega) seatL_len rankL_len hSb ⟨by (show 0 ≤ a); omega, by (show a < 7); omega⟩ ⟨by (show 0 ≤ b); omega, by (show b < 7); omega⟩).mono ?_
      have hkp : keepN gs.length (seatL o) (rankL gs o) rs[i]! = !decide ((seatL o)[a.toNat]! - (seatL o)[b.toNat]! = 1 ∨ (seatL o)[a.toNat]! - (seatL o)[b.toNat]! = -1) := by rw [hri]; rfl
      generalize (!decide ((seatL o)[a.toNat]! - (seatL o)[b.toNat]! = 1 ∨ (seatL o)[a.toNat]! - (seatL o)[b.toNat]! = -1)) = c at hkp ⊢
      rintro v H6 ⟨rfl, k6⟩
      cases c
      · repeat' first
          | refine CO.cons rfl ?_
          | refine CO.nil ?_
          | refine CV.region callees ?_
          | refine CV.cond ?_
          | refine CH.cons rfl ?_
          | refine CH.nil ?_
          | refine ⟨(⟨by omega, by omega⟩ : inI64 _), ?_⟩
          | (refine ⟨_, fun tm ha => shlU rfl rfl (ev_tmp ha rfl) (by omega) (by omega), ?_⟩)
          | (refine ⟨_, fun tm ha => orU rfl (ev_tmp ha rfl) (ev_tmp ha rfl) hN1 hI1, ?_⟩)
          | fail
        refine ⟨(i + 1, setB (brkN gs.length (seatL o) (rankL gs o) rs i) (i : Int).toNat), (by repeat' first | exact trivial | refine ⟨rfl, ?_⟩ | refine ⟨slot_int (by (try simp only [Int.toNat_natCast]); omega), ?_⟩), (by (try dsimp only); omega), ?_⟩
        first
          | exact ⟨by omega, by simp only [brkN, hkp, hIt]; rfl, hA5, hW5, hP5, kx.trans k5, by omega⟩
          | exact ⟨by omega, by simp only [brkN, hkp, hIt]; rfl, (k6.2 b1 (by omega)).trans hA5, (k6.2 b2 (by omega)).trans hW5, (k6.2 b0 (by omega)).trans hP5, (kx.trans k5).trans k6, by have := k6.1; omega⟩
      · repeat' first
          | refine CO.cons rfl ?_
          | refine CO.nil ?_
          | refine CV.region callees ?_
          | refine CV.cond ?_
          | refine CV.skip ?_
          | refine CH.cons rfl ?_
          | refine CH.nil ?_
          | refine ⟨(⟨by omega, by omega⟩ : inI64 _), ?_⟩
          | fail
        refine ⟨(i + 1, brkN gs.length (seatL o) (rankL gs o) rs i), (by repeat' first | exact trivial | refine ⟨rfl, ?_⟩ | refine ⟨slot_int (by (try simp only [Int.toNat_natCast]); omega), ?_⟩), (by (try dsimp only); omega), ?_⟩
        first
          | exact ⟨by omega, by simp only [brkN, hkp, hIt]; rfl, hA5, hW5, hP5, kx.trans k5, by omega⟩
          | exact ⟨by omega, by simp only [brkN, hkp, hIt]; rfl, (k6.2 b1 (by omega)).trans hA5, (k6.2 b2 (by omega)).trans hW5, (k6.2 b0 (by omega)).trans hP5, (kx.trans k5).trans k6, by have := k6.1; omega⟩
    · repeat' first
        | refine CO.cons rfl ?_
        | refine CO.nil ?_
        | refine CV.seq ?_
        | refine CV.draw callees (by decide +kernel) ?_
        | refine CH.cons rfl ?_
        | refine CH.nil ?_
        | (refine ⟨_, fS foR0 (by decide), ?_⟩)
        | (refine ⟨_, cell_load ag3 hg5 rfl, ?_⟩)
        | (refine ⟨_, cell_load ag143 hA5 rfl, ?_⟩)
        | (refine ⟨_, ld147 seatL_len rankL_len hW5, ?_⟩)
        | (refine ⟨_, ld81 hg5, ?_⟩)
        | fail
      refine (isFirst_spec (by omega) seatL_len ⟨by (show 0 ≤ a); omega, by (show a < 7); omega⟩).mono ?_
      have hkp : keepN gs.length (seatL o) (rankL gs o) rs[i]! = decide ((seatL o)[a.toNat]! = 0) := by rw [hri]; rfl
      generalize (decide ((seatL o)[a.toNat]! = 0)) = c at hkp ⊢
      rintro v H6 ⟨rfl, k6⟩
      cases c
      · repeat' first
          | refine CO.cons rfl ?_
          | refine CO.nil ?_
          | refine CV.region callees ?_
          | refine CV.cond ?_
          | refine CH.cons rfl ?_
          | refine CH.nil ?_
          | refine ⟨(⟨by omega, by omega⟩ : inI64 _), ?_⟩
          | (refine ⟨_, fun tm ha => shlU rfl rfl (ev_tmp ha rfl) (by omega) (by omega), ?_⟩)
          | (refine ⟨_, fun tm ha => orU rfl (ev_tmp ha rfl) (ev_tmp ha rfl) hN1 hI1, ?_⟩)
          | fail
        refine ⟨(i + 1, setB (brkN gs.length (seatL o) (rankL gs o) rs i) (i : Int).toNat), (by repeat' first | exact trivial | refine ⟨rfl, ?_⟩ | refine ⟨slot_int (by (try simp only [Int.toNat_natCast]); omega), ?_⟩), (by (try dsimp only); omega), ?_⟩
        first
          | exact ⟨by omega, by simp only [brkN, hkp, hIt]; rfl, hA5, hW5, hP5, kx.trans k5, by omega⟩
          | exact ⟨by omega, by simp only [brkN, hkp, hIt]; rfl, (k6.2 b1 (by omega)).trans hA5, (k6.2 b2 (by omega)).trans hW5, (k6.2 b0 (by omega)).trans hP5, (kx.trans k5).trans k6, by have := k6.1; omega⟩
      · repeat' first
          | refine CO.cons rfl ?_
          | refine CO.nil ?_
          | refine CV.region callees ?_
          | refine CV.cond ?_
          | refine CV.skip ?_
          | refine CH.cons rfl ?_
          | refine CH.nil ?_
          | refine ⟨(⟨by omega, by omega⟩ : inI64 _), ?_⟩
          | fail
        refine ⟨(i + 1, brkN gs.length (seatL o) (rankL gs o) rs i), (by repeat' first | exact trivial | refine ⟨rfl, ?_⟩ | refine ⟨slot_int (by (try simp only [Int.toNat_natCast]); omega), ?_⟩), (by (try dsimp only); omega), ?_⟩
        first
          | exact ⟨by omega, by simp only [brkN, hkp, hIt]; rfl, hA5, hW5, hP5, kx.trans k5, by omega⟩
          | exact ⟨by omega, by simp only [brkN, hkp, hIt]; rfl, (k6.2 b1 (by omega)).trans hA5, (k6.2 b2 (by omega)).trans hW5, (k6.2 b0 (by omega)).trans hP5, (kx.trans k5).trans k6, by have := k6.1; omega⟩
    · repeat' first
        | refine CO.cons rfl ?_
        | refine CO.nil ?_
        | refine CV.seq ?_
        | refine CV.draw callees (by decide +kernel) ?_
        | refine CH.cons rfl ?_
        | refine CH.nil ?_
        | (refine ⟨_, fS foR0 (by decide), ?_⟩)
        | (refine ⟨_, cell_load ag3 hg5 rfl, ?_⟩)
        | (refine ⟨_, cell_load ag143 hA5 rfl, ?_⟩)
        | (refine ⟨_, ld147 seatL_len rankL_len hW5, ?_⟩)
        | (refine ⟨_, ld81 hg5, ?_⟩)
        | fail
      refine (isLast_spec (by omega) seatL_len ⟨by omega, by omega⟩ ⟨by (show 0 ≤ a); omega, by (show a < 7); omega⟩).mono ?_
      have hkp : keepN gs.length (seatL o) (rankL gs o) rs[i]! = decide ((seatL o)[a.toNat]! = (gs.length : Int) - 1) := by rw [hri]; rfl
      generalize (decide ((seatL o)[a.toNat]! = (gs.length : Int) - 1)) = c at hkp ⊢
      rintro v H6 ⟨rfl, k6⟩
      cases c
      · repeat' first
          | refine CO.cons rfl ?_
          | refine CO.nil ?_
          | refine CV.region callees ?_
          | refine CV.cond ?_
          | refine CH.cons rfl ?_
          | refine CH.nil ?_
          | refine ⟨(⟨by omega, by omega⟩ : inI64 _), ?_⟩
          | (refine ⟨_, fun tm ha => shlU rfl rfl (ev_tmp ha rfl) (by omega) (by omega), ?_⟩)
          | (refine ⟨_, fun tm ha => orU rfl (ev_tmp ha rfl) (ev_tmp ha rfl) hN1 hI1, ?_⟩)
          | fail
        refine ⟨(i + 1, setB (brkN gs.length (seatL o) (rankL gs o) rs i) (i : Int).toNat), (by repeat' first | exact trivial | refine ⟨rfl, ?_⟩ | refine ⟨slot_int (by (try simp only [Int.toNat_natCast]); omega), ?_⟩), (by (try dsimp only); omega), ?_⟩
        first
          | exact ⟨by omega, by simp only [brkN, hkp, hIt]; rfl, hA5, hW5, hP5, kx.trans k5, by omega⟩
          | exact ⟨by omega, by simp only [brkN, hkp, hIt]; rfl, (k6.2 b1 (by omega)).trans hA5, (k6.2 b2 (by omega)).trans hW5, (k6.2 b0 (by omega)).trans hP5, (kx.trans k5).trans k6, by have := k6.1; omega⟩
      · repeat' first
          | refine CO.cons rfl ?_
          | refine CO.nil ?_
          | refine CV.region callees ?_
          | refine CV.cond ?_
          | refine CV.skip ?_
          | refine CH.cons rfl ?_
          | refine CH.nil ?_
          | refine ⟨(⟨by omega, by omega⟩ : inI64 _), ?_⟩
          | fail
        refine ⟨(i + 1, brkN gs.length (seatL o) (rankL gs o) rs i), (by repeat' first | exact trivial | refine ⟨rfl, ?_⟩ | refine ⟨slot_int (by (try simp only [Int.toNat_natCast]); omega), ?_⟩), (by (try dsimp only); omega), ?_⟩
        first
          | exact ⟨by omega, by simp only [brkN, hkp, hIt]; rfl, hA5, hW5, hP5, kx.trans k5, by omega⟩
          | exact ⟨by omega, by simp only [brkN, hkp, hIt]; rfl, (k6.2 b1 (by omega)).trans hA5, (k6.2 b2 (by omega)).trans hW5, (k6.2 b0 (by omega)).trans hP5, (kx.trans k5).trans k6, by have := k6.1; omega⟩
    · repeat' first
        | refine CO.cons rfl ?_
        | refine CO.nil ?_
        | refine CV.seq ?_
        | refine CV.draw callees (by decide +kernel) ?_
        | refine CH.cons rfl ?_
        | refine CH.nil ?_
        | (refine ⟨_, fS foR0 (by decide), ?_⟩)
        | (refine ⟨_, cell_load ag3 hg5 rfl, ?_⟩)
        | (refine ⟨_, cell_load ag143 hA5 rfl, ?_⟩)
        | (refine ⟨_, ld147 seatL_len rankL_len hW5, ?_⟩)
        | (refine ⟨_, ld81 hg5, ?_⟩)
        | fail
      refine (isByRank_spec (by omega) seatL_len rankL_len h1 h7).mono ?_
      have hkp : keepN gs.length (seatL o) (rankL gs o) rs[i]! = downR (rankL gs o) gs.length := by rw [hri]; rfl
      generalize (downR (rankL gs o) gs.length) = c at hkp ⊢
      rintro v H6 ⟨rfl, k6⟩
      cases c
      · repeat' first
          | refine CO.cons rfl ?_
          | refine CO.nil ?_
          | refine CV.region callees ?_
          | refine CV.cond ?_
          | refine CH.cons rfl ?_
          | refine CH.nil ?_
          | refine ⟨(⟨by omega, by omega⟩ : inI64 _), ?_⟩
          | (refine ⟨_, fun tm ha => shlU rfl rfl (ev_tmp ha rfl) (by omega) (by omega), ?_⟩)
          | (refine ⟨_, fun tm ha => orU rfl (ev_tmp ha rfl) (ev_tmp ha rfl) hN1 hI1, ?_⟩)
          | fail
        refine ⟨(i + 1, setB (brkN gs.length (seatL o) (rankL gs o) rs i) (i : Int).toNat), (by repeat' first | exact trivial | refine ⟨rfl, ?_⟩ | refine ⟨slot_int (by (try simp only [Int.toNat_natCast]); omega), ?_⟩), (by (try dsimp only); omega), ?_⟩
        first
          | exact ⟨by omega, by simp only [brkN, hkp, hIt]; rfl, hA5, hW5, hP5, kx.trans k5, by omega⟩
          | exact ⟨by omega, by simp only [brkN, hkp, hIt]; rfl, (k6.2 b1 (by omega)).trans hA5, (k6.2 b2 (by omega)).trans hW5, (k6.2 b0 (by omega)).trans hP5, (kx.trans k5).trans k6, by have := k6.1; omega⟩
      · repeat' first
          | refine CO.cons rfl ?_
          | refine CO.nil ?_
          | refine CV.region callees ?_
          | refine CV.cond ?_
          | refine CV.skip ?_
          | refine CH.cons rfl ?_
          | refine CH.nil ?_
          | refine ⟨(⟨by omega, by omega⟩ : inI64 _), ?_⟩
          | fail
        refine ⟨(i + 1, brkN gs.length (seatL o) (rankL gs o) rs i), (by repeat' first | exact trivial | refine ⟨rfl, ?_⟩ | refine ⟨slot_int (by (try simp only [Int.toNat_natCast]); omega), ?_⟩), (by (try dsimp only); omega), ?_⟩
        first
          | exact ⟨by omega, by simp only [brkN, hkp, hIt]; rfl, hA5, hW5, hP5, kx.trans k5, by omega⟩
          | exact ⟨by omega, by simp only [brkN, hkp, hIt]; rfl, (k6.2 b1 (by omega)).trans hA5, (k6.2 b2 (by omega)).trans hW5, (k6.2 b0 (by omega)).trans hP5, (kx.trans k5).trans k6, by have := k6.1; omega⟩
  obtain rfl : i = rs.length := by omega
  repeat' first
    | refine CO.cons rfl ?_
    | refine CO.nil ?_
    | refine CV.seq ?_
    | refine CV.region callees ?_
    | refine CV.cond ?_
    | refine CV.exit ?_
    | refine CV.ret ?_
    | (refine ⟨fun _ => ?_, fun _ => ?_⟩ <;> first | (exfalso; omega) | skip)
    | fail
  exact ⟨rfl, rfl, kx⟩
end Go.Proofs.Ytlamceokhbigaaa

