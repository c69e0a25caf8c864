
/- Water that is poured, and heated. -/
import Derived.Test.YtglkphjjinmgmaaWfh
set_option linter.unusedVariables false
set_option linter.unusedSimpArgs false
namespace Go.Proofs.Ytglkphjjinmgmaa
open Go.AI
theorem mul_bd {a b A B : Int} (h0 : 0 ≤ a) (h1 : a ≤ A) (h2 : 0 ≤ b) (h3 : b ≤ B) : 0 ≤ a * b ∧ a * b ≤ A * B :=
  ⟨Int.mul_nonneg h0 h2, Int.mul_le_mul h1 h3 h2 (Int.le_trans h0 h1)⟩
/-- Rounded at an end. -/
def rnd (n p : Int) (e : Int) : Int := if e = 1 then (n + (p - 1)) / p else n / p
set_option maxRecDepth 100000 in
theorem rounded_spec {B : Nat} {H : Heap} {n p e : Int} (hB : B ≤ H.n) (hn : 0 ≤ n) (hn1 : n ≤ 1000000000000000) (hp : 1 ≤ p) (hp1 : p ≤ 1000000000) :
    CallB Try.prog B 105 [VJ n, VJ p, VJ e] H (fun r H' => r = VJ (rnd n p e) ∧ Keep H H') := by
  have key : ∀ x : Int, 0 ≤ x → x ≤ 2000000000000000 → IntKind.wrap .i64 (x.tdiv p) = x / p := by
    intro x h0 h1
    rw [Int.tdiv_eq_ediv_of_nonneg h0]
    have h2 : 0 ≤ x / p := Int.ediv_nonneg h0 (by omega)
    have h3 : x / p ≤ x := Int.ediv_le_self _ h0
    exact wrapI (by omega) (by omega)
  refine CV.enter callees false rfl Try.func105 rfl (by kernel_rfl) (Nat.le_of_ble_eq_true rfl) hB ?_
  repeat' first
    | refine CO.cons rfl ?_
    | refine CO.nil ?_
    | refine CV.seq ?_
    | refine CV.region callees ?_
    | refine CV.cond ?_
    | refine CV.skip ?_
    | refine CV.ret ?_
    | refine ⟨(⟨by omega, by omega⟩ : inI64 _), ?_⟩
    | (refine ⟨_, fun tm ha => step1_quo rfl (ev_tmp ha rfl) (ev_tmp ha rfl) (by omega), ?_⟩)
    | (refine ⟨fun _ => ?_, fun _ => ?_⟩ <;> first | (exfalso; omega) | skip)
    | fail
  · exact ⟨rfl, by rw [key _ (by omega) (by omega), rnd, if_pos (by omega)], Keep.refl _⟩
  · exact ⟨rfl, by rw [key _ (by omega) (by omega), rnd, if_neg (by omega)], Keep.refl _⟩
theorem rnd_bd {n p e c : Int} (hn : 0 ≤ n) (hp : 1 ≤ p) (hc : n ≤ c * p) : 0 ≤ rnd n p e ∧ rnd n p e ≤ c := by
  have hp0 : 0 < p := by omega
  unfold rnd
  split
  · refine ⟨Int.ediv_nonneg (by omega) (by omega), ?_⟩
    have : n + (p - 1) < (c + 1) * p := by rw [Int.add_mul]; omega
    have := Int.ediv_lt_of_lt_mul hp0 this
    omega
  · exact ⟨Int.ediv_nonneg hn (by omega), Int.ediv_le_of_le_mul hp0 hc⟩
/-- Water behind a pour. -/
def pourN (w : Wt) (p : Po) : Wt := if 0 < p.la then ⟨w.la + p.la, rnd (w.w0 * w.la + p.wm * p.la) (w.la + p.la) 0, rnd (w.w1 * w.la + p.wm * p.la) (w.la + p.la) 1⟩ else ⟨w.la + p.la, w.w0, w.w1⟩
/-- Water behind a minute. -/
def hotS (k : Ke) (w h la : Int) : Int := w * la * 1000000 + h * k.ga * 1000000 - (w - k.ro) * k.lo * la
def hotN (k : Ke) (w : Wt) (h : Int × Int) : Wt := ⟨w.la, min (rnd (hotS k w.w0 h.1 w.la) (w.la * 1000000) 0) 1000, min (rnd (hotS k w.w1 h.2 w.la) (w.la * 1000000) 1) 1000⟩
/-- Water that may be. -/
structure WOk (w : Wt) : Prop where
  la : 1 ≤ w.la
  la' : w.la ≤ 50
  w0 : 0 ≤ w.w0
  w0' : w.w0 ≤ 1000
  w1 : 0 ≤ w.w1
  w1' : w.w1 ≤ 1000
theorem foW0 : fieldOff Try.prog 138 0 = some (0, 1) := by kernel_rfl
theorem foW1 : fieldOff Try.prog 138 1 = some (1, 2) := by kernel_rfl
theorem ag117 : isAggB Try.prog 138 = some true := by kernel_rfl
theorem sz117 : sizeB Try.prog 138 = some 3 := by kernel_rfl
theorem zc117 : zeroCells Try.prog 138 = some (Wtl ⟨0, 0, 0⟩) := by kernel_rfl
theorem al117 {H : Heap} : sAlloc Try.prog H 138 = some (.pointer (some ⟨H.n, 0, none⟩), H.new (.cells (Wtl ⟨0, 0, 0⟩) 138 1), H.n) := alloc_of zc117
theorem st117 {H : Heap} {b k : Nat} {x y : Wt} {e : TypeId} (hg : H.get b = some (.cells (Wtl x) e (k + 1))) : astore Try.prog 138 H (Wtv y) (.pointer (some ⟨b, 0, none⟩)) = some (H.set b (.cells (Wtl y) e (k + 1)), b) := store_all (vs := Wtl y) hg rfl sz117 rfl
theorem ld117 {H : Heap} {b : Nat} {x : Wt} {e : TypeId} {k : Nat} (hg : H.get b = some (.cells (Wtl x) e k)) : aload Try.prog 138 H (.pointer (some ⟨b, 0, none⟩)) = some (Wtv x) := agg_load ag117 sz117 hg (Nat.le_refl _)
theorem ixA {x y : Int} : aindex Try.prog 104 (Hv (x, y)) (VJ 0) = some (VJ x) := ix87a
theorem ixB {x y : Int} : aindex Try.prog 104 (Hv (x, y)) (VJ 1) = some (VJ y) := ix87b
theorem mul0 {a b A B : Int} (h1 : -A ≤ a) (h2 : a ≤ A) (h3 : 0 ≤ b) (h4 : b ≤ B) (hA : 0 ≤ A) : -(A * B) ≤ a * b ∧ a * b ≤ A * B := by
  have e1 : a * b ≤ A * b := Int.mul_le_mul_of_nonneg_right h2 h3
  have e2 : A * b ≤ A * B := Int.mul_le_mul_of_nonneg_left h4 hA
  have e3 : -A * b ≤ a * b := Int.mul_le_mul_of_nonneg_right h1 h3
  have e4 : -A * b = -(A * b) := Int.neg_mul _ _
  omega
set_option maxHeartbeats 4000000 in
set_option maxRecDepth 100000 in
theorem poured_spec {B : Nat} {H : Heap} {w : Wt} {p : Po} (hB : B ≤ H.n) (hw : WOk w) (hp0 : 0 ≤ p.wm) (hp1 : p.wm ≤ 1000) (hp2 : -50 ≤ p.la) (hp3 : p.la ≤ 50) (hl1 : 1 ≤ w.la + p.la) (hl2 : w.la + p.la ≤ 50) :
    CallB Try.prog B 98 [Wtv w, Pov p] H (fun r H' => r = Wtv (pourN w p) ∧ Keep H H') := by
  obtain ⟨a1, a2, a3, a4, a5, a6⟩ := hw
  refine CV.enter callees false rfl Try.func98 rfl (by kernel_rfl) (Nat.le_of_ble_eq_true rfl) hB ?_
  repeat' first
    | refine CO.cons rfl ?_
    | refine CV.seq ?_
    | refine CV.region callees ?_
    | fail
  refine ⟨(by simp only [notTuple]), ?_⟩
  rw [boxWt]
  generalize hs0 : Heap.new H _ = H0
  have hg0 := new_get hs0
  have k0 := new_keep hs0
  have n0 := new_n hs0
  obtain ⟨b0, hbn0⟩ : ∃ b, Heap.n H = b := ⟨_, rfl⟩
  rw [hbn0] at hg0 n0 ⊢
  repeat' first
    | refine CO.cons rfl ?_
    | fail
  refine ⟨(by simp only [notTuple]), ?_⟩
  rw [boxPo]
  generalize hs1 : Heap.new H0 _ = H1
  have hg1 := new_get hs1
  have k1 := new_keep hs1
  have n1 := new_n hs1
  obtain ⟨b1, hbn1⟩ : ∃ b, Heap.n H0 = b := ⟨_, rfl⟩
  rw [hbn1] at hg1 n1 ⊢
  repeat' first
    | refine CO.cons rfl ?_
    | refine CO.nil ?_
    | refine CV.seq ?_
    | refine CV.region callees ?_
    | (refine ⟨_, _, al117, ?_⟩)
    | fail
  generalize hs2 : Heap.new H1 _ = H2
  have hg2 := new_get hs2
  have k2 := new_keep hs2
  have n2 := new_n hs2
  obtain ⟨b2, hbn2⟩ : ∃ b, Heap.n H1 = b := ⟨_, rfl⟩
  rw [hbn2] at hg2 n2 ⊢
  have k02 := (k0.trans k1).trans k2
  have hw2 := (k2.2 b0 (by omega)).trans ((k1.2 b0 (by omega)).trans hg0)
  have hp2' := (k2.2 b1 (by omega)).trans hg1
  repeat' first
    | refine CO.cons rfl ?_
    | refine CO.nil ?_
    | refine CV.seq ?_
    | refine CV.region callees ?_
    | refine CV.cond ?_
    | refine CV.skip ?_
    | refine ⟨(⟨by omega, by omega⟩ : inI64 _), ?_⟩
    | (refine ⟨_, fS foW0 (by decide), ?_⟩)
    | (refine ⟨_, fS foO1 (by decide), ?_⟩)
    | (refine ⟨_, cell_load ag3 hw2 rfl, ?_⟩)
    | (refine ⟨_, cell_load ag3 hp2' rfl, ?_⟩)
    | (refine ⟨fun _ => ?_, fun _ => ?_⟩ <;> first | (exfalso; omega) | skip)
    | fail
  · rename_i hpos
    have m0 := mul_bd a3 a4 (show 0 ≤ w.la by omega) a2
    have m1 := mul_bd a5 a6 (show 0 ≤ w.la by omega) a2
    have m2 := mul_bd hp0 hp1 (show 0 ≤ p.la by omega) hp3
    repeat' first
      | refine CO.cons rfl ?_
      | refine CO.nil ?_
      | refine CV.block ?_
      | (refine ⟨_, fS foW1 (by decide), ?_⟩)
      | (refine ⟨_, agg_load ag87 sz87 hw2 (Nat.le_of_ble_eq_true rfl), ?_⟩)
      | fail
    obtain ⟨r0, hr0⟩ : ∃ r, rnd (w.w0 * w.la + p.wm * p.la) (w.la + p.la) 0 = r := ⟨_, rfl⟩
    obtain ⟨r1, hr1⟩ : ∃ r, rnd (w.w1 * w.la + p.wm * p.la) (w.la + p.la) 1 = r := ⟨_, rfl⟩
    refine CV.loopc ?_
    refine WCv.rounds callees false (α := Nat) (fun i => [(2, .pointer (some ⟨b0, 0, none⟩)), (3, .pointer (some ⟨b1, 0, none⟩)), (4, .pointer (some ⟨b2, 0, none⟩)), (5, VJ (w.la + p.la)), (17, Hv (w.w0, w.w1)), (18, VJ i)]) (fun i Hz => i ≤ 2 ∧ Hz.get b0 = some (.cells (Wtl ⟨w.la, if 0 < i then r0 else w.w0, if 1 < i then r1 else w.w1⟩) 138 1) ∧ Hz.get b1 = some (.cells (Pol p) 82 1) ∧ Hz.get b2 = some (.cells (Wtl ⟨0, 0, 0⟩) 138 1) ∧ Keep H Hz ∧ b2 < Hz.n) (fun i => 2 - i) (0) (by repeat' first | exact trivial | refine ⟨rfl, ?_⟩ | refine ⟨slot_int (by (try simp only [Int.toNat_natCast]); omega), ?_⟩) ?_ ?_
    · exact ⟨by omega, hw2, hp2', hg2, k02, by omega⟩
    clear hw2 hp2' hg2
    rintro i Hx ⟨hi, hwx, hpx, hgx, kx, lx⟩ hBx
    by_cases hi2 : i < 2
    · rcases (show i = 0 ∨ i = 1 by omega) with rfl | rfl
      · replace hwx : Hx.get b0 = some (.cells [VJ w.la, VJ w.w0, VJ w.w1] 138 1) := hwx
        repeat' first
          | refine CO.cons rfl ?_
          | refine CO.nil ?_
          | refine CV.seq ?_
          | refine CV.region callees ?_
          | refine CV.cond ?_
          | refine CV.block ?_
          | refine CV.skip ?_
          | refine ⟨(⟨by omega, by omega⟩ : inI64 _), ?_⟩
          | (refine ⟨_, ixA, ?_⟩)
          | (refine ⟨_, fS foW0 (by decide), ?_⟩)
          | (refine ⟨_, fS foO1 (by decide), ?_⟩)
          | (refine ⟨_, fS foO2 (by decide), ?_⟩)
          | (refine ⟨_, cell_load ag3 hwx rfl, ?_⟩)
          | (refine ⟨_, cell_load ag3 hpx rfl, ?_⟩)
          | (refine ⟨fun _ => ?_, fun _ => ?_⟩ <;> first | (exfalso; omega) | skip)
          | fail
        refine (rounded_spec (by omega) (by omega) (by omega) (by omega) (by omega)).mono ?_
        rintro r H4 ⟨rfl, k4⟩
        have l4 := k4.1
        have hw4 := (k4.2 b0 (by omega)).trans hwx
        repeat' first
          | refine CO.cons rfl ?_
          | (refine ⟨_, fS foW1 (by decide), ?_⟩)
          | fail
        refine ⟨_, _, store_row sz3 hw4 (Nat.le_of_ble_eq_true rfl) rfl, by omega, ?_⟩
        generalize hs5 : Heap.set H4 b0 _ = H5
        have hg5 : H5.get b0 = some (.cells (Wtl ⟨w.la, rnd (w.w0 * w.la + p.wm * p.la) (w.la + p.la) 0, w.w1⟩) 138 1) := set_get hs5
        have n5 := set_n hs5
        have o5 := set_old hs5
        rw [hr0] at hg5
        repeat' first
          | refine CO.cons rfl ?_
          | refine CO.nil ?_
          | refine CV.region callees ?_
          | refine ⟨(⟨by omega, by omega⟩ : inI64 _), ?_⟩
          | fail
        refine ⟨(1), (by repeat' first | exact trivial | refine ⟨rfl, ?_⟩ | refine ⟨slot_int (by (try simp only [Int.toNat_natCast]); omega), ?_⟩), (by (try dsimp only); omega), ?_⟩
        exact ⟨by omega, hg5, (o5 b1 (by omega)).trans ((k4.2 b1 (by omega)).trans hpx), (o5 b2 (by omega)).trans ((k4.2 b2 (by omega)).trans hgx), keep_put (kx.trans k4) (by omega) o5 n5, by omega⟩
      · replace hwx : Hx.get b0 = some (.cells [VJ w.la, VJ r0, VJ w.w1] 138 1) := hwx
        repeat' first
          | refine CO.cons rfl ?_
          | refine CO.nil ?_
          | refine CV.seq ?_
          | refine CV.region callees ?_
          | refine CV.cond ?_
          | refine CV.block ?_
          | refine CV.skip ?_
          | refine ⟨(⟨by omega, by omega⟩ : inI64 _), ?_⟩
          | (refine ⟨_, ixB, ?_⟩)
          | (refine ⟨_, fS foW0 (by decide), ?_⟩)
          | (refine ⟨_, fS foO1 (by decide), ?_⟩)
          | (refine ⟨_, fS foO2 (by decide), ?_⟩)
          | (refine ⟨_, cell_load ag3 hwx rfl, ?_⟩)
          | (refine ⟨_, cell_load ag3 hpx rfl, ?_⟩)
          | (refine ⟨fun _ => ?_, fun _ => ?_⟩ <;> first | (exfalso; omega) | skip)
          | fail
        refine (rounded_spec (by omega) (by omega) (by omega) (by omega) (by omega)).mono ?_
        rintro r H4 ⟨rfl, k4⟩
        have l4 := k4.1
        have hw4 := (k4.2 b0 (by omega)).trans hwx
        repeat' first
          | refine CO.cons rfl ?_
          | (refine ⟨_, fS foW1 (by decide), ?_⟩)
          | fail
        refine ⟨_, _, store_row sz3 hw4 (Nat.le_of_ble_eq_true rfl) rfl, by omega, ?_⟩
        generalize hs5 : Heap.set H4 b0 _ = H5
        have hg5 : H5.get b0 = some (.cells (Wtl ⟨w.la, r0, rnd (w.w1 * w.la + p.wm * p.la) (w.la + p.la) 1⟩) 138 1) := set_get hs5
        have n5 := set_n hs5
        have o5 := set_old hs5
        rw [hr1] at hg5
        repeat' first
          | refine CO.cons rfl ?_
          | refine CO.nil ?_
          | refine CV.region callees ?_
          | refine ⟨(⟨by omega, by omega⟩ : inI64 _), ?_⟩
          | fail
        refine ⟨(2), (by repeat' first | exact trivial | refine ⟨rfl, ?_⟩ | refine ⟨slot_int (by (try simp only [Int.toNat_natCast]); omega), ?_⟩), (by (try dsimp only); omega), ?_⟩
        exact ⟨by omega, hg5, (o5 b1 (by omega)).trans ((k4.2 b1 (by omega)).trans hpx), (o5 b2 (by omega)).trans ((k4.2 b2 (by omega)).trans hgx), keep_put (kx.trans k4) (by omega) o5 n5, by omega⟩
    have hie : i = 2 := by omega
    subst hie
    replace hwx : Hx.get b0 = some (.cells [VJ w.la, VJ r0, VJ r1] 138 1) := hwx
    repeat' first
      | refine CO.cons rfl ?_
      | refine CO.nil ?_
      | refine CV.seq ?_
      | refine CV.region callees ?_
      | refine CV.cond ?_
      | refine CV.exit ?_
      | (refine ⟨_, fS foW0 (by decide), ?_⟩)
      | (refine ⟨fun _ => ?_, fun _ => ?_⟩ <;> first | (exfalso; omega) | skip)
      | fail
    refine ⟨_, _, store_row sz3 hwx (Nat.le_of_ble_eq_true rfl) rfl, by omega, ?_⟩
    generalize hs6 : Heap.set Hx b0 _ = H6
    have hg6 : H6.get b0 = some (.cells (Wtl ⟨w.la + p.la, r0, r1⟩) 138 1) := set_get hs6
    have n6 := set_n hs6
    have o6 := set_old hs6
    have hg6' := (o6 b2 (by omega)).trans hgx
    repeat' first
      | refine CO.cons rfl ?_
      | refine CO.nil ?_
      | refine CV.seq ?_
      | refine CV.region callees ?_
      | (refine ⟨_, ld117 hg6, ?_⟩)
      | fail
    refine ⟨_, _, st117 hg6', by omega, ?_⟩
    generalize hs7 : Heap.set H6 b2 _ = H7
    have hg7 : H7.get b2 = some (.cells (Wtl ⟨w.la + p.la, r0, r1⟩) 138 1) := set_get hs7
    have n7 := set_n hs7
    have o7 := set_old hs7
    repeat' first
      | refine CO.nil ?_
      | refine CV.ret ?_
      | fail
    exact ⟨_, ld117 hg7, rfl, by rw [pourN, if_pos hpos, hr0, hr1], keep_put (keep_put kx (by omega) o6 n6) (by omega) o7 n7⟩
  · rename_i hneg
    refine ⟨_, _, store_row sz3 hw2 (Nat.le_of_ble_eq_true rfl) rfl, by omega, ?_⟩
    generalize hs6 : Heap.set H2 b0 _ = H6
    have hg6 : H6.get b0 = some (.cells (Wtl ⟨w.la + p.la, w.w0, w.w1⟩) 138 1) := set_get hs6
    have n6 := set_n hs6
    have o6 := set_old hs6
    have hg6' := (o6 b2 (by omega)).trans hg2
    repeat' first
      | refine CO.cons rfl ?_
      | refine CO.nil ?_
      | refine CV.seq ?_
      | refine CV.region callees ?_
      | (refine ⟨_, ld117 hg6, ?_⟩)
      | fail
    refine ⟨_, _, st117 hg6', by omega, ?_⟩
    generalize hs7 : Heap.set H6 b2 _ = H7
    have hg7 : H7.get b2 = some (.cells (Wtl ⟨w.la + p.la, w.w0, w.w1⟩) 138 1) := set_get hs7
    have n7 := set_n hs7
    have o7 := set_old hs7
    repeat' first
      | refine CO.nil ?_
      | refine CV.ret ?_
      | fail
    exact ⟨_, ld117 hg7, rfl, by rw [pourN, if_neg hneg], keep_put (keep_put k02 (by omega) o6 n6) (by omega) o7 n7⟩
theorem pourN_ok {w : Wt} {p : Po} (hw : WOk w) (hp0 : 0 ≤ p.wm) (hp1 : p.wm ≤ 1000) (hl1 : 1 ≤ w.la + p.la) (hl2 : w.la + p.la ≤ 50) : WOk (pourN w p) ∧ (pourN w p).la = w.la + p.la := by
  obtain ⟨a1, a2, a3, a4, a5, a6⟩ := hw
  unfold pourN
  split
  · rename_i hpos
    have d : 1000 * (w.la + p.la) = 1000 * w.la + 1000 * p.la := Int.mul_add _ _ _
    have e0 : w.w0 * w.la ≤ 1000 * w.la := Int.mul_le_mul_of_nonneg_right a4 (by omega)
    have e1 : w.w1 * w.la ≤ 1000 * w.la := Int.mul_le_mul_of_nonneg_right a6 (by omega)
    have e2 : p.wm * p.la ≤ 1000 * p.la := Int.mul_le_mul_of_nonneg_right hp1 (by omega)
    have z0 : 0 ≤ w.w0 * w.la := Int.mul_nonneg a3 (by omega)
    have z1 : 0 ≤ w.w1 * w.la := Int.mul_nonneg a5 (by omega)
    have z2 : 0 ≤ p.wm * p.la := Int.mul_nonneg hp0 (by omega)
    have b0 := rnd_bd (n := w.w0 * w.la + p.wm * p.la) (p := w.la + p.la) (e := 0) (c := 1000) (by omega) hl1 (by omega)
    have b1 := rnd_bd (n := w.w1 * w.la + p.wm * p.la) (p := w.la + p.la) (e := 1) (c := 1000) (by omega) hl1 (by omega)
    exact ⟨⟨hl1, hl2, b0.1, b0.2, b1.1, b1.2⟩, rfl⟩
  · exact ⟨⟨hl1, hl2, a3, a4, a5, a6⟩, rfl⟩
theorem hotS_bd {k : Ke} {w h la : Int} (hk : KOk k) (h1 : 0 ≤ w) (h2 : w ≤ 1000) (h3 : 1 ≤ la) (h4 : la ≤ 50) (h5 : 0 ≤ h) (h6 : h ≤ 12000) : 0 ≤ hotS k w h la ∧ hotS k w h la ≤ 100000000000000 := by
  obtain ⟨b1, b2, b3, b4, b5, b6, b7, b8, b9, b10, b11, b12, b13, b14⟩ := hk
  have m1 := mul_bd h1 h2 (show 0 ≤ la by omega) h4
  have m2 := mul_bd h5 h6 b11 b12
  have m3 := mul0 (a := w - k.ro) (A := 1000) (by omega) (by omega) b13 b14 (by omega)
  have m4 := mul0 (a := (w - k.ro) * k.lo) (A := 1000000000) (by omega) (by omega) (show 0 ≤ la by omega) h4 (by omega)
  have key : (w - k.ro) * k.lo * la ≤ w * la * 1000000 := by
    have e1 : (w - k.ro) * k.lo ≤ w * 1000000 := by
      by_cases hh : 0 ≤ w - k.ro
      · have := Int.mul_le_mul_of_nonneg_left b14 hh
        omega
      · have : (w - k.ro) * k.lo ≤ 0 := Int.mul_nonpos_of_nonpos_of_nonneg (by omega) b13
        omega
    have e2 := Int.mul_le_mul_of_nonneg_right e1 (show 0 ≤ la by omega)
    have e3 : w * 1000000 * la = w * la * 1000000 := by rw [Int.mul_assoc, Int.mul_comm 1000000 la, ← Int.mul_assoc]
    omega
  unfold hotS
  omega
theorem hotN_ok {k : Ke} {w : Wt} {h : Int × Int} (hw : WOk w) (hk : KOk k) (h1 : 0 ≤ h.1) (h2 : h.1 ≤ 12000) (h3 : 0 ≤ h.2) (h4 : h.2 ≤ 12000) : WOk (hotN k w h) := by
  obtain ⟨a1, a2, a3, a4, a5, a6⟩ := hw
  have s0 := (hotS_bd hk a3 a4 a1 a2 h1 h2).1
  have s1 := (hotS_bd hk a5 a6 a1 a2 h3 h4).1
  have r0 : 0 ≤ rnd (hotS k w.w0 h.1 w.la) (w.la * 1000000) 0 := by unfold rnd; split <;> exact Int.ediv_nonneg (by omega) (by omega)
  have r1 : 0 ≤ rnd (hotS k w.w1 h.2 w.la) (w.la * 1000000) 1 := by unfold rnd; split <;> exact Int.ediv_nonneg (by omega) (by omega)
  exact ⟨a1, a2, by show 0 ≤ min _ _; omega, by show min _ _ ≤ 1000; omega, by show 0 ≤ min _ _; omega, by show min _ _ ≤ 1000; omega⟩
end Go.Proofs.Ytglkphjjinmgmaa

