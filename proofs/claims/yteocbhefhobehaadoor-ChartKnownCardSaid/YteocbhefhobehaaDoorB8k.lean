/- How many partitions there are; which lists are partitions, by the reference. -/
import Derived.Test.YteocbhefhobehaaDoorB5k
set_option linter.unusedVariables false
set_option linter.unusedSimpArgs false
namespace Go.Proofs.YteocbhefhobehaaDoor
open Go.AI
theorem aindex_rows {P : Program} {t e : TypeId} {len s : Nat} (ht : P.underlying t = some (.array len e)) (hs : sizeB P e = some s) (ha : isAggB P e = some true) {l : List Value} {k : Int} {kd : IntKind} (h0 : 0 ≤ k) (h1 : k < len) :
    aindex P t (.agg l.toArray) (.int kd k) = some (.agg ((l.drop (k.toNat * s)).take s).toArray) := by
  simp [aindex, asIdx, ht, hs, h0, h1, apart', ha]
theorem aindex_cell {P : Program} {t e : TypeId} {len : Nat} (ht : P.underlying t = some (.array len e)) (hs : sizeB P e = some 1) (ha : isAggB P e = some false) {l : List Value} {k : Int} {kd : IntKind} {v : Value} (h0 : 0 ≤ k) (h1 : k < len) (hv : l[k.toNat]? = some v) :
    aindex P t (.agg l.toArray) (.int kd k) = some v := by
  simp [aindex, asIdx, ht, hs, h0, h1, apart', ha, hv]
theorem un79 : Tryd.prog.underlying 79 = some (.array 10 77) := by kernel_rfl
theorem un77 : Tryd.prog.underlying 77 = some (.array 10 3) := by kernel_rfl
theorem sz77 : sizeB Tryd.prog 77 = some 10 := by kernel_rfl
theorem ag77 : isAggB Tryd.prog 77 = some true := by kernel_rfl
theorem tab_row {l : List Int} {n : Int} (h0 : 0 ≤ n) (h1 : n < 10) : aindex Tryd.prog 79 (tabV l) (.int .i64 n) = some (.agg ((((l.map VI).drop (n.toNat * 10)).take 10).toArray)) :=
  aindex_rows un79 sz77 ag77 h0 (by omega)
theorem tab_cell {l : List Int} {n k : Int} (hl : l.length = 100) (h0 : 0 ≤ n) (h1 : n < 10) (h2 : 0 ≤ k) (h3 : k < 10) : aindex Tryd.prog 77 (.agg ((((l.map VI).drop (n.toNat * 10)).take 10).toArray)) (.int .i64 k) = some (.int .i64 l[n.toNat * 10 + k.toNat]!) := by
  have hlt : n.toNat * 10 + k.toNat < l.length := by omega
  refine aindex_cell un77 sz3 ag3 h2 (by omega) ?_
  rw [List.getElem?_take_of_lt (by omega), List.getElem?_drop, List.getElem?_map, List.getElem?_eq_getElem hlt, getElem!_pos l _ hlt]
  rfl
theorem endT_len : endT.length = 100 := by decide
theorem partT_len : partT.length = 100 := by decide

def cntR (n : Int) : Int × Int := if n < 1 ∨ 9 < n then (0, 2) else (endT[n.toNat * 10]!, 0)
def partR (n k : Int) : Int × Int := if n < 1 ∨ 9 < n ∨ k < 1 ∨ n < k then (0, 2) else (partT[n.toNat * 10 + k.toNat]!, 0)
def pairV (p : Int × Int) : Value := .tuple #[.int .i64 p.1, .int .i64 p.2]

set_option maxRecDepth 100000 in
theorem count_spec {B : Nat} {H : Heap} {n : Int} (hn : B ≤ H.n) (hb : Base H) :
    CallB Tryd.prog B 31 [.int .i64 n] H (fun r H' => r = pairV (cntR n) ∧ H' = H) := by
  refine CV.enter callees false rfl Tryd.func31 rfl ok31 (Nat.le_of_ble_eq_true rfl) hn ?_
  repeat' first
    | refine CO.cons rfl ?_
    | refine CO.nil ?_
    | refine CV.seq ?_
    | refine CV.region callees ?_
    | refine CV.cond ?_
    | refine CV.block ?_
    | refine CV.skip ?_
    | refine CV.exit ?_
    | refine CV.ret ?_
    | refine CV.scope ?_
    | refine CV.draw callees rfl ?_
    | refine CH.cons rfl ?_
    | refine CH.nil ?_
    | refine CO.consG rfl ?_
    | refine CH.consG rfl ?_
    | refine CG.cons rfl ?_
    | refine CG.nil ?_
    | refine CG.consG rfl ?_
    | refine ⟨(rfl : plain _ = true), ?_⟩
    | refine ⟨(rfl : nilOk _ = some _), ?_⟩
    | refine ⟨_, ints_len (by assumption), ?_⟩
    | refine ⟨_, ints_addr (by assumption) (by omega) (by omega), ?_⟩
    | refine ⟨_, ints_load (by assumption) (by omega) (by omega), ?_⟩
    | refine ⟨(⟨by omega, by omega⟩ : inI64 _), ?_⟩
    | refine ⟨_, fun tm ha => step1_max rfl (ev_tmp ha rfl) (ev_tmp ha rfl), ?_⟩
    | refine ⟨_, fun tm ha => step1_min rfl (ev_tmp ha rfl) (ev_tmp ha rfl), ?_⟩
    | refine CallB.known rfl hb hn ?_
    | refine ⟨_, tab_row (by omega) (by omega), ?_⟩
    | refine ⟨_, tab_cell endT_len (by omega) (by omega) (by omega) (by omega), ?_⟩
    | (refine ⟨fun _ => ?_, fun _ => ?_⟩ <;> first | (exfalso; omega) | skip)
    | fail
  · exact ⟨rfl, by rw [cntR, if_pos (by omega)]; rfl, rfl⟩
  · exact ⟨rfl, by rw [cntR, if_pos (by omega)]; rfl, rfl⟩
  · exact ⟨rfl, by rw [cntR, if_neg (by omega)]; rfl, rfl⟩
set_option maxRecDepth 100000 in
theorem parted_spec {B : Nat} {H : Heap} {n k : Int} (hn : B ≤ H.n) (hb : Base H) :
    CallB Tryd.prog B 33 [.int .i64 n, .int .i64 k] H (fun r H' => r = pairV (partR n k) ∧ H' = H) := by
  refine CV.enter callees false rfl Tryd.func33 rfl ok33 (Nat.le_of_ble_eq_true rfl) hn ?_
  repeat' first
    | refine CO.cons rfl ?_
    | refine CO.nil ?_
    | refine CV.seq ?_
    | refine CV.region callees ?_
    | refine CV.cond ?_
    | refine CV.block ?_
    | refine CV.skip ?_
    | refine CV.exit ?_
    | refine CV.ret ?_
    | refine CV.scope ?_
    | refine CV.draw callees rfl ?_
    | refine CH.cons rfl ?_
    | refine CH.nil ?_
    | refine CO.consG rfl ?_
    | refine CH.consG rfl ?_
    | refine CG.cons rfl ?_
    | refine CG.nil ?_
    | refine CG.consG rfl ?_
    | refine ⟨(rfl : plain _ = true), ?_⟩
    | refine ⟨(rfl : nilOk _ = some _), ?_⟩
    | refine ⟨_, ints_len (by assumption), ?_⟩
    | refine ⟨_, ints_addr (by assumption) (by omega) (by omega), ?_⟩
    | refine ⟨_, ints_load (by assumption) (by omega) (by omega), ?_⟩
    | refine ⟨(⟨by omega, by omega⟩ : inI64 _), ?_⟩
    | refine ⟨_, fun tm ha => step1_max rfl (ev_tmp ha rfl) (ev_tmp ha rfl), ?_⟩
    | refine ⟨_, fun tm ha => step1_min rfl (ev_tmp ha rfl) (ev_tmp ha rfl), ?_⟩
    | refine CallB.known rfl hb hn ?_
    | refine ⟨_, tab_row (by omega) (by omega), ?_⟩
    | refine ⟨_, tab_cell partT_len (by omega) (by omega) (by omega) (by omega), ?_⟩
    | (refine ⟨fun _ => ?_, fun _ => ?_⟩ <;> first | (exfalso; omega) | skip)
    | fail
  · exact ⟨rfl, by rw [partR, if_pos (by omega)]; rfl, rfl⟩
  · exact ⟨rfl, by rw [partR, if_pos (by omega)]; rfl, rfl⟩
  · exact ⟨rfl, by rw [partR, if_pos (by omega)]; rfl, rfl⟩
  · exact ⟨rfl, by rw [partR, if_pos (by omega)]; rfl, rfl⟩
  · exact ⟨rfl, by rw [partR, if_neg (by omega)]; rfl, rfl⟩

def partM : Nat → Int → Int
  | 0, _ => 0
  | n + 1, k => if k < 1 ∨ (n : Int) + 1 < k then 0 else if n = 0 then 1 else partM n (k - 1) + k * partM n k
theorem partM_out {n : Nat} {k : Int} (h : k < 1 ∨ (n : Int) < k) : partM n k = 0 := by
  cases n with
  | zero => rfl
  | succ n => rw [partM, if_pos (by omega)]
theorem partM_in : ∀ n < 10, ∀ k < 10, 0 ≤ partM n (k : Nat) ∧ partM n (k : Nat) ≤ 10000 := by decide +kernel
theorem partM_bound {n : Nat} (hn : n ≤ 9) (k : Int) : 0 ≤ partM n k ∧ partM n k ≤ 10000 := by
  by_cases h : k < 1 ∨ (n : Int) < k
  · rw [partM_out h]; omega
  · have := partM_in n (by omega) k.toNat (by omega)
    rwa [show ((k.toNat : Nat) : Int) = k by omega] at this
set_option maxRecDepth 100000 in
theorem refparted_spec : ∀ (n : Nat), n ≤ 9 → ∀ {B : Nat} {H : Heap} {m k : Int}, B ≤ H.n → m = n →
    CallB Tryd.prog B 85 [.int .i64 m, .int .i64 k] H (fun r H' => r = .int .i64 (partM n k) ∧ H' = H)
  | 0, _, B, H, m, k, hB, hm => by
    refine CV.enter callees false rfl Tryd.func85 rfl ok85 (Nat.le_of_ble_eq_true rfl) hB ?_
    repeat' first
      | refine CO.cons rfl ?_
      | refine CO.nil ?_
      | refine CV.seq ?_
      | refine CV.region callees ?_
      | refine CV.cond ?_
      | refine CV.block ?_
      | refine CV.skip ?_
      | refine CV.exit ?_
      | refine CV.ret ?_
      | refine CV.scope ?_
      | refine CV.draw callees rfl ?_
      | refine CH.cons rfl ?_
      | refine CH.nil ?_
      | refine CO.consG rfl ?_
      | refine CH.consG rfl ?_
      | refine CG.cons rfl ?_
      | refine CG.nil ?_
      | refine CG.consG rfl ?_
      | refine ⟨(rfl : plain _ = true), ?_⟩
      | refine ⟨(rfl : nilOk _ = some _), ?_⟩
      | refine ⟨_, ints_len (by assumption), ?_⟩
      | refine ⟨_, ints_addr (by assumption) (by omega) (by omega), ?_⟩
      | refine ⟨_, ints_load (by assumption) (by omega) (by omega), ?_⟩
      | refine ⟨(⟨by omega, by omega⟩ : inI64 _), ?_⟩
      | refine ⟨_, fun tm ha => step1_max rfl (ev_tmp ha rfl) (ev_tmp ha rfl), ?_⟩
      | refine ⟨_, fun tm ha => step1_min rfl (ev_tmp ha rfl) (ev_tmp ha rfl), ?_⟩
      | (refine ⟨fun _ => ?_, fun _ => ?_⟩ <;> first | (exfalso; omega) | skip)
      | fail
    all_goals exact ⟨rfl, rfl, rfl⟩
  | n + 1, hn, B, H, m, k, hB, hm => by
    refine CV.enter callees false rfl Tryd.func85 rfl ok85 (Nat.le_of_ble_eq_true rfl) hB ?_
    have b1 := partM_bound (n := n) (by omega) (k - 1)
    have b2 := partM_bound (n := n) (by omega) k
    by_cases hk : 0 ≤ k ∧ k ≤ 9
    · have b3 : 0 ≤ k * partM n k ∧ k * partM n k ≤ 9 * 10000 := ⟨Int.mul_nonneg hk.1 b2.1, Int.mul_le_mul hk.2 b2.2 b2.1 (by decide)⟩
      repeat' first
        | refine CO.cons rfl ?_
        | refine CO.nil ?_
        | refine CV.seq ?_
        | refine CV.region callees ?_
        | refine CV.cond ?_
        | refine CV.block ?_
        | refine CV.skip ?_
        | refine CV.exit ?_
        | refine CV.ret ?_
        | refine CV.scope ?_
        | refine CV.draw callees rfl ?_
        | refine CH.cons rfl ?_
        | refine CH.nil ?_
        | refine CO.consG rfl ?_
        | refine CH.consG rfl ?_
        | refine CG.cons rfl ?_
        | refine CG.nil ?_
        | refine CG.consG rfl ?_
        | refine ⟨(rfl : plain _ = true), ?_⟩
        | refine ⟨(rfl : nilOk _ = some _), ?_⟩
        | refine ⟨_, ints_len (by assumption), ?_⟩
        | refine ⟨_, ints_addr (by assumption) (by omega) (by omega), ?_⟩
        | refine ⟨_, ints_load (by assumption) (by omega) (by omega), ?_⟩
        | refine ⟨(⟨by omega, by omega⟩ : inI64 _), ?_⟩
        | refine ⟨_, fun tm ha => step1_max rfl (ev_tmp ha rfl) (ev_tmp ha rfl), ?_⟩
        | refine ⟨_, fun tm ha => step1_min rfl (ev_tmp ha rfl) (ev_tmp ha rfl), ?_⟩
        | (refine (refparted_spec n (by omega) hB (by omega)).mono ?_; rintro r H' ⟨rfl, rfl⟩)
        | (refine ⟨fun _ => ?_, fun _ => ?_⟩ <;> first | (exfalso; omega) | skip)
        | fail
      · exact ⟨rfl, by rw [partM, if_pos (by omega)], rfl⟩
      · exact ⟨rfl, by rw [partM, if_pos (by omega)], rfl⟩
      · exact ⟨rfl, by rw [partM, if_neg (by omega), if_pos (by omega)], rfl⟩
      · exact ⟨rfl, by rw [partM, if_neg (by omega), if_neg (by omega)], rfl⟩
    · repeat' first
        | refine CO.cons rfl ?_
        | refine CO.nil ?_
        | refine CV.seq ?_
        | refine CV.region callees ?_
        | refine CV.cond ?_
        | refine CV.block ?_
        | refine CV.skip ?_
        | refine CV.exit ?_
        | refine CV.ret ?_
        | refine CV.scope ?_
        | refine CV.draw callees rfl ?_
        | refine CH.cons rfl ?_
        | refine CH.nil ?_
        | refine CO.consG rfl ?_
        | refine CH.consG rfl ?_
        | refine CG.cons rfl ?_
        | refine CG.nil ?_
        | refine CG.consG rfl ?_
        | refine ⟨(rfl : plain _ = true), ?_⟩
        | refine ⟨(rfl : nilOk _ = some _), ?_⟩
        | refine ⟨_, ints_len (by assumption), ?_⟩
        | refine ⟨_, ints_addr (by assumption) (by omega) (by omega), ?_⟩
        | refine ⟨_, ints_load (by assumption) (by omega) (by omega), ?_⟩
        | refine ⟨(⟨by omega, by omega⟩ : inI64 _), ?_⟩
        | refine ⟨_, fun tm ha => step1_max rfl (ev_tmp ha rfl) (ev_tmp ha rfl), ?_⟩
        | refine ⟨_, fun tm ha => step1_min rfl (ev_tmp ha rfl) (ev_tmp ha rfl), ?_⟩
        | (refine ⟨fun _ => ?_, fun _ => ?_⟩ <;> first | (exfalso; omega) | skip)
        | fail
      · exact ⟨rfl, by rw [partM, if_pos (by omega)], rfl⟩
      · exact ⟨rfl, by rw [partM, if_pos (by omega)], rfl⟩

def sumM (n : Nat) : Nat → Int
  | 0 => 0
  | j + 1 => sumM n j + partM n (j + 1 : Nat)
theorem sumM_bound {n : Nat} (hn : n ≤ 9) : ∀ j : Nat, 0 ≤ sumM n j ∧ sumM n j ≤ 10000 * j
  | 0 => by simp [sumM]
  | j + 1 => by
    have h1 := sumM_bound hn j
    have h2 := partM_bound hn ((j + 1 : Nat) : Int)
    rw [sumM]; omega
set_option maxRecDepth 100000 in
theorem refcount_spec {B : Nat} {H : Heap} {n : Int} (hB : B ≤ H.n) (h0 : 0 ≤ n) (h9 : n ≤ 9) :
    CallB Tryd.prog B 83 [.int .i64 n] H (fun r H' => r = .int .i64 (sumM n.toNat n.toNat) ∧ H' = H) := by
  refine CV.enter callees false rfl Tryd.func83 rfl ok83 (Nat.le_of_ble_eq_true rfl) hB ?_
  repeat' first
    | refine CO.cons rfl ?_
    | refine CO.nil ?_
    | refine CV.seq ?_
    | refine CV.region callees ?_
    | refine CV.cond ?_
    | refine CV.block ?_
    | refine CV.skip ?_
    | refine CV.exit ?_
    | refine CV.ret ?_
    | refine CV.scope ?_
    | refine CV.draw callees rfl ?_
    | refine CH.cons rfl ?_
    | refine CH.nil ?_
    | refine CO.consG rfl ?_
    | refine CH.consG rfl ?_
    | refine CG.cons rfl ?_
    | refine CG.nil ?_
    | refine CG.consG rfl ?_
    | refine ⟨(rfl : plain _ = true), ?_⟩
    | refine ⟨(rfl : nilOk _ = some _), ?_⟩
    | refine ⟨_, ints_len (by assumption), ?_⟩
    | refine ⟨_, ints_addr (by assumption) (by omega) (by omega), ?_⟩
    | refine ⟨_, ints_load (by assumption) (by omega) (by omega), ?_⟩
    | refine ⟨(⟨by omega, by omega⟩ : inI64 _), ?_⟩
    | refine ⟨_, fun tm ha => step1_max rfl (ev_tmp ha rfl) (ev_tmp ha rfl), ?_⟩
    | refine ⟨_, fun tm ha => step1_min rfl (ev_tmp ha rfl) (ev_tmp ha rfl), ?_⟩
    | (refine ⟨fun _ => ?_, fun _ => ?_⟩ <;> first | (exfalso; omega) | skip)
    | fail
  refine CV.loopc ?_
  refine WCv.rounds callees false (α := Nat) (fun j => [(0, .int .i64 n), (3, .int .i64 (sumM n.toNat j)), (4, .int .i64 ((j : Int) + 1))]) (fun j Hz => Hz = H ∧ j ≤ n.toNat) (fun j => n.toNat - j) (0) (by repeat' first | exact trivial | refine ⟨rfl, ?_⟩) ?_ ?_
  · exact ⟨rfl, by omega⟩
  rintro j Hx ⟨rfl, hj⟩ hBx
  have b1 := sumM_bound (n := n.toNat) (by omega) j
  have b2 := partM_bound (n := n.toNat) (by omega) ((j : Int) + 1)
  repeat' first
    | refine CO.cons rfl ?_
    | refine CO.nil ?_
    | refine CV.seq ?_
    | refine CV.region callees ?_
    | refine CV.cond ?_
    | refine CV.block ?_
    | refine CV.skip ?_
    | refine CV.exit ?_
    | refine CV.ret ?_
    | refine CV.scope ?_
    | refine CV.draw callees rfl ?_
    | refine CH.cons rfl ?_
    | refine CH.nil ?_
    | refine CO.consG rfl ?_
    | refine CH.consG rfl ?_
    | refine CG.cons rfl ?_
    | refine CG.nil ?_
    | refine CG.consG rfl ?_
    | refine ⟨(rfl : plain _ = true), ?_⟩
    | refine ⟨(rfl : nilOk _ = some _), ?_⟩
    | refine ⟨_, ints_len (by assumption), ?_⟩
    | refine ⟨_, ints_addr (by assumption) (by omega) (by omega), ?_⟩
    | refine ⟨_, ints_load (by assumption) (by omega) (by omega), ?_⟩
    | refine ⟨(⟨by omega, by omega⟩ : inI64 _), ?_⟩
    | refine ⟨_, fun tm ha => step1_max rfl (ev_tmp ha rfl) (ev_tmp ha rfl), ?_⟩
    | refine ⟨_, fun tm ha => step1_min rfl (ev_tmp ha rfl) (ev_tmp ha rfl), ?_⟩
    | (refine (refparted_spec n.toNat (by omega) hBx (by omega)).mono ?_; rintro r H' ⟨rfl, rfl⟩)
    | (refine ⟨fun _ => ?_, fun _ => ?_⟩ <;> first | (exfalso; omega) | skip)
    | fail
  · refine ⟨(j + 1), (by repeat' first | exact trivial | refine ⟨rfl, ?_⟩), (by (try dsimp only); omega), ?_⟩
    exact ⟨rfl, by omega⟩
  · have : j = n.toNat := by omega
    subst this
    exact ⟨rfl, rfl, rfl⟩
theorem cnt_in : ∀ n < 10, 1 ≤ n → sumM n n = endT[n * 10]! := by decide +kernel
theorem part_in : ∀ n < 10, ∀ k < 10, 1 ≤ k → k ≤ n → partM n (k : Nat) = partT[n * 10 + k]! := by decide +kernel
set_option maxRecDepth 100000 in
theorem refCount_spec {B : Nat} {H : Heap} {n : Int} (hn : B ≤ H.n) :
    CallB Tryd.prog B 32 [.int .i64 n] H (fun r H' => r = pairV (cntR n) ∧ H' = H) := by
  refine CV.enter callees false rfl Tryd.func32 rfl ok32 (Nat.le_of_ble_eq_true rfl) hn ?_
  repeat' first
    | refine CO.cons rfl ?_
    | refine CO.nil ?_
    | refine CV.seq ?_
    | refine CV.region callees ?_
    | refine CV.cond ?_
    | refine CV.block ?_
    | refine CV.skip ?_
    | refine CV.exit ?_
    | refine CV.ret ?_
    | refine CV.scope ?_
    | refine CV.draw callees rfl ?_
    | refine CH.cons rfl ?_
    | refine CH.nil ?_
    | refine CO.consG rfl ?_
    | refine CH.consG rfl ?_
    | refine CG.cons rfl ?_
    | refine CG.nil ?_
    | refine CG.consG rfl ?_
    | refine ⟨(rfl : plain _ = true), ?_⟩
    | refine ⟨(rfl : nilOk _ = some _), ?_⟩
    | refine ⟨_, ints_len (by assumption), ?_⟩
    | refine ⟨_, ints_addr (by assumption) (by omega) (by omega), ?_⟩
    | refine ⟨_, ints_load (by assumption) (by omega) (by omega), ?_⟩
    | refine ⟨(⟨by omega, by omega⟩ : inI64 _), ?_⟩
    | refine ⟨_, fun tm ha => step1_max rfl (ev_tmp ha rfl) (ev_tmp ha rfl), ?_⟩
    | refine ⟨_, fun tm ha => step1_min rfl (ev_tmp ha rfl) (ev_tmp ha rfl), ?_⟩
    | (refine (refcount_spec hn (by omega) (by omega)).mono ?_; rintro r H' ⟨rfl, rfl⟩)
    | (refine ⟨fun _ => ?_, fun _ => ?_⟩ <;> first | (exfalso; omega) | skip)
    | fail
  · exact ⟨rfl, by rw [cntR, if_pos (by omega)]; rfl, rfl⟩
  · exact ⟨rfl, by rw [cntR, if_pos (by omega)]; rfl, rfl⟩
  · exact ⟨rfl, by rw [cntR, if_neg (by omega), cnt_in _ (by omega) (by omega)]; rfl, rfl⟩
set_option maxRecDepth 100000 in
theorem refParted_spec {B : Nat} {H : Heap} {n k : Int} (hn : B ≤ H.n) :
    CallB Tryd.prog B 34 [.int .i64 n, .int .i64 k] H (fun r H' => r = pairV (partR n k) ∧ H' = H) := by
  refine CV.enter callees false rfl Tryd.func34 rfl ok34 (Nat.le_of_ble_eq_true rfl) hn ?_
  repeat' first
    | refine CO.cons rfl ?_
    | refine CO.nil ?_
    | refine CV.seq ?_
    | refine CV.region callees ?_
    | refine CV.cond ?_
    | refine CV.block ?_
    | refine CV.skip ?_
    | refine CV.exit ?_
    | refine CV.ret ?_
    | refine CV.scope ?_
    | refine CV.draw callees rfl ?_
    | refine CH.cons rfl ?_
    | refine CH.nil ?_
    | refine CO.consG rfl ?_
    | refine CH.consG rfl ?_
    | refine CG.cons rfl ?_
    | refine CG.nil ?_
    | refine CG.consG rfl ?_
    | refine ⟨(rfl : plain _ = true), ?_⟩
    | refine ⟨(rfl : nilOk _ = some _), ?_⟩
    | refine ⟨_, ints_len (by assumption), ?_⟩
    | refine ⟨_, ints_addr (by assumption) (by omega) (by omega), ?_⟩
    | refine ⟨_, ints_load (by assumption) (by omega) (by omega), ?_⟩
    | refine ⟨(⟨by omega, by omega⟩ : inI64 _), ?_⟩
    | refine ⟨_, fun tm ha => step1_max rfl (ev_tmp ha rfl) (ev_tmp ha rfl), ?_⟩
    | refine ⟨_, fun tm ha => step1_min rfl (ev_tmp ha rfl) (ev_tmp ha rfl), ?_⟩
    | (refine (refparted_spec n.toNat (by omega) hn (by omega)).mono ?_; rintro r H' ⟨rfl, rfl⟩)
    | (refine ⟨fun _ => ?_, fun _ => ?_⟩ <;> first | (exfalso; omega) | skip)
    | fail
  · exact ⟨rfl, by rw [partR, if_pos (by omega)]; rfl, rfl⟩
  · exact ⟨rfl, by rw [partR, if_pos (by omega)]; rfl, rfl⟩
  · exact ⟨rfl, by rw [partR, if_pos (by omega)]; rfl, rfl⟩
  · exact ⟨rfl, by rw [partR, if_pos (by omega)]; rfl, rfl⟩
  · refine ⟨rfl, ?_, rfl⟩
    have := part_in n.toNat (by omega) k.toNat (by omega) (by omega) (by omega)
    rw [show ((k.toNat : Nat) : Int) = k by omega] at this
    rw [partR, if_neg (by omega), this]; rfl

set_option maxRecDepth 100000 in
theorem refCheck_spec {B : Nat} {v : Value} {H : Heap} {xs : List Int} (hB : B ≤ H.n) (hv : Ints H v xs) :
    CallB Tryd.prog B 29 [v] H (fun r H' => r = .int .i64 (check xs) ∧ H' = H) := by
  refine CV.enter callees false rfl Tryd.func29 rfl ok29 (Nat.le_of_ble_eq_true rfl) hB ?_
  repeat' first
    | refine CO.cons rfl ?_
    | refine CO.nil ?_
    | refine CV.seq ?_
    | refine CV.region callees ?_
    | refine CV.cond ?_
    | refine CV.block ?_
    | refine CV.skip ?_
    | refine CV.exit ?_
    | refine CV.ret ?_
    | refine CV.scope ?_
    | refine CV.draw callees rfl ?_
    | refine CH.cons rfl ?_
    | refine CH.nil ?_
    | refine CO.consG rfl ?_
    | refine CH.consG rfl ?_
    | refine CG.cons rfl ?_
    | refine CG.nil ?_
    | refine CG.consG rfl ?_
    | refine ⟨(rfl : plain _ = true), ?_⟩
    | refine ⟨(rfl : nilOk _ = some _), ?_⟩
    | refine ⟨_, ints_len (by assumption), ?_⟩
    | refine ⟨_, ints_addr (by assumption) (by omega) (by omega), ?_⟩
    | refine ⟨_, ints_load (by assumption) (by omega) (by omega), ?_⟩
    | refine ⟨(⟨by omega, by omega⟩ : inI64 _), ?_⟩
    | refine ⟨_, fun tm ha => step1_max rfl (ev_tmp ha rfl) (ev_tmp ha rfl), ?_⟩
    | refine ⟨_, fun tm ha => step1_min rfl (ev_tmp ha rfl) (ev_tmp ha rfl), ?_⟩
    | (refine ⟨fun _ => ?_, fun _ => ?_⟩ <;> first | (exfalso; omega) | skip)
    | fail
  · exact ⟨rfl, by rw [check, if_pos (by omega)], rfl⟩
  · exact ⟨rfl, by rw [check, if_neg (by omega), if_pos (by omega)], rfl⟩
  refine CV.loopc ?_
  refine WCv.rounds callees false (α := Int × Int) (fun (i, m) => [(0, v), (3, .int .i64 m), (4, .int .i64 i)]) (fun (i, m) Hz => Hz = H ∧ 0 ≤ i ∧ i ≤ xs.length ∧ -1 ≤ m ∧ m ≤ 8 ∧ checkFrom (xs.drop i.toNat) (m + 1) = check xs) (fun (i, m) => xs.length - i.toNat) (0, -1) (by repeat' first | exact trivial | refine ⟨rfl, ?_⟩) ?_ ?_
  · exact ⟨rfl, by omega, by omega, by omega, by omega, by simp; rw [check, if_neg (by omega), if_neg (by omega)]⟩
  rintro ⟨i, m⟩ Hx ⟨rfl, hi0, hi1, hm0, hm1, hc⟩ _
  by_cases hi : i < xs.length
  · rw [drop_cons (xs := xs) (n := i.toNat) (by omega), checkFrom] at hc
    repeat' first
      | refine CO.cons rfl ?_
      | refine CO.nil ?_
      | refine CV.seq ?_
      | refine CV.region callees ?_
      | refine CV.cond ?_
      | refine CV.block ?_
      | refine CV.skip ?_
      | refine CV.exit ?_
      | refine CV.ret ?_
      | refine CV.scope ?_
      | refine CV.draw callees rfl ?_
      | refine CH.cons rfl ?_
      | refine CH.nil ?_
      | refine CO.consG rfl ?_
      | refine CH.consG rfl ?_
      | refine CG.cons rfl ?_
      | refine CG.nil ?_
      | refine CG.consG rfl ?_
      | refine ⟨(rfl : plain _ = true), ?_⟩
      | refine ⟨(rfl : nilOk _ = some _), ?_⟩
      | refine ⟨_, ints_len (by assumption), ?_⟩
      | refine ⟨_, ints_addr (by assumption) (by omega) (by omega), ?_⟩
      | refine ⟨_, ints_load (by assumption) (by omega) (by omega), ?_⟩
      | refine ⟨(⟨by omega, by omega⟩ : inI64 _), ?_⟩
      | refine ⟨_, fun tm ha => step1_max rfl (ev_tmp ha rfl) (ev_tmp ha rfl), ?_⟩
      | refine ⟨_, fun tm ha => step1_min rfl (ev_tmp ha rfl) (ev_tmp ha rfl), ?_⟩
      | (refine ⟨fun _ => ?_, fun _ => ?_⟩ <;> first | (exfalso; omega) | skip)
      | fail
    · exact ⟨rfl, by rw [← hc, if_pos (by omega)], rfl⟩
    · exact ⟨rfl, by rw [← hc, if_pos (by omega)], rfl⟩
    · exact ⟨rfl, by rw [← hc, if_neg (by omega), if_pos (by omega)], rfl⟩
    · rw [if_neg (by omega), if_neg (by omega)] at hc
      refine ⟨(i + 1, max m xs[i.toNat]!), (by repeat' first | exact trivial | refine ⟨rfl, ?_⟩), (by (try dsimp only); omega), ?_⟩
      refine ⟨rfl, by omega, by omega, by omega, by omega, ?_⟩
      rw [show (i + 1).toNat = i.toNat + 1 by omega, ← hc]
      congr 1
      omega
  · rw [show xs.drop i.toNat = [] by simp; omega, checkFrom] at hc
    repeat' first
      | refine CO.cons rfl ?_
      | refine CO.nil ?_
      | refine CV.seq ?_
      | refine CV.region callees ?_
      | refine CV.cond ?_
      | refine CV.block ?_
      | refine CV.skip ?_
      | refine CV.exit ?_
      | refine CV.ret ?_
      | refine CV.scope ?_
      | refine CV.draw callees rfl ?_
      | refine CH.cons rfl ?_
      | refine CH.nil ?_
      | refine CO.consG rfl ?_
      | refine CH.consG rfl ?_
      | refine CG.cons rfl ?_
      | refine CG.nil ?_
      | refine CG.consG rfl ?_
      | refine ⟨(rfl : plain _ = true), ?_⟩
      | refine ⟨(rfl : nilOk _ = some _), ?_⟩
      | refine ⟨_, ints_len (by assumption), ?_⟩
      | refine ⟨_, ints_addr (by assumption) (by omega) (by omega), ?_⟩
      | refine ⟨_, ints_load (by assumption) (by omega) (by omega), ?_⟩
      | refine ⟨(⟨by omega, by omega⟩ : inI64 _), ?_⟩
      | refine ⟨_, fun tm ha => step1_max rfl (ev_tmp ha rfl) (ev_tmp ha rfl), ?_⟩
      | refine ⟨_, fun tm ha => step1_min rfl (ev_tmp ha rfl) (ev_tmp ha rfl), ?_⟩
      | (refine ⟨fun _ => ?_, fun _ => ?_⟩ <;> first | (exfalso; omega) | skip)
      | fail
    exact ⟨rfl, by rw [← hc], rfl⟩
set_option maxRecDepth 100000 in
theorem long_spec {B : Nat} {v : Value} {H : Heap} {xs : List Int} (hB : B ≤ H.n) (hv : Ints H v xs) :
    CallB Tryd.prog B 18 [v] H (fun r H' => r = .bool (decide (40 < xs.length)) ∧ H' = H) := by
  refine CV.enter callees false rfl Tryd.func18 rfl ok18 (Nat.le_of_ble_eq_true rfl) hB ?_
  repeat' first
    | refine CO.cons rfl ?_
    | refine CO.nil ?_
    | refine CV.seq ?_
    | refine CV.region callees ?_
    | refine CV.cond ?_
    | refine CV.block ?_
    | refine CV.skip ?_
    | refine CV.exit ?_
    | refine CV.ret ?_
    | refine CV.scope ?_
    | refine CV.draw callees rfl ?_
    | refine CH.cons rfl ?_
    | refine CH.nil ?_
    | refine CO.consG rfl ?_
    | refine CH.consG rfl ?_
    | refine CG.cons rfl ?_
    | refine CG.nil ?_
    | refine CG.consG rfl ?_
    | refine ⟨(rfl : plain _ = true), ?_⟩
    | refine ⟨(rfl : nilOk _ = some _), ?_⟩
    | refine ⟨_, ints_len (by assumption), ?_⟩
    | refine ⟨_, ints_addr (by assumption) (by omega) (by omega), ?_⟩
    | refine ⟨_, ints_load (by assumption) (by omega) (by omega), ?_⟩
    | refine ⟨(⟨by omega, by omega⟩ : inI64 _), ?_⟩
    | refine ⟨_, fun tm ha => step1_max rfl (ev_tmp ha rfl) (ev_tmp ha rfl), ?_⟩
    | refine ⟨_, fun tm ha => step1_min rfl (ev_tmp ha rfl) (ev_tmp ha rfl), ?_⟩
    | (refine ⟨fun _ => ?_, fun _ => ?_⟩ <;> first | (exfalso; omega) | skip)
    | fail
  · exact ⟨rfl, by rw [decide_eq_true (by omega)], rfl⟩
  · exact ⟨rfl, by rw [decide_eq_false (by omega)], rfl⟩
end Go.Proofs.YteocbhefhobehaaDoor
