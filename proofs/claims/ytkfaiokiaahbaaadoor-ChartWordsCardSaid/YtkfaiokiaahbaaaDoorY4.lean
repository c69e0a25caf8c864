/- Several texts in one. -/
import Derived.Test.YtkfaiokiaahbaaaDoorY3
import Derived.Test.YtkfaiokiaahbaaaDoorX4
set_option linter.unusedVariables false
set_option linter.unusedSimpArgs false
/- How many partitions there are; which lists are partitions, by the reference. -/
namespace Go.Proofs.YtkfaiokiaahbaaaDoor
open Go.AI
theorem aindex_rows {P : Program} {t e : TypeId} {len s : Nat} (ht : P.underlying t = some (.array len e)) (hs : sizeB P e = some s) (ha : isAggB P e = some true) {l : List Value} {k : Int} {kd : IntKind} (h0 : 0 ≤ k) (h1 : k < len) :
    aindex P t (.agg l.toArray) (.int kd k) = some (.agg ((l.drop (k.toNat * s)).take s).toArray) := by
  simp [aindex, asIdx, ht, hs, h0, h1, apart', ha]
theorem aindex_cell {P : Program} {t e : TypeId} {len : Nat} (ht : P.underlying t = some (.array len e)) (hs : sizeB P e = some 1) (ha : isAggB P e = some false) {l : List Value} {k : Int} {kd : IntKind} {v : Value} (h0 : 0 ≤ k) (h1 : k < len) (hv : l[k.toNat]? = some v) :
    aindex P t (.agg l.toArray) (.int kd k) = some v := by
  simp [aindex, asIdx, ht, hs, h0, h1, apart', ha, hv]
theorem un79 : Tryd.prog.underlying 79 = some (.array 10 77) := by kernel_rfl
theorem un77 : Tryd.prog.underlying 77 = some (.array 10 3) := by kernel_rfl
theorem sz77 : sizeB Tryd.prog 77 = some 10 := by kernel_rfl
theorem ag77 : isAggB Tryd.prog 77 = some true := by kernel_rfl
theorem tab_row {l : List Int} {n : Int} (h0 : 0 ≤ n) (h1 : n < 10) : aindex Tryd.prog 79 (tabV l) (.int .i64 n) = some (.agg ((((l.map VI).drop (n.toNat * 10)).take 10).toArray)) :=
  aindex_rows un79 sz77 ag77 h0 (by omega)
theorem tab_cell {l : List Int} {n k : Int} (hl : l.length = 100) (h0 : 0 ≤ n) (h1 : n < 10) (h2 : 0 ≤ k) (h3 : k < 10) : aindex Tryd.prog 77 (.agg ((((l.map VI).drop (n.toNat * 10)).take 10).toArray)) (.int .i64 k) = some (.int .i64 l[n.toNat * 10 + k.toNat]!) := by
  have hlt : n.toNat * 10 + k.toNat < l.length := by omega
  refine aindex_cell un77 sz3 ag3 h2 (by omega) ?_
  rw [List.getElem?_take_of_lt (by omega), List.getElem?_drop, List.getElem?_map, List.getElem?_eq_getElem hlt, getElem!_pos l _ hlt]
  rfl
theorem endT_len : endT.length = 100 := by decide
def cntR (n : Int) : Int × Int := if n < 1 ∨ 9 < n then (0, 2) else (endT[n.toNat * 10]!, 0)
def pairV (p : Int × Int) : Value := .tuple #[.int .i64 p.1, .int .i64 p.2]

set_option maxRecDepth 100000 in
theorem count_spec {B : Nat} {H : Heap} {n : Int} (hn : B ≤ H.n) (hb : Base H) :
    CallB Tryd.prog B 31 [.int .i64 n] H (fun r H' => r = pairV (cntR n) ∧ H' = H) := by
  refine CV.enter callees false rfl Tryd.func31 rfl ok31 (Nat.le_of_ble_eq_true rfl) hn ?_
  repeat' first
    | refine CO.cons rfl ?_
    | refine CO.nil ?_
    | refine CV.seq ?_
    | refine CV.region callees ?_
    | refine CV.cond ?_
    | refine CV.block ?_
    | refine CV.skip ?_
    | refine CV.exit ?_
    | refine CV.ret ?_
    | refine CV.scope ?_
    | refine CV.draw callees rfl ?_
    | refine CH.cons rfl ?_
    | refine CH.nil ?_
    | refine CO.consG rfl ?_
    | refine CH.consG rfl ?_
    | refine CG.cons rfl ?_
    | refine CG.nil ?_
    | refine CG.consG rfl ?_
    | refine ⟨(rfl : plain _ = true), ?_⟩
    | refine ⟨(rfl : nilOk _ = some _), ?_⟩
    | refine ⟨_, ints_len (by assumption), ?_⟩
    | refine ⟨_, ints_addr (by assumption) (by omega) (by omega), ?_⟩
    | refine ⟨_, ints_load (by assumption) (by omega) (by omega), ?_⟩
    | refine ⟨(⟨by omega, by omega⟩ : inI64 _), ?_⟩
    | refine ⟨_, fun tm ha => step1_max rfl (ev_tmp ha rfl) (ev_tmp ha rfl), ?_⟩
    | refine ⟨_, fun tm ha => step1_min rfl (ev_tmp ha rfl) (ev_tmp ha rfl), ?_⟩
    | refine CallB.known rfl hb hn ?_
    | refine ⟨_, tab_row (by omega) (by omega), ?_⟩
    | refine ⟨_, tab_cell endT_len (by omega) (by omega) (by omega) (by omega), ?_⟩
    | (refine ⟨fun _ => ?_, fun _ => ?_⟩ <;> first | (exfalso; omega) | skip)
    | fail
  · exact ⟨rfl, by rw [cntR, if_pos (by omega)]; rfl, rfl⟩
  · exact ⟨rfl, by rw [cntR, if_pos (by omega)]; rfl, rfl⟩
  · exact ⟨rfl, by rw [cntR, if_neg (by omega)]; rfl, rfl⟩
def partM : Nat → Int → Int
  | 0, _ => 0
  | n + 1, k => if k < 1 ∨ (n : Int) + 1 < k then 0 else if n = 0 then 1 else partM n (k - 1) + k * partM n k
theorem partM_out {n : Nat} {k : Int} (h : k < 1 ∨ (n : Int) < k) : partM n k = 0 := by
  cases n with
  | zero => rfl
  | succ n => rw [partM, if_pos (by omega)]
theorem partM_in : ∀ n < 10, ∀ k < 10, 0 ≤ partM n (k : Nat) ∧ partM n (k : Nat) ≤ 10000 := by decide +kernel
theorem partM_bound {n : Nat} (hn : n ≤ 9) (k : Int) : 0 ≤ partM n k ∧ partM n k ≤ 10000 := by
  by_cases h : k < 1 ∨ (n : Int) < k
  · rw [partM_out h]; omega
  · have := partM_in n (by omega) k.toNat (by omega)
    rwa [show ((k.toNat : Nat) : Int) = k by omega] at this
set_option maxRecDepth 100000 in
theorem refparted_spec : ∀ (n : Nat), n ≤ 9 → ∀ {B : Nat} {H : Heap} {m k : Int}, B ≤ H.n → m = n →
    CallB Tryd.prog B 85 [.int .i64 m, .int .i64 k] H (fun r H' => r = .int .i64 (partM n k) ∧ H' = H)
  | 0, _, B, H, m, k, hB, hm => by
    refine CV.enter callees false rfl Tryd.func85 rfl ok85 (Nat.le_of_ble_eq_true rfl) hB ?_
    repeat' first
      | refine CO.cons rfl ?_
      | refine CO.nil ?_
      | refine CV.seq ?_
      | refine CV.region callees ?_
      | refine CV.cond ?_
      | refine CV.block ?_
      | refine CV.skip ?_
      | refine CV.exit ?_
      | refine CV.ret ?_
      | refine CV.scope ?_
      | refine CV.draw callees rfl ?_
      | refine CH.cons rfl ?_
      | refine CH.nil ?_
      | refine CO.consG rfl ?_
      | refine CH.consG rfl ?_
      | refine CG.cons rfl ?_
      | refine CG.nil ?_
      | refine CG.consG rfl ?_
      | refine ⟨(rfl : plain _ = true), ?_⟩
      | refine ⟨(rfl : nilOk _ = some _), ?_⟩
      | refine ⟨_, ints_len (by assumption), ?_⟩
      | refine ⟨_, ints_addr (by assumption) (by omega) (by omega), ?_⟩
      | refine ⟨_, ints_load (by assumption) (by omega) (by omega), ?_⟩
      | refine ⟨(⟨by omega, by omega⟩ : inI64 _), ?_⟩
      | refine ⟨_, fun tm ha => step1_max rfl (ev_tmp ha rfl) (ev_tmp ha rfl), ?_⟩
      | refine ⟨_, fun tm ha => step1_min rfl (ev_tmp ha rfl) (ev_tmp ha rfl), ?_⟩
      | (refine ⟨fun _ => ?_, fun _ => ?_⟩ <;> first | (exfalso; omega) | skip)
      | fail
    all_goals exact ⟨rfl, rfl, rfl⟩
  | n + 1, hn, B, H, m, k, hB, hm => by
    refine CV.enter callees false rfl Tryd.func85 rfl ok85 (Nat.le_of_ble_eq_true rfl) hB ?_
    have b1 := partM_bound (n := n) (by omega) (k - 1)
    have b2 := partM_bound (n := n) (by omega) k
    by_cases hk : 0 ≤ k ∧ k ≤ 9
    · have b3 : 0 ≤ k * partM n k ∧ k * partM n k ≤ 9 * 10000 := ⟨Int.mul_nonneg hk.1 b2.1, Int.mul_le_mul hk.2 b2.2 b2.1 (by decide)⟩
      repeat' first
        | refine CO.cons rfl ?_
        | refine CO.nil ?_
        | refine CV.seq ?_
        | refine CV.region callees ?_
        | refine CV.cond ?_
        | refine CV.block ?_
        | refine CV.skip ?_
        | refine CV.exit ?_
        | refine CV.ret ?_
        | refine CV.scope ?_
        | refine CV.draw callees rfl ?_
        | refine CH.cons rfl ?_
        | refine CH.nil ?_
        | refine CO.consG rfl ?_
        | refine CH.consG rfl ?_
        | refine CG.cons rfl ?_
        | refine CG.nil ?_
        | refine CG.consG rfl ?_
        | refine ⟨(rfl : plain _ = true), ?_⟩
        | refine ⟨(rfl : nilOk _ = some _), ?_⟩
        | refine ⟨_, ints_len (by assumption), ?_⟩
        | refine ⟨_, ints_addr (by assumption) (by omega) (by omega), ?_⟩
        | refine ⟨_, ints_load (by assumption) (by omega) (by omega), ?_⟩
        | refine ⟨(⟨by omega, by omega⟩ : inI64 _), ?_⟩
        | refine ⟨_, fun tm ha => step1_max rfl (ev_tmp ha rfl) (ev_tmp ha rfl), ?_⟩
        | refine ⟨_, fun tm ha => step1_min rfl (ev_tmp ha rfl) (ev_tmp ha rfl), ?_⟩
        | (refine (refparted_spec n (by omega) hB (by omega)).mono ?_; rintro r H' ⟨rfl, rfl⟩)
        | (refine ⟨fun _ => ?_, fun _ => ?_⟩ <;> first | (exfalso; omega) | skip)
        | fail
      · exact ⟨rfl, by rw [partM, if_pos (by omega)], rfl⟩
      · exact ⟨rfl, by rw [partM, if_pos (by omega)], rfl⟩
      · exact ⟨rfl, by rw [partM, if_neg (by omega), if_pos (by omega)], rfl⟩
      · exact ⟨rfl, by rw [partM, if_neg (by omega), if_neg (by omega)], rfl⟩
    · repeat' first
        | refine CO.cons rfl ?_
        | refine CO.nil ?_
        | refine CV.seq ?_
        | refine CV.region callees ?_
        | refine CV.cond ?_
        | refine CV.block ?_
        | refine CV.skip ?_
        | refine CV.exit ?_
        | refine CV.ret ?_
        | refine CV.scope ?_
        | refine CV.draw callees rfl ?_
        | refine CH.cons rfl ?_
        | refine CH.nil ?_
        | refine CO.consG rfl ?_
        | refine CH.consG rfl ?_
        | refine CG.cons rfl ?_
        | refine CG.nil ?_
        | refine CG.consG rfl ?_
        | refine ⟨(rfl : plain _ = true), ?_⟩
        | refine ⟨(rfl : nilOk _ = some _), ?_⟩
        | refine ⟨_, ints_len (by assumption), ?_⟩
        | refine ⟨_, ints_addr (by assumption) (by omega) (by omega), ?_⟩
        | refine ⟨_, ints_load (by assumption) (by omega) (by omega), ?_⟩
        | refine ⟨(⟨by omega, by omega⟩ : inI64 _), ?_⟩
        | refine ⟨_, fun tm ha => step1_max rfl (ev_tmp ha rfl) (ev_tmp ha rfl), ?_⟩
        | refine ⟨_, fun tm ha => step1_min rfl (ev_tmp ha rfl) (ev_tmp ha rfl), ?_⟩
        | (refine ⟨fun _ => ?_, fun _ => ?_⟩ <;> first | (exfalso; omega) | skip)
        | fail
      · exact ⟨rfl, by rw [partM, if_pos (by omega)], rfl⟩
      · exact ⟨rfl, by rw [partM, if_pos (by omega)], rfl⟩

def sumM (n : Nat) : Nat → Int
  | 0 => 0
  | j + 1 => sumM n j + partM n (j + 1 : Nat)
theorem sumM_bound {n : Nat} (hn : n ≤ 9) : ∀ j : Nat, 0 ≤ sumM n j ∧ sumM n j ≤ 10000 * j
  | 0 => by simp [sumM]
  | j + 1 => by
    have h1 := sumM_bound hn j
    have h2 := partM_bound hn ((j + 1 : Nat) : Int)
    rw [sumM]; omega
set_option maxRecDepth 100000 in
theorem refcount_spec {B : Nat} {H : Heap} {n : Int} (hB : B ≤ H.n) (h0 : 0 ≤ n) (h9 : n ≤ 9) :
    CallB Tryd.prog B 83 [.int .i64 n] H (fun r H' => r = .int .i64 (sumM n.toNat n.toNat) ∧ H' = H) := by
  refine CV.enter callees false rfl Tryd.func83 rfl ok83 (Nat.le_of_ble_eq_true rfl) hB ?_
  repeat' first
    | refine CO.cons rfl ?_
    | refine CO.nil ?_
    | refine CV.seq ?_
    | refine CV.region callees ?_
    | refine CV.cond ?_
    | refine CV.block ?_
    | refine CV.skip ?_
    | refine CV.exit ?_
    | refine CV.ret ?_
    | refine CV.scope ?_
    | refine CV.draw callees rfl ?_
    | refine CH.cons rfl ?_
    | refine CH.nil ?_
    | refine CO.consG rfl ?_
    | refine CH.consG rfl ?_
    | refine CG.cons rfl ?_
    | refine CG.nil ?_
    | refine CG.consG rfl ?_
    | refine ⟨(rfl : plain _ = true), ?_⟩
    | refine ⟨(rfl : nilOk _ = some _), ?_⟩
    | refine ⟨_, ints_len (by assumption), ?_⟩
    | refine ⟨_, ints_addr (by assumption) (by omega) (by omega), ?_⟩
    | refine ⟨_, ints_load (by assumption) (by omega) (by omega), ?_⟩
    | refine ⟨(⟨by omega, by omega⟩ : inI64 _), ?_⟩
    | refine ⟨_, fun tm ha => step1_max rfl (ev_tmp ha rfl) (ev_tmp ha rfl), ?_⟩
    | refine ⟨_, fun tm ha => step1_min rfl (ev_tmp ha rfl) (ev_tmp ha rfl), ?_⟩
    | (refine ⟨fun _ => ?_, fun _ => ?_⟩ <;> first | (exfalso; omega) | skip)
    | fail
  refine CV.loopc ?_
  refine WCv.rounds callees false (α := Nat) (fun j => [(0, .int .i64 n), (3, .int .i64 (sumM n.toNat j)), (4, .int .i64 ((j : Int) + 1))]) (fun j Hz => Hz = H ∧ j ≤ n.toNat) (fun j => n.toNat - j) (0) (by repeat' first | exact trivial | refine ⟨rfl, ?_⟩) ?_ ?_
  · exact ⟨rfl, by omega⟩
  rintro j Hx ⟨rfl, hj⟩ hBx
  have b1 := sumM_bound (n := n.toNat) (by omega) j
  have b2 := partM_bound (n := n.toNat) (by omega) ((j : Int) + 1)
  repeat' first
    | refine CO.cons rfl ?_
    | refine CO.nil ?_
    | refine CV.seq ?_
    | refine CV.region callees ?_
    | refine CV.cond ?_
    | refine CV.block ?_
    | refine CV.skip ?_
    | refine CV.exit ?_
    | refine CV.ret ?_
    | refine CV.scope ?_
    | refine CV.draw callees rfl ?_
    | refine CH.cons rfl ?_
    | refine CH.nil ?_
    | refine CO.consG rfl ?_
    | refine CH.consG rfl ?_
    | refine CG.cons rfl ?_
    | refine CG.nil ?_
    | refine CG.consG rfl ?_
    | refine ⟨(rfl : plain _ = true), ?_⟩
    | refine ⟨(rfl : nilOk _ = some _), ?_⟩
    | refine ⟨_, ints_len (by assumption), ?_⟩
    | refine ⟨_, ints_addr (by assumption) (by omega) (by omega), ?_⟩
    | refine ⟨_, ints_load (by assumption) (by omega) (by omega), ?_⟩
    | refine ⟨(⟨by omega, by omega⟩ : inI64 _), ?_⟩
    | refine ⟨_, fun tm ha => step1_max rfl (ev_tmp ha rfl) (ev_tmp ha rfl), ?_⟩
    | refine ⟨_, fun tm ha => step1_min rfl (ev_tmp ha rfl) (ev_tmp ha rfl), ?_⟩
    | (refine (refparted_spec n.toNat (by omega) hBx (by omega)).mono ?_; rintro r H' ⟨rfl, rfl⟩)
    | (refine ⟨fun _ => ?_, fun _ => ?_⟩ <;> first | (exfalso; omega) | skip)
    | fail
  · refine ⟨(j + 1), (by repeat' first | exact trivial | refine ⟨rfl, ?_⟩), (by (try dsimp only); omega), ?_⟩
    exact ⟨rfl, by omega⟩
  · have : j = n.toNat := by omega
    subst this
    exact ⟨rfl, rfl, rfl⟩
theorem cnt_in : ∀ n < 10, 1 ≤ n → sumM n n = endT[n * 10]! := by decide +kernel
set_option maxRecDepth 100000 in
theorem refCount_spec {B : Nat} {H : Heap} {n : Int} (hn : B ≤ H.n) :
    CallB Tryd.prog B 32 [.int .i64 n] H (fun r H' => r = pairV (cntR n) ∧ H' = H) := by
  refine CV.enter callees false rfl Tryd.func32 rfl ok32 (Nat.le_of_ble_eq_true rfl) hn ?_
  repeat' first
    | refine CO.cons rfl ?_
    | refine CO.nil ?_
    | refine CV.seq ?_
    | refine CV.region callees ?_
    | refine CV.cond ?_
    | refine CV.block ?_
    | refine CV.skip ?_
    | refine CV.exit ?_
    | refine CV.ret ?_
    | refine CV.scope ?_
    | refine CV.draw callees rfl ?_
    | refine CH.cons rfl ?_
    | refine CH.nil ?_
    | refine CO.consG rfl ?_
    | refine CH.consG rfl ?_
    | refine CG.cons rfl ?_
    | refine CG.nil ?_
    | refine CG.consG rfl ?_
    | refine ⟨(rfl : plain _ = true), ?_⟩
    | refine ⟨(rfl : nilOk _ = some _), ?_⟩
    | refine ⟨_, ints_len (by assumption), ?_⟩
    | refine ⟨_, ints_addr (by assumption) (by omega) (by omega), ?_⟩
    | refine ⟨_, ints_load (by assumption) (by omega) (by omega), ?_⟩
    | refine ⟨(⟨by omega, by omega⟩ : inI64 _), ?_⟩
    | refine ⟨_, fun tm ha => step1_max rfl (ev_tmp ha rfl) (ev_tmp ha rfl), ?_⟩
    | refine ⟨_, fun tm ha => step1_min rfl (ev_tmp ha rfl) (ev_tmp ha rfl), ?_⟩
    | (refine (refcount_spec hn (by omega) (by omega)).mono ?_; rintro r H' ⟨rfl, rfl⟩)
    | (refine ⟨fun _ => ?_, fun _ => ?_⟩ <;> first | (exfalso; omega) | skip)
    | fail
  · exact ⟨rfl, by rw [cntR, if_pos (by omega)]; rfl, rfl⟩
  · exact ⟨rfl, by rw [cntR, if_pos (by omega)]; rfl, rfl⟩
  · exact ⟨rfl, by rw [cntR, if_neg (by omega), cnt_in _ (by omega) (by omega)]; rfl, rfl⟩
set_option maxRecDepth 100000 in
theorem refCheck_spec {B : Nat} {v : Value} {H : Heap} {xs : List Int} (hB : B ≤ H.n) (hv : Ints H v xs) :
    CallB Tryd.prog B 29 [v] H (fun r H' => r = .int .i64 (check xs) ∧ H' = H) := by
  refine CV.enter callees false rfl Tryd.func29 rfl ok29 (Nat.le_of_ble_eq_true rfl) hB ?_
  repeat' first
    | refine CO.cons rfl ?_
    | refine CO.nil ?_
    | refine CV.seq ?_
    | refine CV.region callees ?_
    | refine CV.cond ?_
    | refine CV.block ?_
    | refine CV.skip ?_
    | refine CV.exit ?_
    | refine CV.ret ?_
    | refine CV.scope ?_
    | refine CV.draw callees rfl ?_
    | refine CH.cons rfl ?_
    | refine CH.nil ?_
    | refine CO.consG rfl ?_
    | refine CH.consG rfl ?_
    | refine CG.cons rfl ?_
    | refine CG.nil ?_
    | refine CG.consG rfl ?_
    | refine ⟨(rfl : plain _ = true), ?_⟩
    | refine ⟨(rfl : nilOk _ = some _), ?_⟩
    | refine ⟨_, ints_len (by assumption), ?_⟩
    | refine ⟨_, ints_addr (by assumption) (by omega) (by omega), ?_⟩
    | refine ⟨_, ints_load (by assumption) (by omega) (by omega), ?_⟩
    | refine ⟨(⟨by omega, by omega⟩ : inI64 _), ?_⟩
    | refine ⟨_, fun tm ha => step1_max rfl (ev_tmp ha rfl) (ev_tmp ha rfl), ?_⟩
    | refine ⟨_, fun tm ha => step1_min rfl (ev_tmp ha rfl) (ev_tmp ha rfl), ?_⟩
    | (refine ⟨fun _ => ?_, fun _ => ?_⟩ <;> first | (exfalso; omega) | skip)
    | fail
  · exact ⟨rfl, by rw [check, if_pos (by omega)], rfl⟩
  · exact ⟨rfl, by rw [check, if_neg (by omega), if_pos (by omega)], rfl⟩
  refine CV.loopc ?_
  refine WCv.rounds callees false (α := Int × Int) (fun (i, m) => [(0, v), (3, .int .i64 m), (4, .int .i64 i)]) (fun (i, m) Hz => Hz = H ∧ 0 ≤ i ∧ i ≤ xs.length ∧ -1 ≤ m ∧ m ≤ 8 ∧ checkFrom (xs.drop i.toNat) (m + 1) = check xs) (fun (i, m) => xs.length - i.toNat) (0, -1) (by repeat' first | exact trivial | refine ⟨rfl, ?_⟩) ?_ ?_
  · exact ⟨rfl, by omega, by omega, by omega, by omega, by simp; rw [check, if_neg (by omega), if_neg (by omega)]⟩
  rintro ⟨i, m⟩ Hx ⟨rfl, hi0, hi1, hm0, hm1, hc⟩ _
  by_cases hi : i < xs.length
  · rw [drop_cons (xs := xs) (n := i.toNat) (by omega), checkFrom] at hc
    repeat' first
      | refine CO.cons rfl ?_
      | refine CO.nil ?_
      | refine CV.seq ?_
      | refine CV.region callees ?_
      | refine CV.cond ?_
      | refine CV.block ?_
      | refine CV.skip ?_
      | refine CV.exit ?_
      | refine CV.ret ?_
      | refine CV.scope ?_
      | refine CV.draw callees rfl ?_
      | refine CH.cons rfl ?_
      | refine CH.nil ?_
      | refine CO.consG rfl ?_
      | refine CH.consG rfl ?_
      | refine CG.cons rfl ?_
      | refine CG.nil ?_
      | refine CG.consG rfl ?_
      | refine ⟨(rfl : plain _ = true), ?_⟩
      | refine ⟨(rfl : nilOk _ = some _), ?_⟩
      | refine ⟨_, ints_len (by assumption), ?_⟩
      | refine ⟨_, ints_addr (by assumption) (by omega) (by omega), ?_⟩
      | refine ⟨_, ints_load (by assumption) (by omega) (by omega), ?_⟩
      | refine ⟨(⟨by omega, by omega⟩ : inI64 _), ?_⟩
      | refine ⟨_, fun tm ha => step1_max rfl (ev_tmp ha rfl) (ev_tmp ha rfl), ?_⟩
      | refine ⟨_, fun tm ha => step1_min rfl (ev_tmp ha rfl) (ev_tmp ha rfl), ?_⟩
      | (refine ⟨fun _ => ?_, fun _ => ?_⟩ <;> first | (exfalso; omega) | skip)
      | fail
    · exact ⟨rfl, by rw [← hc, if_pos (by omega)], rfl⟩
    · exact ⟨rfl, by rw [← hc, if_pos (by omega)], rfl⟩
    · exact ⟨rfl, by rw [← hc, if_neg (by omega), if_pos (by omega)], rfl⟩
    · rw [if_neg (by omega), if_neg (by omega)] at hc
      refine ⟨(i + 1, max m xs[i.toNat]!), (by repeat' first | exact trivial | refine ⟨rfl, ?_⟩), (by (try dsimp only); omega), ?_⟩
      refine ⟨rfl, by omega, by omega, by omega, by omega, ?_⟩
      rw [show (i + 1).toNat = i.toNat + 1 by omega, ← hc]
      congr 1
      omega
  · rw [show xs.drop i.toNat = [] by simp; omega, checkFrom] at hc
    repeat' first
      | refine CO.cons rfl ?_
      | refine CO.nil ?_
      | refine CV.seq ?_
      | refine CV.region callees ?_
      | refine CV.cond ?_
      | refine CV.block ?_
      | refine CV.skip ?_
      | refine CV.exit ?_
      | refine CV.ret ?_
      | refine CV.scope ?_
      | refine CV.draw callees rfl ?_
      | refine CH.cons rfl ?_
      | refine CH.nil ?_
      | refine CO.consG rfl ?_
      | refine CH.consG rfl ?_
      | refine CG.cons rfl ?_
      | refine CG.nil ?_
      | refine CG.consG rfl ?_
      | refine ⟨(rfl : plain _ = true), ?_⟩
      | refine ⟨(rfl : nilOk _ = some _), ?_⟩
      | refine ⟨_, ints_len (by assumption), ?_⟩
      | refine ⟨_, ints_addr (by assumption) (by omega) (by omega), ?_⟩
      | refine ⟨_, ints_load (by assumption) (by omega) (by omega), ?_⟩
      | refine ⟨(⟨by omega, by omega⟩ : inI64 _), ?_⟩
      | refine ⟨_, fun tm ha => step1_max rfl (ev_tmp ha rfl) (ev_tmp ha rfl), ?_⟩
      | refine ⟨_, fun tm ha => step1_min rfl (ev_tmp ha rfl) (ev_tmp ha rfl), ?_⟩
      | (refine ⟨fun _ => ?_, fun _ => ?_⟩ <;> first | (exfalso; omega) | skip)
      | fail
    exact ⟨rfl, by rw [← hc], rfl⟩
set_option maxRecDepth 100000 in
theorem long_spec {B : Nat} {v : Value} {H : Heap} {xs : List Int} (hB : B ≤ H.n) (hv : Ints H v xs) :
    CallB Tryd.prog B 18 [v] H (fun r H' => r = .bool (decide (40 < xs.length)) ∧ H' = H) := by
  refine CV.enter callees false rfl Tryd.func18 rfl ok18 (Nat.le_of_ble_eq_true rfl) hB ?_
  repeat' first
    | refine CO.cons rfl ?_
    | refine CO.nil ?_
    | refine CV.seq ?_
    | refine CV.region callees ?_
    | refine CV.cond ?_
    | refine CV.block ?_
    | refine CV.skip ?_
    | refine CV.exit ?_
    | refine CV.ret ?_
    | refine CV.scope ?_
    | refine CV.draw callees rfl ?_
    | refine CH.cons rfl ?_
    | refine CH.nil ?_
    | refine CO.consG rfl ?_
    | refine CH.consG rfl ?_
    | refine CG.cons rfl ?_
    | refine CG.nil ?_
    | refine CG.consG rfl ?_
    | refine ⟨(rfl : plain _ = true), ?_⟩
    | refine ⟨(rfl : nilOk _ = some _), ?_⟩
    | refine ⟨_, ints_len (by assumption), ?_⟩
    | refine ⟨_, ints_addr (by assumption) (by omega) (by omega), ?_⟩
    | refine ⟨_, ints_load (by assumption) (by omega) (by omega), ?_⟩
    | refine ⟨(⟨by omega, by omega⟩ : inI64 _), ?_⟩
    | refine ⟨_, fun tm ha => step1_max rfl (ev_tmp ha rfl) (ev_tmp ha rfl), ?_⟩
    | refine ⟨_, fun tm ha => step1_min rfl (ev_tmp ha rfl) (ev_tmp ha rfl), ?_⟩
    | (refine ⟨fun _ => ?_, fun _ => ?_⟩ <;> first | (exfalso; omega) | skip)
    | fail
  · exact ⟨rfl, by rw [decide_eq_true (by omega)], rfl⟩
  · exact ⟨rfl, by rw [decide_eq_false (by omega)], rfl⟩
end Go.Proofs.YtkfaiokiaahbaaaDoor


/- Tables in variables; ranks. -/
namespace Go.AI
def zeroCells (P : Program) (t : TypeId) : Option (List Value) :=
  match (P.info? t).bind (·.zero) with
  | some z => bif z.cells.toList.all scalar then some z.cells.toList else none
  | none => none
theorem alloc_of {P : Program} {H : Heap} {t : TypeId} {l : List Value} (h : zeroCells P t = some l) : sAlloc P H t = some (.pointer (some ⟨H.n, 0, none⟩), H.new (.cells l t 1), H.n) := by
  unfold zeroCells at h
  unfold sAlloc
  split at h
  · rename_i z hz
    rw [hz]
    cases hc : z.cells.toList.all scalar with
    | true =>
      rw [hc] at h
      cases h
      simp only [hc, if_true]
      rfl
    | false => rw [hc] at h; cases h
  · cases h
theorem splice_all : ∀ (vs cs : List Value) (i : Nat), i + vs.length ≤ cs.length → splice cs i vs = cs.take i ++ vs ++ cs.drop (i + vs.length)
  | [], cs, i, _ => by simp [splice]
  | v :: vs, cs, i, h => by
    simp only [List.length_cons] at h
    rw [splice, splice_all vs (cs.set i v) (i + 1) (by rw [List.length_set]; omega)]
    have h1 : (cs.set i v).take (i + 1) = cs.take i ++ [v] := by
      apply List.ext_getElem
      · simp; omega
      · intro j h1 h2
        simp only [List.length_take, List.length_set] at h1
        rw [List.getElem_take, List.getElem_set, List.getElem_append]
        by_cases hj : j < i
        · rw [if_neg (by omega), dif_pos (by simp; omega), List.getElem_take]
        · have : j = i := by omega
          subst this
          rw [if_pos rfl, dif_neg (by rw [List.length_take]; omega)]
          simp
    rw [h1, List.drop_set_of_lt (by omega)]
    simp [Nat.add_assoc, Nat.add_comm 1]
theorem store_all {P : Program} {H : Heap} {t e : TypeId} {b k : Nat} {cs vs : List Value} (hb : H.get b = some (.cells cs e (k + 1))) (hl : cs.length = vs.length) (hs : sizeB P t = some vs.length) (ho : vs.all oneC = true) :
    astore P t H (.agg vs.toArray) (.pointer (some ⟨b, 0, none⟩)) = some (H.set b (.cells vs e (k + 1)), b) := by
  have h1 : (Value.agg vs.toArray).cells = vs.toArray := rfl
  simp only [astore, hb, h1, hs]
  rw [if_pos ⟨by simp, by simp; omega, rfl, by simpa using ho⟩, splice_all _ _ _ (by simp; omega)]
  simp only [List.take_zero, List.nil_append, Nat.zero_add]
  rw [List.drop_eq_nil_of_le (by omega), List.append_nil]
theorem array_addr {P : Program} {t e : TypeId} {len s : Nat} (ht : P.underlying t = some (.array len e)) (hs : sizeB P e = some s) {b i : Nat} {k : Int} {kd : IntKind} (h0 : 0 ≤ k) (h1 : k < len) :
    aindexAddr P t (.pointer (some ⟨b, i, none⟩)) (.int kd k) = some (.pointer (some ⟨b, i + k.toNat * s, none⟩)) := by
  simp [aindexAddr, asIdx, ht, hs, h0, h1]
theorem row_slice {P : Program} {H : Heap} {t e : TypeId} {v : Value} {vs : List Value} {i : Int} {kd : IntKind} (ht : P.underlying t = some (.slice e)) (hs : sizeB P e = some 1) (hv : Row H v vs) (h0 : 0 ≤ i) (h1 : i ≤ vs.length) :
    ∃ r, aslice P t v none (some (some (.int kd i))) = some r ∧ Row H r (vs.take i.toNat) := by
  rcases hv with ⟨rfl, rfl⟩ | ⟨rfl, rfl⟩ | ⟨b, o, c, cs, e', k, rfl, h2, h3, h4, h5, h6⟩
  · simp at h1
    have : i = 0 := by omega
    subst this
    exact ⟨.slice none 0 0, by simp [aslice, ht, hs, bound], .inl ⟨rfl, by simp⟩⟩
  · simp at h1
    have : i = 0 := by omega
    subst this
    exact ⟨anon, by simp [aslice, anon, ht, hs, bound], .inr (.inl ⟨rfl, by simp⟩)⟩
  · refine ⟨.slice (some ⟨b, o, none⟩) i.toNat c, by simp [aslice, ht, hs, bound, h0, h1], .inr (.inr ⟨b, o, c, cs, e', k, ?_, h2, h3, h4, ?_, ?_⟩)⟩
    · rw [List.length_take]; congr 1; omega
    · rw [List.length_take]; omega
    · intro j w hj
      rw [List.getElem?_take] at hj
      split at hj
      · exact h6 j w hj
      · cases hj
end Go.AI
namespace Go.Proofs.YtkfaiokiaahbaaaDoor
open Go.AI
theorem slice_ask {K : Value → Prop} {H : Heap} {v : Value} {xs : List Int} {i : Int} (hv : Ints H v xs) (h0 : 0 ≤ i) (h1 : i ≤ xs.length) (hk : ∀ r, Ints H r (xs.take i.toNat) → K r) :
    ∃ r, aslice Tryd.prog 22 v none (some (some (.int .i64 i))) = some r ∧ K r := by
  obtain ⟨r, h2, h3⟩ := row_slice (kd := .i64) un22 sz3 hv h0 (by simpa using h1)
  exact ⟨r, h2, hk r (by rw [← List.map_take] at h3; exact h3)⟩
theorem zero79 : zeroCells Tryd.prog 79 = some (List.replicate 100 (VI 0)) := by kernel_rfl
theorem sz79 : sizeB Tryd.prog 79 = some 100 := by kernel_rfl
theorem alloc79 {H : Heap} : sAlloc Tryd.prog H 79 = some (.pointer (some ⟨H.n, 0, none⟩), H.new (.cells (List.replicate 100 (VI 0)) 79 1), H.n) := alloc_of zero79
theorem store79 {H : Heap} {b : Nat} {cs : List Value} {T : List Int} (hT : T.length = 100) (hb : H.get b = some (.cells cs 79 1)) (hl : cs.length = 100) :
    astore Tryd.prog 79 H (tabV T) (.pointer (some ⟨b, 0, none⟩)) = some (H.set b (.cells (T.map VI) 79 1), b) :=
  store_all (vs := T.map VI) hb (by rw [List.length_map, hl, hT]) (by rw [List.length_map, hT]; exact sz79) (by simp [oneC])
theorem tab_addr {b i : Nat} {n : Int} (h0 : 0 ≤ n) (h1 : n < 10) : aindexAddr Tryd.prog 79 (.pointer (some ⟨b, i, none⟩)) (.int .i64 n) = some (.pointer (some ⟨b, i + n.toNat * 10, none⟩)) := array_addr un79 sz77 h0 (by omega)
theorem row_addr {b i : Nat} {n : Int} (h0 : 0 ≤ n) (h1 : n < 10) : aindexAddr Tryd.prog 77 (.pointer (some ⟨b, i, none⟩)) (.int .i64 n) = some (.pointer (some ⟨b, i + n.toNat * 1, none⟩)) := array_addr un77 sz3 h0 (by omega)
theorem tab_load {H : Heap} {b : Nat} {T : List Int} {n k : Int} (hT : T.length = 100) (hb : H.get b = some (.cells (T.map VI) 79 1)) (h0 : 0 ≤ n) (h1 : n < 10) (h2 : 0 ≤ k) (h3 : k < 10) :
    aload Tryd.prog 3 H (.pointer (some ⟨b, 0 + n.toNat * 10 + k.toNat * 1, none⟩)) = some (.int .i64 T[n.toNat * 10 + k.toNat]!) := by
  have hlt : n.toNat * 10 + k.toNat < T.length := by omega
  simp only [aload, hb, ag3]
  rw [show 0 + n.toNat * 10 + k.toNat * 1 = n.toNat * 10 + k.toNat by omega, List.getElem?_map, List.getElem?_eq_getElem hlt, getElem!_pos T _ hlt]
  rfl

/-- How many ways there are to go on. -/
def behM : Nat → Int → Int
  | 0, _ => 1
  | n + 1, b => b * behM n b + behM n (b + 1)
theorem beh_in : ∀ n < 10, ∀ b < 10, n + b ≤ 9 → 1 ≤ behM n (b : Nat) ∧ behM n (b : Nat) ≤ 21147 ∧ endT[n * 10 + b]! = behM n (b : Nat) := by decide +kernel
theorem beh_at {n : Nat} {b : Int} (h0 : 0 ≤ b) (h1 : (n : Int) + b ≤ 9) : 1 ≤ behM n b ∧ behM n b ≤ 21147 ∧ endT[n * 10 + b.toNat]! = behM n b := by
  have := beh_in n (by omega) b.toNat (by omega) (by omega)
  rwa [show ((b.toNat : Nat) : Int) = b by omega] at this
set_option maxRecDepth 100000 in
theorem behind_spec : ∀ (n : Nat) {B : Nat} {H : Heap} {m b : Int}, B ≤ H.n → m = n → 0 ≤ b → (n : Int) + b ≤ 9 →
    CallB Tryd.prog B 86 [.int .i64 m, .int .i64 b] H (fun r H' => r = .int .i64 (behM n b) ∧ H' = H)
  | 0, B, H, m, b, hB, hm, h0, h1 => by
    refine CV.enter callees false rfl Tryd.func86 rfl ok86 (Nat.le_of_ble_eq_true rfl) hB ?_
    repeat' first
      | refine CO.cons rfl ?_
      | refine CO.nil ?_
      | refine CV.seq ?_
      | refine CV.region callees ?_
      | refine CV.cond ?_
      | refine CV.block ?_
      | refine CV.skip ?_
      | refine CV.exit ?_
      | refine CV.ret ?_
      | refine CV.scope ?_
      | refine CV.draw callees rfl ?_
      | refine CH.cons rfl ?_
      | refine CH.nil ?_
      | refine CO.consG rfl ?_
      | refine CH.consG rfl ?_
      | refine CG.cons rfl ?_
      | refine CG.nil ?_
      | refine CG.consG rfl ?_
      | refine ⟨(rfl : plain _ = true), ?_⟩
      | refine ⟨(rfl : nilOk _ = some _), ?_⟩
      | refine ⟨_, ints_len (by assumption), ?_⟩
      | refine ⟨_, ints_addr (by assumption) (by omega) (by omega), ?_⟩
      | refine ⟨_, ints_load (by assumption) (by omega) (by omega), ?_⟩
      | refine ⟨(⟨by omega, by omega⟩ : inI64 _), ?_⟩
      | refine ⟨_, fun tm ha => step1_max rfl (ev_tmp ha rfl) (ev_tmp ha rfl), ?_⟩
      | refine ⟨_, fun tm ha => step1_min rfl (ev_tmp ha rfl) (ev_tmp ha rfl), ?_⟩
      | (refine ⟨fun _ => ?_, fun _ => ?_⟩ <;> first | (exfalso; omega) | skip)
      | fail
    all_goals exact ⟨rfl, rfl, rfl⟩
  | n + 1, B, H, m, b, hB, hm, h0, h1 => by
    refine CV.enter callees false rfl Tryd.func86 rfl ok86 (Nat.le_of_ble_eq_true rfl) hB ?_
    have b1 := beh_at (n := n) (b := b) (by omega) (by omega)
    have b2 := beh_at (n := n) (b := b + 1) (by omega) (by omega)
    have b3 : 0 ≤ b * behM n b ∧ b * behM n b ≤ 9 * 21147 := ⟨Int.mul_nonneg h0 (by omega), Int.mul_le_mul (by omega) b1.2.1 (by omega) (by decide)⟩
    repeat' first
      | refine CO.cons rfl ?_
      | refine CO.nil ?_
      | refine CV.seq ?_
      | refine CV.region callees ?_
      | refine CV.cond ?_
      | refine CV.block ?_
      | refine CV.skip ?_
      | refine CV.exit ?_
      | refine CV.ret ?_
      | refine CV.scope ?_
      | refine CV.draw callees rfl ?_
      | refine CH.cons rfl ?_
      | refine CH.nil ?_
      | refine CO.consG rfl ?_
      | refine CH.consG rfl ?_
      | refine CG.cons rfl ?_
      | refine CG.nil ?_
      | refine CG.consG rfl ?_
      | refine ⟨(rfl : plain _ = true), ?_⟩
      | refine ⟨(rfl : nilOk _ = some _), ?_⟩
      | refine ⟨_, ints_len (by assumption), ?_⟩
      | refine ⟨_, ints_addr (by assumption) (by omega) (by omega), ?_⟩
      | refine ⟨_, ints_load (by assumption) (by omega) (by omega), ?_⟩
      | refine ⟨(⟨by omega, by omega⟩ : inI64 _), ?_⟩
      | refine ⟨_, fun tm ha => step1_max rfl (ev_tmp ha rfl) (ev_tmp ha rfl), ?_⟩
      | refine ⟨_, fun tm ha => step1_min rfl (ev_tmp ha rfl) (ev_tmp ha rfl), ?_⟩
      | (refine (behind_spec n hB (by omega) (by omega) (by omega)).mono ?_; rintro r H' ⟨rfl, rfl⟩)
      | (refine ⟨fun _ => ?_, fun _ => ?_⟩ <;> first | (exfalso; omega) | skip)
      | fail
    all_goals exact ⟨rfl, by rw [behM], rfl⟩

/-- The rank, from a place on. -/
def rkF : List Int → Int → Int
  | [], _ => 0
  | x :: r, b => x * behM r.length b + rkF r (max b (x + 1))
theorem mul_bound {x y : Int} (h0 : 0 ≤ x) (h1 : x ≤ 8) (h2 : 1 ≤ y) (h3 : y ≤ 21147) : 0 ≤ x * y ∧ x * y ≤ 8 * 21147 := ⟨Int.mul_nonneg h0 (by omega), Int.mul_le_mul h1 h3 (by omega) (by decide)⟩
def rankR (xs : List Int) : Int × Int := if check xs = 0 then (rkF xs 0, 0) else (0, check xs)
theorem from_step {x b : Int} {r : List Int} (h : checkFrom (x :: r) b = 0) : 0 ≤ x ∧ x ≤ 8 ∧ x ≤ b ∧ checkFrom r (max b (x + 1)) = 0 := by
  rw [checkFrom] at h
  split at h
  · cases h
  split at h
  · cases h
  exact ⟨by omega, by omega, by omega, h⟩

set_option maxRecDepth 100000 in
theorem rank_spec {B : Nat} {v : Value} {H : Heap} {xs : List Int} (hn : B ≤ H.n) (hb : Base H) (hv : Ints H v xs) :
    CallB Tryd.prog B 35 [v] H (fun r H' => r = pairV (rankR xs) ∧ Keep H H') := by
  refine CV.enter callees false rfl Tryd.func35 rfl ok35 (Nat.le_of_ble_eq_true rfl) hn ?_
  repeat' first
    | refine CO.cons rfl ?_
    | refine CO.nil ?_
    | refine CV.seq ?_
    | refine CV.region callees ?_
    | refine CV.cond ?_
    | refine CV.block ?_
    | refine CV.skip ?_
    | refine CV.exit ?_
    | refine CV.ret ?_
    | refine CV.scope ?_
    | refine CV.draw callees rfl ?_
    | refine CH.cons rfl ?_
    | refine CH.nil ?_
    | refine CO.consG rfl ?_
    | refine CH.consG rfl ?_
    | refine CG.cons rfl ?_
    | refine CG.nil ?_
    | refine CG.consG rfl ?_
    | refine ⟨(rfl : plain _ = true), ?_⟩
    | refine ⟨(rfl : nilOk _ = some _), ?_⟩
    | refine ⟨_, ints_len (by assumption), ?_⟩
    | refine ⟨_, ints_addr (by assumption) (by omega) (by omega), ?_⟩
    | refine ⟨_, ints_load (by assumption) (by omega) (by omega), ?_⟩
    | refine ⟨(⟨by omega, by omega⟩ : inI64 _), ?_⟩
    | refine ⟨_, fun tm ha => step1_max rfl (ev_tmp ha rfl) (ev_tmp ha rfl), ?_⟩
    | refine ⟨_, fun tm ha => step1_min rfl (ev_tmp ha rfl) (ev_tmp ha rfl), ?_⟩
    | (refine ⟨fun _ => ?_, fun _ => ?_⟩ <;> first | (exfalso; omega) | skip)
    | fail
  refine (check_spec hn hv).mono ?_
  rintro r H1 ⟨rfl, rfl⟩
  repeat' first
    | refine CO.cons rfl ?_
    | refine CO.nil ?_
    | refine CV.seq ?_
    | refine CV.region callees ?_
    | refine CV.cond ?_
    | refine CV.block ?_
    | refine CV.skip ?_
    | refine CV.exit ?_
    | refine CV.ret ?_
    | refine CV.scope ?_
    | refine CV.draw callees rfl ?_
    | refine CH.cons rfl ?_
    | refine CH.nil ?_
    | refine CO.consG rfl ?_
    | refine CH.consG rfl ?_
    | refine CG.cons rfl ?_
    | refine CG.nil ?_
    | refine CG.consG rfl ?_
    | refine ⟨(rfl : plain _ = true), ?_⟩
    | refine ⟨(rfl : nilOk _ = some _), ?_⟩
    | refine ⟨_, ints_len (by assumption), ?_⟩
    | refine ⟨_, ints_addr (by assumption) (by omega) (by omega), ?_⟩
    | refine ⟨_, ints_load (by assumption) (by omega) (by omega), ?_⟩
    | refine ⟨(⟨by omega, by omega⟩ : inI64 _), ?_⟩
    | refine ⟨_, fun tm ha => step1_max rfl (ev_tmp ha rfl) (ev_tmp ha rfl), ?_⟩
    | refine ⟨_, fun tm ha => step1_min rfl (ev_tmp ha rfl) (ev_tmp ha rfl), ?_⟩
    | (refine ⟨fun _ => ?_, fun _ => ?_⟩ <;> first | (exfalso; omega) | skip)
    | fail
  · exact ⟨rfl, by rw [rankR, if_neg (by assumption)]; rfl, Keep.refl _⟩
  have h0 : check xs = 0 := Classical.not_not.1 (by assumption)
  have hlx := check_from h0
  have hg : (H1.new (.cells (List.replicate 100 (VI 0)) 79 1)).get H1.n = some (.cells (List.replicate 100 (VI 0)) 79 1) := Heap.get_new_eq _ _
  have k1 : Keep H1 ((H1.new (.cells (List.replicate 100 (VI 0)) 79 1)).set H1.n (.cells (endT.map VI) 79 1)) := (Keep.new _ _).set _ (Nat.le_refl _)
  have hg2 : ((H1.new (.cells (List.replicate 100 (VI 0)) 79 1)).set H1.n (.cells (endT.map VI) 79 1)).get H1.n = some (.cells (endT.map VI) 79 1) := Heap.get_set_eq _ _ _
  have hv2 : Ints _ v xs := Row.keep hv k1
  generalize hH2 : (H1.new (.cells (List.replicate 100 (VI 0)) 79 1)).set H1.n (.cells (endT.map VI) 79 1) = H2 at k1 hg2 hv2
  repeat' first
    | refine CO.cons rfl ?_
    | refine CO.nil ?_
    | refine CV.seq ?_
    | refine CV.region callees ?_
    | refine CV.cond ?_
    | refine CV.block ?_
    | refine CV.skip ?_
    | refine CV.exit ?_
    | refine CV.ret ?_
    | refine CV.scope ?_
    | refine CV.draw callees rfl ?_
    | refine CH.cons rfl ?_
    | refine CH.nil ?_
    | refine CO.consG rfl ?_
    | refine CH.consG rfl ?_
    | refine CG.cons rfl ?_
    | refine CG.nil ?_
    | refine CG.consG rfl ?_
    | refine ⟨(rfl : plain _ = true), ?_⟩
    | refine ⟨(rfl : nilOk _ = some _), ?_⟩
    | refine ⟨_, ints_len (by assumption), ?_⟩
    | refine ⟨_, ints_addr (by assumption) (by omega) (by omega), ?_⟩
    | refine ⟨_, ints_load (by assumption) (by omega) (by omega), ?_⟩
    | refine ⟨(⟨by omega, by omega⟩ : inI64 _), ?_⟩
    | refine ⟨_, fun tm ha => step1_max rfl (ev_tmp ha rfl) (ev_tmp ha rfl), ?_⟩
    | refine ⟨_, fun tm ha => step1_min rfl (ev_tmp ha rfl) (ev_tmp ha rfl), ?_⟩
    | refine CallB.known rfl hb hn ?_
    | refine ⟨_, _, alloc79, ?_⟩
    | refine ⟨_, _, store79 endT_len hg (by simp), hn, ?_⟩
    | (refine ⟨fun _ => ?_, fun _ => ?_⟩ <;> first | (exfalso; omega) | skip)
    | fail
  rw [hH2]
  repeat' first
    | refine CO.cons rfl ?_
    | refine CO.nil ?_
    | refine CV.seq ?_
    | refine CV.region callees ?_
    | refine CV.cond ?_
    | refine CV.block ?_
    | refine CV.skip ?_
    | refine CV.exit ?_
    | refine CV.ret ?_
    | refine CV.scope ?_
    | refine CV.draw callees rfl ?_
    | refine CH.cons rfl ?_
    | refine CH.nil ?_
    | refine CO.consG rfl ?_
    | refine CH.consG rfl ?_
    | refine CG.cons rfl ?_
    | refine CG.nil ?_
    | refine CG.consG rfl ?_
    | refine ⟨(rfl : plain _ = true), ?_⟩
    | refine ⟨(rfl : nilOk _ = some _), ?_⟩
    | refine ⟨_, ints_len (by assumption), ?_⟩
    | refine ⟨_, ints_addr (by assumption) (by omega) (by omega), ?_⟩
    | refine ⟨_, ints_load (by assumption) (by omega) (by omega), ?_⟩
    | refine ⟨(⟨by omega, by omega⟩ : inI64 _), ?_⟩
    | refine ⟨_, fun tm ha => step1_max rfl (ev_tmp ha rfl) (ev_tmp ha rfl), ?_⟩
    | refine ⟨_, fun tm ha => step1_min rfl (ev_tmp ha rfl) (ev_tmp ha rfl), ?_⟩
    | (refine ⟨fun _ => ?_, fun _ => ?_⟩ <;> first | (exfalso; omega) | skip)
    | fail
  refine CV.loopc ?_
  refine WCv.rounds callees false (α := Int × Int × Int) (fun (i, s, m) => [(0, v), (5, .pointer (some ⟨H1.n, 0, none⟩)), (6, .int .i64 s), (7, .int .i64 m), (16, v), (17, .int .i64 xs.length), (18, .int .i64 i)]) (fun (i, s, m) Hz => Hz = H2 ∧ 0 ≤ i ∧ i ≤ xs.length ∧ 0 ≤ m ∧ m ≤ i ∧ 0 ≤ s ∧ s ≤ i * 200000 ∧ checkFrom (xs.drop i.toNat) m = 0 ∧ s + rkF (xs.drop i.toNat) m = rkF xs 0) (fun (i, s, m) => xs.length - i.toNat) (0, 0, 0) (by repeat' first | exact trivial | refine ⟨rfl, ?_⟩) ?_ ?_
  · exact ⟨rfl, by omega, by omega, by omega, by omega, by omega, by omega, hlx.1, by simp⟩
  rintro ⟨i, s, m⟩ Hx ⟨rfl, hi0, hi1, hm0, hm1, hs0, hs1, hc, hr⟩ _
  by_cases hi : i < xs.length
  · have hdl : (xs.drop (i.toNat + 1)).length = ((xs.length : Int) - 1 - i).toNat := by simp; omega
    rw [drop_cons (xs := xs) (n := i.toNat) (by omega)] at hc hr
    obtain ⟨hx0, hx8, hxm, hc'⟩ := from_step hc
    have be := beh_at (n := ((xs.length : Int) - 1 - i).toNat) (b := m) hm0 (by omega)
    rw [rkF, hdl] at hr
    rw [← be.2.2] at hr
    have mb := mul_bound (x := xs[i.toNat]!) (y := endT[((xs.length : Int) - 1 - i).toNat * 10 + m.toNat]!) hx0 hx8 (by omega) (by omega)
    repeat' first
      | refine CO.cons rfl ?_
      | refine CO.nil ?_
      | refine CV.seq ?_
      | refine CV.region callees ?_
      | refine CV.cond ?_
      | refine CV.block ?_
      | refine CV.skip ?_
      | refine CV.exit ?_
      | refine CV.ret ?_
      | refine CV.scope ?_
      | refine CV.draw callees rfl ?_
      | refine CH.cons rfl ?_
      | refine CH.nil ?_
      | refine CO.consG rfl ?_
      | refine CH.consG rfl ?_
      | refine CG.cons rfl ?_
      | refine CG.nil ?_
      | refine CG.consG rfl ?_
      | refine ⟨(rfl : plain _ = true), ?_⟩
      | refine ⟨(rfl : nilOk _ = some _), ?_⟩
      | refine ⟨_, ints_len (by assumption), ?_⟩
      | refine ⟨_, ints_addr (by assumption) (by omega) (by omega), ?_⟩
      | refine ⟨_, ints_load (by assumption) (by omega) (by omega), ?_⟩
      | refine ⟨(⟨by omega, by omega⟩ : inI64 _), ?_⟩
      | refine ⟨_, fun tm ha => step1_max rfl (ev_tmp ha rfl) (ev_tmp ha rfl), ?_⟩
      | refine ⟨_, fun tm ha => step1_min rfl (ev_tmp ha rfl) (ev_tmp ha rfl), ?_⟩
      | refine ⟨_, tab_addr (by omega) (by omega), ?_⟩
      | refine ⟨_, row_addr (by omega) (by omega), ?_⟩
      | refine ⟨_, tab_load endT_len hg2 (by omega) (by omega) (by omega) (by omega), ?_⟩
      | (refine ⟨fun _ => ?_, fun _ => ?_⟩ <;> first | (exfalso; omega) | skip)
      | fail
    refine ⟨(i + 1, s + xs[i.toNat]! * endT[((xs.length : Int) - 1 - i).toNat * 10 + m.toNat]!, max m (xs[i.toNat]! + 1)), (by repeat' first | exact trivial | refine ⟨rfl, ?_⟩), (by (try dsimp only); omega), ?_⟩
    have e : (i + 1).toNat = i.toNat + 1 := by omega
    refine ⟨rfl, by omega, by omega, by omega, by omega, by omega, by omega, by rw [e]; exact hc', by rw [e]; omega⟩
  · rw [show xs.drop i.toNat = [] by simp; omega, rkF] at hr
    repeat' first
      | refine CO.cons rfl ?_
      | refine CO.nil ?_
      | refine CV.seq ?_
      | refine CV.region callees ?_
      | refine CV.cond ?_
      | refine CV.block ?_
      | refine CV.skip ?_
      | refine CV.exit ?_
      | refine CV.ret ?_
      | refine CV.scope ?_
      | refine CV.draw callees rfl ?_
      | refine CH.cons rfl ?_
      | refine CH.nil ?_
      | refine CO.consG rfl ?_
      | refine CH.consG rfl ?_
      | refine CG.cons rfl ?_
      | refine CG.nil ?_
      | refine CG.consG rfl ?_
      | refine ⟨(rfl : plain _ = true), ?_⟩
      | refine ⟨(rfl : nilOk _ = some _), ?_⟩
      | refine ⟨_, ints_len (by assumption), ?_⟩
      | refine ⟨_, ints_addr (by assumption) (by omega) (by omega), ?_⟩
      | refine ⟨_, ints_load (by assumption) (by omega) (by omega), ?_⟩
      | refine ⟨(⟨by omega, by omega⟩ : inI64 _), ?_⟩
      | refine ⟨_, fun tm ha => step1_max rfl (ev_tmp ha rfl) (ev_tmp ha rfl), ?_⟩
      | refine ⟨_, fun tm ha => step1_min rfl (ev_tmp ha rfl) (ev_tmp ha rfl), ?_⟩
      | (refine ⟨fun _ => ?_, fun _ => ?_⟩ <;> first | (exfalso; omega) | skip)
      | fail
    exact ⟨rfl, by rw [rankR, if_pos h0, ← hr]; simp [pairV], k1⟩
end Go.Proofs.YtkfaiokiaahbaaaDoor


/- The reference's ranks; partitions of ranks. -/
namespace Go.Proofs.YtkfaiokiaahbaaaDoor
open Go.AI
theorem blk_snoc (x : Int) : ∀ (l : List Int) (n : Int), blkFrom (l ++ [x]) n = max (blkFrom l n) (x + 1)
  | [], _ => rfl
  | y :: l, n => by rw [List.cons_append, blkFrom, blkFrom, blk_snoc x l]
theorem take_snoc {xs : List Int} {i : Nat} (h : i < xs.length) : xs.take (i + 1) = xs.take i ++ [xs[i]!] := by
  rw [List.take_add_one, List.getElem?_eq_getElem h, getElem!_pos xs i h]; rfl
set_option maxRecDepth 100000 in
theorem refBlocks_spec {B : Nat} {v : Value} {H : Heap} {xs : List Int} (hB : B ≤ H.n) (hv : Ints H v xs) (hb : ∀ i, i < xs.length → 0 ≤ xs[i]! ∧ xs[i]! < 9) (hn : xs.length < 1000000) :
    CallB Tryd.prog B 87 [v] H (fun r H' => r = .int .i64 (blkFrom xs 0) ∧ H' = H) := by
  refine CV.enter callees false rfl Tryd.func87 rfl ok87 (Nat.le_of_ble_eq_true rfl) hB ?_
  repeat' first
    | refine CO.cons rfl ?_
    | refine CO.nil ?_
    | refine CV.seq ?_
    | refine CV.region callees ?_
    | refine CV.cond ?_
    | refine CV.block ?_
    | refine CV.skip ?_
    | refine CV.exit ?_
    | refine CV.ret ?_
    | refine CV.scope ?_
    | refine CV.draw callees rfl ?_
    | refine CH.cons rfl ?_
    | refine CH.nil ?_
    | refine CO.consG rfl ?_
    | refine CH.consG rfl ?_
    | refine CG.cons rfl ?_
    | refine CG.nil ?_
    | refine CG.consG rfl ?_
    | refine ⟨(rfl : plain _ = true), ?_⟩
    | refine ⟨(rfl : nilOk _ = some _), ?_⟩
    | refine ⟨_, ints_len (by assumption), ?_⟩
    | refine ⟨_, ints_addr (by assumption) (by omega) (by omega), ?_⟩
    | refine ⟨_, ints_load (by assumption) (by omega) (by omega), ?_⟩
    | refine ⟨(⟨by omega, by omega⟩ : inI64 _), ?_⟩
    | refine ⟨_, fun tm ha => step1_max rfl (ev_tmp ha rfl) (ev_tmp ha rfl), ?_⟩
    | refine ⟨_, fun tm ha => step1_min rfl (ev_tmp ha rfl) (ev_tmp ha rfl), ?_⟩
    | (refine ⟨fun _ => ?_, fun _ => ?_⟩ <;> first | (exfalso; omega) | skip)
    | fail
  refine CV.loopc ?_
  refine WCv.rounds callees false (α := Int × Int) (fun (i, m) => [(0, v), (3, .int .i64 m), (4, .int .i64 i)]) (fun (i, m) Hz => Hz = H ∧ 0 ≤ i ∧ i ≤ xs.length ∧ 0 ≤ m ∧ m ≤ 9 ∧ blkFrom (xs.drop i.toNat) m = blkFrom xs 0) (fun (i, m) => xs.length - i.toNat) (0, 0) (by repeat' first | exact trivial | refine ⟨rfl, ?_⟩) ?_ ?_
  · exact ⟨rfl, by simp, by simp, by simp, by simp, by simp⟩
  rintro ⟨i, m⟩ Hx ⟨rfl, hi0, hi1, hm0, hm1, hc⟩ _
  by_cases hi : i < xs.length
  · have hx := hb i.toNat (by omega)
    rw [drop_cons (xs := xs) (n := i.toNat) (by omega), blkFrom] at hc
    repeat' first
      | refine CO.cons rfl ?_
      | refine CO.nil ?_
      | refine CV.seq ?_
      | refine CV.region callees ?_
      | refine CV.cond ?_
      | refine CV.block ?_
      | refine CV.skip ?_
      | refine CV.exit ?_
      | refine CV.ret ?_
      | refine CV.scope ?_
      | refine CV.draw callees rfl ?_
      | refine CH.cons rfl ?_
      | refine CH.nil ?_
      | refine CO.consG rfl ?_
      | refine CH.consG rfl ?_
      | refine CG.cons rfl ?_
      | refine CG.nil ?_
      | refine CG.consG rfl ?_
      | refine ⟨(rfl : plain _ = true), ?_⟩
      | refine ⟨(rfl : nilOk _ = some _), ?_⟩
      | refine ⟨_, ints_len (by assumption), ?_⟩
      | refine ⟨_, ints_addr (by assumption) (by omega) (by omega), ?_⟩
      | refine ⟨_, ints_load (by assumption) (by omega) (by omega), ?_⟩
      | refine ⟨(⟨by omega, by omega⟩ : inI64 _), ?_⟩
      | refine ⟨_, fun tm ha => step1_max rfl (ev_tmp ha rfl) (ev_tmp ha rfl), ?_⟩
      | refine ⟨_, fun tm ha => step1_min rfl (ev_tmp ha rfl) (ev_tmp ha rfl), ?_⟩
      | (refine ⟨fun _ => ?_, fun _ => ?_⟩ <;> first | (exfalso; omega) | skip)
      | fail
    refine ⟨(i + 1, max m (xs[i.toNat]! + 1)), (by repeat' first | exact trivial | refine ⟨rfl, ?_⟩), (by (try dsimp only); omega), ?_⟩
    exact ⟨rfl, by omega, by omega, by omega, by omega, by rw [show (i + 1).toNat = i.toNat + 1 by omega]; exact hc⟩
  · rw [show xs.drop i.toNat = [] by simp; omega, blkFrom] at hc
    repeat' first
      | refine CO.cons rfl ?_
      | refine CO.nil ?_
      | refine CV.seq ?_
      | refine CV.region callees ?_
      | refine CV.cond ?_
      | refine CV.block ?_
      | refine CV.skip ?_
      | refine CV.exit ?_
      | refine CV.ret ?_
      | refine CV.scope ?_
      | refine CV.draw callees rfl ?_
      | refine CH.cons rfl ?_
      | refine CH.nil ?_
      | refine CO.consG rfl ?_
      | refine CH.consG rfl ?_
      | refine CG.cons rfl ?_
      | refine CG.nil ?_
      | refine CG.consG rfl ?_
      | refine ⟨(rfl : plain _ = true), ?_⟩
      | refine ⟨(rfl : nilOk _ = some _), ?_⟩
      | refine ⟨_, ints_len (by assumption), ?_⟩
      | refine ⟨_, ints_addr (by assumption) (by omega) (by omega), ?_⟩
      | refine ⟨_, ints_load (by assumption) (by omega) (by omega), ?_⟩
      | refine ⟨(⟨by omega, by omega⟩ : inI64 _), ?_⟩
      | refine ⟨_, fun tm ha => step1_max rfl (ev_tmp ha rfl) (ev_tmp ha rfl), ?_⟩
      | refine ⟨_, fun tm ha => step1_min rfl (ev_tmp ha rfl) (ev_tmp ha rfl), ?_⟩
      | (refine ⟨fun _ => ?_, fun _ => ?_⟩ <;> first | (exfalso; omega) | skip)
      | fail
    exact ⟨rfl, by rw [hc], rfl⟩

theorem take_bound {xs : List Int} (h : ∀ i, i < xs.length → 0 ≤ xs[i]! ∧ xs[i]! < 9) (k : Nat) : ∀ i, i < (xs.take k).length → 0 ≤ (xs.take k)[i]! ∧ (xs.take k)[i]! < 9 := by
  intro i hi
  have h1 : i < xs.length := by rw [List.length_take] at hi; omega
  have := h i h1
  rw [getElem!_pos _ i hi, List.getElem_take]
  rwa [getElem!_pos _ i h1] at this
set_option maxRecDepth 100000 in
theorem refRank_spec {B : Nat} {v : Value} {H : Heap} {xs : List Int} (hn : B ≤ H.n) (hv : Ints H v xs) :
    CallB Tryd.prog B 36 [v] H (fun r H' => r = pairV (rankR xs) ∧ H' = H) := by
  refine CV.enter callees false rfl Tryd.func36 rfl ok36 (Nat.le_of_ble_eq_true rfl) hn ?_
  repeat' first
    | refine CO.cons rfl ?_
    | refine CO.nil ?_
    | refine CV.seq ?_
    | refine CV.region callees ?_
    | refine CV.cond ?_
    | refine CV.block ?_
    | refine CV.skip ?_
    | refine CV.exit ?_
    | refine CV.ret ?_
    | refine CV.scope ?_
    | refine CV.draw callees rfl ?_
    | refine CH.cons rfl ?_
    | refine CH.nil ?_
    | refine CO.consG rfl ?_
    | refine CH.consG rfl ?_
    | refine CG.cons rfl ?_
    | refine CG.nil ?_
    | refine CG.consG rfl ?_
    | refine ⟨(rfl : plain _ = true), ?_⟩
    | refine ⟨(rfl : nilOk _ = some _), ?_⟩
    | refine ⟨_, ints_len (by assumption), ?_⟩
    | refine ⟨_, ints_addr (by assumption) (by omega) (by omega), ?_⟩
    | refine ⟨_, ints_load (by assumption) (by omega) (by omega), ?_⟩
    | refine ⟨(⟨by omega, by omega⟩ : inI64 _), ?_⟩
    | refine ⟨_, fun tm ha => step1_max rfl (ev_tmp ha rfl) (ev_tmp ha rfl), ?_⟩
    | refine ⟨_, fun tm ha => step1_min rfl (ev_tmp ha rfl) (ev_tmp ha rfl), ?_⟩
    | (refine ⟨fun _ => ?_, fun _ => ?_⟩ <;> first | (exfalso; omega) | skip)
    | fail
  refine (refCheck_spec hn hv).mono ?_
  rintro r H1 ⟨rfl, rfl⟩
  repeat' first
    | refine CO.cons rfl ?_
    | refine CO.nil ?_
    | refine CV.seq ?_
    | refine CV.region callees ?_
    | refine CV.cond ?_
    | refine CV.block ?_
    | refine CV.skip ?_
    | refine CV.exit ?_
    | refine CV.ret ?_
    | refine CV.scope ?_
    | refine CV.draw callees rfl ?_
    | refine CH.cons rfl ?_
    | refine CH.nil ?_
    | refine CO.consG rfl ?_
    | refine CH.consG rfl ?_
    | refine CG.cons rfl ?_
    | refine CG.nil ?_
    | refine CG.consG rfl ?_
    | refine ⟨(rfl : plain _ = true), ?_⟩
    | refine ⟨(rfl : nilOk _ = some _), ?_⟩
    | refine ⟨_, ints_len (by assumption), ?_⟩
    | refine ⟨_, ints_addr (by assumption) (by omega) (by omega), ?_⟩
    | refine ⟨_, ints_load (by assumption) (by omega) (by omega), ?_⟩
    | refine ⟨(⟨by omega, by omega⟩ : inI64 _), ?_⟩
    | refine ⟨_, fun tm ha => step1_max rfl (ev_tmp ha rfl) (ev_tmp ha rfl), ?_⟩
    | refine ⟨_, fun tm ha => step1_min rfl (ev_tmp ha rfl) (ev_tmp ha rfl), ?_⟩
    | (refine ⟨fun _ => ?_, fun _ => ?_⟩ <;> first | (exfalso; omega) | skip)
    | fail
  · exact ⟨rfl, by rw [rankR, if_neg (by assumption)]; rfl, rfl⟩
  have h0 : check xs = 0 := Classical.not_not.1 (by assumption)
  have hlx := check_from h0
  have hbd : ∀ i, i < xs.length → 0 ≤ xs[i]! ∧ xs[i]! < 9 := fun i hi => check_bound h0 hi
  have hd0 := drop_cons (xs := xs) (n := 0) (by omega)
  rw [List.drop_zero] at hd0
  have hst := hlx.1
  rw [hd0] at hst
  obtain ⟨hx0, hx8, hxm, hc'⟩ := from_step hst
  have hx00 : xs[0]! = 0 := by omega
  have ht1 : blkFrom (xs.take 1) 0 = 1 := by
    have := take_snoc (xs := xs) (i := 0) (by omega)
    rw [this, List.take_zero, List.nil_append, blkFrom, blkFrom, hx00]; rfl
  have hr1 : rkF (xs.drop 1) 1 = rkF xs 0 := by
    conv => rhs; rw [hd0, rkF, hx00]
    simp
    rfl
  rw [hx00] at hc'
  refine CV.loopc ?_
  refine WCv.rounds callees false (α := Int × Int) (fun (i, s) => [(0, v), (5, .int .i64 s), (6, .int .i64 i)]) (fun (i, s) Hz => Hz = H1 ∧ 1 ≤ i ∧ i ≤ xs.length ∧ 0 ≤ blkFrom (xs.take i.toNat) 0 ∧ blkFrom (xs.take i.toNat) 0 ≤ i ∧ 0 ≤ s ∧ s ≤ i * 200000 ∧ checkFrom (xs.drop i.toNat) (blkFrom (xs.take i.toNat) 0) = 0 ∧ s + rkF (xs.drop i.toNat) (blkFrom (xs.take i.toNat) 0) = rkF xs 0) (fun (i, s) => xs.length - i.toNat) (1, 0) (by repeat' first | exact trivial | refine ⟨rfl, ?_⟩) ?_ ?_
  · refine ⟨rfl, by omega, by omega, ?_, ?_, by omega, by omega, ?_, ?_⟩
    · show 0 ≤ blkFrom (xs.take 1) 0; omega
    · show blkFrom (xs.take 1) 0 ≤ 1; omega
    · show checkFrom (xs.drop 1) (blkFrom (xs.take 1) 0) = 0; rw [ht1]; exact hc'
    · show 0 + rkF (xs.drop 1) (blkFrom (xs.take 1) 0) = rkF xs 0; rw [ht1, hr1]; omega
  rintro ⟨i, s⟩ Hx ⟨rfl, hi0, hi1, hm0, hm1, hs0, hs1, hc, hr⟩ hBx
  by_cases hi : i < xs.length
  · have hdl : (xs.drop (i.toNat + 1)).length = ((xs.length : Int) - 1 - i).toNat := by simp; omega
    have hts := take_snoc (xs := xs) (i := i.toNat) (by omega)
    have hbs := blk_snoc xs[i.toNat]! (xs.take i.toNat) 0
    rw [← hts] at hbs
    generalize hm : blkFrom (xs.take i.toNat) 0 = m at hm0 hm1 hc hr hbs
    rw [drop_cons (xs := xs) (n := i.toNat) (by omega)] at hc hr
    obtain ⟨hy0, hy8, hym, hc2⟩ := from_step hc
    have be := beh_at (n := ((xs.length : Int) - 1 - i).toNat) (b := m) hm0 (by omega)
    rw [rkF, hdl] at hr
    have mb := mul_bound (x := xs[i.toNat]!) (y := behM ((xs.length : Int) - 1 - i).toNat m) hy0 hy8 (by omega) (by omega)
    repeat' first
      | refine CO.cons rfl ?_
      | refine CO.nil ?_
      | refine CV.seq ?_
      | refine CV.region callees ?_
      | refine CV.cond ?_
      | refine CV.block ?_
      | refine CV.skip ?_
      | refine CV.exit ?_
      | refine CV.ret ?_
      | refine CV.scope ?_
      | refine CV.draw callees rfl ?_
      | refine CH.cons rfl ?_
      | refine CH.nil ?_
      | refine CO.consG rfl ?_
      | refine CH.consG rfl ?_
      | refine CG.cons rfl ?_
      | refine CG.nil ?_
      | refine CG.consG rfl ?_
      | refine ⟨(rfl : plain _ = true), ?_⟩
      | refine ⟨(rfl : nilOk _ = some _), ?_⟩
      | refine ⟨_, ints_len (by assumption), ?_⟩
      | refine ⟨_, ints_addr (by assumption) (by omega) (by omega), ?_⟩
      | refine ⟨_, ints_load (by assumption) (by omega) (by omega), ?_⟩
      | refine ⟨(⟨by omega, by omega⟩ : inI64 _), ?_⟩
      | refine ⟨_, fun tm ha => step1_max rfl (ev_tmp ha rfl) (ev_tmp ha rfl), ?_⟩
      | refine ⟨_, fun tm ha => step1_min rfl (ev_tmp ha rfl) (ev_tmp ha rfl), ?_⟩
      | refine CV.wide callees rfl [0,1,2,3,4,5,6,7,8,9,10,11,12,13,14,15,16,17] (by kernel_rfl) ?_
      | refine slice_ask (by assumption) (by omega) (by omega) ?_
      | (refine ⟨fun _ => ?_, fun _ => ?_⟩ <;> first | (exfalso; omega) | skip)
      | fail
    intro t ht
    repeat' first
      | refine CO.cons rfl ?_
      | refine CO.nil ?_
      | refine CV.seq ?_
      | refine CV.region callees ?_
      | refine CV.cond ?_
      | refine CV.block ?_
      | refine CV.skip ?_
      | refine CV.exit ?_
      | refine CV.ret ?_
      | refine CV.scope ?_
      | refine CV.draw callees rfl ?_
      | refine CH.cons rfl ?_
      | refine CH.nil ?_
      | refine CO.consG rfl ?_
      | refine CH.consG rfl ?_
      | refine CG.cons rfl ?_
      | refine CG.nil ?_
      | refine CG.consG rfl ?_
      | refine ⟨(rfl : plain _ = true), ?_⟩
      | refine ⟨(rfl : nilOk _ = some _), ?_⟩
      | refine ⟨_, ints_len (by assumption), ?_⟩
      | refine ⟨_, ints_addr (by assumption) (by omega) (by omega), ?_⟩
      | refine ⟨_, ints_load (by assumption) (by omega) (by omega), ?_⟩
      | refine ⟨(⟨by omega, by omega⟩ : inI64 _), ?_⟩
      | refine ⟨_, fun tm ha => step1_max rfl (ev_tmp ha rfl) (ev_tmp ha rfl), ?_⟩
      | refine ⟨_, fun tm ha => step1_min rfl (ev_tmp ha rfl) (ev_tmp ha rfl), ?_⟩
      | (refine ⟨fun _ => ?_, fun _ => ?_⟩ <;> first | (exfalso; omega) | skip)
      | fail
    refine (refBlocks_spec (Nat.le_refl _) ht (take_bound hbd _) (by rw [List.length_take]; omega)).mono ?_
    rintro r H2 ⟨rfl, rfl⟩
    rw [hm]
    repeat' first
      | refine CO.cons rfl ?_
      | refine CO.nil ?_
      | refine CV.seq ?_
      | refine CV.region callees ?_
      | refine CV.cond ?_
      | refine CV.block ?_
      | refine CV.skip ?_
      | refine CV.exit ?_
      | refine CV.ret ?_
      | refine CV.scope ?_
      | refine CV.draw callees rfl ?_
      | refine CH.cons rfl ?_
      | refine CH.nil ?_
      | refine CO.consG rfl ?_
      | refine CH.consG rfl ?_
      | refine CG.cons rfl ?_
      | refine CG.nil ?_
      | refine CG.consG rfl ?_
      | refine ⟨(rfl : plain _ = true), ?_⟩
      | refine ⟨(rfl : nilOk _ = some _), ?_⟩
      | refine ⟨_, ints_len (by assumption), ?_⟩
      | refine ⟨_, ints_addr (by assumption) (by omega) (by omega), ?_⟩
      | refine ⟨_, ints_load (by assumption) (by omega) (by omega), ?_⟩
      | refine ⟨(⟨by omega, by omega⟩ : inI64 _), ?_⟩
      | refine ⟨_, fun tm ha => step1_max rfl (ev_tmp ha rfl) (ev_tmp ha rfl), ?_⟩
      | refine ⟨_, fun tm ha => step1_min rfl (ev_tmp ha rfl) (ev_tmp ha rfl), ?_⟩
      | (refine ⟨fun _ => ?_, fun _ => ?_⟩ <;> first | (exfalso; omega) | skip)
      | fail
    refine (behind_spec ((xs.length : Int) - 1 - i).toNat (Nat.le_refl _) (by omega) hm0 (by omega)).mono ?_
    rintro r H3 ⟨rfl, rfl⟩
    repeat' first
      | refine CO.cons rfl ?_
      | refine CO.nil ?_
      | refine CV.seq ?_
      | refine CV.region callees ?_
      | refine CV.cond ?_
      | refine CV.block ?_
      | refine CV.skip ?_
      | refine CV.exit ?_
      | refine CV.ret ?_
      | refine CV.scope ?_
      | refine CV.draw callees rfl ?_
      | refine CH.cons rfl ?_
      | refine CH.nil ?_
      | refine CO.consG rfl ?_
      | refine CH.consG rfl ?_
      | refine CG.cons rfl ?_
      | refine CG.nil ?_
      | refine CG.consG rfl ?_
      | refine ⟨(rfl : plain _ = true), ?_⟩
      | refine ⟨(rfl : nilOk _ = some _), ?_⟩
      | refine ⟨_, ints_len (by assumption), ?_⟩
      | refine ⟨_, ints_addr (by assumption) (by omega) (by omega), ?_⟩
      | refine ⟨_, ints_load (by assumption) (by omega) (by omega), ?_⟩
      | refine ⟨(⟨by omega, by omega⟩ : inI64 _), ?_⟩
      | refine ⟨_, fun tm ha => step1_max rfl (ev_tmp ha rfl) (ev_tmp ha rfl), ?_⟩
      | refine ⟨_, fun tm ha => step1_min rfl (ev_tmp ha rfl) (ev_tmp ha rfl), ?_⟩
      | (refine ⟨fun _ => ?_, fun _ => ?_⟩ <;> first | (exfalso; omega) | skip)
      | fail
    refine ⟨(i + 1, s + xs[i.toNat]! * behM ((xs.length : Int) - 1 - i).toNat m), (by repeat' first | exact trivial | refine ⟨rfl, ?_⟩), (by (try dsimp only); omega), ?_⟩
    have e : (i + 1).toNat = i.toNat + 1 := by omega
    refine ⟨rfl, by omega, by omega, ?_, ?_, by omega, by omega, ?_, ?_⟩
    · rw [e, hbs]; omega
    · rw [e, hbs]; omega
    · rw [e, hbs]; exact hc2
    · rw [e, hbs]; omega
  · rw [show xs.drop i.toNat = [] by simp; omega, rkF] at hr
    repeat' first
      | refine CO.cons rfl ?_
      | refine CO.nil ?_
      | refine CV.seq ?_
      | refine CV.region callees ?_
      | refine CV.cond ?_
      | refine CV.block ?_
      | refine CV.skip ?_
      | refine CV.exit ?_
      | refine CV.ret ?_
      | refine CV.scope ?_
      | refine CV.draw callees rfl ?_
      | refine CH.cons rfl ?_
      | refine CH.nil ?_
      | refine CO.consG rfl ?_
      | refine CH.consG rfl ?_
      | refine CG.cons rfl ?_
      | refine CG.nil ?_
      | refine CG.consG rfl ?_
      | refine ⟨(rfl : plain _ = true), ?_⟩
      | refine ⟨(rfl : nilOk _ = some _), ?_⟩
      | refine ⟨_, ints_len (by assumption), ?_⟩
      | refine ⟨_, ints_addr (by assumption) (by omega) (by omega), ?_⟩
      | refine ⟨_, ints_load (by assumption) (by omega) (by omega), ?_⟩
      | refine ⟨(⟨by omega, by omega⟩ : inI64 _), ?_⟩
      | refine ⟨_, fun tm ha => step1_max rfl (ev_tmp ha rfl) (ev_tmp ha rfl), ?_⟩
      | refine ⟨_, fun tm ha => step1_min rfl (ev_tmp ha rfl) (ev_tmp ha rfl), ?_⟩
      | (refine ⟨fun _ => ?_, fun _ => ?_⟩ <;> first | (exfalso; omega) | skip)
      | fail
    exact ⟨rfl, by rw [rankR, if_pos h0, ← hr]; simp [pairV], rfl⟩

/-- The partition that has a rank, from a place on. -/
def unM : Nat → Int → Int → List Int
  | 0, _, _ => []
  | m + 1, rest, b => min (rest.tdiv (behM m b)) b :: unM m (rest - min (rest.tdiv (behM m b)) b * behM m b) (max b (min (rest.tdiv (behM m b)) b + 1))
def unE (n rank : Int) : Int := if (cntR n).2 ≠ 0 then (cntR n).2 else if rank < 0 ∨ (cntR n).1 ≤ rank then 7 else 0
def unL (n rank : Int) : List Int := if unE n rank = 0 then unM n.toNat rank 0 else []
theorem un_step {rest e b : Int} (h0 : 0 ≤ rest) (h1 : rest ≤ 21147) (he : 1 ≤ e) (hb0 : 0 ≤ b) : 0 ≤ rest.tdiv e ∧ rest.tdiv e ≤ 21147 ∧ 0 ≤ min (rest.tdiv e) b ∧ min (rest.tdiv e) b ≤ b ∧ 0 ≤ min (rest.tdiv e) b * e ∧ min (rest.tdiv e) b * e ≤ rest := by
  have h2 : 0 ≤ rest.tdiv e := Int.tdiv_nonneg h0 (by omega)
  have h3 : rest.tdiv e * e ≤ rest := by
    rw [Int.tdiv_eq_ediv_of_nonneg h0]
    exact Int.ediv_mul_le rest (by omega)
  have h4 : rest.tdiv e ≤ rest := by
    rw [Int.tdiv_eq_ediv_of_nonneg h0]
    exact Int.ediv_le_self e h0
  have h5 : 0 ≤ min (rest.tdiv e) b := by omega
  exact ⟨h2, by omega, h5, by omega, Int.mul_nonneg h5 (by omega), Int.le_trans (Int.mul_le_mul_of_nonneg_right (by omega) (by omega)) h3⟩
end Go.Proofs.YtkfaiokiaahbaaaDoor


/- Partitions of ranks. -/
namespace Go.Proofs.YtkfaiokiaahbaaaDoor
open Go.AI
theorem step1_quoI {P : Program} {tm : Tm} {H : Heap} {o : Oper} {t u : TypeId} {x y : Operand} {a b : Int} (ho : o.op = .binOp .quo t x y u) (hx : ev P tm x = some (.int .i64 a)) (hy : ev P tm y = some (.int .i64 b)) (hb : b ≠ 0) (h0 : -9223372036854775808 ≤ a.tdiv b) (h1 : a.tdiv b < 9223372036854775808) : step1 P tm H o = some (.int .i64 (a.tdiv b), H, H.n) := by
  have := step1_quo ho hx hy hb (H := H)
  rw [wrapI h0 h1] at this
  exact this
theorem cnt_bound {n : Int} (h : (cntR n).2 = 0) : 1 ≤ n ∧ n ≤ 9 ∧ 1 ≤ (cntR n).1 ∧ (cntR n).1 ≤ 21147 := by
  unfold cntR at h ⊢
  split at h
  · cases h
  · rename_i hn
    rw [if_neg hn]
    have := beh_at (n := n.toNat) (b := 0) (by omega) (by omega)
    simp only [Int.toNat_zero, Nat.add_zero] at this
    exact ⟨by omega, by omega, by rw [this.2.2]; omega, by rw [this.2.2]; omega⟩
end Go.Proofs.YtkfaiokiaahbaaaDoor


/- Partitions of ranks, by the reference. -/
namespace Go.Proofs.YtkfaiokiaahbaaaDoor
open Go.AI
theorem cnt_sum {n : Int} (h1 : 1 ≤ n) (h9 : n ≤ 9) : sumM n.toNat n.toNat = (cntR n).1 ∧ (cntR n).2 = 0 := by
  rw [cntR, if_neg (by omega), cnt_in _ (by omega) (by omega)]; exact ⟨rfl, rfl⟩
set_option maxHeartbeats 1000000 in
set_option maxRecDepth 100000 in
theorem refUnrank_spec {B : Nat} {H : Heap} {n k : Int} (hn : B ≤ H.n) (hk : inI64 k) :
    CallB Tryd.prog B 38 [.int .i64 n, .int .i64 k] H (fun r H' => (∃ u, r = .tuple #[u, .int .i64 (unE n k)] ∧ Ints H' u (unL n k)) ∧ Keep H H') := by
  obtain ⟨hk0, hk1⟩ := hk
  have bad : (n < 1 ∨ 9 < n) → unE n k = 2 := fun h => by
    have : (cntR n).2 = 2 := by rw [cntR, if_pos h]
    rw [unE, if_pos (by omega), this]
  have bad2 : 1 ≤ n → n ≤ 9 → (k < 0 ∨ sumM n.toNat n.toNat ≤ k) → unE n k = 7 := fun h1 h2 h3 => by
    obtain ⟨h4, h5⟩ := cnt_sum h1 h2
    rw [unE, if_neg (by omega), if_pos (by omega)]
  refine CV.enter callees false rfl Tryd.func38 rfl ok38 (Nat.le_of_ble_eq_true rfl) hn ?_
  repeat' first
    | refine CO.cons rfl ?_
    | refine CO.nil ?_
    | refine CV.seq ?_
    | refine CV.region callees ?_
    | refine CV.cond ?_
    | refine CV.block ?_
    | refine CV.skip ?_
    | refine CV.exit ?_
    | refine CV.ret ?_
    | refine CV.scope ?_
    | refine CV.draw callees rfl ?_
    | refine CH.cons rfl ?_
    | refine CH.nil ?_
    | refine CO.consG rfl ?_
    | refine CH.consG rfl ?_
    | refine CG.cons rfl ?_
    | refine CG.nil ?_
    | refine CG.consG rfl ?_
    | refine ⟨(rfl : plain _ = true), ?_⟩
    | refine ⟨(rfl : nilOk _ = some _), ?_⟩
    | refine ⟨_, ints_len (by assumption), ?_⟩
    | refine ⟨_, ints_addr (by assumption) (by omega) (by omega), ?_⟩
    | refine ⟨_, ints_load (by assumption) (by omega) (by omega), ?_⟩
    | refine ⟨(⟨by omega, by omega⟩ : inI64 _), ?_⟩
    | refine ⟨_, fun tm ha => step1_max rfl (ev_tmp ha rfl) (ev_tmp ha rfl), ?_⟩
    | refine ⟨_, fun tm ha => step1_min rfl (ev_tmp ha rfl) (ev_tmp ha rfl), ?_⟩
    | (refine (refcount_spec hn (by omega) (by omega)).mono ?_; rintro r H' ⟨rfl, rfl⟩)
    | (refine ⟨fun _ => ?_, fun _ => ?_⟩ <;> first | (exfalso; omega) | skip)
    | fail
  · have hu := bad (by omega)
    exact ⟨rfl, ⟨_, by rw [hu], .inl ⟨rfl, by rw [unL, hu, if_neg (by omega)]; rfl⟩⟩, Keep.refl _⟩
  · have hu := bad (by omega)
    exact ⟨rfl, ⟨_, by rw [hu], .inl ⟨rfl, by rw [unL, hu, if_neg (by omega)]; rfl⟩⟩, Keep.refl _⟩
  · have hu := bad2 (by omega) (by omega) (by omega)
    exact ⟨rfl, ⟨_, by rw [hu], .inl ⟨rfl, by rw [unL, hu, if_neg (by omega)]; rfl⟩⟩, Keep.refl _⟩
  · have hu := bad2 (by omega) (by omega) (by omega)
    exact ⟨rfl, ⟨_, by rw [hu], .inl ⟨rfl, by rw [unL, hu, if_neg (by omega)]; rfl⟩⟩, Keep.refl _⟩
  clear bad bad2
  obtain ⟨h4, h5⟩ := cnt_sum (n := n) (by omega) (by omega)
  have hcb := cnt_bound h5
  have hu : unE n k = 0 := by rw [unE, if_neg (by omega), if_neg (by omega)]
  have hl : unL n k = unM n.toNat k 0 := by rw [unL, if_pos hu]
  obtain ⟨m, rfl⟩ : ∃ m : Nat, n = (m + 1 : Nat) := ⟨n.toNat - 1, by omega⟩
  refine ⟨_, _, build_one un22 one3 rfl, ?_⟩
  have hown : Own 3 (H'.new (.cells [VI 0] 3 2)) (.slice (some ⟨H'.n, 0, none⟩) 1 0) (([0] : List Int).map VI) H'.n := .inr ⟨H'.n, rfl, Nat.le_refl _, Nat.lt_succ_self _, Heap.get_new_eq _ _⟩
  have k1 := Keep.new H' (.cells [VI 0] 3 2)
  have h00 : [0] ++ unM m k 1 = unM (m + 1) k 0 := by
    have be := beh_at (n := m) (b := 0) (by omega) (by omega)
    have us := un_step (rest := k) (e := behM m 0) (b := 0) (by omega) (by omega) be.1 (by omega)
    have h0 : min (k.tdiv (behM m 0)) 0 = 0 := by omega
    rw [unM, h0]
    simp
    rfl
  repeat' first
    | refine CO.cons rfl ?_
    | refine CO.nil ?_
    | refine CV.seq ?_
    | refine CV.region callees ?_
    | refine CV.cond ?_
    | refine CV.block ?_
    | refine CV.skip ?_
    | refine CV.exit ?_
    | refine CV.ret ?_
    | refine CV.scope ?_
    | refine CV.draw callees rfl ?_
    | refine CH.cons rfl ?_
    | refine CH.nil ?_
    | refine CO.consG rfl ?_
    | refine CH.consG rfl ?_
    | refine CG.cons rfl ?_
    | refine CG.nil ?_
    | refine CG.consG rfl ?_
    | refine ⟨(rfl : plain _ = true), ?_⟩
    | refine ⟨(rfl : nilOk _ = some _), ?_⟩
    | refine ⟨_, ints_len (by assumption), ?_⟩
    | refine ⟨_, ints_addr (by assumption) (by omega) (by omega), ?_⟩
    | refine ⟨_, ints_load (by assumption) (by omega) (by omega), ?_⟩
    | refine ⟨(⟨by omega, by omega⟩ : inI64 _), ?_⟩
    | refine ⟨_, fun tm ha => step1_max rfl (ev_tmp ha rfl) (ev_tmp ha rfl), ?_⟩
    | refine ⟨_, fun tm ha => step1_min rfl (ev_tmp ha rfl) (ev_tmp ha rfl), ?_⟩
    | (refine ⟨fun _ => ?_, fun _ => ?_⟩ <;> first | (exfalso; omega) | skip)
    | fail
  refine CV.loopc ?_
  refine WCv.rounds callees false (α := Value × Int × List Int) (fun (l, s, out) => [(0, .int .i64 (m + 1 : Nat)), (1, .int .i64 s), (6, l)]) (fun (l, s, out) Hz => 1 ≤ out.length ∧ out.length ≤ m + 1 ∧ 0 ≤ s ∧ s ≤ 21147 ∧ (∀ i, i < out.length → 0 ≤ out[i]! ∧ out[i]! < 9) ∧ 0 ≤ blkFrom out 0 ∧ blkFrom out 0 ≤ out.length ∧ Own 3 Hz l (out.map VI) H'.n ∧ Keep H' Hz ∧ out ++ unM (m + 1 - out.length) s (blkFrom out 0) = unM (m + 1) k 0) (fun (l, s, out) => m + 1 - out.length) (_, k, [0]) (by repeat' first | exact trivial | refine ⟨rfl, ?_⟩) ?_ ?_
  · exact ⟨by simp, by simp, by omega, by omega, fun i hi => by simp at hi; subst hi; simp, by decide, by decide, hown, k1, h00⟩
  rintro ⟨l, s, out⟩ Hx ⟨ho1, ho2, hs0, hs1, hbd, hb0, hb1, hlx, hkx, hM⟩ hBx
  have hli : Ints Hx l out := hlx.row
  by_cases hi : out.length < m + 1
  · obtain ⟨q, hq⟩ : ∃ q, m + 1 - out.length = q + 1 := ⟨m + 1 - out.length - 1, by omega⟩
    obtain ⟨b, hb⟩ : ∃ b, blkFrom out 0 = b := ⟨_, rfl⟩
    rw [hb] at hb0 hb1
    have be := beh_at (n := q) (b := b) hb0 (by omega)
    rw [hq, hb, unM] at hM
    obtain ⟨e, he⟩ : ∃ e, behM q b = e := ⟨_, rfl⟩
    rw [he] at be hM
    have us := un_step hs0 hs1 be.1 hb0
    obtain ⟨c, hc⟩ : ∃ c, min (s.tdiv e) b = c := ⟨_, rfl⟩
    rw [hc] at us hM
    have hc' : min b (s.tdiv e) = c := by rw [← hc]; omega
    repeat' first
      | refine CO.cons rfl ?_
      | refine CO.nil ?_
      | refine CV.seq ?_
      | refine CV.region callees ?_
      | refine CV.cond ?_
      | refine CV.block ?_
      | refine CV.skip ?_
      | refine CV.exit ?_
      | refine CV.ret ?_
      | refine CV.scope ?_
      | refine CV.draw callees rfl ?_
      | refine CH.cons rfl ?_
      | refine CH.nil ?_
      | refine CO.consG rfl ?_
      | refine CH.consG rfl ?_
      | refine CG.cons rfl ?_
      | refine CG.nil ?_
      | refine CG.consG rfl ?_
      | refine ⟨(rfl : plain _ = true), ?_⟩
      | refine ⟨(rfl : nilOk _ = some _), ?_⟩
      | refine ⟨_, ints_len (by assumption), ?_⟩
      | refine ⟨_, ints_addr (by assumption) (by omega) (by omega), ?_⟩
      | refine ⟨_, ints_load (by assumption) (by omega) (by omega), ?_⟩
      | refine ⟨(⟨by omega, by omega⟩ : inI64 _), ?_⟩
      | refine ⟨_, fun tm ha => step1_max rfl (ev_tmp ha rfl) (ev_tmp ha rfl), ?_⟩
      | refine ⟨_, fun tm ha => step1_min rfl (ev_tmp ha rfl) (ev_tmp ha rfl), ?_⟩
      | (refine ⟨fun _ => ?_, fun _ => ?_⟩ <;> first | (exfalso; omega) | skip)
      | fail
    refine (refBlocks_spec hBx hli hbd (by omega)).mono ?_
    rintro r H2 ⟨rfl, rfl⟩
    rw [hb]
    repeat' first
      | refine CO.cons rfl ?_
      | refine CO.nil ?_
      | refine CV.seq ?_
      | refine CV.region callees ?_
      | refine CV.cond ?_
      | refine CV.block ?_
      | refine CV.skip ?_
      | refine CV.exit ?_
      | refine CV.ret ?_
      | refine CV.scope ?_
      | refine CV.draw callees rfl ?_
      | refine CH.cons rfl ?_
      | refine CH.nil ?_
      | refine CO.consG rfl ?_
      | refine CH.consG rfl ?_
      | refine CG.cons rfl ?_
      | refine CG.nil ?_
      | refine CG.consG rfl ?_
      | refine ⟨(rfl : plain _ = true), ?_⟩
      | refine ⟨(rfl : nilOk _ = some _), ?_⟩
      | refine ⟨_, ints_len (by assumption), ?_⟩
      | refine ⟨_, ints_addr (by assumption) (by omega) (by omega), ?_⟩
      | refine ⟨_, ints_load (by assumption) (by omega) (by omega), ?_⟩
      | refine ⟨(⟨by omega, by omega⟩ : inI64 _), ?_⟩
      | refine ⟨_, fun tm ha => step1_max rfl (ev_tmp ha rfl) (ev_tmp ha rfl), ?_⟩
      | refine ⟨_, fun tm ha => step1_min rfl (ev_tmp ha rfl) (ev_tmp ha rfl), ?_⟩
      | (refine ⟨fun _ => ?_, fun _ => ?_⟩ <;> first | (exfalso; omega) | skip)
      | fail
    refine (behind_spec q hBx (by omega) hb0 (by omega)).mono ?_
    rintro r H3 ⟨rfl, rfl⟩
    rw [he]
    repeat' first
      | refine CO.cons rfl ?_
      | refine CO.nil ?_
      | refine CV.seq ?_
      | refine CV.region callees ?_
      | refine CV.cond ?_
      | refine CV.block ?_
      | refine CV.skip ?_
      | refine CV.exit ?_
      | refine CV.ret ?_
      | refine CV.scope ?_
      | refine CV.draw callees rfl ?_
      | refine CH.cons rfl ?_
      | refine CH.nil ?_
      | refine CO.consG rfl ?_
      | refine CH.consG rfl ?_
      | refine CG.cons rfl ?_
      | refine CG.nil ?_
      | refine CG.consG rfl ?_
      | refine ⟨(rfl : plain _ = true), ?_⟩
      | refine ⟨(rfl : nilOk _ = some _), ?_⟩
      | refine ⟨_, ints_len (by assumption), ?_⟩
      | refine ⟨_, ints_addr (by assumption) (by omega) (by omega), ?_⟩
      | refine ⟨_, ints_load (by assumption) (by omega) (by omega), ?_⟩
      | refine ⟨(⟨by omega, by omega⟩ : inI64 _), ?_⟩
      | refine ⟨_, fun tm ha => step1_max rfl (ev_tmp ha rfl) (ev_tmp ha rfl), ?_⟩
      | refine ⟨_, fun tm ha => step1_min rfl (ev_tmp ha rfl) (ev_tmp ha rfl), ?_⟩
      | refine ⟨_, fun tm ha => step1_quoI rfl (ev_tmp ha rfl) (ev_tmp ha rfl) (by omega) (by omega) (by omega), ?_⟩
      | (refine ⟨fun _ => ?_, fun _ => ?_⟩ <;> first | (exfalso; omega) | skip)
      | fail
    rw [hc']
    repeat' first
      | refine CO.cons rfl ?_
      | refine CO.nil ?_
      | refine CV.seq ?_
      | refine CV.region callees ?_
      | refine CV.cond ?_
      | refine CV.block ?_
      | refine CV.skip ?_
      | refine CV.exit ?_
      | refine CV.ret ?_
      | refine CV.scope ?_
      | refine CV.draw callees rfl ?_
      | refine CH.cons rfl ?_
      | refine CH.nil ?_
      | refine CO.consG rfl ?_
      | refine CH.consG rfl ?_
      | refine CG.cons rfl ?_
      | refine CG.nil ?_
      | refine CG.consG rfl ?_
      | refine ⟨(rfl : plain _ = true), ?_⟩
      | refine ⟨(rfl : nilOk _ = some _), ?_⟩
      | refine ⟨_, ints_len (by assumption), ?_⟩
      | refine ⟨_, ints_addr (by assumption) (by omega) (by omega), ?_⟩
      | refine ⟨_, ints_load (by assumption) (by omega) (by omega), ?_⟩
      | refine ⟨(⟨by omega, by omega⟩ : inI64 _), ?_⟩
      | refine ⟨_, fun tm ha => step1_max rfl (ev_tmp ha rfl) (ev_tmp ha rfl), ?_⟩
      | refine ⟨_, fun tm ha => step1_min rfl (ev_tmp ha rfl) (ev_tmp ha rfl), ?_⟩
      | refine ⟨_, _, build_one un22 one3 rfl, ?_⟩
      | (refine ⟨fun _ => ?_, fun _ => ?_⟩ <;> first | (exfalso; omega) | skip)
      | fail
    refine push_ask hlx hkx.1 hn (by omega) ?_
    intro l4 H4 hl4 kb4 hf4
    repeat' first
      | refine CO.cons rfl ?_
      | refine CO.nil ?_
      | refine CV.seq ?_
      | refine CV.region callees ?_
      | refine CV.cond ?_
      | refine CV.block ?_
      | refine CV.skip ?_
      | refine CV.exit ?_
      | refine CV.ret ?_
      | refine CV.scope ?_
      | refine CV.draw callees rfl ?_
      | refine CH.cons rfl ?_
      | refine CH.nil ?_
      | refine CO.consG rfl ?_
      | refine CH.consG rfl ?_
      | refine CG.cons rfl ?_
      | refine CG.nil ?_
      | refine CG.consG rfl ?_
      | refine ⟨(rfl : plain _ = true), ?_⟩
      | refine ⟨(rfl : nilOk _ = some _), ?_⟩
      | refine ⟨_, ints_len (by assumption), ?_⟩
      | refine ⟨_, ints_addr (by assumption) (by omega) (by omega), ?_⟩
      | refine ⟨_, ints_load (by assumption) (by omega) (by omega), ?_⟩
      | refine ⟨(⟨by omega, by omega⟩ : inI64 _), ?_⟩
      | refine ⟨_, fun tm ha => step1_max rfl (ev_tmp ha rfl) (ev_tmp ha rfl), ?_⟩
      | refine ⟨_, fun tm ha => step1_min rfl (ev_tmp ha rfl) (ev_tmp ha rfl), ?_⟩
      | (refine ⟨fun _ => ?_, fun _ => ?_⟩ <;> first | (exfalso; omega) | skip)
      | fail
    have hl5 : (out ++ [c]).length = out.length + 1 := by simp
    refine ⟨(l4, s - c * e, out ++ [c]), (by repeat' first | exact trivial | refine ⟨rfl, ?_⟩), (by (try dsimp only); omega), ?_⟩
    refine ⟨by simp, by simp; omega, by omega, by omega, fun i hi => ?_, ?_, ?_, hl4, kb4.keep hkx (fun z hz => (hlx.lt hz).1), ?_⟩
    · by_cases h : i < out.length
      · have := hbd i h
        rw [getElem!_pos (out ++ [c]) i hi, List.getElem_append_left h]
        rwa [getElem!_pos _ i h] at this
      · have : i = out.length := by simp at hi; omega
        subst this
        rw [getElem!_pos (out ++ [c]) _ hi]
        simp
        omega
    · rw [blk_snoc, hb]; omega
    · rw [blk_snoc, hb]; simp; omega
    · rw [blk_snoc, hb, show m + 1 - (out ++ [c]).length = q by simp; omega, List.append_assoc]; exact hM
  · have h0 : m + 1 - out.length = 0 := by omega
    rw [h0, unM, List.append_nil] at hM
    repeat' first
      | refine CO.cons rfl ?_
      | refine CO.nil ?_
      | refine CV.seq ?_
      | refine CV.region callees ?_
      | refine CV.cond ?_
      | refine CV.block ?_
      | refine CV.skip ?_
      | refine CV.exit ?_
      | refine CV.ret ?_
      | refine CV.scope ?_
      | refine CV.draw callees rfl ?_
      | refine CH.cons rfl ?_
      | refine CH.nil ?_
      | refine CO.consG rfl ?_
      | refine CH.consG rfl ?_
      | refine CG.cons rfl ?_
      | refine CG.nil ?_
      | refine CG.consG rfl ?_
      | refine ⟨(rfl : plain _ = true), ?_⟩
      | refine ⟨(rfl : nilOk _ = some _), ?_⟩
      | refine ⟨_, ints_len (by assumption), ?_⟩
      | refine ⟨_, ints_addr (by assumption) (by omega) (by omega), ?_⟩
      | refine ⟨_, ints_load (by assumption) (by omega) (by omega), ?_⟩
      | refine ⟨(⟨by omega, by omega⟩ : inI64 _), ?_⟩
      | refine ⟨_, fun tm ha => step1_max rfl (ev_tmp ha rfl) (ev_tmp ha rfl), ?_⟩
      | refine ⟨_, fun tm ha => step1_min rfl (ev_tmp ha rfl) (ev_tmp ha rfl), ?_⟩
      | (refine ⟨fun _ => ?_, fun _ => ?_⟩ <;> first | (exfalso; omega) | skip)
      | fail
    refine ⟨by simp only [List.all_cons, List.all_nil, hlx.notTuple]; rfl, ⟨l, by rw [hu], ?_⟩, hkx⟩
    rw [hl, Int.toNat_natCast, ← hM]
    exact hlx.row
end Go.Proofs.YtkfaiokiaahbaaaDoor


/- The next partition. -/
namespace Go.Proofs.YtkfaiokiaahbaaaDoor
open Go.AI
/-- The next list, if its last change is at a place or before. -/
def nxF (xs : List Int) : Nat → Option (List Int)
  | 0 => none
  | i + 1 => if xs[i + 1]! < blkFrom (xs.take (i + 1)) 0 then some (xs.take (i + 1) ++ (xs[i + 1]! + 1) :: List.replicate (xs.length - (i + 2)) 0) else nxF xs i
def nxO (xs : List Int) : Option (List Int) := nxF xs (xs.length - 1)
set_option maxRecDepth 100000 in
theorem max_spec {B : Nat} {v : Value} {H : Heap} {xs : List Int} (hB : B ≤ H.n) (hv : Ints H v xs) (hb : ∀ i, i < xs.length → 0 ≤ xs[i]! ∧ xs[i]! < 9) (h0 : 0 < xs.length) (hn : xs.length < 1000000) :
    CallB Tryd.prog B 107 [v] H (fun r H' => r = .int .i64 (blkFrom xs 0 - 1) ∧ H' = H) := by
  refine CV.enter callees false rfl Tryd.func107 rfl ok107 (Nat.le_of_ble_eq_true rfl) hB ?_
  repeat' first
    | refine CO.cons rfl ?_
    | refine CO.nil ?_
    | refine CV.seq ?_
    | refine CV.region callees ?_
    | refine CV.cond ?_
    | refine CV.block ?_
    | refine CV.skip ?_
    | refine CV.exit ?_
    | refine CV.ret ?_
    | refine CV.scope ?_
    | refine CV.draw callees rfl ?_
    | refine CH.cons rfl ?_
    | refine CH.nil ?_
    | refine CO.consG rfl ?_
    | refine CH.consG rfl ?_
    | refine CG.cons rfl ?_
    | refine CG.nil ?_
    | refine CG.consG rfl ?_
    | refine ⟨(rfl : plain _ = true), ?_⟩
    | refine ⟨(rfl : nilOk _ = some _), ?_⟩
    | refine ⟨_, ints_len (by assumption), ?_⟩
    | refine ⟨_, ints_addr (by assumption) (by omega) (by omega), ?_⟩
    | refine ⟨_, ints_load (by assumption) (by omega) (by omega), ?_⟩
    | refine ⟨(⟨by omega, by omega⟩ : inI64 _), ?_⟩
    | refine ⟨_, fun tm ha => step1_max rfl (ev_tmp ha rfl) (ev_tmp ha rfl), ?_⟩
    | refine ⟨_, fun tm ha => step1_min rfl (ev_tmp ha rfl) (ev_tmp ha rfl), ?_⟩
    | (refine ⟨fun _ => ?_, fun _ => ?_⟩ <;> first | (exfalso; omega) | skip)
    | fail
  have hx0 := hb 0 h0
  have hd := drop_cons (xs := xs) (n := 0) (by omega)
  rw [List.drop_zero] at hd
  refine CV.loopc ?_
  refine WCv.rounds callees false (α := Int × Int) (fun (i, m) => [(0, v), (3, .int .i64 m), (4, .int .i64 i)]) (fun (i, m) Hz => Hz = H ∧ 1 ≤ i ∧ i ≤ xs.length ∧ 0 ≤ m ∧ m ≤ 8 ∧ blkFrom (xs.drop i.toNat) (m + 1) = blkFrom xs 0) (fun (i, m) => xs.length - i.toNat) (1, xs[0]!) (by repeat' first | exact trivial | refine ⟨rfl, ?_⟩) ?_ ?_
  · refine ⟨rfl, by omega, by omega, by omega, by omega, ?_⟩
    show blkFrom (xs.drop 1) (xs[0]! + 1) = blkFrom xs 0
    conv => rhs; rw [hd, blkFrom]
    rw [show max (0 : Int) (xs[0]! + 1) = xs[0]! + 1 by omega]
  rintro ⟨i, m⟩ Hx ⟨rfl, hi0, hi1, hm0, hm1, hc⟩ _
  by_cases hi : i < xs.length
  · have hx := hb i.toNat (by omega)
    rw [drop_cons (xs := xs) (n := i.toNat) (by omega), blkFrom] at hc
    repeat' first
      | refine CO.cons rfl ?_
      | refine CO.nil ?_
      | refine CV.seq ?_
      | refine CV.region callees ?_
      | refine CV.cond ?_
      | refine CV.block ?_
      | refine CV.skip ?_
      | refine CV.exit ?_
      | refine CV.ret ?_
      | refine CV.scope ?_
      | refine CV.draw callees rfl ?_
      | refine CH.cons rfl ?_
      | refine CH.nil ?_
      | refine CO.consG rfl ?_
      | refine CH.consG rfl ?_
      | refine CG.cons rfl ?_
      | refine CG.nil ?_
      | refine CG.consG rfl ?_
      | refine ⟨(rfl : plain _ = true), ?_⟩
      | refine ⟨(rfl : nilOk _ = some _), ?_⟩
      | refine ⟨_, ints_len (by assumption), ?_⟩
      | refine ⟨_, ints_addr (by assumption) (by omega) (by omega), ?_⟩
      | refine ⟨_, ints_load (by assumption) (by omega) (by omega), ?_⟩
      | refine ⟨(⟨by omega, by omega⟩ : inI64 _), ?_⟩
      | refine ⟨_, fun tm ha => step1_max rfl (ev_tmp ha rfl) (ev_tmp ha rfl), ?_⟩
      | refine ⟨_, fun tm ha => step1_min rfl (ev_tmp ha rfl) (ev_tmp ha rfl), ?_⟩
      | (refine ⟨fun _ => ?_, fun _ => ?_⟩ <;> first | (exfalso; omega) | skip)
      | fail
    refine ⟨(i + 1, max m xs[i.toNat]!), (by repeat' first | exact trivial | refine ⟨rfl, ?_⟩), (by (try dsimp only); omega), ?_⟩
    exact ⟨rfl, by omega, by omega, by omega, by omega, by rw [show (i + 1).toNat = i.toNat + 1 by omega, show max m xs[i.toNat]! + 1 = max (m + 1) (xs[i.toNat]! + 1) by omega]; exact hc⟩
  · rw [show xs.drop i.toNat = [] by simp; omega, blkFrom] at hc
    repeat' first
      | refine CO.cons rfl ?_
      | refine CO.nil ?_
      | refine CV.seq ?_
      | refine CV.region callees ?_
      | refine CV.cond ?_
      | refine CV.block ?_
      | refine CV.skip ?_
      | refine CV.exit ?_
      | refine CV.ret ?_
      | refine CV.scope ?_
      | refine CV.draw callees rfl ?_
      | refine CH.cons rfl ?_
      | refine CH.nil ?_
      | refine CO.consG rfl ?_
      | refine CH.consG rfl ?_
      | refine CG.cons rfl ?_
      | refine CG.nil ?_
      | refine CG.consG rfl ?_
      | refine ⟨(rfl : plain _ = true), ?_⟩
      | refine ⟨(rfl : nilOk _ = some _), ?_⟩
      | refine ⟨_, ints_len (by assumption), ?_⟩
      | refine ⟨_, ints_addr (by assumption) (by omega) (by omega), ?_⟩
      | refine ⟨_, ints_load (by assumption) (by omega) (by omega), ?_⟩
      | refine ⟨(⟨by omega, by omega⟩ : inI64 _), ?_⟩
      | refine ⟨_, fun tm ha => step1_max rfl (ev_tmp ha rfl) (ev_tmp ha rfl), ?_⟩
      | refine ⟨_, fun tm ha => step1_min rfl (ev_tmp ha rfl) (ev_tmp ha rfl), ?_⟩
      | (refine ⟨fun _ => ?_, fun _ => ?_⟩ <;> first | (exfalso; omega) | skip)
      | fail
    exact ⟨rfl, by rw [← hc]; congr 1; omega, rfl⟩

/-- The beginning, and nothing but 0 behind it. -/
def cut (xs : List Int) (j : Nat) : List Int := xs.take j ++ List.replicate (xs.length - j) 0
theorem cut_length {xs : List Int} {j : Nat} (h : j ≤ xs.length) : (cut xs j).length = xs.length := by simp [cut]; omega
theorem cut_at {xs : List Int} {j : Nat} (h : j < xs.length) : (cut xs (j + 1))[j]! = xs[j]! := by
  rw [getElem!_pos (cut xs (j + 1)) j (by rw [cut_length (by omega)]; exact h), getElem!_pos xs j h]
  unfold cut
  rw [List.getElem_append_left (by simp; omega), List.getElem_take]
theorem cut_take {xs : List Int} {j : Nat} (h : j < xs.length) : (cut xs (j + 1)).take j = xs.take j := by
  unfold cut
  rw [List.take_append_of_le_length (by simp; omega), List.take_take, Nat.min_eq_left (by omega)]
theorem cut_set {xs : List Int} {j : Nat} {y : Int} (h : j < xs.length) : (cut xs (j + 1)).set j y = xs.take j ++ y :: List.replicate (xs.length - (j + 1)) 0 := by
  unfold cut
  rw [take_snoc h, List.append_assoc, List.set_append_right _ _ (by simp; omega)]
  simp [List.length_take, Nat.min_eq_left (Nat.le_of_lt h)]
theorem cut_zero {xs : List Int} {j : Nat} (h : j < xs.length) : (cut xs (j + 1)).set j 0 = cut xs j := by
  rw [cut_set h, cut]
  rw [show xs.length - j = (xs.length - (j + 1)) + 1 by omega, List.replicate_succ]
theorem cut_all (xs : List Int) : cut xs xs.length = xs := by simp [cut]

set_option maxHeartbeats 1000000 in
set_option maxRecDepth 100000 in
theorem following_spec {B : Nat} {v : Value} {H : Heap} {xs : List Int} (hB : B ≤ H.n) (hv : Ints H v xs) (hb : ∀ i, i < xs.length → 0 ≤ xs[i]! ∧ xs[i]! < 9) (h0 : 0 < xs.length) (hn : xs.length < 1000000) :
    CallB Tryd.prog B 88 [v] H (fun r H' => (∃ u, r = .tuple #[u, .bool (nxO xs).isSome] ∧ Ints H' u ((nxO xs).getD []) ∧ ∀ c, blkOf u = some c → H.n ≤ c) ∧ Keep H H') := by
  refine CV.enter callees false rfl Tryd.func88 rfl ok88 (Nat.le_of_ble_eq_true rfl) hB ?_
  repeat' first
    | refine CO.cons rfl ?_
    | refine CO.nil ?_
    | refine CV.seq ?_
    | refine CV.region callees ?_
    | refine CV.cond ?_
    | refine CV.block ?_
    | refine CV.skip ?_
    | refine CV.exit ?_
    | refine CV.ret ?_
    | refine CV.scope ?_
    | refine CV.draw callees rfl ?_
    | refine CH.cons rfl ?_
    | refine CH.nil ?_
    | refine CO.consG rfl ?_
    | refine CH.consG rfl ?_
    | refine CG.cons rfl ?_
    | refine CG.nil ?_
    | refine CG.consG rfl ?_
    | refine ⟨(rfl : plain _ = true), ?_⟩
    | refine ⟨(rfl : nilOk _ = some _), ?_⟩
    | refine ⟨_, ints_len (by assumption), ?_⟩
    | refine ⟨_, ints_addr (by assumption) (by omega) (by omega), ?_⟩
    | refine ⟨_, ints_load (by assumption) (by omega) (by omega), ?_⟩
    | refine ⟨(⟨by omega, by omega⟩ : inI64 _), ?_⟩
    | refine ⟨_, fun tm ha => step1_max rfl (ev_tmp ha rfl) (ev_tmp ha rfl), ?_⟩
    | refine ⟨_, fun tm ha => step1_min rfl (ev_tmp ha rfl) (ev_tmp ha rfl), ?_⟩
    | (refine ⟨fun _ => ?_, fun _ => ?_⟩ <;> first | (exfalso; omega) | skip)
    | fail
  refine (clone_spec hB hv hn).mono ?_
  rintro w H1 ⟨hw, k1⟩
  have hwi : Ints H1 w xs := hw.row
  repeat' first
    | refine CO.cons rfl ?_
    | refine CO.nil ?_
    | refine CV.seq ?_
    | refine CV.region callees ?_
    | refine CV.cond ?_
    | refine CV.block ?_
    | refine CV.skip ?_
    | refine CV.exit ?_
    | refine CV.ret ?_
    | refine CV.scope ?_
    | refine CV.draw callees rfl ?_
    | refine CH.cons rfl ?_
    | refine CH.nil ?_
    | refine CO.consG rfl ?_
    | refine CH.consG rfl ?_
    | refine CG.cons rfl ?_
    | refine CG.nil ?_
    | refine CG.consG rfl ?_
    | refine ⟨(rfl : plain _ = true), ?_⟩
    | refine ⟨(rfl : nilOk _ = some _), ?_⟩
    | refine ⟨_, ints_len (by assumption), ?_⟩
    | refine ⟨_, ints_addr (by assumption) (by omega) (by omega), ?_⟩
    | refine ⟨_, ints_load (by assumption) (by omega) (by omega), ?_⟩
    | refine ⟨(⟨by omega, by omega⟩ : inI64 _), ?_⟩
    | refine ⟨_, fun tm ha => step1_max rfl (ev_tmp ha rfl) (ev_tmp ha rfl), ?_⟩
    | refine ⟨_, fun tm ha => step1_min rfl (ev_tmp ha rfl) (ev_tmp ha rfl), ?_⟩
    | (refine ⟨fun _ => ?_, fun _ => ?_⟩ <;> first | (exfalso; omega) | skip)
    | fail
  refine CV.loopc ?_
  refine WCv.rounds callees false (α := Int) (fun j => [(4, w), (5, .int .i64 j)]) (fun j Hz => 0 ≤ j ∧ j < xs.length ∧ Own 3 Hz w ((cut xs (j.toNat + 1)).map VI) H.n ∧ Keep H Hz ∧ nxF xs j.toNat = nxO xs) (fun j => j.toNat) ((xs.length : Int) - 1) (by repeat' first | exact trivial | refine ⟨rfl, ?_⟩) ?_ ?_
  · have e : ((xs.length : Int) - 1).toNat + 1 = xs.length := by omega
    refine ⟨by omega, by omega, ?_, k1, ?_⟩
    · show Own 3 H1 w ((cut xs (((xs.length : Int) - 1).toNat + 1)).map VI) H.n
      rw [e, cut_all]; exact hw
    · show nxF xs ((xs.length : Int) - 1).toNat = nxO xs
      rw [nxO, show ((xs.length : Int) - 1).toNat = xs.length - 1 by omega]
  rintro j Hx ⟨hj0, hj1, hwx, hkx, hM⟩ hBx
  have hwi' : Ints Hx w (cut xs (j.toNat + 1)) := hwx.row
  have hlen : (cut xs (j.toNat + 1)).length = xs.length := cut_length (by omega)
  have hget : (cut xs (j.toNat + 1))[j.toNat]! = xs[j.toNat]! := cut_at (by omega)
  by_cases hj : 0 < j
  · obtain ⟨q, hq⟩ : ∃ q, j.toNat = q + 1 := ⟨j.toNat - 1, by omega⟩
    have hx := hb j.toNat (by omega)
    have hct : (cut xs (j.toNat + 1)).take j.toNat = xs.take j.toNat := cut_take (by omega)
    have hlt : (xs.take j.toNat).length = j.toNat := by rw [List.length_take]; omega
    repeat' first
      | refine CO.cons rfl ?_
      | refine CO.nil ?_
      | refine CV.seq ?_
      | refine CV.region callees ?_
      | refine CV.cond ?_
      | refine CV.block ?_
      | refine CV.skip ?_
      | refine CV.exit ?_
      | refine CV.ret ?_
      | refine CV.scope ?_
      | refine CV.draw callees rfl ?_
      | refine CH.cons rfl ?_
      | refine CH.nil ?_
      | refine CO.consG rfl ?_
      | refine CH.consG rfl ?_
      | refine CG.cons rfl ?_
      | refine CG.nil ?_
      | refine CG.consG rfl ?_
      | refine ⟨(rfl : plain _ = true), ?_⟩
      | refine ⟨(rfl : nilOk _ = some _), ?_⟩
      | refine ⟨_, ints_len (by assumption), ?_⟩
      | refine ⟨_, ints_addr (by assumption) (by omega) (by omega), ?_⟩
      | refine ⟨_, ints_load (by assumption) (by omega) (by omega), ?_⟩
      | refine ⟨(⟨by omega, by omega⟩ : inI64 _), ?_⟩
      | refine ⟨_, fun tm ha => step1_max rfl (ev_tmp ha rfl) (ev_tmp ha rfl), ?_⟩
      | refine ⟨_, fun tm ha => step1_min rfl (ev_tmp ha rfl) (ev_tmp ha rfl), ?_⟩
      | refine slice_ask (by assumption) (by omega) (by omega) ?_
      | (refine ⟨fun _ => ?_, fun _ => ?_⟩ <;> first | (exfalso; omega) | skip)
      | fail
    intro t ht
    rw [hct] at ht
    repeat' first
      | refine CO.cons rfl ?_
      | refine CO.nil ?_
      | refine CV.seq ?_
      | refine CV.region callees ?_
      | refine CV.cond ?_
      | refine CV.block ?_
      | refine CV.skip ?_
      | refine CV.exit ?_
      | refine CV.ret ?_
      | refine CV.scope ?_
      | refine CV.draw callees rfl ?_
      | refine CH.cons rfl ?_
      | refine CH.nil ?_
      | refine CO.consG rfl ?_
      | refine CH.consG rfl ?_
      | refine CG.cons rfl ?_
      | refine CG.nil ?_
      | refine CG.consG rfl ?_
      | refine ⟨(rfl : plain _ = true), ?_⟩
      | refine ⟨(rfl : nilOk _ = some _), ?_⟩
      | refine ⟨_, ints_len (by assumption), ?_⟩
      | refine ⟨_, ints_addr (by assumption) (by omega) (by omega), ?_⟩
      | refine ⟨_, ints_load (by assumption) (by omega) (by omega), ?_⟩
      | refine ⟨(⟨by omega, by omega⟩ : inI64 _), ?_⟩
      | refine ⟨_, fun tm ha => step1_max rfl (ev_tmp ha rfl) (ev_tmp ha rfl), ?_⟩
      | refine ⟨_, fun tm ha => step1_min rfl (ev_tmp ha rfl) (ev_tmp ha rfl), ?_⟩
      | (refine ⟨fun _ => ?_, fun _ => ?_⟩ <;> first | (exfalso; omega) | skip)
      | fail
    refine (max_spec (Nat.le_refl _) ht (take_bound hb _) (by omega) (by omega)).mono ?_
    rintro r H2 ⟨rfl, rfl⟩
    rw [hget]
    repeat' first
      | refine CO.cons rfl ?_
      | refine CO.nil ?_
      | refine CV.seq ?_
      | refine CV.region callees ?_
      | refine CV.cond ?_
      | refine CV.block ?_
      | refine CV.skip ?_
      | refine CV.exit ?_
      | refine CV.ret ?_
      | refine CV.scope ?_
      | refine CV.draw callees rfl ?_
      | refine CH.cons rfl ?_
      | refine CH.nil ?_
      | refine CO.consG rfl ?_
      | refine CH.consG rfl ?_
      | refine CG.cons rfl ?_
      | refine CG.nil ?_
      | refine CG.consG rfl ?_
      | refine ⟨(rfl : plain _ = true), ?_⟩
      | refine ⟨(rfl : nilOk _ = some _), ?_⟩
      | refine ⟨_, ints_len (by assumption), ?_⟩
      | refine ⟨_, ints_addr (by assumption) (by omega) (by omega), ?_⟩
      | refine ⟨_, ints_load (by assumption) (by omega) (by omega), ?_⟩
      | refine ⟨(⟨by omega, by omega⟩ : inI64 _), ?_⟩
      | refine ⟨_, fun tm ha => step1_max rfl (ev_tmp ha rfl) (ev_tmp ha rfl), ?_⟩
      | refine ⟨_, fun tm ha => step1_min rfl (ev_tmp ha rfl) (ev_tmp ha rfl), ?_⟩
      | (refine ⟨fun _ => ?_, fun _ => ?_⟩ <;> first | (exfalso; omega) | skip)
      | fail
    · rw [hget]
      repeat' first
        | refine CO.cons rfl ?_
        | refine CO.nil ?_
        | refine CV.seq ?_
        | refine CV.region callees ?_
        | refine CV.cond ?_
        | refine CV.block ?_
        | refine CV.skip ?_
        | refine CV.exit ?_
        | refine CV.ret ?_
        | refine CV.scope ?_
        | refine CV.draw callees rfl ?_
        | refine CH.cons rfl ?_
        | refine CH.nil ?_
        | refine CO.consG rfl ?_
        | refine CH.consG rfl ?_
        | refine CG.cons rfl ?_
        | refine CG.nil ?_
        | refine CG.consG rfl ?_
        | refine ⟨(rfl : plain _ = true), ?_⟩
        | refine ⟨(rfl : nilOk _ = some _), ?_⟩
        | refine ⟨_, ints_len (by assumption), ?_⟩
        | refine ⟨_, ints_addr (by assumption) (by omega) (by omega), ?_⟩
        | refine ⟨_, ints_load (by assumption) (by omega) (by omega), ?_⟩
        | refine ⟨(⟨by omega, by omega⟩ : inI64 _), ?_⟩
        | refine ⟨_, fun tm ha => step1_max rfl (ev_tmp ha rfl) (ev_tmp ha rfl), ?_⟩
        | refine ⟨_, fun tm ha => step1_min rfl (ev_tmp ha rfl) (ev_tmp ha rfl), ?_⟩
        | (refine ⟨fun _ => ?_, fun _ => ?_⟩ <;> first | (exfalso; omega) | skip)
        | fail
      refine put_ask (i := j.toNat) hwx hB (by omega) ?_
      intro H3 hw3 kb3
      repeat' first
        | refine CO.cons rfl ?_
        | refine CO.nil ?_
        | refine CV.seq ?_
        | refine CV.region callees ?_
        | refine CV.cond ?_
        | refine CV.block ?_
        | refine CV.skip ?_
        | refine CV.exit ?_
        | refine CV.ret ?_
        | refine CV.scope ?_
        | refine CV.draw callees rfl ?_
        | refine CH.cons rfl ?_
        | refine CH.nil ?_
        | refine CO.consG rfl ?_
        | refine CH.consG rfl ?_
        | refine CG.cons rfl ?_
        | refine CG.nil ?_
        | refine CG.consG rfl ?_
        | refine ⟨(rfl : plain _ = true), ?_⟩
        | refine ⟨(rfl : nilOk _ = some _), ?_⟩
        | refine ⟨_, ints_len (by assumption), ?_⟩
        | refine ⟨_, ints_addr (by assumption) (by omega) (by omega), ?_⟩
        | refine ⟨_, ints_load (by assumption) (by omega) (by omega), ?_⟩
        | refine ⟨(⟨by omega, by omega⟩ : inI64 _), ?_⟩
        | refine ⟨_, fun tm ha => step1_max rfl (ev_tmp ha rfl) (ev_tmp ha rfl), ?_⟩
        | refine ⟨_, fun tm ha => step1_min rfl (ev_tmp ha rfl) (ev_tmp ha rfl), ?_⟩
        | (refine ⟨fun _ => ?_, fun _ => ?_⟩ <;> first | (exfalso; omega) | skip)
        | fail
      rw [cut_set (by omega)] at hw3
      have hN : nxO xs = some (xs.take j.toNat ++ (xs[j.toNat]! + 1) :: List.replicate (xs.length - (j.toNat + 1)) 0) := by
        rw [← hM, hq, nxF, if_pos (by rw [← hq]; omega)]
      rw [hN]
      exact ⟨by simp only [List.all_cons, List.all_nil, hw3.notTuple]; rfl, ⟨w, rfl, hw3.row, fun c hc => (hw3.lt hc).1⟩, kb3.keep hkx (fun z hz => (hwx.lt hz).1)⟩
    · refine put_ask (i := j.toNat) hwx hB (by omega) ?_
      intro H3 hw3 kb3
      rw [cut_zero (by omega)] at hw3
      repeat' first
        | refine CO.cons rfl ?_
        | refine CO.nil ?_
        | refine CV.seq ?_
        | refine CV.region callees ?_
        | refine CV.cond ?_
        | refine CV.block ?_
        | refine CV.skip ?_
        | refine CV.exit ?_
        | refine CV.ret ?_
        | refine CV.scope ?_
        | refine CV.draw callees rfl ?_
        | refine CH.cons rfl ?_
        | refine CH.nil ?_
        | refine CO.consG rfl ?_
        | refine CH.consG rfl ?_
        | refine CG.cons rfl ?_
        | refine CG.nil ?_
        | refine CG.consG rfl ?_
        | refine ⟨(rfl : plain _ = true), ?_⟩
        | refine ⟨(rfl : nilOk _ = some _), ?_⟩
        | refine ⟨_, ints_len (by assumption), ?_⟩
        | refine ⟨_, ints_addr (by assumption) (by omega) (by omega), ?_⟩
        | refine ⟨_, ints_load (by assumption) (by omega) (by omega), ?_⟩
        | refine ⟨(⟨by omega, by omega⟩ : inI64 _), ?_⟩
        | refine ⟨_, fun tm ha => step1_max rfl (ev_tmp ha rfl) (ev_tmp ha rfl), ?_⟩
        | refine ⟨_, fun tm ha => step1_min rfl (ev_tmp ha rfl) (ev_tmp ha rfl), ?_⟩
        | (refine ⟨fun _ => ?_, fun _ => ?_⟩ <;> first | (exfalso; omega) | skip)
        | fail
      refine ⟨(j - 1), (by repeat' first | exact trivial | refine ⟨rfl, ?_⟩), (by (try dsimp only); omega), ?_⟩
      refine ⟨by omega, by omega, ?_, kb3.keep hkx (fun z hz => (hwx.lt hz).1), ?_⟩
      · rw [show (j - 1).toNat + 1 = j.toNat by omega]; exact hw3
      · rw [← hM, hq, nxF, if_neg (by rw [← hq]; omega), show (j - 1).toNat = q by omega]
  · have h00 : j.toNat = 0 := by omega
    have hN : nxO xs = none := by rw [← hM, h00]; rfl
    rw [hN]
    repeat' first
      | refine CO.cons rfl ?_
      | refine CO.nil ?_
      | refine CV.seq ?_
      | refine CV.region callees ?_
      | refine CV.cond ?_
      | refine CV.block ?_
      | refine CV.skip ?_
      | refine CV.exit ?_
      | refine CV.ret ?_
      | refine CV.scope ?_
      | refine CV.draw callees rfl ?_
      | refine CH.cons rfl ?_
      | refine CH.nil ?_
      | refine CO.consG rfl ?_
      | refine CH.consG rfl ?_
      | refine CG.cons rfl ?_
      | refine CG.nil ?_
      | refine CG.consG rfl ?_
      | refine ⟨(rfl : plain _ = true), ?_⟩
      | refine ⟨(rfl : nilOk _ = some _), ?_⟩
      | refine ⟨_, ints_len (by assumption), ?_⟩
      | refine ⟨_, ints_addr (by assumption) (by omega) (by omega), ?_⟩
      | refine ⟨_, ints_load (by assumption) (by omega) (by omega), ?_⟩
      | refine ⟨(⟨by omega, by omega⟩ : inI64 _), ?_⟩
      | refine ⟨_, fun tm ha => step1_max rfl (ev_tmp ha rfl) (ev_tmp ha rfl), ?_⟩
      | refine ⟨_, fun tm ha => step1_min rfl (ev_tmp ha rfl) (ev_tmp ha rfl), ?_⟩
      | (refine ⟨fun _ => ?_, fun _ => ?_⟩ <;> first | (exfalso; omega) | skip)
      | fail
    exact ⟨rfl, ⟨_, rfl, .inl ⟨rfl, rfl⟩, fun c hc => by cases hc⟩, hkx⟩

end Go.Proofs.YtkfaiokiaahbaaaDoor


/- The next partition, by the reference. -/
namespace Go.Proofs.YtkfaiokiaahbaaaDoor
open Go.AI
end Go.Proofs.YtkfaiokiaahbaaaDoor


/- ChartChecks: its function answers true. -/
namespace Go.Proofs.YtkfaiokiaahbaaaDoor
open Go.AI
theorem build_three {H : Heap} {x y z : Int} : abuildSlice Tryd.prog H 22 3 [(0, .int .i64 x), (1, .int .i64 y), (2, .int .i64 z)] = some (.slice (some ⟨H.n, 0, none⟩) 3 0, H.new (.cells ([x, y, z].map VI) 3 2), H.n) := by
  obtain ⟨info, hi, hz, hs, hc, hsc, hby⟩ := oneBB_spec one3
  simp only [abuildSlice, un22, hi, hz, hs, hc]
  rw [if_pos ⟨by omega, rfl, by simp [scalar], by omega⟩]
  rfl
theorem ints_new {H : Heap} {l : List Int} {n : Nat} (hn : n = l.length) : Ints (H.new (.cells (l.map VI) 3 2)) (.slice (some ⟨H.n, 0, none⟩) n 0) l :=
  .inr (.inr ⟨H.n, 0, 0, _, 3, 2, by rw [hn, List.length_map], Nat.lt_succ_self _, Heap.get_new_eq _ _, by decide, by simp, fun j w h => by simpa using h⟩)
end Go.Proofs.YtkfaiokiaahbaaaDoor


/- ChartRanks: its function answers true. -/
namespace Go.Proofs.YtkfaiokiaahbaaaDoor
open Go.AI
theorem un41 : Tryd.prog.underlying 41 = some (.slice 22) := by kernel_rfl
theorem one22 : oneBB Tryd.prog 22 = some (.slice none 0 0, 24) := by kernel_rfl
theorem sz22 : sizeB Tryd.prog 22 = some 1 := by kernel_rfl
theorem ag22 : isAggB Tryd.prog 22 = some false := by kernel_rfl
theorem row_one {H : Heap} {v : Value} {vs : List Value} (h : Row H v vs) : oneC v = true := by
  rcases h with ⟨rfl, _⟩ | ⟨rfl, _⟩ | ⟨_, _, _, _, _, _, rfl, _⟩ <;> rfl
theorem build_lists {H : Heap} {a b c : Value} (ha : oneC a = true) (hb : oneC b = true) (hc : oneC c = true) : abuildSlice Tryd.prog H 41 3 [(0, a), (1, b), (2, c)] = some (.slice (some ⟨H.n, 0, none⟩) 3 0, H.new (.cells [a, b, c] 22 2), H.n) := by
  obtain ⟨info, hi, hz, hs, hc', hsc, hby⟩ := oneBB_spec one22
  simp only [abuildSlice, un41, hi, hz, hs, hc']
  rw [if_pos ⟨by omega, rfl, by simp [scalar], by omega⟩]
  have hz3 : zeros #[(Value.slice none 0 0)] (3 * 1) = [.slice none 0 0, .slice none 0 0, .slice none 0 0] := rfl
  rw [hz3]
  simp only [fillL, oneC_cells ha, oneC_cells hb, oneC_cells hc, oneC_notTuple ha, oneC_notTuple hb, oneC_notTuple hc]
  rfl
theorem row_new {H : Heap} {l : List Value} {n : Nat} {e : TypeId} (hn : n = l.length) : Row (H.new (.cells l e 2)) (.slice (some ⟨H.n, 0, none⟩) n 0) l :=
  .inr (.inr ⟨H.n, 0, 0, _, e, 2, by rw [hn], Nat.lt_succ_self _, Heap.get_new_eq _ _, by decide, by simp, fun j w h => by simpa using h⟩)
theorem lists_len {H : Heap} {v : Value} {vs : List Value} (h : Row H v vs) : alen Tryd.prog H 41 v = some (.int .i64 vs.length) := Row.alen h un41
theorem lists_addr {H : Heap} {v : Value} {vs : List Value} (h : Row H v vs) {i : Int} (h0 : 0 ≤ i) (h1 : i < vs.length) : aindexAddr Tryd.prog 41 v (.int .i64 i) = some (elemAt v i.toNat) := Row.addr h un41 sz22 h0 h1
theorem lists_load {H : Heap} {v : Value} {vs : List Value} (h : Row H v vs) {i : Int} (h0 : 0 ≤ i) (h1 : i < vs.length) : aload Tryd.prog 22 H (elemAt v i.toNat) = some vs[i.toNat]! := by
  have : i.toNat < vs.length := by omega
  exact Row.load h ag22 (by rw [List.getElem?_eq_getElem this, getElem!_pos vs _ this])
theorem unM_len : ∀ (m : Nat) (r b : Int), (unM m r b).length = m
  | 0, _, _ => rfl
  | m + 1, r, b => by rw [unM, List.length_cons, unM_len]
theorem unL_len (n k : Int) : (unL n k).length ≤ 9 := by
  unfold unL
  split
  · rename_i h
    rw [unM_len]
    unfold unE at h
    split at h
    · exact absurd h (by assumption)
    · rename_i h2
      have := cnt_bound (Classical.not_not.1 h2)
      omega
  · simp
end Go.Proofs.YtkfaiokiaahbaaaDoor

