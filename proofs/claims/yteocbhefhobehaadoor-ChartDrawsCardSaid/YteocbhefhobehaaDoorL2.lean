/- The reference's Read: what it answers. -/
import Derived.Test.YteocbhefhobehaaDoorL1
import Derived.Test.YteocbhefhobehaaDoorY9
import Derived.Test.YteocbhefhobehaaDoorY8
set_option linter.unusedVariables false
set_option linter.unusedSimpArgs false
namespace Go.Proofs.YteocbhefhobehaaDoor
open Go.AI
theorem lkN_p {l : List Int} {at' i : Nat} {f : Int} {zs : List Int} (h : l[at' + 2 * i]! ≠ 111) (hg : 0 < i ∧ l[at' + 2 * i - 1]! ≠ 45) : lkStep l at' i (f, zs) = (-1, zs) := by
  simp only [lkStep]; rw [if_pos h, if_pos hg]
theorem lkN_n {l : List Int} {at' i : Nat} {f : Int} {zs : List Int} (h : l[at' + 2 * i]! ≠ 111) (hg : ¬ (0 < i ∧ l[at' + 2 * i - 1]! ≠ 45)) : lkStep l at' i (f, zs) = (f, zs) := by
  simp only [lkStep]; rw [if_pos h, if_neg hg]
theorem lkO_p {l : List Int} {at' i : Nat} {f : Int} {zs : List Int} (h : l[at' + 2 * i]! = 111) (hg : 0 < i ∧ l[at' + 2 * i - 1]! ≠ 45) : lkStep l at' i (f, zs) = ((i : Int), zs) := by
  simp only [lkStep]; rw [if_neg (fun e => e h), if_pos hg]; rfl
theorem lkO_n {l : List Int} {at' i : Nat} {f : Int} {zs : List Int} (h : l[at' + 2 * i]! = 111) (hg : ¬ (0 < i ∧ l[at' + 2 * i - 1]! ≠ 45)) (hf : 0 ≤ f) : lkStep l at' i (f, zs) = ((i : Int), zs.set i zs[f.toNat]!) := by
  simp only [lkStep]; rw [if_neg (fun e => e h), if_neg hg, if_pos hf]
theorem lkO_m {l : List Int} {at' i : Nat} {f : Int} {zs : List Int} (h : l[at' + 2 * i]! = 111) (hg : ¬ (0 < i ∧ l[at' + 2 * i - 1]! ≠ 45)) (hf : ¬ 0 ≤ f) : lkStep l at' i (f, zs) = ((i : Int), zs) := by
  simp only [lkStep]; rw [if_neg (fun e => e h), if_neg hg, if_neg hf]
set_option maxHeartbeats 2000000 in
set_option maxRecDepth 100000 in
theorem linked_spec {B : Nat} {H : Heap} {l : List Int} {n : Nat} (hB : B ≤ H.n) (hb : Bytes l) (h1 : 1 ≤ n) (h9 : n ≤ 9) (hl : l.length ≤ 400) :
    CallB Tryd.prog B 103 [VS l, .int .i64 n] H (fun r H' => Own 3 H' r ((lkAll l n (l.length / (2 * n))).map VI) H.n ∧ Keep H H') := by
  refine CV.enter callees false rfl Tryd.func103 rfl ok103 (Nat.le_of_ble_eq_true rfl) hB ?_
  repeat' first
    | refine CO.cons rfl ?_
    | refine CO.nil ?_
    | refine CV.seq ?_
    | refine CV.region callees ?_
    | refine CV.cond ?_
    | refine CV.block ?_
    | refine CV.skip ?_
    | refine CV.exit ?_
    | refine CV.ret ?_
    | refine CV.scope ?_
    | refine CV.draw callees rfl ?_
    | refine CH.cons rfl ?_
    | refine CH.nil ?_
    | refine CO.consG rfl ?_
    | refine CH.consG rfl ?_
    | refine CG.cons rfl ?_
    | refine CG.nil ?_
    | refine CG.consG rfl ?_
    | refine ⟨(rfl : plain _ = true), ?_⟩
    | refine ⟨(rfl : nilOk _ = some _), ?_⟩
    | refine ⟨_, ints_len (by assumption), ?_⟩
    | refine ⟨_, ints_addr (by assumption) (by omega) (by omega), ?_⟩
    | refine ⟨_, ints_load (by assumption) (by omega) (by omega), ?_⟩
    | refine ⟨(⟨by omega, by omega⟩ : inI64 _), ?_⟩
    | refine ⟨_, fun tm ha => step1_max rfl (ev_tmp ha rfl) (ev_tmp ha rfl), ?_⟩
    | refine ⟨_, fun tm ha => step1_min rfl (ev_tmp ha rfl) (ev_tmp ha rfl), ?_⟩
    | (refine ⟨fun _ => ?_, fun _ => ?_⟩ <;> first | (exfalso; omega) | skip)
    | fail
  refine ⟨_, _, make_row un22 one3 (by omega) n (by omega), ?_⟩
  have hown : Own 3 (H.new (.cells (List.replicate n (VI 0)) 3 2)) (.slice (some ⟨H.n, 0, none⟩) n 0) ((List.replicate n (0 : Int)).map VI) H.n :=
    .inr ⟨H.n, by simp, Nat.le_refl _, Nat.lt_succ_self _, by rw [Heap.get_new_eq]; simp⟩
  have k2 : Keep H (H.new (.cells (List.replicate n (VI 0)) 3 2)) := Keep.new _ _
  generalize hH3 : H.new (.cells (List.replicate n (VI 0)) 3 2) = H3 at hown k2
  generalize hw : Value.slice (some ⟨H.n, 0, none⟩) n 0 = w at hown
  repeat' first
    | refine CO.cons rfl ?_
    | refine CO.nil ?_
    | refine CV.seq ?_
    | refine CV.region callees ?_
    | refine CV.cond ?_
    | refine CV.block ?_
    | refine CV.skip ?_
    | refine CV.exit ?_
    | refine CV.ret ?_
    | refine CV.scope ?_
    | refine CV.draw callees rfl ?_
    | refine CH.cons rfl ?_
    | refine CH.nil ?_
    | refine CO.consG rfl ?_
    | refine CH.consG rfl ?_
    | refine CG.cons rfl ?_
    | refine CG.nil ?_
    | refine CG.consG rfl ?_
    | refine ⟨(rfl : plain _ = true), ?_⟩
    | refine ⟨(rfl : nilOk _ = some _), ?_⟩
    | refine ⟨_, ints_len (by assumption), ?_⟩
    | refine ⟨_, ints_addr (by assumption) (by omega) (by omega), ?_⟩
    | refine ⟨_, ints_load (by assumption) (by omega) (by omega), ?_⟩
    | refine ⟨(⟨by omega, by omega⟩ : inI64 _), ?_⟩
    | refine ⟨_, fun tm ha => step1_max rfl (ev_tmp ha rfl) (ev_tmp ha rfl), ?_⟩
    | refine ⟨_, fun tm ha => step1_min rfl (ev_tmp ha rfl) (ev_tmp ha rfl), ?_⟩
    | (refine ⟨fun _ => ?_, fun _ => ?_⟩ <;> first | (exfalso; omega) | skip)
    | fail
  refine CV.loopc ?_
  refine WCv.rounds callees false (α := Nat) (fun i => [(0, VS l), (1, .int .i64 n), (5, w), (6, .int .i64 i)]) (fun i Hz => i ≤ n ∧ Keep H Hz ∧ Own 3 Hz w ((((List.range i).map fun (i : Nat) => (i : Int)) ++ List.replicate (n - i) 0).map VI) H.n) (fun i => n - i) (0) (by repeat' first | exact trivial | refine ⟨rfl, ?_⟩ | refine ⟨slot_int (by (try simp only [Int.toNat_natCast]); omega), ?_⟩) ?_ ?_
  · exact ⟨by omega, k2, by simpa using hown⟩
  rintro i Hx ⟨hi, hkx, hox⟩ hBx
  have hlen : (((List.range i).map fun (i : Nat) => (i : Int)) ++ List.replicate (n - i) (0 : Int)).length = n := by simp; omega
  have hoi : Ints Hx w (((List.range i).map fun (i : Nat) => (i : Int)) ++ List.replicate (n - i) 0) := hox.row
  by_cases hin : i < n
  · repeat' first
      | refine CO.cons rfl ?_
      | refine CO.nil ?_
      | refine CV.seq ?_
      | refine CV.region callees ?_
      | refine CV.cond ?_
      | refine CV.block ?_
      | refine CV.skip ?_
      | refine CV.exit ?_
      | refine CV.ret ?_
      | refine CV.scope ?_
      | refine CV.draw callees rfl ?_
      | refine CH.cons rfl ?_
      | refine CH.nil ?_
      | refine CO.consG rfl ?_
      | refine CH.consG rfl ?_
      | refine CG.cons rfl ?_
      | refine CG.nil ?_
      | refine CG.consG rfl ?_
      | refine ⟨(rfl : plain _ = true), ?_⟩
      | refine ⟨(rfl : nilOk _ = some _), ?_⟩
      | refine ⟨_, ints_len (by assumption), ?_⟩
      | refine ⟨_, ints_addr (by assumption) (by omega) (by omega), ?_⟩
      | refine ⟨_, ints_load (by assumption) (by omega) (by omega), ?_⟩
      | refine ⟨(⟨by omega, by omega⟩ : inI64 _), ?_⟩
      | refine ⟨_, fun tm ha => step1_max rfl (ev_tmp ha rfl) (ev_tmp ha rfl), ?_⟩
      | refine ⟨_, fun tm ha => step1_min rfl (ev_tmp ha rfl) (ev_tmp ha rfl), ?_⟩
      | (refine ⟨fun _ => ?_, fun _ => ?_⟩ <;> first | (exfalso; omega) | skip)
      | fail
    refine put_ask (i := i) hox hB (by omega) ?_
    intro H4 ho4 kb4
    have hset : (((List.range i).map fun (i : Nat) => (i : Int)) ++ List.replicate (n - i) (0 : Int)).set i i = ((List.range (i + 1)).map fun (i : Nat) => (i : Int)) ++ List.replicate (n - (i + 1)) 0 := by
      rw [List.set_append_right _ _ (by simp), List.length_map, List.length_range, Nat.sub_self, show n - i = (n - (i + 1)) + 1 by omega, List.replicate_succ, List.set_cons_zero, List.range_succ, List.map_append, List.append_assoc]
      rfl
    rw [hset] at ho4
    repeat' first
      | refine CO.cons rfl ?_
      | refine CO.nil ?_
      | refine CV.seq ?_
      | refine CV.region callees ?_
      | refine CV.cond ?_
      | refine CV.block ?_
      | refine CV.skip ?_
      | refine CV.exit ?_
      | refine CV.ret ?_
      | refine CV.scope ?_
      | refine CV.draw callees rfl ?_
      | refine CH.cons rfl ?_
      | refine CH.nil ?_
      | refine CO.consG rfl ?_
      | refine CH.consG rfl ?_
      | refine CG.cons rfl ?_
      | refine CG.nil ?_
      | refine CG.consG rfl ?_
      | refine ⟨(rfl : plain _ = true), ?_⟩
      | refine ⟨(rfl : nilOk _ = some _), ?_⟩
      | refine ⟨_, ints_len (by assumption), ?_⟩
      | refine ⟨_, ints_addr (by assumption) (by omega) (by omega), ?_⟩
      | refine ⟨_, ints_load (by assumption) (by omega) (by omega), ?_⟩
      | refine ⟨(⟨by omega, by omega⟩ : inI64 _), ?_⟩
      | refine ⟨_, fun tm ha => step1_max rfl (ev_tmp ha rfl) (ev_tmp ha rfl), ?_⟩
      | refine ⟨_, fun tm ha => step1_min rfl (ev_tmp ha rfl) (ev_tmp ha rfl), ?_⟩
      | (refine ⟨fun _ => ?_, fun _ => ?_⟩ <;> first | (exfalso; omega) | skip)
      | fail
    refine ⟨(i + 1), (by repeat' first | exact trivial | refine ⟨rfl, ?_⟩ | refine ⟨slot_int (by (try simp only [Int.toNat_natCast]); omega), ?_⟩), (by (try dsimp only); omega), ?_⟩
    exact ⟨by omega, kb4.keep hkx (fun c hc => (hox.lt hc).1), ho4⟩
  · have : i = n := by omega
    subst this
    rw [Nat.sub_self, List.replicate_zero, List.append_nil] at hox
    clear hoi hlen
    obtain ⟨q, hq⟩ : ∃ q, l.length / (2 * i) = q := ⟨_, rfl⟩
    have hq1 : q * (2 * i) ≤ l.length := by rw [← hq]; exact Nat.div_mul_le_self _ _
    have hq2 : l.length < (q + 1) * (2 * i) := by rw [← hq, Nat.mul_comm]; exact Nat.lt_mul_div_succ _ (by omega)
    rw [Nat.succ_mul] at hq2
    repeat' first
      | refine CO.cons rfl ?_
      | refine CO.nil ?_
      | refine CV.seq ?_
      | refine CV.region callees ?_
      | refine CV.cond ?_
      | refine CV.block ?_
      | refine CV.skip ?_
      | refine CV.exit ?_
      | refine CV.ret ?_
      | refine CV.scope ?_
      | refine CV.draw callees rfl ?_
      | refine CH.cons rfl ?_
      | refine CH.nil ?_
      | refine CO.consG rfl ?_
      | refine CH.consG rfl ?_
      | refine CG.cons rfl ?_
      | refine CG.nil ?_
      | refine CG.consG rfl ?_
      | refine ⟨(rfl : plain _ = true), ?_⟩
      | refine ⟨(rfl : nilOk _ = some _), ?_⟩
      | refine ⟨_, ints_len (by assumption), ?_⟩
      | refine ⟨_, ints_addr (by assumption) (by omega) (by omega), ?_⟩
      | refine ⟨_, ints_load (by assumption) (by omega) (by omega), ?_⟩
      | refine ⟨(⟨by omega, by omega⟩ : inI64 _), ?_⟩
      | refine ⟨_, fun tm ha => step1_max rfl (ev_tmp ha rfl) (ev_tmp ha rfl), ?_⟩
      | refine ⟨_, fun tm ha => step1_min rfl (ev_tmp ha rfl) (ev_tmp ha rfl), ?_⟩
      | (refine ⟨fun _ => ?_, fun _ => ?_⟩ <;> first | (exfalso; omega) | skip)
      | fail
    refine CV.loopc ?_
    refine WCv.rounds callees false (α := Nat × Nat) (fun (r, a) => [(0, VS l), (1, .int .i64 i), (5, w), (7, .int .i64 a)]) (fun (r, a) Hz => a = r * (2 * i) ∧ r ≤ q ∧ Keep H Hz ∧ Own 3 Hz w ((lkAll l i r).map VI) H.n) (fun (r, a) => q - r) (0, 0) (by repeat' first | exact trivial | refine ⟨rfl, ?_⟩ | refine ⟨slot_int (by (try simp only [Int.toNat_natCast]); omega), ?_⟩) ?_ ?_
    · exact ⟨by omega, by omega, hkx, hox⟩
    rintro ⟨r, a⟩ Hy ⟨ha, hrq, hky, hoy⟩ hBy
    by_cases hr : r < q
    · have hm : (r + 1) * (2 * i) ≤ q * (2 * i) := Nat.mul_le_mul_right _ hr
      rw [Nat.succ_mul, ← ha] at hm
      have hyl := lkAll_len (l := l) (n := i) r
      have hnx : lkAll l i (r + 1) = (lkRow l a (lkAll l i r) i).2 := by rw [lkAll, ha]
      repeat' first
        | refine CO.cons rfl ?_
        | refine CO.nil ?_
        | refine CV.seq ?_
        | refine CV.region callees ?_
        | refine CV.cond ?_
        | refine CV.block ?_
        | refine CV.skip ?_
        | refine CV.exit ?_
        | refine CV.ret ?_
        | refine CV.scope ?_
        | refine CV.draw callees rfl ?_
        | refine CH.cons rfl ?_
        | refine CH.nil ?_
        | refine CO.consG rfl ?_
        | refine CH.consG rfl ?_
        | refine CG.cons rfl ?_
        | refine CG.nil ?_
        | refine CG.consG rfl ?_
        | refine ⟨(rfl : plain _ = true), ?_⟩
        | refine ⟨(rfl : nilOk _ = some _), ?_⟩
        | refine ⟨_, ints_len (by assumption), ?_⟩
        | refine ⟨_, ints_addr (by assumption) (by omega) (by omega), ?_⟩
        | refine ⟨_, ints_load (by assumption) (by omega) (by omega), ?_⟩
        | refine ⟨(⟨by omega, by omega⟩ : inI64 _), ?_⟩
        | refine ⟨_, fun tm ha => step1_max rfl (ev_tmp ha rfl) (ev_tmp ha rfl), ?_⟩
        | refine ⟨_, fun tm ha => step1_min rfl (ev_tmp ha rfl) (ev_tmp ha rfl), ?_⟩
        | refine ⟨_, str_len un9, ?_⟩
        | (refine ⟨fun _ => ?_, fun _ => ?_⟩ <;> first | (exfalso; omega) | skip)
        | fail
      refine CV.loopc ?_
      refine WCv.rounds callees false (α := Nat) (fun k => [(0, VS l), (1, .int .i64 i), (5, w), (7, .int .i64 a), (8, .int .i64 (lkRow l a (lkAll l i r) k).1), (9, .int .i64 k)]) (fun k Hz => k ≤ i ∧ Keep H Hz ∧ Own 3 Hz w ((lkRow l a (lkAll l i r) k).2.map VI) H.n) (fun k => i - k) (0) (by repeat' first | exact trivial | refine ⟨rfl, ?_⟩ | refine ⟨slot_int (by (try simp only [Int.toNat_natCast]); omega), ?_⟩) ?_ ?_
      · exact ⟨by omega, hky, hoy⟩
      rintro k Hv ⟨hki, hkv, hov⟩ hBv
      by_cases hk2 : k < i
      · obtain ⟨⟨f0, f1⟩, hzl⟩ := lkRow_inv (l := l) (at' := a) (ys := lkAll l i r) k
        have hs : lkRow l a (lkAll l i r) (k + 1) = lkStep l a k (lkRow l a (lkAll l i r) k) := rfl
        generalize lkRow l a (lkAll l i r) k = s at hs f0 f1 hzl hov
        obtain ⟨f, zs⟩ := s
        dsimp only at f0 f1 hzl hov
        have hzi : Ints Hv w zs := hov.row
        have hx1 : l[((a : Int) + 2 * (k : Int) - 1).toNat]! = l[a + 2 * k - 1]! := by congr 1; omega
        have hx0 : l[((a : Int) + 2 * (k : Int)).toNat]! = l[a + 2 * k]! := by congr 1
        repeat' first
          | refine CO.cons rfl ?_
          | refine CO.nil ?_
          | refine CV.seq ?_
          | refine CV.region callees ?_
          | refine CV.cond ?_
          | refine CV.block ?_
          | refine CV.skip ?_
          | refine CV.exit ?_
          | refine CV.ret ?_
          | refine CV.scope ?_
          | refine CV.draw callees rfl ?_
          | refine CH.cons rfl ?_
          | refine CH.nil ?_
          | refine CO.consG rfl ?_
          | refine CH.consG rfl ?_
          | refine CG.cons rfl ?_
          | refine CG.nil ?_
          | refine CG.consG rfl ?_
          | refine ⟨(rfl : plain _ = true), ?_⟩
          | refine ⟨(rfl : nilOk _ = some _), ?_⟩
          | refine ⟨_, ints_len (by assumption), ?_⟩
          | refine ⟨_, ints_addr (by assumption) (by omega) (by omega), ?_⟩
          | refine ⟨_, ints_load (by assumption) (by omega) (by omega), ?_⟩
          | refine ⟨(⟨by omega, by omega⟩ : inI64 _), ?_⟩
          | refine ⟨_, fun tm ha => step1_max rfl (ev_tmp ha rfl) (ev_tmp ha rfl), ?_⟩
          | refine ⟨_, fun tm ha => step1_min rfl (ev_tmp ha rfl) (ev_tmp ha rfl), ?_⟩
          | refine ⟨_, str_index un9 hb (by omega) (by omega), ?_⟩
          | (refine ⟨fun _ => ?_, fun _ => ?_⟩ <;> first | (exfalso; omega) | skip)
          | fail
        all_goals (try dsimp only at *)
        all_goals first
          | (rw [lkN_p (l := l) (at' := a) (i := k) (f := f) (zs := zs) (by omega) ⟨by omega, by omega⟩] at hs
             have hs1 := congrArg Prod.fst hs
             dsimp only at hs1
             refine ⟨(k + 1), (by repeat' first | exact trivial | refine ⟨rfl, ?_⟩ | refine ⟨slot_int (by (try simp only [Int.toNat_natCast]); omega), ?_⟩), (by (try dsimp only); omega), ?_⟩
             exact ⟨by omega, hkv, by rw [hs]; exact hov⟩)
          | (rw [lkN_n (l := l) (at' := a) (i := k) (f := f) (zs := zs) (by omega) (fun e => by omega)] at hs
             have hs1 := congrArg Prod.fst hs
             dsimp only at hs1
             refine ⟨(k + 1), (by repeat' first | exact trivial | refine ⟨rfl, ?_⟩ | refine ⟨slot_int (by (try simp only [Int.toNat_natCast]); omega), ?_⟩), (by (try dsimp only); omega), ?_⟩
             exact ⟨by omega, hkv, by rw [hs]; exact hov⟩)
          | (rw [lkO_p (l := l) (at' := a) (i := k) (f := f) (zs := zs) (by omega) ⟨by omega, by omega⟩] at hs
             have hs1 := congrArg Prod.fst hs
             dsimp only at hs1
             refine ⟨(k + 1), (by repeat' first | exact trivial | refine ⟨rfl, ?_⟩ | refine ⟨slot_int (by (try simp only [Int.toNat_natCast]); omega), ?_⟩), (by (try dsimp only); omega), ?_⟩
             exact ⟨by omega, hkv, by rw [hs]; exact hov⟩)
          | (rw [lkO_m (l := l) (at' := a) (i := k) (f := f) (zs := zs) (by omega) (fun e => by omega) (by omega)] at hs
             have hs1 := congrArg Prod.fst hs
             dsimp only at hs1
             refine ⟨(k + 1), (by repeat' first | exact trivial | refine ⟨rfl, ?_⟩ | refine ⟨slot_int (by (try simp only [Int.toNat_natCast]); omega), ?_⟩), (by (try dsimp only); omega), ?_⟩
             exact ⟨by omega, hkv, by rw [hs]; exact hov⟩)
          | (refine put_ask (i := k) hov hB (by omega) ?_
             intro H5 ho5 kb5
             rw [lkO_n (l := l) (at' := a) (i := k) (f := f) (zs := zs) (by omega) (fun e => by omega) (by omega)] at hs
             have hs1 := congrArg Prod.fst hs
             dsimp only at hs1
             repeat' first
               | refine CO.cons rfl ?_
               | refine CO.nil ?_
               | refine CV.seq ?_
               | refine CV.region callees ?_
               | refine CV.cond ?_
               | refine CV.block ?_
               | refine CV.skip ?_
               | refine CV.exit ?_
               | refine CV.ret ?_
               | refine CV.scope ?_
               | refine CV.draw callees rfl ?_
               | refine CH.cons rfl ?_
               | refine CH.nil ?_
               | refine CO.consG rfl ?_
               | refine CH.consG rfl ?_
               | refine CG.cons rfl ?_
               | refine CG.nil ?_
               | refine CG.consG rfl ?_
               | refine ⟨(rfl : plain _ = true), ?_⟩
               | refine ⟨(rfl : nilOk _ = some _), ?_⟩
               | refine ⟨_, ints_len (by assumption), ?_⟩
               | refine ⟨_, ints_addr (by assumption) (by omega) (by omega), ?_⟩
               | refine ⟨_, ints_load (by assumption) (by omega) (by omega), ?_⟩
               | refine ⟨(⟨by omega, by omega⟩ : inI64 _), ?_⟩
               | refine ⟨_, fun tm ha => step1_max rfl (ev_tmp ha rfl) (ev_tmp ha rfl), ?_⟩
               | refine ⟨_, fun tm ha => step1_min rfl (ev_tmp ha rfl) (ev_tmp ha rfl), ?_⟩
               | (refine ⟨fun _ => ?_, fun _ => ?_⟩ <;> first | (exfalso; omega) | skip)
               | fail
             refine ⟨(k + 1), (by repeat' first | exact trivial | refine ⟨rfl, ?_⟩ | refine ⟨slot_int (by (try simp only [Int.toNat_natCast]); omega), ?_⟩), (by (try dsimp only); omega), ?_⟩
             exact ⟨by omega, kb5.keep hkv (fun c hc => (hov.lt hc).1), by rw [hs]; exact ho5⟩)
      · have hke : k = i := by omega
        rw [hke] at hov
        repeat' first
          | refine CO.cons rfl ?_
          | refine CO.nil ?_
          | refine CV.seq ?_
          | refine CV.region callees ?_
          | refine CV.cond ?_
          | refine CV.block ?_
          | refine CV.skip ?_
          | refine CV.exit ?_
          | refine CV.ret ?_
          | refine CV.scope ?_
          | refine CV.draw callees rfl ?_
          | refine CH.cons rfl ?_
          | refine CH.nil ?_
          | refine CO.consG rfl ?_
          | refine CH.consG rfl ?_
          | refine CG.cons rfl ?_
          | refine CG.nil ?_
          | refine CG.consG rfl ?_
          | refine ⟨(rfl : plain _ = true), ?_⟩
          | refine ⟨(rfl : nilOk _ = some _), ?_⟩
          | refine ⟨_, ints_len (by assumption), ?_⟩
          | refine ⟨_, ints_addr (by assumption) (by omega) (by omega), ?_⟩
          | refine ⟨_, ints_load (by assumption) (by omega) (by omega), ?_⟩
          | refine ⟨(⟨by omega, by omega⟩ : inI64 _), ?_⟩
          | refine ⟨_, fun tm ha => step1_max rfl (ev_tmp ha rfl) (ev_tmp ha rfl), ?_⟩
          | refine ⟨_, fun tm ha => step1_min rfl (ev_tmp ha rfl) (ev_tmp ha rfl), ?_⟩
          | (refine ⟨fun _ => ?_, fun _ => ?_⟩ <;> first | (exfalso; omega) | skip)
          | fail
        refine ⟨(r + 1, a + 2 * i), (by repeat' first | exact trivial | refine ⟨rfl, ?_⟩ | refine ⟨slot_int (by (try simp only [Int.toNat_natCast]); omega), ?_⟩), (by (try dsimp only); omega), ?_⟩
        exact ⟨by rw [Nat.succ_mul r (2 * i), ha], by omega, hkv, by rw [hnx]; exact hov⟩
    · have : r = q := by omega
      subst this
      repeat' first
        | refine CO.cons rfl ?_
        | refine CO.nil ?_
        | refine CV.seq ?_
        | refine CV.region callees ?_
        | refine CV.cond ?_
        | refine CV.block ?_
        | refine CV.skip ?_
        | refine CV.exit ?_
        | refine CV.ret ?_
        | refine CV.scope ?_
        | refine CV.draw callees rfl ?_
        | refine CH.cons rfl ?_
        | refine CH.nil ?_
        | refine CO.consG rfl ?_
        | refine CH.consG rfl ?_
        | refine CG.cons rfl ?_
        | refine CG.nil ?_
        | refine CG.consG rfl ?_
        | refine ⟨(rfl : plain _ = true), ?_⟩
        | refine ⟨(rfl : nilOk _ = some _), ?_⟩
        | refine ⟨_, ints_len (by assumption), ?_⟩
        | refine ⟨_, ints_addr (by assumption) (by omega) (by omega), ?_⟩
        | refine ⟨_, ints_load (by assumption) (by omega) (by omega), ?_⟩
        | refine ⟨(⟨by omega, by omega⟩ : inI64 _), ?_⟩
        | refine ⟨_, fun tm ha => step1_max rfl (ev_tmp ha rfl) (ev_tmp ha rfl), ?_⟩
        | refine ⟨_, fun tm ha => step1_min rfl (ev_tmp ha rfl) (ev_tmp ha rfl), ?_⟩
        | refine ⟨_, str_len un9, ?_⟩
        | (refine ⟨fun _ => ?_, fun _ => ?_⟩ <;> first | (exfalso; omega) | skip)
        | fail
      refine ⟨by simp only [List.all_cons, List.all_nil, hoy.notTuple]; rfl, ?_, hky⟩
      rw [hq]; exact hoy
theorem refRead_back {xs l : List Int} (hc : check xs = 0) (h : drw xs = l) {n : Nat} (hn : ∀ k : Nat, (∀ q, q < k → l[q]! ≠ 10) → k < l.length → l[k]! = 10 → n = (k + 1) / 2) : n = xs.length ∧ num (lkAll l n (l.length / (2 * n))) [] = xs := by
  have hlx := check_len hc
  obtain ⟨d, hd, h2, h3⟩ := drw_rows xs
  rw [h2] at h
  have hll := drwN_len xs (d + 1)
  rw [show 2 * xs.length - 1 + 1 = 2 * xs.length by omega, h] at hll
  have hm : 1 * (2 * xs.length) ≤ (d + 1) * (2 * xs.length) := Nat.mul_le_mul_right _ (by omega)
  have hat : ∀ c, c < 2 * xs.length - 1 → l[c]! = ch xs 1 (c : Nat) := by
    intro c hcc
    have := drwN_at (xs := xs) (by omega) (d := d + 1) (r := 0) (by omega) hcc
    rw [h, Nat.zero_mul, Nat.zero_add] at this
    rw [List.getElem!_eq_getElem?_getD, this]; rfl
  have hnl : l[2 * xs.length - 1]! = 10 := by
    have e : drwN xs 1 = rowL xs 1 ++ [10] := by simp [drwN]
    have h10 : ∀ d, ∃ t, drwN xs (d + 1) = drwN xs 1 ++ t := by
      intro d
      induction d with
      | zero => exact ⟨[], by simp⟩
      | succ d ih =>
        obtain ⟨t, ht⟩ := ih
        exact ⟨t ++ (rowL xs (((d + 1 : Nat) : Int) + 1) ++ [10]), by rw [drwN, ht, List.append_assoc]⟩
    obtain ⟨t, ht⟩ := h10 d
    rw [h] at ht
    rw [List.getElem!_eq_getElem?_getD, ht, e, List.append_assoc, List.getElem?_append_right (by rw [rowL_len]; exact Nat.le_refl _), rowL_len, Nat.sub_self]
    rfl
  have hn' := hn (2 * xs.length - 1) (fun q hq => by rw [hat q hq]; exact ch_no10 _ _ _) (by omega) hnl
  have hne : n = xs.length := by omega
  refine ⟨hne, ?_⟩
  rw [hne, hll, Nat.mul_div_cancel _ (by omega), ← h]
  exact lk_back hc (by omega)
set_option maxHeartbeats 2000000 in
set_option maxRecDepth 100000 in
theorem refRead_spec {B : Nat} {H : Heap} {l : List Int} (hB : B ≤ H.n) (hb : Bytes l) :
    CallB Tryd.prog B 55 [VS l] H (fun r H' => ReadR H l r H' ∧ Keep H H') := by
  refine CV.enter callees false rfl Tryd.func55 rfl ok55 (Nat.le_of_ble_eq_true rfl) hB ?_
  repeat' first
    | refine CO.cons rfl ?_
    | refine CO.nil ?_
    | refine CV.seq ?_
    | refine CV.region callees ?_
    | refine CV.cond ?_
    | refine CV.block ?_
    | refine CV.skip ?_
    | refine CV.exit ?_
    | refine CV.ret ?_
    | refine CV.scope ?_
    | refine CV.draw callees rfl ?_
    | refine CH.cons rfl ?_
    | refine CH.nil ?_
    | refine CO.consG rfl ?_
    | refine CH.consG rfl ?_
    | refine CG.cons rfl ?_
    | refine CG.nil ?_
    | refine CG.consG rfl ?_
    | refine ⟨(rfl : plain _ = true), ?_⟩
    | refine ⟨(rfl : nilOk _ = some _), ?_⟩
    | refine ⟨_, ints_len (by assumption), ?_⟩
    | refine ⟨_, ints_addr (by assumption) (by omega) (by omega), ?_⟩
    | refine ⟨_, ints_load (by assumption) (by omega) (by omega), ?_⟩
    | refine ⟨(⟨by omega, by omega⟩ : inI64 _), ?_⟩
    | refine ⟨_, fun tm ha => step1_max rfl (ev_tmp ha rfl) (ev_tmp ha rfl), ?_⟩
    | refine ⟨_, fun tm ha => step1_min rfl (ev_tmp ha rfl) (ev_tmp ha rfl), ?_⟩
    | refine ⟨_, str_len un9, ?_⟩
    | (refine ⟨fun _ => ?_, fun _ => ?_⟩ <;> first | (exfalso; omega) | skip)
    | fail
  · refine ⟨rfl, ?_, Keep.refl _⟩
    rw [ReadR, if_pos (by omega)]
  refine CV.loopc ?_
  refine WCv.rounds callees false (α := Nat) (fun k => [(0, VS l), (4, .int .i64 k)]) (fun k Hz => Hz = H ∧ k ≤ l.length ∧ ∀ q, q < k → l[q]! ≠ 10) (fun k => l.length - k) (0) (by repeat' first | exact trivial | refine ⟨rfl, ?_⟩ | refine ⟨slot_int (by (try simp only [Int.toNat_natCast]); omega), ?_⟩) ?_ ?_
  · exact ⟨rfl, by omega, fun q hq => absurd hq (Nat.not_lt_zero q)⟩
  rintro k Hx ⟨rfl, hk, hno⟩ hBx
  by_cases hkl : k < l.length
  · have hx : l[(k : Int).toNat]! = l[k]! := rfl
    by_cases h10 : l[k]! = 10
    · have hn : ∀ k' : Nat, (∀ q, q < k' → l[q]! ≠ 10) → k' < l.length → l[k']! = 10 → (k + 1) / 2 = (k' + 1) / 2 := by
        intro k' h1 h2 h3
        have : k' = k := by
          rcases Nat.lt_trichotomy k' k with h | h | h
          · exact absurd h3 (hno k' h)
          · exact h
          · exact absurd h10 (h1 k h)
        rw [this]
      obtain ⟨n, hnk⟩ : ∃ n, (k + 1) / 2 = n := ⟨_, rfl⟩
      have htd : ((k : Int) + 1).tdiv 2 = (n : Int) := by
        rw [Int.tdiv_eq_ediv_of_nonneg (by omega)]; omega
      rw [hnk] at hn
      repeat' first
        | refine CO.cons rfl ?_
        | refine CO.nil ?_
        | refine CV.seq ?_
        | refine CV.region callees ?_
        | refine CV.cond ?_
        | refine CV.block ?_
        | refine CV.skip ?_
        | refine CV.exit ?_
        | refine CV.ret ?_
        | refine CV.scope ?_
        | refine CV.draw callees rfl ?_
        | refine CH.cons rfl ?_
        | refine CH.nil ?_
        | refine CO.consG rfl ?_
        | refine CH.consG rfl ?_
        | refine CG.cons rfl ?_
        | refine CG.nil ?_
        | refine CG.consG rfl ?_
        | refine ⟨(rfl : plain _ = true), ?_⟩
        | refine ⟨(rfl : nilOk _ = some _), ?_⟩
        | refine ⟨_, ints_len (by assumption), ?_⟩
        | refine ⟨_, ints_addr (by assumption) (by omega) (by omega), ?_⟩
        | refine ⟨_, ints_load (by assumption) (by omega) (by omega), ?_⟩
        | refine ⟨(⟨by omega, by omega⟩ : inI64 _), ?_⟩
        | refine ⟨_, fun tm ha => step1_max rfl (ev_tmp ha rfl) (ev_tmp ha rfl), ?_⟩
        | refine ⟨_, fun tm ha => step1_min rfl (ev_tmp ha rfl) (ev_tmp ha rfl), ?_⟩
        | refine ⟨_, str_len un9, ?_⟩
        | refine ⟨_, str_index un9 hb (by omega) (by omega), ?_⟩
        | refine ⟨_, fun tm ha => step1_quoI rfl (ev_tmp ha rfl) rfl (by omega) (by omega) (by omega), ?_⟩
        | (refine ⟨fun _ => ?_, fun _ => ?_⟩ <;> first | (exfalso; omega) | skip)
        | fail
      · refine ⟨rfl, ?_, Keep.refl _⟩
        rw [ReadR, if_neg (by omega)]
        refine .inr ⟨fun xs hc h => ?_, rfl⟩
        have := (refRead_back hc h hn).1
        have := check_len hc
        omega
      · refine ⟨rfl, ?_, Keep.refl _⟩
        rw [ReadR, if_neg (by omega)]
        refine .inr ⟨fun xs hc h => ?_, rfl⟩
        have := (refRead_back hc h hn).1
        have := check_len hc
        omega
      rw [htd]
      refine (linked_spec hBx hb (by omega) (by omega) (by omega)).mono ?_
      rintro o H1 ⟨ho, k1⟩
      have hB1 : B ≤ H1.n := Nat.le_trans hBx k1.1
      have hol := lkAll_len (l := l) (n := n) (l.length / (2 * n))
      repeat' first
        | refine CO.cons rfl ?_
        | refine CO.nil ?_
        | refine CV.seq ?_
        | refine CV.region callees ?_
        | refine CV.cond ?_
        | refine CV.block ?_
        | refine CV.skip ?_
        | refine CV.exit ?_
        | refine CV.ret ?_
        | refine CV.scope ?_
        | refine CV.draw callees rfl ?_
        | refine CH.cons rfl ?_
        | refine CH.nil ?_
        | refine CO.consG rfl ?_
        | refine CH.consG rfl ?_
        | refine CG.cons rfl ?_
        | refine CG.nil ?_
        | refine CG.consG rfl ?_
        | refine ⟨(rfl : plain _ = true), ?_⟩
        | refine ⟨(rfl : nilOk _ = some _), ?_⟩
        | refine ⟨_, ints_len (by assumption), ?_⟩
        | refine ⟨_, ints_addr (by assumption) (by omega) (by omega), ?_⟩
        | refine ⟨_, ints_load (by assumption) (by omega) (by omega), ?_⟩
        | refine ⟨(⟨by omega, by omega⟩ : inI64 _), ?_⟩
        | refine ⟨_, fun tm ha => step1_max rfl (ev_tmp ha rfl) (ev_tmp ha rfl), ?_⟩
        | refine ⟨_, fun tm ha => step1_min rfl (ev_tmp ha rfl) (ev_tmp ha rfl), ?_⟩
        | (refine ⟨fun _ => ?_, fun _ => ?_⟩ <;> first | (exfalso; omega) | skip)
        | fail
      refine (refof_spec hB1 ho.row (by omega)).mono ?_
      rintro u H2 ⟨hu, k2⟩
      have hB2 : B ≤ H2.n := Nat.le_trans hB1 k2.1
      have hcu := check_of (xs := lkAll l n (l.length / (2 * n))) (by omega) (by omega)
      repeat' first
        | refine CO.cons rfl ?_
        | refine CO.nil ?_
        | refine CV.seq ?_
        | refine CV.region callees ?_
        | refine CV.cond ?_
        | refine CV.block ?_
        | refine CV.skip ?_
        | refine CV.exit ?_
        | refine CV.ret ?_
        | refine CV.scope ?_
        | refine CV.draw callees rfl ?_
        | refine CH.cons rfl ?_
        | refine CH.nil ?_
        | refine CO.consG rfl ?_
        | refine CH.consG rfl ?_
        | refine CG.cons rfl ?_
        | refine CG.nil ?_
        | refine CG.consG rfl ?_
        | refine ⟨(rfl : plain _ = true), ?_⟩
        | refine ⟨(rfl : nilOk _ = some _), ?_⟩
        | refine ⟨_, ints_len (by assumption), ?_⟩
        | refine ⟨_, ints_addr (by assumption) (by omega) (by omega), ?_⟩
        | refine ⟨_, ints_load (by assumption) (by omega) (by omega), ?_⟩
        | refine ⟨(⟨by omega, by omega⟩ : inI64 _), ?_⟩
        | refine ⟨_, fun tm ha => step1_max rfl (ev_tmp ha rfl) (ev_tmp ha rfl), ?_⟩
        | refine ⟨_, fun tm ha => step1_min rfl (ev_tmp ha rfl) (ev_tmp ha rfl), ?_⟩
        | (refine ⟨fun _ => ?_, fun _ => ?_⟩ <;> first | (exfalso; omega) | skip)
        | fail
      refine (refdraw_spec hB2 hu.row hcu).mono ?_
      rintro r H3 ⟨rfl, k3⟩
      have kk := (k1.trans k2).trans k3
      by_cases he : drw (num (lkAll l n (l.length / (2 * n))) []) = l
      · repeat' first
          | refine CO.cons rfl ?_
          | refine CO.nil ?_
          | refine CV.seq ?_
          | refine CV.region callees ?_
          | refine CV.cond ?_
          | refine CV.block ?_
          | refine CV.skip ?_
          | refine CV.exit ?_
          | refine CV.ret ?_
          | refine CV.scope ?_
          | refine CV.draw callees rfl ?_
          | refine CH.cons rfl ?_
          | refine CH.nil ?_
          | refine CO.consG rfl ?_
          | refine CH.consG rfl ?_
          | refine CG.cons rfl ?_
          | refine CG.nil ?_
          | refine CG.consG rfl ?_
          | refine ⟨(rfl : plain _ = true), ?_⟩
          | refine ⟨(rfl : nilOk _ = some _), ?_⟩
          | refine ⟨_, ints_len (by assumption), ?_⟩
          | refine ⟨_, ints_addr (by assumption) (by omega) (by omega), ?_⟩
          | refine ⟨_, ints_load (by assumption) (by omega) (by omega), ?_⟩
          | refine ⟨(⟨by omega, by omega⟩ : inI64 _), ?_⟩
          | refine ⟨_, fun tm ha => step1_max rfl (ev_tmp ha rfl) (ev_tmp ha rfl), ?_⟩
          | refine ⟨_, fun tm ha => step1_min rfl (ev_tmp ha rfl) (ev_tmp ha rfl), ?_⟩
          | refine ⟨_, fun tm ha => neS_f rfl (ev_tmp ha rfl) (ev_tmp ha rfl) he, ?_⟩
          | (refine ⟨fun _ => ?_, fun _ => ?_⟩ <;> first | (exfalso; omega) | skip)
          | fail
        refine ⟨by simp only [List.all_cons, List.all_nil, hu.notTuple]; rfl, ?_, kk⟩
        rw [ReadR, if_neg (by omega)]
        exact .inl ⟨_, _, hcu, he, rfl, (hu.keep k3).low k1.1⟩
      · repeat' first
          | refine CO.cons rfl ?_
          | refine CO.nil ?_
          | refine CV.seq ?_
          | refine CV.region callees ?_
          | refine CV.cond ?_
          | refine CV.block ?_
          | refine CV.skip ?_
          | refine CV.exit ?_
          | refine CV.ret ?_
          | refine CV.scope ?_
          | refine CV.draw callees rfl ?_
          | refine CH.cons rfl ?_
          | refine CH.nil ?_
          | refine CO.consG rfl ?_
          | refine CH.consG rfl ?_
          | refine CG.cons rfl ?_
          | refine CG.nil ?_
          | refine CG.consG rfl ?_
          | refine ⟨(rfl : plain _ = true), ?_⟩
          | refine ⟨(rfl : nilOk _ = some _), ?_⟩
          | refine ⟨_, ints_len (by assumption), ?_⟩
          | refine ⟨_, ints_addr (by assumption) (by omega) (by omega), ?_⟩
          | refine ⟨_, ints_load (by assumption) (by omega) (by omega), ?_⟩
          | refine ⟨(⟨by omega, by omega⟩ : inI64 _), ?_⟩
          | refine ⟨_, fun tm ha => step1_max rfl (ev_tmp ha rfl) (ev_tmp ha rfl), ?_⟩
          | refine ⟨_, fun tm ha => step1_min rfl (ev_tmp ha rfl) (ev_tmp ha rfl), ?_⟩
          | refine ⟨_, fun tm ha => neS_t rfl (ev_tmp ha rfl) (ev_tmp ha rfl) (drw_bytes _) hb he, ?_⟩
          | (refine ⟨fun _ => ?_, fun _ => ?_⟩ <;> first | (exfalso; omega) | skip)
          | fail
        refine ⟨rfl, ?_, kk⟩
        rw [ReadR, if_neg (by omega)]
        refine .inr ⟨fun xs hc h => ?_, rfl⟩
        rw [(refRead_back hc h hn).2] at he
        exact he h
    · repeat' first
        | refine CO.cons rfl ?_
        | refine CO.nil ?_
        | refine CV.seq ?_
        | refine CV.region callees ?_
        | refine CV.cond ?_
        | refine CV.block ?_
        | refine CV.skip ?_
        | refine CV.exit ?_
        | refine CV.ret ?_
        | refine CV.scope ?_
        | refine CV.draw callees rfl ?_
        | refine CH.cons rfl ?_
        | refine CH.nil ?_
        | refine CO.consG rfl ?_
        | refine CH.consG rfl ?_
        | refine CG.cons rfl ?_
        | refine CG.nil ?_
        | refine CG.consG rfl ?_
        | refine ⟨(rfl : plain _ = true), ?_⟩
        | refine ⟨(rfl : nilOk _ = some _), ?_⟩
        | refine ⟨_, ints_len (by assumption), ?_⟩
        | refine ⟨_, ints_addr (by assumption) (by omega) (by omega), ?_⟩
        | refine ⟨_, ints_load (by assumption) (by omega) (by omega), ?_⟩
        | refine ⟨(⟨by omega, by omega⟩ : inI64 _), ?_⟩
        | refine ⟨_, fun tm ha => step1_max rfl (ev_tmp ha rfl) (ev_tmp ha rfl), ?_⟩
        | refine ⟨_, fun tm ha => step1_min rfl (ev_tmp ha rfl) (ev_tmp ha rfl), ?_⟩
        | refine ⟨_, str_len un9, ?_⟩
        | refine ⟨_, str_index un9 hb (by omega) (by omega), ?_⟩
        | (refine ⟨fun _ => ?_, fun _ => ?_⟩ <;> first | (exfalso; omega) | skip)
        | fail
      refine ⟨(k + 1), (by repeat' first | exact trivial | refine ⟨rfl, ?_⟩ | refine ⟨slot_int (by (try simp only [Int.toNat_natCast]); omega), ?_⟩), (by (try dsimp only); omega), ?_⟩
      refine ⟨rfl, by omega, fun q hq => ?_⟩
      by_cases hqk : q < k
      · exact hno q hqk
      · have : q = k := by omega
        subst this; exact h10
  · have hn : ∀ k' : Nat, (∀ q, q < k' → l[q]! ≠ 10) → k' < l.length → l[k']! = 10 → (k + 1) / 2 = (k' + 1) / 2 := by
      intro k' h1 h2 h3
      exact absurd h3 (hno k' (by omega))
    obtain ⟨n, hnk⟩ : ∃ n, (k + 1) / 2 = n := ⟨_, rfl⟩
    have htd : ((k : Int) + 1).tdiv 2 = (n : Int) := by
      rw [Int.tdiv_eq_ediv_of_nonneg (by omega)]; omega
    rw [hnk] at hn
    repeat' first
      | refine CO.cons rfl ?_
      | refine CO.nil ?_
      | refine CV.seq ?_
      | refine CV.region callees ?_
      | refine CV.cond ?_
      | refine CV.block ?_
      | refine CV.skip ?_
      | refine CV.exit ?_
      | refine CV.ret ?_
      | refine CV.scope ?_
      | refine CV.draw callees rfl ?_
      | refine CH.cons rfl ?_
      | refine CH.nil ?_
      | refine CO.consG rfl ?_
      | refine CH.consG rfl ?_
      | refine CG.cons rfl ?_
      | refine CG.nil ?_
      | refine CG.consG rfl ?_
      | refine ⟨(rfl : plain _ = true), ?_⟩
      | refine ⟨(rfl : nilOk _ = some _), ?_⟩
      | refine ⟨_, ints_len (by assumption), ?_⟩
      | refine ⟨_, ints_addr (by assumption) (by omega) (by omega), ?_⟩
      | refine ⟨_, ints_load (by assumption) (by omega) (by omega), ?_⟩
      | refine ⟨(⟨by omega, by omega⟩ : inI64 _), ?_⟩
      | refine ⟨_, fun tm ha => step1_max rfl (ev_tmp ha rfl) (ev_tmp ha rfl), ?_⟩
      | refine ⟨_, fun tm ha => step1_min rfl (ev_tmp ha rfl) (ev_tmp ha rfl), ?_⟩
      | refine ⟨_, str_len un9, ?_⟩
      | refine ⟨_, str_index un9 hb (by omega) (by omega), ?_⟩
      | refine ⟨_, fun tm ha => step1_quoI rfl (ev_tmp ha rfl) rfl (by omega) (by omega) (by omega), ?_⟩
      | (refine ⟨fun _ => ?_, fun _ => ?_⟩ <;> first | (exfalso; omega) | skip)
      | fail
    · refine ⟨rfl, ?_, Keep.refl _⟩
      rw [ReadR, if_neg (by omega)]
      refine .inr ⟨fun xs hc h => ?_, rfl⟩
      have := (refRead_back hc h hn).1
      have := check_len hc
      omega
    · refine ⟨rfl, ?_, Keep.refl _⟩
      rw [ReadR, if_neg (by omega)]
      refine .inr ⟨fun xs hc h => ?_, rfl⟩
      have := (refRead_back hc h hn).1
      have := check_len hc
      omega
    rw [htd]
    refine (linked_spec hBx hb (by omega) (by omega) (by omega)).mono ?_
    rintro o H1 ⟨ho, k1⟩
    have hB1 : B ≤ H1.n := Nat.le_trans hBx k1.1
    have hol := lkAll_len (l := l) (n := n) (l.length / (2 * n))
    repeat' first
      | refine CO.cons rfl ?_
      | refine CO.nil ?_
      | refine CV.seq ?_
      | refine CV.region callees ?_
      | refine CV.cond ?_
      | refine CV.block ?_
      | refine CV.skip ?_
      | refine CV.exit ?_
      | refine CV.ret ?_
      | refine CV.scope ?_
      | refine CV.draw callees rfl ?_
      | refine CH.cons rfl ?_
      | refine CH.nil ?_
      | refine CO.consG rfl ?_
      | refine CH.consG rfl ?_
      | refine CG.cons rfl ?_
      | refine CG.nil ?_
      | refine CG.consG rfl ?_
      | refine ⟨(rfl : plain _ = true), ?_⟩
      | refine ⟨(rfl : nilOk _ = some _), ?_⟩
      | refine ⟨_, ints_len (by assumption), ?_⟩
      | refine ⟨_, ints_addr (by assumption) (by omega) (by omega), ?_⟩
      | refine ⟨_, ints_load (by assumption) (by omega) (by omega), ?_⟩
      | refine ⟨(⟨by omega, by omega⟩ : inI64 _), ?_⟩
      | refine ⟨_, fun tm ha => step1_max rfl (ev_tmp ha rfl) (ev_tmp ha rfl), ?_⟩
      | refine ⟨_, fun tm ha => step1_min rfl (ev_tmp ha rfl) (ev_tmp ha rfl), ?_⟩
      | (refine ⟨fun _ => ?_, fun _ => ?_⟩ <;> first | (exfalso; omega) | skip)
      | fail
    refine (refof_spec hB1 ho.row (by omega)).mono ?_
    rintro u H2 ⟨hu, k2⟩
    have hB2 : B ≤ H2.n := Nat.le_trans hB1 k2.1
    have hcu := check_of (xs := lkAll l n (l.length / (2 * n))) (by omega) (by omega)
    repeat' first
      | refine CO.cons rfl ?_
      | refine CO.nil ?_
      | refine CV.seq ?_
      | refine CV.region callees ?_
      | refine CV.cond ?_
      | refine CV.block ?_
      | refine CV.skip ?_
      | refine CV.exit ?_
      | refine CV.ret ?_
      | refine CV.scope ?_
      | refine CV.draw callees rfl ?_
      | refine CH.cons rfl ?_
      | refine CH.nil ?_
      | refine CO.consG rfl ?_
      | refine CH.consG rfl ?_
      | refine CG.cons rfl ?_
      | refine CG.nil ?_
      | refine CG.consG rfl ?_
      | refine ⟨(rfl : plain _ = true), ?_⟩
      | refine ⟨(rfl : nilOk _ = some _), ?_⟩
      | refine ⟨_, ints_len (by assumption), ?_⟩
      | refine ⟨_, ints_addr (by assumption) (by omega) (by omega), ?_⟩
      | refine ⟨_, ints_load (by assumption) (by omega) (by omega), ?_⟩
      | refine ⟨(⟨by omega, by omega⟩ : inI64 _), ?_⟩
      | refine ⟨_, fun tm ha => step1_max rfl (ev_tmp ha rfl) (ev_tmp ha rfl), ?_⟩
      | refine ⟨_, fun tm ha => step1_min rfl (ev_tmp ha rfl) (ev_tmp ha rfl), ?_⟩
      | (refine ⟨fun _ => ?_, fun _ => ?_⟩ <;> first | (exfalso; omega) | skip)
      | fail
    refine (refdraw_spec hB2 hu.row hcu).mono ?_
    rintro r H3 ⟨rfl, k3⟩
    have kk := (k1.trans k2).trans k3
    by_cases he : drw (num (lkAll l n (l.length / (2 * n))) []) = l
    · repeat' first
        | refine CO.cons rfl ?_
        | refine CO.nil ?_
        | refine CV.seq ?_
        | refine CV.region callees ?_
        | refine CV.cond ?_
        | refine CV.block ?_
        | refine CV.skip ?_
        | refine CV.exit ?_
        | refine CV.ret ?_
        | refine CV.scope ?_
        | refine CV.draw callees rfl ?_
        | refine CH.cons rfl ?_
        | refine CH.nil ?_
        | refine CO.consG rfl ?_
        | refine CH.consG rfl ?_
        | refine CG.cons rfl ?_
        | refine CG.nil ?_
        | refine CG.consG rfl ?_
        | refine ⟨(rfl : plain _ = true), ?_⟩
        | refine ⟨(rfl : nilOk _ = some _), ?_⟩
        | refine ⟨_, ints_len (by assumption), ?_⟩
        | refine ⟨_, ints_addr (by assumption) (by omega) (by omega), ?_⟩
        | refine ⟨_, ints_load (by assumption) (by omega) (by omega), ?_⟩
        | refine ⟨(⟨by omega, by omega⟩ : inI64 _), ?_⟩
        | refine ⟨_, fun tm ha => step1_max rfl (ev_tmp ha rfl) (ev_tmp ha rfl), ?_⟩
        | refine ⟨_, fun tm ha => step1_min rfl (ev_tmp ha rfl) (ev_tmp ha rfl), ?_⟩
        | refine ⟨_, fun tm ha => neS_f rfl (ev_tmp ha rfl) (ev_tmp ha rfl) he, ?_⟩
        | (refine ⟨fun _ => ?_, fun _ => ?_⟩ <;> first | (exfalso; omega) | skip)
        | fail
      refine ⟨by simp only [List.all_cons, List.all_nil, hu.notTuple]; rfl, ?_, kk⟩
      rw [ReadR, if_neg (by omega)]
      exact .inl ⟨_, _, hcu, he, rfl, (hu.keep k3).low k1.1⟩
    · repeat' first
        | refine CO.cons rfl ?_
        | refine CO.nil ?_
        | refine CV.seq ?_
        | refine CV.region callees ?_
        | refine CV.cond ?_
        | refine CV.block ?_
        | refine CV.skip ?_
        | refine CV.exit ?_
        | refine CV.ret ?_
        | refine CV.scope ?_
        | refine CV.draw callees rfl ?_
        | refine CH.cons rfl ?_
        | refine CH.nil ?_
        | refine CO.consG rfl ?_
        | refine CH.consG rfl ?_
        | refine CG.cons rfl ?_
        | refine CG.nil ?_
        | refine CG.consG rfl ?_
        | refine ⟨(rfl : plain _ = true), ?_⟩
        | refine ⟨(rfl : nilOk _ = some _), ?_⟩
        | refine ⟨_, ints_len (by assumption), ?_⟩
        | refine ⟨_, ints_addr (by assumption) (by omega) (by omega), ?_⟩
        | refine ⟨_, ints_load (by assumption) (by omega) (by omega), ?_⟩
        | refine ⟨(⟨by omega, by omega⟩ : inI64 _), ?_⟩
        | refine ⟨_, fun tm ha => step1_max rfl (ev_tmp ha rfl) (ev_tmp ha rfl), ?_⟩
        | refine ⟨_, fun tm ha => step1_min rfl (ev_tmp ha rfl) (ev_tmp ha rfl), ?_⟩
        | refine ⟨_, fun tm ha => neS_t rfl (ev_tmp ha rfl) (ev_tmp ha rfl) (drw_bytes _) hb he, ?_⟩
        | (refine ⟨fun _ => ?_, fun _ => ?_⟩ <;> first | (exfalso; omega) | skip)
        | fail
      refine ⟨rfl, ?_, kk⟩
      rw [ReadR, if_neg (by omega)]
      refine .inr ⟨fun xs hc h => ?_, rfl⟩
      rw [(refRead_back hc h hn).2] at he
      exact he h
end Go.Proofs.YteocbhefhobehaaDoor
