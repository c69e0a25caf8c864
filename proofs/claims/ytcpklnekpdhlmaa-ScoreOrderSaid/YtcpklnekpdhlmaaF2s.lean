
/- Of which packets two partitions do not agree. -/
import Derived.Test.YtcpklnekpdhlmaaF1s
import Derived.Test.YtcpklnekpdhlmaaD1s
set_option linter.unusedVariables false
set_option linter.unusedSimpArgs false
namespace Go.Proofs.Ytcpklnekpdhlmaa
open Go.AI
theorem un104 : Try.prog.underlying 118 = some (.array 9 91) := by kernel_rfl
theorem sz76 : sizeB Try.prog 91 = some 1 := by kernel_rfl
theorem ag76 : isAggB Try.prog 91 = some false := by kernel_rfl
theorem sz104 : sizeB Try.prog 118 = some 9 := by kernel_rfl
theorem ag104 : isAggB Try.prog 118 = some true := by kernel_rfl
abbrev VU (n : Nat) : Value := .int .u64 n
def arr (f : Nat → Nat) : List Value := (List.range 9).map fun q => VU (f q)
theorem zero104 : zeroCells Try.prog 118 = some (arr fun _ => 0) := by kernel_rfl
theorem alloc104 {H : Heap} : sAlloc Try.prog H 118 = some (.pointer (some ⟨H.n, 0, none⟩), H.new (.cells (arr fun _ => 0) 118 1), H.n) := alloc_of zero104
theorem arr_len (f : Nat → Nat) : (arr f).length = 9 := by simp [arr]
theorem arr_at {f : Nat → Nat} {i : Nat} (h : i < 9) : (arr f)[i]? = some (VU (f i)) := by simp [arr, h]
theorem arr_set {f : Nat → Nat} {i v : Nat} : (arr f).set i (VU v) = arr fun q => if q = i then v else f q := by
  apply List.ext_getElem
  · simp [arr]
  · intro j h1 h2
    rw [List.getElem_set]
    simp only [arr, List.getElem_map, List.getElem_range]
    by_cases h : i = j
    · rw [if_pos h, if_pos h.symm]
    · rw [if_neg h, if_neg (fun e => h e.symm)]
theorem addr9 {b : Nat} {i : Int} (h0 : 0 ≤ i) (h1 : i < 9) : aindexAddr Try.prog 118 (.pointer (some ⟨b, 0, none⟩)) (.int .i64 i) = some (.pointer (some ⟨b, 0 + i.toNat * 1, none⟩)) := array_addr un104 sz76 h0 (by omega)
theorem load9 {H : Heap} {b : Nat} {f : Nat → Nat} {i : Int} (hb : H.get b = some (.cells (arr f) 118 1)) (h0 : 0 ≤ i) (h1 : i < 9) : aload Try.prog 91 H (.pointer (some ⟨b, 0 + i.toNat * 1, none⟩)) = some (VU (f i.toNat)) := by
  simp only [aload, hb, ag76]
  rw [show 0 + i.toNat * 1 = i.toNat by omega, arr_at (by omega)]
theorem store9 {H : Heap} {b : Nat} {f : Nat → Nat} {i : Int} {v : Nat} (hb : H.get b = some (.cells (arr f) 118 1)) (h0 : 0 ≤ i) (h1 : i < 9) : astore Try.prog 91 H (VU v) (.pointer (some ⟨b, 0 + i.toNat * 1, none⟩)) = some (H.set b (.cells (arr fun q => if q = i.toNat then v else f q) 118 1), b) := by
  rw [show 0 + i.toNat * 1 = i.toNat by omega, store_row sz76 hb (by rw [arr_len]; omega) rfl, arr_set]
theorem loadAll {H : Heap} {b : Nat} {f : Nat → Nat} (hb : H.get b = some (.cells (arr f) 118 1)) : aload Try.prog 118 H (.pointer (some ⟨b, 0, none⟩)) = some (.agg (arr f).toArray) := by
  simp only [aload, hb, ag104, sz104, arr_len]
  rw [if_pos (by omega), List.drop_zero, List.take_of_length_le (by rw [arr_len]; omega)]
theorem storeAll {H : Heap} {b : Nat} {f g : Nat → Nat} (hb : H.get b = some (.cells (arr f) 118 1)) : astore Try.prog 118 H (.agg (arr g).toArray) (.pointer (some ⟨b, 0, none⟩)) = some (H.set b (.cells (arr g) 118 1), b) :=
  store_all hb (by rw [arr_len, arr_len]) (by rw [arr_len]; exact sz104) (by simp [arr, oneC])

/-- Bits, one by one. -/
def dB (f : Nat → Bool) : Nat → Nat
  | 0 => 0
  | k + 1 => dB f k ||| (if f k then 1 <<< k else 0)
theorem dB_lt (f : Nat → Bool) : ∀ k, dB f k < 2 ^ k
  | 0 => by simp [dB]
  | k + 1 => by
    rw [dB]
    refine Nat.or_lt_two_pow (Nat.lt_of_lt_of_le (dB_lt f k) (Nat.pow_le_pow_right (by decide) (by omega))) ?_
    split
    · rw [Nat.one_shiftLeft]; exact Nat.pow_lt_pow_right (by decide) (by omega)
    · exact Nat.two_pow_pos _
theorem dB_bit (f : Nat → Bool) : ∀ k j, (dB f k).testBit j = (decide (j < k) && f j)
  | 0, j => by simp [dB]
  | k + 1, j => by
    rw [dB, Nat.testBit_or, dB_bit f k j]
    by_cases hj : j = k
    · subst hj
      cases hf : f j <;> simp [Nat.one_shiftLeft, Nat.testBit_two_pow]
    · have h1 : decide (j < k + 1) = decide (j < k) := by
        rw [Bool.eq_iff_iff, decide_eq_true_eq, decide_eq_true_eq]; omega
      rw [h1]
      cases hf : f k <;> simp [Nat.one_shiftLeft, Nat.testBit_two_pow, Ne.symm hj]
/-- Whether just one of two partitions has two packets in one block. -/
def dis (xs ys : List Int) (i j : Nat) : Bool := decide (xs[i]! = xs[j]!) != decide (ys[i]! = ys[j]!)
def dM (xs ys : List Int) (i j : Nat) (q : Nat) : Nat := if q < i then dB (dis xs ys q) xs.length else if q = i then dB (dis xs ys q) j else 0
theorem dM_lt {xs ys : List Int} {i j q : Nat} (hl : xs.length ≤ 9) (hj : j ≤ 9) : dM xs ys i j q < 512 := by
  have h9 : (2 : Nat) ^ 9 = 512 := by decide
  unfold dM
  split
  · exact Nat.lt_of_lt_of_le (dB_lt _ _) (by rw [← h9]; exact Nat.pow_le_pow_right (by decide) hl)
  · split
    · exact Nat.lt_of_lt_of_le (dB_lt _ _) (by rw [← h9]; exact Nat.pow_le_pow_right (by decide) hj)
    · decide
theorem dM_zero (xs ys : List Int) : dM xs ys 0 0 = fun _ => 0 := by
  funext q; unfold dM; simp; intro h; subst h; rfl
theorem dM_next {xs ys : List Int} {i : Nat} : dM xs ys i xs.length = dM xs ys (i + 1) 0 := by
  funext q
  unfold dM
  by_cases h1 : q < i
  · rw [if_pos h1, if_pos (by omega)]
  · by_cases h2 : q = i
    · rw [if_neg h1, if_pos h2, if_pos (by omega)]
    · rw [if_neg h1, if_neg h2, if_neg (by omega)]
      by_cases h3 : q = i + 1
      · rw [if_pos h3]; rfl
      · rw [if_neg h3]
theorem dM_put {xs ys : List Int} {i j : Nat} (hd : dis xs ys i j = true) : (fun q => if q = i then dM xs ys i j i ||| (1 <<< j) else dM xs ys i j q) = dM xs ys i (j + 1) := by
  funext q
  by_cases h : q = i
  · subst h
    rw [if_pos rfl]
    simp only [dM, Nat.lt_irrefl, if_false, if_true]
    rw [dB, if_pos hd]
  · rw [if_neg h]
    simp only [dM, h, if_false]
theorem dM_skip {xs ys : List Int} {i j : Nat} (hd : dis xs ys i j = false) : dM xs ys i j = dM xs ys i (j + 1) := by
  funext q
  by_cases h : q = i
  · subst h
    simp only [dM, Nat.lt_irrefl, if_false, if_true]
    rw [dB, hd]; simp
  · simp only [dM, h, if_false]

set_option maxHeartbeats 4000000 in
set_option maxRecDepth 100000 in
theorem disputes_spec {B : Nat} {v u : Value} {H : Heap} {xs ys : List Int} (hB : B ≤ H.n) (hv : Ints H v xs) (hu : Ints H u ys) (hl : xs.length = ys.length) (h9 : xs.length ≤ 9) :
    CallB Try.prog B 89 [v, u] H (fun r H' => r = .agg (arr (dM xs ys xs.length 0)).toArray ∧ Keep H H') := by
  refine CV.enter callees false rfl Try.func89 rfl (by kernel_rfl) (Nat.le_of_ble_eq_true rfl) hB ?_
  repeat' first
    | refine CO.cons rfl ?_
    | refine CO.nil ?_
    | refine CV.seq ?_
    | refine CV.region callees ?_
    | refine CV.cond ?_
    | refine CV.block ?_
    | refine CV.skip ?_
    | refine CV.exit ?_
    | refine CV.ret ?_
    | refine CV.scope ?_
    | refine CV.draw callees rfl ?_
    | refine CH.cons rfl ?_
    | refine CH.nil ?_
    | refine CO.consG rfl ?_
    | refine CH.consG rfl ?_
    | refine CG.cons rfl ?_
    | refine CR.cons ?_
    | refine CR.nil ?_
    | refine CG.nil ?_
    | refine CG.consG rfl ?_
    | refine ⟨(rfl : plain _ = true), ?_⟩
    | refine ⟨(rfl : nilOk _ = some _), ?_⟩
    | refine ⟨_, ints_len (by assumption), ?_⟩
    | refine ⟨_, ints_addr (by assumption) (by omega) (by omega), ?_⟩
    | refine ⟨_, ints_load (by assumption) (by omega) (by omega), ?_⟩
    | refine ⟨(⟨by omega, by omega⟩ : inI64 _), ?_⟩
    | refine ⟨_, fun tm ha => step1_max rfl (ev_tmp ha rfl) (ev_tmp ha rfl), ?_⟩
    | refine ⟨_, fun tm ha => step1_min rfl (ev_tmp ha rfl) (ev_tmp ha rfl), ?_⟩
    | refine ⟨_, _, alloc104, ?_⟩
    | (refine ⟨fun _ => ?_, fun _ => ?_⟩ <;> first | (exfalso; omega) | skip)
    | fail
  have k2 : Keep H ((H.new (.cells (arr fun _ => 0) 118 1)).new (.cells (arr fun _ => 0) 118 1)) := (Keep.new _ _).trans (Keep.new _ _)
  have g4 : ((H.new (.cells (arr fun _ => 0) 118 1)).new (.cells (arr fun _ => 0) 118 1)).get H.n = some (.cells (arr fun _ => 0) 118 1) := by
    rw [Heap.get_new_ne _ _ (by show H.n ≠ H.n + 1; omega), Heap.get_new_eq]
  have g5 : ((H.new (.cells (arr fun _ => 0) 118 1)).new (.cells (arr fun _ => 0) 118 1)).get (H.n + 1) = some (.cells (arr fun _ => 0) 118 1) := Heap.get_new_eq _ _
  have hv2 : Ints _ v xs := Row.keep hv k2
  have hn5 : (H.new (.cells (arr fun _ => 0) 118 1)).n = H.n + 1 := rfl
  rw [hn5]
  generalize (H.new (.cells (arr fun _ => 0) 118 1)).new (.cells (arr fun _ => 0) 118 1) = H2 at k2 g4 g5 hv2
  repeat' first
    | refine CO.cons rfl ?_
    | refine CO.nil ?_
    | refine CV.seq ?_
    | refine CV.region callees ?_
    | refine CV.cond ?_
    | refine CV.block ?_
    | refine CV.skip ?_
    | refine CV.exit ?_
    | refine CV.ret ?_
    | refine CV.scope ?_
    | refine CV.draw callees rfl ?_
    | refine CH.cons rfl ?_
    | refine CH.nil ?_
    | refine CO.consG rfl ?_
    | refine CH.consG rfl ?_
    | refine CG.cons rfl ?_
    | refine CR.cons ?_
    | refine CR.nil ?_
    | refine CG.nil ?_
    | refine CG.consG rfl ?_
    | refine ⟨(rfl : plain _ = true), ?_⟩
    | refine ⟨(rfl : nilOk _ = some _), ?_⟩
    | refine ⟨_, ints_len (by assumption), ?_⟩
    | refine ⟨_, ints_addr (by assumption) (by omega) (by omega), ?_⟩
    | refine ⟨_, ints_load (by assumption) (by omega) (by omega), ?_⟩
    | refine ⟨(⟨by omega, by omega⟩ : inI64 _), ?_⟩
    | refine ⟨_, fun tm ha => step1_max rfl (ev_tmp ha rfl) (ev_tmp ha rfl), ?_⟩
    | refine ⟨_, fun tm ha => step1_min rfl (ev_tmp ha rfl) (ev_tmp ha rfl), ?_⟩
    | (refine ⟨fun _ => ?_, fun _ => ?_⟩ <;> first | (exfalso; omega) | skip)
    | fail
  refine CV.loopc ?_
  refine WCv.rounds callees false (α := Int) (fun i => [(0, v), (1, u), (4, .pointer (some ⟨H.n, 0, none⟩)), (5, .pointer (some ⟨H.n + 1, 0, none⟩)), (9, .int .i64 xs.length), (10, .int .i64 i)]) (fun i Hz => 0 ≤ i ∧ i ≤ xs.length ∧ Keep H Hz ∧ Hz.get H.n = some (.cells (arr fun _ => 0) 118 1) ∧ Hz.get (H.n + 1) = some (.cells (arr (dM xs ys i.toNat 0)) 118 1)) (fun i => xs.length - i.toNat) (0) (by repeat' first | exact trivial | refine ⟨rfl, ?_⟩) ?_ ?_
  · exact ⟨by omega, by omega, k2, g4, by rw [show (0 : Int).toNat = 0 from rfl, dM_zero]; exact g5⟩
  rintro i Hx ⟨hi0, hi1, hkx, hg4, hg5⟩ hBx
  have hvx : Ints Hx v xs := Row.keep hv hkx
  by_cases hi : i < xs.length
  · repeat' first
      | refine CO.cons rfl ?_
      | refine CO.nil ?_
      | refine CV.seq ?_
      | refine CV.region callees ?_
      | refine CV.cond ?_
      | refine CV.block ?_
      | refine CV.skip ?_
      | refine CV.exit ?_
      | refine CV.ret ?_
      | refine CV.scope ?_
      | refine CV.draw callees rfl ?_
      | refine CH.cons rfl ?_
      | refine CH.nil ?_
      | refine CO.consG rfl ?_
      | refine CH.consG rfl ?_
      | refine CG.cons rfl ?_
      | refine CR.cons ?_
      | refine CR.nil ?_
      | refine CG.nil ?_
      | refine CG.consG rfl ?_
      | refine ⟨(rfl : plain _ = true), ?_⟩
      | refine ⟨(rfl : nilOk _ = some _), ?_⟩
      | refine ⟨_, ints_len (by assumption), ?_⟩
      | refine ⟨_, ints_addr (by assumption) (by omega) (by omega), ?_⟩
      | refine ⟨_, ints_load (by assumption) (by omega) (by omega), ?_⟩
      | refine ⟨(⟨by omega, by omega⟩ : inI64 _), ?_⟩
      | refine ⟨_, fun tm ha => step1_max rfl (ev_tmp ha rfl) (ev_tmp ha rfl), ?_⟩
      | refine ⟨_, fun tm ha => step1_min rfl (ev_tmp ha rfl) (ev_tmp ha rfl), ?_⟩
      | (refine ⟨fun _ => ?_, fun _ => ?_⟩ <;> first | (exfalso; omega) | skip)
      | fail
    refine CV.loopc ?_
    refine WCv.rounds callees false (α := Int) (fun j => [(0, v), (1, u), (4, .pointer (some ⟨H.n, 0, none⟩)), (5, .pointer (some ⟨H.n + 1, 0, none⟩)), (9, .int .i64 xs.length), (10, .int .i64 i), (6, .int .i64 i), (14, .int .i64 xs.length), (15, .int .i64 j)]) (fun j Hz => 0 ≤ j ∧ j ≤ xs.length ∧ Keep H Hz ∧ Hz.get H.n = some (.cells (arr fun _ => 0) 118 1) ∧ Hz.get (H.n + 1) = some (.cells (arr (dM xs ys i.toNat j.toNat)) 118 1)) (fun j => xs.length - j.toNat) (0) (by repeat' first | exact trivial | refine ⟨rfl, ?_⟩) ?_ ?_
    · exact ⟨by omega, by omega, hkx, hg4, hg5⟩
    rintro j Hy ⟨hj0, hj1, hky, hy4, hy5⟩ hBy
    have hvy : Ints Hy v xs := Row.keep hv hky
    have huy : Ints Hy u ys := Row.keep hu hky
    by_cases hj : j < xs.length
    · repeat' first
        | refine CO.cons rfl ?_
        | refine CO.nil ?_
        | refine CV.seq ?_
        | refine CV.region callees ?_
        | refine CV.cond ?_
        | refine CV.block ?_
        | refine CV.skip ?_
        | refine CV.exit ?_
        | refine CV.ret ?_
        | refine CV.scope ?_
        | refine CV.draw callees rfl ?_
        | refine CH.cons rfl ?_
        | refine CH.nil ?_
        | refine CO.consG rfl ?_
        | refine CH.consG rfl ?_
        | refine CG.cons rfl ?_
        | refine CR.cons ?_
        | refine CR.nil ?_
        | refine CG.nil ?_
        | refine CG.consG rfl ?_
        | refine ⟨(rfl : plain _ = true), ?_⟩
        | refine ⟨(rfl : nilOk _ = some _), ?_⟩
        | refine ⟨_, ints_len (by assumption), ?_⟩
        | refine ⟨_, ints_addr (by assumption) (by omega) (by omega), ?_⟩
        | refine ⟨_, ints_load (by assumption) (by omega) (by omega), ?_⟩
        | refine ⟨(⟨by omega, by omega⟩ : inI64 _), ?_⟩
        | refine ⟨_, fun tm ha => step1_max rfl (ev_tmp ha rfl) (ev_tmp ha rfl), ?_⟩
        | refine ⟨_, fun tm ha => step1_min rfl (ev_tmp ha rfl) (ev_tmp ha rfl), ?_⟩
        | refine ⟨_, fun tm ha => step1_boolNeq un4 rfl (ev_tmp ha rfl) (ev_tmp ha rfl), ?_⟩
        | refine ⟨_, addr9 (by omega) (by omega), ?_⟩
        | refine ⟨_, load9 hy5 (by omega) (by omega), ?_⟩
        | refine ⟨_, fun tm ha => step1_shl rfl rfl (ev_tmp ha rfl) (by omega), ?_⟩
        | refine ⟨_, fun tm ha => step1_bits (.inr (.inr (.inl rfl))) rfl (ev_tmp ha rfl) (ev_tmp ha rfl) rfl rfl, ?_⟩
        | (refine ⟨fun _ => ?_, fun _ => ?_⟩ <;> first | (exfalso; omega) | skip)
        | fail
      · refine ⟨(j + 1), (by repeat' first | exact trivial | refine ⟨rfl, ?_⟩), (by (try dsimp only); omega), ?_⟩
        refine ⟨by omega, by omega, hky, hy4, ?_⟩
        rw [show (j + 1).toNat = j.toNat + 1 by omega, ← dM_skip (by unfold dis; rw [decide_eq_true (by assumption), decide_eq_true (by assumption)]; rfl)]
        exact hy5
      · have hd : dis xs ys i.toNat j.toNat = true := by unfold dis; rw [decide_eq_true (by assumption), decide_eq_false (by assumption)]; rfl
        have h1 := dM_lt (xs := xs) (ys := ys) (i := i.toNat) (j := j.toNat) (q := i.toNat) h9 (by omega)
        rw [shlN hj0 (by omega), orN (Nat.lt_trans h1 (by decide)) (by rw [Nat.one_shiftLeft]; exact Nat.pow_lt_pow_right (by decide) (by omega))]
        refine ⟨_, _, store9 hy5 hi0 (by omega), by omega, ?_⟩
        repeat' first
          | refine CO.cons rfl ?_
          | refine CO.nil ?_
          | refine CV.seq ?_
          | refine CV.region callees ?_
          | refine CV.cond ?_
          | refine CV.block ?_
          | refine CV.skip ?_
          | refine CV.exit ?_
          | refine CV.ret ?_
          | refine CV.scope ?_
          | refine CV.draw callees rfl ?_
          | refine CH.cons rfl ?_
          | refine CH.nil ?_
          | refine CO.consG rfl ?_
          | refine CH.consG rfl ?_
          | refine CG.cons rfl ?_
          | refine CR.cons ?_
          | refine CR.nil ?_
          | refine CG.nil ?_
          | refine CG.consG rfl ?_
          | refine ⟨(rfl : plain _ = true), ?_⟩
          | refine ⟨(rfl : nilOk _ = some _), ?_⟩
          | refine ⟨_, ints_len (by assumption), ?_⟩
          | refine ⟨_, ints_addr (by assumption) (by omega) (by omega), ?_⟩
          | refine ⟨_, ints_load (by assumption) (by omega) (by omega), ?_⟩
          | refine ⟨(⟨by omega, by omega⟩ : inI64 _), ?_⟩
          | refine ⟨_, fun tm ha => step1_max rfl (ev_tmp ha rfl) (ev_tmp ha rfl), ?_⟩
          | refine ⟨_, fun tm ha => step1_min rfl (ev_tmp ha rfl) (ev_tmp ha rfl), ?_⟩
          | (refine ⟨fun _ => ?_, fun _ => ?_⟩ <;> first | (exfalso; omega) | skip)
          | fail
        refine ⟨(j + 1), (by repeat' first | exact trivial | refine ⟨rfl, ?_⟩), (by (try dsimp only); omega), ?_⟩
        refine ⟨by omega, by omega, hky.set _ (by omega), ?_, ?_⟩
        · rw [Heap.get_set_ne _ _ (by omega)]; exact hy4
        · rw [Heap.get_set_eq, show (j + 1).toNat = j.toNat + 1 by omega, ← dM_put hd]
      · have hd : dis xs ys i.toNat j.toNat = true := by unfold dis; rw [decide_eq_false (by assumption), decide_eq_true (by assumption)]; rfl
        have h1 := dM_lt (xs := xs) (ys := ys) (i := i.toNat) (j := j.toNat) (q := i.toNat) h9 (by omega)
        rw [shlN hj0 (by omega), orN (Nat.lt_trans h1 (by decide)) (by rw [Nat.one_shiftLeft]; exact Nat.pow_lt_pow_right (by decide) (by omega))]
        refine ⟨_, _, store9 hy5 hi0 (by omega), by omega, ?_⟩
        repeat' first
          | refine CO.cons rfl ?_
          | refine CO.nil ?_
          | refine CV.seq ?_
          | refine CV.region callees ?_
          | refine CV.cond ?_
          | refine CV.block ?_
          | refine CV.skip ?_
          | refine CV.exit ?_
          | refine CV.ret ?_
          | refine CV.scope ?_
          | refine CV.draw callees rfl ?_
          | refine CH.cons rfl ?_
          | refine CH.nil ?_
          | refine CO.consG rfl ?_
          | refine CH.consG rfl ?_
          | refine CG.cons rfl ?_
          | refine CR.cons ?_
          | refine CR.nil ?_
          | refine CG.nil ?_
          | refine CG.consG rfl ?_
          | refine ⟨(rfl : plain _ = true), ?_⟩
          | refine ⟨(rfl : nilOk _ = some _), ?_⟩
          | refine ⟨_, ints_len (by assumption), ?_⟩
          | refine ⟨_, ints_addr (by assumption) (by omega) (by omega), ?_⟩
          | refine ⟨_, ints_load (by assumption) (by omega) (by omega), ?_⟩
          | refine ⟨(⟨by omega, by omega⟩ : inI64 _), ?_⟩
          | refine ⟨_, fun tm ha => step1_max rfl (ev_tmp ha rfl) (ev_tmp ha rfl), ?_⟩
          | refine ⟨_, fun tm ha => step1_min rfl (ev_tmp ha rfl) (ev_tmp ha rfl), ?_⟩
          | (refine ⟨fun _ => ?_, fun _ => ?_⟩ <;> first | (exfalso; omega) | skip)
          | fail
        refine ⟨(j + 1), (by repeat' first | exact trivial | refine ⟨rfl, ?_⟩), (by (try dsimp only); omega), ?_⟩
        refine ⟨by omega, by omega, hky.set _ (by omega), ?_, ?_⟩
        · rw [Heap.get_set_ne _ _ (by omega)]; exact hy4
        · rw [Heap.get_set_eq, show (j + 1).toNat = j.toNat + 1 by omega, ← dM_put hd]
      · refine ⟨(j + 1), (by repeat' first | exact trivial | refine ⟨rfl, ?_⟩), (by (try dsimp only); omega), ?_⟩
        refine ⟨by omega, by omega, hky, hy4, ?_⟩
        rw [show (j + 1).toNat = j.toNat + 1 by omega, ← dM_skip (by unfold dis; rw [decide_eq_false (by assumption), decide_eq_false (by assumption)]; rfl)]
        exact hy5
    · repeat' first
        | refine CO.cons rfl ?_
        | refine CO.nil ?_
        | refine CV.seq ?_
        | refine CV.region callees ?_
        | refine CV.cond ?_
        | refine CV.block ?_
        | refine CV.skip ?_
        | refine CV.exit ?_
        | refine CV.ret ?_
        | refine CV.scope ?_
        | refine CV.draw callees rfl ?_
        | refine CH.cons rfl ?_
        | refine CH.nil ?_
        | refine CO.consG rfl ?_
        | refine CH.consG rfl ?_
        | refine CG.cons rfl ?_
        | refine CR.cons ?_
        | refine CR.nil ?_
        | refine CG.nil ?_
        | refine CG.consG rfl ?_
        | refine ⟨(rfl : plain _ = true), ?_⟩
        | refine ⟨(rfl : nilOk _ = some _), ?_⟩
        | refine ⟨_, ints_len (by assumption), ?_⟩
        | refine ⟨_, ints_addr (by assumption) (by omega) (by omega), ?_⟩
        | refine ⟨_, ints_load (by assumption) (by omega) (by omega), ?_⟩
        | refine ⟨(⟨by omega, by omega⟩ : inI64 _), ?_⟩
        | refine ⟨_, fun tm ha => step1_max rfl (ev_tmp ha rfl) (ev_tmp ha rfl), ?_⟩
        | refine ⟨_, fun tm ha => step1_min rfl (ev_tmp ha rfl) (ev_tmp ha rfl), ?_⟩
        | (refine ⟨fun _ => ?_, fun _ => ?_⟩ <;> first | (exfalso; omega) | skip)
        | fail
      refine ⟨(i + 1), (by repeat' first | exact trivial | refine ⟨rfl, ?_⟩), (by (try dsimp only); omega), ?_⟩
      refine ⟨by omega, by omega, hky, hy4, ?_⟩
      rw [show (i + 1).toNat = i.toNat + 1 by omega, ← dM_next, show xs.length = j.toNat by omega]
      exact hy5
  · repeat' first
      | refine CO.cons rfl ?_
      | refine CO.nil ?_
      | refine CV.seq ?_
      | refine CV.region callees ?_
      | refine CV.cond ?_
      | refine CV.block ?_
      | refine CV.skip ?_
      | refine CV.exit ?_
      | refine CV.ret ?_
      | refine CV.scope ?_
      | refine CV.draw callees rfl ?_
      | refine CH.cons rfl ?_
      | refine CH.nil ?_
      | refine CO.consG rfl ?_
      | refine CH.consG rfl ?_
      | refine CG.cons rfl ?_
      | refine CR.cons ?_
      | refine CR.nil ?_
      | refine CG.nil ?_
      | refine CG.consG rfl ?_
      | refine ⟨(rfl : plain _ = true), ?_⟩
      | refine ⟨(rfl : nilOk _ = some _), ?_⟩
      | refine ⟨_, ints_len (by assumption), ?_⟩
      | refine ⟨_, ints_addr (by assumption) (by omega) (by omega), ?_⟩
      | refine ⟨_, ints_load (by assumption) (by omega) (by omega), ?_⟩
      | refine ⟨(⟨by omega, by omega⟩ : inI64 _), ?_⟩
      | refine ⟨_, fun tm ha => step1_max rfl (ev_tmp ha rfl) (ev_tmp ha rfl), ?_⟩
      | refine ⟨_, fun tm ha => step1_min rfl (ev_tmp ha rfl) (ev_tmp ha rfl), ?_⟩
      | refine ⟨_, loadAll hg5, ?_⟩
      | (refine ⟨fun _ => ?_, fun _ => ?_⟩ <;> first | (exfalso; omega) | skip)
      | fail
    refine ⟨_, _, storeAll hg4, hB, ?_⟩
    have hg : (Hx.set H.n (.cells (arr (dM xs ys i.toNat 0)) 118 1)).get H.n = some (.cells (arr (dM xs ys i.toNat 0)) 118 1) := Heap.get_set_eq _ _ _
    repeat' first
      | refine CO.cons rfl ?_
      | refine CO.nil ?_
      | refine CV.seq ?_
      | refine CV.region callees ?_
      | refine CV.cond ?_
      | refine CV.block ?_
      | refine CV.skip ?_
      | refine CV.exit ?_
      | refine CV.ret ?_
      | refine CV.scope ?_
      | refine CV.draw callees rfl ?_
      | refine CH.cons rfl ?_
      | refine CH.nil ?_
      | refine CO.consG rfl ?_
      | refine CH.consG rfl ?_
      | refine CG.cons rfl ?_
      | refine CR.cons ?_
      | refine CR.nil ?_
      | refine CG.nil ?_
      | refine CG.consG rfl ?_
      | refine ⟨(rfl : plain _ = true), ?_⟩
      | refine ⟨(rfl : nilOk _ = some _), ?_⟩
      | refine ⟨_, ints_len (by assumption), ?_⟩
      | refine ⟨_, ints_addr (by assumption) (by omega) (by omega), ?_⟩
      | refine ⟨_, ints_load (by assumption) (by omega) (by omega), ?_⟩
      | refine ⟨(⟨by omega, by omega⟩ : inI64 _), ?_⟩
      | refine ⟨_, fun tm ha => step1_max rfl (ev_tmp ha rfl) (ev_tmp ha rfl), ?_⟩
      | refine ⟨_, fun tm ha => step1_min rfl (ev_tmp ha rfl) (ev_tmp ha rfl), ?_⟩
      | (refine ⟨fun _ => ?_, fun _ => ?_⟩ <;> first | (exfalso; omega) | skip)
      | fail
    rw [show i.toNat = xs.length by omega] at hg
    rw [show i.toNat = xs.length by omega]
    exact ⟨_, loadAll hg, rfl, rfl, hkx.set _ (Nat.le_refl _)⟩
end Go.Proofs.Ytcpklnekpdhlmaa
