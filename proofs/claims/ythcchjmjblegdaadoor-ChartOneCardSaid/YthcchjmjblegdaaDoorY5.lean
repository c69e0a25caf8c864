/- Several texts in one. -/
import Derived.Test.YthcchjmjblegdaaDoorY3
import Derived.Test.YthcchjmjblegdaaDoorX4
import Derived.Test.YthcchjmjblegdaaDoorY4
/- Bits. -/
namespace Go.Proofs.YthcchjmjblegdaaDoor
open Go.AI
theorem wrapN {n : Nat} (h : n < 2 ^ 64) : IntKind.wrap .u64 (n : Int) = n := by
  have h2 : (2 : Nat) ^ 64 = 18446744073709551616 := by decide
  exact wrapU (by omega) (by omega)
theorem bvN {n : Nat} : BitVec.ofInt 64 (n : Int) = BitVec.ofNat 64 n := by
  apply BitVec.eq_of_toNat_eq
  rw [BitVec.toNat_ofInt, BitVec.toNat_ofNat]
  omega
theorem andN {a b : Nat} (ha : a < 2 ^ 64) (hb : b < 2 ^ 64) : IntKind.wrap .u64 ((BitVec.ofInt (IntKind.bits .u64) (a : Int) &&& BitVec.ofInt (IntKind.bits .u64) (b : Int)).toNat) = ((a &&& b : Nat) : Int) := by
  rw [show IntKind.bits .u64 = 64 from rfl, bvN, bvN, BitVec.toNat_and, BitVec.toNat_ofNat, BitVec.toNat_ofNat, Nat.mod_eq_of_lt ha, Nat.mod_eq_of_lt hb]
  exact wrapN (Nat.lt_of_le_of_lt Nat.and_le_left ha)
theorem orN {a b : Nat} (ha : a < 2 ^ 64) (hb : b < 2 ^ 64) : IntKind.wrap .u64 ((BitVec.ofInt (IntKind.bits .u64) (a : Int) ||| BitVec.ofInt (IntKind.bits .u64) (b : Int)).toNat) = ((a ||| b : Nat) : Int) := by
  rw [show IntKind.bits .u64 = 64 from rfl, bvN, bvN, BitVec.toNat_or, BitVec.toNat_ofNat, BitVec.toNat_ofNat, Nat.mod_eq_of_lt ha, Nat.mod_eq_of_lt hb]
  exact wrapN (Nat.or_lt_two_pow ha hb)
theorem shrN {a : Nat} {i : Int} (h0 : 0 ≤ i) (h1 : i < 64) : (a : Int).fdiv (2 ^ (min i.toNat (IntKind.bits .u64))) = ((a >>> i.toNat : Nat) : Int) := by
  rw [show IntKind.bits .u64 = 64 from rfl, Nat.min_eq_left (by omega), Int.fdiv_eq_ediv_of_nonneg _ (Int.pow_nonneg (by decide)), Nat.shiftRight_eq_div_pow]
  simp
theorem shlN {i : Int} (h0 : 0 ≤ i) (h1 : i < 64) : IntKind.wrap .u64 (1 * 2 ^ (min i.toNat (IntKind.bits .u64))) = ((1 <<< i.toNat : Nat) : Int) := by
  rw [show IntKind.bits .u64 = 64 from rfl, Nat.min_eq_left (by omega), Nat.one_shiftLeft]
  have := wrapN (n := 2 ^ i.toNat) (Nat.pow_lt_pow_right (by decide) (by omega))
  simpa using this

/-- How many bits there are. -/
def pop (s : Nat) : Nat := ((List.range 9).filter fun i => s.testBit i).length
def andU (a b : Int) : Int := IntKind.wrap .u64 ((BitVec.ofInt (IntKind.bits .u64) a &&& BitVec.ofInt (IntKind.bits .u64) b).toNat)
def addU (a b : Int) : Int := IntKind.wrap .u64 (a + b)
def shrU (a : Int) (n : Nat) : Int := a.fdiv (2 ^ (min n (IntKind.bits .u64)))
def oc (x : Int) : Int :=
  let x1 := addU (andU (shrU x 1) 6148914691236517205) (andU x 6148914691236517205)
  let x2 := addU (andU (shrU x1 2) 3689348814741910323) (andU x1 3689348814741910323)
  let x3 := andU (addU (shrU x2 4) x2) 1085102592571150095
  let x4 := addU x3 (shrU x3 8)
  let x5 := addU x4 (shrU x4 16)
  let x6 := addU x5 (shrU x5 32)
  IntKind.wrap .i64 ((BitVec.ofInt (IntKind.bits .i64) (IntKind.wrap .i64 x6) &&& BitVec.ofInt (IntKind.bits .i64) 127).toNat)
theorem oc_all : (List.range 512).all (fun n => decide (oc (n : Int) = (pop n : Int))) = true := by decide +kernel
theorem oc_pop {n : Nat} (h : n < 512) : oc (n : Int) = (pop n : Int) := by
  have := List.all_eq_true.1 oc_all n (List.mem_range.2 h)
  simpa using this

set_option maxHeartbeats 1000000 in
set_option maxRecDepth 100000 in
theorem ones64_spec {B : Nat} {H : Heap} {x : Int} (hn : B ≤ H.n) :
    CallB Tryd.prog B 123 [.int .u64 x] H (fun r H' => r = .int .i64 (oc x) ∧ H' = H) := by
  refine CV.enter callees false rfl Tryd.func123 rfl ok123 (Nat.le_of_ble_eq_true rfl) hn ?_
  repeat' first
    | refine CO.cons rfl ?_
    | refine CO.nil ?_
    | refine CV.seq ?_
    | refine CV.region callees ?_
    | refine CV.cond ?_
    | refine CV.block ?_
    | refine CV.skip ?_
    | refine CV.exit ?_
    | refine CV.ret ?_
    | refine CV.scope ?_
    | refine CV.draw callees rfl ?_
    | refine CH.cons rfl ?_
    | refine CH.nil ?_
    | refine CO.consG rfl ?_
    | refine CH.consG rfl ?_
    | refine CG.cons rfl ?_
    | refine CG.nil ?_
    | refine CG.consG rfl ?_
    | refine ⟨(rfl : plain _ = true), ?_⟩
    | refine ⟨(rfl : nilOk _ = some _), ?_⟩
    | refine ⟨_, ints_len (by assumption), ?_⟩
    | refine ⟨_, ints_addr (by assumption) (by omega) (by omega), ?_⟩
    | refine ⟨_, ints_load (by assumption) (by omega) (by omega), ?_⟩
    | refine ⟨(⟨by omega, by omega⟩ : inI64 _), ?_⟩
    | refine ⟨_, fun tm ha => step1_max rfl (ev_tmp ha rfl) (ev_tmp ha rfl), ?_⟩
    | refine ⟨_, fun tm ha => step1_min rfl (ev_tmp ha rfl) (ev_tmp ha rfl), ?_⟩
    | (intro _ hr; subst hr)
    | refine ⟨_, fun tm ha => step1_shr rfl (ev_tmp ha rfl) rfl (by decide), ?_⟩
    | refine ⟨_, fun tm ha => step1_bits (.inr (.inl rfl)) rfl (ev_tmp ha rfl) rfl rfl rfl, ?_⟩
    | refine ⟨_, fun tm ha => step1_conv un72 un3 rfl (ev_tmp ha rfl), ?_⟩
    | (refine ⟨fun _ => ?_, fun _ => ?_⟩ <;> first | (exfalso; omega) | skip)
    | fail
  exact ⟨rfl, rfl, rfl⟩
set_option maxRecDepth 100000 in
theorem ones_spec {B : Nat} {H : Heap} {s : Nat} (hn : B ≤ H.n) (hs : s < 512) :
    CallB Tryd.prog B 109 [.int .u64 s] H (fun r H' => r = .int .i64 (pop s) ∧ H' = H) := by
  refine CV.enter callees false rfl Tryd.func109 rfl ok109 (Nat.le_of_ble_eq_true rfl) hn ?_
  repeat' first
    | refine CO.cons rfl ?_
    | refine CO.nil ?_
    | refine CV.seq ?_
    | refine CV.region callees ?_
    | refine CV.cond ?_
    | refine CV.block ?_
    | refine CV.skip ?_
    | refine CV.exit ?_
    | refine CV.ret ?_
    | refine CV.scope ?_
    | refine CV.draw callees rfl ?_
    | refine CH.cons rfl ?_
    | refine CH.nil ?_
    | refine CO.consG rfl ?_
    | refine CH.consG rfl ?_
    | refine CG.cons rfl ?_
    | refine CG.nil ?_
    | refine CG.consG rfl ?_
    | refine ⟨(rfl : plain _ = true), ?_⟩
    | refine ⟨(rfl : nilOk _ = some _), ?_⟩
    | refine ⟨_, ints_len (by assumption), ?_⟩
    | refine ⟨_, ints_addr (by assumption) (by omega) (by omega), ?_⟩
    | refine ⟨_, ints_load (by assumption) (by omega) (by omega), ?_⟩
    | refine ⟨(⟨by omega, by omega⟩ : inI64 _), ?_⟩
    | refine ⟨_, fun tm ha => step1_max rfl (ev_tmp ha rfl) (ev_tmp ha rfl), ?_⟩
    | refine ⟨_, fun tm ha => step1_min rfl (ev_tmp ha rfl) (ev_tmp ha rfl), ?_⟩
    | (refine (ones64_spec hn).mono ?_; rintro r H' ⟨rfl, rfl⟩)
    | (refine ⟨fun _ => ?_, fun _ => ?_⟩ <;> first | (exfalso; omega) | skip)
    | fail
  exact ⟨rfl, by rw [oc_pop hs], rfl⟩
end Go.Proofs.YthcchjmjblegdaaDoor

/- Of which packets two partitions do not agree. -/
namespace Go.Proofs.YthcchjmjblegdaaDoor
open Go.AI
theorem un104 : Tryd.prog.underlying 104 = some (.array 9 76) := by kernel_rfl
theorem sz76 : sizeB Tryd.prog 76 = some 1 := by kernel_rfl
theorem ag76 : isAggB Tryd.prog 76 = some false := by kernel_rfl
theorem sz104 : sizeB Tryd.prog 104 = some 9 := by kernel_rfl
theorem ag104 : isAggB Tryd.prog 104 = some true := by kernel_rfl
abbrev VU (n : Nat) : Value := .int .u64 n
def arr (f : Nat → Nat) : List Value := (List.range 9).map fun q => VU (f q)
theorem zero104 : zeroCells Tryd.prog 104 = some (arr fun _ => 0) := by kernel_rfl
theorem alloc104 {H : Heap} : sAlloc Tryd.prog H 104 = some (.pointer (some ⟨H.n, 0, none⟩), H.new (.cells (arr fun _ => 0) 104 1), H.n) := alloc_of zero104
theorem arr_len (f : Nat → Nat) : (arr f).length = 9 := by simp [arr]
theorem arr_at {f : Nat → Nat} {i : Nat} (h : i < 9) : (arr f)[i]? = some (VU (f i)) := by simp [arr, h]
theorem arr_set {f : Nat → Nat} {i v : Nat} : (arr f).set i (VU v) = arr fun q => if q = i then v else f q := by
  apply List.ext_getElem
  · simp [arr]
  · intro j h1 h2
    rw [List.getElem_set]
    simp only [arr, List.getElem_map, List.getElem_range]
    by_cases h : i = j
    · rw [if_pos h, if_pos h.symm]
    · rw [if_neg h, if_neg (fun e => h e.symm)]
theorem addr9 {b : Nat} {i : Int} (h0 : 0 ≤ i) (h1 : i < 9) : aindexAddr Tryd.prog 104 (.pointer (some ⟨b, 0, none⟩)) (.int .i64 i) = some (.pointer (some ⟨b, 0 + i.toNat * 1, none⟩)) := array_addr un104 sz76 h0 (by omega)
theorem load9 {H : Heap} {b : Nat} {f : Nat → Nat} {i : Int} (hb : H.get b = some (.cells (arr f) 104 1)) (h0 : 0 ≤ i) (h1 : i < 9) : aload Tryd.prog 76 H (.pointer (some ⟨b, 0 + i.toNat * 1, none⟩)) = some (VU (f i.toNat)) := by
  simp only [aload, hb, ag76]
  rw [show 0 + i.toNat * 1 = i.toNat by omega, arr_at (by omega)]
theorem store9 {H : Heap} {b : Nat} {f : Nat → Nat} {i : Int} {v : Nat} (hb : H.get b = some (.cells (arr f) 104 1)) (h0 : 0 ≤ i) (h1 : i < 9) : astore Tryd.prog 76 H (VU v) (.pointer (some ⟨b, 0 + i.toNat * 1, none⟩)) = some (H.set b (.cells (arr fun q => if q = i.toNat then v else f q) 104 1), b) := by
  rw [show 0 + i.toNat * 1 = i.toNat by omega, store_row sz76 hb (by rw [arr_len]; omega) rfl, arr_set]
theorem loadAll {H : Heap} {b : Nat} {f : Nat → Nat} (hb : H.get b = some (.cells (arr f) 104 1)) : aload Tryd.prog 104 H (.pointer (some ⟨b, 0, none⟩)) = some (.agg (arr f).toArray) := by
  simp only [aload, hb, ag104, sz104, arr_len]
  rw [if_pos (by omega), List.drop_zero, List.take_of_length_le (by rw [arr_len]; omega)]
theorem storeAll {H : Heap} {b : Nat} {f g : Nat → Nat} (hb : H.get b = some (.cells (arr f) 104 1)) : astore Tryd.prog 104 H (.agg (arr g).toArray) (.pointer (some ⟨b, 0, none⟩)) = some (H.set b (.cells (arr g) 104 1), b) :=
  store_all hb (by rw [arr_len, arr_len]) (by rw [arr_len]; exact sz104) (by simp [arr, oneC])

/-- Bits, one by one. -/
def dB (f : Nat → Bool) : Nat → Nat
  | 0 => 0
  | k + 1 => dB f k ||| (if f k then 1 <<< k else 0)
theorem dB_lt (f : Nat → Bool) : ∀ k, dB f k < 2 ^ k
  | 0 => by simp [dB]
  | k + 1 => by
    rw [dB]
    refine Nat.or_lt_two_pow (Nat.lt_of_lt_of_le (dB_lt f k) (Nat.pow_le_pow_right (by decide) (by omega))) ?_
    split
    · rw [Nat.one_shiftLeft]; exact Nat.pow_lt_pow_right (by decide) (by omega)
    · exact Nat.two_pow_pos _
theorem dB_bit (f : Nat → Bool) : ∀ k j, (dB f k).testBit j = (decide (j < k) && f j)
  | 0, j => by simp [dB]
  | k + 1, j => by
    rw [dB, Nat.testBit_or, dB_bit f k j]
    by_cases hj : j = k
    · subst hj
      cases hf : f j <;> simp [Nat.one_shiftLeft, Nat.testBit_two_pow]
    · have h1 : decide (j < k + 1) = decide (j < k) := by
        rw [Bool.eq_iff_iff, decide_eq_true_eq, decide_eq_true_eq]; omega
      rw [h1]
      cases hf : f k <;> simp [Nat.one_shiftLeft, Nat.testBit_two_pow, Ne.symm hj]
/-- Whether just one of two partitions has two packets in one block. -/
def dis (xs ys : List Int) (i j : Nat) : Bool := decide (xs[i]! = xs[j]!) != decide (ys[i]! = ys[j]!)
def dM (xs ys : List Int) (i j : Nat) (q : Nat) : Nat := if q < i then dB (dis xs ys q) xs.length else if q = i then dB (dis xs ys q) j else 0
theorem dM_lt {xs ys : List Int} {i j q : Nat} (hl : xs.length ≤ 9) (hj : j ≤ 9) : dM xs ys i j q < 512 := by
  have h9 : (2 : Nat) ^ 9 = 512 := by decide
  unfold dM
  split
  · exact Nat.lt_of_lt_of_le (dB_lt _ _) (by rw [← h9]; exact Nat.pow_le_pow_right (by decide) hl)
  · split
    · exact Nat.lt_of_lt_of_le (dB_lt _ _) (by rw [← h9]; exact Nat.pow_le_pow_right (by decide) hj)
    · decide
theorem dM_zero (xs ys : List Int) : dM xs ys 0 0 = fun _ => 0 := by
  funext q; unfold dM; simp; intro h; subst h; rfl
theorem dM_next {xs ys : List Int} {i : Nat} : dM xs ys i xs.length = dM xs ys (i + 1) 0 := by
  funext q
  unfold dM
  by_cases h1 : q < i
  · rw [if_pos h1, if_pos (by omega)]
  · by_cases h2 : q = i
    · rw [if_neg h1, if_pos h2, if_pos (by omega)]
    · rw [if_neg h1, if_neg h2, if_neg (by omega)]
      by_cases h3 : q = i + 1
      · rw [if_pos h3]; rfl
      · rw [if_neg h3]
theorem dM_put {xs ys : List Int} {i j : Nat} (hd : dis xs ys i j = true) : (fun q => if q = i then dM xs ys i j i ||| (1 <<< j) else dM xs ys i j q) = dM xs ys i (j + 1) := by
  funext q
  by_cases h : q = i
  · subst h
    rw [if_pos rfl]
    simp only [dM, Nat.lt_irrefl, if_false, if_true]
    rw [dB, if_pos hd]
  · rw [if_neg h]
    simp only [dM, h, if_false]
theorem dM_skip {xs ys : List Int} {i j : Nat} (hd : dis xs ys i j = false) : dM xs ys i j = dM xs ys i (j + 1) := by
  funext q
  by_cases h : q = i
  · subst h
    simp only [dM, Nat.lt_irrefl, if_false, if_true]
    rw [dB, hd]; simp
  · simp only [dM, h, if_false]

set_option maxHeartbeats 4000000 in
set_option maxRecDepth 100000 in
theorem disputes_spec {B : Nat} {v u : Value} {H : Heap} {xs ys : List Int} (hB : B ≤ H.n) (hv : Ints H v xs) (hu : Ints H u ys) (hl : xs.length = ys.length) (h9 : xs.length ≤ 9) :
    CallB Tryd.prog B 108 [v, u] H (fun r H' => r = .agg (arr (dM xs ys xs.length 0)).toArray ∧ Keep H H') := by
  refine CV.enter callees false rfl Tryd.func108 rfl ok108 (Nat.le_of_ble_eq_true rfl) hB ?_
  repeat' first
    | refine CO.cons rfl ?_
    | refine CO.nil ?_
    | refine CV.seq ?_
    | refine CV.region callees ?_
    | refine CV.cond ?_
    | refine CV.block ?_
    | refine CV.skip ?_
    | refine CV.exit ?_
    | refine CV.ret ?_
    | refine CV.scope ?_
    | refine CV.draw callees rfl ?_
    | refine CH.cons rfl ?_
    | refine CH.nil ?_
    | refine CO.consG rfl ?_
    | refine CH.consG rfl ?_
    | refine CG.cons rfl ?_
    | refine CG.nil ?_
    | refine CG.consG rfl ?_
    | refine ⟨(rfl : plain _ = true), ?_⟩
    | refine ⟨(rfl : nilOk _ = some _), ?_⟩
    | refine ⟨_, ints_len (by assumption), ?_⟩
    | refine ⟨_, ints_addr (by assumption) (by omega) (by omega), ?_⟩
    | refine ⟨_, ints_load (by assumption) (by omega) (by omega), ?_⟩
    | refine ⟨(⟨by omega, by omega⟩ : inI64 _), ?_⟩
    | refine ⟨_, fun tm ha => step1_max rfl (ev_tmp ha rfl) (ev_tmp ha rfl), ?_⟩
    | refine ⟨_, fun tm ha => step1_min rfl (ev_tmp ha rfl) (ev_tmp ha rfl), ?_⟩
    | refine ⟨_, _, alloc104, ?_⟩
    | (refine ⟨fun _ => ?_, fun _ => ?_⟩ <;> first | (exfalso; omega) | skip)
    | fail
  have k2 : Keep H ((H.new (.cells (arr fun _ => 0) 104 1)).new (.cells (arr fun _ => 0) 104 1)) := (Keep.new _ _).trans (Keep.new _ _)
  have g4 : ((H.new (.cells (arr fun _ => 0) 104 1)).new (.cells (arr fun _ => 0) 104 1)).get H.n = some (.cells (arr fun _ => 0) 104 1) := by
    rw [Heap.get_new_ne _ _ (by show H.n ≠ H.n + 1; omega), Heap.get_new_eq]
  have g5 : ((H.new (.cells (arr fun _ => 0) 104 1)).new (.cells (arr fun _ => 0) 104 1)).get (H.n + 1) = some (.cells (arr fun _ => 0) 104 1) := Heap.get_new_eq _ _
  have hv2 : Ints _ v xs := Row.keep hv k2
  have hn5 : (H.new (.cells (arr fun _ => 0) 104 1)).n = H.n + 1 := rfl
  rw [hn5]
  generalize (H.new (.cells (arr fun _ => 0) 104 1)).new (.cells (arr fun _ => 0) 104 1) = H2 at k2 g4 g5 hv2
  repeat' first
    | refine CO.cons rfl ?_
    | refine CO.nil ?_
    | refine CV.seq ?_
    | refine CV.region callees ?_
    | refine CV.cond ?_
    | refine CV.block ?_
    | refine CV.skip ?_
    | refine CV.exit ?_
    | refine CV.ret ?_
    | refine CV.scope ?_
    | refine CV.draw callees rfl ?_
    | refine CH.cons rfl ?_
    | refine CH.nil ?_
    | refine CO.consG rfl ?_
    | refine CH.consG rfl ?_
    | refine CG.cons rfl ?_
    | refine CG.nil ?_
    | refine CG.consG rfl ?_
    | refine ⟨(rfl : plain _ = true), ?_⟩
    | refine ⟨(rfl : nilOk _ = some _), ?_⟩
    | refine ⟨_, ints_len (by assumption), ?_⟩
    | refine ⟨_, ints_addr (by assumption) (by omega) (by omega), ?_⟩
    | refine ⟨_, ints_load (by assumption) (by omega) (by omega), ?_⟩
    | refine ⟨(⟨by omega, by omega⟩ : inI64 _), ?_⟩
    | refine ⟨_, fun tm ha => step1_max rfl (ev_tmp ha rfl) (ev_tmp ha rfl), ?_⟩
    | refine ⟨_, fun tm ha => step1_min rfl (ev_tmp ha rfl) (ev_tmp ha rfl), ?_⟩
    | (refine ⟨fun _ => ?_, fun _ => ?_⟩ <;> first | (exfalso; omega) | skip)
    | fail
  refine CV.loopc ?_
  refine WCv.rounds callees false (α := Int) (fun i => [(0, v), (1, u), (4, .pointer (some ⟨H.n, 0, none⟩)), (5, .pointer (some ⟨H.n + 1, 0, none⟩)), (9, .int .i64 xs.length), (10, .int .i64 i)]) (fun i Hz => 0 ≤ i ∧ i ≤ xs.length ∧ Keep H Hz ∧ Hz.get H.n = some (.cells (arr fun _ => 0) 104 1) ∧ Hz.get (H.n + 1) = some (.cells (arr (dM xs ys i.toNat 0)) 104 1)) (fun i => xs.length - i.toNat) (0) (by repeat' first | exact trivial | refine ⟨rfl, ?_⟩) ?_ ?_
  · exact ⟨by omega, by omega, k2, g4, by rw [show (0 : Int).toNat = 0 from rfl, dM_zero]; exact g5⟩
  rintro i Hx ⟨hi0, hi1, hkx, hg4, hg5⟩ hBx
  have hvx : Ints Hx v xs := Row.keep hv hkx
  by_cases hi : i < xs.length
  · repeat' first
      | refine CO.cons rfl ?_
      | refine CO.nil ?_
      | refine CV.seq ?_
      | refine CV.region callees ?_
      | refine CV.cond ?_
      | refine CV.block ?_
      | refine CV.skip ?_
      | refine CV.exit ?_
      | refine CV.ret ?_
      | refine CV.scope ?_
      | refine CV.draw callees rfl ?_
      | refine CH.cons rfl ?_
      | refine CH.nil ?_
      | refine CO.consG rfl ?_
      | refine CH.consG rfl ?_
      | refine CG.cons rfl ?_
      | refine CG.nil ?_
      | refine CG.consG rfl ?_
      | refine ⟨(rfl : plain _ = true), ?_⟩
      | refine ⟨(rfl : nilOk _ = some _), ?_⟩
      | refine ⟨_, ints_len (by assumption), ?_⟩
      | refine ⟨_, ints_addr (by assumption) (by omega) (by omega), ?_⟩
      | refine ⟨_, ints_load (by assumption) (by omega) (by omega), ?_⟩
      | refine ⟨(⟨by omega, by omega⟩ : inI64 _), ?_⟩
      | refine ⟨_, fun tm ha => step1_max rfl (ev_tmp ha rfl) (ev_tmp ha rfl), ?_⟩
      | refine ⟨_, fun tm ha => step1_min rfl (ev_tmp ha rfl) (ev_tmp ha rfl), ?_⟩
      | (refine ⟨fun _ => ?_, fun _ => ?_⟩ <;> first | (exfalso; omega) | skip)
      | fail
    refine CV.loopc ?_
    refine WCv.rounds callees false (α := Int) (fun j => [(0, v), (1, u), (4, .pointer (some ⟨H.n, 0, none⟩)), (5, .pointer (some ⟨H.n + 1, 0, none⟩)), (9, .int .i64 xs.length), (10, .int .i64 i), (6, .int .i64 i), (14, .int .i64 xs.length), (15, .int .i64 j)]) (fun j Hz => 0 ≤ j ∧ j ≤ xs.length ∧ Keep H Hz ∧ Hz.get H.n = some (.cells (arr fun _ => 0) 104 1) ∧ Hz.get (H.n + 1) = some (.cells (arr (dM xs ys i.toNat j.toNat)) 104 1)) (fun j => xs.length - j.toNat) (0) (by repeat' first | exact trivial | refine ⟨rfl, ?_⟩) ?_ ?_
    · exact ⟨by omega, by omega, hkx, hg4, hg5⟩
    rintro j Hy ⟨hj0, hj1, hky, hy4, hy5⟩ hBy
    have hvy : Ints Hy v xs := Row.keep hv hky
    have huy : Ints Hy u ys := Row.keep hu hky
    by_cases hj : j < xs.length
    · repeat' first
        | refine CO.cons rfl ?_
        | refine CO.nil ?_
        | refine CV.seq ?_
        | refine CV.region callees ?_
        | refine CV.cond ?_
        | refine CV.block ?_
        | refine CV.skip ?_
        | refine CV.exit ?_
        | refine CV.ret ?_
        | refine CV.scope ?_
        | refine CV.draw callees rfl ?_
        | refine CH.cons rfl ?_
        | refine CH.nil ?_
        | refine CO.consG rfl ?_
        | refine CH.consG rfl ?_
        | refine CG.cons rfl ?_
        | refine CG.nil ?_
        | refine CG.consG rfl ?_
        | refine ⟨(rfl : plain _ = true), ?_⟩
        | refine ⟨(rfl : nilOk _ = some _), ?_⟩
        | refine ⟨_, ints_len (by assumption), ?_⟩
        | refine ⟨_, ints_addr (by assumption) (by omega) (by omega), ?_⟩
        | refine ⟨_, ints_load (by assumption) (by omega) (by omega), ?_⟩
        | refine ⟨(⟨by omega, by omega⟩ : inI64 _), ?_⟩
        | refine ⟨_, fun tm ha => step1_max rfl (ev_tmp ha rfl) (ev_tmp ha rfl), ?_⟩
        | refine ⟨_, fun tm ha => step1_min rfl (ev_tmp ha rfl) (ev_tmp ha rfl), ?_⟩
        | refine ⟨_, fun tm ha => step1_boolNeq un4 rfl (ev_tmp ha rfl) (ev_tmp ha rfl), ?_⟩
        | refine ⟨_, addr9 (by omega) (by omega), ?_⟩
        | refine ⟨_, load9 hy5 (by omega) (by omega), ?_⟩
        | refine ⟨_, fun tm ha => step1_shl rfl rfl (ev_tmp ha rfl) (by omega), ?_⟩
        | refine ⟨_, fun tm ha => step1_bits (.inr (.inr (.inl rfl))) rfl (ev_tmp ha rfl) (ev_tmp ha rfl) rfl rfl, ?_⟩
        | (refine ⟨fun _ => ?_, fun _ => ?_⟩ <;> first | (exfalso; omega) | skip)
        | fail
      · refine ⟨(j + 1), (by repeat' first | exact trivial | refine ⟨rfl, ?_⟩), (by (try dsimp only); omega), ?_⟩
        refine ⟨by omega, by omega, hky, hy4, ?_⟩
        rw [show (j + 1).toNat = j.toNat + 1 by omega, ← dM_skip (by unfold dis; rw [decide_eq_true (by assumption), decide_eq_true (by assumption)]; rfl)]
        exact hy5
      · have hd : dis xs ys i.toNat j.toNat = true := by unfold dis; rw [decide_eq_true (by assumption), decide_eq_false (by assumption)]; rfl
        have h1 := dM_lt (xs := xs) (ys := ys) (i := i.toNat) (j := j.toNat) (q := i.toNat) h9 (by omega)
        rw [shlN hj0 (by omega), orN (Nat.lt_trans h1 (by decide)) (by rw [Nat.one_shiftLeft]; exact Nat.pow_lt_pow_right (by decide) (by omega))]
        refine ⟨_, _, store9 hy5 hi0 (by omega), by omega, ?_⟩
        repeat' first
          | refine CO.cons rfl ?_
          | refine CO.nil ?_
          | refine CV.seq ?_
          | refine CV.region callees ?_
          | refine CV.cond ?_
          | refine CV.block ?_
          | refine CV.skip ?_
          | refine CV.exit ?_
          | refine CV.ret ?_
          | refine CV.scope ?_
          | refine CV.draw callees rfl ?_
          | refine CH.cons rfl ?_
          | refine CH.nil ?_
          | refine CO.consG rfl ?_
          | refine CH.consG rfl ?_
          | refine CG.cons rfl ?_
          | refine CG.nil ?_
          | refine CG.consG rfl ?_
          | refine ⟨(rfl : plain _ = true), ?_⟩
          | refine ⟨(rfl : nilOk _ = some _), ?_⟩
          | refine ⟨_, ints_len (by assumption), ?_⟩
          | refine ⟨_, ints_addr (by assumption) (by omega) (by omega), ?_⟩
          | refine ⟨_, ints_load (by assumption) (by omega) (by omega), ?_⟩
          | refine ⟨(⟨by omega, by omega⟩ : inI64 _), ?_⟩
          | refine ⟨_, fun tm ha => step1_max rfl (ev_tmp ha rfl) (ev_tmp ha rfl), ?_⟩
          | refine ⟨_, fun tm ha => step1_min rfl (ev_tmp ha rfl) (ev_tmp ha rfl), ?_⟩
          | (refine ⟨fun _ => ?_, fun _ => ?_⟩ <;> first | (exfalso; omega) | skip)
          | fail
        refine ⟨(j + 1), (by repeat' first | exact trivial | refine ⟨rfl, ?_⟩), (by (try dsimp only); omega), ?_⟩
        refine ⟨by omega, by omega, hky.set _ (by omega), ?_, ?_⟩
        · rw [Heap.get_set_ne _ _ (by omega)]; exact hy4
        · rw [Heap.get_set_eq, show (j + 1).toNat = j.toNat + 1 by omega, ← dM_put hd]
      · have hd : dis xs ys i.toNat j.toNat = true := by unfold dis; rw [decide_eq_false (by assumption), decide_eq_true (by assumption)]; rfl
        have h1 := dM_lt (xs := xs) (ys := ys) (i := i.toNat) (j := j.toNat) (q := i.toNat) h9 (by omega)
        rw [shlN hj0 (by omega), orN (Nat.lt_trans h1 (by decide)) (by rw [Nat.one_shiftLeft]; exact Nat.pow_lt_pow_right (by decide) (by omega))]
        refine ⟨_, _, store9 hy5 hi0 (by omega), by omega, ?_⟩
        repeat' first
          | refine CO.cons rfl ?_
          | refine CO.nil ?_
          | refine CV.seq ?_
          | refine CV.region callees ?_
          | refine CV.cond ?_
          | refine CV.block ?_
          | refine CV.skip ?_
          | refine CV.exit ?_
          | refine CV.ret ?_
          | refine CV.scope ?_
          | refine CV.draw callees rfl ?_
          | refine CH.cons rfl ?_
          | refine CH.nil ?_
          | refine CO.consG rfl ?_
          | refine CH.consG rfl ?_
          | refine CG.cons rfl ?_
          | refine CG.nil ?_
          | refine CG.consG rfl ?_
          | refine ⟨(rfl : plain _ = true), ?_⟩
          | refine ⟨(rfl : nilOk _ = some _), ?_⟩
          | refine ⟨_, ints_len (by assumption), ?_⟩
          | refine ⟨_, ints_addr (by assumption) (by omega) (by omega), ?_⟩
          | refine ⟨_, ints_load (by assumption) (by omega) (by omega), ?_⟩
          | refine ⟨(⟨by omega, by omega⟩ : inI64 _), ?_⟩
          | refine ⟨_, fun tm ha => step1_max rfl (ev_tmp ha rfl) (ev_tmp ha rfl), ?_⟩
          | refine ⟨_, fun tm ha => step1_min rfl (ev_tmp ha rfl) (ev_tmp ha rfl), ?_⟩
          | (refine ⟨fun _ => ?_, fun _ => ?_⟩ <;> first | (exfalso; omega) | skip)
          | fail
        refine ⟨(j + 1), (by repeat' first | exact trivial | refine ⟨rfl, ?_⟩), (by (try dsimp only); omega), ?_⟩
        refine ⟨by omega, by omega, hky.set _ (by omega), ?_, ?_⟩
        · rw [Heap.get_set_ne _ _ (by omega)]; exact hy4
        · rw [Heap.get_set_eq, show (j + 1).toNat = j.toNat + 1 by omega, ← dM_put hd]
      · refine ⟨(j + 1), (by repeat' first | exact trivial | refine ⟨rfl, ?_⟩), (by (try dsimp only); omega), ?_⟩
        refine ⟨by omega, by omega, hky, hy4, ?_⟩
        rw [show (j + 1).toNat = j.toNat + 1 by omega, ← dM_skip (by unfold dis; rw [decide_eq_false (by assumption), decide_eq_false (by assumption)]; rfl)]
        exact hy5
    · repeat' first
        | refine CO.cons rfl ?_
        | refine CO.nil ?_
        | refine CV.seq ?_
        | refine CV.region callees ?_
        | refine CV.cond ?_
        | refine CV.block ?_
        | refine CV.skip ?_
        | refine CV.exit ?_
        | refine CV.ret ?_
        | refine CV.scope ?_
        | refine CV.draw callees rfl ?_
        | refine CH.cons rfl ?_
        | refine CH.nil ?_
        | refine CO.consG rfl ?_
        | refine CH.consG rfl ?_
        | refine CG.cons rfl ?_
        | refine CG.nil ?_
        | refine CG.consG rfl ?_
        | refine ⟨(rfl : plain _ = true), ?_⟩
        | refine ⟨(rfl : nilOk _ = some _), ?_⟩
        | refine ⟨_, ints_len (by assumption), ?_⟩
        | refine ⟨_, ints_addr (by assumption) (by omega) (by omega), ?_⟩
        | refine ⟨_, ints_load (by assumption) (by omega) (by omega), ?_⟩
        | refine ⟨(⟨by omega, by omega⟩ : inI64 _), ?_⟩
        | refine ⟨_, fun tm ha => step1_max rfl (ev_tmp ha rfl) (ev_tmp ha rfl), ?_⟩
        | refine ⟨_, fun tm ha => step1_min rfl (ev_tmp ha rfl) (ev_tmp ha rfl), ?_⟩
        | (refine ⟨fun _ => ?_, fun _ => ?_⟩ <;> first | (exfalso; omega) | skip)
        | fail
      refine ⟨(i + 1), (by repeat' first | exact trivial | refine ⟨rfl, ?_⟩), (by (try dsimp only); omega), ?_⟩
      refine ⟨by omega, by omega, hky, hy4, ?_⟩
      rw [show (i + 1).toNat = i.toNat + 1 by omega, ← dM_next, show xs.length = j.toNat by omega]
      exact hy5
  · repeat' first
      | refine CO.cons rfl ?_
      | refine CO.nil ?_
      | refine CV.seq ?_
      | refine CV.region callees ?_
      | refine CV.cond ?_
      | refine CV.block ?_
      | refine CV.skip ?_
      | refine CV.exit ?_
      | refine CV.ret ?_
      | refine CV.scope ?_
      | refine CV.draw callees rfl ?_
      | refine CH.cons rfl ?_
      | refine CH.nil ?_
      | refine CO.consG rfl ?_
      | refine CH.consG rfl ?_
      | refine CG.cons rfl ?_
      | refine CG.nil ?_
      | refine CG.consG rfl ?_
      | refine ⟨(rfl : plain _ = true), ?_⟩
      | refine ⟨(rfl : nilOk _ = some _), ?_⟩
      | refine ⟨_, ints_len (by assumption), ?_⟩
      | refine ⟨_, ints_addr (by assumption) (by omega) (by omega), ?_⟩
      | refine ⟨_, ints_load (by assumption) (by omega) (by omega), ?_⟩
      | refine ⟨(⟨by omega, by omega⟩ : inI64 _), ?_⟩
      | refine ⟨_, fun tm ha => step1_max rfl (ev_tmp ha rfl) (ev_tmp ha rfl), ?_⟩
      | refine ⟨_, fun tm ha => step1_min rfl (ev_tmp ha rfl) (ev_tmp ha rfl), ?_⟩
      | refine ⟨_, loadAll hg5, ?_⟩
      | (refine ⟨fun _ => ?_, fun _ => ?_⟩ <;> first | (exfalso; omega) | skip)
      | fail
    refine ⟨_, _, storeAll hg4, hB, ?_⟩
    have hg : (Hx.set H.n (.cells (arr (dM xs ys i.toNat 0)) 104 1)).get H.n = some (.cells (arr (dM xs ys i.toNat 0)) 104 1) := Heap.get_set_eq _ _ _
    repeat' first
      | refine CO.cons rfl ?_
      | refine CO.nil ?_
      | refine CV.seq ?_
      | refine CV.region callees ?_
      | refine CV.cond ?_
      | refine CV.block ?_
      | refine CV.skip ?_
      | refine CV.exit ?_
      | refine CV.ret ?_
      | refine CV.scope ?_
      | refine CV.draw callees rfl ?_
      | refine CH.cons rfl ?_
      | refine CH.nil ?_
      | refine CO.consG rfl ?_
      | refine CH.consG rfl ?_
      | refine CG.cons rfl ?_
      | refine CG.nil ?_
      | refine CG.consG rfl ?_
      | refine ⟨(rfl : plain _ = true), ?_⟩
      | refine ⟨(rfl : nilOk _ = some _), ?_⟩
      | refine ⟨_, ints_len (by assumption), ?_⟩
      | refine ⟨_, ints_addr (by assumption) (by omega) (by omega), ?_⟩
      | refine ⟨_, ints_load (by assumption) (by omega) (by omega), ?_⟩
      | refine ⟨(⟨by omega, by omega⟩ : inI64 _), ?_⟩
      | refine ⟨_, fun tm ha => step1_max rfl (ev_tmp ha rfl) (ev_tmp ha rfl), ?_⟩
      | refine ⟨_, fun tm ha => step1_min rfl (ev_tmp ha rfl) (ev_tmp ha rfl), ?_⟩
      | (refine ⟨fun _ => ?_, fun _ => ?_⟩ <;> first | (exfalso; omega) | skip)
      | fail
    rw [show i.toNat = xs.length by omega] at hg
    rw [show i.toNat = xs.length by omega]
    exact ⟨_, loadAll hg, rfl, rfl, hkx.set _ (Nat.le_refl _)⟩
end Go.Proofs.YthcchjmjblegdaaDoor

/- How many packets have to be moved. -/
namespace Go.Proofs.YthcchjmjblegdaaDoor
open Go.AI
/-- A set of packets of which no two are in dispute. -/
def Good (d : Nat → Nat) (n s : Nat) : Prop := ∀ i, i < n → s.testBit i = true → s &&& d i = 0
structure Most (d : Nat → Nat) (n m : Nat) : Prop where
  has : ∃ t, t < 2 ^ n ∧ Good d n t ∧ pop t = m
  top : ∀ t, t < 2 ^ n → Good d n t → pop t ≤ m
theorem pop_le (s : Nat) : pop s ≤ 9 := by
  unfold pop
  exact Nat.le_trans (List.length_filter_le _ _) (by simp)
theorem pop_zero : pop 0 = 0 := by decide
theorem good_zero {d : Nat → Nat} {n : Nat} : Good d n 0 := fun i _ h => by simp at h
theorem bit_one {s i : Nat} : ((s >>> i &&& 1 : Nat) : Int) = 1 ↔ s.testBit i = true := by
  rw [Nat.testBit, Nat.and_comm 1]
  have h := Nat.and_one_is_mod (s >>> i)
  rw [h]
  constructor
  · intro h1
    have : s >>> i % 2 = 1 := by omega
    rw [this]; rfl
  · intro h1
    have : s >>> i % 2 = 0 ∨ s >>> i % 2 = 1 := by omega
    rcases this with h2 | h2
    · rw [h2] at h1; cases h1
    · omega

set_option maxHeartbeats 4000000 in
set_option maxRecDepth 100000 in
theorem staying_spec {B : Nat} {v u : Value} {H : Heap} {xs ys : List Int} (hB : B ≤ H.n) (hv : Ints H v xs) (hu : Ints H u ys) (hl : xs.length = ys.length) (h9 : xs.length ≤ 9) :
    CallB Tryd.prog B 94 [v, u] H (fun r H' => (∃ m : Nat, r = .int .i64 m ∧ Most (dM xs ys xs.length 0) xs.length m) ∧ Keep H H') := by
  have h29 : (2 : Nat) ^ xs.length ≤ 512 := by
    have := Nat.pow_le_pow_right (n := 2) (by decide) h9
    rwa [show (2 : Nat) ^ 9 = 512 by decide] at this
  refine CV.enter callees false rfl Tryd.func94 rfl ok94 (Nat.le_of_ble_eq_true rfl) hB ?_
  repeat' first
    | refine CO.cons rfl ?_
    | refine CO.nil ?_
    | refine CV.seq ?_
    | refine CV.region callees ?_
    | refine CV.cond ?_
    | refine CV.block ?_
    | refine CV.skip ?_
    | refine CV.exit ?_
    | refine CV.ret ?_
    | refine CV.scope ?_
    | refine CV.draw callees rfl ?_
    | refine CH.cons rfl ?_
    | refine CH.nil ?_
    | refine CO.consG rfl ?_
    | refine CH.consG rfl ?_
    | refine CG.cons rfl ?_
    | refine CG.nil ?_
    | refine CG.consG rfl ?_
    | refine ⟨(rfl : plain _ = true), ?_⟩
    | refine ⟨(rfl : nilOk _ = some _), ?_⟩
    | refine ⟨_, ints_len (by assumption), ?_⟩
    | refine ⟨_, ints_addr (by assumption) (by omega) (by omega), ?_⟩
    | refine ⟨_, ints_load (by assumption) (by omega) (by omega), ?_⟩
    | refine ⟨(⟨by omega, by omega⟩ : inI64 _), ?_⟩
    | refine ⟨_, fun tm ha => step1_max rfl (ev_tmp ha rfl) (ev_tmp ha rfl), ?_⟩
    | refine ⟨_, fun tm ha => step1_min rfl (ev_tmp ha rfl) (ev_tmp ha rfl), ?_⟩
    | (refine ⟨fun _ => ?_, fun _ => ?_⟩ <;> first | (exfalso; omega) | skip)
    | fail
  refine (disputes_spec hB hv hu hl h9).mono ?_
  rintro r H1 ⟨rfl, k1⟩
  have hB1 := Nat.le_trans hB k1.1
  have hg0 : (H1.new (.cells (arr fun _ => 0) 104 1)).get H1.n = some (.cells (arr fun _ => 0) 104 1) := Heap.get_new_eq _ _
  repeat' first
    | refine CO.cons rfl ?_
    | refine CO.nil ?_
    | refine CV.seq ?_
    | refine CV.region callees ?_
    | refine CV.cond ?_
    | refine CV.block ?_
    | refine CV.skip ?_
    | refine CV.exit ?_
    | refine CV.ret ?_
    | refine CV.scope ?_
    | refine CV.draw callees rfl ?_
    | refine CH.cons rfl ?_
    | refine CH.nil ?_
    | refine CO.consG rfl ?_
    | refine CH.consG rfl ?_
    | refine CG.cons rfl ?_
    | refine CG.nil ?_
    | refine CG.consG rfl ?_
    | refine ⟨(rfl : plain _ = true), ?_⟩
    | refine ⟨(rfl : nilOk _ = some _), ?_⟩
    | refine ⟨_, ints_len (by assumption), ?_⟩
    | refine ⟨_, ints_addr (by assumption) (by omega) (by omega), ?_⟩
    | refine ⟨_, ints_load (by assumption) (by omega) (by omega), ?_⟩
    | refine ⟨(⟨by omega, by omega⟩ : inI64 _), ?_⟩
    | refine ⟨_, fun tm ha => step1_max rfl (ev_tmp ha rfl) (ev_tmp ha rfl), ?_⟩
    | refine ⟨_, fun tm ha => step1_min rfl (ev_tmp ha rfl) (ev_tmp ha rfl), ?_⟩
    | refine ⟨_, _, alloc104, ?_⟩
    | refine ⟨_, _, storeAll hg0, hB1, ?_⟩
    | (refine ⟨fun _ => ?_, fun _ => ?_⟩ <;> first | (exfalso; omega) | skip)
    | fail
  have k2 : Keep H ((H1.new (.cells (arr fun _ => 0) 104 1)).set H1.n (.cells (arr (dM xs ys xs.length 0)) 104 1)) := k1.trans ((Keep.new _ _).set _ (Nat.le_refl _))
  have hg2 : ((H1.new (.cells (arr fun _ => 0) 104 1)).set H1.n (.cells (arr (dM xs ys xs.length 0)) 104 1)).get H1.n = some (.cells (arr (dM xs ys xs.length 0)) 104 1) := Heap.get_set_eq _ _ _
  have hv2 : Ints _ v xs := Row.keep hv k2
  generalize (H1.new (.cells (arr fun _ => 0) 104 1)).set H1.n (.cells (arr (dM xs ys xs.length 0)) 104 1) = H2 at k2 hg2 hv2 ⊢
  obtain ⟨d, hd⟩ : ∃ d, dM xs ys xs.length 0 = d := ⟨_, rfl⟩
  have hdlt : ∀ q, d q < 512 := fun q => by rw [← hd]; exact dM_lt h9 (by omega)
  rw [hd] at hg2 ⊢
  repeat' first
    | refine CO.cons rfl ?_
    | refine CO.nil ?_
    | refine CV.seq ?_
    | refine CV.region callees ?_
    | refine CV.cond ?_
    | refine CV.block ?_
    | refine CV.skip ?_
    | refine CV.exit ?_
    | refine CV.ret ?_
    | refine CV.scope ?_
    | refine CV.draw callees rfl ?_
    | refine CH.cons rfl ?_
    | refine CH.nil ?_
    | refine CO.consG rfl ?_
    | refine CH.consG rfl ?_
    | refine CG.cons rfl ?_
    | refine CG.nil ?_
    | refine CG.consG rfl ?_
    | refine ⟨(rfl : plain _ = true), ?_⟩
    | refine ⟨(rfl : nilOk _ = some _), ?_⟩
    | refine ⟨_, ints_len (by assumption), ?_⟩
    | refine ⟨_, ints_addr (by assumption) (by omega) (by omega), ?_⟩
    | refine ⟨_, ints_load (by assumption) (by omega) (by omega), ?_⟩
    | refine ⟨(⟨by omega, by omega⟩ : inI64 _), ?_⟩
    | refine ⟨_, fun tm ha => step1_max rfl (ev_tmp ha rfl) (ev_tmp ha rfl), ?_⟩
    | refine ⟨_, fun tm ha => step1_min rfl (ev_tmp ha rfl) (ev_tmp ha rfl), ?_⟩
    | refine CV.label ?_
    | refine ⟨_, fun tm ha => step1_shl rfl rfl (ev_tmp ha rfl) (by omega), ?_⟩
    | (refine ⟨fun _ => ?_, fun _ => ?_⟩ <;> first | (exfalso; omega) | skip)
    | fail
  rw [shlN (by omega) (by omega), Int.toNat_natCast, Nat.one_shiftLeft]
  repeat' first
    | refine CO.cons rfl ?_
    | refine CO.nil ?_
    | refine CV.seq ?_
    | refine CV.region callees ?_
    | refine CV.cond ?_
    | refine CV.block ?_
    | refine CV.skip ?_
    | refine CV.exit ?_
    | refine CV.ret ?_
    | refine CV.scope ?_
    | refine CV.draw callees rfl ?_
    | refine CH.cons rfl ?_
    | refine CH.nil ?_
    | refine CO.consG rfl ?_
    | refine CH.consG rfl ?_
    | refine CG.cons rfl ?_
    | refine CG.nil ?_
    | refine CG.consG rfl ?_
    | refine ⟨(rfl : plain _ = true), ?_⟩
    | refine ⟨(rfl : nilOk _ = some _), ?_⟩
    | refine ⟨_, ints_len (by assumption), ?_⟩
    | refine ⟨_, ints_addr (by assumption) (by omega) (by omega), ?_⟩
    | refine ⟨_, ints_load (by assumption) (by omega) (by omega), ?_⟩
    | refine ⟨(⟨by omega, by omega⟩ : inI64 _), ?_⟩
    | refine ⟨_, fun tm ha => step1_max rfl (ev_tmp ha rfl) (ev_tmp ha rfl), ?_⟩
    | refine ⟨_, fun tm ha => step1_min rfl (ev_tmp ha rfl) (ev_tmp ha rfl), ?_⟩
    | (refine ⟨fun _ => ?_, fun _ => ?_⟩ <;> first | (exfalso; omega) | skip)
    | fail
  refine CV.loopc ?_
  refine WCv.rounds callees false (α := Nat × Nat) (fun (s, m) => [(0, v), (5, .pointer (some ⟨H1.n, 0, none⟩)), (6, .int .i64 m), (15, VU (2 ^ xs.length)), (16, VU s)]) (fun (s, m) Hz => Hz = H2 ∧ s ≤ 2 ^ xs.length ∧ (∃ t, t < 2 ^ xs.length ∧ Good d xs.length t ∧ pop t = m) ∧ ∀ t, t < s → Good d xs.length t → pop t ≤ m) (fun (s, m) => 2 ^ xs.length - s) (0, 0) (by repeat' first | exact trivial | refine ⟨rfl, ?_⟩) ?_ ?_
  · exact ⟨rfl, Nat.zero_le _, ⟨0, Nat.two_pow_pos _, good_zero, pop_zero⟩, fun t h => by omega⟩
  rintro ⟨s, m⟩ Hx ⟨rfl, hs, hhas, htop⟩ hBx
  have next : ∀ m' : Nat, m ≤ m' → (Good d xs.length s → pop s ≤ m') → ∀ t, t < s + 1 → Good d xs.length t → pop t ≤ m' := fun m' hm h t ht hg => by
    by_cases h' : t < s
    · exact Nat.le_trans (htop t h' hg) hm
    · have : t = s := by omega
      subst this; exact h hg
  by_cases hsn : s < 2 ^ xs.length
  · have hps := pop_le s
    repeat' first
      | refine CO.cons rfl ?_
      | refine CO.nil ?_
      | refine CV.seq ?_
      | refine CV.region callees ?_
      | refine CV.cond ?_
      | refine CV.block ?_
      | refine CV.skip ?_
      | refine CV.exit ?_
      | refine CV.ret ?_
      | refine CV.scope ?_
      | refine CV.draw callees rfl ?_
      | refine CH.cons rfl ?_
      | refine CH.nil ?_
      | refine CO.consG rfl ?_
      | refine CH.consG rfl ?_
      | refine CG.cons rfl ?_
      | refine CG.nil ?_
      | refine CG.consG rfl ?_
      | refine ⟨(rfl : plain _ = true), ?_⟩
      | refine ⟨(rfl : nilOk _ = some _), ?_⟩
      | refine ⟨_, ints_len (by assumption), ?_⟩
      | refine ⟨_, ints_addr (by assumption) (by omega) (by omega), ?_⟩
      | refine ⟨_, ints_load (by assumption) (by omega) (by omega), ?_⟩
      | refine ⟨(⟨by omega, by omega⟩ : inI64 _), ?_⟩
      | refine ⟨_, fun tm ha => step1_max rfl (ev_tmp ha rfl) (ev_tmp ha rfl), ?_⟩
      | refine ⟨_, fun tm ha => step1_min rfl (ev_tmp ha rfl) (ev_tmp ha rfl), ?_⟩
      | (refine (ones_spec hBx (by omega)).mono ?_; rintro r H' ⟨rfl, rfl⟩)
      | (refine ⟨fun _ => ?_, fun _ => ?_⟩ <;> first | (exfalso; omega) | skip)
      | fail
    · intro r hr
      rw [show (s : Int) + 1 = ((s + 1 : Nat) : Int) by omega, wrapN (Nat.lt_of_lt_of_le (by omega : s + 1 < 1024) (by decide))] at hr
      subst hr
      repeat' first
        | refine CO.cons rfl ?_
        | refine CO.nil ?_
        | refine CV.seq ?_
        | refine CV.region callees ?_
        | refine CV.cond ?_
        | refine CV.block ?_
        | refine CV.skip ?_
        | refine CV.exit ?_
        | refine CV.ret ?_
        | refine CV.scope ?_
        | refine CV.draw callees rfl ?_
        | refine CH.cons rfl ?_
        | refine CH.nil ?_
        | refine CO.consG rfl ?_
        | refine CH.consG rfl ?_
        | refine CG.cons rfl ?_
        | refine CG.nil ?_
        | refine CG.consG rfl ?_
        | refine ⟨(rfl : plain _ = true), ?_⟩
        | refine ⟨(rfl : nilOk _ = some _), ?_⟩
        | refine ⟨_, ints_len (by assumption), ?_⟩
        | refine ⟨_, ints_addr (by assumption) (by omega) (by omega), ?_⟩
        | refine ⟨_, ints_load (by assumption) (by omega) (by omega), ?_⟩
        | refine ⟨(⟨by omega, by omega⟩ : inI64 _), ?_⟩
        | refine ⟨_, fun tm ha => step1_max rfl (ev_tmp ha rfl) (ev_tmp ha rfl), ?_⟩
        | refine ⟨_, fun tm ha => step1_min rfl (ev_tmp ha rfl) (ev_tmp ha rfl), ?_⟩
        | (refine ⟨fun _ => ?_, fun _ => ?_⟩ <;> first | (exfalso; omega) | skip)
        | fail
      refine ⟨(s + 1, m), (by repeat' first | exact trivial | refine ⟨rfl, ?_⟩), (by (try dsimp only); omega), ?_⟩
      exact ⟨rfl, by omega, hhas, next m (Nat.le_refl _) fun _ => by omega⟩
    refine CV.loopc ?_
    refine WCv.rounds callees false (α := Int) (fun i => [(0, v), (5, .pointer (some ⟨H1.n, 0, none⟩)), (6, .int .i64 m), (7, VU s), (8, .int .i64 (pop s)), (15, VU (2 ^ xs.length)), (16, VU s), (25, .int .i64 xs.length), (26, .int .i64 i)]) (fun i Hz => Hz = H' ∧ 0 ≤ i ∧ i ≤ xs.length ∧ ∀ k : Nat, (k : Int) < i → s.testBit k = true → s &&& d k = 0) (fun i => xs.length - i.toNat) (0) (by repeat' first | exact trivial | refine ⟨rfl, ?_⟩) ?_ ?_
    · exact ⟨rfl, by omega, by omega, fun k h => by omega⟩
    rintro i Hy ⟨rfl, hi0, hi1, hgood⟩ hBy
    by_cases hi : i < xs.length
    · have hs64 : s < 2 ^ 64 := Nat.lt_of_lt_of_le (by omega : s < 1024) (by decide)
      have e1 : IntKind.wrap .u64 ((BitVec.ofInt (IntKind.bits .u64) ((s : Int).fdiv (2 ^ (min i.toNat (IntKind.bits .u64)))) &&& BitVec.ofInt (IntKind.bits .u64) 1).toNat) = ((s >>> i.toNat &&& 1 : Nat) : Int) := by
        rw [shrN hi0 (by omega)]
        exact andN (Nat.lt_of_le_of_lt (Nat.shiftRight_le _ _) hs64) (by decide)
      have e2 : IntKind.wrap .u64 ((BitVec.ofInt (IntKind.bits .u64) (s : Int) &&& BitVec.ofInt (IntKind.bits .u64) (d i.toNat : Int)).toNat) = ((s &&& d i.toNat : Nat) : Int) :=
        andN hs64 (Nat.lt_trans (hdlt _) (by decide))
      repeat' first
        | refine CO.cons rfl ?_
        | refine CO.nil ?_
        | refine CV.seq ?_
        | refine CV.region callees ?_
        | refine CV.cond ?_
        | refine CV.block ?_
        | refine CV.skip ?_
        | refine CV.exit ?_
        | refine CV.ret ?_
        | refine CV.scope ?_
        | refine CV.draw callees rfl ?_
        | refine CH.cons rfl ?_
        | refine CH.nil ?_
        | refine CO.consG rfl ?_
        | refine CH.consG rfl ?_
        | refine CG.cons rfl ?_
        | refine CG.nil ?_
        | refine CG.consG rfl ?_
        | refine ⟨(rfl : plain _ = true), ?_⟩
        | refine ⟨(rfl : nilOk _ = some _), ?_⟩
        | refine ⟨_, ints_len (by assumption), ?_⟩
        | refine ⟨_, ints_addr (by assumption) (by omega) (by omega), ?_⟩
        | refine ⟨_, ints_load (by assumption) (by omega) (by omega), ?_⟩
        | refine ⟨(⟨by omega, by omega⟩ : inI64 _), ?_⟩
        | refine ⟨_, fun tm ha => step1_max rfl (ev_tmp ha rfl) (ev_tmp ha rfl), ?_⟩
        | refine ⟨_, fun tm ha => step1_min rfl (ev_tmp ha rfl) (ev_tmp ha rfl), ?_⟩
        | refine ⟨_, fun tm ha => step1_shr rfl (ev_tmp ha rfl) (ev_tmp ha rfl) (by omega), ?_⟩
        | refine ⟨_, fun tm ha => step1_bits (.inr (.inl rfl)) rfl (ev_tmp ha rfl) rfl rfl rfl, ?_⟩
        | refine ⟨_, fun tm ha => step1_bits (.inr (.inl rfl)) rfl (ev_tmp ha rfl) (ev_tmp ha rfl) rfl rfl, ?_⟩
        | refine ⟨_, addr9 (by omega) (by omega), ?_⟩
        | refine ⟨_, load9 hg2 (by omega) (by omega), ?_⟩
        | (refine ⟨fun _ => ?_, fun _ => ?_⟩ <;> first | (exfalso; omega) | skip)
        | fail
      · rename_i h1 h2
        rw [e1] at h1
        rw [e2] at h2
        intro r hr
        rw [show (s : Int) + 1 = ((s + 1 : Nat) : Int) by omega, wrapN (Nat.lt_of_lt_of_le (by omega : s + 1 < 1024) (by decide))] at hr
        subst hr
        repeat' first
          | refine CO.cons rfl ?_
          | refine CO.nil ?_
          | refine CV.seq ?_
          | refine CV.region callees ?_
          | refine CV.cond ?_
          | refine CV.block ?_
          | refine CV.skip ?_
          | refine CV.exit ?_
          | refine CV.ret ?_
          | refine CV.scope ?_
          | refine CV.draw callees rfl ?_
          | refine CH.cons rfl ?_
          | refine CH.nil ?_
          | refine CO.consG rfl ?_
          | refine CH.consG rfl ?_
          | refine CG.cons rfl ?_
          | refine CG.nil ?_
          | refine CG.consG rfl ?_
          | refine ⟨(rfl : plain _ = true), ?_⟩
          | refine ⟨(rfl : nilOk _ = some _), ?_⟩
          | refine ⟨_, ints_len (by assumption), ?_⟩
          | refine ⟨_, ints_addr (by assumption) (by omega) (by omega), ?_⟩
          | refine ⟨_, ints_load (by assumption) (by omega) (by omega), ?_⟩
          | refine ⟨(⟨by omega, by omega⟩ : inI64 _), ?_⟩
          | refine ⟨_, fun tm ha => step1_max rfl (ev_tmp ha rfl) (ev_tmp ha rfl), ?_⟩
          | refine ⟨_, fun tm ha => step1_min rfl (ev_tmp ha rfl) (ev_tmp ha rfl), ?_⟩
          | (refine ⟨fun _ => ?_, fun _ => ?_⟩ <;> first | (exfalso; omega) | skip)
          | fail
        refine ⟨(s + 1, m), (by repeat' first | exact trivial | refine ⟨rfl, ?_⟩), (by (try dsimp only); omega), ?_⟩
        exact ⟨rfl, by omega, hhas, next m (Nat.le_refl _) fun hg => absurd (by rw [hg i.toNat (by omega) (bit_one.1 h1)]; rfl) h2⟩
      · rename_i h1 h2
        rw [e1] at h1
        rw [e2] at h2
        refine ⟨(i + 1), (by repeat' first | exact trivial | refine ⟨rfl, ?_⟩), (by (try dsimp only); omega), ?_⟩
        refine ⟨rfl, by omega, by omega, fun k hk hb => ?_⟩
        by_cases h : (k : Int) < i
        · exact hgood k h hb
        · rw [show k = i.toNat by omega]
          have := Classical.not_not.1 h2
          omega
      · rename_i h1
        rw [e1] at h1
        refine ⟨(i + 1), (by repeat' first | exact trivial | refine ⟨rfl, ?_⟩), (by (try dsimp only); omega), ?_⟩
        refine ⟨rfl, by omega, by omega, fun k hk hb => ?_⟩
        by_cases h : (k : Int) < i
        · exact hgood k h hb
        · rw [show k = i.toNat by omega] at hb
          exact absurd (bit_one.2 hb) h1
    · have hgs : Good d xs.length s := fun k hk hb => hgood k (by omega) hb
      repeat' first
        | refine CO.cons rfl ?_
        | refine CO.nil ?_
        | refine CV.seq ?_
        | refine CV.region callees ?_
        | refine CV.cond ?_
        | refine CV.block ?_
        | refine CV.skip ?_
        | refine CV.exit ?_
        | refine CV.ret ?_
        | refine CV.scope ?_
        | refine CV.draw callees rfl ?_
        | refine CH.cons rfl ?_
        | refine CH.nil ?_
        | refine CO.consG rfl ?_
        | refine CH.consG rfl ?_
        | refine CG.cons rfl ?_
        | refine CG.nil ?_
        | refine CG.consG rfl ?_
        | refine ⟨(rfl : plain _ = true), ?_⟩
        | refine ⟨(rfl : nilOk _ = some _), ?_⟩
        | refine ⟨_, ints_len (by assumption), ?_⟩
        | refine ⟨_, ints_addr (by assumption) (by omega) (by omega), ?_⟩
        | refine ⟨_, ints_load (by assumption) (by omega) (by omega), ?_⟩
        | refine ⟨(⟨by omega, by omega⟩ : inI64 _), ?_⟩
        | refine ⟨_, fun tm ha => step1_max rfl (ev_tmp ha rfl) (ev_tmp ha rfl), ?_⟩
        | refine ⟨_, fun tm ha => step1_min rfl (ev_tmp ha rfl) (ev_tmp ha rfl), ?_⟩
        | (refine ⟨fun _ => ?_, fun _ => ?_⟩ <;> first | (exfalso; omega) | skip)
        | fail
      intro r hr
      rw [show (s : Int) + 1 = ((s + 1 : Nat) : Int) by omega, wrapN (Nat.lt_of_lt_of_le (by omega : s + 1 < 1024) (by decide))] at hr
      subst hr
      repeat' first
        | refine CO.cons rfl ?_
        | refine CO.nil ?_
        | refine CV.seq ?_
        | refine CV.region callees ?_
        | refine CV.cond ?_
        | refine CV.block ?_
        | refine CV.skip ?_
        | refine CV.exit ?_
        | refine CV.ret ?_
        | refine CV.scope ?_
        | refine CV.draw callees rfl ?_
        | refine CH.cons rfl ?_
        | refine CH.nil ?_
        | refine CO.consG rfl ?_
        | refine CH.consG rfl ?_
        | refine CG.cons rfl ?_
        | refine CG.nil ?_
        | refine CG.consG rfl ?_
        | refine ⟨(rfl : plain _ = true), ?_⟩
        | refine ⟨(rfl : nilOk _ = some _), ?_⟩
        | refine ⟨_, ints_len (by assumption), ?_⟩
        | refine ⟨_, ints_addr (by assumption) (by omega) (by omega), ?_⟩
        | refine ⟨_, ints_load (by assumption) (by omega) (by omega), ?_⟩
        | refine ⟨(⟨by omega, by omega⟩ : inI64 _), ?_⟩
        | refine ⟨_, fun tm ha => step1_max rfl (ev_tmp ha rfl) (ev_tmp ha rfl), ?_⟩
        | refine ⟨_, fun tm ha => step1_min rfl (ev_tmp ha rfl) (ev_tmp ha rfl), ?_⟩
        | (refine ⟨fun _ => ?_, fun _ => ?_⟩ <;> first | (exfalso; omega) | skip)
        | fail
      refine ⟨(s + 1, pop s), (by repeat' first | exact trivial | refine ⟨rfl, ?_⟩), (by (try dsimp only); omega), ?_⟩
      exact ⟨rfl, by omega, ⟨s, hsn, hgs, rfl⟩, next (pop s) (by omega) fun _ => Nat.le_refl _⟩
  · repeat' first
      | refine CO.cons rfl ?_
      | refine CO.nil ?_
      | refine CV.seq ?_
      | refine CV.region callees ?_
      | refine CV.cond ?_
      | refine CV.block ?_
      | refine CV.skip ?_
      | refine CV.exit ?_
      | refine CV.ret ?_
      | refine CV.scope ?_
      | refine CV.draw callees rfl ?_
      | refine CH.cons rfl ?_
      | refine CH.nil ?_
      | refine CO.consG rfl ?_
      | refine CH.consG rfl ?_
      | refine CG.cons rfl ?_
      | refine CG.nil ?_
      | refine CG.consG rfl ?_
      | refine ⟨(rfl : plain _ = true), ?_⟩
      | refine ⟨(rfl : nilOk _ = some _), ?_⟩
      | refine ⟨_, ints_len (by assumption), ?_⟩
      | refine ⟨_, ints_addr (by assumption) (by omega) (by omega), ?_⟩
      | refine ⟨_, ints_load (by assumption) (by omega) (by omega), ?_⟩
      | refine ⟨(⟨by omega, by omega⟩ : inI64 _), ?_⟩
      | refine ⟨_, fun tm ha => step1_max rfl (ev_tmp ha rfl) (ev_tmp ha rfl), ?_⟩
      | refine ⟨_, fun tm ha => step1_min rfl (ev_tmp ha rfl) (ev_tmp ha rfl), ?_⟩
      | (refine ⟨fun _ => ?_, fun _ => ?_⟩ <;> first | (exfalso; omega) | skip)
      | fail
    exact ⟨rfl, ⟨m, rfl, ⟨hhas, fun t ht => htop t (by omega)⟩⟩, k2⟩

set_option maxRecDepth 100000 in
theorem moves_spec {B : Nat} {v u : Value} {H : Heap} {xs ys : List Int} (hB : B ≤ H.n) (hv : Ints H v xs) (hu : Ints H u ys) (hx : check xs = 0) (hy : check ys = 0) (hl : xs.length = ys.length) :
    CallB Tryd.prog B 47 [v, u] H (fun r H' => (∃ m : Nat, r = .tuple #[.int .i64 ((xs.length : Int) - m), .int .i64 0] ∧ Most (dM xs ys xs.length 0) xs.length m) ∧ Keep H H') := by
  have hlx := check_len hx
  refine CV.enter callees false rfl Tryd.func47 rfl ok47 (Nat.le_of_ble_eq_true rfl) hB ?_
  repeat' first
    | refine CO.cons rfl ?_
    | refine CO.nil ?_
    | refine CV.seq ?_
    | refine CV.region callees ?_
    | refine CV.cond ?_
    | refine CV.block ?_
    | refine CV.skip ?_
    | refine CV.exit ?_
    | refine CV.ret ?_
    | refine CV.scope ?_
    | refine CV.draw callees rfl ?_
    | refine CH.cons rfl ?_
    | refine CH.nil ?_
    | refine CO.consG rfl ?_
    | refine CH.consG rfl ?_
    | refine CG.cons rfl ?_
    | refine CG.nil ?_
    | refine CG.consG rfl ?_
    | refine ⟨(rfl : plain _ = true), ?_⟩
    | refine ⟨(rfl : nilOk _ = some _), ?_⟩
    | refine ⟨_, ints_len (by assumption), ?_⟩
    | refine ⟨_, ints_addr (by assumption) (by omega) (by omega), ?_⟩
    | refine ⟨_, ints_load (by assumption) (by omega) (by omega), ?_⟩
    | refine ⟨(⟨by omega, by omega⟩ : inI64 _), ?_⟩
    | refine ⟨_, fun tm ha => step1_max rfl (ev_tmp ha rfl) (ev_tmp ha rfl), ?_⟩
    | refine ⟨_, fun tm ha => step1_min rfl (ev_tmp ha rfl) (ev_tmp ha rfl), ?_⟩
    | (refine ⟨fun _ => ?_, fun _ => ?_⟩ <;> first | (exfalso; omega) | skip)
    | fail
  refine (checkBoth_spec hB hv hu).mono ?_
  rintro r H1 ⟨rfl, rfl⟩
  rw [chk2_of hx hy hl]
  repeat' first
    | refine CO.cons rfl ?_
    | refine CO.nil ?_
    | refine CV.seq ?_
    | refine CV.region callees ?_
    | refine CV.cond ?_
    | refine CV.block ?_
    | refine CV.skip ?_
    | refine CV.exit ?_
    | refine CV.ret ?_
    | refine CV.scope ?_
    | refine CV.draw callees rfl ?_
    | refine CH.cons rfl ?_
    | refine CH.nil ?_
    | refine CO.consG rfl ?_
    | refine CH.consG rfl ?_
    | refine CG.cons rfl ?_
    | refine CG.nil ?_
    | refine CG.consG rfl ?_
    | refine ⟨(rfl : plain _ = true), ?_⟩
    | refine ⟨(rfl : nilOk _ = some _), ?_⟩
    | refine ⟨_, ints_len (by assumption), ?_⟩
    | refine ⟨_, ints_addr (by assumption) (by omega) (by omega), ?_⟩
    | refine ⟨_, ints_load (by assumption) (by omega) (by omega), ?_⟩
    | refine ⟨(⟨by omega, by omega⟩ : inI64 _), ?_⟩
    | refine ⟨_, fun tm ha => step1_max rfl (ev_tmp ha rfl) (ev_tmp ha rfl), ?_⟩
    | refine ⟨_, fun tm ha => step1_min rfl (ev_tmp ha rfl) (ev_tmp ha rfl), ?_⟩
    | (refine ⟨fun _ => ?_, fun _ => ?_⟩ <;> first | (exfalso; omega) | skip)
    | fail
  refine (staying_spec hB hv hu hl hlx.2).mono ?_
  rintro r H2 ⟨⟨m, rfl, hm⟩, k2⟩
  obtain ⟨t, _, _, rfl⟩ := hm.has
  have := pop_le t
  repeat' first
    | refine CO.cons rfl ?_
    | refine CO.nil ?_
    | refine CV.seq ?_
    | refine CV.region callees ?_
    | refine CV.cond ?_
    | refine CV.block ?_
    | refine CV.skip ?_
    | refine CV.exit ?_
    | refine CV.ret ?_
    | refine CV.scope ?_
    | refine CV.draw callees rfl ?_
    | refine CH.cons rfl ?_
    | refine CH.nil ?_
    | refine CO.consG rfl ?_
    | refine CH.consG rfl ?_
    | refine CG.cons rfl ?_
    | refine CG.nil ?_
    | refine CG.consG rfl ?_
    | refine ⟨(rfl : plain _ = true), ?_⟩
    | refine ⟨(rfl : nilOk _ = some _), ?_⟩
    | refine ⟨_, ints_len (by assumption), ?_⟩
    | refine ⟨_, ints_addr (by assumption) (by omega) (by omega), ?_⟩
    | refine ⟨_, ints_load (by assumption) (by omega) (by omega), ?_⟩
    | refine ⟨(⟨by omega, by omega⟩ : inI64 _), ?_⟩
    | refine ⟨_, fun tm ha => step1_max rfl (ev_tmp ha rfl) (ev_tmp ha rfl), ?_⟩
    | refine ⟨_, fun tm ha => step1_min rfl (ev_tmp ha rfl) (ev_tmp ha rfl), ?_⟩
    | (refine ⟨fun _ => ?_, fun _ => ?_⟩ <;> first | (exfalso; omega) | skip)
    | fail
  exact ⟨rfl, ⟨_, rfl, hm⟩, k2⟩
end Go.Proofs.YthcchjmjblegdaaDoor

/- Moves as a distance. -/
namespace Go.Proofs.YthcchjmjblegdaaDoor
open Go.AI
def Agr (a b : List Int) (n s : Nat) : Prop := ∀ i j, i < n → j < n → s.testBit i = true → s.testBit j = true → (a[i]! = a[j]! ↔ b[i]! = b[j]!)
theorem dis_false {a b : List Int} {i j : Nat} : dis a b i j = false ↔ (a[i]! = a[j]! ↔ b[i]! = b[j]!) := by
  unfold dis
  by_cases h1 : a[i]! = a[j]! <;> by_cases h2 : b[i]! = b[j]! <;> simp [h1, h2]
theorem dM_row {a b : List Int} {i : Nat} (h : i < a.length) : dM a b a.length 0 i = dB (dis a b i) a.length := by
  unfold dM; rw [if_pos h]
theorem good_iff {a b : List Int} {s : Nat} : Good (dM a b a.length 0) a.length s ↔ Agr a b a.length s := by
  constructor
  · intro h i j hi hj h1 h2
    have := h i hi h1
    rw [dM_row hi] at this
    have h3 : (s &&& dB (dis a b i) a.length).testBit j = false := by rw [this]; simp
    rw [Nat.testBit_and, dB_bit, h2, decide_eq_true hj, Bool.true_and, Bool.true_and] at h3
    exact dis_false.1 h3
  · intro h i hi h1
    rw [dM_row hi]
    apply Nat.eq_of_testBit_eq
    intro j
    rw [Nat.testBit_and, dB_bit, Nat.zero_testBit]
    by_cases hj : j < a.length
    · cases h2 : s.testBit j with
      | false => rfl
      | true => rw [dis_false.2 (h i j hi hj h1 h2)]; simp
    · rw [decide_eq_false hj]; simp
theorem filter_both {α : Type} (p q : α → Bool) : ∀ l : List α, (l.filter fun x => p x && q x).length + (l.filter fun x => p x || q x).length = (l.filter p).length + (l.filter q).length
  | [] => rfl
  | x :: l => by
    have := filter_both p q l
    simp only [List.filter_cons]
    cases p x <;> cases q x <;> simp <;> omega
theorem pop_both (s t : Nat) : pop (s &&& t) + pop (s ||| t) = pop s + pop t := by
  unfold pop
  have := filter_both (fun i => s.testBit i) (fun i => t.testBit i) (List.range 9)
  simp only [Nat.testBit_and, Nat.testBit_or]
  exact this
theorem pop_in : ((List.range 10).all fun n => (List.range (2 ^ n)).all fun s => decide (pop s ≤ n) && (decide (pop s ≠ n) || (List.range n).all fun i => s.testBit i)) = true := by decide +kernel
theorem pop_le_n {n s : Nat} (hn : n ≤ 9) (hs : s < 2 ^ n) : pop s ≤ n ∧ (pop s = n → ∀ i, i < n → s.testBit i = true) := by
  have h1 := List.all_eq_true.1 (List.all_eq_true.1 pop_in n (List.mem_range.2 (by omega))) s (List.mem_range.2 hs)
  simp only [Bool.and_eq_true, Bool.or_eq_true, decide_eq_true_eq, List.all_eq_true, List.mem_range] at h1
  refine ⟨h1.1, fun h i hi => ?_⟩
  rcases h1.2 with h2 | h2
  · exact absurd h h2
  · exact h2 i hi
theorem full_in : ((List.range 10).all fun n => decide (pop (2 ^ n - 1) = n) && (List.range n).all fun x => decide (pop ((2 ^ n - 1) ^^^ 2 ^ x) + 1 = n) && decide ((2 ^ n - 1) ^^^ 2 ^ x < 2 ^ n) && !((2 ^ n - 1) ^^^ 2 ^ x).testBit x) = true := by decide +kernel
theorem full_pop {n : Nat} (hn : n ≤ 9) : pop (2 ^ n - 1) = n := by
  have h1 := List.all_eq_true.1 full_in n (List.mem_range.2 (by omega))
  simp only [Bool.and_eq_true, decide_eq_true_eq] at h1
  exact h1.1
theorem but_one {n x : Nat} (hn : n ≤ 9) (hx : x < n) : pop ((2 ^ n - 1) ^^^ 2 ^ x) + 1 = n ∧ (2 ^ n - 1) ^^^ 2 ^ x < 2 ^ n ∧ ((2 ^ n - 1) ^^^ 2 ^ x).testBit x = false := by
  have h1 := List.all_eq_true.1 full_in n (List.mem_range.2 (by omega))
  simp only [Bool.and_eq_true, decide_eq_true_eq, List.all_eq_true, List.mem_range, Bool.not_eq_true'] at h1
  have h2 := h1.2 x hx
  exact ⟨h2.1.1, h2.1.2, h2.2⟩

/-- The greatest number of packets that can stay. -/
structure Stay (a b : List Int) (m : Nat) : Prop where
  has : ∃ t, t < 2 ^ a.length ∧ Agr a b a.length t ∧ pop t = m
  top : ∀ t, t < 2 ^ a.length → Agr a b a.length t → pop t ≤ m
theorem Most.stay {a b : List Int} {m : Nat} (h : Most (dM a b a.length 0) a.length m) : Stay a b m :=
  ⟨by obtain ⟨t, h1, h2, h3⟩ := h.has; exact ⟨t, h1, good_iff.1 h2, h3⟩, fun t h1 h2 => h.top t h1 (good_iff.2 h2)⟩
theorem Stay.sym {a b : List Int} {m k : Nat} (hl : a.length = b.length) (h : Stay a b m) (g : Stay b a k) : m = k := by
  obtain ⟨t, h1, h2, h3⟩ := h.has
  obtain ⟨u, g1, g2, g3⟩ := g.has
  have e1 := g.top t (by rw [← hl]; exact h1) (by rw [← hl]; exact fun i j hi hj x y => (h2 i j hi hj x y).symm)
  have e2 := h.top u (by rw [hl]; exact g1) (by rw [hl]; exact fun i j hi hj x y => (g2 i j hi hj x y).symm)
  omega
theorem Stay.le {a b : List Int} {m : Nat} (h9 : a.length ≤ 9) (h : Stay a b m) : m ≤ a.length := by
  obtain ⟨t, h1, _, rfl⟩ := h.has
  exact (pop_le_n h9 h1).1
theorem Stay.pos {a b : List Int} {m : Nat} (h0 : 0 < a.length) (h : Stay a b m) : 1 ≤ m := by
  have := h.top 1 (Nat.one_lt_two_pow (by omega)) (fun i j _ _ h1 h2 => by
    have e : ∀ k, (1 : Nat).testBit k = true → k = 0 := fun k hk => by
      cases k with
      | zero => rfl
      | succ k => simp [Nat.testBit_succ] at hk
    rw [e i h1, e j h2]; exact ⟨fun _ => rfl, fun _ => rfl⟩)
  have h1 : pop 1 = 1 := by decide
  omega
theorem Stay.full {a b : List Int} {m : Nat} (ha : check a = 0) (hb : check b = 0) (hl : a.length = b.length) (h : Stay a b m) : m = a.length ↔ a = b := by
  have h9 := (check_len ha).2
  constructor
  · intro hm
    obtain ⟨t, h1, h2, h3⟩ := h.has
    have h4 := (pop_le_n h9 h1).2 (by omega)
    refine eq_of_fine ha hb hl (fun i j hij hi he => (h2 i j hi (by omega) (h4 i hi) (h4 j (by omega))).1 he) (fun i j hij hi he => (h2 i j (by omega) (by omega) (h4 i (by omega)) (h4 j (by omega))).2 he)
  · intro he
    subst he
    have := h.top (2 ^ a.length - 1) (by have := Nat.two_pow_pos a.length; omega) (fun _ _ _ _ _ _ => Iff.rfl)
    rw [full_pop h9] at this
    have := h.le h9
    omega
theorem Stay.tri {a b c : List Int} {m k l : Nat} (h9 : a.length ≤ 9) (hl : a.length = b.length) (h : Stay a b m) (g : Stay b c k) (f : Stay a c l) : m + k ≤ l + a.length := by
  obtain ⟨t, h1, h2, rfl⟩ := h.has
  obtain ⟨u, g1, g2, rfl⟩ := g.has
  rw [← hl] at g1 g2
  have h3 := f.top (t &&& u) (Nat.and_lt_two_pow _ g1) (fun i j hi hj x y => by
    rw [Nat.testBit_and, Bool.and_eq_true] at x y
    exact (h2 i j hi hj x.1 y.1).trans (g2 i j hi hj x.2 y.2))
  have h4 := pop_both t u
  have h5 := (pop_le_n h9 (Nat.or_lt_two_pow h1 g1)).1
  omega
theorem Stay.moved {a : List Int} {x : Nat} {y : Int} {m : Nat} (h9 : a.length ≤ 9) (hx : x < a.length) (h : Stay a (num (a.set x y) []) m) : a.length ≤ m + 1 := by
  have hb := but_one h9 hx
  have := h.top _ hb.2.1 (fun i j hi hj h1 h2 => by
    have hix : i ≠ x := fun e => by rw [e, hb.2.2] at h1; cases h1
    have hjx : j ≠ x := fun e => by rw [e, hb.2.2] at h2; cases h2
    rw [num_eq (by rw [List.length_set]; exact hi) (by rw [List.length_set]; exact hj)]
    rw [getElem!_pos (a.set x y) i (by rw [List.length_set]; exact hi), getElem!_pos (a.set x y) j (by rw [List.length_set]; exact hj), List.getElem_set_ne (Ne.symm hix), List.getElem_set_ne (Ne.symm hjx), getElem!_pos a i hi, getElem!_pos a j hj])
  omega
end Go.Proofs.YthcchjmjblegdaaDoor

/- What stays when memory is added, by one name for all that stays. -/
namespace Go.Proofs.YthcchjmjblegdaaDoor
open Go.AI
theorem Base.keep {H H' : Heap} (h : Base H) (k : Keep H H') : Base H' := base_keep h k
theorem Base.keepX {b : Nat} {H H' : Heap} (h : Base H) (k : KeepX b H H') (hb : 4 ≤ b) : Base H' :=
  ⟨Nat.le_trans h.1 k.1, fun c o hc => by
    have h1 : c < 4 := (List.getElem?_eq_some_iff.1 hc).1
    rw [k.2 c (Nat.lt_of_lt_of_le h1 h.1) (by omega)]; exact h.2 c o hc⟩
end Go.Proofs.YthcchjmjblegdaaDoor
namespace Go.AI
open Go.Proofs.YthcchjmjblegdaaDoor
theorem slot_int {k : IntKind} {a b : Int} (h : a = b) : Value.int k a = Value.int k b := by rw [h]
theorem Ints.keep {H H' : Heap} {v : Value} {xs : List Int} (h : Ints H v xs) (k : Keep H H') : Ints H' v xs := Row.keep h k
theorem Ints.box {b : Nat} {H H' : Heap} {v : Value} {xs : List Int} (h : Ints H v xs) (k : KeepX b H H') (hb : Box b H) : Ints H' v xs := row_box h k hb
theorem Row.box {b : Nat} {H H' : Heap} {v : Value} {xs : List Value} (h : Row H v xs) (k : KeepX b H H') (hb : Box b H) : Row H' v xs := row_box h k hb
theorem Own.box {b : Nat} {e : TypeId} {H H' : Heap} {v : Value} {vs : List Value} {B : Nat} (h : Own e H v vs B) (k : KeepX b H H') (hb : Box b H) : Own e H' v vs B := own_box h k hb
theorem Own.low {e : TypeId} {H : Heap} {v : Value} {vs : List Value} {B B' : Nat} (h : Own e H v vs B) (hB : B' ≤ B) : Own e H v vs B' := by
  rcases h with h | ⟨b, h1, h2, h3, h4⟩
  · exact .inl h
  · exact .inr ⟨b, h1, Nat.le_trans hB h2, h3, h4⟩
theorem Own.ints {H : Heap} {v : Value} {xs : List Int} {B : Nat} (h : Own 3 H v (xs.map VI) B) : Ints H v xs := h.row
end Go.AI
