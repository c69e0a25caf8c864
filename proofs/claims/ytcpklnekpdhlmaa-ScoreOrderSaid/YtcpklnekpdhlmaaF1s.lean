
/- Bits. -/
import Derived.Test.YtcpklnekpdhlmaaB6s
import Derived.Test.YtcpklnekpdhlmaaX4
set_option linter.unusedVariables false
set_option linter.unusedSimpArgs false
namespace Go.Proofs.Ytcpklnekpdhlmaa
open Go.AI
theorem wrapN {n : Nat} (h : n < 2 ^ 64) : IntKind.wrap .u64 (n : Int) = n := by
  have h2 : (2 : Nat) ^ 64 = 18446744073709551616 := by decide
  exact wrapU (by omega) (by omega)
theorem bvN {n : Nat} : BitVec.ofInt 64 (n : Int) = BitVec.ofNat 64 n := by
  apply BitVec.eq_of_toNat_eq
  rw [BitVec.toNat_ofInt, BitVec.toNat_ofNat]
  omega
theorem andN {a b : Nat} (ha : a < 2 ^ 64) (hb : b < 2 ^ 64) : IntKind.wrap .u64 ((BitVec.ofInt (IntKind.bits .u64) (a : Int) &&& BitVec.ofInt (IntKind.bits .u64) (b : Int)).toNat) = ((a &&& b : Nat) : Int) := by
  rw [show IntKind.bits .u64 = 64 from rfl, bvN, bvN, BitVec.toNat_and, BitVec.toNat_ofNat, BitVec.toNat_ofNat, Nat.mod_eq_of_lt ha, Nat.mod_eq_of_lt hb]
  exact wrapN (Nat.lt_of_le_of_lt Nat.and_le_left ha)
theorem orN {a b : Nat} (ha : a < 2 ^ 64) (hb : b < 2 ^ 64) : IntKind.wrap .u64 ((BitVec.ofInt (IntKind.bits .u64) (a : Int) ||| BitVec.ofInt (IntKind.bits .u64) (b : Int)).toNat) = ((a ||| b : Nat) : Int) := by
  rw [show IntKind.bits .u64 = 64 from rfl, bvN, bvN, BitVec.toNat_or, BitVec.toNat_ofNat, BitVec.toNat_ofNat, Nat.mod_eq_of_lt ha, Nat.mod_eq_of_lt hb]
  exact wrapN (Nat.or_lt_two_pow ha hb)
theorem shrN {a : Nat} {i : Int} (h0 : 0 ≤ i) (h1 : i < 64) : (a : Int).fdiv (2 ^ (min i.toNat (IntKind.bits .u64))) = ((a >>> i.toNat : Nat) : Int) := by
  rw [show IntKind.bits .u64 = 64 from rfl, Nat.min_eq_left (by omega), Int.fdiv_eq_ediv_of_nonneg _ (Int.pow_nonneg (by decide)), Nat.shiftRight_eq_div_pow]
  simp
theorem shlN {i : Int} (h0 : 0 ≤ i) (h1 : i < 64) : IntKind.wrap .u64 (1 * 2 ^ (min i.toNat (IntKind.bits .u64))) = ((1 <<< i.toNat : Nat) : Int) := by
  rw [show IntKind.bits .u64 = 64 from rfl, Nat.min_eq_left (by omega), Nat.one_shiftLeft]
  have := wrapN (n := 2 ^ i.toNat) (Nat.pow_lt_pow_right (by decide) (by omega))
  simpa using this

/-- How many bits there are. -/
def pop (s : Nat) : Nat := ((List.range 9).filter fun i => s.testBit i).length
def andU (a b : Int) : Int := IntKind.wrap .u64 ((BitVec.ofInt (IntKind.bits .u64) a &&& BitVec.ofInt (IntKind.bits .u64) b).toNat)
def addU (a b : Int) : Int := IntKind.wrap .u64 (a + b)
def shrU (a : Int) (n : Nat) : Int := a.fdiv (2 ^ (min n (IntKind.bits .u64)))
def oc (x : Int) : Int :=
  let x1 := addU (andU (shrU x 1) 6148914691236517205) (andU x 6148914691236517205)
  let x2 := addU (andU (shrU x1 2) 3689348814741910323) (andU x1 3689348814741910323)
  let x3 := andU (addU (shrU x2 4) x2) 1085102592571150095
  let x4 := addU x3 (shrU x3 8)
  let x5 := addU x4 (shrU x4 16)
  let x6 := addU x5 (shrU x5 32)
  IntKind.wrap .i64 ((BitVec.ofInt (IntKind.bits .i64) (IntKind.wrap .i64 x6) &&& BitVec.ofInt (IntKind.bits .i64) 127).toNat)
theorem oc_all : (List.range 512).all (fun n => decide (oc (n : Int) = (pop n : Int))) = true := by decide +kernel
theorem oc_pop {n : Nat} (h : n < 512) : oc (n : Int) = (pop n : Int) := by
  have := List.all_eq_true.1 oc_all n (List.mem_range.2 h)
  simpa using this

set_option maxHeartbeats 1000000 in
set_option maxRecDepth 100000 in
theorem ones64_spec {B : Nat} {H : Heap} {x : Int} (hn : B ≤ H.n) :
    CallB Try.prog B 105 [.int .u64 x] H (fun r H' => r = .int .i64 (oc x) ∧ H' = H) := by
  refine CV.enter callees false rfl Try.func105 rfl (by kernel_rfl) (Nat.le_of_ble_eq_true rfl) hn ?_
  repeat' first
    | refine CO.cons rfl ?_
    | refine CO.nil ?_
    | refine CV.seq ?_
    | refine CV.region callees ?_
    | refine CV.cond ?_
    | refine CV.block ?_
    | refine CV.skip ?_
    | refine CV.exit ?_
    | refine CV.ret ?_
    | refine CV.scope ?_
    | refine CV.draw callees rfl ?_
    | refine CH.cons rfl ?_
    | refine CH.nil ?_
    | refine CO.consG rfl ?_
    | refine CH.consG rfl ?_
    | refine CG.cons rfl ?_
    | refine CR.cons ?_
    | refine CR.nil ?_
    | refine CG.nil ?_
    | refine CG.consG rfl ?_
    | refine ⟨(rfl : plain _ = true), ?_⟩
    | refine ⟨(rfl : nilOk _ = some _), ?_⟩
    | refine ⟨_, ints_len (by assumption), ?_⟩
    | refine ⟨_, ints_addr (by assumption) (by omega) (by omega), ?_⟩
    | refine ⟨_, ints_load (by assumption) (by omega) (by omega), ?_⟩
    | refine ⟨(⟨by omega, by omega⟩ : inI64 _), ?_⟩
    | refine ⟨_, fun tm ha => step1_max rfl (ev_tmp ha rfl) (ev_tmp ha rfl), ?_⟩
    | refine ⟨_, fun tm ha => step1_min rfl (ev_tmp ha rfl) (ev_tmp ha rfl), ?_⟩
    | (intro _ hr; subst hr)
    | refine ⟨_, fun tm ha => step1_shr rfl (ev_tmp ha rfl) rfl (by decide), ?_⟩
    | refine ⟨_, fun tm ha => step1_bits (.inr (.inl rfl)) rfl (ev_tmp ha rfl) rfl rfl rfl, ?_⟩
    | refine ⟨_, fun tm ha => step1_conv un72 un3 rfl (ev_tmp ha rfl), ?_⟩
    | (refine ⟨fun _ => ?_, fun _ => ?_⟩ <;> first | (exfalso; omega) | skip)
    | fail
  exact ⟨rfl, rfl, rfl⟩
set_option maxRecDepth 100000 in
theorem ones_spec {B : Nat} {H : Heap} {s : Nat} (hn : B ≤ H.n) (hs : s < 512) :
    CallB Try.prog B 90 [.int .u64 s] H (fun r H' => r = .int .i64 (pop s) ∧ H' = H) := by
  refine CV.enter callees false rfl Try.func90 rfl (by kernel_rfl) (Nat.le_of_ble_eq_true rfl) hn ?_
  repeat' first
    | refine CO.cons rfl ?_
    | refine CO.nil ?_
    | refine CV.seq ?_
    | refine CV.region callees ?_
    | refine CV.cond ?_
    | refine CV.block ?_
    | refine CV.skip ?_
    | refine CV.exit ?_
    | refine CV.ret ?_
    | refine CV.scope ?_
    | refine CV.draw callees rfl ?_
    | refine CH.cons rfl ?_
    | refine CH.nil ?_
    | refine CO.consG rfl ?_
    | refine CH.consG rfl ?_
    | refine CG.cons rfl ?_
    | refine CR.cons ?_
    | refine CR.nil ?_
    | refine CG.nil ?_
    | refine CG.consG rfl ?_
    | refine ⟨(rfl : plain _ = true), ?_⟩
    | refine ⟨(rfl : nilOk _ = some _), ?_⟩
    | refine ⟨_, ints_len (by assumption), ?_⟩
    | refine ⟨_, ints_addr (by assumption) (by omega) (by omega), ?_⟩
    | refine ⟨_, ints_load (by assumption) (by omega) (by omega), ?_⟩
    | refine ⟨(⟨by omega, by omega⟩ : inI64 _), ?_⟩
    | refine ⟨_, fun tm ha => step1_max rfl (ev_tmp ha rfl) (ev_tmp ha rfl), ?_⟩
    | refine ⟨_, fun tm ha => step1_min rfl (ev_tmp ha rfl) (ev_tmp ha rfl), ?_⟩
    | (refine (ones64_spec hn).mono ?_; rintro r H' ⟨rfl, rfl⟩)
    | (refine ⟨fun _ => ?_, fun _ => ?_⟩ <;> first | (exfalso; omega) | skip)
    | fail
  exact ⟨rfl, by rw [oc_pop hs], rfl⟩
end Go.Proofs.Ytcpklnekpdhlmaa
