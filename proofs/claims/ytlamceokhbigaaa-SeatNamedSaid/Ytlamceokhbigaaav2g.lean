
/- The fewest rules, as it runs. -/
import Derived.Test.Ytlamceokhbigaaav0g
import Derived.Test.Ytlamceokhbigaaau1g
set_option linter.unusedVariables false
set_option linter.unusedSimpArgs false
namespace Go.AI
def zN (a b : Nat) : Nat := (BitVec.ofNat 64 a &&& ~~~ BitVec.ofNat 64 b).toNat
theorem zN_bit {a b j : Nat} (ha : a < 2 ^ 64) : (zN a b).testBit j = (a.testBit j && !b.testBit j) := by
  unfold zN
  rw [BitVec.testBit_toNat, BitVec.getLsbD_and, BitVec.getLsbD_not, BitVec.getLsbD_ofNat, BitVec.getLsbD_ofNat]
  by_cases h : j < 64
  · simp [h]
  · have : a.testBit j = false := Nat.testBit_lt_two_pow (Nat.lt_of_lt_of_le ha (Nat.pow_le_pow_right (by decide) (by omega)))
    simp [this]
end Go.AI
namespace Go.Proofs.Ytlamceokhbigaaa
open Go.AI
theorem zN_zero {a b : Nat} (ha : a < 2 ^ 64) : zN a b = 0 ↔ subN a b = true := by
  rw [zero_bits, subN_iff]
  constructor
  · intro h j hj
    have := h j
    rw [zN_bit ha, hj] at this
    cases hb : b.testBit j with
    | true => rfl
    | false => rw [hb] at this; exact absurd rfl this
  · intro h j hj
    rw [zN_bit ha, Bool.and_eq_true] at hj
    have := h j hj.1
    rw [this] at hj
    exact absurd hj.2 (by decide)
section
variable {P : Program} {tm : Tm} {H : Heap} {q : Oper} {t u : TypeId} {x y : Operand}
theorem andNotU {a b : Nat} (ho : q.op = .binOp .andNot t x y u) (hx : ev P tm x = some (VU (a : Int))) (hy : ev P tm y = some (VU (b : Int))) : step1 P tm H q = some (VU ((zN a b : Nat) : Int), H, H.n) := by
  rw [step1_bits (.inr (.inr (.inr rfl))) ho hx hy rfl rfl]
  have e : IntKind.wrap .u64 ((BitVec.ofInt (IntKind.bits .u64) (a : Int) &&& ~~~ BitVec.ofInt (IntKind.bits .u64) (b : Int)).toNat) = ((zN a b : Nat) : Int) := by
    rw [show IntKind.bits .u64 = 64 from rfl, bvN, bvN]
    exact wrapN (BitVec.isLt _)
  rw [← e]
end
abbrev uS : TypeId := 115
abbrev uT : TypeId := 97
theorem unU : Try.prog.underlying uS = some (.slice uT) := by kernel_rfl
theorem szU : sizeB Try.prog uT = some 1 := by kernel_rfl
theorem agU : isAggB Try.prog uT = some false := by kernel_rfl
theorem oneU : oneBB Try.prog uT = some (VU 0, 8) := by kernel_rfl
abbrev UL (A : List Nat) : List Value := A.map fun (a : Nat) => VU (a : Int)
theorem ul_at {A : List Nat} {i : Nat} (h : i < A.length) : (UL A)[i]? = some (VU (A[i]! : Int)) := by
  rw [List.getElem?_map, List.getElem?_eq_getElem h, getElem!_pos A i h]; rfl
theorem ul_len {H : Heap} {v : Value} {A : List Nat} (h : Row H v (UL A)) : alen Try.prog H uS v = some (VI A.length) := by
  have := Row.alen h unU; rwa [List.length_map] at this
theorem ul_addr {H : Heap} {v : Value} {A : List Nat} (h : Row H v (UL A)) {i : Int} (h0 : 0 ≤ i) (h1 : i < A.length) : aindexAddr Try.prog uS v (.int .i64 i) = some (elemAt v i.toNat) := Row.addr h unU szU h0 (by rw [List.length_map]; exact h1)
theorem ul_load {H : Heap} {v : Value} {A : List Nat} (h : Row H v (UL A)) {i : Nat} (h1 : i < A.length) : aload Try.prog uT H (elemAt v i) = some (VU (A[i]! : Int)) := Row.load h agU (ul_at h1)
set_option maxHeartbeats 16000000 in
set_option maxRecDepth 100000 in
theorem fewestP_spec {B St : Nat} {H : Heap} {av : Value} {A : List Nat} (hB : B ≤ H.n) (ha : Row H av (UL A)) (hS : St < 2 ^ 12) (hAl : A.length < 1000000) (hA : ∀ a ∈ A, a < 2 ^ 12) :
    CallB Try.prog B 85 [VU St, av] H (fun r H' => Own 3 H' r ((fewK St 12 A St).map VI) H.n ∧ Keep H H') := by
  have hlen : ∀ K, (fewK St 12 A K).length ≤ 12 := by
    intro K
    induction K with
    | zero => exact bitsL_len
    | succ K ih =>
      unfold fewK
      split
      · exact bitsL_len
      · exact ih
  refine CV.enter callees false rfl Try.func85 rfl (by kernel_rfl) (Nat.le_of_ble_eq_true rfl) hB ?_
  repeat' first
    | refine CO.cons rfl ?_
    | refine CO.nil ?_
    | refine CV.seq ?_
    | refine CV.region callees ?_
    | refine CV.scope ?_
    | fail
  refine (list2_spec (by omega) (show St < 2 ^ 32 by omega)).mono ?_
  rintro v H1 ⟨⟨i, hi, hz, hq1⟩, k1⟩
  rw [bits_stop hz (shr_zero hS)] at hq1
  have l1 := k1.1
  repeat' first
    | refine CO.cons rfl ?_
    | refine CO.nil ?_
    | refine CV.seq ?_
    | fail
  refine CV.label ?_
  repeat' first
    | refine CO.cons rfl ?_
    | refine CO.nil ?_
    | refine CV.seq ?_
    | refine CV.region callees ?_
    | refine CV.block ?_
    | fail
  refine CV.loopc ?_
  refine WCv.rounds callees false (α := Nat × Value) (fun (k, q) => [(0, VU (St : Int)), (1, av), (5, q), (12, VU (St : Int)), (13, VU (k : Int))]) (fun (k, q) Hz => k ≤ St ∧ Own 3 Hz q ((fewK St 12 A k).map VI) H.n ∧ Keep H Hz) (fun (k, q) => St - k) (0, v) (by repeat' first | exact trivial | refine ⟨rfl, ?_⟩ | refine ⟨slot_int (by (try simp only [Int.toNat_natCast]); omega), ?_⟩) ?_ ?_
  · exact ⟨by omega, hq1, k1⟩
  rintro ⟨k, q⟩ Hx ⟨hk, hq, kx⟩ hBx
  have lx := kx.1
  have hax : Row Hx av (UL A) := Row.keep ha kx
  by_cases hk2 : k < St
  · have hst : fewK St 12 A (k + 1) = if chK St A k = true ∧ cfL (bitsL k 12) (fewK St 12 A k) = true then bitsL k 12 else fewK St 12 A k := rfl
    have hch : chK St A k = (subN k St && hitA A k) := rfl
    have same : ¬ (chK St A k = true ∧ cfL (bitsL k 12) (fewK St 12 A k) = true) → fewK St 12 A (k + 1) = fewK St 12 A k := fun hc => by rw [hst, if_neg hc]
    have new : chK St A k = true ∧ cfL (bitsL k 12) (fewK St 12 A k) = true → fewK St 12 A (k + 1) = bitsL k 12 := fun hc => by rw [hst, if_pos hc]
    clear hst
    have fin : ∀ {H' : Heap}, Keep Hx H' → fewK St 12 A (k + 1) = fewK St 12 A k → k + 1 ≤ St ∧ Own 3 H' q ((fewK St 12 A (k + 1)).map VI) H.n ∧ Keep H H' := fun {H'} h1 e => ⟨by omega, by rw [e]; exact Own.keep hq h1, kx.trans h1⟩
    have hzz := zN_zero (a := k) (b := St) (by omega)
    generalize hzE : zN k St = z at hzz
    by_cases hz0 : z = 0
    rotate_left
    · have hns : subN k St = false := by
        cases e : subN k St with
        | false => rfl
        | true => exact absurd (hzz.2 e) hz0
      repeat' first
        | refine CO.cons rfl ?_
        | refine CO.nil ?_
        | refine CV.seq ?_
        | refine CV.region callees ?_
        | refine CV.cond ?_
        | refine CV.block ?_
        | refine CV.skip ?_
        | refine CV.exit ?_
        | (refine ⟨_, fun tm ha => andNotU rfl (ev_tmp ha rfl) (ev_tmp ha rfl), ?_⟩)
        | (rw [hzE])
        | (refine ⟨fun _ => ?_, fun _ => ?_⟩ <;> first | (exfalso; omega) | skip)
        | fail
      intro rr hrr
      obtain rfl : rr = ((k + 1 : Nat) : Int) := by rw [hrr]; exact wrapU (by omega) (by omega)
      repeat' first
        | refine CO.cons rfl ?_
        | refine CO.nil ?_
        | fail
      refine ⟨(k + 1, q), (by repeat' first | exact trivial | refine ⟨rfl, ?_⟩ | refine ⟨slot_int (by (try simp only [Int.toNat_natCast]); omega), ?_⟩), (by (try dsimp only); omega), ?_⟩
      exact fin (Keep.refl _) (same fun hc => by rw [hch, hns] at hc; exact absurd hc.1 Bool.false_ne_true)
    have hsub := hzz.1 hz0
    repeat' first
      | refine CO.cons rfl ?_
      | refine CO.nil ?_
      | refine CV.seq ?_
      | refine CV.region callees ?_
      | refine CV.cond ?_
      | refine CV.block ?_
      | refine CV.skip ?_
      | (refine ⟨_, fun tm ha => andNotU rfl (ev_tmp ha rfl) (ev_tmp ha rfl), ?_⟩)
      | (rw [hzE])
      | (refine ⟨_, ul_len hax, ?_⟩)
      | (refine ⟨fun _ => ?_, fun _ => ?_⟩ <;> first | (exfalso; omega) | skip)
      | fail
    refine CV.loopc ?_
    refine WCv.rounds callees false (α := Nat) (fun i => [(0, VU (St : Int)), (1, av), (5, q), (6, VU (k : Int)), (12, VU (St : Int)), (13, VU (k : Int)), (20, av), (21, VI A.length), (22, VI i)]) (fun i Hz => i ≤ A.length ∧ (∀ j, j < i → (k &&& A[j]!) ≠ 0) ∧ Hz = Hx) (fun i => A.length - i) (0) (by repeat' first | exact trivial | refine ⟨rfl, ?_⟩ | refine ⟨slot_int (by (try simp only [Int.toNat_natCast]); omega), ?_⟩) ?_ ?_
    · exact ⟨by omega, fun j hj => by omega, rfl⟩
    rintro i Hw ⟨hi, hw, rfl⟩ hBw
    by_cases hi2 : i < A.length
    · have hm : A[i]! ∈ A := by rw [getElem!_pos A i hi2]; exact List.getElem_mem _
      have hab := hA _ hm
      have hld := ul_load hax hi2
      generalize hai : A[i]! = a at hm hab hld
      obtain ⟨z2, hz2⟩ : ∃ z, k &&& a = z := ⟨_, rfl⟩
      by_cases h0 : z2 = 0
      · repeat' first
          | refine CO.cons rfl ?_
          | refine CO.nil ?_
          | refine CV.seq ?_
          | refine CV.region callees ?_
          | refine CV.cond ?_
          | refine CV.block ?_
          | refine CV.skip ?_
          | refine CV.exit ?_
          | (refine ⟨_, ul_addr hax (by omega) (by omega), ?_⟩)
          | (refine ⟨_, hld, ?_⟩)
          | (refine ⟨_, fun tm ha => andUu rfl (ev_tmp ha rfl) (ev_tmp ha rfl) (by omega) (by omega), ?_⟩)
          | (rw [hz2])
          | (refine ⟨fun _ => ?_, fun _ => ?_⟩ <;> first | (exfalso; omega) | skip)
          | fail
        intro rr hrr
        obtain rfl : rr = ((k + 1 : Nat) : Int) := by rw [hrr]; exact wrapU (by omega) (by omega)
        repeat' first
          | refine CO.cons rfl ?_
          | refine CO.nil ?_
          | fail
        refine ⟨(k + 1, q), (by repeat' first | exact trivial | refine ⟨rfl, ?_⟩ | refine ⟨slot_int (by (try simp only [Int.toNat_natCast]); omega), ?_⟩), (by (try dsimp only); omega), ?_⟩
        refine fin (Keep.refl _) (same fun hc => ?_)
        rw [hch, hsub, Bool.true_and] at hc
        have h1 := hc.1
        unfold hitA at h1
        rw [List.all_eq_true] at h1
        have h2 := h1 a hm
        rw [hz2, h0] at h2
        exact absurd h2 (by decide)
      · repeat' first
          | refine CO.cons rfl ?_
          | refine CO.nil ?_
          | refine CV.seq ?_
          | refine CV.region callees ?_
          | refine CV.cond ?_
          | refine CV.block ?_
          | refine CV.skip ?_
          | refine ⟨(⟨by omega, by omega⟩ : inI64 _), ?_⟩
          | (refine ⟨_, ul_addr hax (by omega) (by omega), ?_⟩)
          | (refine ⟨_, hld, ?_⟩)
          | (refine ⟨_, fun tm ha => andUu rfl (ev_tmp ha rfl) (ev_tmp ha rfl) (by omega) (by omega), ?_⟩)
          | (rw [hz2])
          | (refine ⟨fun _ => ?_, fun _ => ?_⟩ <;> first | (exfalso; omega) | skip)
          | fail
        refine ⟨(i + 1), (by repeat' first | exact trivial | refine ⟨rfl, ?_⟩ | refine ⟨slot_int (by (try simp only [Int.toNat_natCast]); omega), ?_⟩), (by (try dsimp only); omega), ?_⟩
        refine ⟨by omega, fun j hj => ?_, rfl⟩
        by_cases e : j = i
        · rw [e, hai, hz2]; exact h0
        · exact hw j (by omega)
    obtain rfl : i = A.length := by omega
    have hit : hitA A k = true := by
      unfold hitA
      rw [List.all_eq_true]
      intro a ha2
      obtain ⟨j, hj, e⟩ := List.getElem_of_mem ha2
      have := hw j hj
      rw [getElem!_pos A j hj, e] at this
      exact bne_iff_ne.2 this
    have hck : chK St A k = true := by rw [hch, hsub, hit]; rfl
    repeat' first
      | refine CO.cons rfl ?_
      | refine CO.nil ?_
      | refine CV.seq ?_
      | refine CV.region callees ?_
      | refine CV.cond ?_
      | refine CV.exit ?_
      | (refine ⟨fun _ => ?_, fun _ => ?_⟩ <;> first | (exfalso; omega) | skip)
      | fail
    refine (list2_spec (by omega) (show k < 2 ^ 32 by omega)).mono ?_
    rintro v2 H2 ⟨⟨i2, hi2, hz2, hq2⟩, k2⟩
    rw [bits_stop hz2 (shr_zero (show k < 2 ^ 12 by omega))] at hq2
    have l2 := k2.1
    have hll : (bitsL k 12).length ≤ 12 := bitsL_len
    have hfl := hlen k
    repeat' first
      | refine CO.cons rfl ?_
      | refine CO.nil ?_
      | refine CV.seq ?_
      | refine CV.region callees ?_
      | fail
    refine (comesFirst_spec (by omega) hq2.row (Own.keep hq k2).row (by omega) (by omega)).mono ?_
    generalize hcf : cfL (bitsL k 12) (fewK St 12 A k) = cf
    rintro r H5 ⟨rfl, k5⟩
    have l5 := k5.1
    cases cf
    · repeat' first
        | refine CO.cons rfl ?_
        | refine CO.nil ?_
        | refine CV.region callees ?_
        | refine CV.cond ?_
        | refine CV.skip ?_
        | fail
      intro rr hrr
      obtain rfl : rr = ((k + 1 : Nat) : Int) := by rw [hrr]; exact wrapU (by omega) (by omega)
      repeat' first
        | refine CO.cons rfl ?_
        | refine CO.nil ?_
        | fail
      refine ⟨(k + 1, q), (by repeat' first | exact trivial | refine ⟨rfl, ?_⟩ | refine ⟨slot_int (by (try simp only [Int.toNat_natCast]); omega), ?_⟩), (by (try dsimp only); omega), ?_⟩
      exact fin (k2.trans k5) (same fun hc => by rw [hcf] at hc; exact absurd hc.2 Bool.false_ne_true)
    · repeat' first
        | refine CO.cons rfl ?_
        | refine CO.nil ?_
        | refine CV.region callees ?_
        | refine CV.cond ?_
        | fail
      intro rr hrr
      obtain rfl : rr = ((k + 1 : Nat) : Int) := by rw [hrr]; exact wrapU (by omega) (by omega)
      repeat' first
        | refine CO.cons rfl ?_
        | refine CO.nil ?_
        | fail
      refine ⟨(k + 1, v2), (by repeat' first | exact trivial | refine ⟨rfl, ?_⟩ | refine ⟨slot_int (by (try simp only [Int.toNat_natCast]); omega), ?_⟩), (by (try dsimp only); omega), ?_⟩
      exact ⟨by omega, by rw [new ⟨hck, hcf⟩]; exact Own.lower (Own.keep hq2 k5) (by omega), (kx.trans k2).trans k5⟩
  obtain rfl : k = St := by omega
  repeat' first
    | refine CO.cons rfl ?_
    | refine CO.nil ?_
    | refine CV.seq ?_
    | refine CV.region callees ?_
    | refine CV.cond ?_
    | refine CV.exit ?_
    | refine CV.ret ?_
    | (refine ⟨fun _ => ?_, fun _ => ?_⟩ <;> first | (exfalso; omega) | skip)
    | fail
  exact ⟨by simp only [List.all_cons, List.all_nil, hq.notTuple]; rfl, hq, kx⟩
end Go.Proofs.Ytlamceokhbigaaa

