
/- Rules that must be kept; prices. -/
import Derived.Test.YtlamceokhbigaaaT8g
set_option linter.unusedVariables false
set_option linter.unusedSimpArgs false
namespace Go.Proofs.Ytlamceokhbigaaa
open Go.AI
/-- The first rules that must be kept, as bits. -/
def strN (rs : List Ru) : Nat → Nat
  | 0 => 0
  | i + 1 => bif rs[i]!.wt == 0 then setB (strN rs i) i else strN rs i
theorem strN_lt {rs : List Ru} : ∀ i, strN rs i < 2 ^ i
  | 0 => by simp [strN]
  | i + 1 => by
    have h := strN_lt (rs := rs) i
    have h2 : 2 ^ i < 2 ^ (i + 1) := Nat.pow_lt_pow_right (by decide) (by omega)
    unfold strN
    cases rs[i]!.wt == 0 with
    | true => exact Nat.or_lt_two_pow (Nat.lt_trans h h2) h2
    | false => exact Nat.lt_trans h h2
set_option maxHeartbeats 8000000 in
set_option maxRecDepth 100000 in
theorem must_spec {B : Nat} {H : Heap} {gv rv : Value} {gs : List Gu} {rs : List Ru} (hB : B ≤ H.n) (hg : RowS 5 H gv (gs.map Gul)) (hr : RowS 4 H rv (rs.map Rul)) (hm : rs.length ≤ 20) :
    CallB Try.prog B 83 [Pav gv rv] H (fun v H' => v = VU ((strN rs rs.length : Nat) : Int) ∧ Keep H H') := by
  refine CV.enter callees false rfl Try.func83 rfl (by kernel_rfl) (Nat.le_of_ble_eq_true rfl) hB ?_
  repeat' first
    | refine CO.cons rfl ?_
    | refine CV.seq ?_
    | refine CV.region callees ?_
    | fail
  refine ⟨(by simp only [notTuple]), ?_⟩
  rw [boxP hg.cells.1 hr.cells.1]
  generalize hs0 : Heap.new H _ = H0
  have hg0 := new_get hs0
  have k0 := new_keep hs0
  have n0 := new_n hs0
  obtain ⟨b0, hbn0⟩ : ∃ b, Heap.n H = b := ⟨_, rfl⟩
  rw [hbn0] at hg0 n0 ⊢
  have hr0 := hr.keep k0
  repeat' first
    | refine CO.cons rfl ?_
    | refine CO.nil ?_
    | refine CV.seq ?_
    | refine CV.region callees ?_
    | refine CV.block ?_
    | (refine ⟨_, fS foP1 (by decide), ?_⟩)
    | (refine ⟨_, cell_load ag23r hg0 rfl, ?_⟩)
    | (refine ⟨_, rs_len hr0, ?_⟩)
    | fail
  refine CV.loopc ?_
  refine WCv.rounds callees false (α := Nat × Nat) (fun (i, N) => [(3, VU (N : Int)), (7, rv), (8, VI rs.length), (9, VI i)]) (fun (i, N) Hz => i ≤ rs.length ∧ N = strN rs i ∧ Keep H Hz) (fun (i, N) => rs.length - i) (0, 0) (by repeat' first | exact trivial | refine ⟨rfl, ?_⟩ | refine ⟨slot_int (by (try simp only [Int.toNat_natCast]); omega), ?_⟩) ?_ ?_
  · exact ⟨by omega, rfl, k0⟩
  rintro ⟨i, N⟩ Hx ⟨hi, rfl, kx⟩ hBx
  have lx := kx.1
  have hrx := hr.keep kx
  by_cases hi2 : i < rs.length
  · have hIt : (i : Int).toNat = i := by omega
    have hN1 : strN rs i < 2 ^ 64 := Nat.lt_of_lt_of_le (strN_lt i) (Nat.pow_le_pow_right (by decide) (by omega))
    have hI1 : 2 ^ (i : Int).toNat < 2 ^ 64 := Nat.pow_lt_pow_right (by decide) (by omega)
    repeat' first
      | refine CO.cons rfl ?_
      | refine CO.nil ?_
      | refine CV.seq ?_
      | refine CV.region callees ?_
      | refine CV.cond ?_
      | refine CV.block ?_
      | refine CV.skip ?_
      | (refine ⟨_, rs_addr hrx (by omega) (by omega), ?_⟩)
      | (refine ⟨_, rs_load hrx hi2, ?_⟩)
      | (refine ⟨_, _, al81, ?_⟩)
      | (refine ⟨fun _ => ?_, fun _ => ?_⟩ <;> first | (exfalso; omega) | skip)
      | fail
    generalize hs4 : Heap.new Hx _ = H4
    have hg4 := new_get hs4
    have k4 := new_keep hs4
    have n4 := new_n hs4
    obtain ⟨b4, hbn4⟩ : ∃ b, Heap.n Hx = b := ⟨_, rfl⟩
    rw [hbn4] at hg4 n4 ⊢
    repeat' first
      | fail
    refine ⟨_, _, st81 hg4, by omega, ?_⟩
    generalize hs5 : Heap.set H4 b4 _ = H5
    have hg5 : H5.get b4 = some (.cells (Rul rs[i]!) 81 1) := set_get hs5
    have n5 := set_n hs5
    have o5 := set_old hs5
    have k5 : Keep Hx H5 := keep_put k4 (by omega) o5 n5
    obtain ⟨w, hw⟩ : ∃ w, rs[i]!.wt = w := ⟨_, rfl⟩
    have hl := cell_load (i := 0 + 3) ag3 hg5 (rfl : (Rul rs[i]!)[3]? = some (VI rs[i]!.wt))
    rw [hw] at hl
    by_cases hz : w = 0
    · repeat' first
        | refine CO.cons rfl ?_
        | refine CO.nil ?_
        | refine CV.seq ?_
        | refine CV.region callees ?_
        | refine CV.cond ?_
        | refine ⟨(⟨by omega, by omega⟩ : inI64 _), ?_⟩
        | (refine ⟨_, fS foR3 (by decide), ?_⟩)
        | (refine ⟨_, hl, ?_⟩)
        | (refine ⟨_, fun tm ha => shlU rfl rfl (ev_tmp ha rfl) (by omega) (by omega), ?_⟩)
        | (refine ⟨_, fun tm ha => orU rfl (ev_tmp ha rfl) (ev_tmp ha rfl) hN1 hI1, ?_⟩)
        | (refine ⟨fun _ => ?_, fun _ => ?_⟩ <;> first | (exfalso; omega) | skip)
        | fail
      refine ⟨(i + 1, setB (strN rs i) (i : Int).toNat), (by repeat' first | exact trivial | refine ⟨rfl, ?_⟩ | refine ⟨slot_int (by (try simp only [Int.toNat_natCast]); omega), ?_⟩), (by (try dsimp only); omega), ?_⟩
      exact ⟨by omega, by simp only [strN, hw, hz, hIt, beq_self_eq_true, cond_true], kx.trans k5⟩
    · repeat' first
        | refine CO.cons rfl ?_
        | refine CO.nil ?_
        | refine CV.seq ?_
        | refine CV.region callees ?_
        | refine CV.cond ?_
        | refine CV.skip ?_
        | refine ⟨(⟨by omega, by omega⟩ : inI64 _), ?_⟩
        | (refine ⟨_, fS foR3 (by decide), ?_⟩)
        | (refine ⟨_, hl, ?_⟩)
        | (refine ⟨fun _ => ?_, fun _ => ?_⟩ <;> first | (exfalso; omega) | skip)
        | fail
      refine ⟨(i + 1, strN rs i), (by repeat' first | exact trivial | refine ⟨rfl, ?_⟩ | refine ⟨slot_int (by (try simp only [Int.toNat_natCast]); omega), ?_⟩), (by (try dsimp only); omega), ?_⟩
      exact ⟨by omega, by simp only [strN, hw, beq_eq_false_iff_ne.2 hz, cond_false], kx.trans k5⟩
  obtain rfl : i = rs.length := by omega
  repeat' first
    | refine CO.cons rfl ?_
    | refine CO.nil ?_
    | refine CV.seq ?_
    | refine CV.region callees ?_
    | refine CV.cond ?_
    | refine CV.exit ?_
    | refine CV.ret ?_
    | (refine ⟨fun _ => ?_, fun _ => ?_⟩ <;> first | (exfalso; omega) | skip)
    | fail
  exact ⟨rfl, rfl, kx⟩
/-- Whether a number is one of the bits. -/
def hasN (N i : Nat) : Bool := (N >>> i) &&& 1 == 1
set_option maxRecDepth 100000 in
theorem hasB_spec {B : Nat} {H : Heap} {N i : Nat} (hB : B ≤ H.n) (hN : N < 2 ^ 64) (hi : i < 64) :
    CallB Try.prog B 120 [VU N, VI i] H (fun v H' => v = .bool (hasN N i) ∧ H' = H) := by
  have hs : N >>> (i : Int).toNat < 2 ^ 64 := Nat.lt_of_le_of_lt (by rw [Nat.shiftRight_eq_div_pow]; exact Nat.div_le_self _ _) hN
  have hIt : (i : Int).toNat = i := by omega
  refine CV.enter callees false rfl Try.func120 rfl (by kernel_rfl) (Nat.le_of_ble_eq_true rfl) hB ?_
  repeat' first
    | refine CO.cons rfl ?_
    | refine CO.nil ?_
    | refine CV.seq ?_
    | refine CV.region callees ?_
    | refine CV.ret ?_
    | (refine ⟨_, fun tm ha => shrUu rfl (ev_tmp ha rfl) (ev_tmp ha rfl) (by omega) (by omega), ?_⟩)
    | (refine ⟨_, fun tm ha => andUu (b := 1) rfl (ev_tmp ha rfl) rfl hs (by decide), ?_⟩)
    | (refine ⟨fun _ => ?_, fun _ => ?_⟩ <;> first | (exfalso; omega) | skip)
    | fail
  all_goals
    rename_i h
    refine ⟨rfl, ?_, rfl⟩
    rw [hIt] at h
    unfold hasN
    congr 1
    symm
    first
      | (rw [beq_iff_eq]; omega)
      | (rw [beq_eq_false_iff_ne]; omega)
end Go.Proofs.Ytlamceokhbigaaa

