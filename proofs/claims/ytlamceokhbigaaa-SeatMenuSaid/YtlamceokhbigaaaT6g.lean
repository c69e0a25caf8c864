
/- The rules that an order does not keep. -/
import Derived.Test.YtlamceokhbigaaaT5g
set_option linter.unusedVariables false
set_option linter.unusedSimpArgs false
namespace Go.Proofs.Ytlamceokhbigaaa
open Go.AI
set_option maxRecDepth 100000 in
theorem isByRank1_spec {B : Nat} {H : Heap} {x y : Int} (hB : B ≤ H.n) :
    CallB Try.prog B 149 [VI x, VI y] H (fun v H' => (∃ c, v = VI c ∧ (c = -1 ∧ y < x ∨ c = 1 ∧ x < y ∨ c = 0 ∧ x = y)) ∧ Keep H H') := by
  refine CV.enter callees false rfl Try.func149 rfl (by kernel_rfl) (Nat.le_of_ble_eq_true rfl) hB ?_
  repeat' first
    | refine CO.cons rfl ?_
    | refine CO.nil ?_
    | refine CV.seq ?_
    | refine CV.region callees ?_
    | fail
  refine (compare_spec (by omega)).mono ?_
  rintro v H1 ⟨⟨c, rfl, hc⟩, k1⟩
  repeat' first
    | refine CO.cons rfl ?_
    | refine CO.nil ?_
    | refine CV.ret ?_
    | fail
  exact ⟨rfl, ⟨c, rfl, by omega⟩, k1⟩
/-- Nobody sits before anyone with a greater rank. -/
def downR (R : List Int) (n : Nat) : Bool := (List.range (n - 1)).all fun j => decide (R[j + 1]! ≤ R[j]!)
set_option maxHeartbeats 4000000 in
set_option maxRecDepth 100000 in
theorem isSorted_spec {B b c n : Nat} {H : Heap} {N : Int} {S R : List Int} {e : TypeId} (hB : B ≤ H.n) (hS : S.length = 7) (hR : R.length = 7) (hg : H.get b = some (.cells (Rwl N S R) e 1)) (hb : b < H.n) (h1 : 1 ≤ n) (h7 : n ≤ 7) :
    CallB Try.prog B 148 [.slice (some ⟨b, 8, none⟩) n c, .func (.func 149) #[] #[]] H (fun v H' => v = .bool (downR R n) ∧ Keep H H') := by
  have hlen : ∀ X : Heap, alen Try.prog X 26 (.slice (some ⟨b, 8, none⟩) n c) = some (VI n) := fun X => by simp [alen, un22]
  have hadr : ∀ i : Int, 0 ≤ i → i < n → aindexAddr Try.prog 26 (.slice (some ⟨b, 8, none⟩) n c) (.int .i64 i) = some (.pointer (some ⟨b, 8 + i.toNat, none⟩)) := fun i h0 h1 => by
    simp [aindexAddr, asIdx, un22, sz3, h0, h1]
  refine CV.enter callees false rfl Try.func148 rfl (by kernel_rfl) (Nat.le_of_ble_eq_true rfl) hB ?_
  repeat' first
    | refine CO.cons rfl ?_
    | refine CO.nil ?_
    | refine CV.seq ?_
    | refine CV.region callees ?_
    | refine CV.block ?_
    | refine ⟨(⟨by omega, by omega⟩ : inI64 _), ?_⟩
    | (refine ⟨_, hlen _, ?_⟩)
    | fail
  refine CV.loopc ?_
  refine WCv.rounds callees false (α := Nat) (fun i => [(0, .slice (some ⟨b, 8, none⟩) n c), (1, .func (.func 149) #[] #[]), (5, VI i)]) (fun i Hz => i ≤ n - 1 ∧ (∀ j, i ≤ j → j < n - 1 → R[j + 1]! ≤ R[j]!) ∧ Keep H Hz) (fun i => i) (n - 1) (by repeat' first | exact trivial | refine ⟨rfl, ?_⟩ | refine ⟨slot_int (by (try simp only [Int.toNat_natCast]); omega), ?_⟩) ?_ ?_
  · exact ⟨by omega, fun j h2 h3 => by omega, Keep.refl _⟩
  rintro i Hx ⟨hi, hd, kx⟩ hBx
  have lx := kx.1
  by_cases hi2 : 0 < i
  · have hgx := (kx.2 b hb).trans hg
    have a1 : (Rwl N S R)[8 + (i : Int).toNat]? = some (VI R[i]!) := by
      rw [show (i : Int).toNat = i by omega]; exact rw_rank hS hR (by omega)
    have a2 : (Rwl N S R)[8 + ((i : Int) - 1).toNat]? = some (VI R[i - 1]!) := by
      rw [show ((i : Int) - 1).toNat = i - 1 by omega]; exact rw_rank hS hR (by omega)
    repeat' first
      | refine CO.cons rfl ?_
      | refine CO.nil ?_
      | refine CV.seq ?_
      | refine CV.region callees ?_
      | refine CV.cond ?_
      | refine CV.block ?_
      | refine CV.skip ?_
      | refine CV.draw callees (by decide +kernel) ?_
      | refine CH.cons rfl ?_
      | refine CH.nil ?_
      | refine ⟨(⟨by omega, by omega⟩ : inI64 _), ?_⟩
      | (refine ⟨_, hadr _ (by omega) (by omega), ?_⟩)
      | (refine ⟨_, cell_load ag3 hgx a1, ?_⟩)
      | (refine ⟨_, cell_load ag3 hgx a2, ?_⟩)
      | (refine ⟨fun _ => ?_, fun _ => ?_⟩ <;> first | (exfalso; omega) | skip)
      | fail
    refine (isByRank1_spec (by omega)).mono ?_
    rintro v H1 ⟨⟨q, rfl, hq⟩, k1⟩
    by_cases hlt : R[i - 1]! < R[i]!
    · repeat' first
        | refine CO.cons rfl ?_
        | refine CO.nil ?_
        | refine CV.seq ?_
        | refine CV.region callees ?_
        | refine CV.cond ?_
        | refine CV.ret ?_
        | refine CH.cons rfl ?_
        | refine CH.nil ?_
        | (refine ⟨fun _ => ?_, fun _ => ?_⟩ <;> first | (exfalso; omega) | skip)
        | fail
      refine ⟨rfl, ?_, by first | exact kx | exact kx.trans k1⟩
      rw [downR]
      symm
      congr 1
      rw [List.all_eq_false]
      refine ⟨i - 1, List.mem_range.2 (by omega), ?_⟩
      rw [show i - 1 + 1 = i by omega]
      simp only [decide_eq_true_eq]
      omega
    · repeat' first
        | refine CO.cons rfl ?_
        | refine CO.nil ?_
        | refine CV.region callees ?_
        | refine CV.cond ?_
        | refine CV.skip ?_
        | refine CH.cons rfl ?_
        | refine CH.nil ?_
        | refine ⟨(⟨by omega, by omega⟩ : inI64 _), ?_⟩
        | (refine ⟨fun _ => ?_, fun _ => ?_⟩ <;> first | (exfalso; omega) | skip)
        | fail
      refine ⟨(i - 1), (by repeat' first | exact trivial | refine ⟨rfl, ?_⟩ | refine ⟨slot_int (by (try simp only [Int.toNat_natCast]); omega), ?_⟩), (by (try dsimp only); omega), ?_⟩
      refine ⟨by omega, fun j h2 h3 => ?_, by first | exact kx | exact kx.trans k1⟩
      by_cases hj : j = i - 1
      · subst hj
        rw [show i - 1 + 1 = i by omega]
        omega
      · exact hd j (by omega) h3
  obtain rfl : i = 0 := by omega
  repeat' first
    | refine CO.cons rfl ?_
    | refine CO.nil ?_
    | refine CV.seq ?_
    | refine CV.region callees ?_
    | refine CV.cond ?_
    | refine CV.exit ?_
    | refine CV.ret ?_
    | (refine ⟨fun _ => ?_, fun _ => ?_⟩ <;> first | (exfalso; omega) | skip)
    | fail
  refine ⟨rfl, ?_, kx⟩
  rw [downR]
  symm
  congr 1
  rw [List.all_eq_true]
  intro j hj
  have := List.mem_range.1 hj
  exact decide_eq_true (hd j (by omega) (by omega))
theorem slice110 {b n : Nat} (h0 : 1 ≤ n) (h1 : n ≤ 7) : aslice Try.prog 110 (.pointer (some ⟨b, 0 + 8, none⟩)) none (some (some (.int .i64 n))) = some (.slice (some ⟨b, 8, none⟩) n 1) := by
  simp [aslice, un110, bound, sz3]
  omega
set_option maxHeartbeats 4000000 in
set_option maxRecDepth 100000 in
theorem isByRank_spec {B n : Nat} {H : Heap} {S R : List Int} {r : Ru} (hB : B ≤ H.n) (hS : S.length = 7) (hR : R.length = 7) (h1 : 1 ≤ n) (h7 : n ≤ 7) :
    CallB Try.prog B 143 [Rwv n S R, Ruv r] H (fun v H' => v = .bool (downR R n) ∧ Keep H H') := by
  refine CV.enter callees false rfl Try.func143 rfl (by kernel_rfl) (Nat.le_of_ble_eq_true rfl) hB ?_
  repeat' first
    | refine CO.cons rfl ?_
    | refine CV.seq ?_
    | refine CV.region callees ?_
    | fail
  refine ⟨(by simp only [notTuple]), ?_⟩
  rw [boxW]
  generalize hs0 : Heap.new H _ = H0
  have hg0 := new_get hs0
  have k0 := new_keep hs0
  have n0 := new_n hs0
  obtain ⟨b0, hbn0⟩ : ∃ b, Heap.n H = b := ⟨_, rfl⟩
  rw [hbn0] at hg0 n0 ⊢
  repeat' first
    | refine CO.cons rfl ?_
    | fail
  refine ⟨(by simp only [notTuple]), ?_⟩
  rw [boxR]
  generalize hs1 : Heap.new H0 _ = H1
  have hg1 := new_get hs1
  have k1 := new_keep hs1
  have n1 := new_n hs1
  obtain ⟨b1, hbn1⟩ : ∃ b, Heap.n H0 = b := ⟨_, rfl⟩
  rw [hbn1] at hg1 n1 ⊢
  have hg01 := (k1.2 b0 (by omega)).trans hg0
  repeat' first
    | refine CO.cons rfl ?_
    | refine CO.nil ?_
    | refine CV.seq ?_
    | refine CV.region callees ?_
    | (refine ⟨_, fS foW2 (by decide), ?_⟩)
    | (refine ⟨_, fS foW0 (by decide), ?_⟩)
    | (refine ⟨_, cell_load ag3 hg01 rfl, ?_⟩)
    | (refine ⟨_, slice110 h1 h7, ?_⟩)
    | fail
  refine (isSorted_spec (by omega) hS hR hg01 (by omega) h1 h7).mono ?_
  rintro v H2 ⟨rfl, k2⟩
  repeat' first
    | refine CO.cons rfl ?_
    | refine CO.nil ?_
    | refine CV.ret ?_
    | fail
  exact ⟨rfl, rfl, (k0.trans k1).trans k2⟩
end Go.Proofs.Ytlamceokhbigaaa

