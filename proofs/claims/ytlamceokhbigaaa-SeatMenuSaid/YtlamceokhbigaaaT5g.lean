
/- What rules ask; the rules that an order does not keep. -/
import Derived.Test.YtlamceokhbigaaaT4g
set_option linter.unusedVariables false
set_option linter.unusedSimpArgs false
namespace Go.Proofs.Ytlamceokhbigaaa
open Go.AI
section
variable {P : Program} {tm : Tm} {H : Heap} {q : Oper} {t u : TypeId} {x y : Operand}
theorem shlU {i : Int} (ho : q.op = .binOp .shl t x y u) (hx : ev P tm x = some (VU 1)) (hy : ev P tm y = some (VI i)) (h0 : 0 ≤ i) (h1 : i < 64) : step1 P tm H q = some (VU ((2 ^ i.toNat : Nat) : Int), H, H.n) := by
  rw [step1_shl ho hx hy h0, shlN h0 h1, Nat.one_shiftLeft]
theorem orU {a b : Nat} (ho : q.op = .binOp .or t x y u) (hx : ev P tm x = some (VU (a : Int))) (hy : ev P tm y = some (VU (b : Int))) (ha : a < 2 ^ 64) (hb : b < 2 ^ 64) : step1 P tm H q = some (VU ((a ||| b : Nat) : Int), H, H.n) := by
  rw [step1_bits (.inr (.inr (.inl rfl))) ho hx hy rfl rfl, orN ha hb]
theorem andUu {a b : Nat} (ho : q.op = .binOp .and t x y u) (hx : ev P tm x = some (VU (a : Int))) (hy : ev P tm y = some (VU (b : Int))) (ha : a < 2 ^ 64) (hb : b < 2 ^ 64) : step1 P tm H q = some (VU ((a &&& b : Nat) : Int), H, H.n) := by
  rw [step1_bits (.inr (.inl rfl)) ho hx hy rfl rfl, andN ha hb]
theorem shrUu {a : Nat} {i : Int} (ho : q.op = .binOp .shr t x y u) (hx : ev P tm x = some (VU (a : Int))) (hy : ev P tm y = some (VI i)) (h0 : 0 ≤ i) (h1 : i < 64) : step1 P tm H q = some (VU ((a >>> i.toNat : Nat) : Int), H, H.n) := by
  rw [step1_shr ho hx hy h0, shrN h0 h1]
end
set_option maxHeartbeats 4000000 in
set_option maxRecDepth 100000 in
theorem isBefore_spec {B : Nat} {H : Heap} {n : Int} {S R : List Int} {r : Ru} (hB : B ≤ H.n) (hS : S.length = 7) (ha : 0 ≤ r.a ∧ r.a < 7) (hb : 0 ≤ r.b ∧ r.b < 7) :
    CallB Try.prog B 138 [Rwv n S R, Ruv r] H (fun v H' => v = .bool (decide (S[r.a.toNat]! < S[r.b.toNat]!)) ∧ Keep H H') := by
  refine CV.enter callees false rfl Try.func138 rfl (by kernel_rfl) (Nat.le_of_ble_eq_true rfl) hB ?_
  repeat' first
    | refine CO.cons rfl ?_
    | refine CV.seq ?_
    | refine CV.region callees ?_
    | fail
  refine ⟨(by simp only [notTuple]), ?_⟩
  rw [boxW]
  generalize hs0 : Heap.new H _ = H0
  have hg0 := new_get hs0
  have k0 := new_keep hs0
  have n0 := new_n hs0
  obtain ⟨b0, hbn0⟩ : ∃ b, Heap.n H = b := ⟨_, rfl⟩
  rw [hbn0] at hg0 n0 ⊢
  repeat' first
    | refine CO.cons rfl ?_
    | fail
  refine ⟨(by simp only [notTuple]), ?_⟩
  rw [boxR]
  generalize hs1 : Heap.new H0 _ = H1
  have hg1 := new_get hs1
  have k1 := new_keep hs1
  have n1 := new_n hs1
  obtain ⟨b1, hbn1⟩ : ∃ b, Heap.n H0 = b := ⟨_, rfl⟩
  rw [hbn1] at hg1 n1 ⊢
  have hg01 := (k1.2 b0 (by omega)).trans hg0
  repeat' first
    | refine CO.cons rfl ?_
    | refine CO.nil ?_
    | refine CV.seq ?_
    | refine CV.ret ?_
    | refine CV.draw callees (by decide +kernel) ?_
    | refine CH.cons rfl ?_
    | refine CH.nil ?_
    | (refine ⟨_, fS foR1 (by decide), ?_⟩)
    | (refine ⟨_, fS foR2 (by decide), ?_⟩)
    | (refine ⟨_, fS foW1 (by decide), ?_⟩)
    | (refine ⟨_, arr7 (by omega) (by omega), ?_⟩)
    | (refine ⟨_, cell_load ag3 hg1 rfl, ?_⟩)
    | (refine ⟨_, cell_load ag3 hg01 (rw_seat hS (by omega)), ?_⟩)
    | (refine ⟨fun _ => ?_, fun _ => ?_⟩ <;> first | (exfalso; omega) | skip)
    | fail
  all_goals
    refine ⟨rfl, ?_, k0.trans k1⟩
    first
      | rw [decide_eq_true (by omega)]
      | rw [decide_eq_false (by omega)]
set_option maxHeartbeats 4000000 in
set_option maxRecDepth 100000 in
theorem isBeside_spec {B : Nat} {H : Heap} {n : Int} {S R : List Int} {r : Ru} (hB : B ≤ H.n) (hS : S.length = 7) (hSb : ∀ j : Nat, j < 7 → 0 ≤ S[j]! ∧ S[j]! ≤ 7) (ha : 0 ≤ r.a ∧ r.a < 7) (hb : 0 ≤ r.b ∧ r.b < 7) :
    CallB Try.prog B 139 [Rwv n S R, Ruv r] H (fun v H' => v = .bool (decide (S[r.a.toNat]! - S[r.b.toNat]! = 1 ∨ S[r.a.toNat]! - S[r.b.toNat]! = -1)) ∧ Keep H H') := by
  have sa := hSb r.a.toNat (by omega)
  have sb := hSb r.b.toNat (by omega)
  refine CV.enter callees false rfl Try.func139 rfl (by kernel_rfl) (Nat.le_of_ble_eq_true rfl) hB ?_
  repeat' first
    | refine CO.cons rfl ?_
    | refine CV.seq ?_
    | refine CV.region callees ?_
    | fail
  refine ⟨(by simp only [notTuple]), ?_⟩
  rw [boxW]
  generalize hs0 : Heap.new H _ = H0
  have hg0 := new_get hs0
  have k0 := new_keep hs0
  have n0 := new_n hs0
  obtain ⟨b0, hbn0⟩ : ∃ b, Heap.n H = b := ⟨_, rfl⟩
  rw [hbn0] at hg0 n0 ⊢
  repeat' first
    | refine CO.cons rfl ?_
    | fail
  refine ⟨(by simp only [notTuple]), ?_⟩
  rw [boxR]
  generalize hs1 : Heap.new H0 _ = H1
  have hg1 := new_get hs1
  have k1 := new_keep hs1
  have n1 := new_n hs1
  obtain ⟨b1, hbn1⟩ : ∃ b, Heap.n H0 = b := ⟨_, rfl⟩
  rw [hbn1] at hg1 n1 ⊢
  have hg01 := (k1.2 b0 (by omega)).trans hg0
  repeat' first
    | refine CO.cons rfl ?_
    | refine CO.nil ?_
    | refine CV.seq ?_
    | refine CV.region callees ?_
    | refine CV.ret ?_
    | refine CV.draw callees (by decide +kernel) ?_
    | refine CH.cons rfl ?_
    | refine CH.nil ?_
    | refine CO.consG rfl ?_
    | refine ⟨(⟨by omega, by omega⟩ : inI64 _), ?_⟩
    | (refine ⟨_, fS foR1 (by decide), ?_⟩)
    | (refine ⟨_, fS foR2 (by decide), ?_⟩)
    | (refine ⟨_, fS foW1 (by decide), ?_⟩)
    | (refine ⟨_, arr7 (by omega) (by omega), ?_⟩)
    | (refine ⟨_, cell_load ag3 hg1 rfl, ?_⟩)
    | (refine ⟨_, cell_load ag3 hg01 (rw_seat hS (by omega)), ?_⟩)
    | (refine ⟨fun _ => ?_, fun _ => ?_⟩ <;> first | (exfalso; omega) | skip)
    | fail
  all_goals
    refine ⟨rfl, ?_, k0.trans k1⟩
    first
      | rw [decide_eq_true (by omega)]
      | rw [decide_eq_false (by omega)]
set_option maxHeartbeats 4000000 in
set_option maxRecDepth 100000 in
theorem isApart_spec {B : Nat} {H : Heap} {n : Int} {S R : List Int} {r : Ru} (hB : B ≤ H.n) (hS : S.length = 7) (hR : R.length = 7) (hSb : ∀ j : Nat, j < 7 → 0 ≤ S[j]! ∧ S[j]! ≤ 7) (ha : 0 ≤ r.a ∧ r.a < 7) (hb : 0 ≤ r.b ∧ r.b < 7) :
    CallB Try.prog B 140 [Rwv n S R, Ruv r] H (fun v H' => v = .bool (!decide (S[r.a.toNat]! - S[r.b.toNat]! = 1 ∨ S[r.a.toNat]! - S[r.b.toNat]! = -1)) ∧ Keep H H') := by
  refine CV.enter callees false rfl Try.func140 rfl (by kernel_rfl) (Nat.le_of_ble_eq_true rfl) hB ?_
  repeat' first
    | refine CO.cons rfl ?_
    | refine CV.seq ?_
    | refine CV.region callees ?_
    | fail
  refine ⟨(by simp only [notTuple]), ?_⟩
  rw [boxW]
  generalize hs0 : Heap.new H _ = H0
  have hg0 := new_get hs0
  have k0 := new_keep hs0
  have n0 := new_n hs0
  obtain ⟨b0, hbn0⟩ : ∃ b, Heap.n H = b := ⟨_, rfl⟩
  rw [hbn0] at hg0 n0 ⊢
  repeat' first
    | refine CO.cons rfl ?_
    | fail
  refine ⟨(by simp only [notTuple]), ?_⟩
  rw [boxR]
  generalize hs1 : Heap.new H0 _ = H1
  have hg1 := new_get hs1
  have k1 := new_keep hs1
  have n1 := new_n hs1
  obtain ⟨b1, hbn1⟩ : ∃ b, Heap.n H0 = b := ⟨_, rfl⟩
  rw [hbn1] at hg1 n1 ⊢
  have hg01 := (k1.2 b0 (by omega)).trans hg0
  repeat' first
    | refine CO.cons rfl ?_
    | refine CO.nil ?_
    | refine CV.seq ?_
    | refine CV.region callees ?_
    | (refine ⟨_, ld147 hS hR hg01, ?_⟩)
    | (refine ⟨_, ld81 hg1, ?_⟩)
    | fail
  refine (isBeside_spec (by omega) hS hSb ha hb).mono ?_
  generalize decide (S[r.a.toNat]! - S[r.b.toNat]! = 1 ∨ S[r.a.toNat]! - S[r.b.toNat]! = -1) = c
  rintro v H3 ⟨rfl, k3⟩
  cases c
  all_goals
    repeat' first
      | refine CO.cons rfl ?_
      | refine CO.nil ?_
      | refine CV.ret ?_
      | fail
    exact ⟨rfl, rfl, (k0.trans k1).trans k3⟩
set_option maxHeartbeats 4000000 in
set_option maxRecDepth 100000 in
theorem isFirst_spec {B : Nat} {H : Heap} {n : Int} {S R : List Int} {r : Ru} (hB : B ≤ H.n) (hS : S.length = 7) (ha : 0 ≤ r.a ∧ r.a < 7) :
    CallB Try.prog B 141 [Rwv n S R, Ruv r] H (fun v H' => v = .bool (decide (S[r.a.toNat]! = 0)) ∧ Keep H H') := by
  refine CV.enter callees false rfl Try.func141 rfl (by kernel_rfl) (Nat.le_of_ble_eq_true rfl) hB ?_
  repeat' first
    | refine CO.cons rfl ?_
    | refine CV.seq ?_
    | refine CV.region callees ?_
    | fail
  refine ⟨(by simp only [notTuple]), ?_⟩
  rw [boxW]
  generalize hs0 : Heap.new H _ = H0
  have hg0 := new_get hs0
  have k0 := new_keep hs0
  have n0 := new_n hs0
  obtain ⟨b0, hbn0⟩ : ∃ b, Heap.n H = b := ⟨_, rfl⟩
  rw [hbn0] at hg0 n0 ⊢
  repeat' first
    | refine CO.cons rfl ?_
    | fail
  refine ⟨(by simp only [notTuple]), ?_⟩
  rw [boxR]
  generalize hs1 : Heap.new H0 _ = H1
  have hg1 := new_get hs1
  have k1 := new_keep hs1
  have n1 := new_n hs1
  obtain ⟨b1, hbn1⟩ : ∃ b, Heap.n H0 = b := ⟨_, rfl⟩
  rw [hbn1] at hg1 n1 ⊢
  have hg01 := (k1.2 b0 (by omega)).trans hg0
  repeat' first
    | refine CO.cons rfl ?_
    | refine CO.nil ?_
    | refine CV.seq ?_
    | refine CV.region callees ?_
    | refine CV.ret ?_
    | (refine ⟨_, fS foR1 (by decide), ?_⟩)
    | (refine ⟨_, fS foW1 (by decide), ?_⟩)
    | (refine ⟨_, arr7 (by omega) (by omega), ?_⟩)
    | (refine ⟨_, cell_load ag3 hg1 rfl, ?_⟩)
    | (refine ⟨_, cell_load ag3 hg01 (rw_seat hS (by omega)), ?_⟩)
    | (refine ⟨fun _ => ?_, fun _ => ?_⟩ <;> first | (exfalso; omega) | skip)
    | fail
  all_goals
    refine ⟨rfl, ?_, k0.trans k1⟩
    first
      | rw [decide_eq_true (by omega)]
      | rw [decide_eq_false (by omega)]
set_option maxHeartbeats 4000000 in
set_option maxRecDepth 100000 in
theorem isLast_spec {B : Nat} {H : Heap} {n : Int} {S R : List Int} {r : Ru} (hB : B ≤ H.n) (hS : S.length = 7) (hn : 0 ≤ n ∧ n ≤ 7) (ha : 0 ≤ r.a ∧ r.a < 7) :
    CallB Try.prog B 142 [Rwv n S R, Ruv r] H (fun v H' => v = .bool (decide (S[r.a.toNat]! = n - 1)) ∧ Keep H H') := by
  refine CV.enter callees false rfl Try.func142 rfl (by kernel_rfl) (Nat.le_of_ble_eq_true rfl) hB ?_
  repeat' first
    | refine CO.cons rfl ?_
    | refine CV.seq ?_
    | refine CV.region callees ?_
    | fail
  refine ⟨(by simp only [notTuple]), ?_⟩
  rw [boxW]
  generalize hs0 : Heap.new H _ = H0
  have hg0 := new_get hs0
  have k0 := new_keep hs0
  have n0 := new_n hs0
  obtain ⟨b0, hbn0⟩ : ∃ b, Heap.n H = b := ⟨_, rfl⟩
  rw [hbn0] at hg0 n0 ⊢
  repeat' first
    | refine CO.cons rfl ?_
    | fail
  refine ⟨(by simp only [notTuple]), ?_⟩
  rw [boxR]
  generalize hs1 : Heap.new H0 _ = H1
  have hg1 := new_get hs1
  have k1 := new_keep hs1
  have n1 := new_n hs1
  obtain ⟨b1, hbn1⟩ : ∃ b, Heap.n H0 = b := ⟨_, rfl⟩
  rw [hbn1] at hg1 n1 ⊢
  have hg01 := (k1.2 b0 (by omega)).trans hg0
  repeat' first
    | refine CO.cons rfl ?_
    | refine CO.nil ?_
    | refine CV.seq ?_
    | refine CV.ret ?_
    | refine CV.draw callees (by decide +kernel) ?_
    | refine CH.cons rfl ?_
    | refine CH.nil ?_
    | refine ⟨(⟨by omega, by omega⟩ : inI64 _), ?_⟩
    | (refine ⟨_, fS foR1 (by decide), ?_⟩)
    | (refine ⟨_, fS foW1 (by decide), ?_⟩)
    | (refine ⟨_, fS foW0 (by decide), ?_⟩)
    | (refine ⟨_, arr7 (by omega) (by omega), ?_⟩)
    | (refine ⟨_, cell_load ag3 hg1 rfl, ?_⟩)
    | (refine ⟨_, cell_load ag3 hg01 (rw_seat hS (by omega)), ?_⟩)
    | (refine ⟨_, cell_load ag3 hg01 rfl, ?_⟩)
    | (refine ⟨fun _ => ?_, fun _ => ?_⟩ <;> first | (exfalso; omega) | skip)
    | fail
  all_goals
    refine ⟨rfl, ?_, k0.trans k1⟩
    first
      | rw [decide_eq_true (by omega)]
      | rw [decide_eq_false (by omega)]
set_option maxRecDepth 100000 in
theorem compare_spec {B : Nat} {H : Heap} {x y : Int} (hB : B ≤ H.n) :
    CallB Try.prog B 132 [VI x, VI y] H (fun v H' => (∃ c, v = VI c ∧ (c = -1 ∧ x < y ∨ c = 1 ∧ y < x ∨ c = 0 ∧ x = y)) ∧ Keep H H') := by
  have hnan : ∀ {B : Nat} {H : Heap} {x : Int}, B ≤ H.n → CallB Try.prog B 147 [VI x] H (fun v H' => v = .bool false ∧ H' = H) := by
    intro B H x hB
    refine CV.enter callees false rfl Try.func147 rfl (by kernel_rfl) (Nat.le_of_ble_eq_true rfl) hB ?_
    repeat' first
      | refine CO.cons rfl ?_
      | refine CO.nil ?_
      | refine CV.seq ?_
      | refine CV.region callees ?_
      | refine CV.ret ?_
      | (refine ⟨fun _ => ?_, fun _ => ?_⟩ <;> first | (exfalso; omega) | skip)
      | fail
    exact ⟨rfl, rfl, rfl⟩
  refine CV.enter callees false rfl Try.func132 rfl (by kernel_rfl) (Nat.le_of_ble_eq_true rfl) hB ?_
  repeat' first
    | refine CO.cons rfl ?_
    | refine CO.nil ?_
    | refine CV.seq ?_
    | refine CV.region callees ?_
    | fail
  refine (hnan (by omega)).mono ?_
  rintro v H1 ⟨rfl, rfl⟩
  repeat' first
    | refine CO.cons rfl ?_
    | refine CO.nil ?_
    | refine CV.seq ?_
    | refine CV.region callees ?_
    | fail
  refine (hnan (by omega)).mono ?_
  rintro v H1 ⟨rfl, rfl⟩
  repeat' first
    | refine CO.cons rfl ?_
    | refine CO.nil ?_
    | refine CV.seq ?_
    | refine CV.region callees ?_
    | refine CV.cond ?_
    | refine CV.skip ?_
    | refine CV.ret ?_
    | (refine ⟨fun _ => ?_, fun _ => ?_⟩ <;> first | (exfalso; omega) | skip)
    | fail
  all_goals exact ⟨rfl, ⟨_, rfl, by omega⟩, Keep.refl _⟩
end Go.Proofs.Ytlamceokhbigaaa

