
/- Which loans may be; Lend. -/
import Derived.Test.Ytjjmnfgnlcbfhaad2o
set_option linter.unusedVariables false
set_option linter.unusedSimpArgs false
namespace Go.Proofs.Ytjjmnfgnlcbfhaa
open Go.AI
set_option maxHeartbeats 8000000 in
set_option maxRecDepth 100000 in
theorem checkLoans_spec [Orc] {B : Nat} {H : Heap} {v : Value} {l : List Lo} (hB : B ≤ H.n) (hl : RowS 4 H v (l.map Lol)) :
    CallB Try.prog B 96 [v] H (fun r H' => r = VI (lonE l) ∧ Keep H H') := by
  unfold lonE
  refine CV.enter callees false (Orc.hv rfl rfl) Try.func96 rfl (by kernel_rfl) (Nat.le_of_ble_eq_true rfl) hB ?_ (Orc.hw rfl rfl)
  by_cases h12 : 12 < l.length
  · rw [if_pos h12]
    repeat' first
      | refine CO.cons rfl ?_
      | refine CO.nil ?_
      | refine CV.seq ?_
      | refine CV.region callees ?_
      | refine CV.cond ?_
      | refine CV.ret ?_
      | (refine ⟨_, lo_len hl, ?_⟩)
      | (refine ⟨fun _ => ?_, fun _ => ?_⟩ <;> first | (exfalso; omega) | skip)
      | fail
    exact ⟨rfl, rfl, Keep.refl _⟩
  rw [if_neg h12]
  repeat' first
    | refine CO.cons rfl ?_
    | refine CO.nil ?_
    | refine CV.seq ?_
    | refine CV.region callees ?_
    | refine CV.cond ?_
    | refine CV.block ?_
    | refine CV.skip ?_
    | (refine ⟨_, lo_len hl, ?_⟩)
    | (refine ⟨fun _ => ?_, fun _ => ?_⟩ <;> first | (exfalso; omega) | skip)
    | fail
  refine CV.loopc ?_
  refine WCv.rounds callees false (α := Nat) (fun i => [(8, v), (9, VI l.length), (10, VI i)]) (fun i Hz => i ≤ l.length ∧ firstLo (l.drop i) = firstLo l ∧ Keep H Hz) (fun i => l.length - i) (0) (by repeat' first | exact trivial | refine ⟨rfl, ?_⟩ | refine ⟨slot_int (by (try simp only [Int.toNat_natCast]); omega), ?_⟩) ?_ ?_
  · exact ⟨by omega, rfl, Keep.refl _⟩
  rintro i Hx ⟨hi, hf, kx⟩ hBx
  have hlx := hl.keep kx
  by_cases hi2 : i < l.length
  · rw [show l.drop i = l[i]! :: l.drop (i + 1) by rw [List.drop_eq_getElem_cons hi2, getElem!_pos l i hi2]] at hf
    simp only [firstLo] at hf
    repeat' first
      | refine CO.cons rfl ?_
      | refine CO.nil ?_
      | refine CV.seq ?_
      | refine CV.region callees ?_
      | refine CV.cond ?_
      | refine CV.block ?_
      | refine CV.skip ?_
      | (refine ⟨_, lo_addr hlx (by omega) (by omega), ?_⟩)
      | (refine ⟨_, lo_load hlx hi2, ?_⟩)
      | (refine ⟨_, _, alLo, ?_⟩)
      | (refine ⟨fun _ => ?_, fun _ => ?_⟩ <;> first | (exfalso; omega) | skip)
      | fail
    generalize hs4 : Heap.new Hx _ = H4
    have hg4 := new_get hs4
    have k4 := new_keep hs4
    have n4 := new_n hs4
    obtain ⟨b4, hbn4⟩ : ∃ b, Heap.n Hx = b := ⟨_, rfl⟩
    rw [hbn4] at hg4 n4 ⊢
    repeat' first
      | fail
    refine ⟨_, _, stLo hg4, by omega, ?_⟩
    generalize hs5 : Heap.set H4 b4 _ = H5
    have hg5 : H5.get b4 = some (.cells (Lol l[i]!) 99 1) := set_get hs5
    have n5 := set_n hs5
    have o5 := set_old hs5
    have k5 : Keep Hx H5 := keep_put k4 (by omega) o5 n5
    have kx5 := kx.trans k5
    obtain ⟨x, hx⟩ : ∃ x, l[i]! = x := ⟨_, rfl⟩
    rw [hx] at hf hg5
    unfold loE at hf
    repeat' first
      | refine CO.cons rfl ?_
      | refine CO.nil ?_
      | refine CV.seq ?_
      | refine CV.region callees ?_
      | (refine ⟨_, fS foO0 (by decide), ?_⟩)
      | (refine ⟨_, cell_load ag3 hg5 rfl, ?_⟩)
      | fail
    refine (within_spec (by omega)).mono ?_
    cases c1 : inB x.t 0 49
    · rintro r H6 ⟨rfl, rfl⟩
      rw [c1] at hf
      repeat' first
        | refine CO.cons rfl ?_
        | refine CO.nil ?_
        | refine CV.seq ?_
        | refine CV.region callees ?_
        | refine CV.cond ?_
        | refine CV.ret ?_
        | refine CO.consG rfl ?_
        | fail
      exact ⟨rfl, by rw [← hf]; simp, kx5⟩
    rintro r H6 ⟨rfl, rfl⟩
    repeat' first
      | refine CO.cons rfl ?_
      | refine CO.consG rfl ?_
      | (refine ⟨_, fS foO1 (by decide), ?_⟩)
      | (refine ⟨_, cell_load ag3 hg5 rfl, ?_⟩)
      | fail
    refine (isDay_spec (by omega)).mono ?_
    cases c2 : inB x.f 0 100000
    · rintro r H6 ⟨rfl, rfl⟩
      rw [c1, c2] at hf
      repeat' first
        | refine CO.cons rfl ?_
        | refine CO.nil ?_
        | refine CV.seq ?_
        | refine CV.region callees ?_
        | refine CV.cond ?_
        | refine CV.ret ?_
        | refine CO.consG rfl ?_
        | fail
      exact ⟨rfl, by rw [← hf]; simp, kx5⟩
    rintro r H6 ⟨rfl, rfl⟩
    repeat' first
      | refine CO.cons rfl ?_
      | refine CO.consG rfl ?_
      | (refine ⟨_, fS foO2 (by decide), ?_⟩)
      | (refine ⟨_, cell_load ag3 hg5 rfl, ?_⟩)
      | fail
    refine (isDay_spec (by omega)).mono ?_
    cases c3 : inB x.o 0 100000
    · rintro r H6 ⟨rfl, rfl⟩
      rw [c1, c2, c3] at hf
      repeat' first
        | refine CO.cons rfl ?_
        | refine CO.nil ?_
        | refine CV.seq ?_
        | refine CV.region callees ?_
        | refine CV.cond ?_
        | refine CV.ret ?_
        | refine CO.consG rfl ?_
        | fail
      exact ⟨rfl, by rw [← hf]; simp, kx5⟩
    rintro r H6 ⟨rfl, rfl⟩
    repeat' first
      | refine CO.cons rfl ?_
      | refine CO.consG rfl ?_
      | (refine ⟨_, fS foO3 (by decide), ?_⟩)
      | (refine ⟨_, cell_load ag3 hg5 rfl, ?_⟩)
      | fail
    refine (within_spec (by omega)).mono ?_
    cases c4 : inB x.w 0 1000
    · rintro r H6 ⟨rfl, rfl⟩
      rw [c1, c2, c3, c4] at hf
      repeat' first
        | refine CO.cons rfl ?_
        | refine CO.nil ?_
        | refine CV.seq ?_
        | refine CV.region callees ?_
        | refine CV.cond ?_
        | refine CV.ret ?_
        | refine CO.consG rfl ?_
        | fail
      exact ⟨rfl, by rw [← hf]; simp, kx5⟩
    rintro r H6 ⟨rfl, rfl⟩
    rw [c1, c2, c3, c4] at hf
    simp only [Bool.and_self, cond_true] at hf
    by_cases c5 : x.o < x.f
    · rw [if_pos c5] at hf
      repeat' first
        | refine CO.cons rfl ?_
        | refine CO.nil ?_
        | refine CV.seq ?_
        | refine CV.region callees ?_
        | refine CV.cond ?_
        | refine CV.skip ?_
        | refine CV.ret ?_
        | refine CO.consG rfl ?_
        | (refine ⟨_, fS foO1 (by decide), ?_⟩)
        | (refine ⟨_, fS foO2 (by decide), ?_⟩)
        | (refine ⟨_, cell_load ag3 hg5 rfl, ?_⟩)
        | (refine ⟨fun _ => ?_, fun _ => ?_⟩ <;> first | (exfalso; omega) | skip)
        | fail
      exact ⟨rfl, by rw [← hf]; simp, kx5⟩
    · rw [if_neg c5, if_pos rfl] at hf
      repeat' first
        | refine CO.cons rfl ?_
        | refine CO.nil ?_
        | refine CV.seq ?_
        | refine CV.region callees ?_
        | refine CV.cond ?_
        | refine CV.skip ?_
        | refine CO.consG rfl ?_
        | refine ⟨(⟨by omega, by omega⟩ : inI64 _), ?_⟩
        | (refine ⟨_, fS foO1 (by decide), ?_⟩)
        | (refine ⟨_, fS foO2 (by decide), ?_⟩)
        | (refine ⟨_, cell_load ag3 hg5 rfl, ?_⟩)
        | (refine ⟨fun _ => ?_, fun _ => ?_⟩ <;> first | (exfalso; omega) | skip)
        | fail
      refine ⟨(i + 1), (by repeat' first | exact trivial | refine ⟨rfl, ?_⟩ | refine ⟨slot_int (by (try simp only [Int.toNat_natCast]); omega), ?_⟩), (by (try dsimp only); omega), ?_⟩
      exact ⟨by omega, hf, kx5⟩
  obtain rfl : i = l.length := by omega
  rw [List.drop_length] at hf
  repeat' first
    | refine CO.cons rfl ?_
    | refine CO.nil ?_
    | refine CV.seq ?_
    | refine CV.region callees ?_
    | refine CV.cond ?_
    | refine CV.exit ?_
    | refine CV.ret ?_
    | (refine ⟨fun _ => ?_, fun _ => ?_⟩ <;> first | (exfalso; omega) | skip)
    | fail
  exact ⟨rfl, by rw [← hf]; rfl, kx⟩
set_option maxRecDepth 100000 in
theorem withinR_spec [Orc] {B : Nat} {H : Heap} {n a b : Int} (hB : B ≤ H.n) :
    CallB Try.prog B 87 [VI n, VI a, VI b] H (fun v H' => v = .bool (inB n a b) ∧ H' = H) := by
  refine CV.enter callees false (Orc.hv rfl rfl) Try.func87 rfl (by kernel_rfl) (Nat.le_of_ble_eq_true rfl) hB ?_ (Orc.hw rfl rfl)
  by_cases h1 : a ≤ n
  · by_cases h2 : n ≤ b
    · repeat' first
        | refine CO.cons rfl ?_
        | refine CO.nil ?_
        | refine CV.seq ?_
        | refine CV.region callees ?_
        | refine CV.ret ?_
        | refine CO.consG rfl ?_
        | (refine ⟨fun _ => ?_, fun _ => ?_⟩ <;> first | (exfalso; omega) | skip)
        | fail
      exact ⟨rfl, by simp [inB, h1, h2], rfl⟩
    · repeat' first
        | refine CO.cons rfl ?_
        | refine CO.nil ?_
        | refine CV.seq ?_
        | refine CV.region callees ?_
        | refine CV.ret ?_
        | refine CO.consG rfl ?_
        | (refine ⟨fun _ => ?_, fun _ => ?_⟩ <;> first | (exfalso; omega) | skip)
        | fail
      exact ⟨rfl, by simp [inB, h2], rfl⟩
  · repeat' first
      | refine CO.cons rfl ?_
      | refine CO.nil ?_
      | refine CV.seq ?_
      | refine CV.region callees ?_
      | refine CV.ret ?_
      | refine CO.consG rfl ?_
      | (refine ⟨fun _ => ?_, fun _ => ?_⟩ <;> first | (exfalso; omega) | skip)
      | fail
    exact ⟨rfl, by simp [inB, h1], rfl⟩
set_option maxHeartbeats 8000000 in
set_option maxRecDepth 100000 in
theorem checkLoansR_spec [Orc] {B : Nat} {H : Heap} {v : Value} {l : List Lo} (hB : B ≤ H.n) (hl : RowS 4 H v (l.map Lol)) :
    CallB Try.prog B 101 [v] H (fun r H' => r = VI (lonE l) ∧ Keep H H') := by
  unfold lonE
  refine CV.enter callees false (Orc.hv rfl rfl) Try.func101 rfl (by kernel_rfl) (Nat.le_of_ble_eq_true rfl) hB ?_ (Orc.hw rfl rfl)
  by_cases h12 : 12 < l.length
  · rw [if_pos h12]
    repeat' first
      | refine CO.cons rfl ?_
      | refine CO.nil ?_
      | refine CV.seq ?_
      | refine CV.region callees ?_
      | refine CV.cond ?_
      | refine CV.ret ?_
      | (refine ⟨_, lo_len hl, ?_⟩)
      | (refine ⟨fun _ => ?_, fun _ => ?_⟩ <;> first | (exfalso; omega) | skip)
      | fail
    exact ⟨rfl, rfl, Keep.refl _⟩
  rw [if_neg h12]
  repeat' first
    | refine CO.cons rfl ?_
    | refine CO.nil ?_
    | refine CV.seq ?_
    | refine CV.region callees ?_
    | refine CV.cond ?_
    | refine CV.block ?_
    | refine CV.skip ?_
    | (refine ⟨_, lo_len hl, ?_⟩)
    | (refine ⟨fun _ => ?_, fun _ => ?_⟩ <;> first | (exfalso; omega) | skip)
    | fail
  refine CV.loopc ?_
  refine WCv.rounds callees false (α := Nat) (fun i => [(0, v), (3, VI i)]) (fun i Hz => i ≤ l.length ∧ firstLo (l.drop i) = firstLo l ∧ Keep H Hz) (fun i => l.length - i) (0) (by repeat' first | exact trivial | refine ⟨rfl, ?_⟩ | refine ⟨slot_int (by (try simp only [Int.toNat_natCast]); omega), ?_⟩) ?_ ?_
  · exact ⟨by omega, rfl, Keep.refl _⟩
  rintro i Hx ⟨hi, hf, kx⟩ hBx
  have hlx := hl.keep kx
  by_cases hi2 : i < l.length
  · rw [show l.drop i = l[i]! :: l.drop (i + 1) by rw [List.drop_eq_getElem_cons hi2, getElem!_pos l i hi2]] at hf
    simp only [firstLo] at hf
    repeat' first
      | refine CO.cons rfl ?_
      | refine CO.nil ?_
      | refine CV.seq ?_
      | refine CV.region callees ?_
      | refine CV.cond ?_
      | refine CV.block ?_
      | refine CV.skip ?_
      | (refine ⟨_, lo_len hlx, ?_⟩)
      | (refine ⟨_, lo_addr hlx (by omega) (by omega), ?_⟩)
      | (refine ⟨_, lo_load hlx hi2, ?_⟩)
      | (refine ⟨_, _, alLo, ?_⟩)
      | (refine ⟨fun _ => ?_, fun _ => ?_⟩ <;> first | (exfalso; omega) | skip)
      | fail
    generalize hs4 : Heap.new Hx _ = H4
    have hg4 := new_get hs4
    have k4 := new_keep hs4
    have n4 := new_n hs4
    obtain ⟨b4, hbn4⟩ : ∃ b, Heap.n Hx = b := ⟨_, rfl⟩
    rw [hbn4] at hg4 n4 ⊢
    repeat' first
      | fail
    refine ⟨_, _, stLo hg4, by omega, ?_⟩
    generalize hs5 : Heap.set H4 b4 _ = H5
    have hg5 : H5.get b4 = some (.cells (Lol l[i]!) 99 1) := set_get hs5
    have n5 := set_n hs5
    have o5 := set_old hs5
    have k5 : Keep Hx H5 := keep_put k4 (by omega) o5 n5
    have kx5 := kx.trans k5
    obtain ⟨x, hx⟩ : ∃ x, l[i]! = x := ⟨_, rfl⟩
    rw [hx] at hf hg5
    unfold loE at hf
    repeat' first
      | refine CO.cons rfl ?_
      | refine CO.nil ?_
      | refine CV.seq ?_
      | refine CV.region callees ?_
      | (refine ⟨_, fS foO0 (by decide), ?_⟩)
      | (refine ⟨_, cell_load ag3 hg5 rfl, ?_⟩)
      | fail
    refine (withinR_spec (by omega)).mono ?_
    cases c1 : inB x.t 0 49
    · rintro r H6 ⟨rfl, rfl⟩
      rw [c1] at hf
      repeat' first
        | refine CO.cons rfl ?_
        | refine CO.nil ?_
        | refine CV.seq ?_
        | refine CV.region callees ?_
        | refine CV.cond ?_
        | refine CV.ret ?_
        | refine CO.consG rfl ?_
        | fail
      exact ⟨rfl, by rw [← hf]; simp, kx5⟩
    rintro r H6 ⟨rfl, rfl⟩
    repeat' first
      | refine CO.cons rfl ?_
      | refine CO.consG rfl ?_
      | (refine ⟨_, fS foO1 (by decide), ?_⟩)
      | (refine ⟨_, cell_load ag3 hg5 rfl, ?_⟩)
      | fail
    refine (withinR_spec (by omega)).mono ?_
    cases c2 : inB x.f 0 100000
    · rintro r H6 ⟨rfl, rfl⟩
      rw [c1, c2] at hf
      repeat' first
        | refine CO.cons rfl ?_
        | refine CO.nil ?_
        | refine CV.seq ?_
        | refine CV.region callees ?_
        | refine CV.cond ?_
        | refine CV.ret ?_
        | refine CO.consG rfl ?_
        | fail
      exact ⟨rfl, by rw [← hf]; simp, kx5⟩
    rintro r H6 ⟨rfl, rfl⟩
    repeat' first
      | refine CO.cons rfl ?_
      | refine CO.consG rfl ?_
      | (refine ⟨_, fS foO2 (by decide), ?_⟩)
      | (refine ⟨_, cell_load ag3 hg5 rfl, ?_⟩)
      | fail
    refine (withinR_spec (by omega)).mono ?_
    cases c3 : inB x.o 0 100000
    · rintro r H6 ⟨rfl, rfl⟩
      rw [c1, c2, c3] at hf
      repeat' first
        | refine CO.cons rfl ?_
        | refine CO.nil ?_
        | refine CV.seq ?_
        | refine CV.region callees ?_
        | refine CV.cond ?_
        | refine CV.ret ?_
        | refine CO.consG rfl ?_
        | fail
      exact ⟨rfl, by rw [← hf]; simp, kx5⟩
    rintro r H6 ⟨rfl, rfl⟩
    repeat' first
      | refine CO.cons rfl ?_
      | refine CO.consG rfl ?_
      | (refine ⟨_, fS foO3 (by decide), ?_⟩)
      | (refine ⟨_, cell_load ag3 hg5 rfl, ?_⟩)
      | fail
    refine (withinR_spec (by omega)).mono ?_
    cases c4 : inB x.w 0 1000
    · rintro r H6 ⟨rfl, rfl⟩
      rw [c1, c2, c3, c4] at hf
      repeat' first
        | refine CO.cons rfl ?_
        | refine CO.nil ?_
        | refine CV.seq ?_
        | refine CV.region callees ?_
        | refine CV.cond ?_
        | refine CV.ret ?_
        | refine CO.consG rfl ?_
        | fail
      exact ⟨rfl, by rw [← hf]; simp, kx5⟩
    rintro r H6 ⟨rfl, rfl⟩
    rw [c1, c2, c3, c4] at hf
    simp only [Bool.and_self, cond_true] at hf
    by_cases c5 : x.o < x.f
    · rw [if_pos c5] at hf
      repeat' first
        | refine CO.cons rfl ?_
        | refine CO.nil ?_
        | refine CV.seq ?_
        | refine CV.region callees ?_
        | refine CV.cond ?_
        | refine CV.skip ?_
        | refine CV.ret ?_
        | refine CO.consG rfl ?_
        | (refine ⟨_, fS foO1 (by decide), ?_⟩)
        | (refine ⟨_, fS foO2 (by decide), ?_⟩)
        | (refine ⟨_, cell_load ag3 hg5 rfl, ?_⟩)
        | (refine ⟨fun _ => ?_, fun _ => ?_⟩ <;> first | (exfalso; omega) | skip)
        | fail
      exact ⟨rfl, by rw [← hf]; simp, kx5⟩
    · rw [if_neg c5, if_pos rfl] at hf
      repeat' first
        | refine CO.cons rfl ?_
        | refine CO.nil ?_
        | refine CV.seq ?_
        | refine CV.region callees ?_
        | refine CV.cond ?_
        | refine CV.skip ?_
        | refine CO.consG rfl ?_
        | refine ⟨(⟨by omega, by omega⟩ : inI64 _), ?_⟩
        | (refine ⟨_, fS foO1 (by decide), ?_⟩)
        | (refine ⟨_, fS foO2 (by decide), ?_⟩)
        | (refine ⟨_, cell_load ag3 hg5 rfl, ?_⟩)
        | (refine ⟨fun _ => ?_, fun _ => ?_⟩ <;> first | (exfalso; omega) | skip)
        | fail
      refine ⟨(i + 1), (by repeat' first | exact trivial | refine ⟨rfl, ?_⟩ | refine ⟨slot_int (by (try simp only [Int.toNat_natCast]); omega), ?_⟩), (by (try dsimp only); omega), ?_⟩
      exact ⟨by omega, hf, kx5⟩
  obtain rfl : i = l.length := by omega
  rw [List.drop_length] at hf
  repeat' first
    | refine CO.cons rfl ?_
    | refine CO.nil ?_
    | refine CV.seq ?_
    | refine CV.region callees ?_
    | refine CV.cond ?_
    | refine CV.exit ?_
    | refine CV.ret ?_
    | (refine ⟨_, lo_len hlx, ?_⟩)
    | (refine ⟨fun _ => ?_, fun _ => ?_⟩ <;> first | (exfalso; omega) | skip)
    | fail
  exact ⟨rfl, by rw [← hf]; rfl, kx⟩
end Go.Proofs.Ytjjmnfgnlcbfhaa
