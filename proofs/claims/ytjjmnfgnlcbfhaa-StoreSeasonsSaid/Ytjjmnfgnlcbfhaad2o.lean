
/- Loans that contradict each other; what they are worth; whether they may be. -/
import Derived.Test.Ytjjmnfgnlcbfhaad1o
set_option linter.unusedVariables false
set_option linter.unusedSimpArgs false
namespace Go.Proofs.Ytjjmnfgnlcbfhaa
open Go.AI
def contra (a b : Lo) : Bool := decide (a.t = b.t) && (decide (a.f ≤ b.o) && decide (b.f ≤ a.o))
theorem contra_symm {a b : Lo} : contra a b = contra b a := by
  unfold contra
  rw [show decide (a.t = b.t) = decide (b.t = a.t) by simp [eq_comm], Bool.and_comm (decide (a.f ≤ b.o))]
def AccP (l : List Lo) : Prop := ∀ i, i < l.length → ∀ j, j < i → contra l[i]! l[j]! = false
set_option maxRecDepth 100000 in
theorem contradict_spec [Orc] {B : Nat} {H : Heap} {a b : Lo} (hB : B ≤ H.n) :
    CallB Try.prog B 129 [Lov a, Lov b] H (fun r H' => r = .bool (contra a b) ∧ Keep H H') := by
  refine CV.enter callees false (Orc.hv rfl rfl) Try.func129 rfl (by kernel_rfl) (Nat.le_of_ble_eq_true rfl) hB ?_ (Orc.hw rfl rfl)
  repeat' first
    | refine CO.cons rfl ?_
    | refine CO.nil ?_
    | refine CV.seq ?_
    | refine CV.region callees ?_
    | (refine ⟨(rfl : notTuple _ = true), ?_⟩)
    | fail
  generalize hs0' : anew H _ _ _ = H0
  have hs0 : H.new (.cells (Lol a) 99 1) = H0 := hs0'
  have hg0 := new_get hs0
  have k0 := new_keep hs0
  have n0 := new_n hs0
  obtain ⟨b0, hbn0⟩ : ∃ b, H.n = b := ⟨_, rfl⟩
  rw [hbn0] at hg0 n0 ⊢
  repeat' first
    | fail
  generalize hs1' : anew H0 _ _ _ = H1
  have hs1 : H0.new (.cells (Lol b) 99 1) = H1 := hs1'
  have hg1 := new_get hs1
  have k1 := new_keep hs1
  have n1 := new_n hs1
  obtain ⟨b1, hbn1⟩ : ∃ b, H0.n = b := ⟨_, rfl⟩
  rw [hbn1] at hg1 n1 ⊢
  have hg0' := (k1.2 b0 (by omega)).trans hg0
  unfold contra
  by_cases c1 : a.t = b.t
  · by_cases c2 : a.f ≤ b.o
    · by_cases c3 : b.f ≤ a.o
      · repeat' first
          | refine CO.cons rfl ?_
          | refine CO.nil ?_
          | refine CV.ret ?_
          | refine CO.consG rfl ?_
          | (refine ⟨_, fS foO0 (by decide), ?_⟩)
          | (refine ⟨_, fS foO1 (by decide), ?_⟩)
          | (refine ⟨_, fS foO2 (by decide), ?_⟩)
          | (refine ⟨_, cell_load ag3 hg0' rfl, ?_⟩)
          | (refine ⟨_, cell_load ag3 hg1 rfl, ?_⟩)
          | (refine ⟨fun _ => ?_, fun _ => ?_⟩ <;> first | (exfalso; omega) | skip)
          | fail
        exact ⟨rfl, by simp [c1, c2, c3], k0.trans k1⟩
      · repeat' first
          | refine CO.cons rfl ?_
          | refine CO.nil ?_
          | refine CV.ret ?_
          | refine CO.consG rfl ?_
          | (refine ⟨_, fS foO0 (by decide), ?_⟩)
          | (refine ⟨_, fS foO1 (by decide), ?_⟩)
          | (refine ⟨_, fS foO2 (by decide), ?_⟩)
          | (refine ⟨_, cell_load ag3 hg0' rfl, ?_⟩)
          | (refine ⟨_, cell_load ag3 hg1 rfl, ?_⟩)
          | (refine ⟨fun _ => ?_, fun _ => ?_⟩ <;> first | (exfalso; omega) | skip)
          | fail
        exact ⟨rfl, by simp [c3], k0.trans k1⟩
    · repeat' first
        | refine CO.cons rfl ?_
        | refine CO.nil ?_
        | refine CV.ret ?_
        | refine CO.consG rfl ?_
        | (refine ⟨_, fS foO0 (by decide), ?_⟩)
        | (refine ⟨_, fS foO1 (by decide), ?_⟩)
        | (refine ⟨_, fS foO2 (by decide), ?_⟩)
        | (refine ⟨_, cell_load ag3 hg0' rfl, ?_⟩)
        | (refine ⟨_, cell_load ag3 hg1 rfl, ?_⟩)
        | (refine ⟨fun _ => ?_, fun _ => ?_⟩ <;> first | (exfalso; omega) | skip)
        | fail
      exact ⟨rfl, by simp [c2], k0.trans k1⟩
  · repeat' first
      | refine CO.cons rfl ?_
      | refine CO.nil ?_
      | refine CV.ret ?_
      | refine CO.consG rfl ?_
      | (refine ⟨_, fS foO0 (by decide), ?_⟩)
      | (refine ⟨_, cell_load ag3 hg0' rfl, ?_⟩)
      | (refine ⟨_, cell_load ag3 hg1 rfl, ?_⟩)
      | (refine ⟨fun _ => ?_, fun _ => ?_⟩ <;> first | (exfalso; omega) | skip)
      | fail
    exact ⟨rfl, by simp [c1], k0.trans k1⟩
set_option maxRecDepth 100000 in
theorem against_spec [Orc] {B : Nat} {H : Heap} {a b : Lo} (hB : B ≤ H.n) :
    CallB Try.prog B 119 [Lov a, Lov b] H (fun r H' => r = .bool (contra a b) ∧ Keep H H') := by
  refine CV.enter callees false (Orc.hv rfl rfl) Try.func119 rfl (by kernel_rfl) (Nat.le_of_ble_eq_true rfl) hB ?_ (Orc.hw rfl rfl)
  repeat' first
    | refine CO.cons rfl ?_
    | refine CO.nil ?_
    | refine CV.seq ?_
    | refine CV.region callees ?_
    | (refine ⟨(rfl : notTuple _ = true), ?_⟩)
    | fail
  generalize hs0' : anew H _ _ _ = H0
  have hs0 : H.new (.cells (Lol a) 99 1) = H0 := hs0'
  have hg0 := new_get hs0
  have k0 := new_keep hs0
  have n0 := new_n hs0
  obtain ⟨b0, hbn0⟩ : ∃ b, H.n = b := ⟨_, rfl⟩
  rw [hbn0] at hg0 n0 ⊢
  repeat' first
    | fail
  generalize hs1' : anew H0 _ _ _ = H1
  have hs1 : H0.new (.cells (Lol b) 99 1) = H1 := hs1'
  have hg1 := new_get hs1
  have k1 := new_keep hs1
  have n1 := new_n hs1
  obtain ⟨b1, hbn1⟩ : ∃ b, H0.n = b := ⟨_, rfl⟩
  rw [hbn1] at hg1 n1 ⊢
  have hg0' := (k1.2 b0 (by omega)).trans hg0
  unfold contra
  by_cases c1 : a.t = b.t
  · by_cases c2 : a.f ≤ b.o
    · by_cases c3 : b.f ≤ a.o
      · repeat' first
          | refine CO.cons rfl ?_
          | refine CO.nil ?_
          | refine CV.ret ?_
          | refine CO.consG rfl ?_
          | (refine ⟨_, fS foO0 (by decide), ?_⟩)
          | (refine ⟨_, fS foO1 (by decide), ?_⟩)
          | (refine ⟨_, fS foO2 (by decide), ?_⟩)
          | (refine ⟨_, cell_load ag3 hg0' rfl, ?_⟩)
          | (refine ⟨_, cell_load ag3 hg1 rfl, ?_⟩)
          | (refine ⟨fun _ => ?_, fun _ => ?_⟩ <;> first | (exfalso; omega) | skip)
          | fail
        exact ⟨rfl, by simp [c1, c2, c3], k0.trans k1⟩
      · repeat' first
          | refine CO.cons rfl ?_
          | refine CO.nil ?_
          | refine CV.ret ?_
          | refine CO.consG rfl ?_
          | (refine ⟨_, fS foO0 (by decide), ?_⟩)
          | (refine ⟨_, fS foO1 (by decide), ?_⟩)
          | (refine ⟨_, fS foO2 (by decide), ?_⟩)
          | (refine ⟨_, cell_load ag3 hg0' rfl, ?_⟩)
          | (refine ⟨_, cell_load ag3 hg1 rfl, ?_⟩)
          | (refine ⟨fun _ => ?_, fun _ => ?_⟩ <;> first | (exfalso; omega) | skip)
          | fail
        exact ⟨rfl, by simp [c3], k0.trans k1⟩
    · repeat' first
        | refine CO.cons rfl ?_
        | refine CO.nil ?_
        | refine CV.ret ?_
        | refine CO.consG rfl ?_
        | (refine ⟨_, fS foO0 (by decide), ?_⟩)
        | (refine ⟨_, fS foO1 (by decide), ?_⟩)
        | (refine ⟨_, fS foO2 (by decide), ?_⟩)
        | (refine ⟨_, cell_load ag3 hg0' rfl, ?_⟩)
        | (refine ⟨_, cell_load ag3 hg1 rfl, ?_⟩)
        | (refine ⟨fun _ => ?_, fun _ => ?_⟩ <;> first | (exfalso; omega) | skip)
        | fail
      exact ⟨rfl, by simp [c2], k0.trans k1⟩
  · repeat' first
      | refine CO.cons rfl ?_
      | refine CO.nil ?_
      | refine CV.ret ?_
      | refine CO.consG rfl ?_
      | (refine ⟨_, fS foO0 (by decide), ?_⟩)
      | (refine ⟨_, cell_load ag3 hg0' rfl, ?_⟩)
      | (refine ⟨_, cell_load ag3 hg1 rfl, ?_⟩)
      | (refine ⟨fun _ => ?_, fun _ => ?_⟩ <;> first | (exfalso; omega) | skip)
      | fail
    exact ⟨rfl, by simp [c1], k0.trans k1⟩
theorem take_at {α : Type} [Inhabited α] {l : List α} {i j : Nat} (hi : i ≤ l.length) (hj : j < i) : (l.take i)[j]! = l[j]! := by
  rw [getElem!_pos (l.take i) j (by rw [List.length_take]; omega), List.getElem_take, getElem!_pos l j (by omega)]
set_option maxHeartbeats 4000000 in
set_option maxRecDepth 100000 in
theorem accepted_spec [Orc] {B : Nat} {H : Heap} {v : Value} {l : List Lo} (hB : B ≤ H.n) (hl : RowS 4 H v (l.map Lol)) (hn : l.length ≤ 100) :
    CallB Try.prog B 99 [v] H (fun r H' => (∃ c, r = .bool c ∧ (c = true ↔ AccP l)) ∧ Keep H H') := by
  refine CV.enter callees false (Orc.hv rfl rfl) Try.func99 rfl (by kernel_rfl) (Nat.le_of_ble_eq_true rfl) hB ?_ (Orc.hw rfl rfl)
  repeat' first
    | refine CO.cons rfl ?_
    | refine CO.nil ?_
    | refine CV.seq ?_
    | refine CV.region callees ?_
    | refine CV.block ?_
    | (refine ⟨_, lo_len hl, ?_⟩)
    | fail
  refine CV.loopc ?_
  refine WCv.rounds callees false (α := Nat) (fun i => [(0, v), (7, v), (8, VI l.length), (9, VI i)]) (fun i Hz => i ≤ l.length ∧ (∀ a, a < i → ∀ j, j < a → contra l[a]! l[j]! = false) ∧ Keep H Hz) (fun i => l.length - i) (0) (by repeat' first | exact trivial | refine ⟨rfl, ?_⟩ | refine ⟨slot_int (by (try simp only [Int.toNat_natCast]); omega), ?_⟩) ?_ ?_
  · exact ⟨by omega, fun a h => by omega, Keep.refl _⟩
  rintro i Hx ⟨hi, hac, kx⟩ hBx
  have hlx := hl.keep kx
  by_cases hi2 : i < l.length
  · repeat' first
      | refine CO.cons rfl ?_
      | refine CO.nil ?_
      | refine CV.seq ?_
      | refine CV.region callees ?_
      | refine CV.cond ?_
      | refine CV.block ?_
      | refine CV.skip ?_
      | (refine ⟨_, lo_addr hlx (by omega) (by omega), ?_⟩)
      | (refine ⟨_, lo_load hlx hi2, ?_⟩)
      | (refine ⟨_, _, alLo, ?_⟩)
      | (refine ⟨fun _ => ?_, fun _ => ?_⟩ <;> first | (exfalso; omega) | skip)
      | fail
    generalize hs4 : Heap.new Hx _ = H4
    have hg4 := new_get hs4
    have k4 := new_keep hs4
    have n4 := new_n hs4
    obtain ⟨b4, hbn4⟩ : ∃ b, Heap.n Hx = b := ⟨_, rfl⟩
    rw [hbn4] at hg4 n4 ⊢
    repeat' first
      | fail
    refine ⟨_, _, stLo hg4, by omega, ?_⟩
    generalize hs5 : Heap.set H4 b4 _ = H5
    have hg5 : H5.get b4 = some (.cells (Lol l[i]!) 99 1) := set_get hs5
    have n5 := set_n hs5
    have o5 := set_old hs5
    have k5 : Keep Hx H5 := keep_put k4 (by omega) o5 n5
    have hlx5 := hlx.keep k5
    obtain ⟨u, hu, hur⟩ := hlx5.slice (i := (i : Int)) (kd := .i64) unOs szLo (by omega) (by rw [List.length_map]; omega)
    rw [← List.map_take, show ((i : Int)).toNat = i by omega] at hur
    have htl : (l.take i).length = i := by rw [List.length_take]; omega
    have hul := lo_len hur
    rw [htl] at hul
    repeat' first
      | refine CO.cons rfl ?_
      | refine CO.nil ?_
      | refine CV.seq ?_
      | refine CV.region callees ?_
      | refine CV.block ?_
      | (refine ⟨_, hu, ?_⟩)
      | (refine ⟨_, hul, ?_⟩)
      | fail
    refine CV.loopc ?_
    refine WCv.rounds callees false (α := Nat) (fun j => [(0, v), (7, v), (8, VI l.length), (9, VI i), (4, .pointer (some ⟨b4, 0, none⟩)), (16, u), (17, VI i), (18, VI j)]) (fun j Hz => j ≤ i ∧ (∀ k, k < j → contra l[i]! l[k]! = false) ∧ Hz.get b4 = some (.cells (Lol l[i]!) 99 1) ∧ Keep H5 Hz ∧ b4 < Hz.n) (fun j => i - j) (0) (by repeat' first | exact trivial | refine ⟨rfl, ?_⟩ | refine ⟨slot_int (by (try simp only [Int.toNat_natCast]); omega), ?_⟩) ?_ ?_
    · exact ⟨by omega, fun k h => by omega, hg5, Keep.refl _, by omega⟩
    rintro j Hy ⟨hj, hcj, hgy, ky, ly⟩ hBy
    have huy := hur.keep ky
    have kall := (kx.trans k5).trans ky
    by_cases hj2 : j < i
    · have hld := lo_load huy (j := j) (by omega)
      rw [take_at hi hj2] at hld
      repeat' first
        | refine CO.cons rfl ?_
        | refine CO.nil ?_
        | refine CV.seq ?_
        | refine CV.region callees ?_
        | refine CV.cond ?_
        | refine CV.block ?_
        | refine CV.skip ?_
        | (refine ⟨_, lo_addr huy (by omega) (by omega), ?_⟩)
        | (refine ⟨_, hld, ?_⟩)
        | (refine ⟨_, _, alLo, ?_⟩)
        | (refine ⟨fun _ => ?_, fun _ => ?_⟩ <;> first | (exfalso; omega) | skip)
        | fail
      generalize hs6 : Heap.new Hy _ = H6
      have hg6 := new_get hs6
      have k6 := new_keep hs6
      have n6 := new_n hs6
      obtain ⟨b6, hbn6⟩ : ∃ b, Heap.n Hy = b := ⟨_, rfl⟩
      rw [hbn6] at hg6 n6 ⊢
      repeat' first
        | fail
      refine ⟨_, _, stLo hg6, by omega, ?_⟩
      generalize hs7 : Heap.set H6 b6 _ = H7
      have hg7 : H7.get b6 = some (.cells (Lol l[j]!) 99 1) := set_get hs7
      have n7 := set_n hs7
      have o7 := set_old hs7
      have k7 : Keep Hy H7 := keep_put k6 (by omega) o7 n7
      have l7 := k7.1
      repeat' first
        | refine CO.cons rfl ?_
        | refine CO.nil ?_
        | refine CV.seq ?_
        | refine CV.region callees ?_
        | (refine ⟨_, ldLo ((k7.2 b4 (by omega)).trans hgy), ?_⟩)
        | (refine ⟨_, ldLo hg7, ?_⟩)
        | fail
      refine (contradict_spec (by omega)).mono ?_
      cases hc : contra l[i]! l[j]!
      · rintro r H8 ⟨rfl, k8⟩
        have l8 := k8.1
        have k78 := k7.trans k8
        repeat' first
          | refine CO.cons rfl ?_
          | refine CO.nil ?_
          | refine CV.region callees ?_
          | refine CV.cond ?_
          | refine CV.skip ?_
          | refine ⟨(⟨by omega, by omega⟩ : inI64 _), ?_⟩
          | fail
        refine ⟨(j + 1), (by repeat' first | exact trivial | refine ⟨rfl, ?_⟩ | refine ⟨slot_int (by (try simp only [Int.toNat_natCast]); omega), ?_⟩), (by (try dsimp only); omega), ?_⟩
        refine ⟨by omega, fun k hk => ?_, (k78.2 b4 (by omega)).trans hgy, ky.trans k78, by omega⟩
        by_cases e : k = j
        · subst e; exact hc
        · exact hcj k (by omega)
      · rintro r H8 ⟨rfl, k8⟩
        repeat' first
          | refine CO.cons rfl ?_
          | refine CO.nil ?_
          | refine CV.seq ?_
          | refine CV.region callees ?_
          | refine CV.cond ?_
          | refine CV.ret ?_
          | fail
        exact ⟨rfl, ⟨false, rfl, by simp, fun h => by rw [h i hi2 j hj2] at hc; cases hc⟩, (kall.trans k7).trans k8⟩
    obtain rfl : j = i := by omega
    repeat' first
      | refine CO.cons rfl ?_
      | refine CO.nil ?_
      | refine CV.seq ?_
      | refine CV.region callees ?_
      | refine CV.cond ?_
      | refine CV.exit ?_
      | refine ⟨(⟨by omega, by omega⟩ : inI64 _), ?_⟩
      | (refine ⟨fun _ => ?_, fun _ => ?_⟩ <;> first | (exfalso; omega) | skip)
      | fail
    refine ⟨(j + 1), (by repeat' first | exact trivial | refine ⟨rfl, ?_⟩ | refine ⟨slot_int (by (try simp only [Int.toNat_natCast]); omega), ?_⟩), (by (try dsimp only); omega), ?_⟩
    refine ⟨by omega, fun a ha k hk => ?_, kall⟩
    by_cases e : a = j
    · subst e; exact hcj k hk
    · exact hac a (by omega) k hk
  obtain rfl : i = l.length := by omega
  repeat' first
    | refine CO.cons rfl ?_
    | refine CO.nil ?_
    | refine CV.seq ?_
    | refine CV.region callees ?_
    | refine CV.cond ?_
    | refine CV.exit ?_
    | refine CV.ret ?_
    | (refine ⟨fun _ => ?_, fun _ => ?_⟩ <;> first | (exfalso; omega) | skip)
    | fail
  exact ⟨rfl, ⟨true, rfl, fun _ => hac, fun _ => rfl⟩, kx⟩
def wsum : List Lo → Int
  | [] => 0
  | x :: t => x.w + wsum t
theorem wsum_app : ∀ {a b : List Lo}, wsum (a ++ b) = wsum a + wsum b
  | [], b => by simp [wsum]
  | x :: a, b => by simp only [List.cons_append, wsum, wsum_app]; omega
theorem wsum_bd : ∀ {l : List Lo}, (∀ x ∈ l, 0 ≤ x.w ∧ x.w ≤ 1000) → 0 ≤ wsum l ∧ wsum l ≤ 1000 * l.length
  | [], _ => by simp [wsum]
  | x :: t, h => by
    have h1 := h x (List.mem_cons_self ..)
    have h2 := wsum_bd (l := t) fun y hy => h y (List.mem_cons_of_mem _ hy)
    simp only [wsum, List.length_cons]
    omega
set_option maxHeartbeats 4000000 in
set_option maxRecDepth 100000 in
theorem worthOf_spec [Orc] {B : Nat} {H : Heap} {v : Value} {l : List Lo} (hB : B ≤ H.n) (hl : RowS 4 H v (l.map Lol)) (hn : l.length ≤ 100) (hw : ∀ x ∈ l, 0 ≤ x.w ∧ x.w ≤ 1000) :
    CallB Try.prog B 98 [v] H (fun r H' => r = VI (wsum l) ∧ Keep H H') := by
  refine CV.enter callees false (Orc.hv rfl rfl) Try.func98 rfl (by kernel_rfl) (Nat.le_of_ble_eq_true rfl) hB ?_ (Orc.hw rfl rfl)
  repeat' first
    | refine CO.cons rfl ?_
    | refine CO.nil ?_
    | refine CV.seq ?_
    | refine CV.region callees ?_
    | refine CV.block ?_
    | (refine ⟨_, lo_len hl, ?_⟩)
    | fail
  refine CV.loopc ?_
  refine WCv.rounds callees false (α := Nat × Int) (fun (i, s) => [(3, VI s), (6, v), (7, VI l.length), (8, VI i)]) (fun (i, s) Hz => i ≤ l.length ∧ s = wsum (l.take i) ∧ Keep H Hz) (fun (i, s) => l.length - i) (0, 0) (by repeat' first | exact trivial | refine ⟨rfl, ?_⟩ | refine ⟨slot_int (by (try simp only [Int.toNat_natCast]); omega), ?_⟩) ?_ ?_
  · exact ⟨by omega, rfl, Keep.refl _⟩
  rintro ⟨i, s⟩ Hx ⟨hi, rfl, kx⟩ hBx
  have hlx := hl.keep kx
  by_cases hi2 : i < l.length
  · have b1 := wsum_bd (l := l.take i) fun x hx => hw x (List.mem_of_mem_take hx)
    rw [List.length_take] at b1
    have b2 := hw l[i]! (by rw [getElem!_pos l i hi2]; exact List.getElem_mem _)
    repeat' first
      | refine CO.cons rfl ?_
      | refine CO.nil ?_
      | refine CV.seq ?_
      | refine CV.region callees ?_
      | refine CV.cond ?_
      | refine CV.block ?_
      | refine CV.skip ?_
      | (refine ⟨_, lo_addr hlx (by omega) (by omega), ?_⟩)
      | (refine ⟨_, lo_load hlx hi2, ?_⟩)
      | (refine ⟨_, _, alLo, ?_⟩)
      | (refine ⟨fun _ => ?_, fun _ => ?_⟩ <;> first | (exfalso; omega) | skip)
      | fail
    generalize hs4 : Heap.new Hx _ = H4
    have hg4 := new_get hs4
    have k4 := new_keep hs4
    have n4 := new_n hs4
    obtain ⟨b4, hbn4⟩ : ∃ b, Heap.n Hx = b := ⟨_, rfl⟩
    rw [hbn4] at hg4 n4 ⊢
    repeat' first
      | fail
    refine ⟨_, _, stLo hg4, by omega, ?_⟩
    generalize hs5 : Heap.set H4 b4 _ = H5
    have hg5 : H5.get b4 = some (.cells (Lol l[i]!) 99 1) := set_get hs5
    have n5 := set_n hs5
    have o5 := set_old hs5
    have k5 : Keep Hx H5 := keep_put k4 (by omega) o5 n5
    obtain ⟨x, hx⟩ : ∃ x, l[i]! = x := ⟨_, rfl⟩
    have hsn : wsum (l.take (i + 1)) = wsum (l.take i) + x.w := by rw [one_at hi2, wsum_app, hx]; simp [wsum]
    rw [hx] at hg5 b2
    repeat' first
      | refine CO.cons rfl ?_
      | refine CO.nil ?_
      | refine CV.region callees ?_
      | refine ⟨(⟨by omega, by omega⟩ : inI64 _), ?_⟩
      | (refine ⟨_, fS foO3 (by decide), ?_⟩)
      | (refine ⟨_, cell_load ag3 hg5 rfl, ?_⟩)
      | fail
    refine ⟨(i + 1, wsum (l.take i) + x.w), (by repeat' first | exact trivial | refine ⟨rfl, ?_⟩ | refine ⟨slot_int (by (try simp only [Int.toNat_natCast]); omega), ?_⟩), (by (try dsimp only); omega), ?_⟩
    exact ⟨by omega, hsn.symm, kx.trans k5⟩
  obtain rfl : i = l.length := by omega
  repeat' first
    | refine CO.cons rfl ?_
    | refine CO.nil ?_
    | refine CV.seq ?_
    | refine CV.region callees ?_
    | refine CV.cond ?_
    | refine CV.exit ?_
    | refine CV.ret ?_
    | (refine ⟨fun _ => ?_, fun _ => ?_⟩ <;> first | (exfalso; omega) | skip)
    | fail
  exact ⟨rfl, by rw [List.take_length], kx⟩
/-- The first error of loans. -/
def firstLo : List Lo → Int
  | [] => 0
  | x :: t => if loE x = 0 then firstLo t else loE x
theorem firstLo_all : ∀ {l : List Lo}, firstLo l = 0 → ∀ x ∈ l, loE x = 0
  | a :: t, h, x, hx => by
    simp only [firstLo] at h
    by_cases e : loE a = 0
    · rw [if_pos e] at h
      rcases List.mem_cons.1 hx with rfl | hx
      · exact e
      · exact firstLo_all h x hx
    · rw [if_neg e] at h; exact absurd h e
theorem loE_w {x : Lo} (h : loE x = 0) : 0 ≤ x.w ∧ x.w ≤ 1000 := by
  unfold loE at h
  cases hc : (inB x.t 0 49 && (inB x.f 0 100000 && (inB x.o 0 100000 && inB x.w 0 1000))) with
  | false => rw [hc, cond_false] at h; cases h
  | true =>
    simp only [Bool.and_eq_true, inB, decide_eq_true_eq] at hc
    exact hc.2.2.2
theorem firstLo_of : ∀ {l : List Lo}, (∀ x ∈ l, loE x = 0) → firstLo l = 0
  | [], _ => rfl
  | a :: t, h => by
    simp only [firstLo]
    rw [if_pos (h a (List.mem_cons_self ..))]
    exact firstLo_of fun x hx => h x (List.mem_cons_of_mem _ hx)
def lonE (l : List Lo) : Int := if 12 < l.length then 8 else firstLo l
end Go.Proofs.Ytjjmnfgnlcbfhaa
