
/- Parties that may be. -/
import Derived.Test.YtlamceokhbigaaaT2g
set_option linter.unusedVariables false
set_option linter.unusedSimpArgs false
namespace Go.AI
theorem RowS.slice_hi {P : Program} {s : Nat} {H : Heap} {v : Value} {rs : List (List Value)} {t e : TypeId} (h : RowS s H v rs) (ht : P.underlying t = some (.slice e)) (hs : sizeB P e = some s) {i : Int} {kd : IntKind} (h0 : 0 ≤ i) (h1 : i ≤ rs.length) :
    ∃ r, aslice P t v none (some (some (.int kd i))) = some r ∧ RowS s H r (rs.take i.toNat) := by
  rcases h.2 with ⟨rfl, rfl⟩ | ⟨rfl, rfl⟩ | ⟨b, o, c, cs, e', k, rfl, h2, h3, h4, h5, h6⟩
  · simp at h1
    have : i = 0 := by omega
    subst this
    exact ⟨.slice none 0 0, by simp [aslice, ht, hs, bound], by simp, .inl ⟨rfl, by simp⟩⟩
  · simp at h1
    have : i = 0 := by omega
    subst this
    exact ⟨anon, by simp [aslice, anon, ht, hs, bound], by simp, .inr (.inl ⟨rfl, by simp⟩)⟩
  · refine ⟨.slice (some ⟨b, o, none⟩) i.toNat c, by simp [aslice, ht, hs, bound, h0, h1], fun r hr => h.1 r (List.mem_of_mem_take hr), .inr (.inr ⟨b, o, c, cs, e', k, ?_, h2, h3, h4, ?_, ?_⟩)⟩
    · rw [List.length_take]; congr 1; omega
    · rw [List.length_take]
      have : min i.toNat rs.length * s ≤ rs.length * s := Nat.mul_le_mul_right _ (by omega)
      omega
    · intro j q r w hj hq
      rw [List.getElem?_take] at hj
      split at hj
      · exact h6 j q r w hj hq
      · cases hj
end Go.AI
namespace Go.Proofs.Ytlamceokhbigaaa
open Go.AI
/-- Guests that may be. -/
structure GsOk (gs : List Gu) : Prop where
  ok : ∀ i, i < gs.length → GuOk gs[i]!
  ne : ∀ i j, i < j → j < gs.length → gs[i]!.nm ≠ gs[j]!.nm
set_option maxHeartbeats 4000000 in
set_option maxRecDepth 100000 in
theorem checkGuests_spec {B : Nat} {H : Heap} {v : Value} {gs : List Gu} (hB : B ≤ H.n) (hv : RowS 5 H v (gs.map Gul)) (hl : gs.length ≤ 10) (h : GsOk gs) :
    CallB Try.prog B 74 [v] H (fun r H' => r = VI 0 ∧ Keep H H') := by
  refine CV.enter callees false rfl Try.func74 rfl (by kernel_rfl) (Nat.le_of_ble_eq_true rfl) hB ?_
  repeat' first
    | refine CO.cons rfl ?_
    | refine CO.nil ?_
    | refine CV.seq ?_
    | refine CV.region callees ?_
    | refine CV.block ?_
    | (refine ⟨_, gs_len hv, ?_⟩)
    | fail
  refine CV.loopc ?_
  refine WCv.rounds callees false (α := Nat) (fun i => [(0, v), (6, v), (7, VI gs.length), (8, VI i)]) (fun i Hz => i ≤ gs.length ∧ Keep H Hz) (fun i => gs.length - i) (0) (by repeat' first | exact trivial | refine ⟨rfl, ?_⟩ | refine ⟨slot_int (by (try simp only [Int.toNat_natCast]); omega), ?_⟩) ?_ ?_
  · exact ⟨by omega, Keep.refl _⟩
  rintro i Hx ⟨hi, kx⟩ hBx
  have lx := kx.1
  by_cases hi2 : i < gs.length
  · have hvx := hv.keep kx
    have h0 := h.ok i hi2
    repeat' first
      | refine CO.cons rfl ?_
      | refine CO.nil ?_
      | refine CV.seq ?_
      | refine CV.region callees ?_
      | refine CV.cond ?_
      | refine CV.block ?_
      | refine CV.skip ?_
      | (refine ⟨_, gs_addr hvx (by omega) (by omega), ?_⟩)
      | (refine ⟨_, gs_load hvx hi2, ?_⟩)
      | (refine ⟨_, _, al68, ?_⟩)
      | (refine ⟨fun _ => ?_, fun _ => ?_⟩ <;> first | (exfalso; omega) | skip)
      | fail
    generalize hs1 : Heap.new Hx _ = H1
    have hg1 := new_get hs1
    have k1 := new_keep hs1
    have n1 := new_n hs1
    obtain ⟨b1, hbn1⟩ : ∃ b, Heap.n Hx = b := ⟨_, rfl⟩
    rw [hbn1] at hg1 n1 ⊢
    repeat' first
      | fail
    refine ⟨_, _, st68 hg1, by omega, ?_⟩
    generalize hs2 : Heap.set H1 b1 _ = H2
    have hg2 : H2.get b1 = some (.cells (Gul gs[i]!) 68 1) := set_get hs2
    have n2 := set_n hs2
    have o2 := set_old hs2
    have k2 : Keep Hx H2 := keep_put k1 (by omega) o2 n2
    have l2 := k2.1
    repeat' first
      | refine CO.cons rfl ?_
      | refine CO.nil ?_
      | refine CV.seq ?_
      | refine CV.region callees ?_
      | (refine ⟨_, ld68 hg2, ?_⟩)
      | fail
    refine (checkGuest_spec (by omega) h0).mono ?_
    rintro r H3 ⟨rfl, k3⟩
    have l3 := k3.1
    have hg3 := (k3.2 b1 (by omega)).trans hg2
    have hv3 := hvx.keep (k2.trans k3)
    obtain ⟨u, hu, hur⟩ := hv3.slice_hi un22g sz68 (i := (i : Int)) (kd := .i64) (by omega) (by rw [List.length_map]; omega)
    rw [← List.map_take] at hur
    have hut : (i : Int).toNat = i := by omega
    rw [hut] at hur
    have htl : (gs.take i).length = i := by rw [List.length_take]; omega
    have htk : ∀ j, j < (gs.take i).length → Bytes (gs.take i)[j]!.nm ∧ (gs.take i)[j]!.nm ≠ gs[i]!.nm := fun j hj => by
      have hj2 : j < i := by omega
      have e : (gs.take i)[j]! = gs[j]! := by rw [getElem!_pos _ j hj, List.getElem_take, getElem!_pos gs j (by omega)]
      rw [e]
      exact ⟨(h.ok j (by omega)).nm.bytes, h.ne j i hj2 hi2⟩
    repeat' first
      | refine CO.cons rfl ?_
      | refine CO.nil ?_
      | refine CV.seq ?_
      | refine CV.region callees ?_
      | refine CV.cond ?_
      | refine CV.skip ?_
      | (refine ⟨_, hu, ?_⟩)
      | (refine ⟨(rfl : List.all _ cellLike = true), ?_⟩)
      | (refine ⟨fun _ => ?_, fun _ => ?_⟩ <;> first | (exfalso; omega) | skip)
      | fail
    refine (containsFunc_spec (g' := gs[i]!) (by omega) hur (by omega) hg3 (by omega) h0.nm.bytes htk).mono ?_
    rintro r H4 ⟨rfl, k4⟩
    repeat' first
      | refine CO.cons rfl ?_
      | refine CO.nil ?_
      | refine CV.region callees ?_
      | refine CV.cond ?_
      | refine CV.skip ?_
      | refine ⟨(⟨by omega, by omega⟩ : inI64 _), ?_⟩
      | fail
    refine ⟨(i + 1), (by repeat' first | exact trivial | refine ⟨rfl, ?_⟩ | refine ⟨slot_int (by (try simp only [Int.toNat_natCast]); omega), ?_⟩), (by (try dsimp only); omega), ?_⟩
    exact ⟨by omega, kx.trans (k2.trans (k3.trans k4))⟩
  repeat' first
    | refine CO.cons rfl ?_
    | refine CO.nil ?_
    | refine CV.seq ?_
    | refine CV.region callees ?_
    | refine CV.cond ?_
    | refine CV.exit ?_
    | refine CV.ret ?_
    | (refine ⟨fun _ => ?_, fun _ => ?_⟩ <;> first | (exfalso; omega) | skip)
    | fail
  exact ⟨rfl, rfl, kx⟩
/-- How many guests the rules of a kind name. -/
def nmd (k : Int) : Int := if k ≤ 3 then 2 else if k ≤ 5 then 1 else 0
set_option maxRecDepth 100000 in
theorem namedBy_spec {B : Nat} {H : Heap} {k : Int} (hB : B ≤ H.n) (h : 1 ≤ k ∧ k ≤ 6) :
    CallB Try.prog B 125 [VI k] H (fun r H' => r = VI (nmd k) ∧ H' = H) := by
  refine CV.enter callees false rfl Try.func125 rfl (by kernel_rfl) (Nat.le_of_ble_eq_true rfl) hB ?_
  repeat' first
    | refine CO.cons rfl ?_
    | refine CO.nil ?_
    | refine CV.seq ?_
    | refine CV.region callees ?_
    | refine CV.cond ?_
    | refine CV.block ?_
    | refine CV.skip ?_
    | refine CV.ret ?_
    | (refine ⟨fun _ => ?_, fun _ => ?_⟩ <;> first | (exfalso; omega) | skip)
    | fail
  all_goals
    refine ⟨rfl, ?_, rfl⟩
    unfold nmd
    congr 1
    repeat' split
    all_goals omega
theorem nmd_cases (k : Int) : ∃ nm, nmd k = nm ∧ (nm = 2 ∧ k ≤ 3 ∨ nm = 1 ∧ 3 < k ∧ k ≤ 5 ∨ nm = 0 ∧ 5 < k) := by
  refine ⟨_, rfl, ?_⟩
  unfold nmd
  repeat' split
  all_goals omega
/-- A rule for so many guests that may be. -/
structure RuOk (n : Int) (r : Ru) : Prop where
  k1 : 1 ≤ r.kd
  k6 : r.kd ≤ 6
  a : r.kd ≤ 5 → 0 ≤ r.a ∧ r.a < n
  a0 : 5 < r.kd → r.a = 0
  b : r.kd ≤ 3 → 0 ≤ r.b ∧ r.b < n ∧ r.a ≠ r.b
  b0 : 3 < r.kd → r.b = 0
  w : 0 ≤ r.wt
  w' : r.wt ≤ 1000
theorem bu153 {x y : Int} : abuild Try.prog 153 [(0, VI x), (1, VI y)] = some (.agg #[VI x, VI y]) := by kernel_rfl
theorem ix153a {x y : Int} : aindex Try.prog 153 (.agg #[VI x, VI y]) (VI 0) = some (VI x) := by kernel_rfl
theorem ix153b {x y : Int} : aindex Try.prog 153 (.agg #[VI x, VI y]) (VI 1) = some (VI y) := by kernel_rfl
set_option maxHeartbeats 8000000 in
set_option maxRecDepth 100000 in
theorem checkRule_spec {B : Nat} {H : Heap} {r : Ru} {n : Int} (hB : B ≤ H.n) (h : RuOk n r) (hn : 0 ≤ n) (hn1 : n ≤ 100) :
    CallB Try.prog B 75 [Ruv r, VI n] H (fun r H' => r = VI 0 ∧ Keep H H') := by
  obtain ⟨a1, a2, a3, a4, a5, a6, a7, a8⟩ := h
  refine CV.enter callees false rfl Try.func75 rfl (by kernel_rfl) (Nat.le_of_ble_eq_true rfl) hB ?_
  repeat' first
    | refine CO.cons rfl ?_
    | refine CV.seq ?_
    | refine CV.region callees ?_
    | fail
  refine ⟨(by simp only [notTuple]), ?_⟩
  rw [boxR]
  generalize hs0 : Heap.new H _ = H0
  have hg0 := new_get hs0
  have k0 := new_keep hs0
  have n0 := new_n hs0
  obtain ⟨b0, hbn0⟩ : ∃ b, Heap.n H = b := ⟨_, rfl⟩
  rw [hbn0] at hg0 n0 ⊢
  repeat' first
    | refine CO.cons rfl ?_
    | refine CO.nil ?_
    | refine CV.seq ?_
    | refine CV.region callees ?_
    | (refine ⟨_, fS foR0 (by decide), ?_⟩)
    | (refine ⟨_, cell_load ag3 hg0 rfl, ?_⟩)
    | fail
  refine (isWithin_yes (by omega) ⟨a1, a2⟩).mono ?_
  rintro r1 H1 ⟨rfl, rfl⟩
  repeat' first
    | refine CO.cons rfl ?_
    | refine CO.nil ?_
    | refine CV.seq ?_
    | refine CV.region callees ?_
    | refine CV.cond ?_
    | refine CV.skip ?_
    | (refine ⟨_, fS foR0 (by decide), ?_⟩)
    | (refine ⟨_, cell_load ag3 hg0 rfl, ?_⟩)
    | fail
  refine (namedBy_spec (by omega) ⟨a1, a2⟩).mono ?_
  rintro r1 H2 ⟨rfl, rfl⟩
  obtain ⟨nm, hnm, hn2⟩ := nmd_cases r.kd
  rw [hnm]
  repeat' first
    | refine CO.cons rfl ?_
    | refine CO.nil ?_
    | refine CV.seq ?_
    | refine CV.region callees ?_
    | refine CV.block ?_
    | (refine ⟨_, fS foR1 (by decide), ?_⟩)
    | (refine ⟨_, fS foR2 (by decide), ?_⟩)
    | (refine ⟨_, cell_load ag3 hg0 rfl, ?_⟩)
    | (refine ⟨_, bu153, ?_⟩)
    | fail
  refine CV.loopc ?_
  refine WCv.rounds callees false (α := Nat) (fun i => [(1, VI n), (2, .pointer (some ⟨b0, 0, none⟩)), (5, VI nm), (19, .agg #[VI r.a, VI r.b]), (20, VI i)]) (fun i Hz => i ≤ 2 ∧ Hz = H2) (fun i => 2 - i) (0) (by repeat' first | exact trivial | refine ⟨rfl, ?_⟩ | refine ⟨slot_int (by (try simp only [Int.toNat_natCast]); omega), ?_⟩) ?_ ?_
  · exact ⟨by omega, rfl⟩
  rintro i Hx ⟨hi, rfl⟩ hBx
  by_cases hi2 : i < 2
  · rcases (show i = 0 ∨ i = 1 by omega) with rfl | rfl
    · by_cases hk : 0 < nm
      · repeat' first
          | refine CO.cons rfl ?_
          | refine CO.nil ?_
          | refine CV.seq ?_
          | refine CV.region callees ?_
          | refine CV.cond ?_
          | refine CV.block ?_
          | refine CV.skip ?_
          | refine CO.consG rfl ?_
          | refine ⟨(⟨by omega, by omega⟩ : inI64 _), ?_⟩
          | (refine ⟨_, ix153a, ?_⟩)
          | (refine ⟨fun _ => ?_, fun _ => ?_⟩ <;> first | (exfalso; omega) | skip)
          | fail
        refine (isWithin_yes (by omega) (by omega)).mono ?_
        rintro r1 H3 ⟨rfl, rfl⟩
        repeat' first
          | refine CO.cons rfl ?_
          | refine CO.nil ?_
          | refine CV.seq ?_
          | refine CV.region callees ?_
          | refine CV.cond ?_
          | refine CV.skip ?_
          | refine CO.consG rfl ?_
          | refine ⟨(⟨by omega, by omega⟩ : inI64 _), ?_⟩
          | (refine ⟨fun _ => ?_, fun _ => ?_⟩ <;> first | (exfalso; omega) | skip)
          | fail
        refine ⟨(1), (by repeat' first | exact trivial | refine ⟨rfl, ?_⟩ | refine ⟨slot_int (by (try simp only [Int.toNat_natCast]); omega), ?_⟩), (by (try dsimp only); omega), ?_⟩
        exact ⟨by omega, rfl⟩
      · repeat' first
          | refine CO.cons rfl ?_
          | refine CO.nil ?_
          | refine CV.seq ?_
          | refine CV.region callees ?_
          | refine CV.cond ?_
          | refine CV.block ?_
          | refine CV.skip ?_
          | refine CO.consG rfl ?_
          | refine ⟨(⟨by omega, by omega⟩ : inI64 _), ?_⟩
          | (refine ⟨_, ix153a, ?_⟩)
          | (refine ⟨fun _ => ?_, fun _ => ?_⟩ <;> first | (exfalso; omega) | skip)
          | fail
        refine ⟨(1), (by repeat' first | exact trivial | refine ⟨rfl, ?_⟩ | refine ⟨slot_int (by (try simp only [Int.toNat_natCast]); omega), ?_⟩), (by (try dsimp only); omega), ?_⟩
        exact ⟨by omega, rfl⟩
    · by_cases hk : 1 < nm
      · repeat' first
          | refine CO.cons rfl ?_
          | refine CO.nil ?_
          | refine CV.seq ?_
          | refine CV.region callees ?_
          | refine CV.cond ?_
          | refine CV.block ?_
          | refine CV.skip ?_
          | refine CO.consG rfl ?_
          | refine ⟨(⟨by omega, by omega⟩ : inI64 _), ?_⟩
          | (refine ⟨_, ix153b, ?_⟩)
          | (refine ⟨fun _ => ?_, fun _ => ?_⟩ <;> first | (exfalso; omega) | skip)
          | fail
        refine (isWithin_yes (by omega) (by omega)).mono ?_
        rintro r1 H3 ⟨rfl, rfl⟩
        repeat' first
          | refine CO.cons rfl ?_
          | refine CO.nil ?_
          | refine CV.seq ?_
          | refine CV.region callees ?_
          | refine CV.cond ?_
          | refine CV.skip ?_
          | refine CO.consG rfl ?_
          | refine ⟨(⟨by omega, by omega⟩ : inI64 _), ?_⟩
          | (refine ⟨fun _ => ?_, fun _ => ?_⟩ <;> first | (exfalso; omega) | skip)
          | fail
        refine ⟨(2), (by repeat' first | exact trivial | refine ⟨rfl, ?_⟩ | refine ⟨slot_int (by (try simp only [Int.toNat_natCast]); omega), ?_⟩), (by (try dsimp only); omega), ?_⟩
        exact ⟨by omega, rfl⟩
      · repeat' first
          | refine CO.cons rfl ?_
          | refine CO.nil ?_
          | refine CV.seq ?_
          | refine CV.region callees ?_
          | refine CV.cond ?_
          | refine CV.block ?_
          | refine CV.skip ?_
          | refine CO.consG rfl ?_
          | refine ⟨(⟨by omega, by omega⟩ : inI64 _), ?_⟩
          | (refine ⟨_, ix153b, ?_⟩)
          | (refine ⟨fun _ => ?_, fun _ => ?_⟩ <;> first | (exfalso; omega) | skip)
          | fail
        refine ⟨(2), (by repeat' first | exact trivial | refine ⟨rfl, ?_⟩ | refine ⟨slot_int (by (try simp only [Int.toNat_natCast]); omega), ?_⟩), (by (try dsimp only); omega), ?_⟩
        exact ⟨by omega, rfl⟩
  repeat' first
    | refine CO.cons rfl ?_
    | refine CO.nil ?_
    | refine CV.seq ?_
    | refine CV.region callees ?_
    | refine CV.cond ?_
    | refine CV.skip ?_
    | refine CV.exit ?_
    | refine CO.consG rfl ?_
    | (refine ⟨_, fS foR1 (by decide), ?_⟩)
    | (refine ⟨_, fS foR2 (by decide), ?_⟩)
    | (refine ⟨_, fS foR3 (by decide), ?_⟩)
    | (refine ⟨_, cell_load ag3 hg0 rfl, ?_⟩)
    | (refine ⟨fun _ => ?_, fun _ => ?_⟩ <;> first | (exfalso; omega) | skip)
    | fail
  all_goals
    refine (isWithin_yes (by omega) ⟨a7, a8⟩).mono ?_
    rintro r1 H4 ⟨rfl, rfl⟩
    repeat' first
      | refine CO.cons rfl ?_
      | refine CO.nil ?_
      | refine CV.seq ?_
      | refine CV.region callees ?_
      | refine CV.cond ?_
      | refine CV.skip ?_
      | refine CV.ret ?_
      | fail
    exact ⟨rfl, rfl, k0⟩
/-- A party that may be. -/
structure PaOk (gs : List Gu) (rs : List Ru) : Prop where
  n1 : 1 ≤ gs.length
  n7 : gs.length ≤ 7
  gk : GsOk gs
  m : rs.length ≤ 12
  rk : ∀ i, i < rs.length → RuOk gs.length rs[i]!
set_option maxHeartbeats 8000000 in
set_option maxRecDepth 100000 in
theorem check_spec {B : Nat} {H : Heap} {gv rv : Value} {gs : List Gu} {rs : List Ru} (hB : B ≤ H.n) (hg : RowS 5 H gv (gs.map Gul)) (hr : RowS 4 H rv (rs.map Rul)) (h : PaOk gs rs) :
    CallB Try.prog B 25 [Pav gv rv] H (fun r H' => r = VI 0 ∧ Keep H H') := by
  have h1 := h.n1
  have h7 := h.n7
  have hm := h.m
  refine CV.enter callees false rfl Try.func25 rfl (by kernel_rfl) (Nat.le_of_ble_eq_true rfl) hB ?_
  repeat' first
    | refine CO.cons rfl ?_
    | refine CV.seq ?_
    | refine CV.region callees ?_
    | fail
  refine ⟨(by simp only [notTuple]), ?_⟩
  rw [boxP hg.cells.1 hr.cells.1]
  generalize hs0 : Heap.new H _ = H0
  have hg0 := new_get hs0
  have k0 := new_keep hs0
  have n0 := new_n hs0
  obtain ⟨b0, hbn0⟩ : ∃ b, Heap.n H = b := ⟨_, rfl⟩
  rw [hbn0] at hg0 n0 ⊢
  have hgv := hg.keep k0
  repeat' first
    | refine CO.cons rfl ?_
    | refine CO.nil ?_
    | refine CV.seq ?_
    | refine CV.region callees ?_
    | refine CV.cond ?_
    | refine CV.skip ?_
    | (refine ⟨_, fS foP0 (by decide), ?_⟩)
    | (refine ⟨_, cell_load ag22g hg0 rfl, ?_⟩)
    | (refine ⟨_, gs_len hgv, ?_⟩)
    | (refine ⟨fun _ => ?_, fun _ => ?_⟩ <;> first | (exfalso; omega) | skip)
    | fail
  refine (checkGuests_spec (by omega) hgv (by omega) h.gk).mono ?_
  rintro r H1 ⟨rfl, k1⟩
  have l1 := k1.1
  have hg1 := (k1.2 b0 (by omega)).trans hg0
  have hr1 := hr.keep (k0.trans k1)
  repeat' first
    | refine CO.cons rfl ?_
    | refine CO.nil ?_
    | refine CV.seq ?_
    | refine CV.region callees ?_
    | refine CV.cond ?_
    | refine CV.block ?_
    | refine CV.skip ?_
    | (refine ⟨_, fS foP1 (by decide), ?_⟩)
    | (refine ⟨_, cell_load ag23r hg1 rfl, ?_⟩)
    | (refine ⟨_, rs_len hr1, ?_⟩)
    | (refine ⟨fun _ => ?_, fun _ => ?_⟩ <;> first | (exfalso; omega) | skip)
    | fail
  refine CV.loopc ?_
  refine WCv.rounds callees false (α := Nat) (fun i => [(1, .pointer (some ⟨b0, 0, none⟩)), (26, rv), (27, VI rs.length), (28, VI i)]) (fun i Hz => i ≤ rs.length ∧ Keep H1 Hz) (fun i => rs.length - i) (0) (by repeat' first | exact trivial | refine ⟨rfl, ?_⟩ | refine ⟨slot_int (by (try simp only [Int.toNat_natCast]); omega), ?_⟩) ?_ ?_
  · exact ⟨by omega, Keep.refl _⟩
  rintro i Hx ⟨hi, kx⟩ hBx
  have lx := kx.1
  by_cases hi2 : i < rs.length
  · have hrx := hr1.keep kx
    have h0 := h.rk i hi2
    repeat' first
      | refine CO.cons rfl ?_
      | refine CO.nil ?_
      | refine CV.seq ?_
      | refine CV.region callees ?_
      | refine CV.cond ?_
      | refine CV.block ?_
      | refine CV.skip ?_
      | (refine ⟨_, rs_addr hrx (by omega) (by omega), ?_⟩)
      | (refine ⟨_, rs_load hrx hi2, ?_⟩)
      | (refine ⟨_, _, al81, ?_⟩)
      | (refine ⟨fun _ => ?_, fun _ => ?_⟩ <;> first | (exfalso; omega) | skip)
      | fail
    generalize hs2 : Heap.new Hx _ = H2
    have hg2 := new_get hs2
    have k2 := new_keep hs2
    have n2 := new_n hs2
    obtain ⟨b2, hbn2⟩ : ∃ b, Heap.n Hx = b := ⟨_, rfl⟩
    rw [hbn2] at hg2 n2 ⊢
    repeat' first
      | fail
    refine ⟨_, _, st81 hg2, by omega, ?_⟩
    generalize hs3 : Heap.set H2 b2 _ = H3
    have hg3 : H3.get b2 = some (.cells (Rul rs[i]!) 81 1) := set_get hs3
    have n3 := set_n hs3
    have o3 := set_old hs3
    have k3 : Keep Hx H3 := keep_put k2 (by omega) o3 n3
    have l3 := k3.1
    have hg3' := (k3.2 b0 (by omega)).trans ((kx.2 b0 (by omega)).trans hg1)
    have hgv3 := hgv.keep (k1.trans (kx.trans k3))
    repeat' first
      | refine CO.cons rfl ?_
      | refine CO.nil ?_
      | refine CV.seq ?_
      | refine CV.region callees ?_
      | (refine ⟨_, ld81 hg3, ?_⟩)
      | (refine ⟨_, fS foP0 (by decide), ?_⟩)
      | (refine ⟨_, cell_load ag22g hg3' rfl, ?_⟩)
      | (refine ⟨_, gs_len hgv3, ?_⟩)
      | fail
    refine (checkRule_spec (by omega) h0 (by omega) (by omega)).mono ?_
    rintro r H4 ⟨rfl, k4⟩
    repeat' first
      | refine CO.cons rfl ?_
      | refine CO.nil ?_
      | refine CV.seq ?_
      | refine CV.region callees ?_
      | refine CV.cond ?_
      | refine CV.skip ?_
      | refine ⟨(⟨by omega, by omega⟩ : inI64 _), ?_⟩
      | (refine ⟨fun _ => ?_, fun _ => ?_⟩ <;> first | (exfalso; omega) | skip)
      | fail
    refine ⟨(i + 1), (by repeat' first | exact trivial | refine ⟨rfl, ?_⟩ | refine ⟨slot_int (by (try simp only [Int.toNat_natCast]); omega), ?_⟩), (by (try dsimp only); omega), ?_⟩
    exact ⟨by omega, kx.trans (k3.trans k4)⟩
  repeat' first
    | refine CO.cons rfl ?_
    | refine CO.nil ?_
    | refine CV.seq ?_
    | refine CV.region callees ?_
    | refine CV.cond ?_
    | refine CV.exit ?_
    | refine CV.ret ?_
    | (refine ⟨fun _ => ?_, fun _ => ?_⟩ <;> first | (exfalso; omega) | skip)
    | fail
  exact ⟨rfl, rfl, k0.trans (k1.trans kx)⟩
end Go.Proofs.Ytlamceokhbigaaa

