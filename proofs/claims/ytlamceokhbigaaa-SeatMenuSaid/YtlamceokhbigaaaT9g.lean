
/- Rules that must be kept; prices. -/
import Derived.Test.YtlamceokhbigaaaT8g
set_option linter.unusedVariables false
set_option linter.unusedSimpArgs false
namespace Go.Proofs.Ytlamceokhbigaaa
open Go.AI
/-- The first rules that must be kept, as bits. -/
def strN (rs : List Ru) : Nat → Nat
  | 0 => 0
  | i + 1 => bif rs[i]!.wt == 0 then setB (strN rs i) i else strN rs i
/-- Whether a number is one of the bits. -/
def hasN (N i : Nat) : Bool := (N >>> i) &&& 1 == 1
set_option maxRecDepth 100000 in
theorem hasB_spec {B : Nat} {H : Heap} {N i : Nat} (hB : B ≤ H.n) (hN : N < 2 ^ 64) (hi : i < 64) :
    CallB Try.prog B 120 [VU N, VI i] H (fun v H' => v = .bool (hasN N i) ∧ H' = H) := by
  have hs : N >>> (i : Int).toNat < 2 ^ 64 := Nat.lt_of_le_of_lt (by rw [Nat.shiftRight_eq_div_pow]; exact Nat.div_le_self _ _) hN
  have hIt : (i : Int).toNat = i := by omega
  refine CV.enter callees false rfl Try.func120 rfl (by kernel_rfl) (Nat.le_of_ble_eq_true rfl) hB ?_
  repeat' first
    | refine CO.cons rfl ?_
    | refine CO.nil ?_
    | refine CV.seq ?_
    | refine CV.region callees ?_
    | refine CV.ret ?_
    | (refine ⟨_, fun tm ha => shrUu rfl (ev_tmp ha rfl) (ev_tmp ha rfl) (by omega) (by omega), ?_⟩)
    | (refine ⟨_, fun tm ha => andUu (b := 1) rfl (ev_tmp ha rfl) rfl hs (by decide), ?_⟩)
    | (refine ⟨fun _ => ?_, fun _ => ?_⟩ <;> first | (exfalso; omega) | skip)
    | fail
  all_goals
    rename_i h
    refine ⟨rfl, ?_, rfl⟩
    rw [hIt] at h
    unfold hasN
    congr 1
    symm
    first
      | (rw [beq_iff_eq]; omega)
      | (rw [beq_eq_false_iff_ne]; omega)
theorem sl_len {X : Heap} {b n c : Nat} : alen Try.prog X 26 (.slice (some ⟨b, 0, none⟩) n c) = some (VI n) := by simp [alen, un22]
theorem sl_adr {b n c : Nat} {i : Int} (h0 : 0 ≤ i) (h1 : i < n) : aindexAddr Try.prog 26 (.slice (some ⟨b, 0, none⟩) n c) (.int .i64 i) = some (.pointer (some ⟨b, i.toNat, none⟩)) := by
  simp [aindexAddr, asIdx, un22, sz3, h0, h1]
def sumI : List Int → Int
  | [] => 0
  | x :: l => x + sumI l
theorem sumI_app : ∀ {l : List Int} {x : Int}, sumI (l ++ [x]) = sumI l + x
  | [], x => by simp [sumI]
  | y :: l, x => by simp only [List.cons_append, sumI, sumI_app]; omega
theorem sumI_bd {c : Int} (hc : 0 ≤ c) : ∀ {l : List Int}, (∀ x ∈ l, 0 ≤ x ∧ x ≤ c) → 0 ≤ sumI l ∧ sumI l ≤ c * l.length
  | [], _ => by simp [sumI]
  | x :: l, h => by
    have h1 := h x (List.mem_cons_self ..)
    have h2 := sumI_bd hc (l := l) fun y hy => h y (List.mem_cons_of_mem _ hy)
    simp only [sumI, List.length_cons, Int.natCast_add, Int.mul_add]
    omega
set_option maxRecDepth 100000 in
theorem sum_spec {B b c k : Nat} {H : Heap} {e : TypeId} {xs : List Int} (hB : B ≤ H.n) (hg : H.get b = some (.cells (xs.map VI) e k)) (hx : ∀ x ∈ xs, 0 ≤ x ∧ x ≤ 1000) (hl : xs.length ≤ 100) :
    CallB Try.prog B 121 [.slice (some ⟨b, 0, none⟩) xs.length c] H (fun v H' => v = VI (sumI xs) ∧ H' = H) := by
  refine CV.enter callees false rfl Try.func121 rfl (by kernel_rfl) (Nat.le_of_ble_eq_true rfl) hB ?_
  repeat' first
    | refine CO.cons rfl ?_
    | refine CO.nil ?_
    | refine CV.seq ?_
    | refine CV.region callees ?_
    | refine CV.block ?_
    | (refine ⟨_, sl_len, ?_⟩)
    | fail
  refine CV.loopc ?_
  refine WCv.rounds callees false (α := Nat × Int) (fun (i, s) => [(3, VI s), (6, .slice (some ⟨b, 0, none⟩) xs.length c), (7, VI xs.length), (8, VI i)]) (fun (i, s) Hz => i ≤ xs.length ∧ s = sumI (xs.take i) ∧ Hz = H) (fun (i, s) => xs.length - i) (0, 0) (by repeat' first | exact trivial | refine ⟨rfl, ?_⟩ | refine ⟨slot_int (by (try simp only [Int.toNat_natCast]); omega), ?_⟩) ?_ ?_
  · exact ⟨by omega, rfl, rfl⟩
  rintro ⟨i, s⟩ Hx ⟨hi, rfl, rfl⟩ hBx
  by_cases hi2 : i < xs.length
  · have hxi : (xs.map VI)[(i : Int).toNat]? = some (VI xs[i]!) := by
      rw [show (i : Int).toNat = i by omega, List.getElem?_map, List.getElem?_eq_getElem hi2, getElem!_pos xs i hi2]; rfl
    have b1 := sumI_bd (c := 1000) (by decide) (l := xs.take i) fun x hm => hx x (List.mem_of_mem_take hm)
    rw [List.length_take] at b1
    have b2 := hx xs[i]! (by rw [getElem!_pos xs i hi2]; exact List.getElem_mem _)
    repeat' first
      | refine CO.cons rfl ?_
      | refine CO.nil ?_
      | refine CV.seq ?_
      | refine CV.region callees ?_
      | refine CV.cond ?_
      | refine CV.block ?_
      | refine CV.skip ?_
      | refine ⟨(⟨by omega, by omega⟩ : inI64 _), ?_⟩
      | (refine ⟨_, sl_adr (by omega) (by omega), ?_⟩)
      | (refine ⟨_, cell_load ag3 hg hxi, ?_⟩)
      | (refine ⟨fun _ => ?_, fun _ => ?_⟩ <;> first | (exfalso; omega) | skip)
      | fail
    refine ⟨(i + 1, sumI (xs.take i) + xs[i]!), (by repeat' first | exact trivial | refine ⟨rfl, ?_⟩ | refine ⟨slot_int (by (try simp only [Int.toNat_natCast]); omega), ?_⟩), (by (try dsimp only); omega), ?_⟩
    exact ⟨by omega, by rw [one_at hi2, sumI_app], rfl⟩
  obtain rfl : i = xs.length := by omega
  repeat' first
    | refine CO.cons rfl ?_
    | refine CO.nil ?_
    | refine CV.seq ?_
    | refine CV.region callees ?_
    | refine CV.cond ?_
    | refine CV.exit ?_
    | refine CV.ret ?_
    | (refine ⟨fun _ => ?_, fun _ => ?_⟩ <;> first | (exfalso; omega) | skip)
    | fail
  exact ⟨rfl, by rw [List.take_length], rfl⟩
/-- The weights of the first rules that are not kept. -/
def wtsN (N : Nat) (rs : List Ru) : Nat → List Int
  | 0 => [0, 0, 0, 0, 0, 0, 0, 0, 0, 0, 0, 0]
  | i + 1 => bif hasN N i then (wtsN N rs i).set i rs[i]!.wt else wtsN N rs i
theorem wtsN_len {N : Nat} {rs : List Ru} : ∀ i, (wtsN N rs i).length = 12
  | 0 => rfl
  | i + 1 => by
    unfold wtsN
    cases hasN N i with
    | true => rw [cond_true, List.length_set]; exact wtsN_len i
    | false => exact wtsN_len i
theorem wtsN_bd {N : Nat} {rs : List Ru} (h : ∀ i, i < rs.length → 0 ≤ rs[i]!.wt ∧ rs[i]!.wt ≤ 1000) : ∀ i, i ≤ rs.length → ∀ x ∈ wtsN N rs i, 0 ≤ x ∧ x ≤ 1000
  | 0, _, x, hx => by
    simp only [wtsN, List.mem_cons, List.not_mem_nil, or_false, or_self] at hx
    omega
  | i + 1, hi, x, hx => by
    unfold wtsN at hx
    cases hh : hasN N i with
    | true =>
      rw [hh, cond_true] at hx
      rcases List.mem_or_eq_of_mem_set hx with h1 | h1
      · exact wtsN_bd h i (by omega) x h1
      · rw [h1]; exact h i (by omega)
    | false =>
      rw [hh, cond_false] at hx
      exact wtsN_bd h i (by omega) x hx
/-- The price of an order that does not keep these rules. -/
def priceN (N : Nat) (rs : List Ru) : Int := sumI (wtsN N rs rs.length)
theorem un149 : Try.prog.underlying 149 = some (.array 12 3) := by kernel_rfl
theorem zero149 : zeroCellsW Try.prog 149 = some (([0, 0, 0, 0, 0, 0, 0, 0, 0, 0, 0, 0] : List Int).map VI) := by kernel_rfl
theorem al149 {H : Heap} : sAlloc Try.prog H 149 = some (.pointer (some ⟨H.n, 0, none⟩), H.new (.cells (([0, 0, 0, 0, 0, 0, 0, 0, 0, 0, 0, 0] : List Int).map VI) 149 1), H.n) := alloc_ofW zero149
theorem arr12 {b i : Nat} {k : Int} {kd : IntKind} (h0 : 0 ≤ k) (h1 : k < 12) : aindexAddr Try.prog 149 (.pointer (some ⟨b, i, none⟩)) (.int kd k) = some (.pointer (some ⟨b, i + k.toNat * 1, none⟩)) := array_addrW un149 sz3 h0 h1
theorem slice149 {b : Nat} : aslice Try.prog 149 (.pointer (some ⟨b, 0, none⟩)) none none = some (.slice (some ⟨b, 0, none⟩) 12 1) := by
  simp [aslice, un149, bound, sz3]
set_option maxHeartbeats 8000000 in
set_option maxRecDepth 100000 in
theorem priceOf_spec {B N : Nat} {H : Heap} {gv rv : Value} {gs : List Gu} {rs : List Ru} (hB : B ≤ H.n) (hg : RowS 5 H gv (gs.map Gul)) (hr : RowS 4 H rv (rs.map Rul)) (hm : rs.length ≤ 12) (hN : N < 2 ^ 64) (hw : ∀ i, i < rs.length → 0 ≤ rs[i]!.wt ∧ rs[i]!.wt ≤ 1000) :
    CallB Try.prog B 71 [Pav gv rv, VU N] H (fun v H' => v = VI (priceN N rs) ∧ Keep H H') := by
  refine CV.enter callees false rfl Try.func71 rfl (by kernel_rfl) (Nat.le_of_ble_eq_true rfl) hB ?_
  repeat' first
    | refine CO.cons rfl ?_
    | refine CV.seq ?_
    | refine CV.region callees ?_
    | fail
  refine ⟨(by simp only [notTuple]), ?_⟩
  rw [boxP hg.cells.1 hr.cells.1]
  generalize hs0 : Heap.new H _ = H0
  have hg0 := new_get hs0
  have k0 := new_keep hs0
  have n0 := new_n hs0
  obtain ⟨b0, hbn0⟩ : ∃ b, Heap.n H = b := ⟨_, rfl⟩
  rw [hbn0] at hg0 n0 ⊢
  repeat' first
    | refine CO.cons rfl ?_
    | refine CO.nil ?_
    | refine CV.seq ?_
    | refine CV.region callees ?_
    | (refine ⟨_, _, al149, ?_⟩)
    | fail
  generalize hs1 : Heap.new H0 _ = H1
  have hg1 := new_get hs1
  have k1 := new_keep hs1
  have n1 := new_n hs1
  obtain ⟨b1, hbn1⟩ : ∃ b, Heap.n H0 = b := ⟨_, rfl⟩
  rw [hbn1] at hg1 n1 ⊢
  have hr1 := (hr.keep k0).keep k1
  have hP1 := (k1.2 b0 (by omega)).trans hg0
  repeat' first
    | refine CO.cons rfl ?_
    | refine CO.nil ?_
    | refine CV.block ?_
    | (refine ⟨_, fS foP1 (by decide), ?_⟩)
    | (refine ⟨_, cell_load ag23r hP1 rfl, ?_⟩)
    | (refine ⟨_, rs_len hr1, ?_⟩)
    | fail
  refine CV.loopc ?_
  refine WCv.rounds callees false (α := Nat) (fun i => [(1, VU N), (5, .pointer (some ⟨b1, 0, none⟩)), (9, rv), (10, VI rs.length), (11, VI i)]) (fun i Hz => i ≤ rs.length ∧ Hz.get b1 = some (.cells ((wtsN N rs i).map VI) 149 1) ∧ Keep H Hz ∧ b1 < Hz.n) (fun i => rs.length - i) (0) (by repeat' first | exact trivial | refine ⟨rfl, ?_⟩ | refine ⟨slot_int (by (try simp only [Int.toNat_natCast]); omega), ?_⟩) ?_ ?_
  · exact ⟨by omega, hg1, k0.trans k1, by omega⟩
  rintro i Hx ⟨hi, hgx, kx, lx⟩ hBx
  have hrx := hr.keep kx
  by_cases hi2 : i < rs.length
  · repeat' first
      | refine CO.cons rfl ?_
      | refine CO.nil ?_
      | refine CV.seq ?_
      | refine CV.region callees ?_
      | refine CV.cond ?_
      | refine CV.block ?_
      | refine CV.skip ?_
      | (refine ⟨_, rs_addr hrx (by omega) (by omega), ?_⟩)
      | (refine ⟨_, rs_load hrx hi2, ?_⟩)
      | (refine ⟨_, _, al81, ?_⟩)
      | (refine ⟨fun _ => ?_, fun _ => ?_⟩ <;> first | (exfalso; omega) | skip)
      | fail
    generalize hs4 : Heap.new Hx _ = H4
    have hg4 := new_get hs4
    have k4 := new_keep hs4
    have n4 := new_n hs4
    obtain ⟨b4, hbn4⟩ : ∃ b, Heap.n Hx = b := ⟨_, rfl⟩
    rw [hbn4] at hg4 n4 ⊢
    repeat' first
      | fail
    refine ⟨_, _, st81 hg4, by omega, ?_⟩
    generalize hs5 : Heap.set H4 b4 _ = H5
    have hg5 : H5.get b4 = some (.cells (Rul rs[i]!) 81 1) := set_get hs5
    have n5 := set_n hs5
    have o5 := set_old hs5
    have k5 : Keep Hx H5 := keep_put k4 (by omega) o5 n5
    have l5 := k5.1
    have hgx5 := (k5.2 b1 (by omega)).trans hgx
    have hl := cell_load (i := 0 + 3) ag3 hg5 (rfl : (Rul rs[i]!)[3]? = some (VI rs[i]!.wt))
    repeat' first
      | refine CO.cons rfl ?_
      | refine CO.nil ?_
      | refine CV.seq ?_
      | refine CV.region callees ?_
      | fail
    refine (hasB_spec (by omega) hN (show i < 64 by omega)).mono ?_
    have hwt : wtsN N rs (i + 1) = bif hasN N i then (wtsN N rs i).set i rs[i]!.wt else wtsN N rs i := rfl
    generalize hasN N i = c at hwt ⊢
    rintro v H6 ⟨rfl, rfl⟩
    cases c
    · repeat' first
        | refine CO.cons rfl ?_
        | refine CO.nil ?_
        | refine CV.region callees ?_
        | refine CV.cond ?_
        | refine CV.skip ?_
        | refine ⟨(⟨by omega, by omega⟩ : inI64 _), ?_⟩
        | fail
      refine ⟨(i + 1), (by repeat' first | exact trivial | refine ⟨rfl, ?_⟩ | refine ⟨slot_int (by (try simp only [Int.toNat_natCast]); omega), ?_⟩), (by (try dsimp only); omega), ?_⟩
      exact ⟨by omega, by rw [hwt]; exact hgx5, kx.trans k5, by omega⟩
    · repeat' first
        | refine CO.cons rfl ?_
        | refine CO.nil ?_
        | refine CV.region callees ?_
        | refine CV.cond ?_
        | (refine ⟨_, fS foR3 (by decide), ?_⟩)
        | (refine ⟨_, hl, ?_⟩)
        | (refine ⟨_, arr12 (by omega) (by omega), ?_⟩)
        | fail
      refine ⟨_, _, store_row (i := 0 + ((i : Int)).toNat * 1) sz3 hgx5 (by rw [List.length_map, wtsN_len]; omega) rfl, by omega, ?_⟩
      rw [← List.map_set, show 0 + ((i : Int)).toNat * 1 = i by omega]
      generalize hs7 : Heap.set H6 b1 _ = H7
      have hg7 : H7.get b1 = some (.cells (((wtsN N rs i).set i rs[i]!.wt).map VI) 149 1) := set_get hs7
      have n7 := set_n hs7
      have o7 := set_old hs7
      repeat' first
        | refine CO.cons rfl ?_
        | refine CO.nil ?_
        | refine CV.region callees ?_
        | refine ⟨(⟨by omega, by omega⟩ : inI64 _), ?_⟩
        | fail
      refine ⟨(i + 1), (by repeat' first | exact trivial | refine ⟨rfl, ?_⟩ | refine ⟨slot_int (by (try simp only [Int.toNat_natCast]); omega), ?_⟩), (by (try dsimp only); omega), ?_⟩
      exact ⟨by omega, by rw [hwt]; exact hg7, keep_put (kx.trans k5) (by omega) o7 n7, by omega⟩
  obtain rfl : i = rs.length := by omega
  have hlen := wtsN_len (N := N) (rs := rs) rs.length
  have hs := sum_spec (B := B) (c := 1) (by omega) hgx (wtsN_bd hw _ (Nat.le_refl _)) (by omega)
  rw [hlen] at hs
  repeat' first
    | refine CO.cons rfl ?_
    | refine CO.nil ?_
    | refine CV.seq ?_
    | refine CV.region callees ?_
    | refine CV.cond ?_
    | refine CV.exit ?_
    | (refine ⟨_, slice149, ?_⟩)
    | (refine ⟨fun _ => ?_, fun _ => ?_⟩ <;> first | (exfalso; omega) | skip)
    | fail
  refine hs.mono ?_
  rintro v H6 ⟨rfl, rfl⟩
  repeat' first
    | refine CO.cons rfl ?_
    | refine CO.nil ?_
    | refine CV.ret ?_
    | fail
  exact ⟨rfl, rfl, kx⟩
end Go.Proofs.Ytlamceokhbigaaa

