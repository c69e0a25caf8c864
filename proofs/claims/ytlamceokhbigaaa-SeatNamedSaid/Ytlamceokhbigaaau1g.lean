
/- Which list comes first; who is invited. -/
import Derived.Test.Ytlamceokhbigaaau0g
set_option linter.unusedVariables false
set_option linter.unusedSimpArgs false
namespace Go.Proofs.Ytlamceokhbigaaa
open Go.AI
set_option maxRecDepth 100000 in
theorem compareL_spec {B : Nat} {H : Heap} {av bv : Value} {a b : List Int} (hB : B ≤ H.n) (ha : Ints H av a) (hb : Ints H bv b) (hn : a.length < 1000000) (hn2 : b.length < 1000000) :
    CallB Try.prog B 133 [av, bv] H (fun v H' => (∃ c, v = VI c ∧ (a.length = b.length → (c < 0 ↔ befL a b = true))) ∧ Keep H H') := by
  refine CV.enter callees false rfl Try.func133 rfl (by kernel_rfl) (Nat.le_of_ble_eq_true rfl) hB ?_
  repeat' first
    | refine CO.cons rfl ?_
    | refine CO.nil ?_
    | refine CV.seq ?_
    | refine CV.region callees ?_
    | refine CV.block ?_
    | refine ⟨_, ints_len (by assumption), ?_⟩
    | fail
  refine CV.loopc ?_
  refine WCv.rounds callees false (α := Nat) (fun i => [(0, av), (1, bv), (9, av), (10, VI a.length), (11, VI i)]) (fun i Hz => i ≤ a.length ∧ (a.length = b.length → befL (a.drop i) (b.drop i) = befL a b) ∧ Keep H Hz) (fun i => a.length - i) (0) (by repeat' first | exact trivial | refine ⟨rfl, ?_⟩ | refine ⟨slot_int (by (try simp only [Int.toNat_natCast]); omega), ?_⟩) ?_ ?_
  · exact ⟨by omega, fun _ => rfl, Keep.refl _⟩
  rintro i Hx ⟨hi, hw, kx⟩ hBx
  have lx := kx.1
  have hax : Ints Hx av a := Row.keep ha kx
  have hbx : Ints Hx bv b := Row.keep hb kx
  by_cases hi2 : i < a.length
  · have hai : a[(i : Int).toNat]! = a[i]! := rfl
    have hbi : b[(i : Int).toNat]! = b[i]! := rfl
    by_cases hl : i < b.length
    · repeat' first
        | refine CO.cons rfl ?_
        | refine CO.nil ?_
        | refine CV.seq ?_
        | refine CV.region callees ?_
        | refine CV.cond ?_
        | refine CV.block ?_
        | refine CV.skip ?_
        | refine ⟨_, ints_len (by assumption), ?_⟩
        | refine ⟨_, ints_addr (by assumption) (by omega) (by omega), ?_⟩
        | refine ⟨_, ints_load (by assumption) (by omega) (by omega), ?_⟩
        | (refine ⟨fun _ => ?_, fun _ => ?_⟩ <;> first | (exfalso; omega) | skip)
        | fail
      refine (compare_spec (by omega)).mono ?_
      rintro v H1 ⟨⟨c, rfl, hc⟩, k1⟩
      by_cases h0 : c = 0
      · repeat' first
          | refine CO.cons rfl ?_
          | refine CO.nil ?_
          | refine CV.seq ?_
          | refine CV.region callees ?_
          | refine CV.cond ?_
          | refine CV.skip ?_
          | refine ⟨(⟨by omega, by omega⟩ : inI64 _), ?_⟩
          | (refine ⟨fun _ => ?_, fun _ => ?_⟩ <;> first | (exfalso; omega) | skip)
          | fail
        refine ⟨(i + 1), (by repeat' first | exact trivial | refine ⟨rfl, ?_⟩ | refine ⟨slot_int (by (try simp only [Int.toNat_natCast]); omega), ?_⟩), (by (try dsimp only); omega), ?_⟩
        refine ⟨by omega, fun he => ?_, kx.trans k1⟩
        have h2 := hw he
        rw [drop_at hi2, drop_at hl] at h2
        simp only [befL] at h2
        rw [if_pos (show a[i]! = b[i]! by omega)] at h2
        exact h2
      · repeat' first
          | refine CO.cons rfl ?_
          | refine CO.nil ?_
          | refine CV.seq ?_
          | refine CV.region callees ?_
          | refine CV.cond ?_
          | refine CV.ret ?_
          | (refine ⟨fun _ => ?_, fun _ => ?_⟩ <;> first | (exfalso; omega) | skip)
          | fail
        refine ⟨rfl, ⟨c, rfl, fun he => ?_⟩, kx.trans k1⟩
        have h2 := hw he
        rw [drop_at hi2, drop_at hl] at h2
        simp only [befL] at h2
        rw [if_neg (show ¬ a[i]! = b[i]! by omega)] at h2
        rw [← h2, decide_eq_true_iff]
        omega
    · repeat' first
        | refine CO.cons rfl ?_
        | refine CO.nil ?_
        | refine CV.seq ?_
        | refine CV.region callees ?_
        | refine CV.cond ?_
        | refine CV.block ?_
        | refine CV.skip ?_
        | refine CV.ret ?_
        | refine ⟨_, ints_len (by assumption), ?_⟩
        | refine ⟨_, ints_addr (by assumption) (by omega) (by omega), ?_⟩
        | refine ⟨_, ints_load (by assumption) (by omega) (by omega), ?_⟩
        | (refine ⟨fun _ => ?_, fun _ => ?_⟩ <;> first | (exfalso; omega) | skip)
        | fail
      exact ⟨rfl, ⟨_, rfl, fun he => by omega⟩, kx⟩
  obtain rfl : i = a.length := by omega
  by_cases hl : a.length < b.length
  · repeat' first
      | refine CO.cons rfl ?_
      | refine CO.nil ?_
      | refine CV.seq ?_
      | refine CV.region callees ?_
      | refine CV.cond ?_
      | refine CV.exit ?_
      | refine CV.ret ?_
      | refine ⟨_, ints_len (by assumption), ?_⟩
      | (refine ⟨fun _ => ?_, fun _ => ?_⟩ <;> first | (exfalso; omega) | skip)
      | fail
    exact ⟨rfl, ⟨_, rfl, fun he => by omega⟩, kx⟩
  · repeat' first
      | refine CO.cons rfl ?_
      | refine CO.nil ?_
      | refine CV.seq ?_
      | refine CV.region callees ?_
      | refine CV.cond ?_
      | refine CV.skip ?_
      | refine CV.exit ?_
      | refine CV.ret ?_
      | refine ⟨_, ints_len (by assumption), ?_⟩
      | (refine ⟨fun _ => ?_, fun _ => ?_⟩ <;> first | (exfalso; omega) | skip)
      | fail
    refine ⟨rfl, ⟨_, rfl, fun he => ?_⟩, kx⟩
    have h2 := hw he
    rw [List.drop_length] at h2
    rw [← h2]
    simp [befL]
set_option maxRecDepth 100000 in
theorem or_spec {B : Nat} {H : Heap} {v : Value} {x y : Int} (hB : B ≤ H.n) (hv : Ints H v [x, y]) :
    CallB Try.prog B 131 [v] H (fun r H' => r = VI (if x = 0 then y else x) ∧ H' = H) := by
  obtain ⟨l, hl⟩ : ∃ l, [x, y] = l := ⟨_, rfl⟩
  have h0 : l[0]! = x := by rw [← hl]; rfl
  have h1 : l[1]! = y := by rw [← hl]; rfl
  have h2 : l.length = 2 := by rw [← hl]; rfl
  rw [hl] at hv
  refine CV.enter callees false rfl Try.func131 rfl (by kernel_rfl) (Nat.le_of_ble_eq_true rfl) hB ?_
  repeat' first
    | refine CO.cons rfl ?_
    | refine CO.nil ?_
    | refine CV.seq ?_
    | refine CV.region callees ?_
    | refine CV.block ?_
    | refine ⟨_, ints_len (by assumption), ?_⟩
    | fail
  refine CV.loopc ?_
  refine WCv.rounds callees false (α := Nat) (fun i => [(3, VI 0), (6, v), (7, VI l.length), (8, VI i)]) (fun i Hz => i ≤ 2 ∧ (0 < i → x = 0) ∧ (1 < i → y = 0) ∧ Hz = H) (fun i => 2 - i) (0) (by repeat' first | exact trivial | refine ⟨rfl, ?_⟩ | refine ⟨slot_int (by (try simp only [Int.toNat_natCast]); omega), ?_⟩) ?_ ?_
  · exact ⟨by omega, fun h => by omega, fun h => by omega, rfl⟩
  rintro i Hx ⟨hi, hx, hy, rfl⟩ hBx
  rcases (show i = 0 ∨ i = 1 ∨ i = 2 by omega) with rfl | rfl | rfl
  · have e : l[((0 : Nat) : Int).toNat]! = x := h0
    by_cases c : x = 0
    · repeat' first
        | refine CO.cons rfl ?_
        | refine CO.nil ?_
        | refine CV.seq ?_
        | refine CV.region callees ?_
        | refine CV.cond ?_
        | refine CV.block ?_
        | refine CV.skip ?_
        | refine ⟨_, ints_addr (by assumption) (by omega) (by omega), ?_⟩
        | refine ⟨_, ints_load (by assumption) (by omega) (by omega), ?_⟩
        | refine ⟨(⟨by omega, by omega⟩ : inI64 _), ?_⟩
        | (refine ⟨fun _ => ?_, fun _ => ?_⟩ <;> first | (exfalso; omega) | skip)
        | fail
      refine ⟨(1), (by repeat' first | exact trivial | refine ⟨rfl, ?_⟩ | refine ⟨slot_int (by (try simp only [Int.toNat_natCast]); omega), ?_⟩), (by (try dsimp only); omega), ?_⟩
      exact ⟨by omega, fun _ => c, fun h => by omega, rfl⟩
    · rw [if_neg c]
      repeat' first
        | refine CO.cons rfl ?_
        | refine CO.nil ?_
        | refine CV.seq ?_
        | refine CV.region callees ?_
        | refine CV.cond ?_
        | refine CV.block ?_
        | refine CV.skip ?_
        | refine CV.ret ?_
        | refine ⟨_, ints_addr (by assumption) (by omega) (by omega), ?_⟩
        | refine ⟨_, ints_load (by assumption) (by omega) (by omega), ?_⟩
        | (refine ⟨fun _ => ?_, fun _ => ?_⟩ <;> first | (exfalso; omega) | skip)
        | fail
      exact ⟨rfl, by rw [e], rfl⟩
  · have e : l[((1 : Nat) : Int).toNat]! = y := h1
    have hx0 := hx (by omega)
    rw [if_pos hx0]
    by_cases c : y = 0
    · repeat' first
        | refine CO.cons rfl ?_
        | refine CO.nil ?_
        | refine CV.seq ?_
        | refine CV.region callees ?_
        | refine CV.cond ?_
        | refine CV.block ?_
        | refine CV.skip ?_
        | refine ⟨_, ints_addr (by assumption) (by omega) (by omega), ?_⟩
        | refine ⟨_, ints_load (by assumption) (by omega) (by omega), ?_⟩
        | refine ⟨(⟨by omega, by omega⟩ : inI64 _), ?_⟩
        | (refine ⟨fun _ => ?_, fun _ => ?_⟩ <;> first | (exfalso; omega) | skip)
        | fail
      refine ⟨(2), (by repeat' first | exact trivial | refine ⟨rfl, ?_⟩ | refine ⟨slot_int (by (try simp only [Int.toNat_natCast]); omega), ?_⟩), (by (try dsimp only); omega), ?_⟩
      exact ⟨by omega, fun _ => hx0, fun _ => c, rfl⟩
    · repeat' first
        | refine CO.cons rfl ?_
        | refine CO.nil ?_
        | refine CV.seq ?_
        | refine CV.region callees ?_
        | refine CV.cond ?_
        | refine CV.block ?_
        | refine CV.skip ?_
        | refine CV.ret ?_
        | refine ⟨_, ints_addr (by assumption) (by omega) (by omega), ?_⟩
        | refine ⟨_, ints_load (by assumption) (by omega) (by omega), ?_⟩
        | (refine ⟨fun _ => ?_, fun _ => ?_⟩ <;> first | (exfalso; omega) | skip)
        | fail
      exact ⟨rfl, by rw [e], rfl⟩
  · have hx0 := hx (by omega)
    have hy0 := hy (by omega)
    rw [if_pos hx0, hy0]
    repeat' first
      | refine CO.cons rfl ?_
      | refine CO.nil ?_
      | refine CV.seq ?_
      | refine CV.region callees ?_
      | refine CV.cond ?_
      | refine CV.exit ?_
      | refine CV.ret ?_
      | (refine ⟨fun _ => ?_, fun _ => ?_⟩ <;> first | (exfalso; omega) | skip)
      | fail
    exact ⟨rfl, rfl, rfl⟩
set_option maxRecDepth 100000 in
theorem comesFirst_spec {B : Nat} {H : Heap} {av bv : Value} {a b : List Int} (hB : B ≤ H.n) (ha : Ints H av a) (hb : Ints H bv b) (hn : a.length < 1000000) (hn2 : b.length < 1000000) :
    CallB Try.prog B 95 [av, bv] H (fun v H' => v = .bool (cfL a b) ∧ Keep H H') := by
  refine CV.enter callees false rfl Try.func95 rfl (by kernel_rfl) (Nat.le_of_ble_eq_true rfl) hB ?_
  repeat' first
    | refine CO.cons rfl ?_
    | refine CO.nil ?_
    | refine CV.seq ?_
    | refine CV.region callees ?_
    | refine ⟨_, ints_len (by assumption), ?_⟩
    | fail
  refine (compare_spec (by omega)).mono ?_
  rintro v H1 ⟨⟨c, rfl, hc⟩, k1⟩
  have l1 := k1.1
  repeat' first
    | refine CO.cons rfl ?_
    | fail
  refine (compareL_spec (by omega) (Row.keep ha k1) (Row.keep hb k1) hn hn2).mono ?_
  rintro v H2 ⟨⟨d, rfl, hd⟩, k2⟩
  have l2 := k2.1
  repeat' first
    | refine CO.cons rfl ?_
    | (refine ⟨_, _, build_vals [VI c, VI d] un22 one3 rfl (by simp), ?_⟩)
    | fail
  have kA := Keep.new H2 (.cells [VI c, VI d] 3 2)
  have hIA : Ints (H2.new (.cells [VI c, VI d] 3 2)) (.slice (some ⟨H2.n, 0, none⟩) 2 0) [c, d] := new_row rfl
  generalize hsA : H2.new _ = HA at kA hIA ⊢
  have lA := kA.1
  refine (or_spec (by omega) hIA).mono ?_
  rintro v H3 ⟨rfl, rfl⟩
  obtain ⟨q, hq, hcf⟩ : ∃ q, (if c = 0 then d else c) = q ∧ cfL a b = decide (q < 0) := by
    refine ⟨_, rfl, ?_⟩
    rw [Bool.eq_iff_iff, cfL_iff, decide_eq_true_iff]
    by_cases h0 : c = 0
    · rw [if_pos h0]
      have he : a.length = b.length := by omega
      rw [hd he]
      constructor
      · rintro (h | h)
        · omega
        · exact h.2
      · exact fun h => .inr ⟨he, h⟩
    · rw [if_neg h0]
      constructor
      · rintro (h | h) <;> omega
      · exact fun h => .inl (by omega)
  rw [hq, hcf]
  repeat' first
    | refine CO.cons rfl ?_
    | refine CO.nil ?_
    | refine CV.ret ?_
    | (refine ⟨fun _ => ?_, fun _ => ?_⟩ <;> first | (exfalso; omega) | skip)
    | fail
  all_goals
    refine ⟨rfl, ?_, (k1.trans k2).trans kA⟩
    congr 1
    symm
    first
      | exact decide_eq_true (by omega)
      | exact decide_eq_false (by omega)
end Go.Proofs.Ytlamceokhbigaaa

