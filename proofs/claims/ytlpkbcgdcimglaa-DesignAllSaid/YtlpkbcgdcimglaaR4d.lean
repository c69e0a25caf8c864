
/- In how many ways blocks are drawn. -/
import Derived.Test.YtlpkbcgdcimglaaR3d
set_option linter.unusedVariables false
set_option linter.unusedSimpArgs false
namespace Go.Proofs.Ytlpkbcgdcimglaa
open Go.AI
set_option linter.unusedVariables false
set_option linter.unusedSimpArgs false
def sumW (g : Nat → Int) : Nat → Int
  | 0 => 0
  | k + 1 => sumW g k + g k
/-- The ways of the last so many blocks. -/
def waysN (bl : List Int) : Nat → List Int → Int
  | 0, _ => 1
  | f + 1, left => if bl[8 - f]! = 0 then 1 else sumW (fun k => if left[k]! < bl[8 - f]! then 0 else drawnN left[k]! (bl[8 - f]!).toNat * waysN bl f (left.set k 0)) 6
def remS (bl : List Int) : Nat → Nat
  | 0 => 0
  | f + 1 => (bl[8 - f]!).toNat + remS bl f
theorem drawn_9 {n : Int} (h9 : n ≤ 9) : ∀ k : Nat, (k : Int) ≤ n → 1 ≤ drawnN n k ∧ drawnN n k ≤ 9 ^ k
  | 0, _ => by simp [drawnN]
  | k + 1, h => by
    obtain ⟨h1, h2⟩ := drawn_9 h9 k (by omega)
    have e : drawnN n (k + 1) = drawnN n k * (n - k) := rfl
    have a1 : 1 ≤ n - k := by omega
    have a2 : n - k ≤ 9 := by omega
    rw [e, Int.pow_succ]
    refine ⟨?_, Int.mul_le_mul h2 a2 (by omega) (by omega)⟩
    have := Int.mul_le_mul h1 a1 (by omega) (by omega)
    simpa using this
theorem six_nine : ∀ x : Nat, 1 ≤ x → 6 * (9 : Int) ^ x ≤ 54 ^ x
  | 0, h => by omega
  | 1, _ => by decide
  | x + 2, _ => by
    have := six_nine (x + 1) (by omega)
    have h1 : (0 : Int) ≤ 9 ^ (x + 1) := Int.pow_nonneg (by decide)
    rw [show (9 : Int) ^ (x + 2) = 9 ^ (x + 1) * 9 from Int.pow_succ .., show (54 : Int) ^ (x + 2) = 54 ^ (x + 1) * 54 from Int.pow_succ ..]
    omega
theorem sumW_bound {g : Nat → Int} {c : Int} (h : ∀ k, k < 6 → 0 ≤ g k ∧ g k ≤ c) : ∀ k : Nat, k ≤ 6 → 0 ≤ sumW g k ∧ sumW g k ≤ k * c
  | 0, _ => by simp [sumW]
  | k + 1, hk => by
    obtain ⟨h1, h2⟩ := sumW_bound h k (by omega)
    have h3 := h k (by omega)
    have e : sumW g (k + 1) = sumW g k + g k := rfl
    have e2 : ((k + 1 : Nat) : Int) * c = k * c + c := by rw [Int.natCast_add, Int.add_mul]; simp
    omega
theorem AllN.set0 {left : List Int} {k : Nat} (h : AllN (fun x => 0 ≤ x ∧ x ≤ 9) left) : AllN (fun x => 0 ≤ x ∧ x ≤ 9) (left.set k 0) := h.set (by decide)
theorem term_bound {bl left : List Int} {f k : Nat} {w : Int} (hx : 0 ≤ bl[8 - f]!) (hk : 0 ≤ left[k]! ∧ left[k]! ≤ 9) (hw : 0 ≤ w ∧ w ≤ 54 ^ remS bl f) (hle : ¬ left[k]! < bl[8 - f]!) :
    0 ≤ drawnN left[k]! (bl[8 - f]!).toNat * w ∧ drawnN left[k]! (bl[8 - f]!).toNat * w ≤ 9 ^ (bl[8 - f]!).toNat * 54 ^ remS bl f := by
  obtain ⟨d1, d2⟩ := drawn_9 (n := left[k]!) hk.2 (bl[8 - f]!).toNat (by omega)
  exact ⟨Int.mul_nonneg (by omega) hw.1, Int.mul_le_mul d2 hw.2 hw.1 (Int.pow_nonneg (by decide))⟩
theorem ways_bound {bl : List Int} (hbl : bl.length = 9) (hb0 : AllN (fun x => 0 ≤ x ∧ x ≤ 9) bl) : ∀ (f : Nat) (left : List Int), f ≤ 9 → left.length = 6 → AllN (fun x => 0 ≤ x ∧ x ≤ 9) left → 0 ≤ waysN bl f left ∧ waysN bl f left ≤ 54 ^ remS bl f
  | 0, _, _, _, _ => by simp [waysN, remS]
  | f + 1, left, hf, hl, ha => by
    have hx := hb0 (8 - f) (by omega)
    rw [waysN, remS, Int.pow_add]
    have p1 : (1 : Int) ≤ 54 ^ remS bl f := by have : (0 : Int) < 54 ^ remS bl f := Int.pow_pos (by decide); omega
    by_cases h0 : bl[8 - f]! = 0
    · rw [if_pos h0, h0]; simp; omega
    · rw [if_neg h0]
      have h6 := six_nine (bl[8 - f]!).toNat (by omega)
      have hb := sumW_bound (g := fun k => if left[k]! < bl[8 - f]! then 0 else drawnN left[k]! (bl[8 - f]!).toNat * waysN bl f (left.set k 0)) (c := 9 ^ (bl[8 - f]!).toNat * 54 ^ remS bl f) (fun k hk => by
        have hn : (0 : Int) ≤ 9 ^ (bl[8 - f]!).toNat * 54 ^ remS bl f := Int.mul_nonneg (Int.pow_nonneg (by decide)) (by omega)
        by_cases hle : left[k]! < bl[8 - f]!
        · rw [if_pos hle]; omega
        · rw [if_neg hle]
          exact term_bound hx.1 (ha k (by omega)) (ways_bound hbl hb0 f _ (by omega) (by rw [List.length_set]; exact hl) ha.set0) hle) 6 (Nat.le_refl _)
      have := Int.mul_le_mul_of_nonneg_right h6 (show (0 : Int) ≤ 54 ^ remS bl f by omega)
      rw [Int.mul_assoc] at this
      omega
theorem pow54m {k : Nat} (h : k ≤ 9) : (54 : Int) ^ k ≤ 3904305912313344 := by
  have := pow54 k h
  have e : (54 : Int) ^ 9 = 3904305912313344 := by decide
  omega
theorem rem_le {bl : List Int} : ∀ {f g : Nat}, f ≤ g → remS bl f ≤ remS bl g
  | f, 0, h => by have : f = 0 := by omega
                  subst this; exact Nat.le_refl _
  | f, g + 1, h => by
    by_cases e : f = g + 1
    · subst e; exact Nat.le_refl _
    · have := rem_le (bl := bl) (f := f) (g := g) (by omega)
      rw [remS]; omega
abbrev Fv (bb bf : Nat) : Value := .func (.func 113) #[] #[.pointer (some ⟨bb, 0, none⟩), .pointer (some ⟨bf, 0, none⟩)]
abbrev Fc (bb bf : Nat) : AObj := .cells [Fv bb bf] 134 1
theorem agF : isAggB Try.prog 134 = some false := by kernel_rfl
theorem alloc_p {H : Heap} {l : List Int} : anew H (Value.cells (Pv l)).toList 92 1 = H.new (Pc l) := rfl
theorem drawn_int {B : Nat} {H : Heap} {n x : Int} (hB : B ≤ H.n) (h9 : n ≤ 9) (h0 : 0 ≤ x) (hx : x ≤ n) :
    CallB Try.prog B 76 [.int .i64 n, .int .i64 x] H (fun r H' => r = .int .i64 (drawnN n x.toNat) ∧ H' = H) := by
  obtain ⟨k, rfl⟩ := Int.eq_ofNat_of_zero_le h0
  exact drawn_spec hB (by omega) hx (by omega)
set_option maxRecDepth 100000 in
theorem from_spec {bl : List Int} (hbl : bl.length = 9) (hb0 : AllN (fun x => 0 ≤ x ∧ x ≤ 9) bl) (ht : remS bl 9 ≤ 9) : ∀ (f : Nat) {B : Nat} {H : Heap} {left : List Int} {bb bf : Nat}, f ≤ 9 → B ≤ H.n → bb < H.n → bf < H.n → H.get bb = some (Dc bl) → H.get bf = some (Fc bb bf) → left.length = 6 → AllN (fun x => 0 ≤ x ∧ x ≤ 9) left →
    CallB Try.prog B 113 [.int .i64 (9 - f), Pv left, .pointer (some ⟨bb, 0, none⟩), .pointer (some ⟨bf, 0, none⟩)] H (fun r H' => r = .int .i64 (waysN bl f left) ∧ Keep H H') := by
  intro f
  induction f with
  | zero =>
    intro B H left bb bf hf hB hbb hbf hgb hgf hl ha
    refine CV.enter callees false rfl Try.func113 rfl (by kernel_rfl) (Nat.le_of_ble_eq_true rfl) hB ?_
    repeat' first
      | refine CO.cons rfl ?_
      | refine CO.nil ?_
      | refine CV.seq ?_
      | refine CV.region callees ?_
      | refine CV.cond ?_
      | refine CV.block ?_
      | refine CV.skip ?_
      | refine CV.exit ?_
      | refine CV.ret ?_
      | refine CV.scope ?_
      | refine CV.draw callees (by decide +kernel) ?_
      | refine CH.cons rfl ?_
      | refine CH.nil ?_
      | refine CO.consG rfl ?_
      | refine CH.consG rfl ?_
      | refine CG.cons rfl ?_
      | refine CR.cons ?_
      | refine CR.nil ?_
      | refine CG.nil ?_
      | refine CG.consG rfl ?_
      | refine ⟨(rfl : plain _ = true), ?_⟩
      | refine ⟨(rfl : nilOk _ = some _), ?_⟩
      | refine ⟨_, ints_len (by assumption), ?_⟩
      | refine ⟨_, ints_addr (by assumption) (by omega) (by omega), ?_⟩
      | refine ⟨_, ints_load (by assumption) (by omega) (by omega), ?_⟩
      | refine ⟨(⟨by omega, by omega⟩ : inI64 _), ?_⟩
      | refine ⟨_, fun tm ha => step1_max rfl (ev_tmp ha rfl) (ev_tmp ha rfl), ?_⟩
      | refine ⟨_, fun tm ha => step1_min rfl (ev_tmp ha rfl) (ev_tmp ha rfl), ?_⟩
      | (refine ⟨fun _ => ?_, fun _ => ?_⟩ <;> first | (exfalso; omega) | skip)
      | fail
    refine ⟨(by simp only [notTuple]), ?_⟩
    rw [alloc_p]
    have k0 := Keep.new H (Pc left)
    repeat' first
      | refine CO.cons rfl ?_
      | refine CO.nil ?_
      | refine CV.seq ?_
      | refine CV.region callees ?_
      | refine CV.cond ?_
      | refine CV.block ?_
      | refine CV.skip ?_
      | refine CV.exit ?_
      | refine CV.ret ?_
      | refine CV.scope ?_
      | refine CV.draw callees (by decide +kernel) ?_
      | refine CH.cons rfl ?_
      | refine CH.nil ?_
      | refine CO.consG rfl ?_
      | refine CH.consG rfl ?_
      | refine CG.cons rfl ?_
      | refine CR.cons ?_
      | refine CR.nil ?_
      | refine CG.nil ?_
      | refine CG.consG rfl ?_
      | refine ⟨(rfl : plain _ = true), ?_⟩
      | refine ⟨(rfl : nilOk _ = some _), ?_⟩
      | refine ⟨_, ints_len (by assumption), ?_⟩
      | refine ⟨_, ints_addr (by assumption) (by omega) (by omega), ?_⟩
      | refine ⟨_, ints_load (by assumption) (by omega) (by omega), ?_⟩
      | refine ⟨(⟨by omega, by omega⟩ : inI64 _), ?_⟩
      | refine ⟨_, fun tm ha => step1_max rfl (ev_tmp ha rfl) (ev_tmp ha rfl), ?_⟩
      | refine ⟨_, fun tm ha => step1_min rfl (ev_tmp ha rfl) (ev_tmp ha rfl), ?_⟩
      | (refine ⟨fun _ => ?_, fun _ => ?_⟩ <;> first | (exfalso; omega) | skip)
      | fail
    exact ⟨rfl, rfl, k0⟩
  | succ f ih =>
    intro B H left bb bf hf hB hbb hbf hgb hgf hl ha
    refine CV.enter callees false rfl Try.func113 rfl (by kernel_rfl) (Nat.le_of_ble_eq_true rfl) hB ?_
    repeat' first
      | refine CO.cons rfl ?_
      | refine CO.nil ?_
      | refine CV.seq ?_
      | refine CV.region callees ?_
      | refine CV.cond ?_
      | refine CV.block ?_
      | refine CV.skip ?_
      | refine CV.exit ?_
      | refine CV.ret ?_
      | refine CV.scope ?_
      | refine CV.draw callees (by decide +kernel) ?_
      | refine CH.cons rfl ?_
      | refine CH.nil ?_
      | refine CO.consG rfl ?_
      | refine CH.consG rfl ?_
      | refine CG.cons rfl ?_
      | refine CR.cons ?_
      | refine CR.nil ?_
      | refine CG.nil ?_
      | refine CG.consG rfl ?_
      | refine ⟨(rfl : plain _ = true), ?_⟩
      | refine ⟨(rfl : nilOk _ = some _), ?_⟩
      | refine ⟨_, ints_len (by assumption), ?_⟩
      | refine ⟨_, ints_addr (by assumption) (by omega) (by omega), ?_⟩
      | refine ⟨_, ints_load (by assumption) (by omega) (by omega), ?_⟩
      | refine ⟨(⟨by omega, by omega⟩ : inI64 _), ?_⟩
      | refine ⟨_, fun tm ha => step1_max rfl (ev_tmp ha rfl) (ev_tmp ha rfl), ?_⟩
      | refine ⟨_, fun tm ha => step1_min rfl (ev_tmp ha rfl) (ev_tmp ha rfl), ?_⟩
      | (refine ⟨fun _ => ?_, fun _ => ?_⟩ <;> first | (exfalso; omega) | skip)
      | fail
    refine ⟨(by simp only [notTuple]), ?_⟩
    rw [alloc_p]
    generalize hs0 : H.new (Pc left) = H0
    have hg5 := new_get hs0
    have k0 := new_keep hs0
    have n0 := new_n hs0
    obtain ⟨b5, hb5⟩ : ∃ b5, H.n = b5 := ⟨_, rfl⟩
    rw [hb5] at hg5 n0 ⊢
    have hgb0 : H0.get bb = some (Dc bl) := by rw [k0.2 bb (by omega)]; exact hgb
    have hgf0 : H0.get bf = some (Fc bb bf) := by rw [k0.2 bf (by omega)]; exact hgf
    have hi : (9 - ((f + 1 : Nat) : Int)).toNat = 8 - f := by omega
    have hx := hb0 (8 - f) (by omega)
    have hxi : bl[(9 - ((f + 1 : Nat) : Int)).toNat]! = bl[8 - f]! := by rw [hi]
    have hwe : waysN bl (f + 1) left = if bl[8 - f]! = 0 then 1 else sumW (fun k => if left[k]! < bl[8 - f]! then 0 else drawnN left[k]! (bl[8 - f]!).toNat * waysN bl f (left.set k 0)) 6 := rfl
    by_cases h0 : bl[8 - f]! = 0
    · rw [if_pos h0] at hwe
      repeat' first
        | refine CO.cons rfl ?_
        | refine CO.nil ?_
        | refine CV.seq ?_
        | refine CV.region callees ?_
        | refine CV.cond ?_
        | refine CV.block ?_
        | refine CV.skip ?_
        | refine CV.exit ?_
        | refine CV.ret ?_
        | refine CV.scope ?_
        | refine CV.draw callees (by decide +kernel) ?_
        | refine CH.cons rfl ?_
        | refine CH.nil ?_
        | refine CO.consG rfl ?_
        | refine CH.consG rfl ?_
        | refine CG.cons rfl ?_
        | refine CR.cons ?_
        | refine CR.nil ?_
        | refine CG.nil ?_
        | refine CG.consG rfl ?_
        | refine ⟨(rfl : plain _ = true), ?_⟩
        | refine ⟨(rfl : nilOk _ = some _), ?_⟩
        | refine ⟨_, ints_len (by assumption), ?_⟩
        | refine ⟨_, ints_addr (by assumption) (by omega) (by omega), ?_⟩
        | refine ⟨_, ints_load (by assumption) (by omega) (by omega), ?_⟩
        | refine ⟨(⟨by omega, by omega⟩ : inI64 _), ?_⟩
        | refine ⟨_, fun tm ha => step1_max rfl (ev_tmp ha rfl) (ev_tmp ha rfl), ?_⟩
        | refine ⟨_, fun tm ha => step1_min rfl (ev_tmp ha rfl) (ev_tmp ha rfl), ?_⟩
        | (refine ⟨_, addrD (by omega) (by omega), ?_⟩)
        | (refine ⟨_, arr_load hgb0 (by omega), ?_⟩)
        | (refine ⟨fun _ => ?_, fun _ => ?_⟩ <;> first | (exfalso; omega) | skip)
        | fail
      exact ⟨rfl, by rw [hwe], k0⟩
    · rw [if_neg h0] at hwe
      repeat' first
        | refine CO.cons rfl ?_
        | refine CO.nil ?_
        | refine CV.seq ?_
        | refine CV.region callees ?_
        | refine CV.cond ?_
        | refine CV.block ?_
        | refine CV.skip ?_
        | refine CV.exit ?_
        | refine CV.ret ?_
        | refine CV.scope ?_
        | refine CV.draw callees (by decide +kernel) ?_
        | refine CH.cons rfl ?_
        | refine CH.nil ?_
        | refine CO.consG rfl ?_
        | refine CH.consG rfl ?_
        | refine CG.cons rfl ?_
        | refine CR.cons ?_
        | refine CR.nil ?_
        | refine CG.nil ?_
        | refine CG.consG rfl ?_
        | refine ⟨(rfl : plain _ = true), ?_⟩
        | refine ⟨(rfl : nilOk _ = some _), ?_⟩
        | refine ⟨_, ints_len (by assumption), ?_⟩
        | refine ⟨_, ints_addr (by assumption) (by omega) (by omega), ?_⟩
        | refine ⟨_, ints_load (by assumption) (by omega) (by omega), ?_⟩
        | refine ⟨(⟨by omega, by omega⟩ : inI64 _), ?_⟩
        | refine ⟨_, fun tm ha => step1_max rfl (ev_tmp ha rfl) (ev_tmp ha rfl), ?_⟩
        | refine ⟨_, fun tm ha => step1_min rfl (ev_tmp ha rfl) (ev_tmp ha rfl), ?_⟩
        | (refine ⟨_, addrD (by omega) (by omega), ?_⟩)
        | (refine ⟨_, arr_load hgb0 (by omega), ?_⟩)
        | (refine ⟨_, loadP hl hg5, ?_⟩)
        | (refine ⟨fun _ => ?_, fun _ => ?_⟩ <;> first | (exfalso; omega) | skip)
        | fail
      have hw := fun (k : Nat) => ways_bound hbl hb0 f (left.set k 0) (by omega) (by rw [List.length_set]; exact hl) ha.set0
      have hC : 0 ≤ (9 : Int) ^ (bl[8 - f]!).toNat * 54 ^ remS bl f ∧ 6 * ((9 : Int) ^ (bl[8 - f]!).toNat * 54 ^ remS bl f) ≤ 3904305912313344 := by
        have p1 : (0 : Int) ≤ 54 ^ remS bl f := Int.pow_nonneg (by decide)
        have h6 := Int.mul_le_mul_of_nonneg_right (six_nine (bl[8 - f]!).toNat (by omega)) p1
        rw [Int.mul_assoc, ← Int.pow_add] at h6
        have h7 : remS bl (f + 1) ≤ remS bl 9 := rem_le hf
        have h8 : (bl[8 - f]!).toNat + remS bl f = remS bl (f + 1) := rfl
        have h9 := pow54m (k := (bl[8 - f]!).toNat + remS bl f) (by omega)
        exact ⟨Int.mul_nonneg (Int.pow_nonneg (by decide)) p1, by omega⟩
      obtain ⟨g, hg⟩ : ∃ g : Nat → Int, g = fun (k : Nat) => (if left[k]! < bl[8 - f]! then (0 : Int) else drawnN left[k]! (bl[8 - f]!).toNat * waysN bl f (left.set k 0)) := ⟨_, rfl⟩
      rw [← hg] at hwe
      have hg0 : ∀ k : Nat, left[k]! < bl[8 - f]! → g k = 0 := fun k h => by rw [hg]; exact if_pos h
      have hg1 : ∀ k : Nat, ¬ left[k]! < bl[8 - f]! → g k = drawnN left[k]! (bl[8 - f]!).toNat * waysN bl f (left.set k 0) := fun k h => by rw [hg]; exact if_neg h
      have hgb1 : ∀ k : Nat, k < 6 → 0 ≤ g k ∧ g k ≤ 9 ^ (bl[8 - f]!).toNat * 54 ^ remS bl f := fun k hk => by
        by_cases h : left[k]! < bl[8 - f]!
        · rw [hg0 k h]; exact ⟨Int.le_refl _, hC.1⟩
        · rw [hg1 k h]; exact term_bound hx.1 (ha k (by omega)) (hw k) h
      have hsw := sumW_bound hgb1
      generalize (9 : Int) ^ (bl[8 - f]!).toNat * 54 ^ remS bl f = C at hC hgb1 hsw
      clear hg
      refine CV.loopc ?_
      refine WCv.rounds callees false (α := Nat) (fun k => [(0, .int .i64 (9 - ((f + 1 : Nat) : Int))), (2, .pointer (some ⟨bb, 0, none⟩)), (3, .pointer (some ⟨bf, 0, none⟩)), (5, .pointer (some ⟨b5, 0, none⟩)), (7, .int .i64 (sumW g k)), (19, Pv left), (20, .int .i64 k)]) (fun k Hz => k ≤ 6 ∧ Keep H0 Hz) (fun k => 6 - k) (0) (by repeat' first | exact trivial | refine ⟨rfl, ?_⟩ | refine ⟨slot_int (by (try simp only [Int.toNat_natCast]); omega), ?_⟩) ?_ ?_
      · exact ⟨by omega, Keep.refl _⟩
      rintro k Hx ⟨hk, kx⟩ hBx
      have lx := kx.1
      have hgbx : Hx.get bb = some (Dc bl) := by rw [kx.2 bb (by omega)]; exact hgb0
      have hgfx : Hx.get bf = some (Fc bb bf) := by rw [kx.2 bf (by omega)]; exact hgf0
      have hg5x : Hx.get b5 = some (Pc left) := by rw [kx.2 b5 (by omega)]; exact hg5
      by_cases hk2 : k < 6
      · have hxk : left[(k : Int).toNat]! = left[k]! := rfl
        have hak := ha k (by omega)
        have hse : sumW g (k + 1) = sumW g k + g k := rfl
        obtain ⟨q1, q2⟩ := hsw k (by omega)
        obtain ⟨q3, q4⟩ := hsw (k + 1) (by omega)
        have q5 : (k : Int) * C ≤ 6 * C := Int.mul_le_mul_of_nonneg_right (by omega) hC.1
        have q6 : ((k + 1 : Nat) : Int) * C ≤ 6 * C := Int.mul_le_mul_of_nonneg_right (by omega) hC.1
        by_cases hle : left[k]! < bl[8 - f]!
        · have := hg0 k hle
          repeat' first
            | refine CO.cons rfl ?_
            | refine CO.nil ?_
            | refine CV.seq ?_
            | refine CV.region callees ?_
            | refine CV.cond ?_
            | refine CV.block ?_
            | refine CV.skip ?_
            | refine CV.exit ?_
            | refine CV.ret ?_
            | refine CV.scope ?_
            | refine CV.draw callees (by decide +kernel) ?_
            | refine CH.cons rfl ?_
            | refine CH.nil ?_
            | refine CO.consG rfl ?_
            | refine CH.consG rfl ?_
            | refine CG.cons rfl ?_
            | refine CR.cons ?_
            | refine CR.nil ?_
            | refine CG.nil ?_
            | refine CG.consG rfl ?_
            | refine ⟨(rfl : plain _ = true), ?_⟩
            | refine ⟨(rfl : nilOk _ = some _), ?_⟩
            | refine ⟨_, ints_len (by assumption), ?_⟩
            | refine ⟨_, ints_addr (by assumption) (by omega) (by omega), ?_⟩
            | refine ⟨_, ints_load (by assumption) (by omega) (by omega), ?_⟩
            | refine ⟨(⟨by omega, by omega⟩ : inI64 _), ?_⟩
            | refine ⟨_, fun tm ha => step1_max rfl (ev_tmp ha rfl) (ev_tmp ha rfl), ?_⟩
            | refine ⟨_, fun tm ha => step1_min rfl (ev_tmp ha rfl) (ev_tmp ha rfl), ?_⟩
            | (refine ⟨_, indexP hl (by omega) (by omega), ?_⟩)
            | (refine ⟨_, addrD (by omega) (by omega), ?_⟩)
            | (refine ⟨_, arr_load hgbx (by omega), ?_⟩)
            | (refine ⟨fun _ => ?_, fun _ => ?_⟩ <;> first | (exfalso; omega) | skip)
            | fail
          refine ⟨(k + 1), (by repeat' first | exact trivial | refine ⟨rfl, ?_⟩ | refine ⟨slot_int (by (try simp only [Int.toNat_natCast]); omega), ?_⟩), (by (try dsimp only); omega), ?_⟩
          exact ⟨by omega, kx⟩
        · have hgk := hg1 k hle
          have hgkb := hgb1 k hk2
          have q7 : 1 * C ≤ 6 * C := Int.mul_le_mul_of_nonneg_right (by omega) hC.1
          repeat' first
            | refine CO.cons rfl ?_
            | refine CO.nil ?_
            | refine CV.seq ?_
            | refine CV.region callees ?_
            | refine CV.cond ?_
            | refine CV.block ?_
            | refine CV.skip ?_
            | refine CV.exit ?_
            | refine CV.ret ?_
            | refine CV.scope ?_
            | refine CV.draw callees (by decide +kernel) ?_
            | refine CH.cons rfl ?_
            | refine CH.nil ?_
            | refine CO.consG rfl ?_
            | refine CH.consG rfl ?_
            | refine CG.cons rfl ?_
            | refine CR.cons ?_
            | refine CR.nil ?_
            | refine CG.nil ?_
            | refine CG.consG rfl ?_
            | refine ⟨(rfl : plain _ = true), ?_⟩
            | refine ⟨(rfl : nilOk _ = some _), ?_⟩
            | refine ⟨_, ints_len (by assumption), ?_⟩
            | refine ⟨_, ints_addr (by assumption) (by omega) (by omega), ?_⟩
            | refine ⟨_, ints_load (by assumption) (by omega) (by omega), ?_⟩
            | refine ⟨(⟨by omega, by omega⟩ : inI64 _), ?_⟩
            | refine ⟨_, fun tm ha => step1_max rfl (ev_tmp ha rfl) (ev_tmp ha rfl), ?_⟩
            | refine ⟨_, fun tm ha => step1_min rfl (ev_tmp ha rfl) (ev_tmp ha rfl), ?_⟩
            | (refine ⟨_, indexP hl (by omega) (by omega), ?_⟩)
            | (refine ⟨_, addrD (by omega) (by omega), ?_⟩)
            | (refine ⟨_, arr_load hgbx (by omega), ?_⟩)
            | (refine ⟨_, loadP hl hg5x, ?_⟩)
            | (refine ⟨_, _, allocP, ?_⟩)
            | (refine ⟨fun _ => ?_, fun _ => ?_⟩ <;> first | (exfalso; omega) | skip)
            | fail
          generalize hs1 : Hx.new (Pc z6) = H1
          have hg1' := new_get hs1
          have k1 := new_keep hs1
          have n1 := new_n hs1
          obtain ⟨bt, hbt⟩ : ∃ bt, Hx.n = bt := ⟨_, rfl⟩
          rw [hbt] at hg1' n1 ⊢
          refine ⟨_, _, storeP (l := z6) rfl hl hg1', by omega, ?_⟩
          generalize hs2 : Heap.set H1 bt _ = H2
          have g2 : H2.get bt = some (.cells (left.map VI) 92 (0 + 1)) := set_get hs2
          have n2 := set_n hs2
          have o2 := set_old hs2
          repeat' first
            | refine CO.cons rfl ?_
            | refine CO.nil ?_
            | refine CV.seq ?_
            | refine CV.region callees ?_
            | refine CV.cond ?_
            | refine CV.block ?_
            | refine CV.skip ?_
            | refine CV.exit ?_
            | refine CV.ret ?_
            | refine CV.scope ?_
            | refine CV.draw callees (by decide +kernel) ?_
            | refine CH.cons rfl ?_
            | refine CH.nil ?_
            | refine CO.consG rfl ?_
            | refine CH.consG rfl ?_
            | refine CG.cons rfl ?_
            | refine CR.cons ?_
            | refine CR.nil ?_
            | refine CG.nil ?_
            | refine CG.consG rfl ?_
            | refine ⟨(rfl : plain _ = true), ?_⟩
            | refine ⟨(rfl : nilOk _ = some _), ?_⟩
            | refine ⟨_, ints_len (by assumption), ?_⟩
            | refine ⟨_, ints_addr (by assumption) (by omega) (by omega), ?_⟩
            | refine ⟨_, ints_load (by assumption) (by omega) (by omega), ?_⟩
            | refine ⟨(⟨by omega, by omega⟩ : inI64 _), ?_⟩
            | refine ⟨_, fun tm ha => step1_max rfl (ev_tmp ha rfl) (ev_tmp ha rfl), ?_⟩
            | refine ⟨_, fun tm ha => step1_min rfl (ev_tmp ha rfl) (ev_tmp ha rfl), ?_⟩
            | (refine ⟨_, addrP (by omega) (by omega), ?_⟩)
            | (refine ⟨fun _ => ?_, fun _ => ?_⟩ <;> first | (exfalso; omega) | skip)
            | fail
          refine ⟨_, _, arr_put g2 (by omega), by omega, ?_⟩
          generalize hs3 : Heap.set H2 bt _ = H3
          have g3 : H3.get bt = some (Pc (left.set k 0)) := set_get hs3
          have n3 := set_n hs3
          have o3 := set_old hs3
          have kx2 : Keep Hx H2 := keep_put k1 (by omega) o2 n2
          have kx3 : Keep Hx H3 := keep_put kx2 (by omega) o3 n3
          have hgb3 : H3.get bb = some (Dc bl) := by rw [kx3.2 bb (by omega)]; exact hgbx
          have hgf3 : H3.get bf = some (Fc bb bf) := by rw [kx3.2 bf (by omega)]; exact hgfx
          have hg53 : H3.get b5 = some (Pc left) := by rw [kx3.2 b5 (by omega)]; exact hg5x
          have ls : (left.set k 0).length = 6 := by rw [List.length_set]; exact hl
          repeat' first
            | refine CO.cons rfl ?_
            | refine CO.nil ?_
            | refine CV.seq ?_
            | refine CV.region callees ?_
            | refine CV.cond ?_
            | refine CV.block ?_
            | refine CV.skip ?_
            | refine CV.exit ?_
            | refine CV.ret ?_
            | refine CV.scope ?_
            | refine CV.draw callees (by decide +kernel) ?_
            | refine CH.cons rfl ?_
            | refine CH.nil ?_
            | refine CO.consG rfl ?_
            | refine CH.consG rfl ?_
            | refine CG.cons rfl ?_
            | refine CR.cons ?_
            | refine CR.nil ?_
            | refine CG.nil ?_
            | refine CG.consG rfl ?_
            | refine ⟨(rfl : plain _ = true), ?_⟩
            | refine ⟨(rfl : nilOk _ = some _), ?_⟩
            | refine ⟨_, ints_len (by assumption), ?_⟩
            | refine ⟨_, ints_addr (by assumption) (by omega) (by omega), ?_⟩
            | refine ⟨_, ints_load (by assumption) (by omega) (by omega), ?_⟩
            | refine ⟨(⟨by omega, by omega⟩ : inI64 _), ?_⟩
            | refine ⟨_, fun tm ha => step1_max rfl (ev_tmp ha rfl) (ev_tmp ha rfl), ?_⟩
            | refine ⟨_, fun tm ha => step1_min rfl (ev_tmp ha rfl) (ev_tmp ha rfl), ?_⟩
            | refine CV.wide callees (by decide +kernel) [0, 1, 2, 3, 4, 6, 7, 8, 9, 5, 10, 11, 12, 13] (by kernel_rfl) ?_
            | (refine ⟨_, addrD (by omega) (by omega), ?_⟩)
            | (refine ⟨_, arr_load hgb3 (by omega), ?_⟩)
            | (refine ⟨_, cell_load agF hgf3 rfl, ?_⟩)
            | (refine ⟨_, loadP ls g3, ?_⟩)
            | (refine ⟨fun _ => ?_, fun _ => ?_⟩ <;> first | (exfalso; omega) | skip)
            | fail
          refine (drawn_int (Nat.le_refl _) (by omega) (by omega) (by omega)).mono ?_
          rintro r H4 ⟨rfl, rfl⟩
          rw [hxi, hxk]
          repeat' first
            | refine CO.cons rfl ?_
            | refine CO.nil ?_
            | refine CV.seq ?_
            | refine CV.region callees ?_
            | refine CV.cond ?_
            | refine CV.block ?_
            | refine CV.skip ?_
            | refine CV.exit ?_
            | refine CV.ret ?_
            | refine CV.scope ?_
            | refine CV.draw callees (by decide +kernel) ?_
            | refine CH.cons rfl ?_
            | refine CH.nil ?_
            | refine CO.consG rfl ?_
            | refine CH.consG rfl ?_
            | refine CG.cons rfl ?_
            | refine CR.cons ?_
            | refine CR.nil ?_
            | refine CG.nil ?_
            | refine CG.consG rfl ?_
            | refine ⟨(rfl : plain _ = true), ?_⟩
            | refine ⟨(rfl : nilOk _ = some _), ?_⟩
            | refine ⟨_, ints_len (by assumption), ?_⟩
            | refine ⟨_, ints_addr (by assumption) (by omega) (by omega), ?_⟩
            | refine ⟨_, ints_load (by assumption) (by omega) (by omega), ?_⟩
            | refine ⟨(⟨by omega, by omega⟩ : inI64 _), ?_⟩
            | refine ⟨_, fun tm ha => step1_max rfl (ev_tmp ha rfl) (ev_tmp ha rfl), ?_⟩
            | refine ⟨_, fun tm ha => step1_min rfl (ev_tmp ha rfl) (ev_tmp ha rfl), ?_⟩
            | (refine ⟨fun _ => ?_, fun _ => ?_⟩ <;> first | (exfalso; omega) | skip)
            | fail
          have e9 : 9 - ((f + 1 : Nat) : Int) + 1 = 9 - (f : Int) := by omega
          rw [e9]
          refine (ih (by omega) (Nat.le_refl _) (by omega) (by omega) hgb3 hgf3 ls ha.set0).mono ?_
          rintro r H5 ⟨rfl, k5⟩
          have l5 := k5.1
          repeat' first
            | refine CO.cons rfl ?_
            | refine CO.nil ?_
            | refine CV.seq ?_
            | refine CV.region callees ?_
            | refine CV.cond ?_
            | refine CV.block ?_
            | refine CV.skip ?_
            | refine CV.exit ?_
            | refine CV.ret ?_
            | refine CV.scope ?_
            | refine CV.draw callees (by decide +kernel) ?_
            | refine CH.cons rfl ?_
            | refine CH.nil ?_
            | refine CO.consG rfl ?_
            | refine CH.consG rfl ?_
            | refine CG.cons rfl ?_
            | refine CR.cons ?_
            | refine CR.nil ?_
            | refine CG.nil ?_
            | refine CG.consG rfl ?_
            | refine ⟨(rfl : plain _ = true), ?_⟩
            | refine ⟨(rfl : nilOk _ = some _), ?_⟩
            | refine ⟨_, ints_len (by assumption), ?_⟩
            | refine ⟨_, ints_addr (by assumption) (by omega) (by omega), ?_⟩
            | refine ⟨_, ints_load (by assumption) (by omega) (by omega), ?_⟩
            | refine ⟨(⟨by omega, by omega⟩ : inI64 _), ?_⟩
            | refine ⟨_, fun tm ha => step1_max rfl (ev_tmp ha rfl) (ev_tmp ha rfl), ?_⟩
            | refine ⟨_, fun tm ha => step1_min rfl (ev_tmp ha rfl) (ev_tmp ha rfl), ?_⟩
            | (refine ⟨fun _ => ?_, fun _ => ?_⟩ <;> first | (exfalso; omega) | skip)
            | fail
          refine ⟨(k + 1), (by repeat' first | exact trivial | refine ⟨rfl, ?_⟩ | refine ⟨slot_int (by (try simp only [Int.toNat_natCast]); omega), ?_⟩), (by (try dsimp only); omega), ?_⟩
          exact ⟨by omega, kx.trans (kx3.trans k5)⟩
      · have hke : k = 6 := by omega
        subst hke
        repeat' first
          | refine CO.cons rfl ?_
          | refine CO.nil ?_
          | refine CV.seq ?_
          | refine CV.region callees ?_
          | refine CV.cond ?_
          | refine CV.block ?_
          | refine CV.skip ?_
          | refine CV.exit ?_
          | refine CV.ret ?_
          | refine CV.scope ?_
          | refine CV.draw callees (by decide +kernel) ?_
          | refine CH.cons rfl ?_
          | refine CH.nil ?_
          | refine CO.consG rfl ?_
          | refine CH.consG rfl ?_
          | refine CG.cons rfl ?_
          | refine CR.cons ?_
          | refine CR.nil ?_
          | refine CG.nil ?_
          | refine CG.consG rfl ?_
          | refine ⟨(rfl : plain _ = true), ?_⟩
          | refine ⟨(rfl : nilOk _ = some _), ?_⟩
          | refine ⟨_, ints_len (by assumption), ?_⟩
          | refine ⟨_, ints_addr (by assumption) (by omega) (by omega), ?_⟩
          | refine ⟨_, ints_load (by assumption) (by omega) (by omega), ?_⟩
          | refine ⟨(⟨by omega, by omega⟩ : inI64 _), ?_⟩
          | refine ⟨_, fun tm ha => step1_max rfl (ev_tmp ha rfl) (ev_tmp ha rfl), ?_⟩
          | refine ⟨_, fun tm ha => step1_min rfl (ev_tmp ha rfl) (ev_tmp ha rfl), ?_⟩
          | (refine ⟨fun _ => ?_, fun _ => ?_⟩ <;> first | (exfalso; omega) | skip)
          | fail
        exact ⟨rfl, by rw [hwe], k0.trans kx⟩
end Go.Proofs.Ytlpkbcgdcimglaa
