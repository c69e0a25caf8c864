/- Several texts in one. -/
import Derived.Test.YtlpkbcgdcimglaaA0d
import Derived.Test.YtlpkbcgdcimglaaX4
import Derived.Test.YtlpkbcgdcimglaaEu
set_option linter.unusedVariables false
set_option linter.unusedSimpArgs false

/- Picked out of A1.tpl A2.tpl A7.tpl B1.tpl B2.tpl B3.tpl K0s.tpl D1.tpl Sa.tpl S1.tpl S3.tpl S4.tpl S5.tpl S6.tpl Ua.tpl Sd.tpl Sf.tpl. -/
namespace Go.Proofs.Ytlpkbcgdcimglaa
open Go.AI

end Go.Proofs.Ytlpkbcgdcimglaa

namespace Go.Proofs.Ytlpkbcgdcimglaa
open Go.AI

abbrev VI : Int → Value := Value.int .i64

end Go.Proofs.Ytlpkbcgdcimglaa

namespace Go.Proofs.Ytlpkbcgdcimglaa
open Go.AI

theorem ok137 : codeOk Try.f137.ntmps (Try.f137.body.getD .skip) = true := by kernel_rfl
end Go.Proofs.Ytlpkbcgdcimglaa

namespace Go.Proofs.Ytlpkbcgdcimglaa
open Go.AI
theorem fo74 : fieldOff Try.prog 87 0 = some (0, 1) := by kernel_rfl
theorem sz72 : sizeB Try.prog 85 = some 1 := by kernel_rfl
theorem ag72 : isAggB Try.prog 85 = some false := by kernel_rfl
theorem un72 : Try.prog.underlying 85 = some (.int .u64) := by kernel_rfl

/-- A box: a variable of one word. -/
def Box (b : Nat) (H : Heap) : Prop := b < H.n ∧ ∃ w, H.get b = some (.cells [.int .u64 w] 87 1)
def bp (b : Nat) : Value := .pointer (some ⟨b, 0, none⟩)
theorem box_addr {b : Nat} : afieldAddr Try.prog 87 (bp b) 0 = some (bp b) := field_addr fo74 (by decide)
theorem box_load {b : Nat} {H : Heap} {w : Int} (h : H.get b = some (.cells [.int .u64 w] 87 1)) : aload Try.prog 85 H (bp b) = some (.int .u64 w) := by
  simp only [aload, bp, h, ag72]; rfl
theorem box_store {b : Nat} {H : Heap} {w r : Int} (h : H.get b = some (.cells [.int .u64 w] 87 1)) : astore Try.prog 85 H (.int .u64 r) (bp b) = some (H.set b (.cells [.int .u64 r] 87 1), b) := by
  simp only [astore, bp, h, sz72, Value.cells]; rfl
theorem Box.keepX {b : Nat} {H : Heap} {r : Int} (h : Box b H) : Box b (H.set b (.cells [.int .u64 r] 87 1)) := ⟨h.1, r, Heap.get_set_eq _ _ _⟩
theorem Box.keep {b : Nat} {H H' : Heap} (h : Box b H) (k : Keep H H') : Box b H' := ⟨Nat.lt_of_lt_of_le h.1 k.1, by obtain ⟨w, hw⟩ := h.2; exact ⟨w, by rw [k.2 b h.1]; exact hw⟩⟩
theorem KeepX.set {b : Nat} (H : Heap) (o : AObj) : KeepX b H (H.set b o) := ⟨Nat.le_refl _, fun c _ hc => Heap.get_set_ne _ _ (fun h => hc h.symm)⟩
theorem wrap64 (n : Int) : 0 ≤ IntKind.wrap .u64 n ∧ IntKind.wrap .u64 n < 18446744073709551616 := by
  simp only [IntKind.wrap, IntKind.signed, IntKind.bits]
  simp
  omega
theorem wrapI {n : Int} (h0 : -9223372036854775808 ≤ n) (h1 : n < 9223372036854775808) : IntKind.wrap .i64 n = n := by
  simp only [IntKind.wrap, IntKind.signed, IntKind.bits]
  simp
  split <;> omega
theorem wrapU {n : Int} (h0 : 0 ≤ n) (h1 : n < 18446744073709551616) : IntKind.wrap .u64 n = n := by
  simp only [IntKind.wrap, IntKind.signed, IntKind.bits]
  simp
  omega
theorem fdiv64 {x : Int} (h0 : 0 ≤ x) (h1 : x < 18446744073709551616) : 0 ≤ x.fdiv (2 ^ (min (Int.toNat 1) (IntKind.bits .u64))) ∧ x.fdiv (2 ^ (min (Int.toNat 1) (IntKind.bits .u64))) < 9223372036854775808 := by
  rw [show (2 ^ (min (Int.toNat 1) (IntKind.bits .u64)) : Int) = 2 by decide, Int.fdiv_eq_ediv_of_nonneg _ (by omega)]
  omega

set_option maxRecDepth 100000 in
theorem turn_spec {B b : Nat} {H : Heap} (hB : B ≤ b) (hn : B ≤ H.n) (hb : Box b H) :
    CallB Try.prog B 74 [bp b] H (fun r H' => (∃ x, r = .int .u64 x ∧ 0 ≤ x ∧ x < 18446744073709551616) ∧ Box b H' ∧ KeepX b H H') := by
  refine CV.enter callees true rfl Try.func74 rfl (by kernel_rfl) (Nat.le_of_ble_eq_true rfl) hn ?_
  have hb' := hb
  obtain ⟨hbn, w, hw⟩ := hb
  have hw2 : ∀ r, (H.set b (.cells [.int .u64 r] 87 1)).get b = some (.cells [.int .u64 r] 87 1) := fun r => Heap.get_set_eq _ _ _
  repeat' first
    | refine CO.cons rfl ?_
    | refine CO.nil ?_
    | refine CV.seq ?_
    | refine CV.region callees ?_
    | refine CV.cond ?_
    | refine CV.block ?_
    | refine CV.skip ?_
    | refine CV.exit ?_
    | refine CV.ret ?_
    | refine CV.scope ?_
    | refine CV.draw callees (by decide +kernel) ?_
    | refine CH.cons rfl ?_
    | refine CH.nil ?_
    | refine CO.consG rfl ?_
    | refine CH.consG rfl ?_
    | refine CG.cons rfl ?_
    | refine CR.cons ?_
    | refine CR.nil ?_
    | refine CG.nil ?_
    | refine CG.consG rfl ?_
    | refine ⟨(rfl : plain _ = true), ?_⟩
    | refine ⟨(rfl : nilOk _ = some _), ?_⟩
    | refine ⟨_, ints_len (by assumption), ?_⟩
    | refine ⟨_, ints_addr (by assumption) (by omega) (by omega), ?_⟩
    | refine ⟨_, ints_load (by assumption) (by omega) (by omega), ?_⟩
    | refine ⟨(⟨by omega, by omega⟩ : inI64 _), ?_⟩
    | refine ⟨_, fun tm ha => step1_max rfl (ev_tmp ha rfl) (ev_tmp ha rfl), ?_⟩
    | refine ⟨_, fun tm ha => step1_min rfl (ev_tmp ha rfl) (ev_tmp ha rfl), ?_⟩
    | refine ⟨_, box_addr, ?_⟩
    | refine ⟨_, box_load hw, ?_⟩
    | refine ⟨_, box_load (hw2 _), ?_⟩
    | refine ⟨_, _, box_store hw, hB, ?_⟩
    | intro _ _
    | refine ⟨_, fun tm ha => step1_shr rfl (ev_tmp ha rfl) rfl (by decide), ?_⟩
    | refine ⟨_, fun tm ha => step1_bits (.inl rfl) rfl (ev_tmp ha rfl) (ev_tmp ha rfl) rfl rfl, ?_⟩
    | (refine ⟨fun _ => ?_, fun _ => ?_⟩ <;> first | (exfalso; omega) | skip)
    | fail
  refine ⟨rfl, ⟨_, rfl, (wrap64 _).1, (wrap64 _).2⟩, hb'.keepX, KeepX.set _ _⟩

set_option maxRecDepth 100000 in
theorem up_spec {B b : Nat} {H : Heap} {n : Int} (hB : B ≤ b) (hn : B ≤ H.n) (hb : Box b H) (hn1 : n < 9223372036854775808) :
    CallB Try.prog B 38 [bp b, .int .i64 n] H (fun r H' => (∃ x, r = .int .i64 x ∧ 0 ≤ x ∧ (x < n ∨ x = 0)) ∧ Box b H' ∧ KeepX b H H') := by
  refine CV.enter callees true rfl Try.func38 rfl (by kernel_rfl) (Nat.le_of_ble_eq_true rfl) hn ?_
  repeat' first
    | refine CO.cons rfl ?_
    | refine CO.nil ?_
    | refine CV.seq ?_
    | refine CV.region callees ?_
    | refine CV.cond ?_
    | refine CV.block ?_
    | refine CV.skip ?_
    | refine CV.exit ?_
    | refine CV.ret ?_
    | refine CV.scope ?_
    | refine CV.draw callees (by decide +kernel) ?_
    | refine CH.cons rfl ?_
    | refine CH.nil ?_
    | refine CO.consG rfl ?_
    | refine CH.consG rfl ?_
    | refine CG.cons rfl ?_
    | refine CR.cons ?_
    | refine CR.nil ?_
    | refine CG.nil ?_
    | refine CG.consG rfl ?_
    | refine ⟨(rfl : plain _ = true), ?_⟩
    | refine ⟨(rfl : nilOk _ = some _), ?_⟩
    | refine ⟨_, ints_len (by assumption), ?_⟩
    | refine ⟨_, ints_addr (by assumption) (by omega) (by omega), ?_⟩
    | refine ⟨_, ints_load (by assumption) (by omega) (by omega), ?_⟩
    | refine ⟨(⟨by omega, by omega⟩ : inI64 _), ?_⟩
    | refine ⟨_, fun tm ha => step1_max rfl (ev_tmp ha rfl) (ev_tmp ha rfl), ?_⟩
    | refine ⟨_, fun tm ha => step1_min rfl (ev_tmp ha rfl) (ev_tmp ha rfl), ?_⟩
    | refine ⟨fun _ => ?_, fun _ => ?_⟩
    | (refine ⟨fun _ => ?_, fun _ => ?_⟩ <;> first | (exfalso; omega) | skip)
    | fail
  · exact ⟨rfl, ⟨0, rfl, by omega, .inr rfl⟩, hb, KeepX.refl _ _⟩
  refine (turn_spec hB hn hb).mono ?_
  rintro r H' ⟨⟨x, rfl, h0, h1⟩, hb', hk⟩
  have hm : IntKind.wrap .u64 n = n := wrapU (by omega) (by omega)
  obtain ⟨d0, d1⟩ := fdiv64 h0 h1
  repeat' first
    | refine CO.cons rfl ?_
    | refine CO.nil ?_
    | refine CV.seq ?_
    | refine CV.region callees ?_
    | refine CV.cond ?_
    | refine CV.block ?_
    | refine CV.skip ?_
    | refine CV.exit ?_
    | refine CV.ret ?_
    | refine CV.scope ?_
    | refine CV.draw callees (by decide +kernel) ?_
    | refine CH.cons rfl ?_
    | refine CH.nil ?_
    | refine CO.consG rfl ?_
    | refine CH.consG rfl ?_
    | refine CG.cons rfl ?_
    | refine CR.cons ?_
    | refine CR.nil ?_
    | refine CG.nil ?_
    | refine CG.consG rfl ?_
    | refine ⟨(rfl : plain _ = true), ?_⟩
    | refine ⟨(rfl : nilOk _ = some _), ?_⟩
    | refine ⟨_, ints_len (by assumption), ?_⟩
    | refine ⟨_, ints_addr (by assumption) (by omega) (by omega), ?_⟩
    | refine ⟨_, ints_load (by assumption) (by omega) (by omega), ?_⟩
    | refine ⟨(⟨by omega, by omega⟩ : inI64 _), ?_⟩
    | refine ⟨_, fun tm ha => step1_max rfl (ev_tmp ha rfl) (ev_tmp ha rfl), ?_⟩
    | refine ⟨_, fun tm ha => step1_min rfl (ev_tmp ha rfl) (ev_tmp ha rfl), ?_⟩
    | refine ⟨_, fun tm ha => step1_shr rfl (ev_tmp ha rfl) rfl (by decide), ?_⟩
    | refine ⟨_, fun tm ha => step1_conv un3 un72 rfl (ev_tmp ha rfl), ?_⟩
    | refine ⟨_, fun tm ha => step1_rem rfl (ev_tmp ha rfl) (ev_tmp ha rfl) (by rw [hm]; omega), ?_⟩
    | refine ⟨_, fun tm ha => step1_conv un72 un3 rfl (ev_tmp ha rfl), ?_⟩
    | (refine ⟨fun _ => ?_, fun _ => ?_⟩ <;> first | (exfalso; omega) | skip)
    | fail
  rw [hm]
  generalize x.fdiv (2 ^ (min (Int.toNat 1) (IntKind.bits .u64))) = d at d0 d1
  have e1 := Int.tmod_nonneg (b := n) d0
  have e2 := Int.tmod_lt_of_pos d (b := n) (by omega)
  rw [wrapI (by omega) (by omega)]
  exact ⟨rfl, ⟨_, rfl, e1, .inl e2⟩, hb', hk⟩
set_option maxRecDepth 100000 in
theorem any_spec {B b : Nat} {H : Heap} {l h : Int} (hB : B ≤ b) (hn : B ≤ H.n) (hb : Box b H) (h0 : -1000000 ≤ l) (h1 : l ≤ h) (h2 : h < 1000000) :
    CallB Try.prog B 25 [bp b, .int .i64 l, .int .i64 h] H (fun r H' => (∃ x, r = .int .i64 x ∧ l ≤ x ∧ x ≤ h) ∧ Box b H' ∧ KeepX b H H') := by
  refine CV.enter callees false rfl Try.func25 rfl (by kernel_rfl) (Nat.le_of_ble_eq_true rfl) hn ?_
  repeat' first
    | refine CO.cons rfl ?_
    | refine CO.nil ?_
    | refine CV.seq ?_
    | refine CV.region callees ?_
    | refine CV.cond ?_
    | refine CV.block ?_
    | refine CV.skip ?_
    | refine CV.exit ?_
    | refine CV.ret ?_
    | refine CV.scope ?_
    | refine CV.draw callees (by decide +kernel) ?_
    | refine CH.cons rfl ?_
    | refine CH.nil ?_
    | refine CO.consG rfl ?_
    | refine CH.consG rfl ?_
    | refine CG.cons rfl ?_
    | refine CR.cons ?_
    | refine CR.nil ?_
    | refine CG.nil ?_
    | refine CG.consG rfl ?_
    | refine ⟨(rfl : plain _ = true), ?_⟩
    | refine ⟨(rfl : nilOk _ = some _), ?_⟩
    | refine ⟨_, ints_len (by assumption), ?_⟩
    | refine ⟨_, ints_addr (by assumption) (by omega) (by omega), ?_⟩
    | refine ⟨_, ints_load (by assumption) (by omega) (by omega), ?_⟩
    | refine ⟨(⟨by omega, by omega⟩ : inI64 _), ?_⟩
    | refine ⟨_, fun tm ha => step1_max rfl (ev_tmp ha rfl) (ev_tmp ha rfl), ?_⟩
    | refine ⟨_, fun tm ha => step1_min rfl (ev_tmp ha rfl) (ev_tmp ha rfl), ?_⟩
    | (refine ⟨fun _ => ?_, fun _ => ?_⟩ <;> first | (exfalso; omega) | skip)
    | fail
  refine (up_spec hB hn hb (by omega)).mono ?_
  rintro r H' ⟨⟨x, rfl, h3, h4⟩, hb', hk⟩
  repeat' first
    | refine CO.cons rfl ?_
    | refine CO.nil ?_
    | refine CV.seq ?_
    | refine CV.region callees ?_
    | refine CV.cond ?_
    | refine CV.block ?_
    | refine CV.skip ?_
    | refine CV.exit ?_
    | refine CV.ret ?_
    | refine CV.scope ?_
    | refine CV.draw callees (by decide +kernel) ?_
    | refine CH.cons rfl ?_
    | refine CH.nil ?_
    | refine CO.consG rfl ?_
    | refine CH.consG rfl ?_
    | refine CG.cons rfl ?_
    | refine CR.cons ?_
    | refine CR.nil ?_
    | refine CG.nil ?_
    | refine CG.consG rfl ?_
    | refine ⟨(rfl : plain _ = true), ?_⟩
    | refine ⟨(rfl : nilOk _ = some _), ?_⟩
    | refine ⟨_, ints_len (by assumption), ?_⟩
    | refine ⟨_, ints_addr (by assumption) (by omega) (by omega), ?_⟩
    | refine ⟨_, ints_load (by assumption) (by omega) (by omega), ?_⟩
    | refine ⟨(⟨by omega, by omega⟩ : inI64 _), ?_⟩
    | refine ⟨_, fun tm ha => step1_max rfl (ev_tmp ha rfl) (ev_tmp ha rfl), ?_⟩
    | refine ⟨_, fun tm ha => step1_min rfl (ev_tmp ha rfl) (ev_tmp ha rfl), ?_⟩
    | (refine ⟨fun _ => ?_, fun _ => ?_⟩ <;> first | (exfalso; omega) | skip)
    | fail
  exact ⟨rfl, ⟨_, rfl, by omega, by omega⟩, hb', hk⟩
end Go.Proofs.Ytlpkbcgdcimglaa

namespace Go.Proofs.Ytlpkbcgdcimglaa
open Go.AI

theorem build_box {w : Int} : abuild Try.prog 87 [(0, .int .u64 w)] = some (.agg #[.int .u64 w]) := by kernel_rfl
set_option maxRecDepth 100000 in
theorem boxOf_spec {B : Nat} {H : Heap} {v : Value} {xs : List Int} (hn : B ≤ H.n) (hv : Ints H v xs) (hl : xs.length ≤ 9223372036854775807) :
    CallB Try.prog B 19 [v] H (fun r H' => (∃ b, r = bp b ∧ H.n ≤ b ∧ Box b H') ∧ Keep H H') := by
  refine CV.enter callees false rfl Try.func19 rfl (by kernel_rfl) (Nat.le_of_ble_eq_true rfl) hn ?_
  repeat' first
    | refine CO.cons rfl ?_
    | refine CO.nil ?_
    | refine CV.seq ?_
    | refine CV.region callees ?_
    | refine CV.cond ?_
    | refine CV.block ?_
    | refine CV.skip ?_
    | refine CV.exit ?_
    | refine CV.ret ?_
    | refine CV.scope ?_
    | refine CV.draw callees (by decide +kernel) ?_
    | refine CH.cons rfl ?_
    | refine CH.nil ?_
    | refine CO.consG rfl ?_
    | refine CH.consG rfl ?_
    | refine CG.cons rfl ?_
    | refine CR.cons ?_
    | refine CR.nil ?_
    | refine CG.nil ?_
    | refine CG.consG rfl ?_
    | refine ⟨(rfl : plain _ = true), ?_⟩
    | refine ⟨(rfl : nilOk _ = some _), ?_⟩
    | refine ⟨_, ints_len (by assumption), ?_⟩
    | refine ⟨_, ints_addr (by assumption) (by omega) (by omega), ?_⟩
    | refine ⟨_, ints_load (by assumption) (by omega) (by omega), ?_⟩
    | refine ⟨(⟨by omega, by omega⟩ : inI64 _), ?_⟩
    | refine ⟨_, fun tm ha => step1_max rfl (ev_tmp ha rfl) (ev_tmp ha rfl), ?_⟩
    | refine ⟨_, fun tm ha => step1_min rfl (ev_tmp ha rfl) (ev_tmp ha rfl), ?_⟩
    | refine ⟨_, build_box, ?_⟩
    | refine ⟨(rfl : notTuple _ = true), ?_⟩
    | (refine ⟨fun _ => ?_, fun _ => ?_⟩ <;> first | (exfalso; omega) | skip)
    | fail
  refine CV.loopc ?_
  refine WCv.rounds callees false (α := Int) (fun a => [(0, v), (3, bp H.n), (4, .int .i64 a)]) (fun a Hz => 0 ≤ a ∧ a ≤ xs.length ∧ Box H.n Hz ∧ Keep H Hz) (fun a => xs.length - a.toNat) (0) (by repeat' first | exact trivial | refine ⟨rfl, ?_⟩) ?_ ?_
  · exact ⟨by omega, by omega, ⟨Nat.lt_succ_self _, _, Heap.get_new_eq _ _⟩, Keep.new _ _⟩
  rintro i Hx ⟨h0, h1, hb, hk⟩ hBx
  have hvx : Ints Hx v xs := hv.keep hk
  have hb' := hb
  obtain ⟨hbn, w, hw⟩ := hb
  repeat' first
    | refine CO.cons rfl ?_
    | refine CO.nil ?_
    | refine CV.seq ?_
    | refine CV.region callees ?_
    | refine CV.cond ?_
    | refine CV.block ?_
    | refine CV.skip ?_
    | refine CV.exit ?_
    | refine CV.ret ?_
    | refine CV.scope ?_
    | refine CV.draw callees (by decide +kernel) ?_
    | refine CH.cons rfl ?_
    | refine CH.nil ?_
    | refine CO.consG rfl ?_
    | refine CH.consG rfl ?_
    | refine CG.cons rfl ?_
    | refine CR.cons ?_
    | refine CR.nil ?_
    | refine CG.nil ?_
    | refine CG.consG rfl ?_
    | refine ⟨(rfl : plain _ = true), ?_⟩
    | refine ⟨(rfl : nilOk _ = some _), ?_⟩
    | refine ⟨_, ints_len (by assumption), ?_⟩
    | refine ⟨_, ints_addr (by assumption) (by omega) (by omega), ?_⟩
    | refine ⟨_, ints_load (by assumption) (by omega) (by omega), ?_⟩
    | refine ⟨(⟨by omega, by omega⟩ : inI64 _), ?_⟩
    | refine ⟨_, fun tm ha => step1_max rfl (ev_tmp ha rfl) (ev_tmp ha rfl), ?_⟩
    | refine ⟨_, fun tm ha => step1_min rfl (ev_tmp ha rfl) (ev_tmp ha rfl), ?_⟩
    | refine ⟨_, box_addr, ?_⟩
    | refine ⟨_, box_load hw, ?_⟩
    | refine ⟨_, _, box_store hw, hn, ?_⟩
    | intro _ _
    | refine ⟨_, fun tm ha => step1_conv un3 un72 rfl (ev_tmp ha rfl), ?_⟩
    | refine ⟨_, fun tm ha => step1_bits (.inl rfl) rfl (ev_tmp ha rfl) (ev_tmp ha rfl) rfl rfl, ?_⟩
    | (refine ⟨fun _ => ?_, fun _ => ?_⟩ <;> first | (exfalso; omega) | skip)
    | fail
  · refine (turn_spec hn (by exact hBx) hb'.keepX).mono ?_
    rintro r H' ⟨⟨x, rfl, _, _⟩, hb2, hk2⟩
    repeat' first
      | refine CO.cons rfl ?_
      | refine CO.nil ?_
      | refine CV.seq ?_
      | refine CV.region callees ?_
      | refine CV.cond ?_
      | refine CV.block ?_
      | refine CV.skip ?_
      | refine CV.exit ?_
      | refine CV.ret ?_
      | refine CV.scope ?_
      | refine CV.draw callees (by decide +kernel) ?_
      | refine CH.cons rfl ?_
      | refine CH.nil ?_
      | refine CO.consG rfl ?_
      | refine CH.consG rfl ?_
      | refine CG.cons rfl ?_
      | refine CR.cons ?_
      | refine CR.nil ?_
      | refine CG.nil ?_
      | refine CG.consG rfl ?_
      | refine ⟨(rfl : plain _ = true), ?_⟩
      | refine ⟨(rfl : nilOk _ = some _), ?_⟩
      | refine ⟨_, ints_len (by assumption), ?_⟩
      | refine ⟨_, ints_addr (by assumption) (by omega) (by omega), ?_⟩
      | refine ⟨_, ints_load (by assumption) (by omega) (by omega), ?_⟩
      | refine ⟨(⟨by omega, by omega⟩ : inI64 _), ?_⟩
      | refine ⟨_, fun tm ha => step1_max rfl (ev_tmp ha rfl) (ev_tmp ha rfl), ?_⟩
      | refine ⟨_, fun tm ha => step1_min rfl (ev_tmp ha rfl) (ev_tmp ha rfl), ?_⟩
      | (refine ⟨fun _ => ?_, fun _ => ?_⟩ <;> first | (exfalso; omega) | skip)
      | fail
    refine ⟨(i + 1), (by repeat' first | exact trivial | refine ⟨rfl, ?_⟩), (by (try dsimp only); omega), ?_⟩
    exact ⟨by omega, by omega, hb2, ((KeepX.set _ _).trans hk2).keep hk (Nat.le_refl _)⟩
  · repeat' first
      | refine CO.cons rfl ?_
      | refine CO.nil ?_
      | refine CV.seq ?_
      | refine CV.region callees ?_
      | refine CV.cond ?_
      | refine CV.block ?_
      | refine CV.skip ?_
      | refine CV.exit ?_
      | refine CV.ret ?_
      | refine CV.scope ?_
      | refine CV.draw callees (by decide +kernel) ?_
      | refine CH.cons rfl ?_
      | refine CH.nil ?_
      | refine CO.consG rfl ?_
      | refine CH.consG rfl ?_
      | refine CG.cons rfl ?_
      | refine CR.cons ?_
      | refine CR.nil ?_
      | refine CG.nil ?_
      | refine CG.consG rfl ?_
      | refine ⟨(rfl : plain _ = true), ?_⟩
      | refine ⟨(rfl : nilOk _ = some _), ?_⟩
      | refine ⟨_, ints_len (by assumption), ?_⟩
      | refine ⟨_, ints_addr (by assumption) (by omega) (by omega), ?_⟩
      | refine ⟨_, ints_load (by assumption) (by omega) (by omega), ?_⟩
      | refine ⟨(⟨by omega, by omega⟩ : inI64 _), ?_⟩
      | refine ⟨_, fun tm ha => step1_max rfl (ev_tmp ha rfl) (ev_tmp ha rfl), ?_⟩
      | refine ⟨_, fun tm ha => step1_min rfl (ev_tmp ha rfl) (ev_tmp ha rfl), ?_⟩
      | (refine ⟨fun _ => ?_, fun _ => ?_⟩ <;> first | (exfalso; omega) | skip)
      | fail
    exact ⟨rfl, ⟨_, rfl, Nat.le_refl _, hb'⟩, hk⟩

end Go.Proofs.Ytlpkbcgdcimglaa

namespace Go.Proofs.Ytlpkbcgdcimglaa
open Go.AI
theorem Box.keepBut {b : Nat} {x : Value} {H H' : Heap} (h : Box b H) (k : KeepBut x H H') (hx : blkOf x ≠ some b) : Box b H' :=
  ⟨Nat.lt_of_lt_of_le h.1 k.le, by obtain ⟨w, hw⟩ := h.2; exact ⟨w, by rw [k.get b h.1 hx]; exact hw⟩⟩
theorem own_apartBox {b : Nat} {e : TypeId} {H H0 : Heap} {v : Value} {vs : List Value} {B : Nat} (h : Own e H v vs B) (hb : b < B) : blkOf v ≠ some b := fun hc => by have := (h.lt hc).1; omega
theorem own_box {e : TypeId} {H H' : Heap} {b : Nat} {v : Value} {vs : List Value} {B : Nat} (h : Own e H v vs B) (k : KeepX b H H') (hb : Box b H) : Own e H' v vs B := by
  obtain ⟨w, hw⟩ := hb.2; exact h.keepX k hw
theorem row_box {H H' : Heap} {b : Nat} {v : Value} {vs : List Value} (h : Row H v vs) (k : KeepX b H H') (hb : Box b H) : Row H' v vs := by
  obtain ⟨w, hw⟩ := hb.2; exact h.keepX k hw
theorem push_ask {H : Heap} {K : Value → Heap → Prop} {B B0 : Nat} {x : Value} {y : Int} {l : List Int} (hx : Own 3 H x (l.map VI) B0) (hB0 : B0 ≤ H.n) (hB : B ≤ B0) (hn : l.length < 1000000)
    (hk : ∀ r H', Own 3 H' r ((l ++ [y]).map VI) B0 → KeepBut x H H' → (∀ c, blkOf r = some c → H.n ≤ c) → K r H') :
    ∃ v H' b, aappend Try.prog (H.new (.cells [.int .i64 y] 3 2)) #[22, 22] x (.slice (some ⟨H.n, 0, none⟩) 1 0) = some (v, H', b) ∧ B ≤ b ∧ K v H' :=
  append_ask un22 one3 (by omega) hx hB0 hB (by simpa using hn) fun r H' h => hk r H' (by simpa using h)
theorem put_ask {H : Heap} {K : Heap → Prop} {B B0 : Nat} {x : Value} {y : Int} {l : List Int} {i : Nat} (hx : Own 3 H x (l.map VI) B0) (hB : B ≤ B0) (hi : i < l.length)
    (hk : ∀ H', Own 3 H' x ((l.set i y).map VI) B0 → KeepBut x H H' → K H') :
    ∃ H' b, astore Try.prog 3 H (.int .i64 y) (elemAt x i) = some (H', b) ∧ B ≤ b ∧ K H' :=
  store_ask sz3 hx hB (by simpa using hi) rfl fun H' h => hk H' (by rw [List.map_set]; exact h)

end Go.Proofs.Ytlpkbcgdcimglaa

namespace Go.Proofs.Ytlpkbcgdcimglaa
open Go.AI
end Go.Proofs.Ytlpkbcgdcimglaa
namespace Go.AI
open Go.Proofs.Ytlpkbcgdcimglaa
theorem slot_int {k : IntKind} {a b : Int} (h : a = b) : Value.int k a = Value.int k b := by rw [h]
theorem Own.box {b : Nat} {e : TypeId} {H H' : Heap} {v : Value} {vs : List Value} {B : Nat} (h : Own e H v vs B) (k : KeepX b H H') (hb : Box b H) : Own e H' v vs B := own_box h k hb
end Go.AI

namespace Go.AI
def zeroCells (P : Program) (t : TypeId) : Option (List Value) :=
  match (P.info? t).bind (·.zero) with
  | some z => bif z.cells.toList.all scalar then some z.cells.toList else none
  | none => none
theorem alloc_of {P : Program} {H : Heap} {t : TypeId} {l : List Value} (h : zeroCells P t = some l) : sAlloc P H t = some (.pointer (some ⟨H.n, 0, none⟩), H.new (.cells l t 1), H.n) := by
  unfold zeroCells at h
  unfold sAlloc
  split at h
  · rename_i z hz
    rw [hz]
    cases hc : z.cells.toList.all scalar with
    | true =>
      rw [hc] at h
      cases h
      simp only [hc, if_true]
      rfl
    | false => rw [hc] at h; cases h
  · cases h
theorem splice_all : ∀ (vs cs : List Value) (i : Nat), i + vs.length ≤ cs.length → splice cs i vs = cs.take i ++ vs ++ cs.drop (i + vs.length)
  | [], cs, i, _ => by simp [splice]
  | v :: vs, cs, i, h => by
    simp only [List.length_cons] at h
    rw [splice, splice_all vs (cs.set i v) (i + 1) (by rw [List.length_set]; omega)]
    have h1 : (cs.set i v).take (i + 1) = cs.take i ++ [v] := by
      apply List.ext_getElem
      · simp; omega
      · intro j h1 h2
        simp only [List.length_take, List.length_set] at h1
        rw [List.getElem_take, List.getElem_set, List.getElem_append]
        by_cases hj : j < i
        · rw [if_neg (by omega), dif_pos (by simp; omega), List.getElem_take]
        · have : j = i := by omega
          subst this
          rw [if_pos rfl, dif_neg (by rw [List.length_take]; omega)]
          simp
    rw [h1, List.drop_set_of_lt (by omega)]
    simp [Nat.add_assoc, Nat.add_comm 1]
theorem store_all {P : Program} {H : Heap} {t e : TypeId} {b k : Nat} {cs vs : List Value} (hb : H.get b = some (.cells cs e (k + 1))) (hl : cs.length = vs.length) (hs : sizeB P t = some vs.length) (ho : vs.all oneC = true) :
    astore P t H (.agg vs.toArray) (.pointer (some ⟨b, 0, none⟩)) = some (H.set b (.cells vs e (k + 1)), b) := by
  have h1 : (Value.agg vs.toArray).cells = vs.toArray := rfl
  simp only [astore, hb, h1, hs, spliceQ_eq]
  rw [if_pos ⟨by simp, by simp; omega, rfl, by simpa using ho⟩, splice_all _ _ _ (by simp; omega)]
  simp only [List.take_zero, List.nil_append, Nat.zero_add]
  rw [List.drop_eq_nil_of_le (by omega), List.append_nil]
theorem array_addr {P : Program} {t e : TypeId} {len s : Nat} (ht : P.underlying t = some (.array len e)) (hs : sizeB P e = some s) {b i : Nat} {k : Int} {kd : IntKind} (h0 : 0 ≤ k) (h1 : k < len) :
    aindexAddr P t (.pointer (some ⟨b, i, none⟩)) (.int kd k) = some (.pointer (some ⟨b, i + k.toNat * s, none⟩)) := by
  simp [aindexAddr, asIdx, ht, hs, h0, h1]
end Go.AI
namespace Go.Proofs.Ytlpkbcgdcimglaa
open Go.AI
end Go.Proofs.Ytlpkbcgdcimglaa

namespace Go.Proofs.Ytlpkbcgdcimglaa
open Go.AI
/-- All its numbers differ. -/
def Dist (l : List Int) : Prop := ∀ a b, a < l.length → b < l.length → l[a]! = l[b]! → a = b
theorem get_set {l : List Int} {i a : Nat} {x : Int} (ha : a < l.length) : (l.set i x)[a]! = if i = a then x else l[a]! := by
  rw [getElem!_pos _ a (by rw [List.length_set]; exact ha), List.getElem_set, getElem!_pos l a ha]
def sw (i k a : Nat) : Nat := if k = a then i else if i = a then k else a
theorem get_swap {l : List Int} {i k a : Nat} (ha : a < l.length) : ((l.set i l[k]!).set k l[i]!)[a]! = l[sw i k a]! := by
  rw [get_set (by rw [List.length_set]; exact ha), get_set ha, sw]
  split
  · rfl
  · split <;> rfl
theorem sw_lt {n i k a : Nat} (hi : i < n) (hk : k < n) (ha : a < n) : sw i k a < n := by
  unfold sw; split
  · exact hi
  · split
    · exact hk
    · exact ha
theorem sw_inj {i k a b : Nat} (h : sw i k a = sw i k b) : a = b := by
  unfold sw at h
  split at h <;> split at h <;> (try split at h) <;> (try split at h) <;> omega
theorem Dist.swap {l : List Int} {i k : Nat} (h : Dist l) (hi : i < l.length) (hk : k < l.length) : Dist ((l.set i l[k]!).set k l[i]!) := by
  intro a b ha hb e
  rw [List.length_set, List.length_set] at ha hb
  rw [get_swap ha, get_swap hb] at e
  exact sw_inj (h _ _ (sw_lt hi hk ha) (sw_lt hi hk hb) e)
/-- The numbers below n in some order. -/
def OrderL (l : List Int) : Prop := Dist l ∧ ∀ a, a < l.length → 0 ≤ l[a]! ∧ l[a]! < l.length
theorem OrderL.swap {l : List Int} {i k : Nat} (h : OrderL l) (hi : i < l.length) (hk : k < l.length) : OrderL ((l.set i l[k]!).set k l[i]!) := by
  refine ⟨h.1.swap hi hk, fun a ha => ?_⟩
  rw [List.length_set, List.length_set] at ha ⊢
  rw [get_swap ha]
  exact h.2 _ (sw_lt hi hk ha)
theorem OrderL.push {l : List Int} (h : OrderL l) : OrderL (l ++ [(l.length : Int)]) := by
  have g1 : ∀ a, a < l.length → (l ++ [(l.length : Int)])[a]! = l[a]! := fun a ha => by
    rw [getElem!_pos _ a (by simp; omega), List.getElem_append_left ha, getElem!_pos l a ha]
  have g2 : (l ++ [(l.length : Int)])[l.length]! = l.length := by
    rw [getElem!_pos _ _ (by simp)]; simp
  refine ⟨fun a b ha hb e => ?_, fun a ha => ?_⟩
  · rw [List.length_append, List.length_singleton] at ha hb
    by_cases h1 : a < l.length <;> by_cases h2 : b < l.length
    · rw [g1 a h1, g1 b h2] at e; exact h.1 a b h1 h2 e
    · have hb' : b = l.length := by omega
      subst hb'
      rw [g1 a h1, g2] at e
      have := h.2 a h1; omega
    · have ha' : a = l.length := by omega
      subst ha'
      rw [g1 b h2, g2] at e
      have := h.2 b h2; omega
    · omega
  · rw [List.length_append, List.length_singleton] at ha ⊢
    by_cases h1 : a < l.length
    · rw [g1 a h1]; have := h.2 a h1; omega
    · have ha' : a = l.length := by omega
      subst ha'
      rw [g2]; omega
end Go.Proofs.Ytlpkbcgdcimglaa

namespace Go.Proofs.Ytlpkbcgdcimglaa
open Go.AI
/-- One cell of a variable. -/
theorem cell_load {H : Heap} {b i : Nat} {cs : List Value} {e t : TypeId} {k : Nat} {x : Value} (ha : isAggB Try.prog t = some false) (hg : H.get b = some (.cells cs e k)) (hx : cs[i]? = some x) : aload Try.prog t H (.pointer (some ⟨b, i, none⟩)) = some x := by
  simp [aload, hg, ha, hx]
theorem ag22 : isAggB Try.prog 22 = some false := by kernel_rfl
def ptsOk (a c w n l : Int) : Prop := (0 ≤ a ∧ a ≤ 1000) ∧ (0 ≤ c ∧ c ≤ 1000) ∧ (0 ≤ w ∧ w ≤ 1000) ∧ (0 ≤ n ∧ n ≤ 1000) ∧ 0 ≤ l ∧ l ≤ 1000
instance (a c w n l : Int) : Decidable (ptsOk a c w n l) := by unfold ptsOk; infer_instance
end Go.Proofs.Ytlpkbcgdcimglaa

namespace Go.AI
theorem row_slice_lo {P : Program} {H : Heap} {t e : TypeId} {v : Value} {vs : List Value} {i : Int} {kd : IntKind} (ht : P.underlying t = some (.slice e)) (hs : sizeB P e = some 1) (hv : Row H v vs) (h0 : 0 ≤ i) (h1 : i ≤ vs.length) :
    ∃ r, aslice P t v (some (some (.int kd i))) none = some r ∧ Row H r (vs.drop i.toNat) := by
  rcases hv with ⟨rfl, rfl⟩ | ⟨rfl, rfl⟩ | ⟨b, o, c, cs, e', k, rfl, h2, h3, h4, h5, h6⟩
  · simp at h1
    have : i = 0 := by omega
    subst this
    exact ⟨.slice none 0 0, by simp [aslice, ht, hs, bound], .inl ⟨rfl, by simp⟩⟩
  · simp at h1
    have : i = 0 := by omega
    subst this
    exact ⟨anon, by simp [aslice, anon, ht, hs, bound], .inr (.inl ⟨rfl, by simp⟩)⟩
  · by_cases hz : i = 0
    · subst hz
      exact ⟨.slice (some ⟨b, o, none⟩) vs.length c, by simp [aslice, ht, hs, bound], .inr (.inr ⟨b, o, c, cs, e', k, by simp, h2, h3, h4, by simpa using h5, by simpa using h6⟩)⟩
    · by_cases hl : i = vs.length
      · subst hl
        exact ⟨anon, by
          have hne : vs ≠ [] := fun h => hz (by rw [h]; rfl)
          simp [aslice, ht, hs, bound, hne], .inr (.inl ⟨rfl, by simp⟩)⟩
      · refine ⟨.slice (some ⟨b, o + i.toNat, none⟩) ((vs.length : Int) - i).toNat (c + i.toNat), by simp [aslice, ht, hs, bound, hz, hl, h0, h1], .inr (.inr ⟨b, o + i.toNat, c + i.toNat, cs, e', k, ?_, h2, h3, h4, ?_, ?_⟩)⟩
        · rw [List.length_drop]; congr 1; omega
        · rw [List.length_drop]; omega
        · intro j w hj
          rw [List.getElem?_drop] at hj
          have := h6 _ _ hj
          rwa [Nat.add_assoc]
end Go.AI
namespace Go.Proofs.Ytlpkbcgdcimglaa
open Go.AI
theorem slice_lo {K : Value → Prop} {H : Heap} {v : Value} {xs : List Int} {i : Int} (hv : Ints H v xs) (h0 : 0 ≤ i) (h1 : i ≤ xs.length) (hk : ∀ r, Ints H r (xs.drop i.toNat) → K r) :
    ∃ r, aslice Try.prog 22 v (some (some (.int .i64 i))) none = some r ∧ K r := by
  obtain ⟨r, h2, h3⟩ := row_slice_lo (kd := .i64) un22 sz3 hv h0 (by simpa using h1)
  exact ⟨r, h2, hk r (by rw [← List.map_drop] at h3; exact h3)⟩
end Go.Proofs.Ytlpkbcgdcimglaa

namespace Go.Proofs.Ytlpkbcgdcimglaa
open Go.AI
theorem keep_put {H H1 H2 : Heap} {b : Nat} (k : Keep H H1) (hb : H.n ≤ b) (ho : ∀ c, c ≠ b → H2.get c = H1.get c) (hn : H2.n = H1.n) : Keep H H2 :=
  ⟨by rw [hn]; exact k.1, fun c hc => by rw [ho c (by omega)]; exact k.2 c hc⟩
end Go.Proofs.Ytlpkbcgdcimglaa

namespace Go.Proofs.Ytlpkbcgdcimglaa
open Go.AI
theorem keepX_put {b c : Nat} {H H1 H2 : Heap} (k : KeepX b H H1) (hc : H.n ≤ c) (ho : ∀ d, d ≠ c → H2.get d = H1.get d) (hn : H2.n = H1.n) : KeepX b H H2 :=
  ⟨by rw [hn]; exact k.1, fun d hd hdb => by rw [ho d (by omega)]; exact k.2 d hd hdb⟩
theorem box_put {b c : Nat} {H H2 : Heap} (h : Box b H) (hc : b ≠ c) (ho : ∀ d, d ≠ c → H2.get d = H.get d) (hn : H2.n = H.n) : Box b H2 :=
  ⟨by rw [hn]; exact h.1, by obtain ⟨w, hw⟩ := h.2; exact ⟨w, by rw [ho b hc]; exact hw⟩⟩

set_option maxRecDepth 100000 in
theorem order_spec {B b : Nat} {H : Heap} {n : Nat} (hB : B ≤ b) (hn : B ≤ H.n) (hb : Box b H) (h9 : n ≤ 100) :
    CallB Try.prog B 64 [bp b, .int .i64 (n : Int)] H (fun r H' => (∃ xs : List Int, OrderL xs ∧ xs.length = n ∧ Own 3 H' r (xs.map VI) H.n) ∧ Box b H' ∧ KeepX b H H') := by
  refine CV.enter callees false rfl Try.func64 rfl (by kernel_rfl) (Nat.le_of_ble_eq_true rfl) hn ?_
  repeat' first
    | refine CO.cons rfl ?_
    | refine CO.nil ?_
    | refine CV.seq ?_
    | refine CV.region callees ?_
    | refine CV.cond ?_
    | refine CV.block ?_
    | refine CV.skip ?_
    | refine CV.exit ?_
    | refine CV.ret ?_
    | refine CV.scope ?_
    | refine CV.draw callees (by decide +kernel) ?_
    | refine CH.cons rfl ?_
    | refine CH.nil ?_
    | refine CO.consG rfl ?_
    | refine CH.consG rfl ?_
    | refine CG.cons rfl ?_
    | refine CR.cons ?_
    | refine CR.nil ?_
    | refine CG.nil ?_
    | refine CG.consG rfl ?_
    | refine ⟨(rfl : plain _ = true), ?_⟩
    | refine ⟨(rfl : nilOk _ = some _), ?_⟩
    | refine ⟨_, ints_len (by assumption), ?_⟩
    | refine ⟨_, ints_addr (by assumption) (by omega) (by omega), ?_⟩
    | refine ⟨_, ints_load (by assumption) (by omega) (by omega), ?_⟩
    | refine ⟨(⟨by omega, by omega⟩ : inI64 _), ?_⟩
    | refine ⟨_, fun tm ha => step1_max rfl (ev_tmp ha rfl) (ev_tmp ha rfl), ?_⟩
    | refine ⟨_, fun tm ha => step1_min rfl (ev_tmp ha rfl) (ev_tmp ha rfl), ?_⟩
    | (refine ⟨fun _ => ?_, fun _ => ?_⟩ <;> first | (exfalso; omega) | skip)
    | fail
  refine CV.loopc ?_
  refine WCv.rounds callees false (α := Value × List Int) (fun (l, xs) => [(0, bp b), (1, .int .i64 n), (5, l), (6, .int .i64 xs.length)]) (fun (l, xs) Hz => OrderL xs ∧ xs.length ≤ n ∧ Own 3 Hz l (xs.map VI) H.n ∧ Box b Hz ∧ KeepX b H Hz) (fun (l, xs) => n - xs.length) (.slice none 0 0, []) (by repeat' first | exact trivial | refine ⟨rfl, ?_⟩ | refine ⟨slot_int (by (try simp only [Int.toNat_natCast]); omega), ?_⟩) ?_ ?_
  · exact ⟨⟨fun a b ha => by simp at ha, fun a ha => by simp at ha⟩, by simp, .inl ⟨rfl, rfl⟩, hb, KeepX.refl _ _⟩
  rintro ⟨l, xs⟩ Hx ⟨ho, hlen, hl, hbx, hkx⟩ hBx
  by_cases hi : xs.length < n
  · repeat' first
      | refine CO.cons rfl ?_
      | refine CO.nil ?_
      | refine CV.seq ?_
      | refine CV.region callees ?_
      | refine CV.cond ?_
      | refine CV.block ?_
      | refine CV.skip ?_
      | refine CV.exit ?_
      | refine CV.ret ?_
      | refine CV.scope ?_
      | refine CV.draw callees (by decide +kernel) ?_
      | refine CH.cons rfl ?_
      | refine CH.nil ?_
      | refine CO.consG rfl ?_
      | refine CH.consG rfl ?_
      | refine CG.cons rfl ?_
      | refine CR.cons ?_
      | refine CR.nil ?_
      | refine CG.nil ?_
      | refine CG.consG rfl ?_
      | refine ⟨(rfl : plain _ = true), ?_⟩
      | refine ⟨(rfl : nilOk _ = some _), ?_⟩
      | refine ⟨_, ints_len (by assumption), ?_⟩
      | refine ⟨_, ints_addr (by assumption) (by omega) (by omega), ?_⟩
      | refine ⟨_, ints_load (by assumption) (by omega) (by omega), ?_⟩
      | refine ⟨(⟨by omega, by omega⟩ : inI64 _), ?_⟩
      | refine ⟨_, fun tm ha => step1_max rfl (ev_tmp ha rfl) (ev_tmp ha rfl), ?_⟩
      | refine ⟨_, fun tm ha => step1_min rfl (ev_tmp ha rfl) (ev_tmp ha rfl), ?_⟩
      | (refine ⟨fun _ => ?_, fun _ => ?_⟩ <;> first | (exfalso; omega) | skip)
      | fail
    refine (up_spec hB hBx hbx (by omega)).mono ?_
    rintro r H2 ⟨⟨x, rfl, hx0, hx1⟩, hb2, hk2⟩
    have hl2 := own_box hl hk2 hbx
    have hkx2 := hkx.trans hk2
    repeat' first
      | refine CO.cons rfl ?_
      | refine CO.nil ?_
      | refine CV.seq ?_
      | refine CV.region callees ?_
      | refine CV.cond ?_
      | refine CV.block ?_
      | refine CV.skip ?_
      | refine CV.exit ?_
      | refine CV.ret ?_
      | refine CV.scope ?_
      | refine CV.draw callees (by decide +kernel) ?_
      | refine CH.cons rfl ?_
      | refine CH.nil ?_
      | refine CO.consG rfl ?_
      | refine CH.consG rfl ?_
      | refine CG.cons rfl ?_
      | refine CR.cons ?_
      | refine CR.nil ?_
      | refine CG.nil ?_
      | refine CG.consG rfl ?_
      | refine ⟨(rfl : plain _ = true), ?_⟩
      | refine ⟨(rfl : nilOk _ = some _), ?_⟩
      | refine ⟨_, ints_len (by assumption), ?_⟩
      | refine ⟨_, ints_addr (by assumption) (by omega) (by omega), ?_⟩
      | refine ⟨_, ints_load (by assumption) (by omega) (by omega), ?_⟩
      | refine ⟨(⟨by omega, by omega⟩ : inI64 _), ?_⟩
      | refine ⟨_, fun tm ha => step1_max rfl (ev_tmp ha rfl) (ev_tmp ha rfl), ?_⟩
      | refine ⟨_, fun tm ha => step1_min rfl (ev_tmp ha rfl) (ev_tmp ha rfl), ?_⟩
      | refine ⟨_, _, build_one un22 one3 rfl, ?_⟩
      | (refine ⟨fun _ => ?_, fun _ => ?_⟩ <;> first | (exfalso; omega) | skip)
      | fail
    refine push_ask hl2 hkx2.1 hn (by omega) ?_
    intro l3 H3 hl3 kb3 hf3
    have hb3 := hb2.keepBut kb3 (own_apartBox (H0 := H) hl2 hb.1)
    have hkx3 := kb3.keepX hkx2 fun c hc => (hl2.lt hc).1
    have hp := ho.push
    obtain ⟨ys, hys⟩ : ∃ ys, xs ++ [(xs.length : Int)] = ys := ⟨_, rfl⟩
    rw [hys] at hl3 hp
    have ly : ys.length = xs.length + 1 := by rw [← hys]; simp
    have hli : Ints H3 l3 ys := hl3.row
    have hxk : ys[(xs.length : Int).toNat]! = ys[xs.length]! := rfl
    repeat' first
      | refine CO.cons rfl ?_
      | refine CO.nil ?_
      | refine CV.seq ?_
      | refine CV.region callees ?_
      | refine CV.cond ?_
      | refine CV.block ?_
      | refine CV.skip ?_
      | refine CV.exit ?_
      | refine CV.ret ?_
      | refine CV.scope ?_
      | refine CV.draw callees (by decide +kernel) ?_
      | refine CH.cons rfl ?_
      | refine CH.nil ?_
      | refine CO.consG rfl ?_
      | refine CH.consG rfl ?_
      | refine CG.cons rfl ?_
      | refine CR.cons ?_
      | refine CR.nil ?_
      | refine CG.nil ?_
      | refine CG.consG rfl ?_
      | refine ⟨(rfl : plain _ = true), ?_⟩
      | refine ⟨(rfl : nilOk _ = some _), ?_⟩
      | refine ⟨_, ints_len (by assumption), ?_⟩
      | refine ⟨_, ints_addr (by assumption) (by omega) (by omega), ?_⟩
      | refine ⟨_, ints_load (by assumption) (by omega) (by omega), ?_⟩
      | refine ⟨(⟨by omega, by omega⟩ : inI64 _), ?_⟩
      | refine ⟨_, fun tm ha => step1_max rfl (ev_tmp ha rfl) (ev_tmp ha rfl), ?_⟩
      | refine ⟨_, fun tm ha => step1_min rfl (ev_tmp ha rfl) (ev_tmp ha rfl), ?_⟩
      | (refine ⟨fun _ => ?_, fun _ => ?_⟩ <;> first | (exfalso; omega) | skip)
      | fail
    refine put_ask (i := xs.length) hl3 hn (by omega) ?_
    intro H4 hl4 kb4
    repeat' first
      | refine CO.cons rfl ?_
      | refine CO.nil ?_
      | refine CV.seq ?_
      | refine CV.region callees ?_
      | refine CV.cond ?_
      | refine CV.block ?_
      | refine CV.skip ?_
      | refine CV.exit ?_
      | refine CV.ret ?_
      | refine CV.scope ?_
      | refine CV.draw callees (by decide +kernel) ?_
      | refine CH.cons rfl ?_
      | refine CH.nil ?_
      | refine CO.consG rfl ?_
      | refine CH.consG rfl ?_
      | refine CG.cons rfl ?_
      | refine CR.cons ?_
      | refine CR.nil ?_
      | refine CG.nil ?_
      | refine CG.consG rfl ?_
      | refine ⟨(rfl : plain _ = true), ?_⟩
      | refine ⟨(rfl : nilOk _ = some _), ?_⟩
      | refine ⟨_, ints_len (by assumption), ?_⟩
      | refine ⟨_, ints_addr (by assumption) (by omega) (by omega), ?_⟩
      | refine ⟨_, ints_load (by assumption) (by omega) (by omega), ?_⟩
      | refine ⟨(⟨by omega, by omega⟩ : inI64 _), ?_⟩
      | refine ⟨_, fun tm ha => step1_max rfl (ev_tmp ha rfl) (ev_tmp ha rfl), ?_⟩
      | refine ⟨_, fun tm ha => step1_min rfl (ev_tmp ha rfl) (ev_tmp ha rfl), ?_⟩
      | (refine ⟨fun _ => ?_, fun _ => ?_⟩ <;> first | (exfalso; omega) | skip)
      | fail
    refine put_ask (i := x.toNat) hl4 hn (by rw [List.length_set]; omega) ?_
    intro H5 hl5 kb5
    have hb4 := hb3.keepBut kb4 (own_apartBox (H0 := H) hl3 hb.1)
    have hkx4 := kb4.keepX hkx3 fun c hc => (hl3.lt hc).1
    have hb5 := hb4.keepBut kb5 (own_apartBox (H0 := H) hl4 hb.1)
    have hkx5 := kb5.keepX hkx4 fun c hc => (hl4.lt hc).1
    have hsw := hp.swap (i := xs.length) (k := x.toNat) (by omega) (by omega)
    have lz : ((ys.set xs.length ys[x.toNat]!).set x.toNat ys[xs.length]!).length = ys.length := by rw [List.length_set, List.length_set]
    repeat' first
      | refine CO.cons rfl ?_
      | refine CO.nil ?_
      | refine CV.seq ?_
      | refine CV.region callees ?_
      | refine CV.cond ?_
      | refine CV.block ?_
      | refine CV.skip ?_
      | refine CV.exit ?_
      | refine CV.ret ?_
      | refine CV.scope ?_
      | refine CV.draw callees (by decide +kernel) ?_
      | refine CH.cons rfl ?_
      | refine CH.nil ?_
      | refine CO.consG rfl ?_
      | refine CH.consG rfl ?_
      | refine CG.cons rfl ?_
      | refine CR.cons ?_
      | refine CR.nil ?_
      | refine CG.nil ?_
      | refine CG.consG rfl ?_
      | refine ⟨(rfl : plain _ = true), ?_⟩
      | refine ⟨(rfl : nilOk _ = some _), ?_⟩
      | refine ⟨_, ints_len (by assumption), ?_⟩
      | refine ⟨_, ints_addr (by assumption) (by omega) (by omega), ?_⟩
      | refine ⟨_, ints_load (by assumption) (by omega) (by omega), ?_⟩
      | refine ⟨(⟨by omega, by omega⟩ : inI64 _), ?_⟩
      | refine ⟨_, fun tm ha => step1_max rfl (ev_tmp ha rfl) (ev_tmp ha rfl), ?_⟩
      | refine ⟨_, fun tm ha => step1_min rfl (ev_tmp ha rfl) (ev_tmp ha rfl), ?_⟩
      | (refine ⟨fun _ => ?_, fun _ => ?_⟩ <;> first | (exfalso; omega) | skip)
      | fail
    refine ⟨(l3, (ys.set xs.length ys[x.toNat]!).set x.toNat ys[xs.length]!), (by repeat' first | exact trivial | refine ⟨rfl, ?_⟩ | refine ⟨slot_int (by (try simp only [Int.toNat_natCast]); omega), ?_⟩), (by (try dsimp only); omega), ?_⟩
    exact ⟨hsw, by omega, hl5, hb5, hkx5⟩
  · repeat' first
      | refine CO.cons rfl ?_
      | refine CO.nil ?_
      | refine CV.seq ?_
      | refine CV.region callees ?_
      | refine CV.cond ?_
      | refine CV.block ?_
      | refine CV.skip ?_
      | refine CV.exit ?_
      | refine CV.ret ?_
      | refine CV.scope ?_
      | refine CV.draw callees (by decide +kernel) ?_
      | refine CH.cons rfl ?_
      | refine CH.nil ?_
      | refine CO.consG rfl ?_
      | refine CH.consG rfl ?_
      | refine CG.cons rfl ?_
      | refine CR.cons ?_
      | refine CR.nil ?_
      | refine CG.nil ?_
      | refine CG.consG rfl ?_
      | refine ⟨(rfl : plain _ = true), ?_⟩
      | refine ⟨(rfl : nilOk _ = some _), ?_⟩
      | refine ⟨_, ints_len (by assumption), ?_⟩
      | refine ⟨_, ints_addr (by assumption) (by omega) (by omega), ?_⟩
      | refine ⟨_, ints_load (by assumption) (by omega) (by omega), ?_⟩
      | refine ⟨(⟨by omega, by omega⟩ : inI64 _), ?_⟩
      | refine ⟨_, fun tm ha => step1_max rfl (ev_tmp ha rfl) (ev_tmp ha rfl), ?_⟩
      | refine ⟨_, fun tm ha => step1_min rfl (ev_tmp ha rfl) (ev_tmp ha rfl), ?_⟩
      | (refine ⟨fun _ => ?_, fun _ => ?_⟩ <;> first | (exfalso; omega) | skip)
      | fail
    exact ⟨by simp only [List.all_cons, List.all_nil, hl.notTuple]; rfl, ⟨xs, ho, by omega, hl⟩, hbx, hkx⟩
end Go.Proofs.Ytlpkbcgdcimglaa

namespace Go.Proofs.Ytlpkbcgdcimglaa
open Go.AI
theorem sz22 : sizeB Try.prog 22 = some 1 := by kernel_rfl
end Go.Proofs.Ytlpkbcgdcimglaa

namespace Go.AI
section
variable {P : Program} {H : Heap} {t e : TypeId} {z : Value} {by' : Nat}
end
end Go.AI
namespace Go.Proofs.Ytlpkbcgdcimglaa
open Go.AI
theorem at_snoc {α : Type} [Inhabited α] {l : List α} {x : α} {i : Nat} : (l ++ [x])[i]! = if i < l.length then l[i]! else if i = l.length then x else default := by
  by_cases h : i < l.length
  · rw [if_pos h, getElem!_pos _ i (by simp; omega), List.getElem_append_left h, getElem!_pos l i h]
  · rw [if_neg h]
    by_cases e : i = l.length
    · subst e; rw [if_pos rfl, getElem!_pos _ _ (by simp)]; simp
    · rw [if_neg e, getElem!_neg _ _ (by simp; omega)]
end Go.Proofs.Ytlpkbcgdcimglaa

namespace Go.Proofs.Ytlpkbcgdcimglaa
open Go.AI
variable {ts ws us : List Int}
theorem mem_drop {l : List Int} {x : Int} {i : Nat} : x ∈ l.drop i ↔ ∃ j, i ≤ j ∧ j < l.length ∧ l[j]! = x := by
  constructor
  · intro h
    obtain ⟨j, hj, he⟩ := List.getElem_of_mem h
    rw [List.length_drop] at hj
    rw [List.getElem_drop] at he
    exact ⟨i + j, by omega, by omega, by rw [getElem!_pos l (i + j) (by omega)]; exact he⟩
  · rintro ⟨j, h1, h2, rfl⟩
    rw [getElem!_pos l j h2]
    have : (l.drop i)[j - i]'(by rw [List.length_drop]; omega) = l[j] := by rw [List.getElem_drop]; congr 1; omega
    rw [← this]; exact List.getElem_mem _
theorem mem_at {l : List Int} {x : Int} : x ∈ l ↔ ∃ j, j < l.length ∧ l[j]! = x := by
  have := mem_drop (l := l) (x := x) (i := 0)
  rw [List.drop_zero] at this
  rw [this]
  exact ⟨fun ⟨j, _, h, e⟩ => ⟨j, h, e⟩, fun ⟨j, h, e⟩ => ⟨j, Nat.zero_le _, h, e⟩⟩
end Go.Proofs.Ytlpkbcgdcimglaa

namespace Go.Proofs.Ytlpkbcgdcimglaa
open Go.AI
end Go.Proofs.Ytlpkbcgdcimglaa




/- Picked out of Tp.tpl. -/
namespace Go.Proofs.Ytlpkbcgdcimglaa
open Go.AI
def cntN (p : Nat → Bool) : Nat → Nat
  | 0 => 0
  | n + 1 => cntN p n + (if p n = true then 1 else 0)
end Go.Proofs.Ytlpkbcgdcimglaa




/- Stocks, courses, what is left: as numbers. -/
namespace Go.Proofs.Ytlpkbcgdcimglaa
open Go.AI
set_option linter.unusedVariables false
set_option linter.unusedSimpArgs false
def sumL : List Int → Int
  | [] => 0
  | x :: r => x + sumL r
theorem sumL_snoc : ∀ (l : List Int) (x : Int), sumL (l ++ [x]) = sumL l + x
  | [], x => by simp [sumL]
  | y :: l, x => by rw [List.cons_append, sumL, sumL_snoc l x, sumL]; omega
theorem sumL_set : ∀ (l : List Int) (i : Nat) (y : Int), i < l.length → sumL (l.set i y) = sumL l - l[i]! + y
  | x :: l, 0, y, _ => by simp [sumL]; omega
  | x :: l, i + 1, y, h => by
    have h' : i < l.length := by simpa using h
    have e : (x :: l)[i + 1]! = l[i]! := by rw [getElem!_pos (x :: l) (i + 1) h, getElem!_pos l i h']; rfl
    rw [List.set_cons_succ, sumL, sumL, sumL_set l i y h', e]; omega
theorem take_one {l : List Int} {i : Nat} (h : i < l.length) : l.take (i + 1) = l.take i ++ [l[i]!] := by
  rw [List.take_add_one, List.getElem?_eq_getElem h, getElem!_pos l i h]; rfl
theorem cons_at {x : Int} {l : List Int} {i : Nat} (h : i < l.length) : (x :: l)[i + 1]! = l[i]! := by
  rw [getElem!_pos (x :: l) (i + 1) (by simp; omega), getElem!_pos l i h]; rfl
theorem sumL_nn : ∀ (l : List Int), (∀ i, i < l.length → 0 ≤ l[i]!) → 0 ≤ sumL l
  | [], _ => Int.le_refl _
  | x :: l, h => by
    have h0 := h 0 (by simp)
    have h0' : 0 ≤ x := h0
    have := sumL_nn l fun i hi => by have := h (i + 1) (by simp; omega); rwa [cons_at hi] at this
    rw [sumL]; omega
theorem sumL_le : ∀ (l : List Int) (k : Nat), (∀ i, i < l.length → 0 ≤ l[i]!) → k < l.length → l[k]! ≤ sumL l
  | x :: l, 0, h, _ => by
    have := sumL_nn l fun i hi => by have := h (i + 1) (by simp; omega); rwa [cons_at hi] at this
    show x ≤ x + sumL l
    omega
  | x :: l, k + 1, h, hk => by
    have hk' : k < l.length := by simpa using hk
    have h0 : 0 ≤ x := h 0 (by simp)
    have := sumL_le l k (fun i hi => by have := h (i + 1) (by simp; omega); rwa [cons_at hi] at this) hk'
    rw [cons_at hk', sumL]; omega
/-- A stock that may be. -/
structure SV (xs : List Int) (d : Int) : Prop where
  l0 : 0 < xs.length
  l6 : xs.length ≤ 6
  el : ∀ i, i < xs.length → 1 ≤ xs[i]! ∧ xs[i]! ≤ 9
  d0 : 1 ≤ d
  d9 : d ≤ 9
  ds : d ≤ sumL xs
theorem sumL_bound : ∀ (l : List Int), (∀ i, i < l.length → l[i]! ≤ 9) → sumL l ≤ 9 * l.length
  | [], _ => by simp [sumL]
  | x :: l, h => by
    have h0 : x ≤ 9 := h 0 (by simp)
    have := sumL_bound l fun i hi => by have := h (i + 1) (by simp; omega); rwa [cons_at hi] at this
    rw [sumL, List.length_cons]; omega
def IsMax (xs : List Int) (m : Int) : Prop := (∃ k, k < xs.length ∧ xs[k]! = m) ∧ ∀ i, i < xs.length → xs[i]! ≤ m
def leftL (xs : List Int) : List Int → List Int
  | [] => xs
  | c :: cs => leftL (xs.set c.toNat (xs[c.toNat]! - 1)) cs
theorem leftL_snoc : ∀ (cs xs : List Int) (c : Int), leftL xs (cs ++ [c]) = (leftL xs cs).set c.toNat ((leftL xs cs)[c.toNat]! - 1)
  | [], xs, c => rfl
  | e :: cs, xs, c => by rw [List.cons_append, leftL, leftL_snoc cs, leftL]
theorem leftL_len : ∀ (cs xs : List Int), (leftL xs cs).length = xs.length
  | [], _ => rfl
  | e :: cs, xs => by rw [leftL, leftL_len cs, List.length_set]
/-- How often a kind comes among the first so many. -/
def often (cs : List Int) (k m : Nat) : Nat := cntN (fun t => decide (cs[t]! = (k : Int))) m
theorem often_succ {cs : List Int} {k m : Nat} : often cs k (m + 1) = often cs k m + if cs[m]! = (k : Int) then 1 else 0 := by
  unfold often; rw [cntN]; simp only [decide_eq_true_eq]
theorem often_le {cs : List Int} {k : Nat} : ∀ {m n : Nat}, m ≤ n → often cs k m ≤ often cs k n
  | m, 0, h => by have : m = 0 := by omega
                  subst this; exact Nat.le_refl _
  | m, n + 1, h => by
    by_cases e : m = n + 1
    · subst e; exact Nat.le_refl _
    · have := often_le (cs := cs) (k := k) (m := m) (n := n) (by omega)
      unfold often at this ⊢
      rw [cntN]; omega
/-- A course that a stock has. -/
structure Fits (xs cs : List Int) : Prop where
  el : ∀ i, i < cs.length → 0 ≤ cs[i]! ∧ cs[i]! < xs.length
  few : ∀ k : Nat, k < xs.length → (often cs k cs.length : Int) ≤ xs[k]!
theorem left_at {xs cs : List Int} (he : ∀ i, i < cs.length → 0 ≤ cs[i]! ∧ cs[i]! < xs.length) : ∀ (i : Nat), i ≤ cs.length →
    (∀ k : Nat, k < xs.length → (leftL xs (cs.take i))[k]! = xs[k]! - often cs k i) ∧ sumL (leftL xs (cs.take i)) = sumL xs - i
  | 0, _ => ⟨fun k _ => by simp [leftL, often, cntN], by simp [leftL]⟩
  | i + 1, h => by
    obtain ⟨h1, h2⟩ := left_at he i (by omega)
    obtain ⟨e0, e1⟩ := he i (by omega)
    have hlen := leftL_len (cs.take i) xs
    have hc : (cs[i]!).toNat < (leftL xs (cs.take i)).length := by rw [hlen]; omega
    rw [take_one (by omega), leftL_snoc]
    refine ⟨fun k hk => ?_, ?_⟩
    · rw [getElem!_pos _ k (by rw [List.length_set, hlen]; exact hk), List.getElem_set]
      have hk' : (leftL xs (cs.take i))[k]'(by rw [hlen]; exact hk) = xs[k]! - often cs k i := by rw [← h1 k hk, getElem!_pos _ k (by rw [hlen]; exact hk)]
      split
      · rename_i hck
        have : cs[i]! = (k : Int) := by omega
        rw [hck, h1 k hk, often_succ, if_pos this]; omega
      · rename_i hck
        have : ¬ cs[i]! = (k : Int) := by omega
        rw [hk', often_succ, if_neg this]; omega
    · rw [sumL_set _ _ _ hc, h2]; omega
theorem Fits.nn {xs cs : List Int} (h : Fits xs cs) {i : Nat} (hi : i ≤ cs.length) : ∀ k, k < (leftL xs (cs.take i)).length → 0 ≤ (leftL xs (cs.take i))[k]! := fun k hk => by
  rw [leftL_len] at hk
  have h1 := (left_at h.el i hi).1 k hk
  have h2 := h.few k hk
  have h3 := often_le (cs := cs) (k := k) hi
  omega
end Go.Proofs.Ytlpkbcgdcimglaa



/- Stocks, by the program: what may be, and what counting tells at most. -/
namespace Go.Proofs.Ytlpkbcgdcimglaa
open Go.AI
set_option linter.unusedVariables false
set_option linter.unusedSimpArgs false
abbrev Kv (k : Value) (d : Int) : Value := .agg #[k, .int .i64 d]
abbrev Kl (k : Value) (d : Int) : List Value := [k, .int .i64 d]
abbrev Kc (k : Value) (d : Int) : AObj := .cells (Kl k d) 24 1
theorem foK0 : fieldOff Try.prog 24 0 = some (0, 1) := by kernel_rfl
theorem foK1 : fieldOff Try.prog 24 1 = some (1, 1) := by kernel_rfl
theorem addrK0 {b : Nat} : afieldAddr Try.prog 24 (.pointer (some ⟨b, 0, none⟩)) 0 = some (.pointer (some ⟨b, 0, none⟩)) := field_addr foK0 (by decide)
theorem addrK1 {b : Nat} : afieldAddr Try.prog 24 (.pointer (some ⟨b, 0, none⟩)) 1 = some (.pointer (some ⟨b, 1, none⟩)) := by
  rw [field_addr foK1 (by decide), Nat.zero_add]
theorem agK : isAggB Try.prog 24 = some true := by kernel_rfl
theorem szK : sizeB Try.prog 24 = some 2 := by kernel_rfl
theorem zeroK : zeroCells Try.prog 24 = some (Kl (.slice none 0 0) 0) := by kernel_rfl
theorem allocK {H : Heap} : sAlloc Try.prog H 24 = some (.pointer (some ⟨H.n, 0, none⟩), H.new (Kc (.slice none 0 0) 0), H.n) := alloc_of zeroK
theorem loadK {H : Heap} {b : Nat} {k : Value} {d : Int} (hg : H.get b = some (Kc k d)) : aload Try.prog 24 H (.pointer (some ⟨b, 0, none⟩)) = some (Kv k d) := by
  simp [aload, hg, agK, szK]
theorem storeK {H : Heap} {b : Nat} {k k' : Value} {d d' : Int} (hk : oneC k' = true) (hg : H.get b = some (Kc k d)) : astore Try.prog 24 H (Kv k' d') (.pointer (some ⟨b, 0, none⟩)) = some (H.set b (Kc k' d'), b) :=
  store_all (vs := Kl k' d') hg rfl szK (by simp only [List.all_cons, List.all_nil, hk]; rfl)
theorem alloc_k {H : Heap} {k : Value} {d : Int} (hk : k.cells.toList = [k]) : anew H (Value.cells (Kv k d)).toList 24 1 = H.new (Kc k d) := rfl
theorem row_one {H : Heap} {v : Value} {vs : List Value} (h : Row H v vs) : v.cells.toList = [v] := h.oneC.2.2
theorem sum_take {xs : List Int} (h : ∀ i, i < xs.length → 1 ≤ xs[i]! ∧ xs[i]! ≤ 9) : ∀ i, i ≤ xs.length → 0 ≤ sumL (xs.take i) ∧ sumL (xs.take i) ≤ 9 * i
  | 0, _ => by simp [sumL]
  | i + 1, hi => by
    obtain ⟨h1, h2⟩ := sum_take h i (by omega)
    have := h i (by omega)
    rw [take_one (by omega), sumL_snoc]; omega
set_option maxRecDepth 100000 in
theorem total_spec {B : Nat} {H : Heap} {v : Value} {xs : List Int} (hB : B ≤ H.n) (hv : Ints H v xs) (h6 : xs.length ≤ 6) (he : ∀ i, i < xs.length → 1 ≤ xs[i]! ∧ xs[i]! ≤ 9) :
    CallB Try.prog B 77 [v] H (fun r H' => r = .int .i64 (sumL xs) ∧ H' = H) := by
  refine CV.enter callees false rfl Try.func77 rfl (by kernel_rfl) (Nat.le_of_ble_eq_true rfl) hB ?_
  repeat' first
    | refine CO.cons rfl ?_
    | refine CO.nil ?_
    | refine CV.seq ?_
    | refine CV.region callees ?_
    | refine CV.cond ?_
    | refine CV.block ?_
    | refine CV.skip ?_
    | refine CV.exit ?_
    | refine CV.ret ?_
    | refine CV.scope ?_
    | refine CV.draw callees (by decide +kernel) ?_
    | refine CH.cons rfl ?_
    | refine CH.nil ?_
    | refine CO.consG rfl ?_
    | refine CH.consG rfl ?_
    | refine CG.cons rfl ?_
    | refine CR.cons ?_
    | refine CR.nil ?_
    | refine CG.nil ?_
    | refine CG.consG rfl ?_
    | refine ⟨(rfl : plain _ = true), ?_⟩
    | refine ⟨(rfl : nilOk _ = some _), ?_⟩
    | refine ⟨_, ints_len (by assumption), ?_⟩
    | refine ⟨_, ints_addr (by assumption) (by omega) (by omega), ?_⟩
    | refine ⟨_, ints_load (by assumption) (by omega) (by omega), ?_⟩
    | refine ⟨(⟨by omega, by omega⟩ : inI64 _), ?_⟩
    | refine ⟨_, fun tm ha => step1_max rfl (ev_tmp ha rfl) (ev_tmp ha rfl), ?_⟩
    | refine ⟨_, fun tm ha => step1_min rfl (ev_tmp ha rfl) (ev_tmp ha rfl), ?_⟩
    | (refine ⟨fun _ => ?_, fun _ => ?_⟩ <;> first | (exfalso; omega) | skip)
    | fail
  refine CV.loopc ?_
  refine WCv.rounds callees false (α := Nat) (fun i => [(3, .int .i64 (sumL (xs.take i))), (6, v), (7, .int .i64 xs.length), (8, .int .i64 i)]) (fun i Hz => Hz = H ∧ i ≤ xs.length) (fun i => xs.length - i) (0) (by repeat' first | exact trivial | refine ⟨rfl, ?_⟩ | refine ⟨slot_int (by (try simp only [Int.toNat_natCast]); omega), ?_⟩) ?_ ?_
  · exact ⟨rfl, by omega⟩
  rintro i Hx ⟨rfl, hi⟩ hBx
  have hb := sum_take he i hi
  by_cases hi2 : i < xs.length
  · have hxi : xs[(i : Int).toNat]! = xs[i]! := rfl
    have hs : sumL (xs.take (i + 1)) = sumL (xs.take i) + xs[i]! := by rw [take_one hi2, sumL_snoc]
    have hei := he i hi2
    repeat' first
      | refine CO.cons rfl ?_
      | refine CO.nil ?_
      | refine CV.seq ?_
      | refine CV.region callees ?_
      | refine CV.cond ?_
      | refine CV.block ?_
      | refine CV.skip ?_
      | refine CV.exit ?_
      | refine CV.ret ?_
      | refine CV.scope ?_
      | refine CV.draw callees (by decide +kernel) ?_
      | refine CH.cons rfl ?_
      | refine CH.nil ?_
      | refine CO.consG rfl ?_
      | refine CH.consG rfl ?_
      | refine CG.cons rfl ?_
      | refine CR.cons ?_
      | refine CR.nil ?_
      | refine CG.nil ?_
      | refine CG.consG rfl ?_
      | refine ⟨(rfl : plain _ = true), ?_⟩
      | refine ⟨(rfl : nilOk _ = some _), ?_⟩
      | refine ⟨_, ints_len (by assumption), ?_⟩
      | refine ⟨_, ints_addr (by assumption) (by omega) (by omega), ?_⟩
      | refine ⟨_, ints_load (by assumption) (by omega) (by omega), ?_⟩
      | refine ⟨(⟨by omega, by omega⟩ : inI64 _), ?_⟩
      | refine ⟨_, fun tm ha => step1_max rfl (ev_tmp ha rfl) (ev_tmp ha rfl), ?_⟩
      | refine ⟨_, fun tm ha => step1_min rfl (ev_tmp ha rfl) (ev_tmp ha rfl), ?_⟩
      | (refine ⟨fun _ => ?_, fun _ => ?_⟩ <;> first | (exfalso; omega) | skip)
      | fail
    refine ⟨(i + 1), (by repeat' first | exact trivial | refine ⟨rfl, ?_⟩ | refine ⟨slot_int (by (try simp only [Int.toNat_natCast]); omega), ?_⟩), (by (try dsimp only); omega), ?_⟩
    exact ⟨rfl, by omega⟩
  · have hil : i = xs.length := by omega
    subst hil
    rw [List.take_length] at hb ⊢
    repeat' first
      | refine CO.cons rfl ?_
      | refine CO.nil ?_
      | refine CV.seq ?_
      | refine CV.region callees ?_
      | refine CV.cond ?_
      | refine CV.block ?_
      | refine CV.skip ?_
      | refine CV.exit ?_
      | refine CV.ret ?_
      | refine CV.scope ?_
      | refine CV.draw callees (by decide +kernel) ?_
      | refine CH.cons rfl ?_
      | refine CH.nil ?_
      | refine CO.consG rfl ?_
      | refine CH.consG rfl ?_
      | refine CG.cons rfl ?_
      | refine CR.cons ?_
      | refine CR.nil ?_
      | refine CG.nil ?_
      | refine CG.consG rfl ?_
      | refine ⟨(rfl : plain _ = true), ?_⟩
      | refine ⟨(rfl : nilOk _ = some _), ?_⟩
      | refine ⟨_, ints_len (by assumption), ?_⟩
      | refine ⟨_, ints_addr (by assumption) (by omega) (by omega), ?_⟩
      | refine ⟨_, ints_load (by assumption) (by omega) (by omega), ?_⟩
      | refine ⟨(⟨by omega, by omega⟩ : inI64 _), ?_⟩
      | refine ⟨_, fun tm ha => step1_max rfl (ev_tmp ha rfl) (ev_tmp ha rfl), ?_⟩
      | refine ⟨_, fun tm ha => step1_min rfl (ev_tmp ha rfl) (ev_tmp ha rfl), ?_⟩
      | (refine ⟨fun _ => ?_, fun _ => ?_⟩ <;> first | (exfalso; omega) | skip)
      | fail
    exact ⟨rfl, rfl, rfl⟩
theorem zero_max {xs : List Int} {j : Nat} (h : j < 1) : xs[j]! ≤ xs[0]! := by
  have : j = 0 := by omega
  subst this; exact Int.le_refl _
set_option maxRecDepth 100000 in
theorem max_spec {B : Nat} {H : Heap} {v : Value} {xs : List Int} (hB : B ≤ H.n) (hv : Ints H v xs) (h0 : 0 < xs.length) (h6 : xs.length ≤ 1000) :
    CallB Try.prog B 92 [v] H (fun r H' => (∃ m, r = .int .i64 m ∧ IsMax xs m) ∧ H' = H) := by
  refine CV.enter callees false rfl Try.func92 rfl (by kernel_rfl) (Nat.le_of_ble_eq_true rfl) hB ?_
  repeat' first
    | refine CO.cons rfl ?_
    | refine CO.nil ?_
    | refine CV.seq ?_
    | refine CV.region callees ?_
    | refine CV.cond ?_
    | refine CV.block ?_
    | refine CV.skip ?_
    | refine CV.exit ?_
    | refine CV.ret ?_
    | refine CV.scope ?_
    | refine CV.draw callees (by decide +kernel) ?_
    | refine CH.cons rfl ?_
    | refine CH.nil ?_
    | refine CO.consG rfl ?_
    | refine CH.consG rfl ?_
    | refine CG.cons rfl ?_
    | refine CR.cons ?_
    | refine CR.nil ?_
    | refine CG.nil ?_
    | refine CG.consG rfl ?_
    | refine ⟨(rfl : plain _ = true), ?_⟩
    | refine ⟨(rfl : nilOk _ = some _), ?_⟩
    | refine ⟨_, ints_len (by assumption), ?_⟩
    | refine ⟨_, ints_addr (by assumption) (by omega) (by omega), ?_⟩
    | refine ⟨_, ints_load (by assumption) (by omega) (by omega), ?_⟩
    | refine ⟨(⟨by omega, by omega⟩ : inI64 _), ?_⟩
    | refine ⟨_, fun tm ha => step1_max rfl (ev_tmp ha rfl) (ev_tmp ha rfl), ?_⟩
    | refine ⟨_, fun tm ha => step1_min rfl (ev_tmp ha rfl) (ev_tmp ha rfl), ?_⟩
    | (refine ⟨fun _ => ?_, fun _ => ?_⟩ <;> first | (exfalso; omega) | skip)
    | fail
  refine CV.loopc ?_
  refine WCv.rounds callees false (α := Int × Nat) (fun (m, i) => [(0, v), (3, .int .i64 m), (4, .int .i64 i)]) (fun (m, i) Hz => Hz = H ∧ (1 ≤ i ∧ i ≤ xs.length) ∧ (∃ k, k < i ∧ xs[k]! = m) ∧ ∀ j, j < i → xs[j]! ≤ m) (fun (m, i) => xs.length - i) (xs[0]!, 1) (by repeat' first | exact trivial | refine ⟨rfl, ?_⟩ | refine ⟨slot_int (by (try simp only [Int.toNat_natCast]); omega), ?_⟩) ?_ ?_
  · exact ⟨rfl, ⟨by omega, by omega⟩, ⟨0, by omega, rfl⟩, fun j hj => zero_max hj⟩
  rintro ⟨m, i⟩ Hx ⟨rfl, ⟨hi1, hi⟩, hex, hall⟩ hBx
  by_cases hi2 : i < xs.length
  · have hxi : xs[(i : Int).toNat]! = xs[i]! := rfl
    repeat' first
      | refine CO.cons rfl ?_
      | refine CO.nil ?_
      | refine CV.seq ?_
      | refine CV.region callees ?_
      | refine CV.cond ?_
      | refine CV.block ?_
      | refine CV.skip ?_
      | refine CV.exit ?_
      | refine CV.ret ?_
      | refine CV.scope ?_
      | refine CV.draw callees (by decide +kernel) ?_
      | refine CH.cons rfl ?_
      | refine CH.nil ?_
      | refine CO.consG rfl ?_
      | refine CH.consG rfl ?_
      | refine CG.cons rfl ?_
      | refine CR.cons ?_
      | refine CR.nil ?_
      | refine CG.nil ?_
      | refine CG.consG rfl ?_
      | refine ⟨(rfl : plain _ = true), ?_⟩
      | refine ⟨(rfl : nilOk _ = some _), ?_⟩
      | refine ⟨_, ints_len (by assumption), ?_⟩
      | refine ⟨_, ints_addr (by assumption) (by omega) (by omega), ?_⟩
      | refine ⟨_, ints_load (by assumption) (by omega) (by omega), ?_⟩
      | refine ⟨(⟨by omega, by omega⟩ : inI64 _), ?_⟩
      | refine ⟨_, fun tm ha => step1_max rfl (ev_tmp ha rfl) (ev_tmp ha rfl), ?_⟩
      | refine ⟨_, fun tm ha => step1_min rfl (ev_tmp ha rfl) (ev_tmp ha rfl), ?_⟩
      | (refine ⟨fun _ => ?_, fun _ => ?_⟩ <;> first | (exfalso; omega) | skip)
      | fail
    refine ⟨(max m xs[i]!, i + 1), (by repeat' first | exact trivial | refine ⟨rfl, ?_⟩ | refine ⟨slot_int (by (try simp only [Int.toNat_natCast]); omega), ?_⟩), (by (try dsimp only); omega), ?_⟩
    refine ⟨rfl, ⟨by omega, by omega⟩, ?_, fun j hj => ?_⟩
    · obtain ⟨k, hk, e⟩ := hex
      by_cases h : m ≤ xs[i]!
      · exact ⟨i, by omega, by omega⟩
      · exact ⟨k, by omega, by omega⟩
    · by_cases e : j = i
      · subst e; omega
      · have := hall j (by omega); omega
  · have hil : i = xs.length := by omega
    subst hil
    repeat' first
      | refine CO.cons rfl ?_
      | refine CO.nil ?_
      | refine CV.seq ?_
      | refine CV.region callees ?_
      | refine CV.cond ?_
      | refine CV.block ?_
      | refine CV.skip ?_
      | refine CV.exit ?_
      | refine CV.ret ?_
      | refine CV.scope ?_
      | refine CV.draw callees (by decide +kernel) ?_
      | refine CH.cons rfl ?_
      | refine CH.nil ?_
      | refine CO.consG rfl ?_
      | refine CH.consG rfl ?_
      | refine CG.cons rfl ?_
      | refine CR.cons ?_
      | refine CR.nil ?_
      | refine CG.nil ?_
      | refine CG.consG rfl ?_
      | refine ⟨(rfl : plain _ = true), ?_⟩
      | refine ⟨(rfl : nilOk _ = some _), ?_⟩
      | refine ⟨_, ints_len (by assumption), ?_⟩
      | refine ⟨_, ints_addr (by assumption) (by omega) (by omega), ?_⟩
      | refine ⟨_, ints_load (by assumption) (by omega) (by omega), ?_⟩
      | refine ⟨(⟨by omega, by omega⟩ : inI64 _), ?_⟩
      | refine ⟨_, fun tm ha => step1_max rfl (ev_tmp ha rfl) (ev_tmp ha rfl), ?_⟩
      | refine ⟨_, fun tm ha => step1_min rfl (ev_tmp ha rfl) (ev_tmp ha rfl), ?_⟩
      | (refine ⟨fun _ => ?_, fun _ => ?_⟩ <;> first | (exfalso; omega) | skip)
      | fail
    exact ⟨rfl, ⟨m, rfl, hex, hall⟩, rfl⟩
theorem arr_len {H : Heap} {b n c : Nat} : alen Try.prog H 22 (.slice (some ⟨b, 0, none⟩) n c) = some (.int .i64 n) := by simp [alen, un22]
theorem arr_addr {b n c : Nat} {j : Int} (h0 : 0 ≤ j) (h1 : j < n) : aindexAddr Try.prog 22 (.slice (some ⟨b, 0, none⟩) n c) (.int .i64 j) = some (.pointer (some ⟨b, j.toNat, none⟩)) := by
  simp [aindexAddr, asIdx, un22, sz3, h0, h1]
theorem arr_load {H : Heap} {b : Nat} {l : List Int} {e : TypeId} {k : Nat} {j : Nat} (hg : H.get b = some (.cells (l.map VI) e k)) (h : j < l.length) : aload Try.prog 3 H (.pointer (some ⟨b, j, none⟩)) = some (VI l[j]!) :=
  cell_load ag3 hg (by rw [List.getElem?_map, List.getElem?_eq_getElem h, getElem!_pos l j h]; rfl)
set_option maxRecDepth 100000 in
theorem checkCounts_spec {B : Nat} {H : Heap} {v : Value} {xs : List Int} (hB : B ≤ H.n) (hv : Ints H v xs) (h0 : 0 < xs.length) (h6 : xs.length ≤ 6) (he : ∀ i, i < xs.length → 1 ≤ xs[i]! ∧ xs[i]! ≤ 9) :
    CallB Try.prog B 86 [v] H (fun r H' => r = .int .i64 0 ∧ H' = H) := by
  refine CV.enter callees false rfl Try.func86 rfl (by kernel_rfl) (Nat.le_of_ble_eq_true rfl) hB ?_
  repeat' first
    | refine CO.cons rfl ?_
    | refine CO.nil ?_
    | refine CV.seq ?_
    | refine CV.region callees ?_
    | refine CV.cond ?_
    | refine CV.block ?_
    | refine CV.skip ?_
    | refine CV.exit ?_
    | refine CV.ret ?_
    | refine CV.scope ?_
    | refine CV.draw callees (by decide +kernel) ?_
    | refine CH.cons rfl ?_
    | refine CH.nil ?_
    | refine CO.consG rfl ?_
    | refine CH.consG rfl ?_
    | refine CG.cons rfl ?_
    | refine CR.cons ?_
    | refine CR.nil ?_
    | refine CG.nil ?_
    | refine CG.consG rfl ?_
    | refine ⟨(rfl : plain _ = true), ?_⟩
    | refine ⟨(rfl : nilOk _ = some _), ?_⟩
    | refine ⟨_, ints_len (by assumption), ?_⟩
    | refine ⟨_, ints_addr (by assumption) (by omega) (by omega), ?_⟩
    | refine ⟨_, ints_load (by assumption) (by omega) (by omega), ?_⟩
    | refine ⟨(⟨by omega, by omega⟩ : inI64 _), ?_⟩
    | refine ⟨_, fun tm ha => step1_max rfl (ev_tmp ha rfl) (ev_tmp ha rfl), ?_⟩
    | refine ⟨_, fun tm ha => step1_min rfl (ev_tmp ha rfl) (ev_tmp ha rfl), ?_⟩
    | (refine ⟨fun _ => ?_, fun _ => ?_⟩ <;> first | (exfalso; omega) | skip)
    | fail
  refine CV.loopc ?_
  refine WCv.rounds callees false (α := Nat) (fun i => [(11, v), (12, .int .i64 xs.length), (13, .int .i64 i)]) (fun i Hz => Hz = H ∧ i ≤ xs.length) (fun i => xs.length - i) (0) (by repeat' first | exact trivial | refine ⟨rfl, ?_⟩ | refine ⟨slot_int (by (try simp only [Int.toNat_natCast]); omega), ?_⟩) ?_ ?_
  · exact ⟨rfl, by omega⟩
  rintro i Hx ⟨rfl, hi⟩ hBx
  by_cases hi2 : i < xs.length
  · have hxi : xs[(i : Int).toNat]! = xs[i]! := rfl
    have hei := he i hi2
    repeat' first
      | refine CO.cons rfl ?_
      | refine CO.nil ?_
      | refine CV.seq ?_
      | refine CV.region callees ?_
      | refine CV.cond ?_
      | refine CV.block ?_
      | refine CV.skip ?_
      | refine CV.exit ?_
      | refine CV.ret ?_
      | refine CV.scope ?_
      | refine CV.draw callees (by decide +kernel) ?_
      | refine CH.cons rfl ?_
      | refine CH.nil ?_
      | refine CO.consG rfl ?_
      | refine CH.consG rfl ?_
      | refine CG.cons rfl ?_
      | refine CR.cons ?_
      | refine CR.nil ?_
      | refine CG.nil ?_
      | refine CG.consG rfl ?_
      | refine ⟨(rfl : plain _ = true), ?_⟩
      | refine ⟨(rfl : nilOk _ = some _), ?_⟩
      | refine ⟨_, ints_len (by assumption), ?_⟩
      | refine ⟨_, ints_addr (by assumption) (by omega) (by omega), ?_⟩
      | refine ⟨_, ints_load (by assumption) (by omega) (by omega), ?_⟩
      | refine ⟨(⟨by omega, by omega⟩ : inI64 _), ?_⟩
      | refine ⟨_, fun tm ha => step1_max rfl (ev_tmp ha rfl) (ev_tmp ha rfl), ?_⟩
      | refine ⟨_, fun tm ha => step1_min rfl (ev_tmp ha rfl) (ev_tmp ha rfl), ?_⟩
      | (refine ⟨fun _ => ?_, fun _ => ?_⟩ <;> first | (exfalso; omega) | skip)
      | fail
    refine ⟨(i + 1), (by repeat' first | exact trivial | refine ⟨rfl, ?_⟩ | refine ⟨slot_int (by (try simp only [Int.toNat_natCast]); omega), ?_⟩), (by (try dsimp only); omega), ?_⟩
    exact ⟨rfl, by omega⟩
  · repeat' first
      | refine CO.cons rfl ?_
      | refine CO.nil ?_
      | refine CV.seq ?_
      | refine CV.region callees ?_
      | refine CV.cond ?_
      | refine CV.block ?_
      | refine CV.skip ?_
      | refine CV.exit ?_
      | refine CV.ret ?_
      | refine CV.scope ?_
      | refine CV.draw callees (by decide +kernel) ?_
      | refine CH.cons rfl ?_
      | refine CH.nil ?_
      | refine CO.consG rfl ?_
      | refine CH.consG rfl ?_
      | refine CG.cons rfl ?_
      | refine CR.cons ?_
      | refine CR.nil ?_
      | refine CG.nil ?_
      | refine CG.consG rfl ?_
      | refine ⟨(rfl : plain _ = true), ?_⟩
      | refine ⟨(rfl : nilOk _ = some _), ?_⟩
      | refine ⟨_, ints_len (by assumption), ?_⟩
      | refine ⟨_, ints_addr (by assumption) (by omega) (by omega), ?_⟩
      | refine ⟨_, ints_load (by assumption) (by omega) (by omega), ?_⟩
      | refine ⟨(⟨by omega, by omega⟩ : inI64 _), ?_⟩
      | refine ⟨_, fun tm ha => step1_max rfl (ev_tmp ha rfl) (ev_tmp ha rfl), ?_⟩
      | refine ⟨_, fun tm ha => step1_min rfl (ev_tmp ha rfl) (ev_tmp ha rfl), ?_⟩
      | (refine ⟨fun _ => ?_, fun _ => ?_⟩ <;> first | (exfalso; omega) | skip)
      | fail
    exact ⟨rfl, rfl, rfl⟩
set_option maxRecDepth 100000 in
theorem check_spec {B : Nat} {H : Heap} {k : Value} {xs : List Int} {d : Int} (hB : B ≤ H.n) (hv : Ints H k xs) (hS : SV xs d) :
    CallB Try.prog B 31 [Kv k d] H (fun r H' => r = .int .i64 0 ∧ Keep H H') := by
  obtain ⟨s1, s2, s3, s4, s5, s6⟩ := hS
  refine CV.enter callees false rfl Try.func31 rfl (by kernel_rfl) (Nat.le_of_ble_eq_true rfl) hB ?_
  repeat' first
    | refine CO.cons rfl ?_
    | refine CO.nil ?_
    | refine CV.seq ?_
    | refine CV.region callees ?_
    | refine CV.cond ?_
    | refine CV.block ?_
    | refine CV.skip ?_
    | refine CV.exit ?_
    | refine CV.ret ?_
    | refine CV.scope ?_
    | refine CV.draw callees (by decide +kernel) ?_
    | refine CH.cons rfl ?_
    | refine CH.nil ?_
    | refine CO.consG rfl ?_
    | refine CH.consG rfl ?_
    | refine CG.cons rfl ?_
    | refine CR.cons ?_
    | refine CR.nil ?_
    | refine CG.nil ?_
    | refine CG.consG rfl ?_
    | refine ⟨(rfl : plain _ = true), ?_⟩
    | refine ⟨(rfl : nilOk _ = some _), ?_⟩
    | refine ⟨_, ints_len (by assumption), ?_⟩
    | refine ⟨_, ints_addr (by assumption) (by omega) (by omega), ?_⟩
    | refine ⟨_, ints_load (by assumption) (by omega) (by omega), ?_⟩
    | refine ⟨(⟨by omega, by omega⟩ : inI64 _), ?_⟩
    | refine ⟨_, fun tm ha => step1_max rfl (ev_tmp ha rfl) (ev_tmp ha rfl), ?_⟩
    | refine ⟨_, fun tm ha => step1_min rfl (ev_tmp ha rfl) (ev_tmp ha rfl), ?_⟩
    | (refine ⟨fun _ => ?_, fun _ => ?_⟩ <;> first | (exfalso; omega) | skip)
    | fail
  refine ⟨(by simp only [notTuple]), ?_⟩
  rw [alloc_k (row_one hv)]
  generalize hs0 : H.new (Kc k d) = H0
  have hgk := new_get hs0
  have k0 := new_keep hs0
  have n0 := new_n hs0
  have hv0 : Ints H0 k xs := Row.keep hv k0
  obtain ⟨bk, hbk⟩ : ∃ bk, H.n = bk := ⟨_, rfl⟩
  rw [hbk] at hgk n0 ⊢
  repeat' first
    | refine CO.cons rfl ?_
    | refine CO.nil ?_
    | refine CV.seq ?_
    | refine CV.region callees ?_
    | refine CV.cond ?_
    | refine CV.block ?_
    | refine CV.skip ?_
    | refine CV.exit ?_
    | refine CV.ret ?_
    | refine CV.scope ?_
    | refine CV.draw callees (by decide +kernel) ?_
    | refine CH.cons rfl ?_
    | refine CH.nil ?_
    | refine CO.consG rfl ?_
    | refine CH.consG rfl ?_
    | refine CG.cons rfl ?_
    | refine CR.cons ?_
    | refine CR.nil ?_
    | refine CG.nil ?_
    | refine CG.consG rfl ?_
    | refine ⟨(rfl : plain _ = true), ?_⟩
    | refine ⟨(rfl : nilOk _ = some _), ?_⟩
    | refine ⟨_, ints_len (by assumption), ?_⟩
    | refine ⟨_, ints_addr (by assumption) (by omega) (by omega), ?_⟩
    | refine ⟨_, ints_load (by assumption) (by omega) (by omega), ?_⟩
    | refine ⟨(⟨by omega, by omega⟩ : inI64 _), ?_⟩
    | refine ⟨_, fun tm ha => step1_max rfl (ev_tmp ha rfl) (ev_tmp ha rfl), ?_⟩
    | refine ⟨_, fun tm ha => step1_min rfl (ev_tmp ha rfl) (ev_tmp ha rfl), ?_⟩
    | (refine ⟨_, addrK0, ?_⟩)
    | (refine ⟨_, cell_load ag22 hgk rfl, ?_⟩)
    | (refine ⟨fun _ => ?_, fun _ => ?_⟩ <;> first | (exfalso; omega) | skip)
    | fail
  refine (checkCounts_spec (by omega) hv0 s1 s2 s3).mono ?_
  rintro r H1 ⟨rfl, rfl⟩
  repeat' first
    | refine CO.cons rfl ?_
    | refine CO.nil ?_
    | refine CV.seq ?_
    | refine CV.region callees ?_
    | refine CV.cond ?_
    | refine CV.block ?_
    | refine CV.skip ?_
    | refine CV.exit ?_
    | refine CV.ret ?_
    | refine CV.scope ?_
    | refine CV.draw callees (by decide +kernel) ?_
    | refine CH.cons rfl ?_
    | refine CH.nil ?_
    | refine CO.consG rfl ?_
    | refine CH.consG rfl ?_
    | refine CG.cons rfl ?_
    | refine CR.cons ?_
    | refine CR.nil ?_
    | refine CG.nil ?_
    | refine CG.consG rfl ?_
    | refine ⟨(rfl : plain _ = true), ?_⟩
    | refine ⟨(rfl : nilOk _ = some _), ?_⟩
    | refine ⟨_, ints_len (by assumption), ?_⟩
    | refine ⟨_, ints_addr (by assumption) (by omega) (by omega), ?_⟩
    | refine ⟨_, ints_load (by assumption) (by omega) (by omega), ?_⟩
    | refine ⟨(⟨by omega, by omega⟩ : inI64 _), ?_⟩
    | refine ⟨_, fun tm ha => step1_max rfl (ev_tmp ha rfl) (ev_tmp ha rfl), ?_⟩
    | refine ⟨_, fun tm ha => step1_min rfl (ev_tmp ha rfl) (ev_tmp ha rfl), ?_⟩
    | (refine ⟨_, addrK0, ?_⟩)
    | (refine ⟨_, addrK1, ?_⟩)
    | (refine ⟨Value.int .i64 d, cell_load ag3 hgk rfl, ?_⟩)
    | (refine ⟨_, cell_load ag22 hgk rfl, ?_⟩)
    | (refine ⟨fun _ => ?_, fun _ => ?_⟩ <;> first | (exfalso; omega) | skip)
    | fail
  refine (total_spec (by omega) hv0 s2 s3).mono ?_
  rintro r H2 ⟨rfl, rfl⟩
  repeat' first
    | refine CO.cons rfl ?_
    | refine CO.nil ?_
    | refine CV.seq ?_
    | refine CV.region callees ?_
    | refine CV.cond ?_
    | refine CV.block ?_
    | refine CV.skip ?_
    | refine CV.exit ?_
    | refine CV.ret ?_
    | refine CV.scope ?_
    | refine CV.draw callees (by decide +kernel) ?_
    | refine CH.cons rfl ?_
    | refine CH.nil ?_
    | refine CO.consG rfl ?_
    | refine CH.consG rfl ?_
    | refine CG.cons rfl ?_
    | refine CR.cons ?_
    | refine CR.nil ?_
    | refine CG.nil ?_
    | refine CG.consG rfl ?_
    | refine ⟨(rfl : plain _ = true), ?_⟩
    | refine ⟨(rfl : nilOk _ = some _), ?_⟩
    | refine ⟨_, ints_len (by assumption), ?_⟩
    | refine ⟨_, ints_addr (by assumption) (by omega) (by omega), ?_⟩
    | refine ⟨_, ints_load (by assumption) (by omega) (by omega), ?_⟩
    | refine ⟨(⟨by omega, by omega⟩ : inI64 _), ?_⟩
    | refine ⟨_, fun tm ha => step1_max rfl (ev_tmp ha rfl) (ev_tmp ha rfl), ?_⟩
    | refine ⟨_, fun tm ha => step1_min rfl (ev_tmp ha rfl) (ev_tmp ha rfl), ?_⟩
    | (refine ⟨fun _ => ?_, fun _ => ?_⟩ <;> first | (exfalso; omega) | skip)
    | fail
  exact ⟨rfl, rfl, k0⟩
end Go.Proofs.Ytlpkbcgdcimglaa



/- What counting alone tells of a course so far, by the program. -/
namespace Go.Proofs.Ytlpkbcgdcimglaa
open Go.AI
set_option linter.unusedVariables false
set_option linter.unusedSimpArgs false
theorem cell_store {H : Heap} {b i : Nat} {cs : List Value} {e t : TypeId} {k : Nat} {v : Value} (hs : sizeB Try.prog t = some 1) (hg : H.get b = some (.cells cs e (k + 1))) (hi : i < cs.length) (hv : oneC v = true) : astore Try.prog t H v (.pointer (some ⟨b, i, none⟩)) = some (H.set b (.cells (cs.set i v) e (k + 1)), b) := store_row hs hg hi hv
def pad (xs : List Int) : List Int := xs ++ List.replicate (6 - xs.length) 0
def z6 : List Int := [0, 0, 0, 0, 0, 0]
theorem pad_len {xs : List Int} (h : xs.length ≤ 6) : (pad xs).length = 6 := by simp [pad]; omega
theorem z6_drop : ∀ n, n ≤ 6 → z6.drop n = List.replicate (6 - n) 0
  | 0, _ => rfl
  | 1, _ => rfl
  | 2, _ => rfl
  | 3, _ => rfl
  | 4, _ => rfl
  | 5, _ => rfl
  | 6, _ => rfl
  | n + 7, h => by omega
theorem app_left {l ys : List Int} {k : Nat} (h : k < l.length) : (l ++ ys)[k]! = l[k]! := by
  rw [getElem!_pos (l ++ ys) _ (by rw [List.length_append]; omega), List.getElem_append_left h, getElem!_pos l _ h]
theorem app_zero {l : List Int} {n k : Nat} (h : l.length ≤ k) (h2 : k < l.length + n) : (l ++ List.replicate n (0 : Int))[k]! = 0 := by
  rw [getElem!_pos _ _ (by simp; omega), List.getElem_append_right h, List.getElem_replicate]
abbrev Pc (l : List Int) : AObj := .cells (l.map VI) 92 1
abbrev Pv (l : List Int) : Value := .agg (l.map VI).toArray
theorem zeroP : zeroCells Try.prog 92 = some (z6.map VI) := by kernel_rfl
theorem allocP {H : Heap} : sAlloc Try.prog H 92 = some (.pointer (some ⟨H.n, 0, none⟩), H.new (Pc z6), H.n) := alloc_of zeroP
theorem agP : isAggB Try.prog 92 = some true := by kernel_rfl
theorem szP : sizeB Try.prog 92 = some 6 := by kernel_rfl
theorem unP : Try.prog.underlying 92 = some (.array 6 3) := by kernel_rfl
theorem loadP {H : Heap} {b : Nat} {l : List Int} (hl : l.length = 6) (hg : H.get b = some (Pc l)) : aload Try.prog 92 H (.pointer (some ⟨b, 0, none⟩)) = some (Pv l) := by
  have : (l.map VI).take 6 = l.map VI := List.take_of_length_le (by rw [List.length_map]; omega)
  simp [aload, hg, agP, szP, hl, this]
theorem storeP {H : Heap} {b : Nat} {l l' : List Int} (hl : l.length = 6) (hl' : l'.length = 6) (hg : H.get b = some (Pc l)) : astore Try.prog 92 H (Pv l') (.pointer (some ⟨b, 0, none⟩)) = some (H.set b (Pc l'), b) :=
  store_all (vs := l'.map VI) hg (by rw [List.length_map, List.length_map, hl, hl']) (by rw [szP, List.length_map, hl']) (by rw [List.all_eq_true]; intro x hx; obtain ⟨y, _, rfl⟩ := List.mem_map.1 hx; rfl)
theorem sliceP {b : Nat} : aslice Try.prog 92 (.pointer (some ⟨b, 0, none⟩)) none none = some (.slice (some ⟨b, 0, none⟩) 6 1) := by
  simp [aslice, unP, sz3, bound]
theorem addrP {b : Nat} {j : Int} (h0 : 0 ≤ j) (h1 : j < 6) : aindexAddr Try.prog 92 (.pointer (some ⟨b, 0, none⟩)) (.int .i64 j) = some (.pointer (some ⟨b, j.toNat, none⟩)) := by
  rw [array_addr unP sz3 h0 h1, Nat.zero_add, Nat.mul_one]
theorem indexP {l : List Int} {j : Int} (hl : l.length = 6) (h0 : 0 ≤ j) (h1 : j < 6) : aindex Try.prog 92 (Pv l) (.int .i64 j) = some (VI l[j.toNat]!) := by
  have hj : j.toNat < l.length := by omega
  simp only [aindex, asIdx, unP, sz3]
  rw [if_pos ⟨h0, h1⟩]
  simp only [apart', ag3, Nat.mul_one]
  rw [List.getElem?_map, List.getElem?_eq_getElem hj, getElem!_pos l _ hj]; rfl
theorem copyP {H : Heap} {b : Nat} {v : Value} {xs : List Int} (hg : H.get b = some (Pc z6)) (hv : Ints H v xs) (h6 : xs.length ≤ 6) :
    acopy Try.prog H [22, 22] (.slice (some ⟨b, 0, none⟩) 6 1) v = some (.int .i64 (xs.length : Nat), H.set b (Pc (pad xs)), b) := by
  have hs : sourceOf H 1 v = some (xs.map VI, (xs.map VI).length) := Row.source hv
  have hm : min (xs.map VI).length 6 = xs.length := by rw [List.length_map]; omega
  have he : splice (z6.map VI) 0 ((xs.map VI).take (xs.length * 1)) = (pad xs).map VI := by
    rw [Nat.mul_one, List.take_of_length_le (by rw [List.length_map]; omega), splice_from _ _ _ (by rw [List.length_map]; show 0 + xs.length ≤ 6; omega), List.take_zero, List.nil_append, Nat.zero_add, List.length_map, ← List.map_drop, z6_drop _ h6, pad, List.map_append]
  simp only [acopy, un22, sz3, hs, hg, hm, he]
  rw [if_pos (by show 0 + xs.length * 1 ≤ 6; omega)]
set_option maxRecDepth 100000 in
theorem mixed_spec {B : Nat} {H : Heap} {v : Value} {xs : List Int} (hB : B ≤ H.n) (hv : Ints H v xs) (h6 : xs.length ≤ 6) :
    CallB Try.prog B 81 [v] H (fun r H' => r = Pv (pad xs) ∧ Keep H H') := by
  refine CV.enter callees false rfl Try.func81 rfl (by kernel_rfl) (Nat.le_of_ble_eq_true rfl) hB ?_
  repeat' first
    | refine CO.cons rfl ?_
    | refine CO.nil ?_
    | refine CV.seq ?_
    | refine CV.region callees ?_
    | refine CV.cond ?_
    | refine CV.block ?_
    | refine CV.skip ?_
    | refine CV.exit ?_
    | refine CV.ret ?_
    | refine CV.scope ?_
    | refine CV.draw callees (by decide +kernel) ?_
    | refine CH.cons rfl ?_
    | refine CH.nil ?_
    | refine CO.consG rfl ?_
    | refine CH.consG rfl ?_
    | refine CG.cons rfl ?_
    | refine CR.cons ?_
    | refine CR.nil ?_
    | refine CG.nil ?_
    | refine CG.consG rfl ?_
    | refine ⟨(rfl : plain _ = true), ?_⟩
    | refine ⟨(rfl : nilOk _ = some _), ?_⟩
    | refine ⟨_, ints_len (by assumption), ?_⟩
    | refine ⟨_, ints_addr (by assumption) (by omega) (by omega), ?_⟩
    | refine ⟨_, ints_load (by assumption) (by omega) (by omega), ?_⟩
    | refine ⟨(⟨by omega, by omega⟩ : inI64 _), ?_⟩
    | refine ⟨_, fun tm ha => step1_max rfl (ev_tmp ha rfl) (ev_tmp ha rfl), ?_⟩
    | refine ⟨_, fun tm ha => step1_min rfl (ev_tmp ha rfl) (ev_tmp ha rfl), ?_⟩
    | (refine ⟨_, _, allocP, ?_⟩)
    | (refine ⟨fun _ => ?_, fun _ => ?_⟩ <;> first | (exfalso; omega) | skip)
    | fail
  generalize hs0 : H.new (Pc z6) = H0
  have hg0 := new_get hs0
  have k0 := new_keep hs0
  have n0 := new_n hs0
  obtain ⟨b0, hb0⟩ : ∃ b0, H.n = b0 := ⟨_, rfl⟩
  rw [hb0] at hg0 n0 ⊢
  generalize hs1 : H0.new (Pc z6) = H1
  have hg1 := new_get hs1
  have k1 := new_keep hs1
  have n1 := new_n hs1
  obtain ⟨b1, hb1⟩ : ∃ b1, H0.n = b1 := ⟨_, rfl⟩
  rw [hb1] at hg1 n1 ⊢
  have hv1 : Ints H1 v xs := Row.keep (Row.keep hv k0) k1
  repeat' first
    | refine CO.cons rfl ?_
    | refine CO.nil ?_
    | refine CV.seq ?_
    | refine CV.region callees ?_
    | refine CV.cond ?_
    | refine CV.block ?_
    | refine CV.skip ?_
    | refine CV.exit ?_
    | refine CV.ret ?_
    | refine CV.scope ?_
    | refine CV.draw callees (by decide +kernel) ?_
    | refine CH.cons rfl ?_
    | refine CH.nil ?_
    | refine CO.consG rfl ?_
    | refine CH.consG rfl ?_
    | refine CG.cons rfl ?_
    | refine CR.cons ?_
    | refine CR.nil ?_
    | refine CG.nil ?_
    | refine CG.consG rfl ?_
    | refine ⟨(rfl : plain _ = true), ?_⟩
    | refine ⟨(rfl : nilOk _ = some _), ?_⟩
    | refine ⟨_, ints_len (by assumption), ?_⟩
    | refine ⟨_, ints_addr (by assumption) (by omega) (by omega), ?_⟩
    | refine ⟨_, ints_load (by assumption) (by omega) (by omega), ?_⟩
    | refine ⟨(⟨by omega, by omega⟩ : inI64 _), ?_⟩
    | refine ⟨_, fun tm ha => step1_max rfl (ev_tmp ha rfl) (ev_tmp ha rfl), ?_⟩
    | refine ⟨_, fun tm ha => step1_min rfl (ev_tmp ha rfl) (ev_tmp ha rfl), ?_⟩
    | (refine ⟨_, sliceP, ?_⟩)
    | (refine ⟨fun _ => ?_, fun _ => ?_⟩ <;> first | (exfalso; omega) | skip)
    | fail
  refine ⟨_, _, _, copyP hg1 hv1 h6, by omega, ?_⟩
  generalize hs2 : H1.set b1 (Pc (pad xs)) = H2
  have hg2 := set_get hs2
  have n2 := set_n hs2
  have hg02 : H2.get b0 = some (Pc z6) := by rw [set_old hs2 b0 (by omega), k1.2 b0 (by omega)]; exact hg0
  have k2 : Keep H H2 := keep_put (k0.trans k1) (by omega) (set_old hs2) n2
  repeat' first
    | refine CO.cons rfl ?_
    | refine CO.nil ?_
    | refine CV.seq ?_
    | refine CV.region callees ?_
    | refine CV.cond ?_
    | refine CV.block ?_
    | refine CV.skip ?_
    | refine CV.exit ?_
    | refine CV.ret ?_
    | refine CV.scope ?_
    | refine CV.draw callees (by decide +kernel) ?_
    | refine CH.cons rfl ?_
    | refine CH.nil ?_
    | refine CO.consG rfl ?_
    | refine CH.consG rfl ?_
    | refine CG.cons rfl ?_
    | refine CR.cons ?_
    | refine CR.nil ?_
    | refine CG.nil ?_
    | refine CG.consG rfl ?_
    | refine ⟨(rfl : plain _ = true), ?_⟩
    | refine ⟨(rfl : nilOk _ = some _), ?_⟩
    | refine ⟨_, ints_len (by assumption), ?_⟩
    | refine ⟨_, ints_addr (by assumption) (by omega) (by omega), ?_⟩
    | refine ⟨_, ints_load (by assumption) (by omega) (by omega), ?_⟩
    | refine ⟨(⟨by omega, by omega⟩ : inI64 _), ?_⟩
    | refine ⟨_, fun tm ha => step1_max rfl (ev_tmp ha rfl) (ev_tmp ha rfl), ?_⟩
    | refine ⟨_, fun tm ha => step1_min rfl (ev_tmp ha rfl) (ev_tmp ha rfl), ?_⟩
    | (refine ⟨_, loadP (pad_len h6) hg2, ?_⟩)
    | (refine ⟨fun _ => ?_, fun _ => ?_⟩ <;> first | (exfalso; omega) | skip)
    | fail
  refine ⟨_, _, storeP (l := z6) rfl (pad_len h6) hg02, by omega, ?_⟩
  generalize hs3 : H2.set b0 (Pc (pad xs)) = H3
  have hg3 := set_get hs3
  have n3 := set_n hs3
  repeat' first
    | refine CO.cons rfl ?_
    | refine CO.nil ?_
    | refine CV.seq ?_
    | refine CV.region callees ?_
    | refine CV.cond ?_
    | refine CV.block ?_
    | refine CV.skip ?_
    | refine CV.exit ?_
    | refine CV.ret ?_
    | refine CV.scope ?_
    | refine CV.draw callees (by decide +kernel) ?_
    | refine CH.cons rfl ?_
    | refine CH.nil ?_
    | refine CO.consG rfl ?_
    | refine CH.consG rfl ?_
    | refine CG.cons rfl ?_
    | refine CR.cons ?_
    | refine CR.nil ?_
    | refine CG.nil ?_
    | refine CG.consG rfl ?_
    | refine ⟨(rfl : plain _ = true), ?_⟩
    | refine ⟨(rfl : nilOk _ = some _), ?_⟩
    | refine ⟨_, ints_len (by assumption), ?_⟩
    | refine ⟨_, ints_addr (by assumption) (by omega) (by omega), ?_⟩
    | refine ⟨_, ints_load (by assumption) (by omega) (by omega), ?_⟩
    | refine ⟨(⟨by omega, by omega⟩ : inI64 _), ?_⟩
    | refine ⟨_, fun tm ha => step1_max rfl (ev_tmp ha rfl) (ev_tmp ha rfl), ?_⟩
    | refine ⟨_, fun tm ha => step1_min rfl (ev_tmp ha rfl) (ev_tmp ha rfl), ?_⟩
    | (refine ⟨fun _ => ?_, fun _ => ?_⟩ <;> first | (exfalso; omega) | skip)
    | fail
  exact ⟨_, loadP (pad_len h6) hg3, rfl, rfl, keep_put k2 (by omega) (set_old hs3) n3⟩
end Go.Proofs.Ytlpkbcgdcimglaa

