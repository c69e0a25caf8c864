/- Several texts in one. -/
import Derived.Test.YtkfaiokiaahbaaaDoorX4
import Derived.Test.YtkfaiokiaahbaaaDoorY2
set_option linter.unusedVariables false
set_option linter.unusedSimpArgs false
/- Each function's code is of the form that the machine knows. -/
namespace Go.Proofs.YtkfaiokiaahbaaaDoor
open Go.AI

theorem ok8 : codeOk Tryd.f8.ntmps (Tryd.f8.body.getD .skip) = true := by kernel_rfl
theorem ok17 : codeOk Tryd.f17.ntmps (Tryd.f17.body.getD .skip) = true := by kernel_rfl
theorem ok18 : codeOk Tryd.f18.ntmps (Tryd.f18.body.getD .skip) = true := by kernel_rfl
theorem ok20 : codeOk Tryd.f20.ntmps (Tryd.f20.body.getD .skip) = true := by kernel_rfl
theorem ok21 : codeOk Tryd.f21.ntmps (Tryd.f21.body.getD .skip) = true := by kernel_rfl
theorem ok22 : codeOk Tryd.f22.ntmps (Tryd.f22.body.getD .skip) = true := by kernel_rfl
theorem ok23 : codeOk Tryd.f23.ntmps (Tryd.f23.body.getD .skip) = true := by kernel_rfl
theorem ok24 : codeOk Tryd.f24.ntmps (Tryd.f24.body.getD .skip) = true := by kernel_rfl
theorem ok27 : codeOk Tryd.f27.ntmps (Tryd.f27.body.getD .skip) = true := by kernel_rfl
theorem ok29 : codeOk Tryd.f29.ntmps (Tryd.f29.body.getD .skip) = true := by kernel_rfl
theorem ok31 : codeOk Tryd.f31.ntmps (Tryd.f31.body.getD .skip) = true := by kernel_rfl
theorem ok32 : codeOk Tryd.f32.ntmps (Tryd.f32.body.getD .skip) = true := by kernel_rfl
theorem ok35 : codeOk Tryd.f35.ntmps (Tryd.f35.body.getD .skip) = true := by kernel_rfl
theorem ok36 : codeOk Tryd.f36.ntmps (Tryd.f36.body.getD .skip) = true := by kernel_rfl
theorem ok38 : codeOk Tryd.f38.ntmps (Tryd.f38.body.getD .skip) = true := by kernel_rfl
theorem ok56 : codeOk Tryd.f56.ntmps (Tryd.f56.body.getD .skip) = true := by kernel_rfl
theorem ok57 : codeOk Tryd.f57.ntmps (Tryd.f57.body.getD .skip) = true := by kernel_rfl
theorem ok58 : codeOk Tryd.f58.ntmps (Tryd.f58.body.getD .skip) = true := by kernel_rfl
theorem ok59 : codeOk Tryd.f59.ntmps (Tryd.f59.body.getD .skip) = true := by kernel_rfl
theorem ok60 : codeOk Tryd.f60.ntmps (Tryd.f60.body.getD .skip) = true := by kernel_rfl
theorem ok61 : codeOk Tryd.f61.ntmps (Tryd.f61.body.getD .skip) = true := by kernel_rfl
theorem ok62 : codeOk Tryd.f62.ntmps (Tryd.f62.body.getD .skip) = true := by kernel_rfl
theorem ok63 : codeOk Tryd.f63.ntmps (Tryd.f63.body.getD .skip) = true := by kernel_rfl
theorem ok65 : codeOk Tryd.f65.ntmps (Tryd.f65.body.getD .skip) = true := by kernel_rfl
theorem ok66 : codeOk Tryd.f66.ntmps (Tryd.f66.body.getD .skip) = true := by kernel_rfl
theorem ok79 : codeOk Tryd.f79.ntmps (Tryd.f79.body.getD .skip) = true := by kernel_rfl
theorem ok81 : codeOk Tryd.f81.ntmps (Tryd.f81.body.getD .skip) = true := by kernel_rfl
theorem ok83 : codeOk Tryd.f83.ntmps (Tryd.f83.body.getD .skip) = true := by kernel_rfl
theorem ok85 : codeOk Tryd.f85.ntmps (Tryd.f85.body.getD .skip) = true := by kernel_rfl
theorem ok86 : codeOk Tryd.f86.ntmps (Tryd.f86.body.getD .skip) = true := by kernel_rfl
theorem ok87 : codeOk Tryd.f87.ntmps (Tryd.f87.body.getD .skip) = true := by kernel_rfl
theorem ok88 : codeOk Tryd.f88.ntmps (Tryd.f88.body.getD .skip) = true := by kernel_rfl
theorem ok104 : codeOk Tryd.f104.ntmps (Tryd.f104.body.getD .skip) = true := by kernel_rfl
theorem ok105 : codeOk Tryd.f105.ntmps (Tryd.f105.body.getD .skip) = true := by kernel_rfl
theorem ok106 : codeOk Tryd.f106.ntmps (Tryd.f106.body.getD .skip) = true := by kernel_rfl
theorem ok107 : codeOk Tryd.f107.ntmps (Tryd.f107.body.getD .skip) = true := by kernel_rfl
theorem ok119 : codeOk Tryd.f119.ntmps (Tryd.f119.body.getD .skip) = true := by kernel_rfl
theorem ok120 : codeOk Tryd.f120.ntmps (Tryd.f120.body.getD .skip) = true := by kernel_rfl
theorem ok121 : codeOk Tryd.f121.ntmps (Tryd.f121.body.getD .skip) = true := by kernel_rfl
theorem ok131 : codeOk Tryd.f131.ntmps (Tryd.f131.body.getD .skip) = true := by kernel_rfl
end Go.Proofs.YtkfaiokiaahbaaaDoor


/- Boxes of numbers, and partitions made of them. -/
namespace Go.Proofs.YtkfaiokiaahbaaaDoor
open Go.AI
theorem fo74 : fieldOff Tryd.prog 74 0 = some (0, 1) := by kernel_rfl
theorem sz72 : sizeB Tryd.prog 72 = some 1 := by kernel_rfl
theorem ag72 : isAggB Tryd.prog 72 = some false := by kernel_rfl
theorem un72 : Tryd.prog.underlying 72 = some (.int .u64) := by kernel_rfl

/-- A box: a variable of one word. -/
def Box (b : Nat) (H : Heap) : Prop := b < H.n ∧ ∃ w, H.get b = some (.cells [.int .u64 w] 74 1)
def bp (b : Nat) : Value := .pointer (some ⟨b, 0, none⟩)
theorem box_addr {b : Nat} : afieldAddr Tryd.prog 74 (bp b) 0 = some (bp b) := field_addr fo74 (by decide)
theorem box_load {b : Nat} {H : Heap} {w : Int} (h : H.get b = some (.cells [.int .u64 w] 74 1)) : aload Tryd.prog 72 H (bp b) = some (.int .u64 w) := by
  simp only [aload, bp, h, ag72]; rfl
theorem box_store {b : Nat} {H : Heap} {w r : Int} (h : H.get b = some (.cells [.int .u64 w] 74 1)) : astore Tryd.prog 72 H (.int .u64 r) (bp b) = some (H.set b (.cells [.int .u64 r] 74 1), b) := by
  simp only [astore, bp, h, sz72, Value.cells]; rfl
theorem Box.keepX {b : Nat} {H : Heap} {r : Int} (h : Box b H) : Box b (H.set b (.cells [.int .u64 r] 74 1)) := ⟨h.1, r, Heap.get_set_eq _ _ _⟩
theorem Box.keep {b : Nat} {H H' : Heap} (h : Box b H) (k : Keep H H') : Box b H' := ⟨Nat.lt_of_lt_of_le h.1 k.1, by obtain ⟨w, hw⟩ := h.2; exact ⟨w, by rw [k.2 b h.1]; exact hw⟩⟩
theorem KeepX.set {b : Nat} (H : Heap) (o : AObj) : KeepX b H (H.set b o) := ⟨Nat.le_refl _, fun c _ hc => Heap.get_set_ne _ _ (fun h => hc h.symm)⟩
theorem wrap64 (n : Int) : 0 ≤ IntKind.wrap .u64 n ∧ IntKind.wrap .u64 n < 18446744073709551616 := by
  simp only [IntKind.wrap, IntKind.signed, IntKind.bits]
  simp
  omega
theorem wrapI {n : Int} (h0 : -9223372036854775808 ≤ n) (h1 : n < 9223372036854775808) : IntKind.wrap .i64 n = n := by
  simp only [IntKind.wrap, IntKind.signed, IntKind.bits]
  simp
  split <;> omega
theorem wrapU {n : Int} (h0 : 0 ≤ n) (h1 : n < 18446744073709551616) : IntKind.wrap .u64 n = n := by
  simp only [IntKind.wrap, IntKind.signed, IntKind.bits]
  simp
  omega
theorem fdiv64 {x : Int} (h0 : 0 ≤ x) (h1 : x < 18446744073709551616) : 0 ≤ x.fdiv (2 ^ (min (Int.toNat 1) (IntKind.bits .u64))) ∧ x.fdiv (2 ^ (min (Int.toNat 1) (IntKind.bits .u64))) < 9223372036854775808 := by
  rw [show (2 ^ (min (Int.toNat 1) (IntKind.bits .u64)) : Int) = 2 by decide, Int.fdiv_eq_ediv_of_nonneg _ (by omega)]
  omega

set_option maxRecDepth 100000 in
theorem turn_spec {B b : Nat} {H : Heap} (hB : B ≤ b) (hn : B ≤ H.n) (hb : Box b H) :
    CallB Tryd.prog B 79 [bp b] H (fun r H' => (∃ x, r = .int .u64 x ∧ 0 ≤ x ∧ x < 18446744073709551616) ∧ Box b H' ∧ KeepX b H H') := by
  refine CV.enter callees true rfl Tryd.func79 rfl ok79 (Nat.le_of_ble_eq_true rfl) hn ?_
  have hb' := hb
  obtain ⟨hbn, w, hw⟩ := hb
  have hw2 : ∀ r, (H.set b (.cells [.int .u64 r] 74 1)).get b = some (.cells [.int .u64 r] 74 1) := fun r => Heap.get_set_eq _ _ _
  repeat' first
    | refine CO.cons rfl ?_
    | refine CO.nil ?_
    | refine CV.seq ?_
    | refine CV.region callees ?_
    | refine CV.cond ?_
    | refine CV.block ?_
    | refine CV.skip ?_
    | refine CV.exit ?_
    | refine CV.ret ?_
    | refine CV.scope ?_
    | refine CV.draw callees rfl ?_
    | refine CH.cons rfl ?_
    | refine CH.nil ?_
    | refine CO.consG rfl ?_
    | refine CH.consG rfl ?_
    | refine CG.cons rfl ?_
    | refine CG.nil ?_
    | refine CG.consG rfl ?_
    | refine ⟨(rfl : plain _ = true), ?_⟩
    | refine ⟨(rfl : nilOk _ = some _), ?_⟩
    | refine ⟨_, ints_len (by assumption), ?_⟩
    | refine ⟨_, ints_addr (by assumption) (by omega) (by omega), ?_⟩
    | refine ⟨_, ints_load (by assumption) (by omega) (by omega), ?_⟩
    | refine ⟨(⟨by omega, by omega⟩ : inI64 _), ?_⟩
    | refine ⟨_, fun tm ha => step1_max rfl (ev_tmp ha rfl) (ev_tmp ha rfl), ?_⟩
    | refine ⟨_, fun tm ha => step1_min rfl (ev_tmp ha rfl) (ev_tmp ha rfl), ?_⟩
    | refine ⟨_, box_addr, ?_⟩
    | refine ⟨_, box_load hw, ?_⟩
    | refine ⟨_, box_load (hw2 _), ?_⟩
    | refine ⟨_, _, box_store hw, hB, ?_⟩
    | intro _ _
    | refine ⟨_, fun tm ha => step1_shr rfl (ev_tmp ha rfl) rfl (by decide), ?_⟩
    | refine ⟨_, fun tm ha => step1_bits (.inl rfl) rfl (ev_tmp ha rfl) (ev_tmp ha rfl) rfl rfl, ?_⟩
    | (refine ⟨fun _ => ?_, fun _ => ?_⟩ <;> first | (exfalso; omega) | skip)
    | fail
  refine ⟨rfl, ⟨_, rfl, (wrap64 _).1, (wrap64 _).2⟩, hb'.keepX, KeepX.set _ _⟩

set_option maxRecDepth 100000 in
theorem up_spec {B b : Nat} {H : Heap} {n : Int} (hB : B ≤ b) (hn : B ≤ H.n) (hb : Box b H) (hn1 : n < 9223372036854775808) :
    CallB Tryd.prog B 24 [bp b, .int .i64 n] H (fun r H' => (∃ x, r = .int .i64 x ∧ 0 ≤ x ∧ (x < n ∨ x = 0)) ∧ Box b H' ∧ KeepX b H H') := by
  refine CV.enter callees true rfl Tryd.func24 rfl ok24 (Nat.le_of_ble_eq_true rfl) hn ?_
  repeat' first
    | refine CO.cons rfl ?_
    | refine CO.nil ?_
    | refine CV.seq ?_
    | refine CV.region callees ?_
    | refine CV.cond ?_
    | refine CV.block ?_
    | refine CV.skip ?_
    | refine CV.exit ?_
    | refine CV.ret ?_
    | refine CV.scope ?_
    | refine CV.draw callees rfl ?_
    | refine CH.cons rfl ?_
    | refine CH.nil ?_
    | refine CO.consG rfl ?_
    | refine CH.consG rfl ?_
    | refine CG.cons rfl ?_
    | refine CG.nil ?_
    | refine CG.consG rfl ?_
    | refine ⟨(rfl : plain _ = true), ?_⟩
    | refine ⟨(rfl : nilOk _ = some _), ?_⟩
    | refine ⟨_, ints_len (by assumption), ?_⟩
    | refine ⟨_, ints_addr (by assumption) (by omega) (by omega), ?_⟩
    | refine ⟨_, ints_load (by assumption) (by omega) (by omega), ?_⟩
    | refine ⟨(⟨by omega, by omega⟩ : inI64 _), ?_⟩
    | refine ⟨_, fun tm ha => step1_max rfl (ev_tmp ha rfl) (ev_tmp ha rfl), ?_⟩
    | refine ⟨_, fun tm ha => step1_min rfl (ev_tmp ha rfl) (ev_tmp ha rfl), ?_⟩
    | refine ⟨fun _ => ?_, fun _ => ?_⟩
    | (refine ⟨fun _ => ?_, fun _ => ?_⟩ <;> first | (exfalso; omega) | skip)
    | fail
  · exact ⟨rfl, ⟨0, rfl, by omega, .inr rfl⟩, hb, KeepX.refl _ _⟩
  refine (turn_spec hB hn hb).mono ?_
  rintro r H' ⟨⟨x, rfl, h0, h1⟩, hb', hk⟩
  have hm : IntKind.wrap .u64 n = n := wrapU (by omega) (by omega)
  obtain ⟨d0, d1⟩ := fdiv64 h0 h1
  repeat' first
    | refine CO.cons rfl ?_
    | refine CO.nil ?_
    | refine CV.seq ?_
    | refine CV.region callees ?_
    | refine CV.cond ?_
    | refine CV.block ?_
    | refine CV.skip ?_
    | refine CV.exit ?_
    | refine CV.ret ?_
    | refine CV.scope ?_
    | refine CV.draw callees rfl ?_
    | refine CH.cons rfl ?_
    | refine CH.nil ?_
    | refine CO.consG rfl ?_
    | refine CH.consG rfl ?_
    | refine CG.cons rfl ?_
    | refine CG.nil ?_
    | refine CG.consG rfl ?_
    | refine ⟨(rfl : plain _ = true), ?_⟩
    | refine ⟨(rfl : nilOk _ = some _), ?_⟩
    | refine ⟨_, ints_len (by assumption), ?_⟩
    | refine ⟨_, ints_addr (by assumption) (by omega) (by omega), ?_⟩
    | refine ⟨_, ints_load (by assumption) (by omega) (by omega), ?_⟩
    | refine ⟨(⟨by omega, by omega⟩ : inI64 _), ?_⟩
    | refine ⟨_, fun tm ha => step1_max rfl (ev_tmp ha rfl) (ev_tmp ha rfl), ?_⟩
    | refine ⟨_, fun tm ha => step1_min rfl (ev_tmp ha rfl) (ev_tmp ha rfl), ?_⟩
    | refine ⟨_, fun tm ha => step1_shr rfl (ev_tmp ha rfl) rfl (by decide), ?_⟩
    | refine ⟨_, fun tm ha => step1_conv un3 un72 rfl (ev_tmp ha rfl), ?_⟩
    | refine ⟨_, fun tm ha => step1_rem rfl (ev_tmp ha rfl) (ev_tmp ha rfl) (by rw [hm]; omega), ?_⟩
    | refine ⟨_, fun tm ha => step1_conv un72 un3 rfl (ev_tmp ha rfl), ?_⟩
    | (refine ⟨fun _ => ?_, fun _ => ?_⟩ <;> first | (exfalso; omega) | skip)
    | fail
  rw [hm]
  generalize x.fdiv (2 ^ (min (Int.toNat 1) (IntKind.bits .u64))) = d at d0 d1
  have e1 := Int.tmod_nonneg (b := n) d0
  have e2 := Int.tmod_lt_of_pos d (b := n) (by omega)
  rw [wrapI (by omega) (by omega)]
  exact ⟨rfl, ⟨_, rfl, e1, .inl e2⟩, hb', hk⟩
set_option maxRecDepth 100000 in
theorem any_spec {B b : Nat} {H : Heap} {l h : Int} (hB : B ≤ b) (hn : B ≤ H.n) (hb : Box b H) (h0 : -1000000 ≤ l) (h1 : l ≤ h) (h2 : h < 1000000) :
    CallB Tryd.prog B 22 [bp b, .int .i64 l, .int .i64 h] H (fun r H' => (∃ x, r = .int .i64 x ∧ l ≤ x ∧ x ≤ h) ∧ Box b H' ∧ KeepX b H H') := by
  refine CV.enter callees false rfl Tryd.func22 rfl ok22 (Nat.le_of_ble_eq_true rfl) hn ?_
  repeat' first
    | refine CO.cons rfl ?_
    | refine CO.nil ?_
    | refine CV.seq ?_
    | refine CV.region callees ?_
    | refine CV.cond ?_
    | refine CV.block ?_
    | refine CV.skip ?_
    | refine CV.exit ?_
    | refine CV.ret ?_
    | refine CV.scope ?_
    | refine CV.draw callees rfl ?_
    | refine CH.cons rfl ?_
    | refine CH.nil ?_
    | refine CO.consG rfl ?_
    | refine CH.consG rfl ?_
    | refine CG.cons rfl ?_
    | refine CG.nil ?_
    | refine CG.consG rfl ?_
    | refine ⟨(rfl : plain _ = true), ?_⟩
    | refine ⟨(rfl : nilOk _ = some _), ?_⟩
    | refine ⟨_, ints_len (by assumption), ?_⟩
    | refine ⟨_, ints_addr (by assumption) (by omega) (by omega), ?_⟩
    | refine ⟨_, ints_load (by assumption) (by omega) (by omega), ?_⟩
    | refine ⟨(⟨by omega, by omega⟩ : inI64 _), ?_⟩
    | refine ⟨_, fun tm ha => step1_max rfl (ev_tmp ha rfl) (ev_tmp ha rfl), ?_⟩
    | refine ⟨_, fun tm ha => step1_min rfl (ev_tmp ha rfl) (ev_tmp ha rfl), ?_⟩
    | (refine ⟨fun _ => ?_, fun _ => ?_⟩ <;> first | (exfalso; omega) | skip)
    | fail
  refine (up_spec hB hn hb (by omega)).mono ?_
  rintro r H' ⟨⟨x, rfl, h3, h4⟩, hb', hk⟩
  repeat' first
    | refine CO.cons rfl ?_
    | refine CO.nil ?_
    | refine CV.seq ?_
    | refine CV.region callees ?_
    | refine CV.cond ?_
    | refine CV.block ?_
    | refine CV.skip ?_
    | refine CV.exit ?_
    | refine CV.ret ?_
    | refine CV.scope ?_
    | refine CV.draw callees rfl ?_
    | refine CH.cons rfl ?_
    | refine CH.nil ?_
    | refine CO.consG rfl ?_
    | refine CH.consG rfl ?_
    | refine CG.cons rfl ?_
    | refine CG.nil ?_
    | refine CG.consG rfl ?_
    | refine ⟨(rfl : plain _ = true), ?_⟩
    | refine ⟨(rfl : nilOk _ = some _), ?_⟩
    | refine ⟨_, ints_len (by assumption), ?_⟩
    | refine ⟨_, ints_addr (by assumption) (by omega) (by omega), ?_⟩
    | refine ⟨_, ints_load (by assumption) (by omega) (by omega), ?_⟩
    | refine ⟨(⟨by omega, by omega⟩ : inI64 _), ?_⟩
    | refine ⟨_, fun tm ha => step1_max rfl (ev_tmp ha rfl) (ev_tmp ha rfl), ?_⟩
    | refine ⟨_, fun tm ha => step1_min rfl (ev_tmp ha rfl) (ev_tmp ha rfl), ?_⟩
    | (refine ⟨fun _ => ?_, fun _ => ?_⟩ <;> first | (exfalso; omega) | skip)
    | fail
  exact ⟨rfl, ⟨_, rfl, by omega, by omega⟩, hb', hk⟩
set_option maxRecDepth 100000 in
theorem one_spec {B b : Nat} {H : Heap} {n : Int} (hB : B ≤ b) (hn : B ≤ H.n) (hb : Box b H) (hn1 : n < 9223372036854775808) :
    CallB Tryd.prog B 23 [bp b, .int .i64 n] H (fun r H' => (∃ x, r = .bool x) ∧ Box b H' ∧ KeepX b H H') := by
  refine CV.enter callees false rfl Tryd.func23 rfl ok23 (Nat.le_of_ble_eq_true rfl) hn ?_
  repeat' first
    | refine CO.cons rfl ?_
    | refine CO.nil ?_
    | refine CV.seq ?_
    | refine CV.region callees ?_
    | refine CV.cond ?_
    | refine CV.block ?_
    | refine CV.skip ?_
    | refine CV.exit ?_
    | refine CV.ret ?_
    | refine CV.scope ?_
    | refine CV.draw callees rfl ?_
    | refine CH.cons rfl ?_
    | refine CH.nil ?_
    | refine CO.consG rfl ?_
    | refine CH.consG rfl ?_
    | refine CG.cons rfl ?_
    | refine CG.nil ?_
    | refine CG.consG rfl ?_
    | refine ⟨(rfl : plain _ = true), ?_⟩
    | refine ⟨(rfl : nilOk _ = some _), ?_⟩
    | refine ⟨_, ints_len (by assumption), ?_⟩
    | refine ⟨_, ints_addr (by assumption) (by omega) (by omega), ?_⟩
    | refine ⟨_, ints_load (by assumption) (by omega) (by omega), ?_⟩
    | refine ⟨(⟨by omega, by omega⟩ : inI64 _), ?_⟩
    | refine ⟨_, fun tm ha => step1_max rfl (ev_tmp ha rfl) (ev_tmp ha rfl), ?_⟩
    | refine ⟨_, fun tm ha => step1_min rfl (ev_tmp ha rfl) (ev_tmp ha rfl), ?_⟩
    | (refine ⟨fun _ => ?_, fun _ => ?_⟩ <;> first | (exfalso; omega) | skip)
    | fail
  refine (up_spec hB hn hb hn1).mono ?_
  rintro r H' ⟨⟨x, rfl, h3, h4⟩, hb', hk⟩
  repeat' first
    | refine CO.cons rfl ?_
    | refine CO.nil ?_
    | refine CV.seq ?_
    | refine CV.region callees ?_
    | refine CV.cond ?_
    | refine CV.block ?_
    | refine CV.skip ?_
    | refine CV.exit ?_
    | refine CV.ret ?_
    | refine CV.scope ?_
    | refine CV.draw callees rfl ?_
    | refine CH.cons rfl ?_
    | refine CH.nil ?_
    | refine CO.consG rfl ?_
    | refine CH.consG rfl ?_
    | refine CG.cons rfl ?_
    | refine CG.nil ?_
    | refine CG.consG rfl ?_
    | refine ⟨(rfl : plain _ = true), ?_⟩
    | refine ⟨(rfl : nilOk _ = some _), ?_⟩
    | refine ⟨_, ints_len (by assumption), ?_⟩
    | refine ⟨_, ints_addr (by assumption) (by omega) (by omega), ?_⟩
    | refine ⟨_, ints_load (by assumption) (by omega) (by omega), ?_⟩
    | refine ⟨(⟨by omega, by omega⟩ : inI64 _), ?_⟩
    | refine ⟨_, fun tm ha => step1_max rfl (ev_tmp ha rfl) (ev_tmp ha rfl), ?_⟩
    | refine ⟨_, fun tm ha => step1_min rfl (ev_tmp ha rfl) (ev_tmp ha rfl), ?_⟩
    | refine ⟨fun _ => ?_, fun _ => ?_⟩
    | (refine ⟨fun _ => ?_, fun _ => ?_⟩ <;> first | (exfalso; omega) | skip)
    | fail
  · exact ⟨rfl, ⟨_, rfl⟩, hb', hk⟩
  · exact ⟨rfl, ⟨_, rfl⟩, hb', hk⟩
end Go.Proofs.YtkfaiokiaahbaaaDoor


/- Partitions that are made of numbers. -/
namespace Go.Proofs.YtkfaiokiaahbaaaDoor
open Go.AI

theorem build_box {w : Int} : abuild Tryd.prog 74 [(0, .int .u64 w)] = some (.agg #[.int .u64 w]) := by kernel_rfl
set_option maxRecDepth 100000 in
theorem boxOf_spec {B : Nat} {H : Heap} {v : Value} {xs : List Int} (hn : B ≤ H.n) (hv : Ints H v xs) (hl : xs.length ≤ 9223372036854775807) :
    CallB Tryd.prog B 20 [v] H (fun r H' => (∃ b, r = bp b ∧ H.n ≤ b ∧ Box b H') ∧ Keep H H') := by
  refine CV.enter callees false rfl Tryd.func20 rfl ok20 (Nat.le_of_ble_eq_true rfl) hn ?_
  repeat' first
    | refine CO.cons rfl ?_
    | refine CO.nil ?_
    | refine CV.seq ?_
    | refine CV.region callees ?_
    | refine CV.cond ?_
    | refine CV.block ?_
    | refine CV.skip ?_
    | refine CV.exit ?_
    | refine CV.ret ?_
    | refine CV.scope ?_
    | refine CV.draw callees rfl ?_
    | refine CH.cons rfl ?_
    | refine CH.nil ?_
    | refine CO.consG rfl ?_
    | refine CH.consG rfl ?_
    | refine CG.cons rfl ?_
    | refine CG.nil ?_
    | refine CG.consG rfl ?_
    | refine ⟨(rfl : plain _ = true), ?_⟩
    | refine ⟨(rfl : nilOk _ = some _), ?_⟩
    | refine ⟨_, ints_len (by assumption), ?_⟩
    | refine ⟨_, ints_addr (by assumption) (by omega) (by omega), ?_⟩
    | refine ⟨_, ints_load (by assumption) (by omega) (by omega), ?_⟩
    | refine ⟨(⟨by omega, by omega⟩ : inI64 _), ?_⟩
    | refine ⟨_, fun tm ha => step1_max rfl (ev_tmp ha rfl) (ev_tmp ha rfl), ?_⟩
    | refine ⟨_, fun tm ha => step1_min rfl (ev_tmp ha rfl) (ev_tmp ha rfl), ?_⟩
    | refine ⟨_, build_box, ?_⟩
    | refine ⟨(rfl : notTuple _ = true), ?_⟩
    | (refine ⟨fun _ => ?_, fun _ => ?_⟩ <;> first | (exfalso; omega) | skip)
    | fail
  refine CV.loopc ?_
  refine WCv.rounds callees false (α := Int) (fun a => [(0, v), (3, bp H.n), (4, .int .i64 a)]) (fun a Hz => 0 ≤ a ∧ a ≤ xs.length ∧ Box H.n Hz ∧ Keep H Hz) (fun a => xs.length - a.toNat) (0) (by repeat' first | exact trivial | refine ⟨rfl, ?_⟩) ?_ ?_
  · exact ⟨by omega, by omega, ⟨Nat.lt_succ_self _, _, Heap.get_new_eq _ _⟩, Keep.new _ _⟩
  rintro i Hx ⟨h0, h1, hb, hk⟩ hBx
  have hvx : Ints Hx v xs := hv.keep hk
  have hb' := hb
  obtain ⟨hbn, w, hw⟩ := hb
  repeat' first
    | refine CO.cons rfl ?_
    | refine CO.nil ?_
    | refine CV.seq ?_
    | refine CV.region callees ?_
    | refine CV.cond ?_
    | refine CV.block ?_
    | refine CV.skip ?_
    | refine CV.exit ?_
    | refine CV.ret ?_
    | refine CV.scope ?_
    | refine CV.draw callees rfl ?_
    | refine CH.cons rfl ?_
    | refine CH.nil ?_
    | refine CO.consG rfl ?_
    | refine CH.consG rfl ?_
    | refine CG.cons rfl ?_
    | refine CG.nil ?_
    | refine CG.consG rfl ?_
    | refine ⟨(rfl : plain _ = true), ?_⟩
    | refine ⟨(rfl : nilOk _ = some _), ?_⟩
    | refine ⟨_, ints_len (by assumption), ?_⟩
    | refine ⟨_, ints_addr (by assumption) (by omega) (by omega), ?_⟩
    | refine ⟨_, ints_load (by assumption) (by omega) (by omega), ?_⟩
    | refine ⟨(⟨by omega, by omega⟩ : inI64 _), ?_⟩
    | refine ⟨_, fun tm ha => step1_max rfl (ev_tmp ha rfl) (ev_tmp ha rfl), ?_⟩
    | refine ⟨_, fun tm ha => step1_min rfl (ev_tmp ha rfl) (ev_tmp ha rfl), ?_⟩
    | refine ⟨_, box_addr, ?_⟩
    | refine ⟨_, box_load hw, ?_⟩
    | refine ⟨_, _, box_store hw, hn, ?_⟩
    | intro _ _
    | refine ⟨_, fun tm ha => step1_conv un3 un72 rfl (ev_tmp ha rfl), ?_⟩
    | refine ⟨_, fun tm ha => step1_bits (.inl rfl) rfl (ev_tmp ha rfl) (ev_tmp ha rfl) rfl rfl, ?_⟩
    | (refine ⟨fun _ => ?_, fun _ => ?_⟩ <;> first | (exfalso; omega) | skip)
    | fail
  · refine (turn_spec hn (by exact hBx) hb'.keepX).mono ?_
    rintro r H' ⟨⟨x, rfl, _, _⟩, hb2, hk2⟩
    repeat' first
      | refine CO.cons rfl ?_
      | refine CO.nil ?_
      | refine CV.seq ?_
      | refine CV.region callees ?_
      | refine CV.cond ?_
      | refine CV.block ?_
      | refine CV.skip ?_
      | refine CV.exit ?_
      | refine CV.ret ?_
      | refine CV.scope ?_
      | refine CV.draw callees rfl ?_
      | refine CH.cons rfl ?_
      | refine CH.nil ?_
      | refine CO.consG rfl ?_
      | refine CH.consG rfl ?_
      | refine CG.cons rfl ?_
      | refine CG.nil ?_
      | refine CG.consG rfl ?_
      | refine ⟨(rfl : plain _ = true), ?_⟩
      | refine ⟨(rfl : nilOk _ = some _), ?_⟩
      | refine ⟨_, ints_len (by assumption), ?_⟩
      | refine ⟨_, ints_addr (by assumption) (by omega) (by omega), ?_⟩
      | refine ⟨_, ints_load (by assumption) (by omega) (by omega), ?_⟩
      | refine ⟨(⟨by omega, by omega⟩ : inI64 _), ?_⟩
      | refine ⟨_, fun tm ha => step1_max rfl (ev_tmp ha rfl) (ev_tmp ha rfl), ?_⟩
      | refine ⟨_, fun tm ha => step1_min rfl (ev_tmp ha rfl) (ev_tmp ha rfl), ?_⟩
      | (refine ⟨fun _ => ?_, fun _ => ?_⟩ <;> first | (exfalso; omega) | skip)
      | fail
    refine ⟨(i + 1), (by repeat' first | exact trivial | refine ⟨rfl, ?_⟩), (by (try dsimp only); omega), ?_⟩
    exact ⟨by omega, by omega, hb2, ((KeepX.set _ _).trans hk2).keep hk (Nat.le_refl _)⟩
  · repeat' first
      | refine CO.cons rfl ?_
      | refine CO.nil ?_
      | refine CV.seq ?_
      | refine CV.region callees ?_
      | refine CV.cond ?_
      | refine CV.block ?_
      | refine CV.skip ?_
      | refine CV.exit ?_
      | refine CV.ret ?_
      | refine CV.scope ?_
      | refine CV.draw callees rfl ?_
      | refine CH.cons rfl ?_
      | refine CH.nil ?_
      | refine CO.consG rfl ?_
      | refine CH.consG rfl ?_
      | refine CG.cons rfl ?_
      | refine CG.nil ?_
      | refine CG.consG rfl ?_
      | refine ⟨(rfl : plain _ = true), ?_⟩
      | refine ⟨(rfl : nilOk _ = some _), ?_⟩
      | refine ⟨_, ints_len (by assumption), ?_⟩
      | refine ⟨_, ints_addr (by assumption) (by omega) (by omega), ?_⟩
      | refine ⟨_, ints_load (by assumption) (by omega) (by omega), ?_⟩
      | refine ⟨(⟨by omega, by omega⟩ : inI64 _), ?_⟩
      | refine ⟨_, fun tm ha => step1_max rfl (ev_tmp ha rfl) (ev_tmp ha rfl), ?_⟩
      | refine ⟨_, fun tm ha => step1_min rfl (ev_tmp ha rfl) (ev_tmp ha rfl), ?_⟩
      | (refine ⟨fun _ => ?_, fun _ => ?_⟩ <;> first | (exfalso; omega) | skip)
      | fail
    exact ⟨rfl, ⟨_, rfl, Nat.le_refl _, hb'⟩, hk⟩

/-- The first place of a label among those from a place on. -/
theorem idx_from {met : List Int} {x : Int} {k : Nat} (h : ∀ j, j < k → met[j]! ≠ x) (hk : k ≤ met.length) (he : k = met.length ∨ met[k]! = x) : (if x ∈ met then met.idxOf x else met.length) = k := by
  by_cases hx : x ∈ met
  · rw [if_pos hx]
    have h1 := List.idxOf_lt_length_of_mem hx
    have h2 := List.getElem_idxOf h1
    rcases Nat.lt_trichotomy (met.idxOf x) k with h3 | h3 | h3
    · exact absurd (by rw [getElem!_pos met _ h1]; exact h2) (h _ h3)
    · exact h3
    · rcases he with rfl | he
      · omega
      · have := List.not_of_lt_findIdx (p := (· == x)) (xs := met) (i := k) h3
        rw [getElem!_pos met k (by omega)] at he
        simp [he] at this
  · rw [if_neg hx]
    rcases he with rfl | he
    · rfl
    · by_cases hl : k < met.length
      · rw [getElem!_pos met k hl] at he
        exact absurd (he ▸ List.getElem_mem hl) hx
      · omega
theorem num_step {x : Int} {r met : List Int} {k : Nat} (h : (if x ∈ met then met.idxOf x else met.length) = k) : num (x :: r) met = (k : Int) :: num r (if k = met.length then met ++ [x] else met) := by
  rw [num]
  by_cases hx : x ∈ met
  · rw [if_pos hx] at h ⊢
    have := List.idxOf_lt_length_of_mem hx
    rw [if_neg (by omega), h]
  · rw [if_neg hx] at h ⊢
    rw [if_pos h.symm, h]

set_option maxRecDepth 100000 in
theorem refof_spec {B : Nat} {H : Heap} {v : Value} {xs : List Int} (hn : B ≤ H.n) (hv : Ints H v xs) (hl : xs.length ≤ 1000) :
    CallB Tryd.prog B 81 [v] H (fun r H' => Own 3 H' r ((num xs []).map VI) H.n ∧ Keep H H') := by
  refine CV.enter callees false rfl Tryd.func81 rfl ok81 (Nat.le_of_ble_eq_true rfl) hn ?_
  repeat' first
    | refine CO.cons rfl ?_
    | refine CO.nil ?_
    | refine CV.seq ?_
    | refine CV.region callees ?_
    | refine CV.cond ?_
    | refine CV.block ?_
    | refine CV.skip ?_
    | refine CV.exit ?_
    | refine CV.ret ?_
    | refine CV.scope ?_
    | refine CV.draw callees rfl ?_
    | refine CH.cons rfl ?_
    | refine CH.nil ?_
    | refine CO.consG rfl ?_
    | refine CH.consG rfl ?_
    | refine CG.cons rfl ?_
    | refine CG.nil ?_
    | refine CG.consG rfl ?_
    | refine ⟨(rfl : plain _ = true), ?_⟩
    | refine ⟨(rfl : nilOk _ = some _), ?_⟩
    | refine ⟨_, ints_len (by assumption), ?_⟩
    | refine ⟨_, ints_addr (by assumption) (by omega) (by omega), ?_⟩
    | refine ⟨_, ints_load (by assumption) (by omega) (by omega), ?_⟩
    | refine ⟨(⟨by omega, by omega⟩ : inI64 _), ?_⟩
    | refine ⟨_, fun tm ha => step1_max rfl (ev_tmp ha rfl) (ev_tmp ha rfl), ?_⟩
    | refine ⟨_, fun tm ha => step1_min rfl (ev_tmp ha rfl) (ev_tmp ha rfl), ?_⟩
    | (refine ⟨fun _ => ?_, fun _ => ?_⟩ <;> first | (exfalso; omega) | skip)
    | fail
  refine CV.loopc ?_
  refine WCv.rounds callees false (α := Value × Value × Int × List Int × List Int) (fun (o, u, i, met, out) => [(0, v), (3, o), (4, u), (5, .int .i64 i)]) (fun (o, u, i, met, out) Hz => 0 ≤ i ∧ i ≤ xs.length ∧ out.length = i.toNat ∧ met.length ≤ i.toNat ∧ Own 3 Hz o (out.map VI) H.n ∧ Own 3 Hz u (met.map VI) H.n ∧ Apart o u ∧ Keep H Hz ∧ num xs [] = out ++ num (xs.drop i.toNat) met) (fun (o, u, i, met, out) => xs.length - i.toNat) (.slice none 0 0, .slice none 0 0, 0, [], []) (by repeat' first | exact trivial | refine ⟨rfl, ?_⟩) ?_ ?_
  · exact ⟨by simp, by simp, rfl, by simp, .inl ⟨rfl, rfl⟩, .inl ⟨rfl, rfl⟩, apart_nil, Keep.refl _, by simp⟩
  rintro ⟨o, u, i, met, out⟩ Hx ⟨hi0, hi1, hlen, hml, ho, hu, hap, hk, hnum⟩ hBx
  have hvx : Ints Hx v xs := hv.keep hk
  have hux : Ints Hx u met := hu.row
  repeat' first
    | refine CO.cons rfl ?_
    | refine CO.nil ?_
    | refine CV.seq ?_
    | refine CV.region callees ?_
    | refine CV.cond ?_
    | refine CV.block ?_
    | refine CV.skip ?_
    | refine CV.exit ?_
    | refine CV.ret ?_
    | refine CV.scope ?_
    | refine CV.draw callees rfl ?_
    | refine CH.cons rfl ?_
    | refine CH.nil ?_
    | refine CO.consG rfl ?_
    | refine CH.consG rfl ?_
    | refine CG.cons rfl ?_
    | refine CG.nil ?_
    | refine CG.consG rfl ?_
    | refine ⟨(rfl : plain _ = true), ?_⟩
    | refine ⟨(rfl : nilOk _ = some _), ?_⟩
    | refine ⟨_, ints_len (by assumption), ?_⟩
    | refine ⟨_, ints_addr (by assumption) (by omega) (by omega), ?_⟩
    | refine ⟨_, ints_load (by assumption) (by omega) (by omega), ?_⟩
    | refine ⟨(⟨by omega, by omega⟩ : inI64 _), ?_⟩
    | refine ⟨_, fun tm ha => step1_max rfl (ev_tmp ha rfl) (ev_tmp ha rfl), ?_⟩
    | refine ⟨_, fun tm ha => step1_min rfl (ev_tmp ha rfl) (ev_tmp ha rfl), ?_⟩
    | (refine ⟨fun _ => ?_, fun _ => ?_⟩ <;> first | (exfalso; omega) | skip)
    | fail
  · refine CV.loopc ?_
    refine WCv.rounds callees false (α := Int) (fun a => [(0, v), (3, o), (4, u), (5, .int .i64 i), (6, .int .i64 a)]) (fun a Hz => Hz = Hx ∧ 0 ≤ a ∧ a ≤ met.length ∧ ∀ j : Nat, (j : Int) < a → met[j]! ≠ xs[i.toNat]!) (fun a => met.length - a.toNat) (0) (by repeat' first | exact trivial | refine ⟨rfl, ?_⟩) ?_ ?_
    · exact ⟨rfl, by omega, by omega, fun j h => by omega⟩
    rintro k Hy ⟨rfl, hk0, hk1, hg⟩ _
    repeat' first
      | refine CO.cons rfl ?_
      | refine CO.nil ?_
      | refine CV.seq ?_
      | refine CV.region callees ?_
      | refine CV.cond ?_
      | refine CV.block ?_
      | refine CV.skip ?_
      | refine CV.exit ?_
      | refine CV.ret ?_
      | refine CV.scope ?_
      | refine CV.draw callees rfl ?_
      | refine CH.cons rfl ?_
      | refine CH.nil ?_
      | refine CO.consG rfl ?_
      | refine CH.consG rfl ?_
      | refine CG.cons rfl ?_
      | refine CG.nil ?_
      | refine CG.consG rfl ?_
      | refine ⟨(rfl : plain _ = true), ?_⟩
      | refine ⟨(rfl : nilOk _ = some _), ?_⟩
      | refine ⟨_, ints_len (by assumption), ?_⟩
      | refine ⟨_, ints_addr (by assumption) (by omega) (by omega), ?_⟩
      | refine ⟨_, ints_load (by assumption) (by omega) (by omega), ?_⟩
      | refine ⟨(⟨by omega, by omega⟩ : inI64 _), ?_⟩
      | refine ⟨_, fun tm ha => step1_max rfl (ev_tmp ha rfl) (ev_tmp ha rfl), ?_⟩
      | refine ⟨_, fun tm ha => step1_min rfl (ev_tmp ha rfl) (ev_tmp ha rfl), ?_⟩
      | (refine ⟨fun _ => ?_, fun _ => ?_⟩ <;> first | (exfalso; omega) | skip)
      | fail
    · refine ⟨(k + 1), (by repeat' first | exact trivial | refine ⟨rfl, ?_⟩), (by (try dsimp only); omega), ?_⟩
      refine ⟨rfl, by omega, by omega, fun j hj => ?_⟩
      by_cases h : (j : Int) < k
      · exact hg j h
      · rwa [show j = k.toNat by omega]
    · have hidx := idx_from (met := met) (x := xs[i.toNat]!) (k := k.toNat) (fun j hj => hg j (by omega)) (by omega) (.inr (Classical.not_not.1 (by assumption)))
      rw [drop_cons (xs := xs) (n := i.toNat) (by omega), num_step hidx, if_neg (by omega)] at hnum
      repeat' first
        | refine CO.cons rfl ?_
        | refine CO.nil ?_
        | refine CV.seq ?_
        | refine CV.region callees ?_
        | refine CV.cond ?_
        | refine CV.block ?_
        | refine CV.skip ?_
        | refine CV.exit ?_
        | refine CV.ret ?_
        | refine CV.scope ?_
        | refine CV.draw callees rfl ?_
        | refine CH.cons rfl ?_
        | refine CH.nil ?_
        | refine CO.consG rfl ?_
        | refine CH.consG rfl ?_
        | refine CG.cons rfl ?_
        | refine CG.nil ?_
        | refine CG.consG rfl ?_
        | refine ⟨(rfl : plain _ = true), ?_⟩
        | refine ⟨(rfl : nilOk _ = some _), ?_⟩
        | refine ⟨_, ints_len (by assumption), ?_⟩
        | refine ⟨_, ints_addr (by assumption) (by omega) (by omega), ?_⟩
        | refine ⟨_, ints_load (by assumption) (by omega) (by omega), ?_⟩
        | refine ⟨(⟨by omega, by omega⟩ : inI64 _), ?_⟩
        | refine ⟨_, fun tm ha => step1_max rfl (ev_tmp ha rfl) (ev_tmp ha rfl), ?_⟩
        | refine ⟨_, fun tm ha => step1_min rfl (ev_tmp ha rfl) (ev_tmp ha rfl), ?_⟩
        | refine ⟨_, _, build_one un22 one3 rfl, ?_⟩
        | (refine ⟨fun _ => ?_, fun _ => ?_⟩ <;> first | (exfalso; omega) | skip)
        | fail
      refine append_ask un22 one3 (by omega) ho hk.1 hn (by simp; omega) ?_
      intro o2 H2 ho2 kb2 hf2
      repeat' first
        | refine CO.cons rfl ?_
        | refine CO.nil ?_
        | refine CV.seq ?_
        | refine CV.region callees ?_
        | refine CV.cond ?_
        | refine CV.block ?_
        | refine CV.skip ?_
        | refine CV.exit ?_
        | refine CV.ret ?_
        | refine CV.scope ?_
        | refine CV.draw callees rfl ?_
        | refine CH.cons rfl ?_
        | refine CH.nil ?_
        | refine CO.consG rfl ?_
        | refine CH.consG rfl ?_
        | refine CG.cons rfl ?_
        | refine CG.nil ?_
        | refine CG.consG rfl ?_
        | refine ⟨(rfl : plain _ = true), ?_⟩
        | refine ⟨(rfl : nilOk _ = some _), ?_⟩
        | refine ⟨_, ints_len (by assumption), ?_⟩
        | refine ⟨_, ints_addr (by assumption) (by omega) (by omega), ?_⟩
        | refine ⟨_, ints_load (by assumption) (by omega) (by omega), ?_⟩
        | refine ⟨(⟨by omega, by omega⟩ : inI64 _), ?_⟩
        | refine ⟨_, fun tm ha => step1_max rfl (ev_tmp ha rfl) (ev_tmp ha rfl), ?_⟩
        | refine ⟨_, fun tm ha => step1_min rfl (ev_tmp ha rfl) (ev_tmp ha rfl), ?_⟩
        | (refine ⟨fun _ => ?_, fun _ => ?_⟩ <;> first | (exfalso; omega) | skip)
        | fail
      refine ⟨(o2, u, i + 1, met, out ++ [k]), (by repeat' first | exact trivial | refine ⟨rfl, ?_⟩), (by (try dsimp only); omega), ?_⟩
      have e : (i + 1).toNat = i.toNat + 1 := by omega
      refine ⟨by omega, by omega, by simp; omega, by omega, by simpa using ho2, hu.keepBut kb2 hap.symm, (hu.apartNew hf2).symm, kb2.keep hk (fun c hc => (ho.lt hc).1), ?_⟩
      rw [hnum, e, List.append_assoc, show ((k.toNat : Nat) : Int) = k by omega]; rfl
    · have hidx := idx_from (met := met) (x := xs[i.toNat]!) (k := k.toNat) (fun j hj => hg j (by omega)) (by omega) (.inl (by omega))
      rw [drop_cons (xs := xs) (n := i.toNat) (by omega), num_step hidx, if_pos (by omega)] at hnum
      repeat' first
        | refine CO.cons rfl ?_
        | refine CO.nil ?_
        | refine CV.seq ?_
        | refine CV.region callees ?_
        | refine CV.cond ?_
        | refine CV.block ?_
        | refine CV.skip ?_
        | refine CV.exit ?_
        | refine CV.ret ?_
        | refine CV.scope ?_
        | refine CV.draw callees rfl ?_
        | refine CH.cons rfl ?_
        | refine CH.nil ?_
        | refine CO.consG rfl ?_
        | refine CH.consG rfl ?_
        | refine CG.cons rfl ?_
        | refine CG.nil ?_
        | refine CG.consG rfl ?_
        | refine ⟨(rfl : plain _ = true), ?_⟩
        | refine ⟨(rfl : nilOk _ = some _), ?_⟩
        | refine ⟨_, ints_len (by assumption), ?_⟩
        | refine ⟨_, ints_addr (by assumption) (by omega) (by omega), ?_⟩
        | refine ⟨_, ints_load (by assumption) (by omega) (by omega), ?_⟩
        | refine ⟨(⟨by omega, by omega⟩ : inI64 _), ?_⟩
        | refine ⟨_, fun tm ha => step1_max rfl (ev_tmp ha rfl) (ev_tmp ha rfl), ?_⟩
        | refine ⟨_, fun tm ha => step1_min rfl (ev_tmp ha rfl) (ev_tmp ha rfl), ?_⟩
        | refine ⟨_, _, build_one un22 one3 rfl, ?_⟩
        | (refine ⟨fun _ => ?_, fun _ => ?_⟩ <;> first | (exfalso; omega) | skip)
        | fail
      refine append_ask un22 one3 (by omega) hu hk.1 hn (by simp; omega) ?_
      intro u1 H1 hu1 kb1 hf1
      have hk1' := kb1.keep hk (fun c hc => (hu.lt hc).1)
      have ho1 := ho.keepBut kb1 hap
      repeat' first
        | refine CO.cons rfl ?_
        | refine CO.nil ?_
        | refine CV.seq ?_
        | refine CV.region callees ?_
        | refine CV.cond ?_
        | refine CV.block ?_
        | refine CV.skip ?_
        | refine CV.exit ?_
        | refine CV.ret ?_
        | refine CV.scope ?_
        | refine CV.draw callees rfl ?_
        | refine CH.cons rfl ?_
        | refine CH.nil ?_
        | refine CO.consG rfl ?_
        | refine CH.consG rfl ?_
        | refine CG.cons rfl ?_
        | refine CG.nil ?_
        | refine CG.consG rfl ?_
        | refine ⟨(rfl : plain _ = true), ?_⟩
        | refine ⟨(rfl : nilOk _ = some _), ?_⟩
        | refine ⟨_, ints_len (by assumption), ?_⟩
        | refine ⟨_, ints_addr (by assumption) (by omega) (by omega), ?_⟩
        | refine ⟨_, ints_load (by assumption) (by omega) (by omega), ?_⟩
        | refine ⟨(⟨by omega, by omega⟩ : inI64 _), ?_⟩
        | refine ⟨_, fun tm ha => step1_max rfl (ev_tmp ha rfl) (ev_tmp ha rfl), ?_⟩
        | refine ⟨_, fun tm ha => step1_min rfl (ev_tmp ha rfl) (ev_tmp ha rfl), ?_⟩
        | refine ⟨_, _, build_one un22 one3 rfl, ?_⟩
        | (refine ⟨fun _ => ?_, fun _ => ?_⟩ <;> first | (exfalso; omega) | skip)
        | fail
      refine append_ask un22 one3 (by omega) ho1 hk1'.1 hn (by simp; omega) ?_
      intro o2 H2 ho2 kb2 hf2
      repeat' first
        | refine CO.cons rfl ?_
        | refine CO.nil ?_
        | refine CV.seq ?_
        | refine CV.region callees ?_
        | refine CV.cond ?_
        | refine CV.block ?_
        | refine CV.skip ?_
        | refine CV.exit ?_
        | refine CV.ret ?_
        | refine CV.scope ?_
        | refine CV.draw callees rfl ?_
        | refine CH.cons rfl ?_
        | refine CH.nil ?_
        | refine CO.consG rfl ?_
        | refine CH.consG rfl ?_
        | refine CG.cons rfl ?_
        | refine CG.nil ?_
        | refine CG.consG rfl ?_
        | refine ⟨(rfl : plain _ = true), ?_⟩
        | refine ⟨(rfl : nilOk _ = some _), ?_⟩
        | refine ⟨_, ints_len (by assumption), ?_⟩
        | refine ⟨_, ints_addr (by assumption) (by omega) (by omega), ?_⟩
        | refine ⟨_, ints_load (by assumption) (by omega) (by omega), ?_⟩
        | refine ⟨(⟨by omega, by omega⟩ : inI64 _), ?_⟩
        | refine ⟨_, fun tm ha => step1_max rfl (ev_tmp ha rfl) (ev_tmp ha rfl), ?_⟩
        | refine ⟨_, fun tm ha => step1_min rfl (ev_tmp ha rfl) (ev_tmp ha rfl), ?_⟩
        | (refine ⟨fun _ => ?_, fun _ => ?_⟩ <;> first | (exfalso; omega) | skip)
        | fail
      refine ⟨(o2, u1, i + 1, met ++ [xs[i.toNat]!], out ++ [k]), (by repeat' first | exact trivial | refine ⟨rfl, ?_⟩), (by (try dsimp only); omega), ?_⟩
      have e : (i + 1).toNat = i.toNat + 1 := by omega
      refine ⟨by omega, by omega, by simp; omega, by simp; omega, by simpa using ho2, ?_, (hu1.apartNew hf2).symm, kb2.keep hk1' (fun c hc => (ho1.lt hc).1), ?_⟩
      · have := hu1.keepBut kb2 (ho.apartNew hf1).symm
        simpa using this
      · rw [hnum, e, List.append_assoc, show ((k.toNat : Nat) : Int) = k by omega]; rfl
  · have : xs.drop i.toNat = [] := by simp at hi1 ⊢; omega
    rw [this, num, List.append_nil] at hnum
    rw [hnum]
    exact ⟨by simp only [List.all_cons, List.all_nil, ho.notTuple]; rfl, ho, hk⟩
end Go.Proofs.YtkfaiokiaahbaaaDoor


/- Partitions that are made of numbers; joins. -/
namespace Go.Proofs.YtkfaiokiaahbaaaDoor
open Go.AI
theorem Box.keepBut {b : Nat} {x : Value} {H H' : Heap} (h : Box b H) (k : KeepBut x H H') (hx : blkOf x ≠ some b) : Box b H' :=
  ⟨Nat.lt_of_lt_of_le h.1 k.le, by obtain ⟨w, hw⟩ := h.2; exact ⟨w, by rw [k.get b h.1 hx]; exact hw⟩⟩
theorem own_apartBox {b : Nat} {e : TypeId} {H H0 : Heap} {v : Value} {vs : List Value} {B : Nat} (h : Own e H v vs B) (hb : b < B) : blkOf v ≠ some b := fun hc => by have := (h.lt hc).1; omega
theorem own_box {e : TypeId} {H H' : Heap} {b : Nat} {v : Value} {vs : List Value} {B : Nat} (h : Own e H v vs B) (k : KeepX b H H') (hb : Box b H) : Own e H' v vs B := by
  obtain ⟨w, hw⟩ := hb.2; exact h.keepX k hw
theorem row_box {H H' : Heap} {b : Nat} {v : Value} {vs : List Value} (h : Row H v vs) (k : KeepX b H H') (hb : Box b H) : Row H' v vs := by
  obtain ⟨w, hw⟩ := hb.2; exact h.keepX k hw
theorem push_ask {H : Heap} {K : Value → Heap → Prop} {B B0 : Nat} {x : Value} {y : Int} {l : List Int} (hx : Own 3 H x (l.map VI) B0) (hB0 : B0 ≤ H.n) (hB : B ≤ B0) (hn : l.length < 1000000)
    (hk : ∀ r H', Own 3 H' r ((l ++ [y]).map VI) B0 → KeepBut x H H' → (∀ c, blkOf r = some c → H.n ≤ c) → K r H') :
    ∃ v H' b, aappend Tryd.prog (H.new (.cells [.int .i64 y] 3 2)) #[22, 22] x (.slice (some ⟨H.n, 0, none⟩) 1 0) = some (v, H', b) ∧ B ≤ b ∧ K v H' :=
  append_ask un22 one3 (by omega) hx hB0 hB (by simpa using hn) fun r H' h => hk r H' (by simpa using h)
theorem put_ask {H : Heap} {K : Heap → Prop} {B B0 : Nat} {x : Value} {y : Int} {l : List Int} {i : Nat} (hx : Own 3 H x (l.map VI) B0) (hB : B ≤ B0) (hi : i < l.length)
    (hk : ∀ H', Own 3 H' x ((l.set i y).map VI) B0 → KeepBut x H H' → K H') :
    ∃ H' b, astore Tryd.prog 3 H (.int .i64 y) (elemAt x i) = some (H', b) ∧ B ≤ b ∧ K H' :=
  store_ask sz3 hx hB (by simpa using hi) rfl fun H' h => hk H' (by rw [List.map_set]; exact h)

set_option maxRecDepth 100000 in
theorem refOf_spec {B : Nat} {v : Value} {H : Heap} {xs : List Int} (hB : B ≤ H.n) (hv : Ints H v xs) :
    CallB Tryd.prog B 27 [v] H (fun r H' => OfR H xs r H' ∧ Keep H H') := by
  refine CV.enter callees false rfl Tryd.func27 rfl ok27 (Nat.le_of_ble_eq_true rfl) hB ?_
  repeat' first
    | refine CO.cons rfl ?_
    | refine CO.nil ?_
    | refine CV.seq ?_
    | refine CV.region callees ?_
    | refine CV.cond ?_
    | refine CV.block ?_
    | refine CV.skip ?_
    | refine CV.exit ?_
    | refine CV.ret ?_
    | refine CV.scope ?_
    | refine CV.draw callees rfl ?_
    | refine CH.cons rfl ?_
    | refine CH.nil ?_
    | refine CO.consG rfl ?_
    | refine CH.consG rfl ?_
    | refine CG.cons rfl ?_
    | refine CG.nil ?_
    | refine CG.consG rfl ?_
    | refine ⟨(rfl : plain _ = true), ?_⟩
    | refine ⟨(rfl : nilOk _ = some _), ?_⟩
    | refine ⟨_, ints_len (by assumption), ?_⟩
    | refine ⟨_, ints_addr (by assumption) (by omega) (by omega), ?_⟩
    | refine ⟨_, ints_load (by assumption) (by omega) (by omega), ?_⟩
    | refine ⟨(⟨by omega, by omega⟩ : inI64 _), ?_⟩
    | refine ⟨_, fun tm ha => step1_max rfl (ev_tmp ha rfl) (ev_tmp ha rfl), ?_⟩
    | refine ⟨_, fun tm ha => step1_min rfl (ev_tmp ha rfl) (ev_tmp ha rfl), ?_⟩
    | (refine ⟨fun _ => ?_, fun _ => ?_⟩ <;> first | (exfalso; omega) | skip)
    | fail
  · refine ⟨rfl, ?_, Keep.refl _⟩
    rw [OfR, if_pos (by omega)]
  · refine ⟨rfl, ?_, Keep.refl _⟩
    rw [OfR, if_neg (by omega), if_pos (by omega)]
  refine (refof_spec hB hv (by omega)).mono ?_
  rintro r H' ⟨h3, h4⟩
  repeat' first
    | refine CO.cons rfl ?_
    | refine CO.nil ?_
    | refine CV.seq ?_
    | refine CV.region callees ?_
    | refine CV.cond ?_
    | refine CV.block ?_
    | refine CV.skip ?_
    | refine CV.exit ?_
    | refine CV.ret ?_
    | refine CV.scope ?_
    | refine CV.draw callees rfl ?_
    | refine CH.cons rfl ?_
    | refine CH.nil ?_
    | refine CO.consG rfl ?_
    | refine CH.consG rfl ?_
    | refine CG.cons rfl ?_
    | refine CG.nil ?_
    | refine CG.consG rfl ?_
    | refine ⟨(rfl : plain _ = true), ?_⟩
    | refine ⟨(rfl : nilOk _ = some _), ?_⟩
    | refine ⟨_, ints_len (by assumption), ?_⟩
    | refine ⟨_, ints_addr (by assumption) (by omega) (by omega), ?_⟩
    | refine ⟨_, ints_load (by assumption) (by omega) (by omega), ?_⟩
    | refine ⟨(⟨by omega, by omega⟩ : inI64 _), ?_⟩
    | refine ⟨_, fun tm ha => step1_max rfl (ev_tmp ha rfl) (ev_tmp ha rfl), ?_⟩
    | refine ⟨_, fun tm ha => step1_min rfl (ev_tmp ha rfl) (ev_tmp ha rfl), ?_⟩
    | (refine ⟨fun _ => ?_, fun _ => ?_⟩ <;> first | (exfalso; omega) | skip)
    | fail
  refine ⟨by simp only [List.all_cons, List.all_nil, h3.notTuple]; rfl, ?_, h4⟩
  rw [OfR, if_neg (by omega), if_neg (by omega)]
  exact ⟨r, rfl, h3⟩

set_option maxRecDepth 100000 in
theorem partitionOf_spec {B b : Nat} {H : Heap} {n : Int} (hB : B ≤ b) (hn : B ≤ H.n) (hb : Box b H) (h1 : 1 ≤ n) (h9 : n ≤ 9) :
    CallB Tryd.prog B 21 [bp b, .int .i64 n] H (fun r H' => (∃ xs : List Int, check xs = 0 ∧ xs.length = n ∧ Own 3 H' r (xs.map VI) H.n) ∧ Box b H' ∧ KeepX b H H') := by
  refine CV.enter callees false rfl Tryd.func21 rfl ok21 (Nat.le_of_ble_eq_true rfl) hn ?_
  repeat' first
    | refine CO.cons rfl ?_
    | refine CO.nil ?_
    | refine CV.seq ?_
    | refine CV.region callees ?_
    | refine CV.cond ?_
    | refine CV.block ?_
    | refine CV.skip ?_
    | refine CV.exit ?_
    | refine CV.ret ?_
    | refine CV.scope ?_
    | refine CV.draw callees rfl ?_
    | refine CH.cons rfl ?_
    | refine CH.nil ?_
    | refine CO.consG rfl ?_
    | refine CH.consG rfl ?_
    | refine CG.cons rfl ?_
    | refine CG.nil ?_
    | refine CG.consG rfl ?_
    | refine ⟨(rfl : plain _ = true), ?_⟩
    | refine ⟨(rfl : nilOk _ = some _), ?_⟩
    | refine ⟨_, ints_len (by assumption), ?_⟩
    | refine ⟨_, ints_addr (by assumption) (by omega) (by omega), ?_⟩
    | refine ⟨_, ints_load (by assumption) (by omega) (by omega), ?_⟩
    | refine ⟨(⟨by omega, by omega⟩ : inI64 _), ?_⟩
    | refine ⟨_, fun tm ha => step1_max rfl (ev_tmp ha rfl) (ev_tmp ha rfl), ?_⟩
    | refine ⟨_, fun tm ha => step1_min rfl (ev_tmp ha rfl) (ev_tmp ha rfl), ?_⟩
    | (refine ⟨fun _ => ?_, fun _ => ?_⟩ <;> first | (exfalso; omega) | skip)
    | fail
  refine (any_spec hB hn hb (by omega) h1 (by omega)).mono ?_
  rintro r H1 ⟨⟨m, rfl, hm0, hm1⟩, hb1, hk1⟩
  repeat' first
    | refine CO.cons rfl ?_
    | refine CO.nil ?_
    | refine CV.seq ?_
    | refine CV.region callees ?_
    | refine CV.cond ?_
    | refine CV.block ?_
    | refine CV.skip ?_
    | refine CV.exit ?_
    | refine CV.ret ?_
    | refine CV.scope ?_
    | refine CV.draw callees rfl ?_
    | refine CH.cons rfl ?_
    | refine CH.nil ?_
    | refine CO.consG rfl ?_
    | refine CH.consG rfl ?_
    | refine CG.cons rfl ?_
    | refine CG.nil ?_
    | refine CG.consG rfl ?_
    | refine ⟨(rfl : plain _ = true), ?_⟩
    | refine ⟨(rfl : nilOk _ = some _), ?_⟩
    | refine ⟨_, ints_len (by assumption), ?_⟩
    | refine ⟨_, ints_addr (by assumption) (by omega) (by omega), ?_⟩
    | refine ⟨_, ints_load (by assumption) (by omega) (by omega), ?_⟩
    | refine ⟨(⟨by omega, by omega⟩ : inI64 _), ?_⟩
    | refine ⟨_, fun tm ha => step1_max rfl (ev_tmp ha rfl) (ev_tmp ha rfl), ?_⟩
    | refine ⟨_, fun tm ha => step1_min rfl (ev_tmp ha rfl) (ev_tmp ha rfl), ?_⟩
    | (refine ⟨fun _ => ?_, fun _ => ?_⟩ <;> first | (exfalso; omega) | skip)
    | fail
  refine CV.loopc ?_
  refine WCv.rounds callees false (α := Value × Int × List Int) (fun (l, i, xs) => [(0, bp b), (1, .int .i64 n), (5, l), (6, .int .i64 m), (7, .int .i64 i)]) (fun (l, i, xs) Hz => 0 ≤ i ∧ i ≤ n ∧ xs.length = i ∧ Own 3 Hz l (xs.map VI) H.n ∧ Box b Hz ∧ KeepX b H Hz) (fun (l, i, xs) => (n - i).toNat) (.slice none 0 0, 0, []) (by repeat' first | exact trivial | refine ⟨rfl, ?_⟩) ?_ ?_
  · exact ⟨by omega, by omega, rfl, .inl ⟨rfl, rfl⟩, hb1, hk1⟩
  rintro ⟨l, i, xs⟩ Hx ⟨hi0, hi1, hlen, hl, hbx, hkx⟩ hBx
  repeat' first
    | refine CO.cons rfl ?_
    | refine CO.nil ?_
    | refine CV.seq ?_
    | refine CV.region callees ?_
    | refine CV.cond ?_
    | refine CV.block ?_
    | refine CV.skip ?_
    | refine CV.exit ?_
    | refine CV.ret ?_
    | refine CV.scope ?_
    | refine CV.draw callees rfl ?_
    | refine CH.cons rfl ?_
    | refine CH.nil ?_
    | refine CO.consG rfl ?_
    | refine CH.consG rfl ?_
    | refine CG.cons rfl ?_
    | refine CG.nil ?_
    | refine CG.consG rfl ?_
    | refine ⟨(rfl : plain _ = true), ?_⟩
    | refine ⟨(rfl : nilOk _ = some _), ?_⟩
    | refine ⟨_, ints_len (by assumption), ?_⟩
    | refine ⟨_, ints_addr (by assumption) (by omega) (by omega), ?_⟩
    | refine ⟨_, ints_load (by assumption) (by omega) (by omega), ?_⟩
    | refine ⟨(⟨by omega, by omega⟩ : inI64 _), ?_⟩
    | refine ⟨_, fun tm ha => step1_max rfl (ev_tmp ha rfl) (ev_tmp ha rfl), ?_⟩
    | refine ⟨_, fun tm ha => step1_min rfl (ev_tmp ha rfl) (ev_tmp ha rfl), ?_⟩
    | (refine ⟨fun _ => ?_, fun _ => ?_⟩ <;> first | (exfalso; omega) | skip)
    | fail
  · refine (up_spec hB hBx hbx (by omega)).mono ?_
    rintro r H2 ⟨⟨x, rfl, hx0, hx1⟩, hb2, hk2⟩
    have hl2 := own_box hl hk2 hbx
    have hkx2 := hkx.trans hk2
    repeat' first
      | refine CO.cons rfl ?_
      | refine CO.nil ?_
      | refine CV.seq ?_
      | refine CV.region callees ?_
      | refine CV.cond ?_
      | refine CV.block ?_
      | refine CV.skip ?_
      | refine CV.exit ?_
      | refine CV.ret ?_
      | refine CV.scope ?_
      | refine CV.draw callees rfl ?_
      | refine CH.cons rfl ?_
      | refine CH.nil ?_
      | refine CO.consG rfl ?_
      | refine CH.consG rfl ?_
      | refine CG.cons rfl ?_
      | refine CG.nil ?_
      | refine CG.consG rfl ?_
      | refine ⟨(rfl : plain _ = true), ?_⟩
      | refine ⟨(rfl : nilOk _ = some _), ?_⟩
      | refine ⟨_, ints_len (by assumption), ?_⟩
      | refine ⟨_, ints_addr (by assumption) (by omega) (by omega), ?_⟩
      | refine ⟨_, ints_load (by assumption) (by omega) (by omega), ?_⟩
      | refine ⟨(⟨by omega, by omega⟩ : inI64 _), ?_⟩
      | refine ⟨_, fun tm ha => step1_max rfl (ev_tmp ha rfl) (ev_tmp ha rfl), ?_⟩
      | refine ⟨_, fun tm ha => step1_min rfl (ev_tmp ha rfl) (ev_tmp ha rfl), ?_⟩
      | refine ⟨_, _, build_one un22 one3 rfl, ?_⟩
      | (refine ⟨fun _ => ?_, fun _ => ?_⟩ <;> first | (exfalso; omega) | skip)
      | fail
    refine push_ask hl2 hkx2.1 hn (by omega) ?_
    intro l3 H3 hl3 kb3 hf3
    repeat' first
      | refine CO.cons rfl ?_
      | refine CO.nil ?_
      | refine CV.seq ?_
      | refine CV.region callees ?_
      | refine CV.cond ?_
      | refine CV.block ?_
      | refine CV.skip ?_
      | refine CV.exit ?_
      | refine CV.ret ?_
      | refine CV.scope ?_
      | refine CV.draw callees rfl ?_
      | refine CH.cons rfl ?_
      | refine CH.nil ?_
      | refine CO.consG rfl ?_
      | refine CH.consG rfl ?_
      | refine CG.cons rfl ?_
      | refine CG.nil ?_
      | refine CG.consG rfl ?_
      | refine ⟨(rfl : plain _ = true), ?_⟩
      | refine ⟨(rfl : nilOk _ = some _), ?_⟩
      | refine ⟨_, ints_len (by assumption), ?_⟩
      | refine ⟨_, ints_addr (by assumption) (by omega) (by omega), ?_⟩
      | refine ⟨_, ints_load (by assumption) (by omega) (by omega), ?_⟩
      | refine ⟨(⟨by omega, by omega⟩ : inI64 _), ?_⟩
      | refine ⟨_, fun tm ha => step1_max rfl (ev_tmp ha rfl) (ev_tmp ha rfl), ?_⟩
      | refine ⟨_, fun tm ha => step1_min rfl (ev_tmp ha rfl) (ev_tmp ha rfl), ?_⟩
      | (refine ⟨fun _ => ?_, fun _ => ?_⟩ <;> first | (exfalso; omega) | skip)
      | fail
    refine ⟨(l3, i + 1, xs ++ [x]), (by repeat' first | exact trivial | refine ⟨rfl, ?_⟩), (by (try dsimp only); omega), ?_⟩
    exact ⟨by omega, by omega, by simp; omega, hl3, hb2.keepBut kb3 (own_apartBox (H0 := H) hl2 hb.1), kb3.keepX hkx2 fun c hc => (hl2.lt hc).1⟩
  · refine (refOf_spec hBx hl.row).mono ?_
    rintro r H2 ⟨hof, hk2⟩
    rw [OfR, if_neg (by omega), if_neg (by omega)] at hof
    obtain ⟨u, rfl, hu⟩ := hof
    repeat' first
      | refine CO.cons rfl ?_
      | refine CO.nil ?_
      | refine CV.seq ?_
      | refine CV.region callees ?_
      | refine CV.cond ?_
      | refine CV.block ?_
      | refine CV.skip ?_
      | refine CV.exit ?_
      | refine CV.ret ?_
      | refine CV.scope ?_
      | refine CV.draw callees rfl ?_
      | refine CH.cons rfl ?_
      | refine CH.nil ?_
      | refine CO.consG rfl ?_
      | refine CH.consG rfl ?_
      | refine CG.cons rfl ?_
      | refine CG.nil ?_
      | refine CG.consG rfl ?_
      | refine ⟨(rfl : plain _ = true), ?_⟩
      | refine ⟨(rfl : nilOk _ = some _), ?_⟩
      | refine ⟨_, ints_len (by assumption), ?_⟩
      | refine ⟨_, ints_addr (by assumption) (by omega) (by omega), ?_⟩
      | refine ⟨_, ints_load (by assumption) (by omega) (by omega), ?_⟩
      | refine ⟨(⟨by omega, by omega⟩ : inI64 _), ?_⟩
      | refine ⟨_, fun tm ha => step1_max rfl (ev_tmp ha rfl) (ev_tmp ha rfl), ?_⟩
      | refine ⟨_, fun tm ha => step1_min rfl (ev_tmp ha rfl) (ev_tmp ha rfl), ?_⟩
      | (refine ⟨fun _ => ?_, fun _ => ?_⟩ <;> first | (exfalso; omega) | skip)
      | fail
    refine ⟨by simp only [List.all_cons, List.all_nil, hu.notTuple]; rfl, ⟨num xs [], check_of (by omega) (by omega), by rw [num_length]; omega, ?_⟩, hbx.keep hk2, hkx.trans (hk2.butX b)⟩
    rcases hu with hu | ⟨c, h1, h2, h3, h4⟩
    · exact .inl hu
    · exact .inr ⟨c, h1, Nat.le_trans hkx.1 h2, h3, h4⟩
end Go.Proofs.YtkfaiokiaahbaaaDoor


/- Blocks, meets and joins. -/
namespace Go.Proofs.YtkfaiokiaahbaaaDoor
open Go.AI
theorem from_bound : ∀ (xs : List Int) (b : Int), checkFrom xs b = 0 → ∀ i, i < xs.length → 0 ≤ xs[i]! ∧ xs[i]! < 9
  | [], _, _, i, h => by simp at h
  | x :: r, b, h, i, hi => by
    rw [checkFrom] at h
    split at h
    · cases h
    split at h
    · cases h
    cases i with
    | zero => simp; omega
    | succ i => simpa using from_bound r _ h i (by simpa using hi)
theorem check_bound {xs : List Int} (h : check xs = 0) {i : Nat} (hi : i < xs.length) : 0 ≤ xs[i]! ∧ xs[i]! < 9 := from_bound xs 0 (check_from h).1 i hi
end Go.Proofs.YtkfaiokiaahbaaaDoor


/- Joins; three partitions. -/
namespace Go.Proofs.YtkfaiokiaahbaaaDoor
open Go.AI
/-- What holds while a list is joined: all pairs before a place have been seen to. -/
structure Joining (xs ys m : List Int) (i j : Int) : Prop where
  len : m.length = xs.length
  fine : Fine xs m
  least : ∀ t, Fine xs t → Fine ys t → Fine m t
  seen : ∀ a b : Nat, b < a → ((a : Int) < i ∨ ((a : Int) = i ∧ (b : Int) < j)) → ys[a]! = ys[b]! → m[a]! = m[b]!
theorem Joining.skip {xs ys m : List Int} {i j : Int} (h : Joining xs ys m i j) (hi : 0 ≤ i) (hj : 0 ≤ j) (hne : ¬ ys[i.toNat]! = ys[j.toNat]!) : Joining xs ys m i (j + 1) :=
  ⟨h.len, h.fine, h.least, fun a b hab hc he => by
    by_cases hb : (a : Int) < i ∨ ((a : Int) = i ∧ (b : Int) < j)
    · exact h.seen a b hab hb he
    · have h1 : a = i.toNat := by omega
      have h2 : b = j.toNat := by omega
      subst h1; subst h2; exact absurd he hne⟩
theorem Joining.next {xs ys m : List Int} {i j : Int} (h : Joining xs ys m i j) (hj : j = i) : Joining xs ys m (i + 1) 0 :=
  ⟨h.len, h.fine, h.least, fun a b hab hc he => h.seen a b hab (by omega) he⟩

end Go.Proofs.YtkfaiokiaahbaaaDoor


/- Three partitions. -/
namespace Go.Proofs.YtkfaiokiaahbaaaDoor
open Go.AI
/-- Three partitions of as many packets. -/
structure P3 (H : Heap) (u v w : Value) (n : Nat) (ps qs rs : List Int) : Prop where
  hu : Ints H u ps
  hv : Ints H v qs
  hw : Ints H w rs
  cp : check ps = 0
  cq : check qs = 0
  cr : check rs = 0
  lp : ps.length = n
  lq : qs.length = n
  lr : rs.length = n
  n1 : 1 ≤ n
  n8 : n ≤ 8

end Go.Proofs.YtkfaiokiaahbaaaDoor

