
/- Rows of structs that are made at once, and written whole. -/
import Derived.Test.YtlamceokhbigaaaQ1bg
set_option linter.unusedVariables false
set_option linter.unusedSimpArgs false
namespace Go.AI
end Go.AI
namespace Go.AI
end Go.AI
namespace Go.Proofs.Ytlamceokhbigaaa
open Go.AI
set_option maxRecDepth 100000 in
theorem pick_spec {B b : Nat} {H : Heap} {v : Value} {xs : List Int} (hB : B ≤ b) (hn : B ≤ H.n) (hb : Box b H) (hv : Ints H v xs) (h0 : 0 < xs.length) (h9 : xs.length ≤ 1000) :
    CallB Try.prog B 90 [bp b, v] H (fun r H' => (∃ i, i < xs.length ∧ r = .int .i64 xs[i]!) ∧ Box b H' ∧ KeepX b H H') := by
  refine CV.enter callees false rfl Try.func90 rfl (by kernel_rfl) (Nat.le_of_ble_eq_true rfl) hn ?_
  repeat' first
    | refine CO.cons rfl ?_
    | refine CO.nil ?_
    | refine CV.seq ?_
    | refine CV.region callees ?_
    | refine CV.cond ?_
    | refine CV.skip ?_
    | refine ⟨_, ints_len (by assumption), ?_⟩
    | (refine ⟨fun _ => ?_, fun _ => ?_⟩ <;> first | (exfalso; omega) | skip)
    | fail
  refine (up_spec hB hn hb (by omega)).mono ?_
  rintro r H2 ⟨⟨x, rfl, hx0, hx1⟩, hb2, hk2⟩
  have hv2 : Ints H2 v xs := row_box hv hk2 hb
  repeat' first
    | refine CO.cons rfl ?_
    | refine CO.nil ?_
    | refine CV.ret ?_
    | refine ⟨_, ints_addr (by assumption) (by omega) (by omega), ?_⟩
    | refine ⟨_, ints_load (by assumption) (by omega) (by omega), ?_⟩
    | fail
  exact ⟨rfl, ⟨x.toNat, by omega, rfl⟩, hb2, hk2⟩

end Go.Proofs.Ytlamceokhbigaaa

