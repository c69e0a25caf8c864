
/- StoreChains. -/
import Derived.Test.Ytijimplcjaeneaam3o
import Derived.Test.Ytijimplcjaeneaah2o
import Derived.Test.Ytijimplcjaeneaai7o
import Derived.Test.Ytijimplcjaeneaai9o
import Derived.Test.Ytijimplcjaeneaaj1o
import Derived.Test.YtijimplcjaeneaaO5
import Derived.Test.Ytijimplcjaeneaacbo
set_option linter.unusedVariables false
set_option linter.unusedSimpArgs false
namespace Go.Proofs.Ytijimplcjaeneaa
open Go.AI
theorem unCs : Try.prog.underlying 37 = some (.slice 26) := by kernel_rfl
theorem boxLk {H : Heap} {p : Lk} {e : TypeId} : anew H (Value.cells (Lkv p)).toList e 1 = H.new (.cells (Lkl p) e 1) := rfl
theorem same_lk {p : Lk} : sameFix (Lkv p) (Lkv p) = true := by simp [sameFix, sameFixL, sameFix1]
theorem rowS_sl {s : Nat} {H : Heap} {v : Value} {rs : List (List Value)} (h : RowS s H v rs) : ∃ x n c, v = .slice x n c := by
  rcases h.2 with ⟨rfl, _⟩ | ⟨⟨x, n, c, rfl⟩, _⟩ | ⟨b, o, c, cs, e, k, rfl, _⟩
  · exact ⟨_, _, _, rfl⟩
  · exact ⟨_, _, _, rfl⟩
  · exact ⟨_, _, _, rfl⟩
set_option maxRecDepth 100000 in
theorem many_spec {B : Nat} {H : Heap} {mk lo hh : Int} {sv : Value} {ls : List Lk} (hB : B ≤ H.n) (hr : RowS 4 H sv (ls.map Lkl)) :
    CallB Try.prog B 15 [Chv mk lo hh sv] H (fun v H' => (v = .bool true ∨ v = .bool false ∧ ls.length ≤ 20) ∧ Keep H H') := by
  refine CV.enter callees false rfl Try.func15 rfl (by kernel_rfl) (Nat.le_of_ble_eq_true rfl) hB ?_
  repeat' first
    | refine CO.cons rfl ?_
    | refine CV.seq ?_
    | refine CV.region callees ?_
    | fail
  refine ⟨(by simp only [notTuple]), ?_⟩
  rw [boxCh hr.cells.1]
  generalize hs0 : Heap.new H _ = H0
  have hg0 := new_get hs0
  have k0 := new_keep hs0
  have n0 := new_n hs0
  obtain ⟨b0, hbn0⟩ : ∃ b, Heap.n H = b := ⟨_, rfl⟩
  rw [hbn0] at hg0 n0 ⊢
  have hr0 := hr.keep k0
  by_cases h : 20 < ls.length
  · repeat' first
      | refine CO.cons rfl ?_
      | refine CO.nil ?_
      | refine CV.seq ?_
      | refine CV.region callees ?_
      | refine CV.ret ?_
      | (refine ⟨_, fS foC2 (by decide), ?_⟩)
      | (refine ⟨_, cell_load agLs hg0 rfl, ?_⟩)
      | (refine ⟨_, ls_len hr0, ?_⟩)
      | (refine ⟨fun _ => ?_, fun _ => ?_⟩ <;> first | (exfalso; omega) | skip)
      | fail
    refine ⟨rfl, ?_, k0⟩
    exact .inl rfl
  · repeat' first
      | refine CO.cons rfl ?_
      | refine CO.nil ?_
      | refine CV.seq ?_
      | refine CV.region callees ?_
      | refine CV.ret ?_
      | (refine ⟨_, fS foC2 (by decide), ?_⟩)
      | (refine ⟨_, cell_load agLs hg0 rfl, ?_⟩)
      | (refine ⟨_, ls_len hr0, ?_⟩)
      | (refine ⟨fun _ => ?_, fun _ => ?_⟩ <;> first | (exfalso; omega) | skip)
      | fail
    refine ⟨rfl, ?_, k0⟩
    exact .inr ⟨rfl, by omega⟩
end Go.Proofs.Ytijimplcjaeneaa

