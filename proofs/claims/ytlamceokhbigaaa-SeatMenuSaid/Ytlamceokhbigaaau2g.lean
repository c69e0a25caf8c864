
/- Who is invited. -/
import Derived.Test.Ytlamceokhbigaaau1g
set_option linter.unusedVariables false
set_option linter.unusedSimpArgs false
namespace Go.Proofs.Ytlamceokhbigaaa
open Go.AI
set_option maxRecDepth 100000 in
theorem checkKnown_spec {B : Nat} {H : Heap} {v : Value} {gs : List Gu} (hB : B ≤ H.n) (hv : RowS 5 H v (gs.map Gul)) (hl : gs.length ≤ 10) (h : GsOk gs) :
    CallB Try.prog B 130 [v] H (fun r H' => r = VI 0 ∧ Keep H H') := by
  refine CV.enter callees false rfl Try.func130 rfl (by kernel_rfl) (Nat.le_of_ble_eq_true rfl) hB ?_
  repeat' first
    | refine CO.cons rfl ?_
    | refine CO.nil ?_
    | refine CV.seq ?_
    | refine CV.region callees ?_
    | refine CV.cond ?_
    | refine CV.skip ?_
    | (refine ⟨_, gs_len hv, ?_⟩)
    | (refine ⟨fun _ => ?_, fun _ => ?_⟩ <;> first | (exfalso; omega) | skip)
    | fail
  refine (checkGuests_spec (by omega) hv hl h).mono ?_
  rintro r H1 ⟨rfl, k1⟩
  repeat' first
    | refine CO.cons rfl ?_
    | refine CO.nil ?_
    | refine CV.ret ?_
    | fail
  exact ⟨rfl, rfl, k1⟩
set_option maxRecDepth 100000 in
theorem sum2_spec {B : Nat} {H : Heap} {v : Value} {xs : List Int} (hB : B ≤ H.n) (hv : Ints H v xs) (hx : ∀ x ∈ xs, 0 ≤ x ∧ x ≤ 1000) (hl : xs.length ≤ 100) :
    CallB Try.prog B 121 [v] H (fun r H' => r = VI (sumI xs) ∧ H' = H) := by
  refine CV.enter callees false rfl Try.func121 rfl (by kernel_rfl) (Nat.le_of_ble_eq_true rfl) hB ?_
  repeat' first
    | refine CO.cons rfl ?_
    | refine CO.nil ?_
    | refine CV.seq ?_
    | refine CV.region callees ?_
    | refine CV.block ?_
    | refine ⟨_, ints_len (by assumption), ?_⟩
    | fail
  refine CV.loopc ?_
  refine WCv.rounds callees false (α := Nat × Int) (fun (i, s) => [(3, VI s), (6, v), (7, VI xs.length), (8, VI i)]) (fun (i, s) Hz => i ≤ xs.length ∧ s = sumI (xs.take i) ∧ Hz = H) (fun (i, s) => xs.length - i) (0, 0) (by repeat' first | exact trivial | refine ⟨rfl, ?_⟩ | refine ⟨slot_int (by (try simp only [Int.toNat_natCast]); omega), ?_⟩) ?_ ?_
  · exact ⟨by omega, rfl, rfl⟩
  rintro ⟨i, s⟩ Hx ⟨hi, rfl, rfl⟩ hBx
  by_cases hi2 : i < xs.length
  · have hxi : xs[(i : Int).toNat]! = xs[i]! := rfl
    have b1 := sumI_bd (c := 1000) (by decide) (l := xs.take i) fun x hm => hx x (List.mem_of_mem_take hm)
    rw [List.length_take] at b1
    have b2 := hx xs[i]! (by rw [getElem!_pos xs i hi2]; exact List.getElem_mem _)
    repeat' first
      | refine CO.cons rfl ?_
      | refine CO.nil ?_
      | refine CV.seq ?_
      | refine CV.region callees ?_
      | refine CV.cond ?_
      | refine CV.block ?_
      | refine CV.skip ?_
      | refine ⟨_, ints_addr (by assumption) (by omega) (by omega), ?_⟩
      | refine ⟨_, ints_load (by assumption) (by omega) (by omega), ?_⟩
      | refine ⟨(⟨by omega, by omega⟩ : inI64 _), ?_⟩
      | (refine ⟨fun _ => ?_, fun _ => ?_⟩ <;> first | (exfalso; omega) | skip)
      | fail
    refine ⟨(i + 1, sumI (xs.take i) + xs[i]!), (by repeat' first | exact trivial | refine ⟨rfl, ?_⟩ | refine ⟨slot_int (by (try simp only [Int.toNat_natCast]); omega), ?_⟩), (by (try dsimp only); omega), ?_⟩
    exact ⟨by omega, by rw [one_at hi2, sumI_app], rfl⟩
  obtain rfl : i = xs.length := by omega
  repeat' first
    | refine CO.cons rfl ?_
    | refine CO.nil ?_
    | refine CV.seq ?_
    | refine CV.region callees ?_
    | refine CV.cond ?_
    | refine CV.exit ?_
    | refine CV.ret ?_
    | (refine ⟨fun _ => ?_, fun _ => ?_⟩ <;> first | (exfalso; omega) | skip)
    | fail
  exact ⟨rfl, by rw [List.take_length], rfl⟩
end Go.Proofs.Ytlamceokhbigaaa

