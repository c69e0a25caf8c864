/- awake answers true: by the kernel, on the globals alone. -/
import Derived.Test.YteocbhefhobehaaDoorA0k
set_option linter.unusedVariables false
set_option linter.unusedSimpArgs false
namespace Go.Proofs.YteocbhefhobehaaDoor
open Go.AI

def isTrueB : Option Res → Nat → Bool
  | some (.bool true, _, lo), n => Nat.ble n lo
  | _, _ => false
theorem isTrueB_spec {r : Option Res} {n : Nat} (h : isTrueB r n = true) : ∃ H lo, r = some (.bool true, H, lo) ∧ n ≤ lo := by
  unfold isTrueB at h
  split at h
  · exact ⟨_, _, rfl, Nat.le_of_ble_eq_true h⟩
  · cases h
theorem awakeB : isTrueB (@call Tryd.prog (Oracle.none Tryd.prog) 3000 (.fn 19) [] (baseHeap globs)) 4 = true := by kernel_rfl
theorem awakeFound : found Tryd.prog globs 3000 19 (.bool true) := by
  obtain ⟨H, lo, h1, h2⟩ := isTrueB_spec awakeB
  exact ⟨H, lo, h1, by rw [base_n]; exact h2⟩
theorem rankedB : isTrueB (@call Tryd.prog (Oracle.none Tryd.prog) 3000 (.fn 68) [] (baseHeap globs)) 4 = true := by kernel_rfl
theorem rankedFound : found Tryd.prog globs 3000 68 (.bool true) := by
  obtain ⟨H, lo, h1, h2⟩ := isTrueB_spec rankedB
  exact ⟨H, lo, h1, by rw [base_n]; exact h2⟩
theorem latticedB : isTrueB (@call Tryd.prog (Oracle.none Tryd.prog) 3000 (.fn 69) [] (baseHeap globs)) 4 = true := by kernel_rfl
theorem latticedFound : found Tryd.prog globs 3000 69 (.bool true) := by
  obtain ⟨H, lo, h1, h2⟩ := isTrueB_spec latticedB
  exact ⟨H, lo, h1, by rw [base_n]; exact h2⟩
theorem drawnB : isTrueB (@call Tryd.prog (Oracle.none Tryd.prog) 3000 (.fn 70) [] (baseHeap globs)) 4 = true := by kernel_rfl
theorem drawnFound : found Tryd.prog globs 3000 70 (.bool true) := by
  obtain ⟨H, lo, h1, h2⟩ := isTrueB_spec drawnB
  exact ⟨H, lo, h1, by rw [base_n]; exact h2⟩
theorem namedB : isTrueB (@call Tryd.prog (Oracle.none Tryd.prog) 3000 (.fn 71) [] (baseHeap globs)) 4 = true := by kernel_rfl
theorem namedFound : found Tryd.prog globs 3000 71 (.bool true) := by
  obtain ⟨H, lo, h1, h2⟩ := isTrueB_spec namedB
  exact ⟨H, lo, h1, by rw [base_n]; exact h2⟩
def isTabB : Option Res → List Int → Nat → Bool
  | some (.agg cs, _, lo), l, n => Nat.ble n lo && ints cs.toList l
  | _, _, _ => false
where
  ints : List Value → List Int → Bool
  | [], [] => true
  | .int .i64 x :: r, y :: l => decide (x = y) && ints r l
  | _, _ => false
theorem ints_spec' : ∀ (vs : List Value) (l : List Int), isTabB.ints vs l = true → vs = l.map (Value.int .i64)
  | [], [], _ => rfl
  | [], _ :: _, h => by simp [isTabB.ints] at h
  | v :: r, [], h => by unfold isTabB.ints at h; split at h <;> simp_all
  | v :: r, y :: l, h => by
    unfold isTabB.ints at h
    split at h
    · rename_i h1 h2; cases h1
    · rename_i x r' y' l' h1 h2
      cases h1; cases h2
      simp only [Bool.and_eq_true, decide_eq_true_eq] at h
      rw [h.1, ints_spec' _ _ h.2]; rfl
    · cases h
theorem isTabB_spec {r : Option Res} {l : List Int} {n : Nat} (h : isTabB r l n = true) : ∃ H lo, r = some (tabV l, H, lo) ∧ n ≤ lo := by
  unfold isTabB at h
  split at h
  · rename_i cs H lo
    simp only [Bool.and_eq_true] at h
    refine ⟨H, lo, ?_, Nat.le_of_ble_eq_true h.1⟩
    have := ints_spec' _ _ h.2
    rw [tabV, ← this]
  · cases h
theorem endB : isTabB (@call Tryd.prog (Oracle.none Tryd.prog) 3000 (.fn 82) [] (baseHeap globs)) endT 4 = true := by kernel_rfl
theorem partB : isTabB (@call Tryd.prog (Oracle.none Tryd.prog) 3000 (.fn 84) [] (baseHeap globs)) partT 4 = true := by kernel_rfl
theorem endFound : found Tryd.prog globs 3000 82 (tabV endT) := by
  obtain ⟨H, lo, h1, h2⟩ := isTabB_spec endB
  exact ⟨H, lo, h1, by rw [base_n]; exact h2⟩
theorem partFound : found Tryd.prog globs 3000 84 (tabV partT) := by
  obtain ⟨H, lo, h1, h2⟩ := isTabB_spec partB
  exact ⟨H, lo, h1, by rw [base_n]; exact h2⟩
theorem tab_plain (l : List Int) : plain (tabV l) = true := by
  simp [plain, flat, tabV, scalar]
theorem mixed : Tryd.prog.follows .mixedOrders = true := by kernel_rfl
theorem nglobs : Tryd.prog.globals.size = 4 := by kernel_rfl
theorem oracleOK (B : Nat) : OracleOK Tryd.prog B := by
  intro f v hv H hb ρ w args k hR ha
  have hv' : (bif Nat.beq f 19 then some (Value.bool true) else bif Nat.beq f 68 then some (.bool true) else bif Nat.beq f 69 then some (.bool true) else bif Nat.beq f 70 then some (.bool true) else bif Nat.beq f 71 then some (.bool true) else bif Nat.beq f 82 then some (tabV endT) else bif Nat.beq f 84 then some (tabV partT) else none) = some v := hv
  cases h : Nat.beq f 19 with
  | true =>
    rw [h] at hv'
    obtain rfl := Nat.eq_of_beq_eq_true h
    obtain rfl := Option.some.inj hv'
    exact found_ok mixed (by rfl) (by rw [nglobs]; rfl) rfl awakeFound hb.2 k hR ha
  | false =>
    rw [h, cond_false] at hv'
    cases hranked : Nat.beq f 68 with
    | true =>
      rw [hranked] at hv'
      obtain rfl := Nat.eq_of_beq_eq_true hranked
      obtain rfl := Option.some.inj hv'
      exact found_ok mixed (by rfl) (by rw [nglobs]; rfl) rfl rankedFound hb.2 k hR ha
    | false =>
    rw [hranked, cond_false] at hv'
    cases hlatticed : Nat.beq f 69 with
    | true =>
      rw [hlatticed] at hv'
      obtain rfl := Nat.eq_of_beq_eq_true hlatticed
      obtain rfl := Option.some.inj hv'
      exact found_ok mixed (by rfl) (by rw [nglobs]; rfl) rfl latticedFound hb.2 k hR ha
    | false =>
    rw [hlatticed, cond_false] at hv'
    cases hdrawn : Nat.beq f 70 with
    | true =>
      rw [hdrawn] at hv'
      obtain rfl := Nat.eq_of_beq_eq_true hdrawn
      obtain rfl := Option.some.inj hv'
      exact found_ok mixed (by rfl) (by rw [nglobs]; rfl) rfl drawnFound hb.2 k hR ha
    | false =>
    rw [hdrawn, cond_false] at hv'
    cases hnamed : Nat.beq f 71 with
    | true =>
      rw [hnamed] at hv'
      obtain rfl := Nat.eq_of_beq_eq_true hnamed
      obtain rfl := Option.some.inj hv'
      exact found_ok mixed (by rfl) (by rw [nglobs]; rfl) rfl namedFound hb.2 k hR ha
    | false =>
    rw [hnamed, cond_false] at hv'
    cases h2 : Nat.beq f 82 with
    | true =>
      rw [h2] at hv'
      obtain rfl := Nat.eq_of_beq_eq_true h2
      obtain rfl := Option.some.inj hv'
      exact found_ok mixed (by rfl) (by rw [nglobs]; rfl) (tab_plain _) endFound hb.2 k hR ha
    | false =>
      rw [h2, cond_false] at hv'
      cases h3 : Nat.beq f 84 with
      | true =>
        rw [h3] at hv'
        obtain rfl := Nat.eq_of_beq_eq_true h3
        obtain rfl := Option.some.inj hv'
        exact found_ok mixed (by rfl) (by rw [nglobs]; rfl) (tab_plain _) partFound hb.2 k hR ha
      | false => rw [h3] at hv'; cases hv'
end Go.Proofs.YteocbhefhobehaaDoor
