
/- The map of ways by blocks. -/
import Derived.Test.YtlpkbcgdcimglaaRad
set_option linter.unusedVariables false
set_option linter.unusedSimpArgs false
namespace Go.Proofs.Ytlpkbcgdcimglaa
open Go.AI
set_option linter.unusedVariables false
set_option linter.unusedSimpArgs false
theorem keys_eq {a b : List Int} (ha : a ∈ keysB) (hb : b ∈ keysB) : pureRun Try.prog (Op.equal 96 (Dv a) (Dv b)) = some (decide (a = b)) := by
  have h := List.all_eq_true.1 keys_same a ha
  rw [Bool.and_eq_true] at h
  have h := List.all_eq_true.1 h.2 b hb
  unfold sameB at h
  split at h
  · rename_i x hx
    rw [hx, beq_iff_eq.1 h]
  · cases h
theorem keys_hash {a : List Int} (ha : a ∈ keysB) (x : Bool) : (pureRun Try.prog (Instr.checkKey x 10000 96 (Dv a))).isSome = true := by
  have h := List.all_eq_true.1 keys_same a ha
  rw [Bool.and_eq_true] at h
  have h := h.1
  rw [hashB, Bool.and_eq_true] at h
  cases x
  · exact h.1
  · exact h.2
theorem keys_mem {n r : Nat} (h1 : 1 ≤ n) (h6 : n ≤ 6) (hr : r < (cntR n).1.toNat) : blocksN (unL n r) ∈ keysB := by
  have h := List.all_eq_true.1 keys_in n (List.mem_range.2 (by omega))
  rw [Bool.or_eq_true] at h
  rcases h with h | h
  · have := Nat.eq_of_beq_eq_true h; omega
  · have h := List.all_eq_true.1 h r (List.mem_range.2 hr)
    obtain ⟨k, hk, he⟩ := List.any_eq_true.1 h
    rw [← beq_iff_eq.1 he]; exact hk
abbrev entB (W : List Int → Int) (ks : List (List Int)) : List (Value × Value) := ks.map fun k => (Dv k, VI (W k))
theorem find_key {W : List Int → Int} {k : List Int} (hk : k ∈ keysB) : ∀ (ks : List (List Int)) (i : Nat), (∀ x ∈ ks, x ∈ keysB) →
    (k ∈ ks → ∃ j, findQ Try.prog 96 (Dv k) (entB W ks) i = some (some (j, VI (W k)))) ∧ (k ∉ ks → findQ Try.prog 96 (Dv k) (entB W ks) i = some none)
  | [], i, _ => ⟨fun h => (by cases h), fun _ => rfl⟩
  | x :: ks, i, h => by
    have ih := find_key (W := W) hk ks (i + 1) fun y hy => h y (by simp [hy])
    have he := keys_eq hk (h x (by simp))
    have hf : findQ Try.prog 96 (Dv k) (entB W (x :: ks)) i = if k = x then some (some (i, VI (W x))) else findQ Try.prog 96 (Dv k) (entB W ks) (i + 1) := by
      simp only [entB, List.map_cons, findQ, he]
      by_cases hkx : k = x
      · rw [if_pos hkx]; simp only [decide_eq_true hkx]
      · rw [if_neg hkx]; simp only [decide_eq_false hkx]
    refine ⟨fun hm => ?_, fun hm => ?_⟩
    · rw [hf]
      by_cases hkx : k = x
      · subst hkx; rw [if_pos rfl]; exact ⟨i, rfl⟩
      · rw [if_neg hkx]
        exact ih.1 (by simpa [hkx] using hm)
    · rw [hf, if_neg (fun e => hm (by simp [e]))]
      exact ih.2 (fun e => hm (by simp [e]))
theorem findA_none {k x : List Int} {kd : TypeDesc} {v : Value} {es : List (Value × Value)} {i : Nat} (hk : kd = .array 9 3) : findA kd (Dv k) ((Dv x, v) :: es) i = none := by
  subst hk; rfl
theorem unMB : Try.prog.underlying 138 = some (.map 96 3) := by kernel_rfl
theorem zero3 : (Try.prog.info? 3).bind (·.zero) = some (VI 0) := by kernel_rfl
theorem find_both {W : List Int → Int} {k : List Int} (hk : k ∈ keysB) (ks : List (List Int)) (hks : ∀ x ∈ ks, x ∈ keysB) :
    (k ∉ ks → findA (.array 9 3) (Dv k) (entB W ks) 0 = some none ∨ findA (.array 9 3) (Dv k) (entB W ks) 0 = none ∧ findQ Try.prog 96 (Dv k) (entB W ks) 0 = some none) ∧
    (k ∈ ks → findA (.array 9 3) (Dv k) (entB W ks) 0 = none ∧ ∃ j, findQ Try.prog 96 (Dv k) (entB W ks) 0 = some (some (j, VI (W k)))) := by
  have h := find_key (W := W) hk ks 0 hks
  cases ks with
  | nil => exact ⟨fun _ => .inl rfl, fun hm => (by cases hm)⟩
  | cons x ks => exact ⟨fun hm => .inr ⟨findA_none rfl, h.2 hm⟩, fun hm => ⟨findA_none rfl, h.1 hm⟩⟩
theorem lookupB {H : Heap} {r : Nat} {W : List Int → Int} {ks : List (List Int)} {k : List Int} (hk : k ∈ keysB) (hks : ∀ x ∈ ks, x ∈ keysB) (hg : H.get r = some (.map (entB W ks))) :
    (k ∈ ks → alookup Try.prog H 138 (.map (some r)) (Dv k) true = some (.tuple #[VI (W k), .bool true])) ∧ (k ∉ ks → alookup Try.prog H 138 (.map (some r)) (Dv k) true = some (.tuple #[VI 0, .bool false])) := by
  obtain ⟨h1, h2⟩ := find_both (W := W) hk ks hks
  refine ⟨fun hm => ?_, fun hm => ?_⟩
  · obtain ⟨h3, j, h4⟩ := h2 hm
    simp only [alookup, unMB, amap, hg, unD, zero3]
    rw [if_pos ⟨tab_plain k, rfl, rfl, keys_hash hk _⟩, h3, h4]
    rfl
  · simp only [alookup, unMB, amap, hg, unD, zero3]
    rw [if_pos ⟨tab_plain k, rfl, rfl, keys_hash hk _⟩]
    rcases h1 hm with h3 | ⟨h3, h4⟩
    · rw [h3]; rfl
    · rw [h3, h4]; rfl
theorem updateB {H : Heap} {r : Nat} {W : List Int → Int} {ks : List (List Int)} {k : List Int} (hk : k ∈ keysB) (hks : ∀ x ∈ ks, x ∈ keysB) (hg : H.get r = some (.map (entB W ks))) (hm : k ∉ ks) :
    amapUpdate Try.prog H 138 (.map (some r)) (Dv k) (VI (W k)) = some (H.set r (.map (entB W (ks ++ [k]))), r) := by
  obtain ⟨h1, h2⟩ := find_both (W := W) hk ks hks
  have e : entB W (ks ++ [k]) = entB W ks ++ [(Dv k, VI (W k))] := by simp [entB]
  rw [e]
  simp only [amapUpdate, unMB, hg, unD]
  rw [if_pos ⟨tab_plain k, rfl, keys_hash hk _⟩]
  rcases h1 hm with h3 | ⟨h3, h4⟩
  · rw [h3]
  · rw [h3, h4]
end Go.Proofs.Ytlpkbcgdcimglaa
