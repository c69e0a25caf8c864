
/- Touches as keys of a map. -/
import Derived.Test.YtglkphjjinmgmaaW0h
set_option linter.unusedVariables false
set_option linter.unusedSimpArgs false
namespace Go.Proofs.Ytglkphjjinmgmaa
open Go.AI
theorem eq_ints {t : TypeId} {k : IntKind} {a b : Int} {d : Nat} (ht : Try.prog.underlying t = some (.int k)) : pureRun Try.prog (Op.equalIn (d + 1) t (.int .i64 a) (.int .i64 b)) = some (a == b) := by
  rw [Op.equalIn, pureRun_bind, pureRun_underlying ht]
  simp
  rfl
theorem notHeldT : Try.prog.stoodInHeld 99 = false := by kernel_rfl
theorem partT0 {a b : Int} : pureRun Try.prog (part 3 #[Value.int IntKind.i64 a, Value.int IntKind.i64 b] 0) = some (.int .i64 a) := by kernel_rfl
theorem partT1 {a b : Int} : pureRun Try.prog (part 3 #[Value.int IntKind.i64 a, Value.int IntKind.i64 b] 1) = some (.int .i64 b) := by kernel_rfl
set_option maxRecDepth 100000 in
theorem eqT {a b c d : Int} : pureRun Try.prog (Op.equal 99 (.agg #[.int .i64 a, .int .i64 b]) (.agg #[.int .i64 c, .int .i64 d])) = some ((a == c) && (b == d)) := by
  unfold Op.equal
  rw [show Op.maxDepth = 9998 + 1 + 1 from rfl, Op.equalIn, pureRun_bind, pureRun_underlying Try.underlying99]
  simp only [Option.bind_some]
  rw [pureRun_bind, show pureRun Try.prog program = some Try.prog from rfl, Option.bind_some, if_neg (by rw [notHeldT]; simp), pureRun_bind, ← Array.forIn_toList]
  simp only [List.forIn_cons, List.forIn_nil]
  simp only [pureRun_bind]
  simp only [show ("A" ≠ "_") = True from by simp, show ("B" ≠ "_") = True from by simp, if_true, pureRun_bind, partT0, Option.bind_some, eq_ints un3]
  cases (a == c) with
  | false => rfl
  | true =>
    have hp : ∀ {α : Type} (x : α), pureRun Try.prog (pure x) = some x := fun _ => rfl
    simp only [Bool.not_true, Bool.false_eq_true, if_false, hp, Option.bind_some, pureRun_bind, partT1, eq_ints un3, Bool.true_and]
    cases (b == d) <;> rfl
theorem keysT_eq {a b : Int × Int} : pureRun Try.prog (Op.equal 99 (Hv a) (Hv b)) = some (decide (a = b)) := by
  refine eqT.trans (congrArg some ?_)
  cases a; cases b
  simp [Bool.decide_and]
  rfl
theorem keysT_bits {p : Int × Int} : Instr.sameBits 10000 (Hv p) (Hv p) = true := by
  rw [show (10000 : Nat) = 9999 + 1 from rfl]
  simp [Instr.sameBits]
theorem keysT_hash {p : Int × Int} (x : Bool) : (pureRun Try.prog (Instr.checkKey x 10000 99 (Hv p))).isSome = true := by
  cases x <;> kernel_rfl
/-- The map of times by touches. -/
abbrev ents (W : Int × Int → Int) (M : List (Int × Int)) : List (Value × Value) := M.map fun p => (Hv p, VJ (W p))
theorem findT {W : Int × Int → Int} {k : Int × Int} : ∀ (M : List (Int × Int)) (i : Nat),
    (k ∈ M → ∃ j, M[j]? = some k ∧ findQ Try.prog 99 (Hv k) (ents W M) i = some (some (i + j, VJ (W k)))) ∧ (k ∉ M → findQ Try.prog 99 (Hv k) (ents W M) i = some none)
  | [], i => ⟨fun h => (by cases h), fun _ => rfl⟩
  | x :: ks, i => by
    have ih := findT (W := W) (k := k) ks (i + 1)
    have he := keysT_eq (a := k) (b := x)
    have hf : findQ Try.prog 99 (Hv k) (ents W (x :: ks)) i = if k = x then some (some (i, VJ (W x))) else findQ Try.prog 99 (Hv k) (ents W ks) (i + 1) := by
      simp only [ents, List.map_cons, findQ, he]
      by_cases hkx : k = x
      · rw [if_pos hkx]; simp only [decide_eq_true hkx]
      · rw [if_neg hkx]; simp only [decide_eq_false hkx]
    refine ⟨fun hm => ?_, fun hm => ?_⟩
    · rw [hf]
      by_cases hkx : k = x
      · subst hkx; rw [if_pos rfl]; exact ⟨0, rfl, rfl⟩
      · rw [if_neg hkx]
        obtain ⟨j, h1, h2⟩ := ih.1 (by simpa [hkx] using hm)
        exact ⟨j + 1, by simpa using h1, by rw [h2, show i + 1 + j = i + (j + 1) by omega]⟩
    · rw [hf, if_neg (fun e => hm (by simp [e]))]
      exact ih.2 (fun e => hm (by simp [e]))
theorem unTM : Try.prog.underlying 143 = some (.map 99 3) := by kernel_rfl
theorem unTo : ∃ fs, Try.prog.underlying 99 = some (.struct fs) := ⟨_, Try.underlying99⟩
def addK (M : List (Int × Int)) (p : Int × Int) : List (Int × Int) := if p ∈ M then M else M ++ [p]
theorem mem_addK {M : List (Int × Int)} {p q : Int × Int} : q ∈ addK M p ↔ q ∈ M ∨ q = p := by
  unfold addK
  split
  · rename_i h
    exact ⟨.inl, fun h' => h'.elim id fun e => e ▸ h⟩
  · simp
theorem updT {H : Heap} {r : Nat} {W : Int × Int → Int} {M : List (Int × Int)} {k : Int × Int} (hg : H.get r = some (.map (ents W M))) :
    amapUpdate Try.prog H 143 (.map (some r)) (Hv k) (VJ (W k)) = some (H.set r (.map (ents W (addK M k))), r) := by
  obtain ⟨fs, hfs⟩ := unTo
  obtain ⟨h1, h2⟩ := findT (W := W) (k := k) M 0
  simp only [amapUpdate, unTM, hg, hfs]
  rw [if_pos ⟨by simp [plain, flat, scalar], rfl, keysT_hash _⟩]
  have hA : findA (.struct fs) (Hv k) (ents W M) 0 = none ∨ (M = [] ∧ findA (.struct fs) (Hv k) (ents W M) 0 = some none) := by
    cases M with
    | nil => exact .inr ⟨rfl, rfl⟩
    | cons x M => exact .inl rfl
  by_cases hm : k ∈ M
  · obtain ⟨j, h3, h4⟩ := h1 hm
    have hent : (ents W M)[j]? = some (Hv k, VJ (W k)) := by rw [List.getElem?_map, h3]; rfl
    have hb : bitsAt (ents W M) (0 + j) (Hv k) = true := by
      rw [Nat.zero_add]
      simp only [bitsAt, hent]
      exact keysT_bits
    rcases hA with hA | ⟨rfl, _⟩
    · rw [hA, h4]
      simp only [hb, if_true, addK, if_pos hm]
      obtain ⟨hj1, hj2⟩ := List.getElem?_eq_some_iff.1 hent
      have hset : (ents W M).set (0 + j) (Hv k, VJ (W k)) = ents W M := by
        rw [Nat.zero_add, ← hj2]; exact List.set_getElem_self hj1
      rw [hset]
    · cases hm
  · have e : ents W (addK M k) = ents W M ++ [(Hv k, VJ (W k))] := by simp [ents, addK, if_neg hm]
    rw [e]
    rcases hA with hA | ⟨_, hA⟩
    · rw [hA, h2 hm]
    · rw [hA]
end Go.Proofs.Ytglkphjjinmgmaa

