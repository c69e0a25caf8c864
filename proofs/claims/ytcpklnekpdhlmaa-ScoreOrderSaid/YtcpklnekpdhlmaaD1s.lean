
/- Tables in variables; ranks. -/
import Derived.Test.YtcpklnekpdhlmaaB8s
import Derived.Test.YtcpklnekpdhlmaaX4
set_option linter.unusedVariables false
set_option linter.unusedSimpArgs false
namespace Go.AI
def zeroCells (P : Program) (t : TypeId) : Option (List Value) :=
  match (P.info? t).bind (·.zero) with
  | some z => bif z.cells.toList.all scalar then some z.cells.toList else none
  | none => none
theorem alloc_of {P : Program} {H : Heap} {t : TypeId} {l : List Value} (h : zeroCells P t = some l) : sAlloc P H t = some (.pointer (some ⟨H.n, 0, none⟩), H.new (.cells l t 1), H.n) := by
  unfold zeroCells at h
  unfold sAlloc
  split at h
  · rename_i z hz
    rw [hz]
    cases hc : z.cells.toList.all scalar with
    | true =>
      rw [hc] at h
      cases h
      simp only [hc, if_true]
      rfl
    | false => rw [hc] at h; cases h
  · cases h
theorem splice_all : ∀ (vs cs : List Value) (i : Nat), i + vs.length ≤ cs.length → splice cs i vs = cs.take i ++ vs ++ cs.drop (i + vs.length)
  | [], cs, i, _ => by simp [splice]
  | v :: vs, cs, i, h => by
    simp only [List.length_cons] at h
    rw [splice, splice_all vs (cs.set i v) (i + 1) (by rw [List.length_set]; omega)]
    have h1 : (cs.set i v).take (i + 1) = cs.take i ++ [v] := by
      apply List.ext_getElem
      · simp; omega
      · intro j h1 h2
        simp only [List.length_take, List.length_set] at h1
        rw [List.getElem_take, List.getElem_set, List.getElem_append]
        by_cases hj : j < i
        · rw [if_neg (by omega), dif_pos (by simp; omega), List.getElem_take]
        · have : j = i := by omega
          subst this
          rw [if_pos rfl, dif_neg (by rw [List.length_take]; omega)]
          simp
    rw [h1, List.drop_set_of_lt (by omega)]
    simp [Nat.add_assoc, Nat.add_comm 1]
theorem store_all {P : Program} {H : Heap} {t e : TypeId} {b k : Nat} {cs vs : List Value} (hb : H.get b = some (.cells cs e (k + 1))) (hl : cs.length = vs.length) (hs : sizeB P t = some vs.length) (ho : vs.all oneC = true) :
    astore P t H (.agg vs.toArray) (.pointer (some ⟨b, 0, none⟩)) = some (H.set b (.cells vs e (k + 1)), b) := by
  have h1 : (Value.agg vs.toArray).cells = vs.toArray := rfl
  simp only [astore, hb, h1, hs]
  rw [if_pos ⟨by simp, by simp; omega, rfl, by simpa using ho⟩, splice_all _ _ _ (by simp; omega)]
  simp only [List.take_zero, List.nil_append, Nat.zero_add]
  rw [List.drop_eq_nil_of_le (by omega), List.append_nil]
theorem array_addr {P : Program} {t e : TypeId} {len s : Nat} (ht : P.underlying t = some (.array len e)) (hs : sizeB P e = some s) {b i : Nat} {k : Int} {kd : IntKind} (h0 : 0 ≤ k) (h1 : k < len) :
    aindexAddr P t (.pointer (some ⟨b, i, none⟩)) (.int kd k) = some (.pointer (some ⟨b, i + k.toNat * s, none⟩)) := by
  simp [aindexAddr, asIdx, ht, hs, h0, h1]
theorem row_slice {P : Program} {H : Heap} {t e : TypeId} {v : Value} {vs : List Value} {i : Int} {kd : IntKind} (ht : P.underlying t = some (.slice e)) (hs : sizeB P e = some 1) (hv : Row H v vs) (h0 : 0 ≤ i) (h1 : i ≤ vs.length) :
    ∃ r, aslice P t v none (some (some (.int kd i))) = some r ∧ Row H r (vs.take i.toNat) := by
  rcases hv with ⟨rfl, rfl⟩ | ⟨rfl, rfl⟩ | ⟨b, o, c, cs, e', k, rfl, h2, h3, h4, h5, h6⟩
  · simp at h1
    have : i = 0 := by omega
    subst this
    exact ⟨.slice none 0 0, by simp [aslice, ht, hs, bound], .inl ⟨rfl, by simp⟩⟩
  · simp at h1
    have : i = 0 := by omega
    subst this
    exact ⟨anon, by simp [aslice, anon, ht, hs, bound], .inr (.inl ⟨rfl, by simp⟩)⟩
  · refine ⟨.slice (some ⟨b, o, none⟩) i.toNat c, by simp [aslice, ht, hs, bound, h0, h1], .inr (.inr ⟨b, o, c, cs, e', k, ?_, h2, h3, h4, ?_, ?_⟩)⟩
    · rw [List.length_take]; congr 1; omega
    · rw [List.length_take]; omega
    · intro j w hj
      rw [List.getElem?_take] at hj
      split at hj
      · exact h6 j w hj
      · cases hj
end Go.AI
namespace Go.Proofs.Ytcpklnekpdhlmaa
open Go.AI
theorem slice_ask {K : Value → Prop} {H : Heap} {v : Value} {xs : List Int} {i : Int} (hv : Ints H v xs) (h0 : 0 ≤ i) (h1 : i ≤ xs.length) (hk : ∀ r, Ints H r (xs.take i.toNat) → K r) :
    ∃ r, aslice Try.prog 22 v none (some (some (.int .i64 i))) = some r ∧ K r := by
  obtain ⟨r, h2, h3⟩ := row_slice (kd := .i64) un22 sz3 hv h0 (by simpa using h1)
  exact ⟨r, h2, hk r (by rw [← List.map_take] at h3; exact h3)⟩
/-- How many ways there are to go on. -/
def behM : Nat → Int → Int
  | 0, _ => 1
  | n + 1, b => b * behM n b + behM n (b + 1)
/-- The rank, from a place on. -/
def rkF : List Int → Int → Int
  | [], _ => 0
  | x :: r, b => x * behM r.length b + rkF r (max b (x + 1))
theorem mul_bound {x y : Int} (h0 : 0 ≤ x) (h1 : x ≤ 8) (h2 : 1 ≤ y) (h3 : y ≤ 21147) : 0 ≤ x * y ∧ x * y ≤ 8 * 21147 := ⟨Int.mul_nonneg h0 (by omega), Int.mul_le_mul h1 h3 (by omega) (by decide)⟩
def rankR (xs : List Int) : Int × Int := if check xs = 0 then (rkF xs 0, 0) else (0, check xs)
theorem from_step {x b : Int} {r : List Int} (h : checkFrom (x :: r) b = 0) : 0 ≤ x ∧ x ≤ 8 ∧ x ≤ b ∧ checkFrom r (max b (x + 1)) = 0 := by
  rw [checkFrom] at h
  split at h
  · cases h
  split at h
  · cases h
  exact ⟨by omega, by omega, by omega, h⟩

end Go.Proofs.Ytcpklnekpdhlmaa
