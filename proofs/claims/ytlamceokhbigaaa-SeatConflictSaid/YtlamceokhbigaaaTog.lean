
/- Comparing orders; lists of lists; the reference's orders. -/
import Derived.Test.YtlamceokhbigaaaTng
set_option linter.unusedVariables false
set_option linter.unusedSimpArgs false
namespace Go.AI
section
variable {P : Program} {H : Heap} {t e : TypeId} {z : Value} {by' : Nat}
/-- All of a row behind a row of one's own. -/
theorem append_all_ask {K : Value → Heap → Prop} {B B0 : Nat} {x y : Value} {vs ws : List Value} (ht : P.underlying t = some (.slice e)) (h1 : oneBB P e = some (z, by')) (hb : by' ≤ 1000) (hx : Own e H x vs B0) (hy : Row H y ws) (hB0 : B0 ≤ H.n) (hB : B ≤ B0) (hn : vs.length + ws.length < 1000000)
    (hk : ∀ r H', Own e H' r (vs ++ ws) B0 → KeepBut x H H' → K r H') : ∃ v H' b, aappend P H #[t, t] x y = some (v, H', b) ∧ B ≤ b ∧ K v H' := by
  obtain ⟨info, hi, hz, hs, hc, hsc, hby⟩ := oneBB_spec h1
  have hy' := hy.source
  have hmul : (vs.length + ws.length) * info.bytes ≤ 1000000 * 1000 := Nat.mul_le_mul (by omega) (by omega)
  rcases hx with ⟨rfl, rfl⟩ | ⟨b, rfl, h2, h3, h4⟩
  · by_cases h0 : ws = []
    · subst h0
      refine ⟨.slice none 0 0, H, H.n, ?_, by omega, hk _ _ (.inl ⟨rfl, rfl⟩) (KeepBut.refl _ _)⟩
      simp only [aappend, ht, hi, hz, hc, hs, hy']
      rw [if_neg (by simp), if_neg (by simp)]
      rfl
    · have hl : ¬ ws.length = 0 := fun h => h0 (List.length_eq_zero_iff.1 h)
      rw [List.length_nil, Nat.zero_add] at hmul
      refine ⟨.slice (some ⟨H.n, 0, none⟩) ws.length 0, H.new (.cells ws e 2), H.n, ?_, by omega, hk _ _ (.inr ⟨H.n, by simp, hB0, Nat.lt_succ_self _, by rw [List.nil_append]; exact Heap.get_new_eq _ _⟩) ⟨Nat.le_succ _, fun c hc _ => Heap.get_new_ne _ _ (by omega)⟩⟩
      simp only [aappend, ht, hi, hz, hc, hs, hy']
      rw [if_neg (by simp), if_neg (by simp), if_neg hl, if_pos ⟨by show ws.length ≤ 9223372036854775807; simp at hn; omega, by omega⟩]
      rfl
  · by_cases h0 : ws = []
    · subst h0
      refine ⟨_, H, H.n, ?_, by omega, hk _ _ (.inr ⟨b, rfl, h2, h3, by rw [List.append_nil]; exact h4⟩) (KeepBut.refl _ _)⟩
      simp only [aappend, ht, hi, hz, hc, hs, hy']
      rw [if_neg (by simp), if_neg (by simp)]
      simp
    · have hl : ¬ ws.length = 0 := fun h => h0 (List.length_eq_zero_iff.1 h)
      refine ⟨.slice (some ⟨H.n, 0, none⟩) (vs.length + ws.length) 0, (H.set b .gone).new (.cells (vs ++ ws) e 2), b, ?_, Nat.le_trans hB h2, hk _ _ (.inr ⟨H.n, by simp, hB0, Nat.lt_succ_self _, Heap.get_new_eq _ _⟩) ⟨Nat.le_succ _, fun c hc hne => ?_⟩⟩
      · simp only [aappend, ht, hi, hz, hc, hs, hy', h4]
        rw [if_neg (by simp), if_neg (by simp), if_neg hl, if_neg (by simp)]
        rw [if_pos ⟨trivial, by simp, by show vs.length + ws.length ≤ 9223372036854775807; omega, by omega⟩]
        rfl
      · have hne' : b ≠ c := fun h => hne (by rw [h]; rfl)
        rw [Heap.get_new_ne _ _ (by show c ≠ H.n; omega), Heap.get_set_ne _ _ hne']
end
end Go.AI
namespace Go.Proofs.Ytlamceokhbigaaa
open Go.AI
/-- Which of two lists comes first. -/
def befL : List Int → List Int → Bool
  | x :: a, y :: b => if x = y then befL a b else decide (x < y)
  | _, _ => false
theorem drop_at {a : List Int} {i : Nat} (h : i < a.length) : a.drop i = a[i]! :: a.drop (i + 1) := by
  rw [List.drop_eq_getElem_cons h, getElem!_pos a i h]
theorem befL_self : ∀ {a : List Int}, befL a a = false
  | [] => rfl
  | x :: a => by
    show (if x = x then befL a a else decide (x < x)) = false
    rw [if_pos rfl]
    exact befL_self
end Go.Proofs.Ytlamceokhbigaaa

