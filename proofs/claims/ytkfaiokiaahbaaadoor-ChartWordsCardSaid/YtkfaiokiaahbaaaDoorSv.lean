/- A slice of strings among the arguments of a call, and how it is seen. -/
import Derived.Test.YtkfaiokiaahbaaaDoorY9
import Derived.Test.YtkfaiokiaahbaaaDoorX4
import Derived.SliceStrings
set_option linter.unusedVariables false
set_option linter.unusedSimpArgs false
namespace Go.AI
open Go.RowKit
/-- A slice of the model whose cells name no memory, and how it is seen. -/
theorem seen_vals {w : World} {a : Option Addr} {len cap : Nat} {vs : List Value} (e : TypeId) (n : Nat) (hw : 0 < w.heap.size) (hsc : vs.all scalar = true)
    (h : (a = none ∧ len = 0 ∧ cap = 0 ∧ vs = []) ∨ ∃ x, a = some x ∧ len ≤ cap ∧ len ≤ vs.length ∧ (∀ i v, vs[i]? = some v → w.cell? (x.add i) = some v)) :
    ∃ (s : Seen) (v : Value), s.ent.blk < w.heap.size ∧ calm s.obj = true ∧ (∀ cs e k, s.obj = .cells cs e k → ∀ (i : Nat) v, cs[i]? = some v → w.cell? ⟨s.ent.blk, s.ent.base + i, none⟩ = some v) ∧
      (∀ ρ : Ren, ρ n = some s.ent → VT ρ v (.slice a len cap)) ∧ (∀ H : Heap, n < H.n → H.get n = some s.obj → Row H v (vs.take len)) := by
  rcases h with ⟨rfl, rfl, rfl, rfl⟩ | ⟨x, rfl, hl, hz, hcell⟩
  · exact ⟨⟨⟨0, 0, 0⟩, .gone⟩, .slice none 0 0, hw, rfl, (fun _ _ _ h => by cases h), fun ρ _ => .one (.cell (.same rfl)), fun H _ _ => .inl ⟨rfl, by simp⟩⟩
  · by_cases h0 : len = 0
    · subst h0
      exact ⟨⟨⟨0, 0, 0⟩, .gone⟩, anon, hw, rfl, (fun _ _ _ h => by cases h), fun ρ _ => .one (.cell (.anon _ _)), fun H _ _ => .inr (.inl ⟨rfl, by simp⟩)⟩
    · have hc := hcell 0 vs[0] (by simp)
      obtain ⟨b, off, spot⟩ := x
      have hspot : spot = none := by simpa [Addr.add] using World.cell?_spot hc
      subst hspot
      have hb : b < w.heap.size := by
        apply Classical.byContradiction
        intro hb
        have : w.heap[b]? = none := by simp; omega
        simp [World.cell?, Addr.add, this] at hc
      refine ⟨⟨⟨b, off, 0⟩, .cells (vs.take len) e 0⟩, .slice (some ⟨n, 0, none⟩) len 1, hb, ?_, ?_, ?_, ?_⟩
      · exact List.all_eq_true.2 fun v hv => List.all_eq_true.1 hsc v (List.mem_of_mem_take hv)
      · intro cs e k hcs i v hv
        cases hcs
        rw [List.getElem?_take] at hv
        split at hv
        · have := hcell i v hv
          by_cases hi0 : i = 0
          · subst hi0; simpa [Addr.add] using this
          · simpa [Addr.add, hi0] using this
        · cases hv
      · intro ρ hρ
        have := VC.sl (ρ := ρ) (b := n) (i := 0) (n := len) (c := 1) (c' := cap) hρ hl (by intro h; cases h)
        exact .one (.cell (by simpa using this))
      · intro H hn hg
        refine .inr (.inr ⟨n, 0, 1, _, e, 0, ?_, hn, hg, by simp, by simp, fun j w hj => by simpa using hj⟩)
        simp; omega
end Go.AI
namespace Go.Proofs.YtkfaiokiaahbaaaDoor
open Go.AI
theorem strs_list : ∀ ss : List ByteArray, ∃ ls : List (List Int), (∀ l ∈ ls, Bytes l) ∧ ss.map Value.string = ls.map VS ∧ ls.length = ss.length
  | [] => ⟨[], by simp, rfl, rfl⟩
  | s :: ss => by
    obtain ⟨ls, h1, h2, h3⟩ := strs_list ss
    obtain ⟨l, h4, h5⟩ := bytes_all s
    refine ⟨l :: ls, fun x hx => ?_, by rw [List.map_cons, List.map_cons, h2, h5], by simp [h3]⟩
    rcases List.mem_cons.1 hx with rfl | hx
    · exact h4
    · exact h1 x hx
theorem seen_strs {w : World} {a : Option Addr} {len cap : Nat} {ss : List ByteArray} {ls : List (List Int)} (n : Nat) (hw : 0 < w.heap.size) (hls : (ss.take len).map Value.string = ls.map VS)
    (h : (a = none ∧ len = 0 ∧ cap = 0 ∧ ss = []) ∨ ∃ x, a = some x ∧ len ≤ cap ∧ len ≤ ss.length ∧ (∀ i, i < ss.length → w.cell? (x.add i) = some (.string (ss.getD i ByteArray.empty)))) :
    ∃ (s : Seen) (v : Value), s.ent.blk < w.heap.size ∧ calm s.obj = true ∧ (∀ cs e k, s.obj = .cells cs e k → ∀ (i : Nat) v, cs[i]? = some v → w.cell? ⟨s.ent.blk, s.ent.base + i, none⟩ = some v) ∧
      (∀ ρ : Ren, ρ n = some s.ent → VT ρ v (.slice a len cap)) ∧ (∀ H : Heap, n < H.n → H.get n = some s.obj → Row H v (ls.map VS)) := by
  have := seen_vals (w := w) (a := a) (len := len) (cap := cap) (vs := ss.map Value.string) 9 n hw (by simp [scalar]) (by
    rcases h with ⟨h1, h2, h3, rfl⟩ | ⟨x, h1, h2, h3, h4⟩
    · exact .inl ⟨h1, h2, h3, rfl⟩
    · refine .inr ⟨x, h1, h2, by simpa using h3, fun i v hv => ?_⟩
      rw [List.getElem?_map] at hv
      cases hs : ss[i]? with
      | none => rw [hs] at hv; cases hv
      | some s =>
        rw [hs] at hv; cases hv
        have hlt := (List.getElem?_eq_some_iff.1 hs).1
        rw [h4 i hlt, List.getD_eq_getElem?_getD, hs]; rfl)
  rw [← List.map_take, hls] at this
  exact this
end Go.Proofs.YtkfaiokiaahbaaaDoor
