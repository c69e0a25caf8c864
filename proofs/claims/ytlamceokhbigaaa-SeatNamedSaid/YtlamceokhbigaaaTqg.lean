
/- All orders, as the reference lists them. -/
import Derived.Test.YtlamceokhbigaaaTog
set_option linter.unusedVariables false
set_option linter.unusedSimpArgs false
namespace Go.Proofs.Ytlamceokhbigaaa
open Go.AI
/-- A row of rows of ints. -/
structure LLs (H : Heap) (v : Value) (vs : List Value) (ls : List (List Int)) (B C : Nat) : Prop where
  own : Own 26 H v vs B
  len : vs.length = ls.length
  at' : ∀ i, i < ls.length → Own 3 H vs[i]! (ls[i]!.map VI) C
theorem own_apart {H : Heap} {v x : Value} {xs vs : List Value} {B C : Nat} (h : Own 3 H v xs B) (hx : Own 26 H x vs C) : ∀ c, blkOf v = some c → blkOf x ≠ some c := by
  intro c h1 h2
  rcases h with ⟨rfl, _⟩ | ⟨b, rfl, _, _, h4⟩
  · cases h1
  · rcases hx with ⟨rfl, _⟩ | ⟨b', rfl, _, _, g4⟩
    · cases h2
    · cases h1
      cases h2
      rw [h4] at g4
      cases g4
theorem LLs.keep {H H' : Heap} {v : Value} {vs : List Value} {ls : List (List Int)} {B C : Nat} (h : LLs H v vs ls B C) (k : Keep H H') : LLs H' v vs ls B C := ⟨Own.keep h.own k, h.len, fun i hi => Own.keep (h.at' i hi) k⟩
end Go.Proofs.Ytlamceokhbigaaa

