
/- HearthEnds. -/
import Derived.Test.YtglkphjjinmgmaaWoh
import Derived.Test.YtglkphjjinmgmaaWqh
set_option linter.unusedVariables false
set_option linter.unusedSimpArgs false
namespace Go.Proofs.Ytglkphjjinmgmaa
open Go.AI
theorem own_oneC {e : TypeId} {H : Heap} {v : Value} {vs : List Value} {B : Nat} (h : Own e H v vs B) : AI.oneC v = true := by
  rcases h with ⟨rfl, _⟩ | ⟨_, rfl, _⟩ <;> rfl
/-- Two rows of numbers behind a block. -/
structure Bu (H : Heap) (b : Nat) (x y : Value) (U V : List Int) (B0 : Nat) : Prop where
  lt : b < H.n
  g : H.get b = some (.cells (Fl x y) 71 1)
  u : Own 3 H x (U.map VJ) B0
  v : Own 3 H y (V.map VJ) B0
  ap : Apart x y
theorem Bu.keep {H H' : Heap} {b B0 : Nat} {u v : Value} {U V : List Int} (h : Bu H b u v U V B0) (k : Keep H H') : Bu H' b u v U V B0 := ⟨Nat.lt_of_lt_of_le h.lt k.1, (k.2 b h.lt).trans h.g, h.u.keep k, h.v.keep k, h.ap⟩
/-- Another block with its rows, when a row is made longer. -/
theorem Bu.but {H H' : Heap} {b B0 : Nat} {x u v : Value} {U V : List Int} (h : Bu H b u v U V B0) (k : KeepBut x H H') (hb : blkOf x ≠ some b) (h1 : Apart u x) (h2 : Apart v x) : Bu H' b u v U V B0 := ⟨Nat.lt_of_lt_of_le h.lt k.le, (k.get b h.lt hb).trans h.g, h.u.keepBut k h1, h.v.keepBut k h2, h.ap⟩
theorem Bu.set {H H' : Heap} {b c B0 : Nat} {u v : Value} {U V : List Int} {cs0 : List Value} {e0 : TypeId} (h : Bu H b u v U V B0) (hg : H.get c = some (.cells cs0 e0 1)) (hbc : b ≠ c) (o : ∀ x, x ≠ c → H'.get x = H.get x) (n : H'.n = H.n) : Bu H' b u v U V B0 := by
  have k : KeepX c H H' := ⟨by omega, fun x _ hx => o x hx⟩
  exact ⟨by have := h.lt; omega, (o b hbc).trans h.g, h.u.keepX k hg, h.v.keepX k hg, h.ap⟩
end Go.Proofs.Ytglkphjjinmgmaa

