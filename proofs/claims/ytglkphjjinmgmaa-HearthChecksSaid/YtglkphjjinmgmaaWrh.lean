
/- HearthEnds. -/
import Derived.Test.YtglkphjjinmgmaaWoh
import Derived.Test.YtglkphjjinmgmaaWqh
set_option linter.unusedVariables false
set_option linter.unusedSimpArgs false
namespace Go.Proofs.Ytglkphjjinmgmaa
open Go.AI
theorem own_oneC {e : TypeId} {H : Heap} {v : Value} {vs : List Value} {B : Nat} (h : Own e H v vs B) : AI.oneC v = true := by
  rcases h with ⟨rfl, _⟩ | ⟨_, rfl, _⟩ <;> rfl
theorem take_fn {f : Co → Int} {l : List Co} {i : Nat} (h : i < l.length) : (l.take i).map f ++ [f l[i]!] = (l.take (i + 1)).map f := by
  rw [List.take_add_one, List.map_append, List.getElem?_eq_getElem h, getElem!_pos l i h]; rfl
theorem sz22h : sizeB Try.prog 33 = some 1 := by kernel_rfl
theorem zero31 : zeroCells Try.prog 71 = some (Fl nilS nilS) := by kernel_rfl
theorem al31 {H : Heap} : sAlloc Try.prog H 71 = some (.pointer (some ⟨H.n, 0, none⟩), H.new (.cells (Fl nilS nilS) 71 1), H.n) := alloc_of zero31
theorem sz31 : sizeB Try.prog 71 = some 2 := by kernel_rfl
theorem ag31 : isAggB Try.prog 71 = some true := by kernel_rfl
theorem ld31 {H : Heap} {b : Nat} {c p : Value} {e : TypeId} {q : Nat} (hg : H.get b = some (.cells (Fl c p) e q)) : aload Try.prog 71 H (.pointer (some ⟨b, 0, none⟩)) = some (Fv c p) := agg_load ag31 sz31 hg (Nat.le_refl _)
theorem begS_at {cs : List Co} {B0 B1 : List Int} {i : Nat} (h : i < cs.length) : (begS (emL cs B0 B1))[i]! = (B0[i]!, B1[i]!) := by
  have h2 : i < (emL cs B0 B1).length := by rw [emL_len]; exact h
  have h3 : i < (begS (emL cs B0 B1)).length := by rw [begS, List.length_map]; exact h2
  rw [getElem!_pos _ i h3]
  simp only [begS, List.getElem_map]
  have := emL_at (B0 := B0) (B1 := B1) h
  rw [getElem!_pos _ i h2] at this
  rw [this]; rfl
theorem begS_len {cs : List Co} {B0 B1 : List Int} : (begS (emL cs B0 B1)).length = cs.length := by rw [begS, List.length_map, emL_len]
/-- Two rows of numbers behind a block. -/
structure Bu (H : Heap) (b : Nat) (x y : Value) (U V : List Int) (B0 : Nat) : Prop where
  lt : b < H.n
  g : H.get b = some (.cells (Fl x y) 71 1)
  u : Own 3 H x (U.map VJ) B0
  v : Own 3 H y (V.map VJ) B0
  ap : Apart x y
theorem Bu.keep {H H' : Heap} {b B0 : Nat} {u v : Value} {U V : List Int} (h : Bu H b u v U V B0) (k : Keep H H') : Bu H' b u v U V B0 := ⟨Nat.lt_of_lt_of_le h.lt k.1, (k.2 b h.lt).trans h.g, h.u.keep k, h.v.keep k, h.ap⟩
/-- Another block with its rows, when a row is made longer. -/
theorem Bu.but {H H' : Heap} {b B0 : Nat} {x u v : Value} {U V : List Int} (h : Bu H b u v U V B0) (k : KeepBut x H H') (hb : blkOf x ≠ some b) (h1 : Apart u x) (h2 : Apart v x) : Bu H' b u v U V B0 := ⟨Nat.lt_of_lt_of_le h.lt k.le, (k.get b h.lt hb).trans h.g, h.u.keepBut k h1, h.v.keepBut k h2, h.ap⟩
theorem Bu.set {H H' : Heap} {b c B0 : Nat} {u v : Value} {U V : List Int} {cs0 : List Value} {e0 : TypeId} (h : Bu H b u v U V B0) (hg : H.get c = some (.cells cs0 e0 1)) (hbc : b ≠ c) (o : ∀ x, x ≠ c → H'.get x = H.get x) (n : H'.n = H.n) : Bu H' b u v U V B0 := by
  have k : KeepX c H H' := ⟨by omega, fun x _ hx => o x hx⟩
  exact ⟨by have := h.lt; omega, (o b hbc).trans h.g, h.u.keepX k hg, h.v.keepX k hg, h.ap⟩
end Go.Proofs.Ytglkphjjinmgmaa

