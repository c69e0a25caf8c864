/- Rows of one's own, one beside another; where ways meet again. -/
import Derived.Test.YthjieekbbhhjgaaDoorEp
namespace Go.AI
/-- The block in which a slice lies. -/
def blkOf : Value → Option Nat
  | .slice (some ⟨b, _, _⟩) _ _ => some b
  | _ => none
/-- Nothing that was there has turned, but for the block of a slice. -/
structure KeepBut (x : Value) (H H' : Heap) : Prop where
  le : H.n ≤ H'.n
  get : ∀ c, c < H.n → blkOf x ≠ some c → H'.get c = H.get c
def Apart (u v : Value) : Prop := ∀ c, blkOf u = some c → blkOf v ≠ some c
theorem Apart.symm {u v : Value} (h : Apart u v) : Apart v u := fun c hu hv => h c hv hu
theorem apart_nil {u : Value} : Apart u (.slice none 0 0) := fun c _ h => by cases h
theorem nil_apart {u : Value} : Apart (.slice none 0 0) u := fun c h => by cases h
theorem Own.lt {e : TypeId} {H : Heap} {v : Value} {vs : List Value} {B : Nat} (h : Own e H v vs B) {c : Nat} (hc : blkOf v = some c) : B ≤ c ∧ c < H.n := by
  rcases h with ⟨rfl, _⟩ | ⟨b, rfl, h2, h3, h4⟩
  · cases hc
  · cases hc; exact ⟨h2, h3⟩
theorem Own.keepBut {e : TypeId} {H H' : Heap} {x v : Value} {vs : List Value} {B : Nat} (h : Own e H v vs B) (k : KeepBut x H H') (ha : Apart v x) : Own e H' v vs B := by
  rcases h with h | ⟨b, rfl, h2, h3, h4⟩
  · exact .inl h
  · exact .inr ⟨b, rfl, h2, Nat.lt_of_lt_of_le h3 k.le, by rw [k.get b h3 (ha b rfl)]; exact h4⟩
theorem KeepBut.keep {x : Value} {H0 H H' : Heap} (k : KeepBut x H H') (h : Keep H0 H) (hx : ∀ c, blkOf x = some c → H0.n ≤ c) : Keep H0 H' :=
  ⟨Nat.le_trans h.1 k.le, fun c hc => (k.get c (Nat.lt_of_lt_of_le hc h.1) fun h => by have := hx c h; omega).trans (h.2 c hc)⟩
/-- What is new lies apart from what was there. -/
theorem Own.apartNew {e : TypeId} {H : Heap} {v r : Value} {vs : List Value} {B : Nat} (h : Own e H v vs B) (hr : ∀ c, blkOf r = some c → H.n ≤ c) : Apart v r := fun c hc hr' => by
  have := (h.lt hc).2; have := hr c hr'; omega
section
variable {P : Program} {H : Heap} {t e : TypeId} {z : Value} {by' : Nat}
theorem append_ask {K : Value → Heap → Prop} {B B0 : Nat} {x w : Value} {vs : List Value} (ht : P.underlying t = some (.slice e)) (h1 : oneBB P e = some (z, by')) (hb : by' ≤ 16) (hx : Own e H x vs B0) (hB0 : B0 ≤ H.n) (hB : B ≤ B0) (hn : vs.length < 1000000)
    (hk : ∀ r H', Own e H' r (vs ++ [w]) B0 → KeepBut x H H' → (∀ c, blkOf r = some c → H.n ≤ c) → K r H') :
    ∃ v H' b, aappend P (H.new (.cells [w] e 2)) #[t, t] x (.slice (some ⟨H.n, 0, none⟩) 1 0) = some (v, H', b) ∧ B ≤ b ∧ K v H' := by
  have hy : (H.new (.cells [w] e 2)).get H.n = some (.cells [w] e 2) := Heap.get_new_eq _ _
  rcases hx with ⟨rfl, rfl⟩ | ⟨b, rfl, h2, h3, h4⟩
  · refine ⟨_, _, _, append_nil ht h1 hb (news := [w]) hy (by simp) (by simp), ?_, hk _ _ (.inr ⟨_, rfl, ?_, ?_, Heap.get_new_eq _ _⟩) ⟨?_, ?_⟩ ?_⟩
    · show B ≤ H.n + 1; omega
    · show B0 ≤ H.n + 1; omega
    · show H.n + 1 < H.n + 1 + 1; omega
    · show H.n ≤ H.n + 1 + 1; omega
    · intro c hc _
      rw [Heap.get_new_ne _ _ (by show c ≠ H.n + 1; omega), Heap.get_new_ne _ _ (by omega)]
    · intro c hc; cases hc; show H.n ≤ H.n + 1; omega
  · have hx' : (H.new (.cells [w] e 2)).get b = some (.cells vs e 2) := by rw [Heap.get_new_ne _ _ (by omega)]; exact h4
    refine ⟨_, _, _, append_row ht h1 hb (news := [w]) hx' hy (by simp) (by simp; omega), Nat.le_trans hB h2, hk _ _ (.inr ⟨_, ?_, ?_, ?_, Heap.get_new_eq _ _⟩) ⟨?_, ?_⟩ ?_⟩
    · simp
    · show B0 ≤ H.n + 1; omega
    · show H.n + 1 < H.n + 1 + 1; omega
    · show H.n ≤ H.n + 1 + 1; omega
    · intro c hc hne
      have hne' : b ≠ c := fun h => hne (by rw [h]; rfl)
      rw [Heap.get_new_ne _ _ (by show c ≠ H.n + 1; omega), Heap.get_set_ne _ _ hne', Heap.get_new_ne _ _ (by omega)]
    · intro c hc; cases hc; show H.n ≤ H.n + 1; omega
/-- A cell of a row of one's own is written. -/
theorem store_ask {K : Heap → Prop} {B B0 : Nat} {x w : Value} {vs : List Value} {i : Nat} (hs : sizeB P e = some 1) (hx : Own e H x vs B0) (hB : B ≤ B0) (hi : i < vs.length) (hw : oneC w = true)
    (hk : ∀ H', Own e H' x (vs.set i w) B0 → KeepBut x H H' → K H') :
    ∃ H' b, astore P e H w (elemAt x i) = some (H', b) ∧ B ≤ b ∧ K H' := by
  rcases hx with ⟨rfl, rfl⟩ | ⟨b0, rfl, h2, h3, h4⟩
  · simp at hi
  · have he : elemAt (.slice (some ⟨b0, 0, none⟩) vs.length 0) i = .pointer (some ⟨b0, i, none⟩) := by simp [elemAt]
    rw [he]
    refine ⟨_, _, store_row hs h4 hi hw, Nat.le_trans hB h2, hk _ (.inr ⟨b0, by simp, h2, h3, Heap.get_set_eq _ _ _⟩) ⟨Nat.le_refl _, fun c hc hne => Heap.get_set_ne _ _ fun h => hne (by rw [h]; rfl)⟩⟩
/-- A copy of a row. -/
theorem copy_ask {K : Value → Heap → Prop} {B : Nat} {y : Value} {vs : List Value} (ht : P.underlying t = some (.slice e)) (h1 : oneBB P e = some (z, by')) (hb : by' ≤ 16) (hy : Row H y vs) (hB : B ≤ H.n) (hn : vs.length < 1000000)
    (hk : ∀ r H', Own e H' r vs H.n → Keep H H' → K r H') : ∃ v H' b, aappend P (H.new (.cells [] e 2)) #[t, t] (.slice (some ⟨H.n, 0, none⟩) 0 0) y = some (v, H', b) ∧ B ≤ b ∧ K v H' := by
  obtain ⟨r, H', b, h1, h2, h3, h4⟩ := append_copy ht h1 hb hy hn
  exact ⟨_, _, _, h1, Nat.le_trans hB h2, hk _ _ h3 h4⟩
theorem KeepBut.keepX {x : Value} {H0 H H' : Heap} {b : Nat} (k : KeepBut x H H') (h : KeepX b H0 H) (hx : ∀ c, blkOf x = some c → H0.n ≤ c) : KeepX b H0 H' :=
  ⟨Nat.le_trans h.1 k.le, fun c hc hcb => (k.get c (Nat.lt_of_lt_of_le hc h.1) fun h => by have := hx c h; omega).trans (h.2 c hc hcb)⟩
theorem KeepBut.refl (x : Value) (H : Heap) : KeepBut x H H := ⟨Nat.le_refl _, fun _ _ _ => rfl⟩
/-- A variable of a row's own, and what came after: still the same block, or a new one. -/
theorem KeepBut.trans {x : Value} {H1 H2 H3 : Heap} (h : KeepBut x H1 H2) (k : KeepBut x H2 H3) : KeepBut x H1 H3 :=
  ⟨Nat.le_trans h.le k.le, fun c hc hne => (k.get c (Nat.lt_of_lt_of_le hc h.le) hne).trans (h.get c hc hne)⟩
theorem Keep.but {H H' : Heap} (x : Value) (k : Keep H H') : KeepBut x H H' := ⟨k.1, fun c hc _ => k.2 c hc⟩
end
end Go.AI
namespace Go.AI
section
variable {P : Program} [Oracle P] {N B : Nat} {wr : Bool} {L : Kn} {H : Heap} {Q : Exit → Kn → Heap → Prop} {a b : Code}
/-- Behind a piece of code, only what is listed stays known. -/
theorem CV.midK {α : Type} (S : α → List (Nat × Value)) (I : α → Heap → Prop) (h1 : CV P N B wr a L H (seqK (fun L H => ∃ x, covers L (S x) ∧ I x H) Q))
    (h2 : ∀ x H, I x H → B ≤ H.n → mkK (S x) .leaf fun L' => CV P N B wr b L' H Q) : CV P N B wr a L H (seqK (fun L H => CV P N B wr b L H Q) Q) := by
  refine ⟨⟨fun tm lo ha hl hB => ?_⟩⟩
  refine (h1.run.run tm lo ha hl hB).mono ?_
  rintro e ⟨tm', H', lo'⟩ ⟨hl', hB', L', h3, h4⟩
  cases e with
  | normal =>
    obtain ⟨x, h5, h6⟩ := h4
    exact ⟨hl', hB', L', h3, ⟨WCv.forget (S x) h5 ((mkK_mono _ _ (fun L h => h.run)) (h2 x H' h6 hB'))⟩⟩
  | _ => exact ⟨hl', hB', L', h3, h4⟩
end
end Go.AI
