/- Rows of values of one cell each, and what reads them. -/
import Derived.Test.YthjieekbbhhjgaaDoorEi
namespace Go.AI

/-- A slice whose elements take one cell each, and are these. -/
def Row (H : Heap) (v : Value) (vs : List Value) : Prop :=
  (v = .slice none 0 0 ∧ vs = []) ∨ (v = anon ∧ vs = []) ∨
  ∃ b i c cs e k, v = .slice (some ⟨b, i, none⟩) vs.length c ∧ b < H.n ∧ H.get b = some (.cells cs e k) ∧ k ≠ 1 ∧ i + vs.length ≤ cs.length ∧ ∀ j w, vs[j]? = some w → cs[i + j]? = some w

def elemAt (v : Value) (j : Nat) : Value :=
  match v with
  | .slice (some ⟨b, i, _⟩) _ _ => .pointer (some ⟨b, i + j, none⟩)
  | _ => undef

section
variable {P : Program} {H : Heap} {v : Value} {vs : List Value}

theorem Row.alen (h : Row H v vs) {t e : TypeId} (ht : P.underlying t = some (.slice e)) : alen P H t v = some (.int .i64 vs.length) := by
  rcases h with ⟨rfl, rfl⟩ | ⟨rfl, rfl⟩ | ⟨b, i, c, cs, e', k, rfl, _, _, _, _, _⟩
  · simp [AI.alen, ht]
  · simp [AI.alen, ht, anon]
  · simp [AI.alen, ht]

theorem Row.addr (h : Row H v vs) {t e : TypeId} (ht : P.underlying t = some (.slice e)) (hs : sizeB P e = some 1) {kd : IntKind} {n : Int} (h0 : 0 ≤ n) (h1 : n < vs.length) : aindexAddr P t v (.int kd n) = some (elemAt v n.toNat) := by
  rcases h with ⟨rfl, rfl⟩ | ⟨rfl, rfl⟩ | ⟨b, i, c, cs, e', k, rfl, _, _, _, _, _⟩
  · simp at h1; omega
  · simp at h1; omega
  · simp [aindexAddr, asIdx, ht, hs, elemAt, h0, h1]

theorem Row.load (h : Row H v vs) {t : TypeId} (ht : isAggB P t = some false) {j : Nat} {w : Value} (hj : vs[j]? = some w) : aload P t H (elemAt v j) = some w := by
  rcases h with ⟨rfl, rfl⟩ | ⟨rfl, rfl⟩ | ⟨b, i, c, cs, e', k, rfl, _, hb, _, _, hc⟩
  · simp at hj
  · simp at hj
  · simp [aload, elemAt, hb, ht, hc j w hj]
end

/-- A slice of ints. -/
def Ints (H : Heap) (v : Value) (xs : List Int) : Prop := Row H v (xs.map (Value.int .i64))
end Go.AI
