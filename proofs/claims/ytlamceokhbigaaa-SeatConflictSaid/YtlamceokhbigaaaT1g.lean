
/- Guests and rules as cells; bits; lists of numbers that hold one. -/
import Derived.Test.YtlamceokhbigaaaT0g
set_option linter.unusedVariables false
set_option linter.unusedSimpArgs false
namespace Go.AI
theorem RowS.cells {s : Nat} {H : Heap} {v : Value} {rs : List (List Value)} (h : RowS s H v rs) : v.cells.toList = [v] ∧ AI.oneC v = true ∧ AI.notTuple v = true := by
  rcases h.2 with ⟨rfl, _⟩ | ⟨rfl, _⟩ | ⟨_, _, _, _, _, _, rfl, _⟩ <;> exact ⟨rfl, rfl, rfl⟩
theorem OwnS.same {e : TypeId} {s : Nat} {H : Heap} {v : Value} {rs : List (List Value)} {B : Nat} (h : OwnS e s H v rs B) : sameFix v v = true := by
  rcases h.2 with ⟨rfl, _⟩ | ⟨b, rfl, _⟩
  · rfl
  · exact same_sl
theorem OwnS.keepX {e : TypeId} {s : Nat} {H H' : Heap} {b : Nat} {v : Value} {rs : List (List Value)} {B : Nat} {cs0 : List Value} {e0 : TypeId} (h : OwnS e s H v rs B) (k : KeepX b H H') (hb : H.get b = some (.cells cs0 e0 1)) : OwnS e s H' v rs B := by
  refine ⟨h.1, ?_⟩
  rcases h.2 with h | ⟨b', rfl, h2, h3, h4⟩
  · exact .inl h
  · refine .inr ⟨b', rfl, h2, Nat.lt_of_lt_of_le h3 k.1, ?_⟩
    rw [k.2 b' h3 (by rintro rfl; rw [h4] at hb; cases hb)]; exact h4
theorem OwnS.oneC {e : TypeId} {s : Nat} {H : Heap} {v : Value} {rs : List (List Value)} {B : Nat} (h : OwnS e s H v rs B) : AI.oneC v = true := by
  rcases h.2 with ⟨rfl, _⟩ | ⟨_, rfl, _⟩ <;> rfl
end Go.AI
namespace Go.AI
end Go.AI
namespace Go.Proofs.Ytlamceokhbigaaa
open Go.AI
/-- Fields at an offset. -/
theorem fS {b i f : Nat} {o n : Nat} {t : TypeId} (h : fieldOff Try.prog t f = some (o, n)) (hn : n ≠ 0) : afieldAddr Try.prog t (.pointer (some ⟨b, i, none⟩)) f = some (.pointer (some ⟨b, i + o, none⟩)) := field_addr h hn
theorem KeepX.put {b c : Nat} {H H1 H2 : Heap} (k : KeepX b H H1) (hc : H.n ≤ c) (o : ∀ x, x ≠ c → H2.get x = H1.get x) (n : H2.n = H1.n) : KeepX b H H2 := ⟨by have := k.1; omega, fun x hx hxb => (o x (by omega)).trans (k.2 x hx hxb)⟩
theorem Box.put {b c : Nat} {H1 H2 : Heap} (h : Box b H1) (hc : b ≠ c) (o : ∀ x, x ≠ c → H2.get x = H1.get x) (n : H2.n = H1.n) : Box b H2 := ⟨by have := h.1; omega, by obtain ⟨w, hw⟩ := h.2; exact ⟨w, (o b hc).trans hw⟩⟩
theorem own_keepN {e : TypeId} {b : Nat} {H H' : Heap} {v : Value} {vs : List Value} {B : Nat} (h : Own e H v vs B) (k : KeepX b H H') (hb : blkOf v ≠ some b) : Own e H' v vs B := by
  rcases h with h | ⟨b', rfl, h2, h3, h4⟩
  · exact .inl h
  · exact .inr ⟨b', rfl, h2, Nat.lt_of_lt_of_le h3 k.1, by rw [k.2 b' h3 (fun e => hb (by rw [← e]; rfl))]; exact h4⟩
theorem Own.lower {e : TypeId} {H : Heap} {v : Value} {vs : List Value} {B B' : Nat} (h : Own e H v vs B) (hB : B' ≤ B) : Own e H v vs B' := by
  rcases h with h | ⟨b, h1, h2, h3, h4⟩
  · exact .inl h
  · exact .inr ⟨b, h1, Nat.le_trans hB h2, h3, h4⟩

abbrev nilS : Value := .slice none 0 0
structure Gu where
  nm : List Int
  ra : Int
  ho : Int
  ne : Int
  ma : Int
deriving Inhabited
structure Ru where
  kd : Int
  a : Int
  b : Int
  wt : Int
deriving Inhabited
abbrev Gul (g : Gu) : List Value := [VS g.nm, VI g.ra, VI g.ho, VI g.ne, VI g.ma]
abbrev Rul (r : Ru) : List Value := [VI r.kd, VI r.a, VI r.b, VI r.wt]
abbrev Pal (g r : Value) : List Value := [g, r]
abbrev Pav (g r : Value) : Value := .agg #[g, r]
theorem sz81 : sizeB Try.prog 81 = some 4 := by kernel_rfl
theorem ag23r : isAggB Try.prog 23 = some false := by kernel_rfl
theorem un23r : Try.prog.underlying 23 = some (.slice 81) := by kernel_rfl
theorem foR3 : fieldOff Try.prog 81 3 = some (3, 1) := by kernel_rfl
theorem foP1 : fieldOff Try.prog 25 1 = some (1, 1) := by kernel_rfl
theorem boxP {H : Heap} {c t : Value} {e : TypeId} (h1 : c.cells.toList = [c]) (h2 : t.cells.toList = [t]) : anew H (Value.cells (Pav c t)).toList e 1 = H.new (.cells (Pal c t) e 1) := by
  have : (Value.cells (Pav c t)).toList = c.cells.toList ++ (t.cells.toList ++ []) := by
    rw [h1, h2]; rfl
  rw [this, h1, h2]; rfl
theorem ru_at {l : List Ru} {j : Nat} (hj : j < l.length) : (l.map Rul)[j]? = some (Rul l[j]!) := by rw [List.getElem?_map, List.getElem?_eq_getElem hj, getElem!_pos l j hj]; rfl
theorem rs_len {H : Heap} {v : Value} {l : List Ru} (h : RowS 4 H v (l.map Rul)) : alen Try.prog H 23 v = some (.int .i64 l.length) := by
  have := h.alen un23r; rwa [List.length_map] at this
theorem rs_addr {H : Heap} {v : Value} {l : List Ru} (h : RowS 4 H v (l.map Rul)) {n : Int} (h0 : 0 ≤ n) (h1 : n < l.length) : aindexAddr Try.prog 23 v (.int .i64 n) = some (elemS v 4 n.toNat) := h.addr un23r sz81 h0 (by rw [List.length_map]; exact h1)
abbrev OwnG (H : Heap) (v : Value) (l : List Gu) (B : Nat) : Prop := OwnS 68 5 H v (l.map Gul) B
abbrev OwnR (H : Heap) (v : Value) (l : List Ru) (B : Nat) : Prop := OwnS 81 4 H v (l.map Rul) B
end Go.Proofs.Ytlamceokhbigaaa

