/- Rows of structs. -/
import Derived.Test.YtkfaiokiaahbaaaDoorX4
set_option linter.unusedVariables false
set_option linter.unusedSimpArgs false
namespace Go.AI
/-- A slice whose elements take s cells each, and are these. -/
def RowS (s : Nat) (H : Heap) (v : Value) (rs : List (List Value)) : Prop :=
  (∀ r ∈ rs, r.length = s) ∧ ((v = .slice none 0 0 ∧ rs = []) ∨ (v = anon ∧ rs = []) ∨
  ∃ b i c cs e k, v = .slice (some ⟨b, i, none⟩) rs.length c ∧ b < H.n ∧ H.get b = some (.cells cs e k) ∧ k ≠ 1 ∧ i + rs.length * s ≤ cs.length ∧ ∀ j q r w, rs[j]? = some r → r[q]? = some w → cs[i + j * s + q]? = some w)
def elemS (v : Value) (s j : Nat) : Value :=
  match v with
  | .slice (some ⟨b, i, _⟩) _ _ => .pointer (some ⟨b, i + j * s, none⟩)
  | _ => undef
def fieldOf (v : Value) (o : Nat) : Value :=
  match v with
  | .pointer (some ⟨b, i, _⟩) => .pointer (some ⟨b, i + o, none⟩)
  | _ => undef
theorem flat_len {s : Nat} : ∀ {rs : List (List Value)}, (∀ r ∈ rs, r.length = s) → rs.flatten.length = rs.length * s
  | [], _ => by simp
  | r :: rs, h => by
    rw [List.flatten_cons, List.length_append, flat_len (rs := rs) fun x hx => h x (by simp [hx]), h r (by simp), List.length_cons, Nat.succ_mul]; omega
theorem flat_at {s : Nat} : ∀ {rs : List (List Value)}, (∀ r ∈ rs, r.length = s) → ∀ {j q : Nat} {r : List Value} {w : Value}, rs[j]? = some r → r[q]? = some w → rs.flatten[j * s + q]? = some w
  | x :: rs, h, 0, q, r, w, hj, hq => by
    simp at hj; subst hj
    rw [List.flatten_cons, Nat.zero_mul, Nat.zero_add, List.getElem?_append_left (List.getElem?_eq_some_iff.1 hq).1]; exact hq
  | x :: rs, h, j + 1, q, r, w, hj, hq => by
    have hx := h x (by simp)
    have hm : (j + 1) * s = s + j * s := by rw [Nat.succ_mul, Nat.add_comm]
    rw [List.flatten_cons, List.getElem?_append_right (by omega), hx, show (j + 1) * s + q - s = j * s + q by omega]
    exact flat_at (fun y hy => h y (by simp [hy])) (by simpa using hj) hq
theorem flat_set {s : Nat} : ∀ {rs : List (List Value)}, (∀ r ∈ rs, r.length = s) → ∀ {j q : Nat} {r : List Value} {w : Value}, rs[j]? = some r → q < s → rs.flatten.set (j * s + q) w = (rs.set j (r.set q w)).flatten
  | x :: rs, h, 0, q, r, w, hj, hq => by
    simp at hj; subst hj
    have hx := h x (by simp)
    rw [List.flatten_cons, Nat.zero_mul, Nat.zero_add, List.set_append_left _ _ (by omega)]; rfl
  | x :: rs, h, j + 1, q, r, w, hj, hq => by
    have hx := h x (by simp)
    have hm : (j + 1) * s = s + j * s := by rw [Nat.succ_mul, Nat.add_comm]
    rw [List.flatten_cons, List.set_append_right _ _ (by omega), hx, show (j + 1) * s + q - s = j * s + q by omega,
      flat_set (fun y hy => h y (by simp [hy])) (by simpa using hj) hq, List.set_cons_succ, List.flatten_cons]
theorem RowS.keep {s : Nat} {H H' : Heap} {v : Value} {rs : List (List Value)} (h : RowS s H v rs) (k : Keep H H') : RowS s H' v rs := by
  refine ⟨h.1, ?_⟩
  rcases h.2 with h | h | ⟨b, i, c, cs, e, kd, h1, h2, h3, h4⟩
  · exact .inl h
  · exact .inr (.inl h)
  · exact .inr (.inr ⟨b, i, c, cs, e, kd, h1, Nat.lt_of_lt_of_le h2 k.1, by rw [k.2 b h2]; exact h3, h4⟩)
theorem RowS.keepX {s : Nat} {H H' : Heap} {b : Nat} {v : Value} {rs : List (List Value)} {cs0 : List Value} {e0 : TypeId} (h : RowS s H v rs) (k : KeepX b H H') (hb : H.get b = some (.cells cs0 e0 1)) : RowS s H' v rs := by
  refine ⟨h.1, ?_⟩
  rcases h.2 with h | h | ⟨b', i, c, cs, e, kd, h1, h2, h3, h4, h5⟩
  · exact .inl h
  · exact .inr (.inl h)
  · refine .inr (.inr ⟨b', i, c, cs, e, kd, h1, Nat.lt_of_lt_of_le h2 k.1, ?_, h4, h5⟩)
    rw [k.2 b' h2]
    · exact h3
    · rintro rfl; rw [hb] at h3; cases h3; exact h4 rfl
section
variable {P : Program} {s : Nat} {H : Heap} {v : Value} {rs : List (List Value)} {t e : TypeId}
theorem RowS.alen (h : RowS s H v rs) (ht : P.underlying t = some (.slice e)) : alen P H t v = some (.int .i64 rs.length) := by
  rcases h.2 with ⟨rfl, rfl⟩ | ⟨rfl, rfl⟩ | ⟨b, i, c, cs, e', k, rfl, _, _, _, _, _⟩
  · simp [AI.alen, ht]
  · simp [AI.alen, ht, anon]
  · simp [AI.alen, ht]
theorem RowS.addr (h : RowS s H v rs) (ht : P.underlying t = some (.slice e)) (hs : sizeB P e = some s) {kd : IntKind} {n : Int} (h0 : 0 ≤ n) (h1 : n < rs.length) : aindexAddr P t v (.int kd n) = some (elemS v s n.toNat) := by
  rcases h.2 with ⟨rfl, rfl⟩ | ⟨rfl, rfl⟩ | ⟨b, i, c, cs, e', k, rfl, _, _, _, _, _⟩
  · simp at h1; omega
  · simp at h1; omega
  · simp [aindexAddr, asIdx, ht, hs, elemS, h0, h1]
theorem RowS.faddr (h : RowS s H v rs) {st : TypeId} {f o n j : Nat} (hf : fieldOff P st f = some (o, n)) (hn : n ≠ 0) (hj : j < rs.length) : afieldAddr P st (elemS v s j) f = some (fieldOf (elemS v s j) o) := by
  rcases h.2 with ⟨rfl, rfl⟩ | ⟨rfl, rfl⟩ | ⟨b, i, c, cs, e', k, rfl, _, _, _, _, _⟩
  · simp at hj
  · simp at hj
  · exact field_addr hf hn
theorem RowS.fload (h : RowS s H v rs) (ht : isAggB P t = some false) {j o : Nat} {r : List Value} {w : Value} (hj : rs[j]? = some r) (ho : r[o]? = some w) : aload P t H (fieldOf (elemS v s j) o) = some w := by
  rcases h.2 with ⟨rfl, rfl⟩ | ⟨rfl, rfl⟩ | ⟨b, i, c, cs, e', k, rfl, _, hb, _, _, hc⟩
  · simp at hj
  · simp at hj
  · simp [aload, elemS, fieldOf, hb, ht, hc j o r w hj ho]
theorem RowS.load (h : RowS s H v rs) (ht : isAggB P t = some true) (hs : sizeB P t = some s) {j : Nat} {r : List Value} (hj : rs[j]? = some r) : aload P t H (elemS v s j) = some (.agg r.toArray) := by
  have hlen := h.1 r (List.mem_of_getElem? hj)
  rcases h.2 with ⟨rfl, rfl⟩ | ⟨rfl, rfl⟩ | ⟨b, i, c, cs, e', k, rfl, _, hb, _, hle, hc⟩
  · simp at hj
  · simp at hj
  · have hjl := (List.getElem?_eq_some_iff.1 hj).1
    have hm : (j + 1) * s ≤ rs.length * s := Nat.mul_le_mul_right _ hjl
    rw [Nat.succ_mul] at hm
    simp only [aload, elemS, hb, ht, hs]
    rw [if_pos (by omega)]
    congr 3
    apply List.ext_getElem?
    intro q
    by_cases hq : q < s
    · rw [List.getElem?_take_of_lt hq, List.getElem?_drop, hc j q r r[q] hj (List.getElem?_eq_getElem (by omega)), List.getElem?_eq_getElem (by omega)]
    · rw [List.getElem?_eq_none (by simp; omega), List.getElem?_eq_none (by omega)]
theorem RowS.slice (h : RowS s H v rs) (ht : P.underlying t = some (.slice e)) (hs : sizeB P e = some s) {i : Int} {kd : IntKind} (h0 : 0 ≤ i) (h1 : i ≤ rs.length) :
    ∃ r, aslice P t v none (some (some (.int kd i))) = some r ∧ RowS s H r (rs.take i.toNat) := by
  have hl : ∀ r ∈ rs.take i.toNat, r.length = s := fun r hr => h.1 r (List.mem_of_mem_take hr)
  rcases h.2 with ⟨rfl, rfl⟩ | ⟨rfl, rfl⟩ | ⟨b, o, c, cs, e', k, rfl, h2, h3, h4, h5, h6⟩
  · simp at h1
    have : i = 0 := by omega
    subst this
    exact ⟨.slice none 0 0, by simp [aslice, ht, hs, bound], hl, .inl ⟨rfl, by simp⟩⟩
  · simp at h1
    have : i = 0 := by omega
    subst this
    exact ⟨anon, by simp [aslice, anon, ht, hs, bound], hl, .inr (.inl ⟨rfl, by simp⟩)⟩
  · have hm : i.toNat * s ≤ rs.length * s := Nat.mul_le_mul_right _ (by omega)
    refine ⟨.slice (some ⟨b, o, none⟩) i.toNat c, by simp [aslice, ht, hs, bound, h0, h1], hl, .inr (.inr ⟨b, o, c, cs, e', k, ?_, h2, h3, h4, ?_, ?_⟩)⟩
    · rw [List.length_take]; congr 1; omega
    · rw [List.length_take, Nat.min_eq_left (by omega)]; omega
    · intro j q r w hj hq
      rw [List.getElem?_take] at hj
      split at hj
      · exact h6 j q r w hj hq
      · cases hj
theorem RowS.source (h : RowS s H v rs) : sourceOf H s v = some (rs.flatten, rs.length) := by
  rcases h.2 with ⟨rfl, rfl⟩ | ⟨rfl, rfl⟩ | ⟨b, i, c, cs, e', k, rfl, _, hb, _, hle, hc⟩
  · rfl
  · rfl
  · simp only [sourceOf, hb]
    rw [if_pos hle]
    congr 2
    have hfl := flat_len h.1
    apply List.ext_getElem?
    intro x
    by_cases hx : x < rs.length * s
    · have hs0 : 0 < s := by
        apply Nat.pos_of_ne_zero; rintro rfl; simp at hx
      have hd : x / s < rs.length := Nat.div_lt_of_lt_mul (by rw [Nat.mul_comm]; exact hx)
      have hmod : x % s < s := Nat.mod_lt _ hs0
      have hxe : x / s * s + x % s = x := by rw [Nat.mul_comm]; exact Nat.div_add_mod x s
      have hj : rs[x / s]? = some rs[x / s] := List.getElem?_eq_getElem hd
      have hrl := h.1 _ (List.mem_of_getElem? hj)
      have hq : (rs[x / s])[x % s]? = some (rs[x / s])[x % s] := List.getElem?_eq_getElem (by omega)
      have e1 := flat_at h.1 hj hq
      have e2 := hc _ _ _ _ hj hq
      rw [hxe] at e1
      rw [List.getElem?_take_of_lt hx, List.getElem?_drop, e1]
      rw [show i + x / s * s + x % s = i + x by omega] at e2
      exact e2
    · rw [List.getElem?_eq_none (by simp; omega), List.getElem?_eq_none (by omega)]
end
/-- A row of structs of one's own: it begins at B or behind, and may grow. -/
def OwnS (e : TypeId) (s : Nat) (H : Heap) (v : Value) (rs : List (List Value)) (B : Nat) : Prop :=
  (∀ r ∈ rs, r.length = s) ∧ ((v = .slice none 0 0 ∧ rs = []) ∨ ∃ b, v = .slice (some ⟨b, 0, none⟩) rs.length 0 ∧ B ≤ b ∧ b < H.n ∧ H.get b = some (.cells rs.flatten e 2))
theorem OwnS.row {e : TypeId} {s : Nat} {H : Heap} {v : Value} {rs : List (List Value)} {B : Nat} (h : OwnS e s H v rs B) : RowS s H v rs := by
  refine ⟨h.1, ?_⟩
  rcases h.2 with h' | ⟨b, h1, h2, h3, h4⟩
  · exact .inl h'
  · exact .inr (.inr ⟨b, 0, 0, _, e, 2, h1, h3, h4, by simp, by rw [flat_len h.1]; omega, fun j q r w hj hq => by rw [Nat.zero_add]; exact flat_at h.1 hj hq⟩)
theorem OwnS.keep {e : TypeId} {s : Nat} {H H' : Heap} {v : Value} {rs : List (List Value)} {B : Nat} (h : OwnS e s H v rs B) (k : Keep H H') : OwnS e s H' v rs B := by
  refine ⟨h.1, ?_⟩
  rcases h.2 with h' | ⟨b, h1, h2, h3, h4⟩
  · exact .inl h'
  · exact .inr ⟨b, h1, h2, Nat.lt_of_lt_of_le h3 k.1, by rw [k.2 b h3]; exact h4⟩
theorem OwnS.lt {e : TypeId} {s : Nat} {H : Heap} {v : Value} {rs : List (List Value)} {B : Nat} (h : OwnS e s H v rs B) {c : Nat} (hc : blkOf v = some c) : B ≤ c ∧ c < H.n := by
  rcases h.2 with ⟨rfl, _⟩ | ⟨b, rfl, h2, h3, h4⟩
  · cases hc
  · cases hc; exact ⟨h2, h3⟩
theorem OwnS.low {e : TypeId} {s : Nat} {H : Heap} {v : Value} {rs : List (List Value)} {B B' : Nat} (h : OwnS e s H v rs B) (hB : B' ≤ B) : OwnS e s H v rs B' := by
  refine ⟨h.1, ?_⟩
  rcases h.2 with h | ⟨b, h1, h2, h3, h4⟩
  · exact .inl h
  · exact .inr ⟨b, h1, Nat.le_trans hB h2, h3, h4⟩
theorem OwnS.notTuple {e : TypeId} {s : Nat} {H : Heap} {v : Value} {rs : List (List Value)} {B : Nat} (h : OwnS e s H v rs B) : AI.notTuple v = true := by
  rcases h.2 with ⟨rfl, _⟩ | ⟨_, rfl, _⟩ <;> rfl
theorem OwnS.nil {e : TypeId} {s : Nat} {H : Heap} {B : Nat} : OwnS e s H (.slice none 0 0) [] B := ⟨by simp, .inl ⟨rfl, rfl⟩⟩
theorem OwnS.keepBut {e : TypeId} {s : Nat} {H H' : Heap} {x v : Value} {rs : List (List Value)} {B : Nat} (h : OwnS e s H v rs B) (k : KeepBut x H H') (ha : Apart v x) : OwnS e s H' v rs B := by
  refine ⟨h.1, ?_⟩
  rcases h.2 with h | ⟨b, rfl, h2, h3, h4⟩
  · exact .inl h
  · exact .inr ⟨b, rfl, h2, Nat.lt_of_lt_of_le h3 k.le, by rw [k.get b h3 (ha b rfl)]; exact h4⟩
/-- The cells of a type's zero, and how many bytes it takes. -/
def zeroBB (P : Program) (e : TypeId) : Option (List Value × Nat) :=
  match P.info? e with
  | some info => match info.zero with
    | some z => bif Nat.beq info.size z.cells.size && Nat.blt 0 info.size && z.cells.toList.all scalar then some (z.cells.toList, info.bytes) else none
    | none => none
  | none => none
theorem zeroBB_spec {P : Program} {e : TypeId} {z : List Value} {n : Nat} (h : zeroBB P e = some (z, n)) : ∃ info zv, P.info? e = some info ∧ info.zero = some zv ∧ info.size = z.length ∧ 0 < z.length ∧ zv.cells = z.toArray ∧ z.all scalar = true ∧ info.bytes = n := by
  unfold zeroBB at h
  split at h
  · rename_i info hi
    split at h
    · rename_i zv hz
      cases hc : (Nat.beq info.size zv.cells.size && Nat.blt 0 info.size && zv.cells.toList.all scalar) with
      | false => rw [hc] at h; cases h
      | true =>
        rw [hc] at h
        simp only [cond_true, Option.some.injEq, Prod.mk.injEq] at h
        obtain ⟨rfl, rfl⟩ := h
        simp only [Bool.and_eq_true] at hc
        have h1 := Nat.eq_of_beq_eq_true hc.1.1
        have h2 : 0 < info.size := Nat.le_of_ble_eq_true hc.1.2
        exact ⟨info, zv, hi, hz, by simpa using h1, by simp; omega, by simp, hc.2, rfl⟩
    · cases h
  · cases h
theorem splice_len_all : ∀ (vs cs : List Value), cs.length = vs.length → splice cs 0 vs = vs := by
  intro vs cs h
  have key : ∀ (vs cs : List Value) (i : Nat), i + vs.length ≤ cs.length → splice cs i vs = cs.take i ++ vs ++ cs.drop (i + vs.length) := by
    intro vs
    induction vs with
    | nil => intro cs i _; simp [splice]
    | cons v vs ih =>
      intro cs i h
      simp only [List.length_cons] at h
      rw [splice, ih (cs.set i v) (i + 1) (by rw [List.length_set]; omega)]
      have h1 : (cs.set i v).take (i + 1) = cs.take i ++ [v] := by
        apply List.ext_getElem
        · simp; omega
        · intro j h1 h2
          simp only [List.length_take, List.length_set] at h1
          rw [List.getElem_take, List.getElem_set, List.getElem_append]
          by_cases hj : j < i
          · rw [if_neg (by omega), dif_pos (by simp; omega), List.getElem_take]
          · have : j = i := by omega
            subst this
            rw [if_pos rfl, dif_neg (by rw [List.length_take]; omega)]
            simp
      rw [h1, List.drop_set_of_lt (by omega)]
      simp [Nat.add_assoc, Nat.add_comm 1]
  rw [key vs cs 0 (by omega)]
  simp [List.drop_eq_nil_of_le (show cs.length ≤ vs.length by omega)]
section
variable {P : Program} {H : Heap} {t e : TypeId} {z : List Value} {by' : Nat}
theorem build_oneS (ht : P.underlying t = some (.slice e)) (h1 : zeroBB P e = some (z, by')) (hz1 : z.length ≤ 1000) {row : List Value} (hr : row.length = z.length) :
    abuildSlice P H t 1 [(0, .agg row.toArray)] = some (.slice (some ⟨H.n, 0, none⟩) 1 0, H.new (.cells row e 2), H.n) := by
  obtain ⟨info, zv, hi, hz, hs, h0, hc, hsc, hby⟩ := zeroBB_spec h1
  simp only [abuildSlice, ht, hi, hz, hs, hc]
  have hlz : (zeros z.toArray (1 * z.length)).length = row.length := by simp [zeros, hr]
  rw [if_pos ⟨by omega, by simp, by simpa using hsc, by omega⟩]
  simp only [fillL, Value.cells, Nat.zero_mul]
  rw [if_neg (by
    simp only [not_or, Classical.not_not]
    refine ⟨by simpa using hr, by rw [hlz]; simp, by simp [notTuple]⟩)]
  simp only [anew]
  rw [splice_len_all _ _ (by rw [hlz])]
theorem append_askS {K : Value → Heap → Prop} {B B0 : Nat} {x : Value} {row : List Value} {rs : List (List Value)} (ht : P.underlying t = some (.slice e)) (h1 : zeroBB P e = some (z, by')) (hb : by' ≤ 1000) (hr : row.length = z.length) (hx : OwnS e z.length H x rs B0) (hB0 : B0 ≤ H.n) (hB : B ≤ B0) (hn : rs.length < 1000000)
    (hk : ∀ r H', OwnS e z.length H' r (rs ++ [row]) B0 → KeepBut x H H' → (∀ c, blkOf r = some c → H.n ≤ c) → K r H') :
    ∃ v H' b, aappend P (H.new (.cells row e 2)) #[t, t] x (.slice (some ⟨H.n, 0, none⟩) 1 0) = some (v, H', b) ∧ B ≤ b ∧ K v H' := by
  obtain ⟨info, zv, hi, hz, hs, h0, hc, hsc, hby⟩ := zeroBB_spec h1
  have hy : (H.new (.cells row e 2)).get H.n = some (.cells row e 2) := Heap.get_new_eq _ _
  have hall : ∀ r ∈ rs ++ [row], r.length = z.length := fun r hr' => by
    rw [List.mem_append] at hr'
    rcases hr' with h | h
    · exact hx.1 r h
    · simp at h; subst h; exact hr
  have hsrc : sourceOf (H.new (.cells row e 2)) z.length (.slice (some ⟨H.n, 0, none⟩) 1 0) = some (row, 1) := by
    simp only [sourceOf, hy]
    rw [if_pos (by omega)]
    congr 2
    rw [List.drop_zero, List.take_of_length_le (by omega)]
  have hcell : ¬ (info.size = 0 ∨ zv.cells.size ≠ info.size) := by
    rw [hs, hc]; simp only [not_or, Classical.not_not]; exact ⟨by omega, by simp⟩
  rcases hx.2 with ⟨rfl, rfl⟩ | ⟨b, rfl, h2, h3, h4⟩
  · refine ⟨.slice (some ⟨H.n + 1, 0, none⟩) 1 0, (H.new (.cells row e 2)).new (.cells row e 2), H.n + 1, ?_, by omega, hk _ _ ⟨hall, .inr ⟨H.n + 1, rfl, by omega, Nat.lt_succ_self _, ?_⟩⟩ ⟨?_, ?_⟩ ?_⟩
    · simp only [aappend, ht, hi, hz]
      rw [if_neg (by simp), if_neg hcell, hs, hsrc]
      simp only [Nat.one_ne_zero, if_false]
      rw [if_pos ⟨by decide, by omega⟩]
      rfl
    · rw [show H.n + 1 = (H.new (.cells row e 2)).n from rfl, Heap.get_new_eq]; simp
    · show H.n ≤ H.n + 1 + 1; omega
    · intro c hc' _
      rw [Heap.get_new_ne _ _ (by show c ≠ H.n + 1; omega), Heap.get_new_ne _ _ (by omega)]
    · intro c hc'; cases hc'; omega
  · have hx' : (H.new (.cells row e 2)).get b = some (.cells rs.flatten e 2) := by rw [Heap.get_new_ne _ _ (by omega)]; exact h4
    have hmul : (rs.length + 1) * info.bytes ≤ 1000000 * 1000 := Nat.mul_le_mul (by omega) (by omega)
    refine ⟨.slice (some ⟨H.n + 1, 0, none⟩) (rs.length + 1) 0, ((H.new (.cells row e 2)).set b .gone).new (.cells (rs.flatten ++ row) e 2), b, ?_, by omega, hk _ _ ⟨hall, .inr ⟨H.n + 1, by simp, by omega, Nat.lt_succ_self _, ?_⟩⟩ ⟨?_, ?_⟩ ?_⟩
    · simp only [aappend, ht, hi, hz]
      rw [if_neg (by simp), if_neg hcell, hs, hsrc]
      simp only [Nat.one_ne_zero, if_false, hx']
      rw [if_neg (by simp), if_pos ⟨trivial, flat_len hx.1, by show rs.length + 1 ≤ 9223372036854775807; omega, by omega⟩]
      rfl
    · rw [show H.n + 1 = ((H.new (.cells row e 2)).set b .gone).n from rfl, Heap.get_new_eq]; simp
    · show H.n ≤ H.n + 1 + 1; omega
    · intro c hc' hne
      have hne' : b ≠ c := fun h => hne (by rw [h]; rfl)
      rw [Heap.get_new_ne _ _ (by show c ≠ H.n + 1; omega), Heap.get_set_ne _ _ hne', Heap.get_new_ne _ _ (by omega)]
    · intro c hc'; cases hc'; omega
/-- A field of an element is written. -/
theorem fstore_askS {K : Heap → Prop} {B B0 s : Nat} {x w : Value} {rs : List (List Value)} {j o : Nat} {r : List Value} {ft : TypeId} (hs : sizeB P ft = some 1) (hx : OwnS e s H x rs B0) (hB : B ≤ B0) (hj : rs[j]? = some r) (ho : o < s) (hw : oneC w = true)
    (hk : ∀ H', OwnS e s H' x (rs.set j (r.set o w)) B0 → KeepBut x H H' → K H') :
    ∃ H' b, astore P ft H w (fieldOf (elemS x s j) o) = some (H', b) ∧ B ≤ b ∧ K H' := by
  have hjl := (List.getElem?_eq_some_iff.1 hj).1
  have hr := hx.1 r (List.mem_of_getElem? hj)
  rcases hx.2 with ⟨rfl, rfl⟩ | ⟨b0, rfl, h2, h3, h4⟩
  · simp at hj
  · have he : fieldOf (elemS (.slice (some ⟨b0, 0, none⟩) rs.length 0) s j) o = .pointer (some ⟨b0, j * s + o, none⟩) := by simp [elemS, fieldOf]
    have hm : (j + 1) * s ≤ rs.length * s := Nat.mul_le_mul_right _ hjl
    rw [Nat.succ_mul] at hm
    rw [he]
    refine ⟨_, _, store_row hs h4 (by rw [flat_len hx.1]; omega) hw, Nat.le_trans hB h2, hk _ ⟨fun q hq => ?_, .inr ⟨b0, by simp, h2, h3, ?_⟩⟩ ⟨Nat.le_refl _, fun c hc hne => Heap.get_set_ne _ _ fun h => hne (by rw [h]; rfl)⟩⟩
    · rcases List.mem_or_eq_of_mem_set hq with h | h
      · exact hx.1 q h
      · rw [h, List.length_set, hr]
    · rw [Heap.get_set_eq, flat_set hx.1 hj ho]
/-- A copy: all of a row behind an empty one. -/
theorem copy_askS {K : Value → Heap → Prop} {B : Nat} {y : Value} {rs : List (List Value)} (ht : P.underlying t = some (.slice e)) (h1 : zeroBB P e = some (z, by')) (hb : by' ≤ 1000) (hy : RowS z.length H y rs) (hB : B ≤ H.n) (hn : rs.length < 1000000)
    (hk : ∀ r H', OwnS e z.length H' r rs H.n → Keep H H' → K r H') : ∃ v H' b, aappend P (H.new (.cells [] e 2)) #[t, t] (.slice (some ⟨H.n, 0, none⟩) 0 0) y = some (v, H', b) ∧ B ≤ b ∧ K v H' := by
  obtain ⟨info, zv, hi, hz, hs, h0, hc, hsc, hby⟩ := zeroBB_spec h1
  have hy' := (hy.keep (Keep.new H (.cells [] e 2))).source
  have hx : (H.new (.cells [] e 2)).get H.n = some (.cells [] e 2) := Heap.get_new_eq _ _
  have hcell : ¬ (info.size = 0 ∨ zv.cells.size ≠ info.size) := by
    rw [hs, hc]; simp only [not_or, Classical.not_not]; exact ⟨by omega, by simp⟩
  by_cases hr0 : rs = []
  · subst hr0
    refine ⟨.slice (some ⟨H.n, 0, none⟩) 0 0, H.new (.cells [] e 2), H.n + 1, ?_, by omega, hk _ _ ⟨by simp, .inr ⟨H.n, rfl, Nat.le_refl _, Nat.lt_succ_self _, by rw [hx]; rfl⟩⟩ (Keep.new _ _)⟩
    simp only [aappend, ht, hi, hz]
    rw [if_neg (by simp), if_neg hcell, hs, hy']
    simp only [List.length_nil, if_true]
    rfl
  · have hl : ¬ rs.length = 0 := fun h => hr0 (List.length_eq_zero_iff.1 h)
    have hmul : (0 + rs.length) * info.bytes ≤ 1000000 * 1000 := Nat.mul_le_mul (by omega) (by omega)
    refine ⟨.slice (some ⟨H.n + 1, 0, none⟩) rs.length 0, ((H.new (.cells [] e 2)).set H.n .gone).new (.cells rs.flatten e 2), H.n, ?_, hB, hk _ _ ⟨hy.1, .inr ⟨H.n + 1, rfl, by omega, Nat.lt_succ_self _, ?_⟩⟩ (((Keep.new _ _).set _ (Nat.le_refl _)).trans (Keep.new _ _))⟩
    · simp only [aappend, ht, hi, hz]
      rw [if_neg (by simp), if_neg hcell, hs, hy']
      simp only [hl, if_false, hx]
      rw [if_neg (by simp), if_pos ⟨trivial, by simp, by show 0 + rs.length ≤ 9223372036854775807; omega, by omega⟩]
      simp only [Nat.zero_add, List.nil_append]
      rfl
    · rw [show H.n + 1 = ((H.new (.cells [] e 2)).set H.n .gone).n from rfl, Heap.get_new_eq]
/-- A field of a variable is read. -/
theorem vfield_load {b o k : Nat} {cs : List Value} {ft : TypeId} {w : Value} (ht : isAggB P ft = some false) (hb : H.get b = some (.cells cs e k)) (ho : cs[o]? = some w) : aload P ft H (.pointer (some ⟨b, 0 + o, none⟩)) = some w := by
  simp [aload, hb, ht, ho]
end
end Go.AI
