/- Rows that are made, filled and grown, and maps from ints to ints. -/
import Derived.Test.YthjieekbbhhjgaaDoorEl
namespace Go.AI

/-- Nothing that was there has turned. -/
def Keep (H H' : Heap) : Prop := H.n ≤ H'.n ∧ ∀ b, b < H.n → H'.get b = H.get b
theorem Keep.refl (H : Heap) : Keep H H := ⟨Nat.le_refl _, fun _ _ => rfl⟩
theorem Keep.trans {H1 H2 H3 : Heap} (h : Keep H1 H2) (k : Keep H2 H3) : Keep H1 H3 :=
  ⟨Nat.le_trans h.1 k.1, fun b hb => (k.2 b (Nat.lt_of_lt_of_le hb h.1)).trans (h.2 b hb)⟩
theorem Keep.new (H : Heap) (o : AObj) : Keep H (H.new o) := ⟨Nat.le_succ _, fun b hb => Heap.get_new_ne _ _ (Nat.ne_of_lt hb)⟩
theorem Row.keep {H H' : Heap} {v : Value} {vs : List Value} (h : Row H v vs) (k : Keep H H') : Row H' v vs := by
  rcases h with h | h | ⟨b, i, c, cs, e, kd, h1, h2, h3, h4⟩
  · exact .inl h
  · exact .inr (.inl h)
  · exact .inr (.inr ⟨b, i, c, cs, e, kd, h1, Nat.lt_of_lt_of_le h2 k.1, by rw [k.2 b h2]; exact h3, h4⟩)
/-- Nothing that was there has turned, but for one block. -/
def KeepX (b : Nat) (H H' : Heap) : Prop := H.n ≤ H'.n ∧ ∀ c, c < H.n → c ≠ b → H'.get c = H.get c
theorem KeepX.refl (b : Nat) (H : Heap) : KeepX b H H := ⟨Nat.le_refl _, fun _ _ _ => rfl⟩
theorem KeepX.trans {b : Nat} {H1 H2 H3 : Heap} (h : KeepX b H1 H2) (k : KeepX b H2 H3) : KeepX b H1 H3 :=
  ⟨Nat.le_trans h.1 k.1, fun c hc hb => (k.2 c (Nat.lt_of_lt_of_le hc h.1) hb).trans (h.2 c hc hb)⟩
theorem Keep.butX {H H' : Heap} (h : Keep H H') (b : Nat) : KeepX b H H' := ⟨h.1, fun c hc _ => h.2 c hc⟩
theorem KeepX.keep {b : Nat} {H0 H H' : Heap} (h : KeepX b H H') (k : Keep H0 H) (hb : H0.n ≤ b) : Keep H0 H' :=
  ⟨Nat.le_trans k.1 h.1, fun c hc => (h.2 c (Nat.lt_of_lt_of_le hc k.1) (by omega)).trans (k.2 c hc)⟩
theorem Row.keepX {H H' : Heap} {b : Nat} {v : Value} {vs cs0 : List Value} {e0 : TypeId} (h : Row H v vs) (k : KeepX b H H') (hb : H.get b = some (.cells cs0 e0 1)) : Row H' v vs := by
  rcases h with h | h | ⟨b', i, c, cs, e, kd, h1, h2, h3, h4, h5⟩
  · exact .inl h
  · exact .inr (.inl h)
  · refine .inr (.inr ⟨b', i, c, cs, e, kd, h1, Nat.lt_of_lt_of_le h2 k.1, ?_, h4, h5⟩)
    rw [k.2 b' h2]
    · exact h3
    · rintro rfl; rw [hb] at h3; cases h3; exact h4 rfl
theorem Keep.set {H H' : Heap} (h : Keep H H') {b : Nat} (o : AObj) (hb : H.n ≤ b) : Keep H (H'.set b o) :=
  ⟨h.1, fun c hc => by rw [Heap.get_set_ne _ _ (by omega)]; exact h.2 c hc⟩

/-- The one cell of a type's zero, and how many bytes it takes. -/
def oneBB (P : Program) (e : TypeId) : Option (Value × Nat) :=
  match P.info? e with
  | some info => match info.zero with
    | some z => bif Nat.beq info.size 1 && oneC z && scalar z then some (z, info.bytes) else none
    | none => none
  | none => none
theorem oneC_cells {v : Value} (h : oneC v = true) : v.cells = #[v] := by cases v <;> simp_all [oneC, Value.cells]
theorem oneC_notTuple {v : Value} (h : oneC v = true) : notTuple v = true := by cases v <;> simp_all [oneC, notTuple]
theorem oneBB_spec {P : Program} {e : TypeId} {z : Value} {n : Nat} (h : oneBB P e = some (z, n)) : ∃ info, P.info? e = some info ∧ info.zero = some z ∧ info.size = 1 ∧ z.cells = #[z] ∧ scalar z = true ∧ info.bytes = n := by
  unfold oneBB at h
  split at h
  · rename_i info hi
    split at h
    · rename_i z' hz
      cases hc : (Nat.beq info.size 1 && oneC z' && scalar z') with
      | false => rw [hc] at h; simp at h
      | true =>
        rw [hc] at h
        simp only [cond_true, Option.some.injEq, Prod.mk.injEq] at h
        obtain ⟨rfl, rfl⟩ := h
        simp only [Bool.and_eq_true] at hc
        refine ⟨info, hi, hz, Nat.eq_of_beq_eq_true hc.1.1, ?_, hc.2, rfl⟩
        have := hc.1.2
        cases z' <;> simp_all [oneC, Value.cells]
    · cases h
  · cases h

section
variable {P : Program} {H : Heap} {t e : TypeId} {z : Value} {by' : Nat}

theorem make_row (ht : P.underlying t = some (.slice e)) (h1 : oneBB P e = some (z, by')) (hb : by' ≤ 16) (n : Nat) (hn : n ≤ 1000000) :
    amakeSlice P H t (.int .i64 n) (.int .i64 n) = some (.slice (some ⟨H.n, 0, none⟩) n 0, H.new (.cells (List.replicate n z) e 2), H.n) := by
  obtain ⟨info, hi, hz, hs, hc, hsc, hby⟩ := oneBB_spec h1
  have hmul : info.bytes * n ≤ 16 * 1000000 := Nat.mul_le_mul (by omega) hn
  simp only [amakeSlice, ht, hi, hz]
  rw [if_pos (by
    refine ⟨by omega, by omega, by omega, by have h := Int.ofNat_le.2 hmul; rw [Int.natCast_mul] at h; omega, by omega, by rw [hc, hs]; rfl, by rw [hc]; simp [hsc]⟩)]
  simp only [anew, Int.toNat_natCast, hs, Nat.mul_one, hc]
  congr 5
  apply List.ext_getElem
  · simp [zeros]
  · intro i h1 h2; simp [zeros, Nat.mod_one]

theorem build_one (ht : P.underlying t = some (.slice e)) (h1 : oneBB P e = some (z, by')) {v : Value} (hv : oneC v = true) :
    abuildSlice P H t 1 [(0, v)] = some (.slice (some ⟨H.n, 0, none⟩) 1 0, H.new (.cells [v] e 2), H.n) := by
  obtain ⟨info, hi, hz, hs, hc, hsc, hby⟩ := oneBB_spec h1
  have hv1 := oneC_cells hv
  have hv2 := oneC_notTuple hv
  simp only [abuildSlice, ht, hi, hz, hs, hc]
  have hz1 : zeros #[z] (1 * 1) = [z] := rfl
  rw [if_pos ⟨by omega, rfl, by simp [hsc], by omega⟩, hz1]
  simp only [fillL, hv1, List.length_singleton, hv2, splice, anew]
  rfl

theorem append_nil (ht : P.underlying t = some (.slice e)) (h1 : oneBB P e = some (z, by')) (hb : by' ≤ 16) {b' : Nat} {news : List Value} {e' : TypeId} {k : Nat} (hy : H.get b' = some (.cells news e' k)) (hn0 : 0 < news.length) (hn : news.length ≤ 1000000) :
    aappend P H #[t, t] (.slice none 0 0) (.slice (some ⟨b', 0, none⟩) news.length 0) = some (.slice (some ⟨H.n, 0, none⟩) news.length 0, H.new (.cells news e 2), H.n) := by
  obtain ⟨info, hi, hz, hs, hc, hsc, hby⟩ := oneBB_spec h1
  have hmul : news.length * info.bytes ≤ 1000000 * 16 := Nat.mul_le_mul hn (by omega)
  simp only [aappend, ht, hi, hz, hc, hs, sourceOf, hy]
  have hl : ¬ news.length = 0 := by omega
  rw [if_neg (by simp), if_neg (by simp), if_pos (by simp)]
  simp only [hl, if_false, Nat.mul_one, List.drop_zero, List.take_length, Nat.zero_add]
  rw [if_pos ⟨by show news.length ≤ 9223372036854775807; omega, by omega⟩]
  rfl
theorem append_row (ht : P.underlying t = some (.slice e)) (h1 : oneBB P e = some (z, by')) (hb : by' ≤ 16) {b b' : Nat} {cs news : List Value} {e' : TypeId} {k : Nat} (hx : H.get b = some (.cells cs e 2)) (hy : H.get b' = some (.cells news e' k)) (hn0 : 0 < news.length) (hn : cs.length + news.length ≤ 1000000) :
    aappend P H #[t, t] (.slice (some ⟨b, 0, none⟩) cs.length 0) (.slice (some ⟨b', 0, none⟩) news.length 0) = some (.slice (some ⟨H.n, 0, none⟩) (cs.length + news.length) 0, (H.set b .gone).new (.cells (cs ++ news) e 2), b) := by
  obtain ⟨info, hi, hz, hs, hc, hsc, hby⟩ := oneBB_spec h1
  have hmul : (cs.length + news.length) * info.bytes ≤ 1000000 * 16 := Nat.mul_le_mul hn (by omega)
  simp only [aappend, ht, hi, hz, hc, hs, sourceOf, hy, hx]
  have hl : ¬ news.length = 0 := by omega
  rw [if_neg (by simp), if_neg (by simp), if_pos (by simp)]
  simp only [hl, if_false, Nat.mul_one, List.drop_zero, List.take_length, Nat.zero_add]
  rw [if_neg (by simp), if_pos ⟨trivial, trivial, by show cs.length + news.length ≤ 9223372036854775807; omega, by omega⟩]
  rfl
theorem store_row (hs : sizeB P e = some 1) {b i : Nat} {cs : List Value} {e' : TypeId} {k : Nat} (hx : H.get b = some (.cells cs e' (k + 1))) (hi : i < cs.length) {v : Value} (hv : oneC v = true) :
    astore P e H v (.pointer (some ⟨b, i, none⟩)) = some (H.set b (.cells (cs.set i v) e' (k + 1)), b) := by
  have hv1 := oneC_cells hv
  have hv2 := oneC_notTuple hv
  simp [astore, hx, hs, hv1, hv2, hv, splice, show i + 1 ≤ cs.length by omega]
theorem addr_row (ht : P.underlying t = some (.slice e)) (hs : sizeB P e = some 1) {b n c : Nat} {kd : IntKind} {i : Int} (h0 : 0 ≤ i) (h1 : i < n) :
    aindexAddr P t (.slice (some ⟨b, 0, none⟩) n c) (.int kd i) = some (.pointer (some ⟨b, i.toNat, none⟩)) := by
  simp [aindexAddr, asIdx, ht, hs, h0, h1]

/-- The entries of a map from some ints to their places. -/
def mapFrom (k : IntKind) : Nat → List Int → List (Value × Value)
  | _, [] => []
  | i, x :: r => (.int k x, .int .i64 i) :: mapFrom k (i + 1) r
theorem mapFrom_length (k : IntKind) : ∀ (i : Nat) (l : List Int), (mapFrom k i l).length = l.length
  | _, [] => rfl
  | i, x :: r => by simp [mapFrom, mapFrom_length k (i + 1) r]
theorem mapFrom_snoc (k : IntKind) (x : Int) : ∀ (i : Nat) (l : List Int), mapFrom k i l ++ [(.int k x, .int .i64 (i + l.length : Nat))] = mapFrom k i (l ++ [x])
  | _, [] => rfl
  | i, y :: r => by simp [mapFrom, ← mapFrom_snoc k x (i + 1) r, show i + 1 + r.length = i + (r.length + 1) by omega]
theorem findA_from {k0 k : IntKind} (x : Int) : ∀ (i : Nat) (l : List Int) (j : Nat), findA (.int k0) (.int k x) (mapFrom k i l) j = some (if x ∈ l then some (j + l.idxOf x, .int .i64 (i + l.idxOf x : Nat)) else none)
  | _, [], _ => by simp [mapFrom, findA]
  | i, y :: r, j => by
    simp only [mapFrom, findA, Instr.sameNow, if_true]
    by_cases h : x = y
    · subst h; simp
    · have h' : (x == y) = false := by simpa using h
      rw [h']
      simp only []
      rw [findA_from x (i + 1) r (j + 1)]
      have h2 : ¬ y = x := fun h3 => h h3.symm
      simp only [List.mem_cons, h, false_or, List.idxOf_cons, beq_eq_false_iff_ne.2 h2, cond_false]
      split
      · rw [show i + 1 + List.idxOf x r = i + (List.idxOf x r + 1) by omega, show j + 1 + List.idxOf x r = j + (List.idxOf x r + 1) by omega]
      · rfl
theorem checkKey_int {k0 k : IntKind} {kt : TypeId} {x : Int} {em : Bool} (hk : P.underlying kt = some (.int k0)) : (pureRun P (Instr.checkKey em 10000 kt (.int k x))).isSome = true := by
  rw [show (10000 : Nat) = 9999 + 1 from rfl, Instr.checkKey, pureRun_bind, pureRun_underlying hk]
  rfl
theorem lookup_from {kt et : TypeId} {k0 k : IntKind} (hm : P.underlying t = some (.map kt et)) (hk : P.underlying kt = some (.int k0)) (h1 : oneBB P et = some (.int .i64 0, by')) {r : Nat} {l : List Int} (hr : H.get r = some (.map (mapFrom k 0 l))) (x : Int) :
    alookup P H t (.map (some r)) (.int k x) true = some (if x ∈ l then .tuple #[.int .i64 (l.idxOf x : Nat), .bool true] else .tuple #[.int .i64 0, .bool false]) := by
  obtain ⟨info, hi, hz, _⟩ := oneBB_spec h1
  simp only [alookup, amap, hm, hr, hk, hi, hz, Option.bind_some]
  rw [if_pos ⟨rfl, rfl, rfl, checkKey_int hk⟩, findA_from]
  split <;> rename_i heq
  · split at heq
    · cases heq; simp_all
    · cases heq
  · split at heq
    · cases heq
    · simp_all
  · cases heq
theorem update_from {kt et : TypeId} {k0 k : IntKind} (hm : P.underlying t = some (.map kt et)) (hk : P.underlying kt = some (.int k0)) {r : Nat} {l : List Int} (hr : H.get r = some (.map (mapFrom k 0 l))) {x : Int} (hx : x ∉ l) :
    amapUpdate P H t (.map (some r)) (.int k x) (.int .i64 (l.length : Nat)) = some (H.set r (.map (mapFrom k 0 (l ++ [x]))), r) := by
  simp only [amapUpdate, hm, hr, hk]
  rw [if_pos ⟨rfl, rfl, checkKey_int hk⟩, findA_from, if_neg hx]
  simp only
  rw [← mapFrom_snoc k x 0 l]
  simp
theorem len_from {kt et : TypeId} {k : IntKind} (hm : P.underlying t = some (.map kt et)) {r : Nat} {l : List Int} (hr : H.get r = some (.map (mapFrom k 0 l))) : alen P H t (.map (some r)) = some (.int .i64 (l.length : Nat)) := by
  simp [alen, hm, hr, mapFrom_length]
/-- A row of one's own: it begins at B or behind, and may grow. -/
def Own (e : TypeId) (H : Heap) (v : Value) (vs : List Value) (B : Nat) : Prop :=
  (v = .slice none 0 0 ∧ vs = []) ∨ ∃ b, v = .slice (some ⟨b, 0, none⟩) vs.length 0 ∧ B ≤ b ∧ b < H.n ∧ H.get b = some (.cells vs e 2)
theorem Own.row {e : TypeId} {H : Heap} {v : Value} {vs : List Value} {B : Nat} (h : Own e H v vs B) : Row H v vs := by
  rcases h with h | ⟨b, h1, h2, h3, h4⟩
  · exact .inl h
  · exact .inr (.inr ⟨b, 0, 0, vs, e, 2, h1, h3, h4, by simp, by simp, fun j w hj => by simpa using hj⟩)
theorem Own.keep {e : TypeId} {H H' : Heap} {v : Value} {vs : List Value} {B : Nat} (h : Own e H v vs B) (k : Keep H H') : Own e H' v vs B := by
  rcases h with h | ⟨b, h1, h2, h3, h4⟩
  · exact .inl h
  · exact .inr ⟨b, h1, h2, Nat.lt_of_lt_of_le h3 k.1, by rw [k.2 b h3]; exact h4⟩
theorem Own.keepX {e : TypeId} {H H' : Heap} {b : Nat} {v : Value} {vs cs0 : List Value} {e0 : TypeId} {B : Nat} (h : Own e H v vs B) (k : KeepX b H H') (hb : H.get b = some (.cells cs0 e0 1)) : Own e H' v vs B := by
  rcases h with h | ⟨b', h1, h2, h3, h4⟩
  · exact .inl h
  · refine .inr ⟨b', h1, h2, Nat.lt_of_lt_of_le h3 k.1, ?_⟩
    rw [k.2 b' h3]
    · exact h4
    · rintro rfl; rw [hb] at h4; cases h4
theorem Own.notTuple {e : TypeId} {H : Heap} {v : Value} {vs : List Value} {B : Nat} (h : Own e H v vs B) : AI.notTuple v = true := by
  rcases h with ⟨rfl, _⟩ | ⟨_, rfl, _⟩ <;> rfl
/-- One more value at the end. -/
theorem append_own (ht : P.underlying t = some (.slice e)) (h1 : oneBB P e = some (z, by')) (hb : by' ≤ 16) {x w : Value} {vs : List Value} {B : Nat} (hx : Own e H x vs B) (hB : B ≤ H.n) (hn : vs.length < 1000000) :
    ∃ r H' b, aappend P (H.new (.cells [w] e 2)) #[t, t] x (.slice (some ⟨H.n, 0, none⟩) 1 0) = some (r, H', b) ∧ B ≤ b ∧ Own e H' r (vs ++ [w]) B ∧ ∀ H0, Keep H0 H → H0.n ≤ B → Keep H0 H' := by
  have hy : (H.new (.cells [w] e 2)).get H.n = some (.cells [w] e 2) := Heap.get_new_eq _ _
  rcases hx with ⟨rfl, rfl⟩ | ⟨b, rfl, h2, h3, h4⟩
  · refine ⟨_, _, _, append_nil ht h1 hb (news := [w]) hy (by simp) (by simp), ?_, .inr ⟨_, rfl, ?_, ?_, Heap.get_new_eq _ _⟩, fun H0 k _ => k.trans ((Keep.new _ _).trans (Keep.new _ _))⟩
    · show B ≤ H.n + 1; omega
    · show B ≤ H.n + 1; omega
    · show H.n + 1 < H.n + 1 + 1; omega
  · have hx' : (H.new (.cells [w] e 2)).get b = some (.cells vs e 2) := by rw [Heap.get_new_ne _ _ (by omega)]; exact h4
    refine ⟨_, _, _, append_row ht h1 hb (news := [w]) hx' hy (by simp) (by simp; omega), h2, .inr ⟨_, ?_, ?_, ?_, Heap.get_new_eq _ _⟩, fun H0 k hk => (((k.trans (Keep.new _ _)).set _ (by omega)).trans (Keep.new _ _))⟩
    · simp
    · show B ≤ H.n + 1; omega
    · show H.n + 1 < H.n + 1 + 1; omega
theorem Row.source {v : Value} {vs : List Value} (h : Row H v vs) : sourceOf H 1 v = some (vs, vs.length) := by
  rcases h with ⟨rfl, rfl⟩ | ⟨rfl, rfl⟩ | ⟨b, i, c, cs, e, k, rfl, _, hb, _, hl, hc⟩
  · rfl
  · rfl
  · simp only [sourceOf, hb, Nat.mul_one]
    rw [if_pos hl]
    congr 2
    apply List.ext_getElem?
    intro j
    by_cases hj : j < vs.length
    · rw [List.getElem?_take_of_lt hj, List.getElem?_drop, hc j _ (List.getElem?_eq_getElem hj), List.getElem?_eq_getElem hj]
    · rw [List.getElem?_eq_none (by simp; omega), List.getElem?_eq_none (by omega)]
theorem build_none (ht : P.underlying t = some (.slice e)) (h1 : oneBB P e = some (z, by')) : abuildSlice P H t 0 [] = some (.slice (some ⟨H.n, 0, none⟩) 0 0, H.new (.cells [] e 2), H.n) := by
  obtain ⟨info, hi, hz, hs, hc, hsc, hby⟩ := oneBB_spec h1
  simp only [abuildSlice, ht, hi, hz, hs, hc]
  rw [if_pos ⟨by omega, rfl, by simp [hsc], by omega⟩]
  rfl
/-- A copy: all of a row behind an empty one. -/
theorem append_copy (ht : P.underlying t = some (.slice e)) (h1 : oneBB P e = some (z, by')) (hb : by' ≤ 16) {y : Value} {vs : List Value} (hy : Row H y vs) (hn : vs.length < 1000000) :
    ∃ r H' b, aappend P (H.new (.cells [] e 2)) #[t, t] (.slice (some ⟨H.n, 0, none⟩) 0 0) y = some (r, H', b) ∧ H.n ≤ b ∧ Own e H' r vs H.n ∧ Keep H H' := by
  obtain ⟨info, hi, hz, hs, hc, hsc, hby⟩ := oneBB_spec h1
  have hy' := (hy.keep (Keep.new H (.cells [] e 2))).source
  have hx : (H.new (.cells [] e 2)).get H.n = some (.cells [] e 2) := Heap.get_new_eq _ _
  by_cases h0 : vs = []
  · subst h0
    refine ⟨.slice (some ⟨H.n, 0, none⟩) 0 0, H.new (.cells [] e 2), (H.new (.cells [] e 2)).n, ?_, ?_, .inr ⟨H.n, rfl, Nat.le_refl _, Nat.lt_succ_self _, hx⟩, Keep.new _ _⟩
    · simp only [aappend, ht, hi, hz, hc, hs, hy']
      rw [if_neg (by simp), if_neg (by simp)]
      rfl
    · show H.n ≤ H.n + 1; omega
  · have hl : ¬ vs.length = 0 := fun h => h0 (List.length_eq_zero_iff.1 h)
    have hmul : vs.length * info.bytes ≤ 1000000 * 16 := Nat.mul_le_mul (by omega) (by omega)
    refine ⟨.slice (some ⟨H.n + 1, 0, none⟩) vs.length 0, ((H.new (.cells [] e 2)).set H.n .gone).new (.cells vs e 2), H.n, ?_, ?_, .inr ⟨H.n + 1, rfl, ?_, ?_, Heap.get_new_eq _ _⟩, ?_⟩
    · simp only [aappend, ht, hi, hz, hc, hs, hy', hx]
      rw [if_neg (by simp), if_neg (by simp), if_neg hl, if_neg (by simp)]
      rw [if_pos ⟨trivial, by simp, by show 0 + vs.length ≤ 9223372036854775807; omega, by simp; omega⟩]
      simp only [Nat.zero_add, List.nil_append]
      rfl
    · exact Nat.le_refl _
    · show H.n ≤ H.n + 1; omega
    · show H.n + 1 < H.n + 1 + 1; omega
    · exact ((Keep.new _ _).set _ (Nat.le_refl _)).trans (Keep.new _ _)
end
end Go.AI
