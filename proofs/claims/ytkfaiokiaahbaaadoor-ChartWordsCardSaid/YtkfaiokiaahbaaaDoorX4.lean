/- Several texts in one. -/
import Derived.Test.YtkfaiokiaahbaaaDoorX3
import Derived.Below
set_option linter.unusedVariables false
set_option linter.unusedSimpArgs false
/- The abstract machine: what is found by evaluation, on a memory of the globals alone, holds everywhere. -/
namespace Go.AI

/-- A memory of these blocks. -/
def laid : List AObj → Heap → Heap
  | [], H => H
  | o :: l, H => laid l (H.new o)
theorem laid_n : ∀ (l : List AObj) (H : Heap), (laid l H).n = H.n + l.length
  | [], _ => rfl
  | o :: l, H => by rw [laid, laid_n l]; simp [Heap.new]; omega
theorem laid_get : ∀ (l : List AObj) (H : Heap), (∀ b o, H.get b = some o → b < H.n) → ∀ b o, (laid l H).get b = some o ↔ (H.get b = some o ∨ ∃ i, b = H.n + i ∧ l[i]? = some o)
  | [], H, hH, b, o => by simp [laid]
  | x :: l, H, hH, b, o => by
    have hH' : ∀ b o, (H.new x).get b = some o → b < (H.new x).n := by
      intro b o h
      show b < H.n + 1
      by_cases hb : b = H.n
      · omega
      · rw [Heap.get_new_ne _ _ hb] at h; have := hH b o h; omega
    rw [laid, laid_get l _ hH' b o]
    constructor
    · rintro (h | ⟨i, rfl, h⟩)
      · by_cases hb : b = H.n
        · subst hb; rw [Heap.get_new_eq] at h
          exact .inr ⟨0, by simp, by simpa using h⟩
        · rw [Heap.get_new_ne _ _ hb] at h; exact .inl h
      · exact .inr ⟨i + 1, by show H.n + 1 + i = H.n + (i + 1); omega, by simpa using h⟩
    · rintro (h | ⟨i, rfl, h⟩)
      · have := hH b o h
        exact .inl (by rw [Heap.get_new_ne _ _ (by omega)]; exact h)
      · cases i with
        | zero => exact .inl (by simp at h; rw [show H.n + 0 = H.n from rfl, Heap.get_new_eq, h])
        | succ i => exact .inr ⟨i, by show H.n + (i + 1) = H.n + 1 + i; omega, by simpa using h⟩
def nothing : Heap := ⟨0, .leaf⟩
def baseHeap (l : List AObj) : Heap := laid l nothing
theorem base_n (l : List AObj) : (baseHeap l).n = l.length := by rw [baseHeap, laid_n]; simp [nothing]
theorem base_get (l : List AObj) (b : Nat) (o : AObj) : (baseHeap l).get b = some o ↔ l[b]? = some o := by
  rw [baseHeap, laid_get l nothing (by intro b o h; simp [nothing, Heap.get, Tr.get] at h) b o]
  constructor
  · rintro (h | ⟨i, rfl, h⟩)
    · simp [nothing, Heap.get, Tr.get] at h
    · simpa [nothing] using h
  · intro h; exact .inr ⟨b, by simp [nothing], h⟩

/-- A block of memory that is only read, of values that name none. -/
def calm : AObj → Bool
  | .gone => true
  | .cells cs _ 0 => cs.all scalar
  | _ => false

theorem scalars_eq {ρ : Ren} : ∀ (cs ys : List Value), cs.all scalar = true → L2 (VC ρ) cs ys → ys = cs
  | _, _, _, .nil => rfl
  | c :: cs, y :: ys, h, .cons h1 h2 => by
    simp only [List.all_cons, Bool.and_eq_true] at h
    rw [scalars_eq cs ys h.2 h2]
    have : VT ρ c y := .one (.cell h1)
    rw [this.plain (by
      have := h.1
      cases c <;> simp_all [plain, flat, scalar])]
theorem scalars_refl {ρ : Ren} : ∀ (cs : List Value), cs.all scalar = true → L2 (VC ρ) cs cs
  | [], _ => .nil
  | c :: cs, h => by
    simp only [List.all_cons, Bool.and_eq_true] at h
    exact .cons (.same h.1) (scalars_refl cs h.2)
theorem calm_or {P : Program} {B : Nat} {ρ ρ' : Ren} {w : World} {e : Ent} {o : AObj} (hc : calm o = true) (h : OR P B ρ w e o) : OR P B ρ' w e o := by
  match o, hc, h with
  | .gone, _, _ => trivial
  | .cells cs _ 0, hc, ⟨h1, ys, h2, h3⟩ =>
    have := scalars_eq cs ys hc h2
    subst this
    exact ⟨h1, _, scalars_refl _ hc, h3⟩

/-- A function without arguments that is evaluated on the globals alone. -/
def found (P : Program) (l : List AObj) (k f : Nat) (v : Value) : Prop :=
  ∃ H' lo, @call P (Oracle.none P) k (.fn f) [] (baseHeap l) = some (v, H', lo) ∧ (baseHeap l).n ≤ lo

theorem found_ok {P : Program} {B : Nat} (hm : P.follows .mixedOrders = true) {l : List AObj} (hl : l.all calm = true) (hn : l.length = P.globals.size) {k f : Nat} {v : Value} (hp : plain v = true) (h : found P l k f v)
    {H : Heap} (hH : ∀ b o, l[b]? = some o → H.get b = some o) {ρ : Ren} {w : World} {args : Array Value} (kf : Nat) (hR : HR P B ρ H w) (ha : L2 (VT ρ) [] args.toList) :
    CallsIn Fence.wide kf P f args w (fun e w' => ∃ ρ' v', e = .returned v' ∧ VT ρ' v v' ∧ HR P B ρ' H w' ∧ Ext B ρ ρ' H.n w w') := by
  obtain ⟨H', lo, h1, h2⟩ := h
  let ρb : Ren := fun b => if b < l.length then ρ b else none
  have hρb : ∀ b e, ρb b = some e → b < l.length ∧ ρ b = some e := fun b e hb => by
    simp only [ρb] at hb; split at hb
    · exact ⟨by assumption, hb⟩
    · cases hb
  have hbase : ∀ b o, (baseHeap l).get b = some o → b < l.length ∧ calm o = true ∧ H.get b = some o := fun b o hb => by
    rw [base_get] at hb
    exact ⟨(List.getElem?_eq_some_iff.1 hb).1, List.all_eq_true.1 hl o (List.mem_of_getElem? hb), hH b o hb⟩
  have hRb : HR P B ρb (baseHeap l) w := by
    refine ⟨fun b hb => ?_, fun b e hb => ?_, fun b o hb => ?_, fun b o e ho he => ?_, fun b b' o o' e e' ho ho' he he' hw hw' => ?_, fun b e he => hR.top b e (hρb b e he).2, fun g hg => ?_, hR.old⟩
    · rw [base_n] at hb
      have : H.get b = some l[b] := hH b _ (by simp [hb])
      obtain ⟨e, he⟩ := hR.dom b (hR.objs b _ this)
      exact ⟨e, by simp only [ρb, hb, if_true]; exact he⟩
    · rw [base_n]; exact (hρb b e hb).1
    · rw [base_n]; exact (hbase b o hb).1
    · exact calm_or (hbase b o ho).2.1 (hR.obj b o e (hbase b o ho).2.2 (hρb b e he).2)
    · exact hR.inj b b' o o' e e' (hbase b o ho).2.2 (hbase b' o' ho').2.2 (hρb b e he).2 (hρb b' e' he').2 hw hw'
    · obtain ⟨c, hc⟩ := hR.glob g hg
      exact ⟨c, by simp only [ρb, show g < l.length by omega, if_true]; exact hc⟩
  have ha' : L2 (VT ρb) [] args.toList := by
    cases hh : args.toList with
    | nil => exact .nil
    | cons x y => rw [hh] at ha; cases ha
  have := @call_sound P B (Oracle.none P) (fun f v hv => by cases hv) hm k (.fn f) [] (baseHeap l) v H' lo h1 ρb w args kf hRb ha'
  replace this : CallsIn Fence.wide kf P f args w _ := this.2
  refine this.mono ?_
  rintro e w' ⟨ρ', v', rfl, h3, h4, h5⟩
  have hb := h5.below hRb h2
  rw [h3.plain hp]
  exact ⟨ρ, v, rfl, .of_plain hp, hR.below hb, Ext.of_below _ hb⟩
end Go.AI

/- Rows that are made, filled and grown, and maps from ints to ints. -/
namespace Go.AI

/-- Nothing that was there has turned. -/
def Keep (H H' : Heap) : Prop := H.n ≤ H'.n ∧ ∀ b, b < H.n → H'.get b = H.get b
theorem Keep.refl (H : Heap) : Keep H H := ⟨Nat.le_refl _, fun _ _ => rfl⟩
theorem Keep.trans {H1 H2 H3 : Heap} (h : Keep H1 H2) (k : Keep H2 H3) : Keep H1 H3 :=
  ⟨Nat.le_trans h.1 k.1, fun b hb => (k.2 b (Nat.lt_of_lt_of_le hb h.1)).trans (h.2 b hb)⟩
theorem Keep.new (H : Heap) (o : AObj) : Keep H (H.new o) := ⟨Nat.le_succ _, fun b hb => Heap.get_new_ne _ _ (Nat.ne_of_lt hb)⟩
theorem Row.keep {H H' : Heap} {v : Value} {vs : List Value} (h : Row H v vs) (k : Keep H H') : Row H' v vs := by
  rcases h with h | h | ⟨b, i, c, cs, e, kd, h1, h2, h3, h4⟩
  · exact .inl h
  · exact .inr (.inl h)
  · exact .inr (.inr ⟨b, i, c, cs, e, kd, h1, Nat.lt_of_lt_of_le h2 k.1, by rw [k.2 b h2]; exact h3, h4⟩)
/-- Nothing that was there has turned, but for one block. -/
def KeepX (b : Nat) (H H' : Heap) : Prop := H.n ≤ H'.n ∧ ∀ c, c < H.n → c ≠ b → H'.get c = H.get c
theorem KeepX.refl (b : Nat) (H : Heap) : KeepX b H H := ⟨Nat.le_refl _, fun _ _ _ => rfl⟩
theorem KeepX.trans {b : Nat} {H1 H2 H3 : Heap} (h : KeepX b H1 H2) (k : KeepX b H2 H3) : KeepX b H1 H3 :=
  ⟨Nat.le_trans h.1 k.1, fun c hc hb => (k.2 c (Nat.lt_of_lt_of_le hc h.1) hb).trans (h.2 c hc hb)⟩
theorem Keep.butX {H H' : Heap} (h : Keep H H') (b : Nat) : KeepX b H H' := ⟨h.1, fun c hc _ => h.2 c hc⟩
theorem KeepX.keep {b : Nat} {H0 H H' : Heap} (h : KeepX b H H') (k : Keep H0 H) (hb : H0.n ≤ b) : Keep H0 H' :=
  ⟨Nat.le_trans k.1 h.1, fun c hc => (h.2 c (Nat.lt_of_lt_of_le hc k.1) (by omega)).trans (k.2 c hc)⟩
theorem Row.keepX {H H' : Heap} {b : Nat} {v : Value} {vs cs0 : List Value} {e0 : TypeId} (h : Row H v vs) (k : KeepX b H H') (hb : H.get b = some (.cells cs0 e0 1)) : Row H' v vs := by
  rcases h with h | h | ⟨b', i, c, cs, e, kd, h1, h2, h3, h4, h5⟩
  · exact .inl h
  · exact .inr (.inl h)
  · refine .inr (.inr ⟨b', i, c, cs, e, kd, h1, Nat.lt_of_lt_of_le h2 k.1, ?_, h4, h5⟩)
    rw [k.2 b' h2]
    · exact h3
    · rintro rfl; rw [hb] at h3; cases h3; exact h4 rfl
theorem Keep.set {H H' : Heap} (h : Keep H H') {b : Nat} (o : AObj) (hb : H.n ≤ b) : Keep H (H'.set b o) :=
  ⟨h.1, fun c hc => by rw [Heap.get_set_ne _ _ (by omega)]; exact h.2 c hc⟩

/-- The one cell of a type's zero, and how many bytes it takes. -/
def oneBB (P : Program) (e : TypeId) : Option (Value × Nat) :=
  match P.info? e with
  | some info => match info.zero with
    | some z => bif Nat.beq info.size 1 && oneC z && scalar z then some (z, info.bytes) else none
    | none => none
  | none => none
theorem oneC_cells {v : Value} (h : oneC v = true) : v.cells = #[v] := by cases v <;> simp_all [oneC, Value.cells]
theorem oneC_notTuple {v : Value} (h : oneC v = true) : notTuple v = true := by cases v <;> simp_all [oneC, notTuple]
theorem oneBB_spec {P : Program} {e : TypeId} {z : Value} {n : Nat} (h : oneBB P e = some (z, n)) : ∃ info, P.info? e = some info ∧ info.zero = some z ∧ info.size = 1 ∧ z.cells = #[z] ∧ scalar z = true ∧ info.bytes = n := by
  unfold oneBB at h
  split at h
  · rename_i info hi
    split at h
    · rename_i z' hz
      cases hc : (Nat.beq info.size 1 && oneC z' && scalar z') with
      | false => rw [hc] at h; simp at h
      | true =>
        rw [hc] at h
        simp only [cond_true, Option.some.injEq, Prod.mk.injEq] at h
        obtain ⟨rfl, rfl⟩ := h
        simp only [Bool.and_eq_true] at hc
        refine ⟨info, hi, hz, Nat.eq_of_beq_eq_true hc.1.1, ?_, hc.2, rfl⟩
        have := hc.1.2
        cases z' <;> simp_all [oneC, Value.cells]
    · cases h
  · cases h

section
variable {P : Program} {H : Heap} {t e : TypeId} {z : Value} {by' : Nat}

theorem make_row (ht : P.underlying t = some (.slice e)) (h1 : oneBB P e = some (z, by')) (hb : by' ≤ 16) (n : Nat) (hn : n ≤ 1000000) :
    amakeSlice P H t (.int .i64 n) (.int .i64 n) = some (.slice (some ⟨H.n, 0, none⟩) n 0, H.new (.cells (List.replicate n z) e 2), H.n) := by
  obtain ⟨info, hi, hz, hs, hc, hsc, hby⟩ := oneBB_spec h1
  have hmul : info.bytes * n ≤ 16 * 1000000 := Nat.mul_le_mul (by omega) hn
  simp only [amakeSlice, ht, hi, hz]
  rw [if_pos (by
    refine ⟨by omega, by omega, by omega, by have h := Int.ofNat_le.2 hmul; rw [Int.natCast_mul] at h; omega, by omega, by rw [hc, hs]; rfl, by rw [hc]; simp [hsc]⟩)]
  simp only [anew, Int.toNat_natCast, hs, Nat.mul_one, hc]
  congr 5
  apply List.ext_getElem
  · simp [zeros]
  · intro i h1 h2; simp [zeros, Nat.mod_one]

theorem build_one (ht : P.underlying t = some (.slice e)) (h1 : oneBB P e = some (z, by')) {v : Value} (hv : oneC v = true) :
    abuildSlice P H t 1 [(0, v)] = some (.slice (some ⟨H.n, 0, none⟩) 1 0, H.new (.cells [v] e 2), H.n) := by
  obtain ⟨info, hi, hz, hs, hc, hsc, hby⟩ := oneBB_spec h1
  have hv1 := oneC_cells hv
  have hv2 := oneC_notTuple hv
  simp only [abuildSlice, ht, hi, hz, hs, hc]
  have hz1 : zeros #[z] (1 * 1) = [z] := rfl
  rw [if_pos ⟨by omega, rfl, by simp [hsc], by omega⟩, hz1]
  simp only [fillL, hv1, List.length_singleton, hv2, splice, anew]
  rfl

theorem append_nil (ht : P.underlying t = some (.slice e)) (h1 : oneBB P e = some (z, by')) (hb : by' ≤ 16) {b' : Nat} {news : List Value} {e' : TypeId} {k : Nat} (hy : H.get b' = some (.cells news e' k)) (hn0 : 0 < news.length) (hn : news.length ≤ 1000000) :
    aappend P H #[t, t] (.slice none 0 0) (.slice (some ⟨b', 0, none⟩) news.length 0) = some (.slice (some ⟨H.n, 0, none⟩) news.length 0, H.new (.cells news e 2), H.n) := by
  obtain ⟨info, hi, hz, hs, hc, hsc, hby⟩ := oneBB_spec h1
  have hmul : news.length * info.bytes ≤ 1000000 * 16 := Nat.mul_le_mul hn (by omega)
  simp only [aappend, ht, hi, hz, hc, hs, sourceOf, hy]
  have hl : ¬ news.length = 0 := by omega
  rw [if_neg (by simp), if_neg (by simp), if_pos (by simp)]
  simp only [hl, if_false, Nat.mul_one, List.drop_zero, List.take_length, Nat.zero_add]
  rw [if_pos ⟨by show news.length ≤ 9223372036854775807; omega, by omega⟩]
  rfl
theorem append_row (ht : P.underlying t = some (.slice e)) (h1 : oneBB P e = some (z, by')) (hb : by' ≤ 16) {b b' : Nat} {cs news : List Value} {e' : TypeId} {k : Nat} (hx : H.get b = some (.cells cs e 2)) (hy : H.get b' = some (.cells news e' k)) (hn0 : 0 < news.length) (hn : cs.length + news.length ≤ 1000000) :
    aappend P H #[t, t] (.slice (some ⟨b, 0, none⟩) cs.length 0) (.slice (some ⟨b', 0, none⟩) news.length 0) = some (.slice (some ⟨H.n, 0, none⟩) (cs.length + news.length) 0, (H.set b .gone).new (.cells (cs ++ news) e 2), b) := by
  obtain ⟨info, hi, hz, hs, hc, hsc, hby⟩ := oneBB_spec h1
  have hmul : (cs.length + news.length) * info.bytes ≤ 1000000 * 16 := Nat.mul_le_mul hn (by omega)
  simp only [aappend, ht, hi, hz, hc, hs, sourceOf, hy, hx]
  have hl : ¬ news.length = 0 := by omega
  rw [if_neg (by simp), if_neg (by simp), if_pos (by simp)]
  simp only [hl, if_false, Nat.mul_one, List.drop_zero, List.take_length, Nat.zero_add]
  rw [if_neg (by simp), if_pos ⟨trivial, trivial, by show cs.length + news.length ≤ 9223372036854775807; omega, by omega⟩]
  rfl
theorem store_row (hs : sizeB P e = some 1) {b i : Nat} {cs : List Value} {e' : TypeId} {k : Nat} (hx : H.get b = some (.cells cs e' (k + 1))) (hi : i < cs.length) {v : Value} (hv : oneC v = true) :
    astore P e H v (.pointer (some ⟨b, i, none⟩)) = some (H.set b (.cells (cs.set i v) e' (k + 1)), b) := by
  have hv1 := oneC_cells hv
  have hv2 := oneC_notTuple hv
  simp [astore, hx, hs, hv1, hv2, hv, splice, show i + 1 ≤ cs.length by omega]
theorem addr_row (ht : P.underlying t = some (.slice e)) (hs : sizeB P e = some 1) {b n c : Nat} {kd : IntKind} {i : Int} (h0 : 0 ≤ i) (h1 : i < n) :
    aindexAddr P t (.slice (some ⟨b, 0, none⟩) n c) (.int kd i) = some (.pointer (some ⟨b, i.toNat, none⟩)) := by
  simp [aindexAddr, asIdx, ht, hs, h0, h1]

/-- The entries of a map from some ints to their places. -/
def mapFrom (k : IntKind) : Nat → List Int → List (Value × Value)
  | _, [] => []
  | i, x :: r => (.int k x, .int .i64 i) :: mapFrom k (i + 1) r
theorem mapFrom_length (k : IntKind) : ∀ (i : Nat) (l : List Int), (mapFrom k i l).length = l.length
  | _, [] => rfl
  | i, x :: r => by simp [mapFrom, mapFrom_length k (i + 1) r]
theorem mapFrom_snoc (k : IntKind) (x : Int) : ∀ (i : Nat) (l : List Int), mapFrom k i l ++ [(.int k x, .int .i64 (i + l.length : Nat))] = mapFrom k i (l ++ [x])
  | _, [] => rfl
  | i, y :: r => by simp [mapFrom, ← mapFrom_snoc k x (i + 1) r, show i + 1 + r.length = i + (r.length + 1) by omega]
theorem findA_from {k0 k : IntKind} (x : Int) : ∀ (i : Nat) (l : List Int) (j : Nat), findA (.int k0) (.int k x) (mapFrom k i l) j = some (if x ∈ l then some (j + l.idxOf x, .int .i64 (i + l.idxOf x : Nat)) else none)
  | _, [], _ => by simp [mapFrom, findA]
  | i, y :: r, j => by
    simp only [mapFrom, findA, Instr.sameNow, if_true]
    by_cases h : x = y
    · subst h; simp
    · have h' : (x == y) = false := by simpa using h
      rw [h']
      simp only []
      rw [findA_from x (i + 1) r (j + 1)]
      have h2 : ¬ y = x := fun h3 => h h3.symm
      simp only [List.mem_cons, h, false_or, List.idxOf_cons, beq_eq_false_iff_ne.2 h2, cond_false]
      split
      · rw [show i + 1 + List.idxOf x r = i + (List.idxOf x r + 1) by omega, show j + 1 + List.idxOf x r = j + (List.idxOf x r + 1) by omega]
      · rfl
theorem checkKey_int {k0 k : IntKind} {kt : TypeId} {x : Int} {em : Bool} (hk : P.underlying kt = some (.int k0)) : (pureRun P (Instr.checkKey em 10000 kt (.int k x))).isSome = true := by
  rw [show (10000 : Nat) = 9999 + 1 from rfl, Instr.checkKey, pureRun_bind, pureRun_underlying hk]
  rfl
theorem lookup_from {kt et : TypeId} {k0 k : IntKind} (hm : P.underlying t = some (.map kt et)) (hk : P.underlying kt = some (.int k0)) (h1 : oneBB P et = some (.int .i64 0, by')) {r : Nat} {l : List Int} (hr : H.get r = some (.map (mapFrom k 0 l))) (x : Int) :
    alookup P H t (.map (some r)) (.int k x) true = some (if x ∈ l then .tuple #[.int .i64 (l.idxOf x : Nat), .bool true] else .tuple #[.int .i64 0, .bool false]) := by
  obtain ⟨info, hi, hz, _⟩ := oneBB_spec h1
  simp only [alookup, amap, hm, hr, hk, hi, hz, Option.bind_some]
  rw [if_pos ⟨rfl, rfl, rfl, checkKey_int hk⟩, findA_from]
  split <;> rename_i heq
  · split at heq
    · cases heq; simp_all
    · cases heq
  · split at heq
    · cases heq
    · simp_all
  · cases heq
theorem update_from {kt et : TypeId} {k0 k : IntKind} (hm : P.underlying t = some (.map kt et)) (hk : P.underlying kt = some (.int k0)) {r : Nat} {l : List Int} (hr : H.get r = some (.map (mapFrom k 0 l))) {x : Int} (hx : x ∉ l) :
    amapUpdate P H t (.map (some r)) (.int k x) (.int .i64 (l.length : Nat)) = some (H.set r (.map (mapFrom k 0 (l ++ [x]))), r) := by
  simp only [amapUpdate, hm, hr, hk]
  rw [if_pos ⟨rfl, rfl, checkKey_int hk⟩, findA_from, if_neg hx]
  simp only
  rw [← mapFrom_snoc k x 0 l]
  simp
theorem len_from {kt et : TypeId} {k : IntKind} (hm : P.underlying t = some (.map kt et)) {r : Nat} {l : List Int} (hr : H.get r = some (.map (mapFrom k 0 l))) : alen P H t (.map (some r)) = some (.int .i64 (l.length : Nat)) := by
  simp [alen, hm, hr, mapFrom_length]
/-- A row of one's own: it begins at B or behind, and may grow. -/
def Own (e : TypeId) (H : Heap) (v : Value) (vs : List Value) (B : Nat) : Prop :=
  (v = .slice none 0 0 ∧ vs = []) ∨ ∃ b, v = .slice (some ⟨b, 0, none⟩) vs.length 0 ∧ B ≤ b ∧ b < H.n ∧ H.get b = some (.cells vs e 2)
theorem Own.row {e : TypeId} {H : Heap} {v : Value} {vs : List Value} {B : Nat} (h : Own e H v vs B) : Row H v vs := by
  rcases h with h | ⟨b, h1, h2, h3, h4⟩
  · exact .inl h
  · exact .inr (.inr ⟨b, 0, 0, vs, e, 2, h1, h3, h4, by simp, by simp, fun j w hj => by simpa using hj⟩)
theorem Own.keep {e : TypeId} {H H' : Heap} {v : Value} {vs : List Value} {B : Nat} (h : Own e H v vs B) (k : Keep H H') : Own e H' v vs B := by
  rcases h with h | ⟨b, h1, h2, h3, h4⟩
  · exact .inl h
  · exact .inr ⟨b, h1, h2, Nat.lt_of_lt_of_le h3 k.1, by rw [k.2 b h3]; exact h4⟩
theorem Own.keepX {e : TypeId} {H H' : Heap} {b : Nat} {v : Value} {vs cs0 : List Value} {e0 : TypeId} {B : Nat} (h : Own e H v vs B) (k : KeepX b H H') (hb : H.get b = some (.cells cs0 e0 1)) : Own e H' v vs B := by
  rcases h with h | ⟨b', h1, h2, h3, h4⟩
  · exact .inl h
  · refine .inr ⟨b', h1, h2, Nat.lt_of_lt_of_le h3 k.1, ?_⟩
    rw [k.2 b' h3]
    · exact h4
    · rintro rfl; rw [hb] at h4; cases h4
theorem Own.notTuple {e : TypeId} {H : Heap} {v : Value} {vs : List Value} {B : Nat} (h : Own e H v vs B) : AI.notTuple v = true := by
  rcases h with ⟨rfl, _⟩ | ⟨_, rfl, _⟩ <;> rfl
/-- One more value at the end. -/
theorem append_own (ht : P.underlying t = some (.slice e)) (h1 : oneBB P e = some (z, by')) (hb : by' ≤ 16) {x w : Value} {vs : List Value} {B : Nat} (hx : Own e H x vs B) (hB : B ≤ H.n) (hn : vs.length < 1000000) :
    ∃ r H' b, aappend P (H.new (.cells [w] e 2)) #[t, t] x (.slice (some ⟨H.n, 0, none⟩) 1 0) = some (r, H', b) ∧ B ≤ b ∧ Own e H' r (vs ++ [w]) B ∧ ∀ H0, Keep H0 H → H0.n ≤ B → Keep H0 H' := by
  have hy : (H.new (.cells [w] e 2)).get H.n = some (.cells [w] e 2) := Heap.get_new_eq _ _
  rcases hx with ⟨rfl, rfl⟩ | ⟨b, rfl, h2, h3, h4⟩
  · refine ⟨_, _, _, append_nil ht h1 hb (news := [w]) hy (by simp) (by simp), ?_, .inr ⟨_, rfl, ?_, ?_, Heap.get_new_eq _ _⟩, fun H0 k _ => k.trans ((Keep.new _ _).trans (Keep.new _ _))⟩
    · show B ≤ H.n + 1; omega
    · show B ≤ H.n + 1; omega
    · show H.n + 1 < H.n + 1 + 1; omega
  · have hx' : (H.new (.cells [w] e 2)).get b = some (.cells vs e 2) := by rw [Heap.get_new_ne _ _ (by omega)]; exact h4
    refine ⟨_, _, _, append_row ht h1 hb (news := [w]) hx' hy (by simp) (by simp; omega), h2, .inr ⟨_, ?_, ?_, ?_, Heap.get_new_eq _ _⟩, fun H0 k hk => (((k.trans (Keep.new _ _)).set _ (by omega)).trans (Keep.new _ _))⟩
    · simp
    · show B ≤ H.n + 1; omega
    · show H.n + 1 < H.n + 1 + 1; omega
theorem Row.source {v : Value} {vs : List Value} (h : Row H v vs) : sourceOf H 1 v = some (vs, vs.length) := by
  rcases h with ⟨rfl, rfl⟩ | ⟨rfl, rfl⟩ | ⟨b, i, c, cs, e, k, rfl, _, hb, _, hl, hc⟩
  · rfl
  · rfl
  · simp only [sourceOf, hb, Nat.mul_one]
    rw [if_pos hl]
    congr 2
    apply List.ext_getElem?
    intro j
    by_cases hj : j < vs.length
    · rw [List.getElem?_take_of_lt hj, List.getElem?_drop, hc j _ (List.getElem?_eq_getElem hj), List.getElem?_eq_getElem hj]
    · rw [List.getElem?_eq_none (by simp; omega), List.getElem?_eq_none (by omega)]
theorem build_none (ht : P.underlying t = some (.slice e)) (h1 : oneBB P e = some (z, by')) : abuildSlice P H t 0 [] = some (.slice (some ⟨H.n, 0, none⟩) 0 0, H.new (.cells [] e 2), H.n) := by
  obtain ⟨info, hi, hz, hs, hc, hsc, hby⟩ := oneBB_spec h1
  simp only [abuildSlice, ht, hi, hz, hs, hc]
  rw [if_pos ⟨by omega, rfl, by simp [hsc], by omega⟩]
  rfl
/-- A copy: all of a row behind an empty one. -/
theorem append_copy (ht : P.underlying t = some (.slice e)) (h1 : oneBB P e = some (z, by')) (hb : by' ≤ 16) {y : Value} {vs : List Value} (hy : Row H y vs) (hn : vs.length < 1000000) :
    ∃ r H' b, aappend P (H.new (.cells [] e 2)) #[t, t] (.slice (some ⟨H.n, 0, none⟩) 0 0) y = some (r, H', b) ∧ H.n ≤ b ∧ Own e H' r vs H.n ∧ Keep H H' := by
  obtain ⟨info, hi, hz, hs, hc, hsc, hby⟩ := oneBB_spec h1
  have hy' := (hy.keep (Keep.new H (.cells [] e 2))).source
  have hx : (H.new (.cells [] e 2)).get H.n = some (.cells [] e 2) := Heap.get_new_eq _ _
  by_cases h0 : vs = []
  · subst h0
    refine ⟨.slice (some ⟨H.n, 0, none⟩) 0 0, H.new (.cells [] e 2), (H.new (.cells [] e 2)).n, ?_, ?_, .inr ⟨H.n, rfl, Nat.le_refl _, Nat.lt_succ_self _, hx⟩, Keep.new _ _⟩
    · simp only [aappend, ht, hi, hz, hc, hs, hy']
      rw [if_neg (by simp), if_neg (by simp)]
      rfl
    · show H.n ≤ H.n + 1; omega
  · have hl : ¬ vs.length = 0 := fun h => h0 (List.length_eq_zero_iff.1 h)
    have hmul : vs.length * info.bytes ≤ 1000000 * 16 := Nat.mul_le_mul (by omega) (by omega)
    refine ⟨.slice (some ⟨H.n + 1, 0, none⟩) vs.length 0, ((H.new (.cells [] e 2)).set H.n .gone).new (.cells vs e 2), H.n, ?_, ?_, .inr ⟨H.n + 1, rfl, ?_, ?_, Heap.get_new_eq _ _⟩, ?_⟩
    · simp only [aappend, ht, hi, hz, hc, hs, hy', hx]
      rw [if_neg (by simp), if_neg (by simp), if_neg hl, if_neg (by simp)]
      rw [if_pos ⟨trivial, by simp, by show 0 + vs.length ≤ 9223372036854775807; omega, by simp; omega⟩]
      simp only [Nat.zero_add, List.nil_append]
      rfl
    · exact Nat.le_refl _
    · show H.n ≤ H.n + 1; omega
    · show H.n + 1 < H.n + 1 + 1; omega
    · exact ((Keep.new _ _).set _ (Nat.le_refl _)).trans (Keep.new _ _)
end
end Go.AI

/- From a call of the abstract machine to a call of the model. -/
namespace Go.AI
open Go.RowKit
section
variable {P : Program} [Oracle P]

theorem run_of {B : Nat} {ρ : Ren} {H : Heap} {w : World} {f : FuncId} {l : List Value} {args : Array Value} {Q : Value → Heap → Prop} (hm : P.follows .mixedOrders = true) (hO : OracleOK P B) (hH : HR P B ρ H w) (hl : L2 (VT ρ) l args.toList) (h : CallB P H.n f l H Q) :
    Calls P f args w fun e w' => ∃ v v' H' ρ', e = .returned v' ∧ VT ρ' v v' ∧ Q v H' ∧ Below w.heap.size w w' := by
  obtain ⟨k, v, H', lo, h1, h2, h3⟩ := h.run.out
  refine callsIn_wide.1 ((show CallsIn Fence.wide 0 P f args w _ from (call_sound hO hm k (.fn f) l H v H' lo h1 ρ w args 0 hH hl).2).mono ?_)
  rintro e w' ⟨ρ', v', rfl, h4, h5, h6⟩
  exact ⟨v, v', H', ρ', rfl, h4, h3, h6.below hH h2.1⟩
end

/-- What a world's blocks below B say of blocks that are only read: an entry each. -/
structure Seen where
  ent : Ent
  obj : AObj
def seenR (l : List Seen) : Ren := fun b => (l[b]?).map (·.ent)
def seenH (l : List Seen) : Heap := baseHeap (l.map (·.obj))
theorem seen_hr {P : Program} {w : World} (l : List Seen) (hB : ∀ s ∈ l, s.ent.blk < w.heap.size) (hc : ∀ s ∈ l, calm s.obj = true)
    (ho : ∀ s ∈ l, ∀ cs e k, s.obj = .cells cs e k → ∀ (i : Nat) v, cs[i]? = some v → w.cell? ⟨s.ent.blk, s.ent.base + i, none⟩ = some v)
    (hg : ∀ g, g < P.globals.size → ∃ c, (l[g]?).map (·.ent) = some ⟨g, 0, c⟩) : HR P w.heap.size (seenR l) (seenH l) w := by
  have hget : ∀ b o, (seenH l).get b = some o → ∃ s, l[b]? = some s ∧ s.obj = o := by
    intro b o h
    rw [seenH, base_get, List.getElem?_map] at h
    cases hs : l[b]? with
    | none => rw [hs] at h; cases h
    | some s => rw [hs] at h; exact ⟨s, rfl, Option.some.inj h⟩
  have hr : ∀ b e, seenR l b = some e → ∃ s, l[b]? = some s ∧ s.ent = e := by
    intro b e h
    rw [seenR] at h
    cases hs : l[b]? with
    | none => rw [hs] at h; cases h
    | some s => rw [hs] at h; exact ⟨s, rfl, Option.some.inj h⟩
  refine ⟨fun b hb => ?_, fun b e hb => ?_, fun b o hb => ?_, fun b o e hb he => ?_, fun b b' o o' e e' hb hb' he he' hw hw' => ?_, fun b e hb => ?_, hg, Nat.le_refl _⟩
  · rw [seenH, base_n, List.length_map] at hb
    exact ⟨l[b].ent, by rw [seenR, List.getElem?_eq_getElem hb]; rfl⟩
  · obtain ⟨s, hs, _⟩ := hr b e hb
    rw [seenH, base_n, List.length_map]; exact (List.getElem?_eq_some_iff.1 hs).1
  · obtain ⟨s, hs, _⟩ := hget b o hb
    rw [seenH, base_n, List.length_map]; exact (List.getElem?_eq_some_iff.1 hs).1
  · obtain ⟨s, hs, rfl⟩ := hget b o hb
    obtain ⟨s', hs', rfl⟩ := hr b e he
    rw [hs] at hs'; cases hs'
    have hmem := List.mem_of_getElem? hs
    have h1 := hc s hmem
    cases hobj : s.obj with
    | gone => trivial
    | cells cs e k =>
      rw [hobj] at h1
      cases k with
      | zero => exact ⟨hB s hmem, cs, scalars_refl _ h1, ho s hmem cs e 0 hobj⟩
      | succ k => cases h1
    | map es => rw [hobj] at h1; cases h1
    | loop _ _ _ _ _ _ => rw [hobj] at h1; cases h1
  · obtain ⟨s, hs, rfl⟩ := hget b o hb
    have h1 := hc s (List.mem_of_getElem? hs)
    cases hobj : s.obj with
    | gone => rw [hobj] at hw; cases hw
    | cells cs e k =>
      rw [hobj] at h1 hw
      cases k with
      | zero => simp [writable] at hw
      | succ k => cases h1
    | map es => rw [hobj] at h1; cases h1
    | loop _ _ _ _ _ _ => rw [hobj] at h1; cases h1
  · obtain ⟨s, hs, rfl⟩ := hr b e hb
    exact hB s (List.mem_of_getElem? hs)
theorem seen_get {l : List Seen} {b : Nat} {s : Seen} (h : l[b]? = some s) : (seenH l).get b = some s.obj := by
  rw [seenH, base_get, List.getElem?_map, h]; rfl
theorem seen_n (l : List Seen) : (seenH l).n = l.length := by rw [seenH, base_n, List.length_map]

/-- A slice of ints of the model, and how it is seen: where its block lies, and what names it. -/
theorem seen_ints {w : World} {a : Option Addr} {len cap : Nat} {zs : List Int} (n : Nat) (hw : 0 < w.heap.size) (h : (a = none ∧ len = 0 ∧ cap = 0 ∧ zs = []) ∨ ∃ x, a = some x ∧ len ≤ cap ∧ len ≤ zs.length ∧ (∀ i, i < zs.length → w.cell? (x.add i) = some (.int .i64 (zs.getD i 0)))) :
    ∃ (s : Seen) (v : Value), s.ent.blk < w.heap.size ∧ calm s.obj = true ∧ (∀ cs e k, s.obj = .cells cs e k → ∀ (i : Nat) v, cs[i]? = some v → w.cell? ⟨s.ent.blk, s.ent.base + i, none⟩ = some v) ∧
      (∀ ρ : Ren, ρ n = some s.ent → VT ρ v (.slice a len cap)) ∧ (∀ H : Heap, n < H.n → H.get n = some s.obj → Ints H v (zs.take len)) := by
  rcases h with ⟨rfl, rfl, rfl, rfl⟩ | ⟨x, rfl, hl, hz, hcell⟩
  · exact ⟨⟨⟨0, 0, 0⟩, .gone⟩, .slice none 0 0, hw, rfl, (fun _ _ _ h => by cases h), fun ρ _ => .one (.cell (.same rfl)), fun H _ _ => .inl ⟨rfl, by simp⟩⟩
  · by_cases h0 : len = 0
    · subst h0
      exact ⟨⟨⟨0, 0, 0⟩, .gone⟩, anon, hw, rfl, (fun _ _ _ h => by cases h), fun ρ _ => .one (.cell (.anon _ _)), fun H _ _ => .inr (.inl ⟨rfl, by simp⟩)⟩
    · have hc := hcell 0 (by omega)
      obtain ⟨b, off, spot⟩ := x
      have hspot : spot = none := by simpa [Addr.add] using World.cell?_spot hc
      subst hspot
      have hb : b < w.heap.size := by
        apply Classical.byContradiction
        intro hb
        have : w.heap[b]? = none := by simp; omega
        simp [World.cell?, Addr.add, this] at hc
      refine ⟨⟨⟨b, off, 0⟩, .cells ((zs.take len).map (Value.int .i64)) 3 0⟩, .slice (some ⟨n, 0, none⟩) len 1, hb, ?_, ?_, ?_, ?_⟩
      · exact List.all_map.trans (List.all_eq_true.2 fun _ _ => rfl)
      · intro cs e k hcs i v hv
        cases hcs
        rw [List.getElem?_map] at hv
        cases hzi : (zs.take len)[i]? with
        | none => rw [hzi] at hv; cases hv
        | some z =>
          rw [hzi] at hv
          cases hv
          have hil : i < (zs.take len).length := (List.getElem?_eq_some_iff.1 hzi).1
          have hiz : i < zs.length := by simp at hil; omega
          have := hcell i hiz
          have hzi' : zs.getD i 0 = z := by
            have h1 := (List.getElem?_eq_some_iff.1 hzi).2
            simp at h1
            simp [List.getD_eq_getElem?_getD, hiz, h1]
          rw [hzi'] at this
          by_cases hi0 : i = 0
          · subst hi0; simpa [Addr.add] using this
          · simpa [Addr.add, hi0] using this
      · intro ρ hρ
        have := VC.sl (ρ := ρ) (b := n) (i := 0) (n := len) (c := 1) (c' := cap) hρ hl (by intro h; cases h)
        exact .one (.cell (by simpa using this))
      · intro H hn hg
        refine .inr (.inr ⟨n, 0, 1, _, 3, 0, ?_, hn, hg, by simp, by simp, fun j w hj => by simpa using hj⟩)
        simp; omega
end Go.AI

/- Fields of structs; conditions, step by step: what is behind a step stays shut. -/
namespace Go.AI
/-- Where a field lies, and how many cells it takes. -/
def fieldOff (P : Program) (s : TypeId) (f : Nat) : Option (Nat × Nat) :=
  match P.underlying s with
  | some (.struct fs) => match fs[f]? with
    | some fd => match sizeB P fd.type with
      | some n => some (fd.offset, n)
      | none => none
    | none => none
  | _ => none
theorem fieldOff_spec {P : Program} {s : TypeId} {f o n : Nat} (h : fieldOff P s f = some (o, n)) : ∃ fs fd, P.underlying s = some (.struct fs) ∧ fs[f]? = some fd ∧ sizeB P fd.type = some n ∧ fd.offset = o := by
  unfold fieldOff at h
  split at h
  · rename_i fs h1
    split at h
    · rename_i fd h2
      split at h
      · rename_i m h3
        cases h
        exact ⟨fs, fd, h1, h2, h3, rfl⟩
      · cases h
    · cases h
  · cases h
theorem field_addr {P : Program} {s : TypeId} {f o n : Nat} (h : fieldOff P s f = some (o, n)) (hn : n ≠ 0) {b i : Nat} : afieldAddr P s (.pointer (some ⟨b, i, none⟩)) f = some (.pointer (some ⟨b, i + o, none⟩)) := by
  obtain ⟨fs, fd, h1, h2, h3, rfl⟩ := fieldOff_spec h
  cases n with
  | zero => exact absurd rfl hn
  | succ n => simp only [afieldAddr, h1, h2, h3]
end Go.AI
namespace Go.AI
section
variable (P : Program) [Oracle P]
structure CV (N B : Nat) (wr : Bool) (c : Code) (L : Kn) (H : Heap) (Q : Exit → Kn → Heap → Prop) : Prop where
  run : WCv P B c L H Q
structure CO (N B : Nat) (wr : Bool) (ops l : List Oper) (L : Kn) (H : Heap) (K : Kn → Heap → Prop) : Prop where
  run : vcOps P N B wr ops l L H K
structure CG (N B : Nat) (wr : Bool) (ops l : List Oper) (L : Kn) (H : Heap) (K : Kn → Heap → Prop) : Prop where
  run : vcG P N B wr ops l L H K
structure CH (N B : Nat) (wr : Bool) (ops l : List Oper) (L : Kn) (H : Heap) (K : Kn → Heap → Prop) : Prop where
  run : vcHead P N B wr ops l L H K
end
section
variable {P : Program} [Oracle P] {N B : Nat} {wr : Bool} {L : Kn} {H : Heap} {Q : Exit → Kn → Heap → Prop} {a b : Code} {ops rest : List Oper} {o : Oper} {K : Kn → Heap → Prop}
theorem CO_eq {l : List Oper} : CO P N B wr ops l L H K = vcOps P N B wr ops l L H K := propext ⟨CO.run, CO.mk⟩
theorem CG_eq {l : List Oper} : CG P N B wr ops l L H K = vcG P N B wr ops l L H K := propext ⟨CG.run, CG.mk⟩
theorem CH_eq {l : List Oper} : CH P N B wr ops l L H K = vcHead P N B wr ops l L H K := propext ⟨CH.run, CH.mk⟩

def seqK (k : Kn → Heap → Prop) (Q : Exit → Kn → Heap → Prop) : Exit → Kn → Heap → Prop
  | .normal, L, H => k L H
  | e, L, H => Q e L H
def blkK (id : Nat) (Q : Exit → Kn → Heap → Prop) : Exit → Kn → Heap → Prop
  | .exit j, L, H => bif Nat.beq j id then Q .normal L H else Q (.exit j) L H
  | e, L, H => Q e L H
def scoK (Q : Exit → Kn → Heap → Prop) : Exit → Kn → Heap → Prop
  | .goto _, _, _ => False
  | e, L, H => Q e L H
def ifK (p q : Prop) : Value → Prop
  | .bool true => p
  | .bool false => q
  | _ => False

theorem setK_mono (v : Value) : ∀ (f : Nat) (L : Kn) (i : Nat) (K K' : Kn → Prop), (∀ L, K L → K' L) → setK f L i v K → setK f L i v K'
  | 0, _, _, _, _, _, h => h
  | f + 1, .leaf, i, K, K', hk, h => by
    unfold setK at h ⊢
    rcases cond_iff h with ⟨h1, h2⟩ | ⟨h1, h2⟩
    · rw [h1]; exact hk _ h2
    · rw [h1]
      rcases cond_iff h2 with ⟨h3, h4⟩ | ⟨h3, h4⟩
      · rw [h3]; exact setK_mono v f _ _ _ _ (fun L h => hk _ h) h4
      · rw [h3]; exact setK_mono v f _ _ _ _ (fun L h => hk _ h) h4
  | f + 1, .node l u r, i, K, K', hk, h => by
    unfold setK at h ⊢
    rcases cond_iff h with ⟨h1, h2⟩ | ⟨h1, h2⟩
    · rw [h1]; exact hk _ h2
    · rw [h1]
      rcases cond_iff h2 with ⟨h3, h4⟩ | ⟨h3, h4⟩
      · rw [h3]; exact setK_mono v f _ _ _ _ (fun L h => hk _ h) h4
      · rw [h3]; exact setK_mono v f _ _ _ _ (fun L h => hk _ h) h4
theorem mkK_mono {K K' : Kn → Prop} : ∀ (l : List (Nat × Value)) (L : Kn), (∀ L, K L → K' L) → mkK l L K → mkK l L K'
  | [], L, hk, h => hk L h
  | (i, v) :: r, L, hk, h => setK_mono v 14 L i _ _ (fun L h => mkK_mono r L hk h) h
theorem CV.seq (h : CV P N B wr a L H (seqK (fun L H => CV P N B wr b L H Q) Q)) : CV P N B wr (.seq a b) L H Q := by
  refine ⟨⟨fun tm lo ha hl hB => ?_⟩⟩
  refine WC.seq ((h.run.run tm lo ha hl hB).mono ?_)
  rintro e ⟨tm', H', lo'⟩ ⟨hl', hB', L', h1, h2⟩
  cases e with
  | normal => exact h2.run.run tm' lo' h1 hl' hB'
  | _ => exact ⟨hl', hB', L', h1, h2⟩
/-- Behind a piece of code, only what is listed stays known. -/
theorem CV.mid {α : Type} (S : α → List (Nat × Value)) (I : α → Heap → Prop) (h1 : CV P N B wr a L H (seqK (fun L H => ∃ x, covers L (S x) ∧ I x H) Q))
    (h2 : ∀ x H, I x H → B ≤ H.n → mkK (S x) .leaf fun L' => CV P N B wr b L' H Q) : CV P N B wr (.seq a b) L H Q := by
  refine CV.seq ⟨⟨fun tm lo ha hl hB => ?_⟩⟩
  refine (h1.run.run tm lo ha hl hB).mono ?_
  rintro e ⟨tm', H', lo'⟩ ⟨hl', hB', L', h3, h4⟩
  cases e with
  | normal =>
    obtain ⟨x, h5, h6⟩ := h4
    exact ⟨hl', hB', L', h3, ⟨WCv.forget (S x) h5 ((mkK_mono _ _ (fun L h => h.run)) (h2 x H' h6 hB'))⟩⟩
  | _ => exact ⟨hl', hB', L', h3, h4⟩
theorem CV.skip (h : Q .normal L H) : CV P N B wr .skip L H Q := ⟨⟨fun tm lo ha hl hB => WC.skip ⟨hl, hB, L, ha, h⟩⟩⟩
theorem CV.label {l : Nat} (h : Q .normal L H) : CV P N B wr (.label l) L H Q := ⟨⟨fun tm lo ha hl hB => WC.label ⟨hl, hB, L, ha, h⟩⟩⟩
theorem CV.exit {id : Nat} (h : Q (.exit id) L H) : CV P N B wr (.exit id) L H Q := ⟨⟨fun tm lo ha hl hB => WC.exit ⟨hl, hB, L, ha, h⟩⟩⟩
theorem CV.ret (h : Q .ret L H) : CV P N B wr .ret L H Q := ⟨⟨fun tm lo ha hl hB => WC.ret ⟨hl, hB, L, ha, h⟩⟩⟩
theorem CV.cond {x : Operand} (h : evK P L x (ifK (CV P N B wr a L H Q) (CV P N B wr b L H Q))) : CV P N B wr (.cond x a b) L H Q := by
  refine ⟨⟨fun tm lo ha hl hB => ?_⟩⟩
  obtain ⟨v, h1, h2⟩ := evK_spec ha h
  unfold ifK at h2
  split at h2
  · exact WC.cond h1 (h2.run.run tm lo ha hl hB)
  · exact WC.cond h1 (h2.run.run tm lo ha hl hB)
  · exact h2.elim
theorem CV.block {id : Nat} (h : CV P N B wr b L H (blkK id Q)) : CV P N B wr (.block id b) L H Q := by
  refine ⟨⟨fun tm lo ha hl hB => ?_⟩⟩
  refine WC.block ((h.run.run tm lo ha hl hB).mono ?_)
  rintro e ⟨tm', H', lo'⟩ ⟨hl', hB', L', h1, h2⟩
  cases e with
  | exit j =>
    simp only [inBlk]
    rcases cond_iff h2 with ⟨h3, h4⟩ | ⟨h3, h4⟩
    · rw [if_pos (Nat.eq_of_beq_eq_true h3)]; exact ⟨hl', hB', L', h1, h4⟩
    · rw [if_neg (Nat.ne_of_beq_eq_false h3)]; exact ⟨hl', hB', L', h1, h4⟩
  | _ => exact ⟨hl', hB', L', h1, h2⟩
theorem CV.scope (h : CV P N B wr b L H (scoK Q)) : CV P N B wr (.scope b) L H Q := by
  refine ⟨⟨fun tm lo ha hl hB => ?_⟩⟩
  refine WC.scope ((h.run.run tm lo ha hl hB).mono ?_)
  rintro e ⟨tm', H', lo'⟩ ⟨hl', hB', L', h1, h2⟩
  cases e with
  | goto j => exact h2.elim
  | _ => exact ⟨hl', hB', L', h1, h2⟩
theorem CV.loopc (h : WCv P B (.loop b) L H Q) : CV P N B wr (.loop b) L H Q := ⟨h⟩
theorem CV.region (hN : calleesOk P N = true) {id : Nat} {os : Array Oper} (h : CO P N B wr os.toList os.toList L H (Q .normal)) : CV P N B wr (.region id os false) L H Q := ⟨vc_spec hN (wr := wr) _ L H Q (by unfold vc; exact h.run)⟩
theorem CV.draw (hN : calleesOk P N = true) {id : Nat} {os : Array Oper} (hs : wideSel os.toList = false) (h : CH P N B wr os.toList (os.toList.take (splitM os.toList)) L H fun L H => CO P N B wr os.toList ((os.toList.drop (splitM os.toList)).take (splitQ os.toList)) L H fun L H => CH P N B wr os.toList (os.toList.drop (splitM os.toList + splitQ os.toList)) L H (Q .normal)) : CV P N B wr (.region id os true) L H Q := by
  refine ⟨vc_spec hN (wr := wr) _ L H Q ?_⟩
  unfold vc
  simp only [CH_eq, CO_eq] at h
  rw [hs]
  exact h
theorem CV.wide (hN : calleesOk P N = true) {id : Nat} {os : Array Oper} (hs : wideSel os.toList = true) (is : List Nat) (hi : wideI os.toList = is) (h : CG P N B wr os.toList (pickOps os.toList is) L H (Q .normal)) : CV P N B wr (.region id os true) L H Q := by
  subst hi
  exact ⟨⟨fun tm lo ha hl hB => WC.wide hs (vcG_spec hN _ L tm H lo _ ha hl hB h.run)⟩⟩
theorem CG.nil (h : K L H) : CG P N B wr ops [] L H K := ⟨by unfold vcG; exact h⟩
theorem CG.cons (hg : o.guard = none) (h : vcStep P N H.n H.n wr o L H (fun v H' => putK L o.dst v fun L' => CG P N B wr ops rest L' H' K) (fun v H' => putK L o.dst v fun L' => CG P N B wr ops rest L' H' K)) : CG P N B wr ops (o :: rest) L H K := by
  refine ⟨?_⟩
  unfold vcG
  simp only [CG_eq] at h
  simp only [hg]
  exact h
theorem CG.consG {j : Nat} {want : Bool} (hg : o.guard = some (j, want)) (h : guardK ops L j want fun b => bif bEq b want then
        vcStep P N H.n H.n wr o L H (fun v H' => putK L o.dst v fun L' => CG P N B wr ops rest L' H' K) (fun v H' => putK L o.dst v fun L' => CG P N B wr ops rest L' H' K)
      else putK L o.dst undef fun L' => CG P N B wr ops rest L' H K) : CG P N B wr ops (o :: rest) L H K := by
  refine ⟨?_⟩
  unfold vcG
  simp only [CG_eq] at h
  simp only [hg]
  exact h
theorem CO.nil (h : K L H) : CO P N B wr ops [] L H K := ⟨by unfold vcOps; exact h⟩
theorem CH.nil (h : K L H) : CH P N B wr ops [] L H K := ⟨by unfold vcHead; exact h⟩
theorem CO.cons (hg : o.guard = none) (h : vcStep P N B B wr o L H (fun v H' => putK L o.dst v fun L' => CO P N B wr ops rest L' H' K) (fun v H' => putK L o.dst v fun L' => CO P N B wr ops rest L' H' K)) : CO P N B wr ops (o :: rest) L H K := by
  refine ⟨?_⟩
  unfold vcOps
  simp only [CO_eq] at h
  simp only [hg]
  exact h
theorem CH.cons (hg : o.guard = none) (h : vcStep P N B H.n wr o L H (fun v _ => plain v = true ∧ putK L o.dst v fun L' => CH P N B wr ops rest L' H K) (fun v _ => putK L o.dst v fun L' => CH P N B wr ops rest L' H K)) : CH P N B wr ops (o :: rest) L H K := by
  refine ⟨?_⟩
  unfold vcHead
  simp only [CH_eq] at h
  simp only [hg]
  exact h
theorem CO.consG {j : Nat} {want : Bool} (hg : o.guard = some (j, want)) (h : guardK ops L j want fun b => bif bEq b want then
        vcStep P N B B wr o L H (fun v H' => putK L o.dst v fun L' => CO P N B wr ops rest L' H' K) (fun v H' => putK L o.dst v fun L' => CO P N B wr ops rest L' H' K)
      else putK L o.dst undef fun L' => CO P N B wr ops rest L' H K) : CO P N B wr ops (o :: rest) L H K := by
  refine ⟨?_⟩
  unfold vcOps
  simp only [CO_eq] at h
  simp only [hg]
  exact h
theorem CH.consG {j : Nat} {want : Bool} (hg : o.guard = some (j, want)) (h : guardK ops L j want fun b => bif bEq b want then
        vcStep P N B H.n wr o L H (fun v _ => plain v = true ∧ putK L o.dst v fun L' => CH P N B wr ops rest L' H K) (fun v _ => putK L o.dst v fun L' => CH P N B wr ops rest L' H K)
      else putK L o.dst undef fun L' => CH P N B wr ops rest L' H K) : CH P N B wr ops (o :: rest) L H K := by
  refine ⟨?_⟩
  unfold vcHead
  simp only [CH_eq] at h
  simp only [hg]
  exact h

/-- What is left behind a function's code. -/
def endK (P : Program) (fn : Func) (Q : Value → Heap → Prop) : Exit → Kn → Heap → Prop
  | .normal, L, H => resK P L H fn.results.toList fun l => l.all notTuple = true ∧ tupK l fun v => Q v H
  | .ret, L, H => resK P L H fn.results.toList fun l => l.all notTuple = true ∧ tupK l fun v => Q v H
  | _, _, _ => False
theorem CV.enter {f : FuncId} {args : List Value} {H : Heap} {Q : Value → Heap → Prop} {fn : Func} {c : Code} (_hN : calleesOk P N = true) (wr : Bool) (hor : Oracle.val P f = none) (hf : P.funcs[f]? = some fn) (hb : fn.body = some c) (hok : codeOk fn.ntmps c = true) (hl : args.length ≤ fn.ntmps)
    (hB : B ≤ H.n) (h : argsK args 0 .leaf fun L => CV P N B wr c L H (endK P fn Q)) : CallB P B f args H Q := by
  obtain ⟨L, h1, h2⟩ := argsK_spec args 0 .leaf .leaf _ (by intro i v hv; simp [Tr.get] at hv) h
  refine ⟨WF.enter hor hf hb hok hl ((h2.run.run _ H.n h1 hB hB).mono ?_)⟩
  rintro e ⟨tm, H', lo⟩ ⟨hl', hB', L', h3, h4⟩
  have key : ∀ (h : resK P L' H' fn.results.toList fun l => l.all notTuple = true ∧ tupK l fun v => Q v H'), ∃ vs, ressOf P tm H' fn.results.toList = some vs ∧ vs.all notTuple = true ∧ (B ≤ lo ∧ B ≤ H'.n) ∧ Q (tupled vs) H' := by
    intro h
    obtain ⟨l, h5, h6, h7⟩ := resK_spec h3 _ _ h
    refine ⟨l, h5, h6, ⟨hl', hB'⟩, ?_⟩
    unfold tupK at h7
    unfold tupled
    split at h7
    · exact h7
    · rename_i hne
      split
      · exact absurd rfl (hne _)
      · exact h7
  cases e with
  | normal => exact ⟨rfl, key h4⟩
  | ret => exact ⟨rfl, key h4⟩
  | _ => exact h4.elim
theorem WCv.rounds {α : Type} (_hN : calleesOk P N = true) (wr : Bool) {b : Code} {L : Kn} {H : Heap} {Q : Exit → Kn → Heap → Prop} (S : α → List (Nat × Value)) (I : α → Heap → Prop) (μ : α → Nat)
    (a0 : α) (hc : covers L (S a0)) (hI : I a0 H)
    (hr : ∀ a Hx, I a Hx → B ≤ Hx.n → mkK (S a) .leaf fun L' => CV P N B wr b L' Hx (roundK S I μ a Q)) : WCv P B (.loop b) L H Q := by
  have key : ∀ n a, μ a = n → ∀ Hx lo, I a Hx → B ≤ lo → B ≤ Hx.n → ∀ tm, (∀ i v, (i, v) ∈ S a → Tm.at tm i = v) → WC P (.loop b) ⟨tm, Hx, lo⟩ fun e st => B ≤ st.lo ∧ B ≤ st.heap.n ∧ ∃ L', Agree st.tmps L' ∧ Q e L' st.heap := by
    intro n
    induction n using Nat.strongRecOn with
    | _ n ih =>
      intro a hn Hx lo hI hl hB tm ht
      obtain ⟨L', h1, h2⟩ := mkK_spec (S a) .leaf _ (hr a Hx hI hB)
      have ha : Agree tm L' := fun i v hv => by
        rcases h2 i v hv with h3 | h3
        · simp [Tr.get] at h3
        · exact ht i v h3
      refine WC.round ((h1.run.run tm lo ha hl hB).mono ?_)
      rintro e ⟨tm', H', lo'⟩ ⟨hl', hB', L2, h3, h4⟩
      cases e with
      | normal =>
        obtain ⟨a', h5, h6, h7⟩ := h4
        exact ih _ (by rw [← hn]; exact h6) a' rfl H' lo' h7 hl' hB' tm' fun i v hv => h3 i v (covers_mem L2 _ h5 i v hv)
      | _ => exact ⟨hl', hB', L2, h3, h4⟩
  exact ⟨fun tm lo ha hl hB => key _ a0 rfl H lo hI hl hB tm fun i v hv => ha i v (covers_mem L _ hc i v hv)⟩

/-! ### A range over a function, and its rounds -/
/-- Where the record of a loop stands, what comes behind the loop. -/
def loopK (l : Nat) (L : Kn) (Q : Exit → Kn → Heap → Prop) (H : Heap) : Prop :=
  ∃ s pend tm ps x y e, H.get l = some (.loop s pend tm ps x y) ∧ notBusy s = true ∧ jumpOf pend = some e ∧ Q e L (H.set l (.loop .exhausted pend tm ps x y))
theorem CV.rangeFunc (hN : calleesOk P N = true) {g : Operand} {ps : Array Tmp} {x y : Code}
    (h : evK P L g fun v => match v with
      | .func (.func f) first cap => bif Nat.beq (assoc (Oracle.exts P) f) 0 && (decide (first.size = 0) && (Nat.ble 2 f && Nat.blt f N)) then
          ∀ tm, Agree tm L → CallB P B f (.func (.yield H.n) #[] #[] :: cap.toList) (H.new (.loop .ready none tm ps x y)) (fun _ H' => loopK H.n L Q H') else False
      | _ => False) : CV P N B wr (.rangeFunc g ps x y) L H Q := by
  refine ⟨⟨fun tm lo ha hl hB => ?_⟩⟩
  obtain ⟨v, h1, h2⟩ := evK_spec ha h
  split at h2
  · rename_i f first cap
    rcases cond_iff h2 with ⟨h3, h4⟩ | ⟨h3, h4⟩
    · simp only [Bool.and_eq_true, decide_eq_true_eq] at h3
      obtain ⟨h30, h31, h32, h33⟩ := h3
      have h8 := calleesOk_spec N hN f (Nat.le_of_ble_eq_true h32) (Nat.le_of_ble_eq_true h33) (Nat.eq_of_beq_eq_true h30)
      unfold calleeOk at h8
      have hc : calleeOf P tm g #[] = some (f, cap.toList) := by
        simp only [calleeOf, h1, h31, if_true]
        split at h8
        · rename_i fn hfn
          simp only [Bool.and_eq_true, decide_eq_true_eq] at h8
          simp only [hfn]
          rw [if_pos h8]
          rfl
        · simp at h8
      refine WC.rangeFunc hc ((h4 tm ha).run.mono ?_)
      rintro r H' lo' ⟨⟨hl', hB'⟩, s, pend, tm', ps', x', y', e, h5, h6, h7, h9⟩
      exact ⟨s, pend, tm', ps', x', y', e, h5, h6, h7, by dsimp only; omega, hB', L, ha, h9⟩
    · exact h4.elim
  · exact h2.elim
/-- What is noted at a round's end, and handed back. -/
def roundEnd (l : Nat) (Q : Value → Heap → Prop) : Exit → Kn → Heap → Prop := fun e _ H =>
  ∃ s pend tm ps x y j, H.get l = some (.loop s pend tm ps x y) ∧ pendOf e = some j ∧ Q (.bool j.isNone) (H.set l (.loop (bif j.isNone then .ready else .done) j tm ps x y))
def putKs : List (Tmp × Value) → Kn → (Kn → Prop) → Prop
  | [], L, K => K L
  | (p, v) :: r, L, K => setK 14 L p v fun L => putKs r L K
theorem putKs_spec : ∀ (l : List (Tmp × Value)) (tm : Tm) (L : Kn) (K : Kn → Prop), Agree tm L → putKs l L K → ∃ L', Agree (putPs l tm) L' ∧ K L'
  | [], _, L, K, ha, h => ⟨L, ha, h⟩
  | (p, v) :: r, tm, L, K, ha, h => by
    obtain ⟨L', h1, h2, h3⟩ := setK_get h
    exact putKs_spec r _ L' K (ha.set h2 h3) h1
theorem RoundB.enter (_hN : calleesOk P N = true) (wr : Bool) {l : Nat} {args : List Value} {H : Heap} {Q : Value → Heap → Prop} {pend : Option Code} {tm : Tm} {ps : Array Tmp} {x y : Code} {L : Kn}
    (hg : H.get l = some (.loop .ready pend tm ps x y)) (ha : Agree tm L) (hl : args.length = ps.size) (hB : B ≤ H.n) (hBl : B ≤ l)
    (h : putKs (ps.toList.zip args) L fun L => CV P N B wr x L H (seqK (fun L H => ∃ pend1 tm1 ps1 x1 y1, H.get l = some (.loop .ready pend1 tm1 ps1 x1 y1) ∧
      CV P N B wr y L (H.set l (.loop .busy pend1 tm1 ps1 x1 y1)) (roundEnd l Q)) (fun _ _ _ => False))) : RoundB P B l args H Q := by
  obtain ⟨L1, h1, h2⟩ := putKs_spec _ tm L _ ha h
  refine ⟨WF.round hg hl ((h2.run.run _ H.n h1 hB hB).mono ?_)⟩
  rintro e ⟨tm1', H1, lo1⟩ ⟨hl1, hB1, L2, h3, h4⟩
  cases e with
  | normal =>
    obtain ⟨pend1, tm1, ps1, x1, y1, h5, h6⟩ := h4
    refine ⟨rfl, pend1, tm1, ps1, x1, y1, h5, (h6.run.run tm1' (min lo1 l) h3 (Nat.le_min.2 ⟨hl1, hBl⟩) hB1).mono ?_⟩
    rintro e2 ⟨tm2', H2, lo2⟩ ⟨hl2, hB2, L3, h7, s2, pend2, tm2, ps2, x2, y2, j, h8, h9, h10⟩
    exact ⟨s2, pend2, tm2, ps2, x2, y2, j, h8, h9, ⟨Nat.le_min.2 ⟨hl2, hBl⟩, hB2⟩, h10⟩
  | _ => exact h4.elim
end
end Go.AI

/- Rows of one's own, one beside another; where ways meet again. -/
namespace Go.AI
/-- The block in which a slice lies. -/
def blkOf : Value → Option Nat
  | .slice (some ⟨b, _, _⟩) _ _ => some b
  | _ => none
/-- Nothing that was there has turned, but for the block of a slice. -/
structure KeepBut (x : Value) (H H' : Heap) : Prop where
  le : H.n ≤ H'.n
  get : ∀ c, c < H.n → blkOf x ≠ some c → H'.get c = H.get c
def Apart (u v : Value) : Prop := ∀ c, blkOf u = some c → blkOf v ≠ some c
theorem Apart.symm {u v : Value} (h : Apart u v) : Apart v u := fun c hu hv => h c hv hu
theorem apart_nil {u : Value} : Apart u (.slice none 0 0) := fun c _ h => by cases h
theorem nil_apart {u : Value} : Apart (.slice none 0 0) u := fun c h => by cases h
theorem Own.lt {e : TypeId} {H : Heap} {v : Value} {vs : List Value} {B : Nat} (h : Own e H v vs B) {c : Nat} (hc : blkOf v = some c) : B ≤ c ∧ c < H.n := by
  rcases h with ⟨rfl, _⟩ | ⟨b, rfl, h2, h3, h4⟩
  · cases hc
  · cases hc; exact ⟨h2, h3⟩
theorem Own.keepBut {e : TypeId} {H H' : Heap} {x v : Value} {vs : List Value} {B : Nat} (h : Own e H v vs B) (k : KeepBut x H H') (ha : Apart v x) : Own e H' v vs B := by
  rcases h with h | ⟨b, rfl, h2, h3, h4⟩
  · exact .inl h
  · exact .inr ⟨b, rfl, h2, Nat.lt_of_lt_of_le h3 k.le, by rw [k.get b h3 (ha b rfl)]; exact h4⟩
theorem KeepBut.keep {x : Value} {H0 H H' : Heap} (k : KeepBut x H H') (h : Keep H0 H) (hx : ∀ c, blkOf x = some c → H0.n ≤ c) : Keep H0 H' :=
  ⟨Nat.le_trans h.1 k.le, fun c hc => (k.get c (Nat.lt_of_lt_of_le hc h.1) fun h => by have := hx c h; omega).trans (h.2 c hc)⟩
/-- What is new lies apart from what was there. -/
theorem Own.apartNew {e : TypeId} {H : Heap} {v r : Value} {vs : List Value} {B : Nat} (h : Own e H v vs B) (hr : ∀ c, blkOf r = some c → H.n ≤ c) : Apart v r := fun c hc hr' => by
  have := (h.lt hc).2; have := hr c hr'; omega
section
variable {P : Program} {H : Heap} {t e : TypeId} {z : Value} {by' : Nat}
theorem append_ask {K : Value → Heap → Prop} {B B0 : Nat} {x w : Value} {vs : List Value} (ht : P.underlying t = some (.slice e)) (h1 : oneBB P e = some (z, by')) (hb : by' ≤ 16) (hx : Own e H x vs B0) (hB0 : B0 ≤ H.n) (hB : B ≤ B0) (hn : vs.length < 1000000)
    (hk : ∀ r H', Own e H' r (vs ++ [w]) B0 → KeepBut x H H' → (∀ c, blkOf r = some c → H.n ≤ c) → K r H') :
    ∃ v H' b, aappend P (H.new (.cells [w] e 2)) #[t, t] x (.slice (some ⟨H.n, 0, none⟩) 1 0) = some (v, H', b) ∧ B ≤ b ∧ K v H' := by
  have hy : (H.new (.cells [w] e 2)).get H.n = some (.cells [w] e 2) := Heap.get_new_eq _ _
  rcases hx with ⟨rfl, rfl⟩ | ⟨b, rfl, h2, h3, h4⟩
  · refine ⟨_, _, _, append_nil ht h1 hb (news := [w]) hy (by simp) (by simp), ?_, hk _ _ (.inr ⟨_, rfl, ?_, ?_, Heap.get_new_eq _ _⟩) ⟨?_, ?_⟩ ?_⟩
    · show B ≤ H.n + 1; omega
    · show B0 ≤ H.n + 1; omega
    · show H.n + 1 < H.n + 1 + 1; omega
    · show H.n ≤ H.n + 1 + 1; omega
    · intro c hc _
      rw [Heap.get_new_ne _ _ (by show c ≠ H.n + 1; omega), Heap.get_new_ne _ _ (by omega)]
    · intro c hc; cases hc; show H.n ≤ H.n + 1; omega
  · have hx' : (H.new (.cells [w] e 2)).get b = some (.cells vs e 2) := by rw [Heap.get_new_ne _ _ (by omega)]; exact h4
    refine ⟨_, _, _, append_row ht h1 hb (news := [w]) hx' hy (by simp) (by simp; omega), Nat.le_trans hB h2, hk _ _ (.inr ⟨_, ?_, ?_, ?_, Heap.get_new_eq _ _⟩) ⟨?_, ?_⟩ ?_⟩
    · simp
    · show B0 ≤ H.n + 1; omega
    · show H.n + 1 < H.n + 1 + 1; omega
    · show H.n ≤ H.n + 1 + 1; omega
    · intro c hc hne
      have hne' : b ≠ c := fun h => hne (by rw [h]; rfl)
      rw [Heap.get_new_ne _ _ (by show c ≠ H.n + 1; omega), Heap.get_set_ne _ _ hne', Heap.get_new_ne _ _ (by omega)]
    · intro c hc; cases hc; show H.n ≤ H.n + 1; omega
/-- A cell of a row of one's own is written. -/
theorem store_ask {K : Heap → Prop} {B B0 : Nat} {x w : Value} {vs : List Value} {i : Nat} (hs : sizeB P e = some 1) (hx : Own e H x vs B0) (hB : B ≤ B0) (hi : i < vs.length) (hw : oneC w = true)
    (hk : ∀ H', Own e H' x (vs.set i w) B0 → KeepBut x H H' → K H') :
    ∃ H' b, astore P e H w (elemAt x i) = some (H', b) ∧ B ≤ b ∧ K H' := by
  rcases hx with ⟨rfl, rfl⟩ | ⟨b0, rfl, h2, h3, h4⟩
  · simp at hi
  · have he : elemAt (.slice (some ⟨b0, 0, none⟩) vs.length 0) i = .pointer (some ⟨b0, i, none⟩) := by simp [elemAt]
    rw [he]
    refine ⟨_, _, store_row hs h4 hi hw, Nat.le_trans hB h2, hk _ (.inr ⟨b0, by simp, h2, h3, Heap.get_set_eq _ _ _⟩) ⟨Nat.le_refl _, fun c hc hne => Heap.get_set_ne _ _ fun h => hne (by rw [h]; rfl)⟩⟩
/-- A copy of a row. -/
theorem copy_ask {K : Value → Heap → Prop} {B : Nat} {y : Value} {vs : List Value} (ht : P.underlying t = some (.slice e)) (h1 : oneBB P e = some (z, by')) (hb : by' ≤ 16) (hy : Row H y vs) (hB : B ≤ H.n) (hn : vs.length < 1000000)
    (hk : ∀ r H', Own e H' r vs H.n → Keep H H' → K r H') : ∃ v H' b, aappend P (H.new (.cells [] e 2)) #[t, t] (.slice (some ⟨H.n, 0, none⟩) 0 0) y = some (v, H', b) ∧ B ≤ b ∧ K v H' := by
  obtain ⟨r, H', b, h1, h2, h3, h4⟩ := append_copy ht h1 hb hy hn
  exact ⟨_, _, _, h1, Nat.le_trans hB h2, hk _ _ h3 h4⟩
theorem KeepBut.keepX {x : Value} {H0 H H' : Heap} {b : Nat} (k : KeepBut x H H') (h : KeepX b H0 H) (hx : ∀ c, blkOf x = some c → H0.n ≤ c) : KeepX b H0 H' :=
  ⟨Nat.le_trans h.1 k.le, fun c hc hcb => (k.get c (Nat.lt_of_lt_of_le hc h.1) fun h => by have := hx c h; omega).trans (h.2 c hc hcb)⟩
theorem KeepBut.refl (x : Value) (H : Heap) : KeepBut x H H := ⟨Nat.le_refl _, fun _ _ _ => rfl⟩
/-- A variable of a row's own, and what came after: still the same block, or a new one. -/
theorem KeepBut.trans {x : Value} {H1 H2 H3 : Heap} (h : KeepBut x H1 H2) (k : KeepBut x H2 H3) : KeepBut x H1 H3 :=
  ⟨Nat.le_trans h.le k.le, fun c hc hne => (k.get c (Nat.lt_of_lt_of_le hc h.le) hne).trans (h.get c hc hne)⟩
theorem Keep.but {H H' : Heap} (x : Value) (k : Keep H H') : KeepBut x H H' := ⟨k.1, fun c hc _ => k.2 c hc⟩
end
end Go.AI
namespace Go.AI
section
variable {P : Program} [Oracle P] {N B : Nat} {wr : Bool} {L : Kn} {H : Heap} {Q : Exit → Kn → Heap → Prop} {a b : Code}
/-- Behind a piece of code, only what is listed stays known. -/
theorem CV.midK {α : Type} (S : α → List (Nat × Value)) (I : α → Heap → Prop) (h1 : CV P N B wr a L H (seqK (fun L H => ∃ x, covers L (S x) ∧ I x H) Q))
    (h2 : ∀ x H, I x H → B ≤ H.n → mkK (S x) .leaf fun L' => CV P N B wr b L' H Q) : CV P N B wr a L H (seqK (fun L H => CV P N B wr b L H Q) Q) := by
  refine ⟨⟨fun tm lo ha hl hB => ?_⟩⟩
  refine (h1.run.run tm lo ha hl hB).mono ?_
  rintro e ⟨tm', H', lo'⟩ ⟨hl', hB', L', h3, h4⟩
  cases e with
  | normal =>
    obtain ⟨x, h5, h6⟩ := h4
    exact ⟨hl', hB', L', h3, ⟨WCv.forget (S x) h5 ((mkK_mono _ _ (fun L h => h.run)) (h2 x H' h6 hB'))⟩⟩
  | _ => exact ⟨hl', hB', L', h3, h4⟩
end
end Go.AI

/- Blocks that are laid and written; rows written out. -/
namespace Go.AI
/-- Nothing up to a block has turned. -/
structure KeepTo (l : Nat) (H H' : Heap) : Prop where
  le : H.n ≤ H'.n
  get : ∀ b, b ≤ l → H'.get b = H.get b
/-- Nothing behind a block has turned. -/
structure KeepOver (l : Nat) (H H' : Heap) : Prop where
  le : H.n ≤ H'.n
  get : ∀ b, l < b → b < H.n → H'.get b = H.get b
theorem KeepTo.refl (l : Nat) (H : Heap) : KeepTo l H H := ⟨Nat.le_refl _, fun _ _ => rfl⟩
theorem KeepTo.trans {l : Nat} {H1 H2 H3 : Heap} (h : KeepTo l H1 H2) (k : KeepTo l H2 H3) : KeepTo l H1 H3 := ⟨Nat.le_trans h.le k.le, fun b hb => (k.get b hb).trans (h.get b hb)⟩
theorem Keep.to {l : Nat} {H H' : Heap} (k : Keep H H') (hl : l < H.n) : KeepTo l H H' := ⟨k.1, fun b hb => k.2 b (by omega)⟩
theorem Row.over {l : Nat} {H H' : Heap} {v : Value} {vs : List Value} (h : Row H v vs) (k : KeepOver l H H') (hl : ∀ c, (∃ i n m, v = .slice (some ⟨c, i, none⟩) n m) → l < c) : Row H' v vs := by
  rcases h with h | h | ⟨b, i, c, cs, e, kd, rfl, h2, h3, h4⟩
  · exact .inl h
  · exact .inr (.inl h)
  · exact .inr (.inr ⟨b, i, c, cs, e, kd, rfl, Nat.lt_of_lt_of_le h2 k.le, by rw [k.get b (hl b ⟨_, _, _, rfl⟩) h2]; exact h3, h4⟩)
end Go.AI
namespace Go.AI
theorem new_get {H Hs : Heap} {o : AObj} (h : H.new o = Hs) : Hs.get H.n = some o := by rw [← h]; exact Heap.get_new_eq _ _
theorem new_n {H Hs : Heap} {o : AObj} (h : H.new o = Hs) : Hs.n = H.n + 1 := by rw [← h]; rfl
theorem new_keep {H Hs : Heap} {o : AObj} (h : H.new o = Hs) : Keep H Hs := by rw [← h]; exact Keep.new _ _
theorem set_get {H Hb : Heap} {b : Nat} {o : AObj} (h : H.set b o = Hb) : Hb.get b = some o := by rw [← h]; exact Heap.get_set_eq _ _ _
theorem set_n {H Hb : Heap} {b : Nat} {o : AObj} (h : H.set b o = Hb) : Hb.n = H.n := by rw [← h]; rfl
theorem set_old {H Hb : Heap} {b : Nat} {o : AObj} (h : H.set b o = Hb) : ∀ c, c ≠ b → Hb.get c = H.get c := fun c hc => by rw [← h]; exact Heap.get_set_ne _ _ (Ne.symm hc)
theorem var_store {P : Program} {H : Heap} {b : Nat} {x v : Value} {t e : TypeId} (hs : sizeB P t = some 1) (hg : H.get b = some (.cells [x] e 1)) (hv : oneC v = true) : astore P t H v (.pointer (some ⟨b, 0, none⟩)) = some (H.set b (.cells [v] e 1), b) :=
  store_row (i := 0) hs hg (by simp) hv
theorem var_load {P : Program} {H : Heap} {b : Nat} {x : Value} {t e : TypeId} {k : Nat} (ha : isAggB P t = some false) (hg : H.get b = some (.cells [x] e k)) : aload P t H (.pointer (some ⟨b, 0, none⟩)) = some x := by
  simp [aload, hg, ha]
theorem Row.oneC {H : Heap} {v : Value} {vs : List Value} (h : Row H v vs) : AI.oneC v = true ∧ AI.notTuple v = true ∧ v.cells.toList = [v] := by
  rcases h with ⟨rfl, _⟩ | ⟨rfl, _⟩ | ⟨_, _, _, _, _, _, rfl, _⟩ <;> exact ⟨rfl, rfl, rfl⟩
end Go.AI
namespace Go.AI
def idxFrom : Nat → List Value → List (Nat × Value)
  | _, [] => []
  | i, v :: vs => (i, v) :: idxFrom (i + 1) vs
theorem fill_vals : ∀ (vs : List Value) (i : Nat) (cells : List Value), cells.length = i + vs.length → vs.all oneC = true → fillL (fun i => some (i * 1, 1)) cells (idxFrom i vs) = some (cells.take i ++ vs)
  | [], i, cells, h, _ => by simp only [idxFrom, fillL]; rw [List.take_of_length_le (by simp at h; omega), List.append_nil]
  | v :: vs, i, cells, h, ho => by
    simp only [List.all_cons, Bool.and_eq_true] at ho
    have hv1 := oneC_cells ho.1
    have hv2 := oneC_notTuple ho.1
    simp only [List.length_cons] at h
    rw [idxFrom, fillL]
    have hif : ¬ (v.cells.size ≠ 1 ∨ i * 1 + v.cells.size > cells.length ∨ notTuple v = false) := by rw [hv1, hv2]; simp; omega
    simp only [hif, if_false]
    rw [hv1, show splice cells (i * 1) #[v].toList = cells.set i v by rw [Nat.mul_one]; rfl, fill_vals vs (i + 1) _ (by simp; omega) ho.2]
    congr 1
    rw [List.take_add_one, List.getElem?_set_self (by omega), List.take_set_of_le (Nat.le_refl _)]
    simp
/-- A row of values, each of one cell, written out. -/
theorem build_vals {P : Program} {H : Heap} {t e : TypeId} {z : Value} {by' : Nat} (vs : List Value) (ht : P.underlying t = some (.slice e)) (h1 : oneBB P e = some (z, by')) (ho : vs.all oneC = true) (hl : vs.length ≤ 1000) :
    abuildSlice P H t vs.length (idxFrom 0 vs) = some (.slice (some ⟨H.n, 0, none⟩) vs.length 0, H.new (.cells vs e 2), H.n) := by
  obtain ⟨info, hi, hz, hs, hc, hsc, hby⟩ := oneBB_spec h1
  simp only [abuildSlice, ht, hi, hz, hs, hc]
  rw [if_pos ⟨by omega, rfl, by simp [hsc], by omega⟩, fill_vals vs 0 _ (by simp [zeros]) ho]
  simp only [List.take_zero, List.nil_append, anew]
end Go.AI
namespace Go.AI
theorem new_row {H : Heap} {l : List Value} {n : Nat} {e : TypeId} (hn : n = l.length) : Row (H.new (.cells l e 2)) (.slice (some ⟨H.n, 0, none⟩) n 0) l :=
  .inr (.inr ⟨H.n, 0, 0, _, e, 2, by rw [hn], Nat.lt_succ_self _, Heap.get_new_eq _ _, by decide, by simp, fun j w h => by simpa using h⟩)
end Go.AI
