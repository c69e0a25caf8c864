
/- Guests and rules as cells; bits; lists of numbers that hold one. -/
import Derived.Test.YtlamceokhbigaaaT0g
set_option linter.unusedVariables false
set_option linter.unusedSimpArgs false
namespace Go.AI
theorem RowS.cells {s : Nat} {H : Heap} {v : Value} {rs : List (List Value)} (h : RowS s H v rs) : v.cells.toList = [v] ∧ AI.oneC v = true ∧ AI.notTuple v = true := by
  rcases h.2 with ⟨rfl, _⟩ | ⟨rfl, _⟩ | ⟨_, _, _, _, _, _, rfl, _⟩ <;> exact ⟨rfl, rfl, rfl⟩
theorem agg_load {P : Program} {H : Heap} {t e : TypeId} {b i n k : Nat} {cs : List Value} (ha : isAggB P t = some true) (hs : sizeB P t = some n) (hg : H.get b = some (.cells cs e k)) (hle : i + n ≤ cs.length) : aload P t H (.pointer (some ⟨b, i, none⟩)) = some (.agg ((cs.drop i).take n).toArray) := by
  simp [aload, hg, ha, hs, hle]
theorem OwnS.same {e : TypeId} {s : Nat} {H : Heap} {v : Value} {rs : List (List Value)} {B : Nat} (h : OwnS e s H v rs B) : sameFix v v = true := by
  rcases h.2 with ⟨rfl, _⟩ | ⟨b, rfl, _⟩
  · rfl
  · exact same_sl
theorem OwnS.keepX {e : TypeId} {s : Nat} {H H' : Heap} {b : Nat} {v : Value} {rs : List (List Value)} {B : Nat} {cs0 : List Value} {e0 : TypeId} (h : OwnS e s H v rs B) (k : KeepX b H H') (hb : H.get b = some (.cells cs0 e0 1)) : OwnS e s H' v rs B := by
  refine ⟨h.1, ?_⟩
  rcases h.2 with h | ⟨b', rfl, h2, h3, h4⟩
  · exact .inl h
  · refine .inr ⟨b', rfl, h2, Nat.lt_of_lt_of_le h3 k.1, ?_⟩
    rw [k.2 b' h3 (by rintro rfl; rw [h4] at hb; cases hb)]; exact h4
theorem OwnS.oneC {e : TypeId} {s : Nat} {H : Heap} {v : Value} {rs : List (List Value)} {B : Nat} (h : OwnS e s H v rs B) : AI.oneC v = true := by
  rcases h.2 with ⟨rfl, _⟩ | ⟨_, rfl, _⟩ <;> rfl
end Go.AI
namespace Go.AI
theorem row_slice {P : Program} {H : Heap} {t e : TypeId} {v : Value} {vs : List Value} {i : Int} {kd : IntKind} (ht : P.underlying t = some (.slice e)) (hs : sizeB P e = some 1) (hv : Row H v vs) (h0 : 0 ≤ i) (h1 : i ≤ vs.length) :
    ∃ r, aslice P t v none (some (some (.int kd i))) = some r ∧ Row H r (vs.take i.toNat) := by
  rcases hv with ⟨rfl, rfl⟩ | ⟨rfl, rfl⟩ | ⟨b, o, c, cs, e', k, rfl, h2, h3, h4, h5, h6⟩
  · simp at h1
    have : i = 0 := by omega
    subst this
    exact ⟨.slice none 0 0, by simp [aslice, ht, hs, bound], .inl ⟨rfl, by simp⟩⟩
  · simp at h1
    have : i = 0 := by omega
    subst this
    exact ⟨anon, by simp [aslice, anon, ht, hs, bound], .inr (.inl ⟨rfl, by simp⟩)⟩
  · refine ⟨.slice (some ⟨b, o, none⟩) i.toNat c, by simp [aslice, ht, hs, bound, h0, h1], .inr (.inr ⟨b, o, c, cs, e', k, ?_, h2, h3, h4, ?_, ?_⟩)⟩
    · rw [List.length_take]; congr 1; omega
    · rw [List.length_take]; omega
    · intro j w hj
      rw [List.getElem?_take] at hj
      split at hj
      · exact h6 j w hj
      · cases hj
def zeroCellsW (P : Program) (t : TypeId) : Option (List Value) :=
  match (P.info? t).bind (·.zero) with
  | some z => bif z.cells.toList.all scalar then some z.cells.toList else none
  | none => none

theorem alloc_ofW {P : Program} {H : Heap} {t : TypeId} {l : List Value} (h : zeroCellsW P t = some l) : sAlloc P H t = some (.pointer (some ⟨H.n, 0, none⟩), H.new (.cells l t 1), H.n) := by
  unfold zeroCellsW at h
  unfold sAlloc
  split at h
  · rename_i z hz
    rw [hz]
    cases hc : z.cells.toList.all scalar with
    | true =>
      rw [hc] at h
      cases h
      simp only [hc, if_true]
      rfl
    | false => rw [hc] at h; cases h
  · cases h

theorem splice_allW : ∀ (vs cs : List Value) (i : Nat), i + vs.length ≤ cs.length → splice cs i vs = cs.take i ++ vs ++ cs.drop (i + vs.length)
  | [], cs, i, _ => by simp [splice]
  | v :: vs, cs, i, h => by
    simp only [List.length_cons] at h
    rw [splice, splice_allW vs (cs.set i v) (i + 1) (by rw [List.length_set]; omega)]
    have h1 : (cs.set i v).take (i + 1) = cs.take i ++ [v] := by
      apply List.ext_getElem
      · simp; omega
      · intro j h1 h2
        simp only [List.length_take, List.length_set] at h1
        rw [List.getElem_take, List.getElem_set, List.getElem_append]
        by_cases hj : j < i
        · rw [if_neg (by omega), dif_pos (by simp; omega), List.getElem_take]
        · have : j = i := by omega
          subst this
          rw [if_pos rfl, dif_neg (by rw [List.length_take]; omega)]
          simp
    rw [h1, List.drop_set_of_lt (by omega)]
    simp [Nat.add_assoc, Nat.add_comm 1]

theorem store_allW {P : Program} {H : Heap} {t e : TypeId} {b k : Nat} {cs vs : List Value} (hb : H.get b = some (.cells cs e (k + 1))) (hl : cs.length = vs.length) (hs : sizeB P t = some vs.length) (ho : vs.all oneC = true) :
    astore P t H (.agg vs.toArray) (.pointer (some ⟨b, 0, none⟩)) = some (H.set b (.cells vs e (k + 1)), b) := by
  have h1 : (Value.agg vs.toArray).cells = vs.toArray := rfl
  simp only [astore, hb, h1, hs, spliceQ_eq]
  rw [if_pos ⟨by simp, by simp; omega, rfl, by simpa using ho⟩, splice_allW _ _ _ (by simp; omega)]
  simp only [List.take_zero, List.nil_append, Nat.zero_add]
  rw [List.drop_eq_nil_of_le (by omega), List.append_nil]

theorem array_addrW {P : Program} {t e : TypeId} {len s : Nat} (ht : P.underlying t = some (.array len e)) (hs : sizeB P e = some s) {b i : Nat} {k : Int} {kd : IntKind} (h0 : 0 ≤ k) (h1 : k < len) :
    aindexAddr P t (.pointer (some ⟨b, i, none⟩)) (.int kd k) = some (.pointer (some ⟨b, i + k.toNat * s, none⟩)) := by
  simp [aindexAddr, asIdx, ht, hs, h0, h1]

end Go.AI
namespace Go.Proofs.Ytlamceokhbigaaa
open Go.AI
set_option maxRecDepth 100000 in
theorem index_spec {B : Nat} {H : Heap} {v : Value} {xs : List Int} {t : Int} (hB : B ≤ H.n) (hv : Ints H v xs) (hn : xs.length < 1000000) :
    CallB Try.prog B 137 [v, .int .i64 t] H (fun r H' => r = .int .i64 (if t ∈ xs then (xs.idxOf t : Int) else -1) ∧ H' = H) := by
  refine CV.enter callees false rfl Try.func137 rfl (by kernel_rfl) (Nat.le_of_ble_eq_true rfl) hB ?_
  repeat' first
    | refine CO.cons rfl ?_
    | refine CO.nil ?_
    | refine CV.seq ?_
    | refine CV.region callees ?_
    | refine CV.block ?_
    | refine ⟨_, ints_len (by assumption), ?_⟩
    | fail
  refine CV.loopc ?_
  refine WCv.rounds callees false (α := Nat) (fun i => [(0, v), (1, .int .i64 t), (7, .int .i64 xs.length), (8, .int .i64 i)]) (fun i Hz => Hz = H ∧ i ≤ xs.length ∧ t ∉ xs.take i) (fun i => xs.length - i) (0) (by repeat' first | exact trivial | refine ⟨rfl, ?_⟩ | refine ⟨slot_int (by (try simp only [Int.toNat_natCast]); omega), ?_⟩) ?_ ?_
  · exact ⟨rfl, by omega, by simp⟩
  rintro i Hx ⟨rfl, hi, hno⟩ hBx
  by_cases hi2 : i < xs.length
  · have hm : xs[i]! ∈ xs := by rw [getElem!_pos xs i hi2]; exact List.getElem_mem _
    have hsn : xs.take (i + 1) = xs.take i ++ [xs[i]!] := by rw [List.take_add_one, List.getElem?_eq_getElem hi2, getElem!_pos xs i hi2]; rfl
    have hxi : xs[(i : Int).toNat]! = xs[i]! := rfl
    repeat' first
      | refine CO.cons rfl ?_
      | refine CO.nil ?_
      | refine CV.seq ?_
      | refine CV.region callees ?_
      | refine CV.cond ?_
      | refine CV.block ?_
      | refine CV.skip ?_
      | refine CV.ret ?_
      | refine ⟨_, ints_addr (by assumption) (by omega) (by omega), ?_⟩
      | refine ⟨_, ints_load (by assumption) (by omega) (by omega), ?_⟩
      | refine ⟨(⟨by omega, by omega⟩ : inI64 _), ?_⟩
      | (refine ⟨fun _ => ?_, fun _ => ?_⟩ <;> first | (exfalso; omega) | skip)
      | fail
    · rename_i h1
      have h1 : t = xs[i]! := by first | exact h1 | omega
      refine ⟨rfl, ?_, rfl⟩
      rw [if_pos (by rw [h1]; exact hm)]
      have hd : xs = xs.take i ++ xs.drop i := (List.take_append_drop i xs).symm
      have hdd : xs.drop i = t :: xs.drop (i + 1) := by rw [List.drop_eq_getElem_cons hi2, h1, getElem!_pos xs i hi2]
      have : xs.idxOf t = i := by
        rw [hd, List.idxOf_append, if_neg hno, hdd, List.idxOf_cons_self, List.length_take]; omega
      rw [this]
    · rename_i h1
      have h1 : ¬ t = xs[i]! := by first | exact h1 | omega
      refine ⟨(i + 1), (by repeat' first | exact trivial | refine ⟨rfl, ?_⟩ | refine ⟨slot_int (by (try simp only [Int.toNat_natCast]); omega), ?_⟩), (by (try dsimp only); omega), ?_⟩
      refine ⟨rfl, by omega, ?_⟩
      rw [hsn, List.mem_append, List.mem_singleton]
      exact fun h => h.elim hno h1
  · have : i = xs.length := by omega
    subst this
    rw [List.take_length] at hno
    repeat' first
      | refine CO.cons rfl ?_
      | refine CO.nil ?_
      | refine CV.seq ?_
      | refine CV.region callees ?_
      | refine CV.cond ?_
      | refine CV.exit ?_
      | refine CV.ret ?_
      | (refine ⟨fun _ => ?_, fun _ => ?_⟩ <;> first | (exfalso; omega) | skip)
      | fail
    exact ⟨rfl, by rw [if_neg hno], rfl⟩
set_option maxRecDepth 100000 in
theorem contains_spec {B : Nat} {H : Heap} {v : Value} {xs : List Int} {t : Int} (hB : B ≤ H.n) (hv : Ints H v xs) (hn : xs.length < 1000000) :
    CallB Try.prog B 117 [v, .int .i64 t] H (fun r H' => r = .bool (decide (t ∈ xs)) ∧ H' = H) := by
  refine CV.enter callees false rfl Try.func117 rfl (by kernel_rfl) (Nat.le_of_ble_eq_true rfl) hB ?_
  repeat' first
    | refine CO.cons rfl ?_
    | refine CO.nil ?_
    | refine CV.seq ?_
    | refine CV.region callees ?_
    | fail
  refine (index_spec hB hv hn).mono ?_
  rintro r H1 ⟨rfl, rfl⟩
  by_cases h : t ∈ xs
  · rw [if_pos h]
    repeat' first
      | refine CO.cons rfl ?_
      | refine CO.nil ?_
      | refine CV.ret ?_
      | (refine ⟨fun _ => ?_, fun _ => ?_⟩ <;> first | (exfalso; omega) | skip)
      | fail
    exact ⟨rfl, by simp [h], rfl⟩
  · rw [if_neg h]
    repeat' first
      | refine CO.cons rfl ?_
      | refine CO.nil ?_
      | refine CV.ret ?_
      | (refine ⟨fun _ => ?_, fun _ => ?_⟩ <;> first | (exfalso; omega) | skip)
      | fail
    exact ⟨rfl, by simp [h], rfl⟩
theorem wrapN {n : Nat} (h : n < 2 ^ 64) : IntKind.wrap .u64 (n : Int) = n := by
  have h2 : (2 : Nat) ^ 64 = 18446744073709551616 := by decide
  exact wrapU (by omega) (by omega)
theorem bvN {n : Nat} : BitVec.ofInt 64 (n : Int) = BitVec.ofNat 64 n := by
  apply BitVec.eq_of_toNat_eq
  rw [BitVec.toNat_ofInt, BitVec.toNat_ofNat]
  omega
theorem andN {a b : Nat} (ha : a < 2 ^ 64) (hb : b < 2 ^ 64) : IntKind.wrap .u64 ((BitVec.ofInt (IntKind.bits .u64) (a : Int) &&& BitVec.ofInt (IntKind.bits .u64) (b : Int)).toNat) = ((a &&& b : Nat) : Int) := by
  rw [show IntKind.bits .u64 = 64 from rfl, bvN, bvN, BitVec.toNat_and, BitVec.toNat_ofNat, BitVec.toNat_ofNat, Nat.mod_eq_of_lt ha, Nat.mod_eq_of_lt hb]
  exact wrapN (Nat.lt_of_le_of_lt Nat.and_le_left ha)
theorem orN {a b : Nat} (ha : a < 2 ^ 64) (hb : b < 2 ^ 64) : IntKind.wrap .u64 ((BitVec.ofInt (IntKind.bits .u64) (a : Int) ||| BitVec.ofInt (IntKind.bits .u64) (b : Int)).toNat) = ((a ||| b : Nat) : Int) := by
  rw [show IntKind.bits .u64 = 64 from rfl, bvN, bvN, BitVec.toNat_or, BitVec.toNat_ofNat, BitVec.toNat_ofNat, Nat.mod_eq_of_lt ha, Nat.mod_eq_of_lt hb]
  exact wrapN (Nat.or_lt_two_pow ha hb)
theorem shrN {a : Nat} {i : Int} (h0 : 0 ≤ i) (h1 : i < 64) : (a : Int).fdiv (2 ^ (min i.toNat (IntKind.bits .u64))) = ((a >>> i.toNat : Nat) : Int) := by
  rw [show IntKind.bits .u64 = 64 from rfl, Nat.min_eq_left (by omega), Int.fdiv_eq_ediv_of_nonneg _ (Int.pow_nonneg (by decide)), Nat.shiftRight_eq_div_pow]
  simp
theorem shlN {i : Int} (h0 : 0 ≤ i) (h1 : i < 64) : IntKind.wrap .u64 (1 * 2 ^ (min i.toNat (IntKind.bits .u64))) = ((1 <<< i.toNat : Nat) : Int) := by
  rw [show IntKind.bits .u64 = 64 from rfl, Nat.min_eq_left (by omega), Nat.one_shiftLeft]
  have := wrapN (n := 2 ^ i.toNat) (Nat.pow_lt_pow_right (by decide) (by omega))
  simpa using this

/-- Fields at an offset. -/
theorem fS {b i f : Nat} {o n : Nat} {t : TypeId} (h : fieldOff Try.prog t f = some (o, n)) (hn : n ≠ 0) : afieldAddr Try.prog t (.pointer (some ⟨b, i, none⟩)) f = some (.pointer (some ⟨b, i + o, none⟩)) := field_addr h hn
theorem KeepX.put {b c : Nat} {H H1 H2 : Heap} (k : KeepX b H H1) (hc : H.n ≤ c) (o : ∀ x, x ≠ c → H2.get x = H1.get x) (n : H2.n = H1.n) : KeepX b H H2 := ⟨by have := k.1; omega, fun x hx hxb => (o x (by omega)).trans (k.2 x hx hxb)⟩
theorem Box.put {b c : Nat} {H1 H2 : Heap} (h : Box b H1) (hc : b ≠ c) (o : ∀ x, x ≠ c → H2.get x = H1.get x) (n : H2.n = H1.n) : Box b H2 := ⟨by have := h.1; omega, by obtain ⟨w, hw⟩ := h.2; exact ⟨w, (o b hc).trans hw⟩⟩
theorem OwnS.boxed {e : TypeId} {s b : Nat} {H H' : Heap} {v : Value} {rs : List (List Value)} {B : Nat} (h : OwnS e s H v rs B) (k : KeepX b H H') (hb : Box b H) : OwnS e s H' v rs B := by
  obtain ⟨_, w, hw⟩ := hb
  exact OwnS.keepX h k hw
theorem getAt_snoc {α : Type} [Inhabited α] {l : List α} {d : α} {P : α → Prop} (h : ∀ i, i < l.length → P l[i]!) (hd : P d) : ∀ i, i < (l ++ [d]).length → P (l ++ [d])[i]! := by
  intro i hi
  rw [List.length_append, List.length_singleton] at hi
  rw [getElem!_pos _ i (by simp; omega)]
  by_cases hi2 : i < l.length
  · rw [List.getElem_append_left hi2]
    have := h i hi2
    rwa [getElem!_pos l i hi2] at this
  · rw [List.getElem_append_right (by omega)]
    simpa using hd
theorem own_keepN {e : TypeId} {b : Nat} {H H' : Heap} {v : Value} {vs : List Value} {B : Nat} (h : Own e H v vs B) (k : KeepX b H H') (hb : blkOf v ≠ some b) : Own e H' v vs B := by
  rcases h with h | ⟨b', rfl, h2, h3, h4⟩
  · exact .inl h
  · exact .inr ⟨b', rfl, h2, Nat.lt_of_lt_of_le h3 k.1, by rw [k.2 b' h3 (fun e => hb (by rw [← e]; rfl))]; exact h4⟩
theorem own_keepF {e : TypeId} {H H' : Heap} {v : Value} {vs : List Value} {B : Nat} (h : Own e H v vs B) (hn : H.n ≤ H'.n) (hk : ∀ c, blkOf v = some c → H'.get c = H.get c) : Own e H' v vs B := by
  rcases h with h | ⟨b', rfl, h2, h3, h4⟩
  · exact .inl h
  · exact .inr ⟨b', rfl, h2, Nat.lt_of_lt_of_le h3 hn, by rw [hk b' rfl]; exact h4⟩
theorem own_oneC {e : TypeId} {H : Heap} {v : Value} {vs : List Value} {B : Nat} (h : Own e H v vs B) : AI.oneC v = true := by
  rcases h with ⟨rfl, _⟩ | ⟨_, rfl, _⟩ <;> rfl
theorem Own.lower {e : TypeId} {H : Heap} {v : Value} {vs : List Value} {B B' : Nat} (h : Own e H v vs B) (hB : B' ≤ B) : Own e H v vs B' := by
  rcases h with h | ⟨b, h1, h2, h3, h4⟩
  · exact .inl h
  · exact .inr ⟨b, h1, Nat.le_trans hB h2, h3, h4⟩

abbrev VU : Int → Value := Value.int .u64
abbrev nilS : Value := .slice none 0 0
structure Gu where
  nm : List Int
  ra : Int
  ho : Int
  ne : Int
  ma : Int
deriving Inhabited
structure Ru where
  kd : Int
  a : Int
  b : Int
  wt : Int
deriving Inhabited
abbrev Gul (g : Gu) : List Value := [VS g.nm, VI g.ra, VI g.ho, VI g.ne, VI g.ma]
abbrev Guv (g : Gu) : Value := .agg #[VS g.nm, VI g.ra, VI g.ho, VI g.ne, VI g.ma]
abbrev Rul (r : Ru) : List Value := [VI r.kd, VI r.a, VI r.b, VI r.wt]
abbrev Ruv (r : Ru) : Value := .agg #[VI r.kd, VI r.a, VI r.b, VI r.wt]
abbrev Pal (g r : Value) : List Value := [g, r]
abbrev Pav (g r : Value) : Value := .agg #[g, r]
abbrev gu0 : Gu := ⟨[], 0, 0, 0, 0⟩
abbrev ru0 : Ru := ⟨0, 0, 0, 0⟩
theorem ag68 : isAggB Try.prog 68 = some true := by kernel_rfl
theorem sz68 : sizeB Try.prog 68 = some 5 := by kernel_rfl
theorem ag81 : isAggB Try.prog 81 = some true := by kernel_rfl
theorem sz81 : sizeB Try.prog 81 = some 4 := by kernel_rfl
theorem ag25 : isAggB Try.prog 25 = some true := by kernel_rfl
theorem sz25 : sizeB Try.prog 25 = some 2 := by kernel_rfl
theorem ag9 : isAggB Try.prog 9 = some false := by kernel_rfl
theorem ag22g : isAggB Try.prog 22 = some false := by kernel_rfl
theorem ag23r : isAggB Try.prog 23 = some false := by kernel_rfl
theorem un22g : Try.prog.underlying 22 = some (.slice 68) := by kernel_rfl
theorem un23r : Try.prog.underlying 23 = some (.slice 81) := by kernel_rfl
theorem foG0 : fieldOff Try.prog 68 0 = some (0, 1) := by kernel_rfl
theorem foG1 : fieldOff Try.prog 68 1 = some (1, 1) := by kernel_rfl
theorem foG2 : fieldOff Try.prog 68 2 = some (2, 1) := by kernel_rfl
theorem foG3 : fieldOff Try.prog 68 3 = some (3, 1) := by kernel_rfl
theorem foG4 : fieldOff Try.prog 68 4 = some (4, 1) := by kernel_rfl
theorem foR0 : fieldOff Try.prog 81 0 = some (0, 1) := by kernel_rfl
theorem foR1 : fieldOff Try.prog 81 1 = some (1, 1) := by kernel_rfl
theorem foR2 : fieldOff Try.prog 81 2 = some (2, 1) := by kernel_rfl
theorem foR3 : fieldOff Try.prog 81 3 = some (3, 1) := by kernel_rfl
theorem foP0 : fieldOff Try.prog 25 0 = some (0, 1) := by kernel_rfl
theorem foP1 : fieldOff Try.prog 25 1 = some (1, 1) := by kernel_rfl
theorem zero68 : zeroCellsW Try.prog 68 = some (Gul gu0) := by kernel_rfl
theorem zero81 : zeroCellsW Try.prog 81 = some (Rul ru0) := by kernel_rfl
theorem al68 {H : Heap} : sAlloc Try.prog H 68 = some (.pointer (some ⟨H.n, 0, none⟩), H.new (.cells (Gul gu0) 68 1), H.n) := alloc_ofW zero68
theorem al81 {H : Heap} : sAlloc Try.prog H 81 = some (.pointer (some ⟨H.n, 0, none⟩), H.new (.cells (Rul ru0) 81 1), H.n) := alloc_ofW zero81
theorem ld68 {H : Heap} {b : Nat} {g : Gu} {e : TypeId} {k : Nat} (hg : H.get b = some (.cells (Gul g) e k)) : aload Try.prog 68 H (.pointer (some ⟨b, 0, none⟩)) = some (Guv g) := agg_load ag68 sz68 hg (Nat.le_refl _)
theorem ld81 {H : Heap} {b : Nat} {g : Ru} {e : TypeId} {k : Nat} (hg : H.get b = some (.cells (Rul g) e k)) : aload Try.prog 81 H (.pointer (some ⟨b, 0, none⟩)) = some (Ruv g) := agg_load ag81 sz81 hg (Nat.le_refl _)
theorem ld25 {H : Heap} {b : Nat} {g r : Value} {e : TypeId} {k : Nat} (hg : H.get b = some (.cells (Pal g r) e k)) : aload Try.prog 25 H (.pointer (some ⟨b, 0, none⟩)) = some (Pav g r) := agg_load ag25 sz25 hg (Nat.le_refl _)
theorem st68 {H : Heap} {b k : Nat} {c d : Gu} {e : TypeId} (hg : H.get b = some (.cells (Gul c) e (k + 1))) : astore Try.prog 68 H (Guv d) (.pointer (some ⟨b, 0, none⟩)) = some (H.set b (.cells (Gul d) e (k + 1)), b) := store_allW (vs := Gul d) hg rfl sz68 rfl
theorem st81 {H : Heap} {b k : Nat} {c d : Ru} {e : TypeId} (hg : H.get b = some (.cells (Rul c) e (k + 1))) : astore Try.prog 81 H (Ruv d) (.pointer (some ⟨b, 0, none⟩)) = some (H.set b (.cells (Rul d) e (k + 1)), b) := store_allW (vs := Rul d) hg rfl sz81 rfl
theorem boxG {H : Heap} {g : Gu} {e : TypeId} : anew H (Value.cells (Guv g)).toList e 1 = H.new (.cells (Gul g) e 1) := rfl
theorem boxR {H : Heap} {g : Ru} {e : TypeId} : anew H (Value.cells (Ruv g)).toList e 1 = H.new (.cells (Rul g) e 1) := rfl
theorem boxP {H : Heap} {c t : Value} {e : TypeId} (h1 : c.cells.toList = [c]) (h2 : t.cells.toList = [t]) : anew H (Value.cells (Pav c t)).toList e 1 = H.new (.cells (Pal c t) e 1) := by
  have : (Value.cells (Pav c t)).toList = c.cells.toList ++ (t.cells.toList ++ []) := by
    rw [h1, h2]; rfl
  rw [this, h1, h2]; rfl
theorem gu_at {l : List Gu} {j : Nat} (hj : j < l.length) : (l.map Gul)[j]? = some (Gul l[j]!) := by rw [List.getElem?_map, List.getElem?_eq_getElem hj, getElem!_pos l j hj]; rfl
theorem ru_at {l : List Ru} {j : Nat} (hj : j < l.length) : (l.map Rul)[j]? = some (Rul l[j]!) := by rw [List.getElem?_map, List.getElem?_eq_getElem hj, getElem!_pos l j hj]; rfl
theorem gs_len {H : Heap} {v : Value} {l : List Gu} (h : RowS 5 H v (l.map Gul)) : alen Try.prog H 22 v = some (.int .i64 l.length) := by
  have := h.alen un22g; rwa [List.length_map] at this
theorem rs_len {H : Heap} {v : Value} {l : List Ru} (h : RowS 4 H v (l.map Rul)) : alen Try.prog H 23 v = some (.int .i64 l.length) := by
  have := h.alen un23r; rwa [List.length_map] at this
theorem gs_addr {H : Heap} {v : Value} {l : List Gu} (h : RowS 5 H v (l.map Gul)) {n : Int} (h0 : 0 ≤ n) (h1 : n < l.length) : aindexAddr Try.prog 22 v (.int .i64 n) = some (elemS v 5 n.toNat) := h.addr un22g sz68 h0 (by rw [List.length_map]; exact h1)
theorem rs_addr {H : Heap} {v : Value} {l : List Ru} (h : RowS 4 H v (l.map Rul)) {n : Int} (h0 : 0 ≤ n) (h1 : n < l.length) : aindexAddr Try.prog 23 v (.int .i64 n) = some (elemS v 4 n.toNat) := h.addr un23r sz81 h0 (by rw [List.length_map]; exact h1)
theorem gs_load {H : Heap} {v : Value} {l : List Gu} (h : RowS 5 H v (l.map Gul)) {j : Nat} (hj : j < l.length) : aload Try.prog 68 H (elemS v 5 j) = some (Guv l[j]!) := h.load ag68 sz68 (gu_at hj)
theorem rs_load {H : Heap} {v : Value} {l : List Ru} (h : RowS 4 H v (l.map Rul)) {j : Nat} (hj : j < l.length) : aload Try.prog 81 H (elemS v 4 j) = some (Ruv l[j]!) := h.load ag81 sz81 (ru_at hj)
theorem gs_f {H : Heap} {v : Value} {l : List Gu} (h : RowS 5 H v (l.map Gul)) {f o n j : Nat} (hf : fieldOff Try.prog 68 f = some (o, n)) (hn : n ≠ 0) (hj : j < l.length) : afieldAddr Try.prog 68 (elemS v 5 j) f = some (fieldOf (elemS v 5 j) o) := h.faddr hf hn (by rw [List.length_map]; exact hj)
theorem gs_ra {H : Heap} {v : Value} {l : List Gu} (h : RowS 5 H v (l.map Gul)) {j : Nat} (hj : j < l.length) : aload Try.prog 3 H (fieldOf (elemS v 5 j) 1) = some (VI l[j]!.ra) := h.fload ag3 (j := j) (o := 1) (r := Gul l[j]!) (gu_at hj) rfl
abbrev OwnG (H : Heap) (v : Value) (l : List Gu) (B : Nat) : Prop := OwnS 68 5 H v (l.map Gul) B
abbrev OwnR (H : Heap) (v : Value) (l : List Ru) (B : Nat) : Prop := OwnS 81 4 H v (l.map Rul) B
theorem zero68b : zeroBB Try.prog 68 = some (Gul gu0, 48) := by kernel_rfl
theorem gu_one {H : Heap} {x : Gu} : abuildSlice Try.prog H 22 1 [(0, Guv x)] = some (.slice (some ⟨H.n, 0, none⟩) 1 0, H.new (.cells (Gul x) 68 2), H.n) :=
  build_oneS (row := Gul x) un22g zero68b (by decide) rfl
theorem gu_push {K : Value → Heap → Prop} {B B0 : Nat} {H : Heap} {x : Value} {l : List Gu} {d : Gu} (hx : OwnG H x l B0) (hB0 : B0 ≤ H.n) (hB : B ≤ B0) (hn : l.length < 1000000)
    (hk : ∀ r H', OwnG H' r (l ++ [d]) B0 → KeepBut x H H' → (∀ c, blkOf r = some c → H.n ≤ c) → K r H') :
    ∃ v H' b, aappend Try.prog (H.new (.cells (Gul d) 68 2)) #[22, 22] x (.slice (some ⟨H.n, 0, none⟩) 1 0) = some (v, H', b) ∧ B ≤ b ∧ K v H' :=
  append_askS (z := Gul gu0) un22g zero68b (by decide) rfl hx hB0 hB (by rw [List.length_map]; exact hn) (fun r H' ho => hk r H' (by rw [OwnG, List.map_append]; exact ho))
theorem bu68 {s : List Int} {x y : Int} : abuild Try.prog 68 [(0, VS s), (1, VI x), (2, VI y)] = some (Guv ⟨s, x, y, 0, 0⟩) := by kernel_rfl
end Go.Proofs.Ytlamceokhbigaaa

