
/- Small functions of package hearth that the walk through a map needs, and which coal lights which. -/
import Derived.Test.YtglkphjjinmgmaaW1h
set_option linter.unusedVariables false
set_option linter.unusedSimpArgs false
namespace Go.AI
def zeroCellsW (P : Program) (t : TypeId) : Option (List Value) :=
  match (P.info? t).bind (·.zero) with
  | some z => bif z.cells.toList.all scalar then some z.cells.toList else none
  | none => none

theorem alloc_ofW {P : Program} {H : Heap} {t : TypeId} {l : List Value} (h : zeroCellsW P t = some l) : sAlloc P H t = some (.pointer (some ⟨H.n, 0, none⟩), H.new (.cells l t 1), H.n) := by
  unfold zeroCellsW at h
  unfold sAlloc
  split at h
  · rename_i z hz
    rw [hz]
    cases hc : z.cells.toList.all scalar with
    | true =>
      rw [hc] at h
      cases h
      simp only [hc, if_true]
      rfl
    | false => rw [hc] at h; cases h
  · cases h

theorem splice_allW : ∀ (vs cs : List Value) (i : Nat), i + vs.length ≤ cs.length → splice cs i vs = cs.take i ++ vs ++ cs.drop (i + vs.length)
  | [], cs, i, _ => by simp [splice]
  | v :: vs, cs, i, h => by
    simp only [List.length_cons] at h
    rw [splice, splice_allW vs (cs.set i v) (i + 1) (by rw [List.length_set]; omega)]
    have h1 : (cs.set i v).take (i + 1) = cs.take i ++ [v] := by
      apply List.ext_getElem
      · simp; omega
      · intro j h1 h2
        simp only [List.length_take, List.length_set] at h1
        rw [List.getElem_take, List.getElem_set, List.getElem_append]
        by_cases hj : j < i
        · rw [if_neg (by omega), dif_pos (by simp; omega), List.getElem_take]
        · have : j = i := by omega
          subst this
          rw [if_pos rfl, dif_neg (by rw [List.length_take]; omega)]
          simp
    rw [h1, List.drop_set_of_lt (by omega)]
    simp [Nat.add_assoc, Nat.add_comm 1]

theorem store_allW {P : Program} {H : Heap} {t e : TypeId} {b k : Nat} {cs vs : List Value} (hb : H.get b = some (.cells cs e (k + 1))) (hl : cs.length = vs.length) (hs : sizeB P t = some vs.length) (ho : vs.all oneC = true) :
    astore P t H (.agg vs.toArray) (.pointer (some ⟨b, 0, none⟩)) = some (H.set b (.cells vs e (k + 1)), b) := by
  have h1 : (Value.agg vs.toArray).cells = vs.toArray := rfl
  simp only [astore, hb, h1, hs, spliceQ_eq]
  rw [if_pos ⟨by simp, by simp; omega, rfl, by simpa using ho⟩, splice_allW _ _ _ (by simp; omega)]
  simp only [List.take_zero, List.nil_append, Nat.zero_add]
  rw [List.drop_eq_nil_of_le (by omega), List.append_nil]

end Go.AI
namespace Go.Proofs.Ytglkphjjinmgmaa
open Go.AI
/-- One cell of a variable. -/
theorem cell_loadW {H : Heap} {b i : Nat} {cs : List Value} {e t : TypeId} {k : Nat} {x : Value} (ha : isAggB Try.prog t = some false) (hg : H.get b = some (.cells cs e k)) (hx : cs[i]? = some x) : aload Try.prog t H (.pointer (some ⟨b, i, none⟩)) = some x := by
  simp [aload, hg, ha, hx]

theorem keep_putW {H H1 H2 : Heap} {b : Nat} (k : Keep H H1) (hb : H.n ≤ b) (ho : ∀ c, c ≠ b → H2.get c = H1.get c) (hn : H2.n = H1.n) : Keep H H2 :=
  ⟨by rw [hn]; exact k.1, fun c hc => by rw [ho c (by omega)]; exact k.2 c hc⟩

theorem ag41 : isAggB Try.prog 27 = some true := by kernel_rfl
theorem sz41 : sizeB Try.prog 27 = some 2 := by kernel_rfl
theorem ag87 : isAggB Try.prog 104 = some true := by kernel_rfl
theorem sz87 : sizeB Try.prog 104 = some 2 := by kernel_rfl
theorem ag82 : isAggB Try.prog 99 = some true := by kernel_rfl
theorem sz82 : sizeB Try.prog 99 = some 2 := by kernel_rfl
theorem ag48 : isAggB Try.prog 32 = some true := by kernel_rfl
theorem sz48 : sizeB Try.prog 32 = some 7 := by kernel_rfl
theorem ag28 : isAggB Try.prog 25 = some true := by kernel_rfl
theorem sz28 : sizeB Try.prog 25 = some 2 := by kernel_rfl
theorem ag25 : isAggB Try.prog 22 = some false := by kernel_rfl
theorem ag26 : isAggB Try.prog 23 = some false := by kernel_rfl
theorem ag4 : isAggB Try.prog 4 = some false := by kernel_rfl
theorem un25 : Try.prog.underlying 22 = some (.slice 32) := by kernel_rfl
theorem un26 : Try.prog.underlying 23 = some (.slice 99) := by kernel_rfl
theorem foS0 : fieldOff Try.prog 27 0 = some (0, 1) := by kernel_rfl
theorem foS1 : fieldOff Try.prog 27 1 = some (1, 1) := by kernel_rfl
theorem foT0 : fieldOff Try.prog 99 0 = some (0, 1) := by kernel_rfl
theorem foT1 : fieldOff Try.prog 99 1 = some (1, 1) := by kernel_rfl
theorem foF0 : fieldOff Try.prog 25 0 = some (0, 1) := by kernel_rfl
theorem foF1 : fieldOff Try.prog 25 1 = some (1, 1) := by kernel_rfl
theorem foC0 : fieldOff Try.prog 32 0 = some (0, 2) := by kernel_rfl
theorem foC1 : fieldOff Try.prog 32 1 = some (2, 2) := by kernel_rfl
theorem foC2 : fieldOff Try.prog 32 2 = some (4, 2) := by kernel_rfl
theorem foC3 : fieldOff Try.prog 32 3 = some (6, 1) := by kernel_rfl
theorem un87 : Try.prog.underlying 104 = some (.array 2 3) := by kernel_rfl
theorem zero87 : zeroCellsW Try.prog 104 = some (Hl (0, 0)) := by kernel_rfl
theorem zero82 : zeroCellsW Try.prog 99 = some (Hl (0, 0)) := by kernel_rfl
theorem zero41 : zeroCellsW Try.prog 27 = some (Hl (0, 0)) := by kernel_rfl
theorem zero48 : zeroCellsW Try.prog 32 = some (Col ⟨0, 0, 0, 0, 0, 0, false⟩) := by kernel_rfl
theorem al87 {H : Heap} : sAlloc Try.prog H 104 = some (.pointer (some ⟨H.n, 0, none⟩), H.new (.cells (Hl (0, 0)) 104 1), H.n) := alloc_ofW zero87
theorem al82 {H : Heap} : sAlloc Try.prog H 99 = some (.pointer (some ⟨H.n, 0, none⟩), H.new (.cells (Hl (0, 0)) 99 1), H.n) := alloc_ofW zero82
theorem al41 {H : Heap} : sAlloc Try.prog H 27 = some (.pointer (some ⟨H.n, 0, none⟩), H.new (.cells (Hl (0, 0)) 27 1), H.n) := alloc_ofW zero41
theorem al48 {H : Heap} : sAlloc Try.prog H 32 = some (.pointer (some ⟨H.n, 0, none⟩), H.new (.cells (Col ⟨0, 0, 0, 0, 0, 0, false⟩) 32 1), H.n) := alloc_ofW zero48
theorem ld87 {H : Heap} {b : Nat} {p : Int × Int} {e : TypeId} {k : Nat} (hg : H.get b = some (.cells (Hl p) e k)) : aload Try.prog 104 H (.pointer (some ⟨b, 0, none⟩)) = some (Hv p) := agg_load ag87 sz87 hg (Nat.le_refl _)
theorem ld82 {H : Heap} {b : Nat} {p : Int × Int} {e : TypeId} {k : Nat} (hg : H.get b = some (.cells (Hl p) e k)) : aload Try.prog 99 H (.pointer (some ⟨b, 0, none⟩)) = some (Hv p) := agg_load ag82 sz82 hg (Nat.le_refl _)
theorem ld41 {H : Heap} {b : Nat} {p : Int × Int} {e : TypeId} {k : Nat} (hg : H.get b = some (.cells (Hl p) e k)) : aload Try.prog 27 H (.pointer (some ⟨b, 0, none⟩)) = some (Hv p) := agg_load ag41 sz41 hg (Nat.le_refl _)
theorem ld48 {H : Heap} {b : Nat} {c : Co} {e : TypeId} {k : Nat} (hg : H.get b = some (.cells (Col c) e k)) : aload Try.prog 32 H (.pointer (some ⟨b, 0, none⟩)) = some (Cov c) := agg_load ag48 sz48 hg (Nat.le_refl _)
theorem st87 {H : Heap} {b k : Nat} {p q : Int × Int} {e : TypeId} (hg : H.get b = some (.cells (Hl p) e (k + 1))) : astore Try.prog 104 H (Hv q) (.pointer (some ⟨b, 0, none⟩)) = some (H.set b (.cells (Hl q) e (k + 1)), b) := store_allW (vs := Hl q) hg rfl sz87 rfl
theorem st82 {H : Heap} {b k : Nat} {p q : Int × Int} {e : TypeId} (hg : H.get b = some (.cells (Hl p) e (k + 1))) : astore Try.prog 99 H (Hv q) (.pointer (some ⟨b, 0, none⟩)) = some (H.set b (.cells (Hl q) e (k + 1)), b) := store_allW (vs := Hl q) hg rfl sz82 rfl
theorem st41 {H : Heap} {b k : Nat} {p q : Int × Int} {e : TypeId} (hg : H.get b = some (.cells (Hl p) e (k + 1))) : astore Try.prog 27 H (Hv q) (.pointer (some ⟨b, 0, none⟩)) = some (H.set b (.cells (Hl q) e (k + 1)), b) := store_allW (vs := Hl q) hg rfl sz41 rfl
theorem st48 {H : Heap} {b k : Nat} {c d : Co} {e : TypeId} (hg : H.get b = some (.cells (Col c) e (k + 1))) : astore Try.prog 32 H (Cov d) (.pointer (some ⟨b, 0, none⟩)) = some (H.set b (.cells (Col d) e (k + 1)), b) := store_allW (vs := Col d) hg rfl sz48 rfl
theorem bu87 {x y : Int} : abuild Try.prog 104 [(0, VJ x), (1, VJ y)] = some (Hv (x, y)) := by kernel_rfl
theorem bu82 {x y : Int} : abuild Try.prog 99 [(0, VJ x), (1, VJ y)] = some (Hv (x, y)) := by kernel_rfl
theorem bu41 {x y : Int} : abuild Try.prog 27 [(0, VJ x), (1, VJ y)] = some (Hv (x, y)) := by kernel_rfl
theorem bu127 {p q : Int × Int} : abuild Try.prog 147 [(0, Hv p), (1, Hv q)] = some (.agg #[VJ p.1, VJ p.2, VJ q.1, VJ q.2]) := by kernel_rfl
theorem ix127a {p q : Int × Int} : aindex Try.prog 147 (.agg #[VJ p.1, VJ p.2, VJ q.1, VJ q.2]) (VJ 0) = some (Hv p) := by kernel_rfl
theorem ix127b {p q : Int × Int} : aindex Try.prog 147 (.agg #[VJ p.1, VJ p.2, VJ q.1, VJ q.2]) (VJ 1) = some (Hv q) := by kernel_rfl
theorem ix87a {p : Int × Int} : aindex Try.prog 104 (Hv p) (VJ 0) = some (VJ p.1) := by kernel_rfl
theorem ix87b {p : Int × Int} : aindex Try.prog 104 (Hv p) (VJ 1) = some (VJ p.2) := by kernel_rfl
/-- Fields at an offset. -/
theorem fS {b i f : Nat} {o n : Nat} {t : TypeId} (h : fieldOff Try.prog t f = some (o, n)) (hn : n ≠ 0) : afieldAddr Try.prog t (.pointer (some ⟨b, i, none⟩)) f = some (.pointer (some ⟨b, i + o, none⟩)) := field_addr h hn
theorem allocHv {H : Heap} {p : Int × Int} {e : TypeId} : anew H (Value.cells (Hv p)).toList e 1 = H.new (.cells (Hl p) e 1) := rfl
theorem allocFv {H : Heap} {c t : Value} (h1 : c.cells.toList = [c]) (h2 : t.cells.toList = [t]) : anew H (Value.cells (Fv c t)).toList 25 1 = H.new (.cells (Fl c t) 25 1) := by
  have : (Value.cells (Fv c t)).toList = c.cells.toList ++ (t.cells.toList ++ []) := by
    rw [h1, h2]; rfl
  rw [this, h1, h2]; rfl
theorem cs_len {H : Heap} {v : Value} {l : List Co} (h : RowS 7 H v (l.map Col)) : alen Try.prog H 22 v = some (.int .i64 l.length) := by
  have := h.alen un25; rwa [List.length_map] at this
theorem ts_len {H : Heap} {v : Value} {l : List (Int × Int)} (h : RowS 2 H v (l.map Hl)) : alen Try.prog H 23 v = some (.int .i64 l.length) := by
  have := h.alen un26; rwa [List.length_map] at this
theorem cs_addr {H : Heap} {v : Value} {l : List Co} (h : RowS 7 H v (l.map Col)) {n : Int} (h0 : 0 ≤ n) (h1 : n < l.length) : aindexAddr Try.prog 22 v (.int .i64 n) = some (elemS v 7 n.toNat) := h.addr un25 sz48 h0 (by rw [List.length_map]; exact h1)
theorem ts_addr {H : Heap} {v : Value} {l : List (Int × Int)} (h : RowS 2 H v (l.map Hl)) {n : Int} (h0 : 0 ≤ n) (h1 : n < l.length) : aindexAddr Try.prog 23 v (.int .i64 n) = some (elemS v 2 n.toNat) := h.addr un26 sz82 h0 (by rw [List.length_map]; exact h1)
theorem col_at {l : List Co} {j : Nat} (hj : j < l.length) : (l.map Col)[j]? = some (Col l[j]!) := by rw [List.getElem?_map, List.getElem?_eq_getElem hj, getElem!_pos l j hj]; rfl
theorem hl_at {l : List (Int × Int)} {j : Nat} (hj : j < l.length) : (l.map Hl)[j]? = some (Hl l[j]!) := by rw [List.getElem?_map, List.getElem?_eq_getElem hj, getElem!_pos l j hj]; rfl
theorem cs_load {H : Heap} {v : Value} {l : List Co} (h : RowS 7 H v (l.map Col)) {j : Nat} (hj : j < l.length) : aload Try.prog 32 H (elemS v 7 j) = some (Cov l[j]!) := h.load ag48 sz48 (col_at hj)
theorem ts_load {H : Heap} {v : Value} {l : List (Int × Int)} (h : RowS 2 H v (l.map Hl)) {j : Nat} (hj : j < l.length) : aload Try.prog 99 H (elemS v 2 j) = some (Hv l[j]!) := h.load ag82 sz82 (hl_at hj)
theorem RowS_sub {s n o j : Nat} {H : Heap} {v : Value} {rs : List (List Value)} {t : TypeId} {r : List Value} (h : RowS s H v rs) (ha : isAggB Try.prog t = some true) (hs : sizeB Try.prog t = some n) (hj : rs[j]? = some r) (hn : o + n ≤ s) : aload Try.prog t H (fieldOf (elemS v s j) o) = some (.agg ((r.drop o).take n).toArray) := by
  have hlen := h.1 r (List.mem_of_getElem? hj)
  rcases h.2 with ⟨rfl, rfl⟩ | ⟨rfl, rfl⟩ | ⟨b, i, c, cs, e', k, rfl, _, hb, _, hle, hc⟩
  · simp at hj
  · simp at hj
  · have hjl := (List.getElem?_eq_some_iff.1 hj).1
    have hm : (j + 1) * s ≤ rs.length * s := Nat.mul_le_mul_right _ hjl
    rw [Nat.succ_mul] at hm
    simp only [aload, elemS, fieldOf, hb, ha, hs]
    rw [if_pos (by omega)]
    suffices key : (List.drop (i + j * s + o) cs).take n = (r.drop o).take n by rw [key]
    apply List.ext_getElem?
    intro q
    by_cases hq : q < n
    · rw [List.getElem?_take_of_lt hq, List.getElem?_drop, List.getElem?_take_of_lt hq, List.getElem?_drop, show i + j * s + o + q = i + j * s + (o + q) by omega, hc j (o + q) r r[o + q] hj (List.getElem?_eq_getElem (by omega)), List.getElem?_eq_getElem (by omega)]
    · rw [List.getElem?_eq_none (by simp; omega), List.getElem?_eq_none (by simp; omega)]
theorem cs_f {H : Heap} {v : Value} {l : List Co} (h : RowS 7 H v (l.map Col)) {f o n j : Nat} (hf : fieldOff Try.prog 32 f = some (o, n)) (hn : n ≠ 0) (hj : j < l.length) : afieldAddr Try.prog 32 (elemS v 7 j) f = some (fieldOf (elemS v 7 j) o) := h.faddr hf hn (by rw [List.length_map]; exact hj)
theorem cs_catch {H : Heap} {v : Value} {l : List Co} (h : RowS 7 H v (l.map Col)) {j : Nat} (hj : j < l.length) : aload Try.prog 27 H (fieldOf (elemS v 7 j) 0) = some (Hv (l[j]!.cl, l[j]!.ch)) := RowS_sub h ag41 sz41 (col_at hj) (by omega)
theorem cs_burn {H : Heap} {v : Value} {l : List Co} (h : RowS 7 H v (l.map Col)) {j : Nat} (hj : j < l.length) : aload Try.prog 27 H (fieldOf (elemS v 7 j) 2) = some (Hv (l[j]!.bl, l[j]!.bh)) := RowS_sub h ag41 sz41 (col_at hj) (by omega)
set_option maxRecDepth 100000 in
theorem knownOf_spec1 {B : Nat} {H : Heap} {p : Int × Int} (hB : B ≤ H.n) :
    CallB Try.prog B 93 [Hv p] H (fun r H' => r = Hv p ∧ Keep H H') := by
  refine CV.enter callees1 false rfl Try.func93 rfl (by kernel_rfl) (Nat.le_of_ble_eq_true rfl) hB ?_
  repeat' first
    | refine CO.cons rfl ?_
    | refine CV.seq ?_
    | refine CV.region callees1 ?_
    | fail
  refine ⟨(by simp only [notTuple]), ?_⟩
  rw [allocHv]
  generalize hs0 : H.new _ = H0
  have hg0 := new_get hs0
  have k0 := new_keep hs0
  have n0 := new_n hs0
  obtain ⟨b0, hb0⟩ : ∃ b0, H.n = b0 := ⟨_, rfl⟩
  rw [hb0] at hg0 n0 ⊢
  repeat' first
    | refine CO.cons rfl ?_
    | refine CO.nil ?_
    | refine CV.seq ?_
    | refine CV.region callees1 ?_
    | (refine ⟨_, _, al87, ?_⟩)
    | fail
  generalize hs1 : H0.new _ = H1
  have hg1 := new_get hs1
  have k1 := new_keep hs1
  have n1 := new_n hs1
  obtain ⟨b1, hb1⟩ : ∃ b1, H0.n = b1 := ⟨_, rfl⟩
  rw [hb1] at hg1 n1 ⊢
  have hg01 : H1.get b0 = some (.cells (Hl p) 27 1) := by rw [k1.2 b0 (by omega)]; exact hg0
  repeat' first
    | refine CO.cons rfl ?_
    | (refine ⟨_, fS foS0 (by decide), ?_⟩)
    | (refine ⟨_, fS foS1 (by decide), ?_⟩)
    | (refine ⟨_, cell_loadW ag3 hg01 rfl, ?_⟩)
    | (refine ⟨_, bu87, ?_⟩)
    | fail
  refine ⟨_, _, st87 hg1, by omega, ?_⟩
  generalize hs2 : Heap.set H1 b1 _ = H2
  have hg2 := set_get hs2
  have n2 := set_n hs2
  have o2 := set_old hs2
  repeat' first
    | refine CO.nil ?_
    | refine CV.ret ?_
    | fail
  exact ⟨_, ld87 hg2, rfl, rfl, keep_putW (k0.trans k1) (by omega) o2 n2⟩
set_option maxRecDepth 100000 in
theorem other_spec1 {B : Nat} {H : Heap} {e : Int} (hB : B ≤ H.n) (he : e = 0 ∨ e = 1) :
    CallB Try.prog B 106 [VJ e] H (fun r H' => r = VJ (1 - e) ∧ Keep H H') := by
  refine CV.enter callees1 false rfl Try.func106 rfl (by kernel_rfl) (Nat.le_of_ble_eq_true rfl) hB ?_
  repeat' first
    | refine CO.cons rfl ?_
    | refine CO.nil ?_
    | refine CV.seq ?_
    | refine CV.region callees1 ?_
    | refine CV.ret ?_
    | refine ⟨(⟨by omega, by omega⟩ : inI64 _), ?_⟩
    | fail
  exact ⟨rfl, rfl, Keep.refl _⟩
end Go.Proofs.Ytglkphjjinmgmaa

