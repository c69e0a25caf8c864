
/- Guests and rules as cells; bits; lists of numbers that hold one. -/
import Derived.Test.YtijimplcjaeneaaGreatDoorT0z
set_option linter.unusedVariables false
set_option linter.unusedSimpArgs false
namespace Go.AI
theorem RowS.cells {s : Nat} {H : Heap} {v : Value} {rs : List (List Value)} (h : RowS s H v rs) : v.cells.toList = [v] ∧ AI.oneC v = true ∧ AI.notTuple v = true := by
  rcases h.2 with ⟨rfl, _⟩ | ⟨rfl, _⟩ | ⟨_, _, _, _, _, _, rfl, _⟩ <;> exact ⟨rfl, rfl, rfl⟩
theorem agg_load {P : Program} {H : Heap} {t e : TypeId} {b i n k : Nat} {cs : List Value} (ha : isAggB P t = some true) (hs : sizeB P t = some n) (hg : H.get b = some (.cells cs e k)) (hle : i + n ≤ cs.length) : aload P t H (.pointer (some ⟨b, i, none⟩)) = some (.agg ((cs.drop i).take n).toArray) := by
  simp [aload, hg, ha, hs, hle]
theorem OwnS.same {e : TypeId} {s : Nat} {H : Heap} {v : Value} {rs : List (List Value)} {B : Nat} (h : OwnS e s H v rs B) : sameFix v v = true := by
  rcases h.2 with ⟨rfl, _⟩ | ⟨b, rfl, _⟩
  · rfl
  · exact same_sl
theorem OwnS.keepX {e : TypeId} {s : Nat} {H H' : Heap} {b : Nat} {v : Value} {rs : List (List Value)} {B : Nat} {cs0 : List Value} {e0 : TypeId} (h : OwnS e s H v rs B) (k : KeepX b H H') (hb : H.get b = some (.cells cs0 e0 1)) : OwnS e s H' v rs B := by
  refine ⟨h.1, ?_⟩
  rcases h.2 with h | ⟨b', rfl, h2, h3, h4⟩
  · exact .inl h
  · refine .inr ⟨b', rfl, h2, Nat.lt_of_lt_of_le h3 k.1, ?_⟩
    rw [k.2 b' h3 (by rintro rfl; rw [h4] at hb; cases hb)]; exact h4
theorem OwnS.oneC {e : TypeId} {s : Nat} {H : Heap} {v : Value} {rs : List (List Value)} {B : Nat} (h : OwnS e s H v rs B) : AI.oneC v = true := by
  rcases h.2 with ⟨rfl, _⟩ | ⟨_, rfl, _⟩ <;> rfl
end Go.AI
namespace Go.AI
def zeroCellsW (P : Program) (t : TypeId) : Option (List Value) :=
  match (P.info? t).bind (·.zero) with
  | some z => bif z.cells.toList.all scalar then some z.cells.toList else none
  | none => none

theorem alloc_ofW {P : Program} {H : Heap} {t : TypeId} {l : List Value} (h : zeroCellsW P t = some l) : sAlloc P H t = some (.pointer (some ⟨H.n, 0, none⟩), H.new (.cells l t 1), H.n) := by
  unfold zeroCellsW at h
  unfold sAlloc
  split at h
  · rename_i z hz
    rw [hz]
    cases hc : z.cells.toList.all scalar with
    | true =>
      rw [hc] at h
      cases h
      simp only [hc, if_true]
      rfl
    | false => rw [hc] at h; cases h
  · cases h

theorem splice_allW : ∀ (vs cs : List Value) (i : Nat), i + vs.length ≤ cs.length → splice cs i vs = cs.take i ++ vs ++ cs.drop (i + vs.length)
  | [], cs, i, _ => by simp [splice]
  | v :: vs, cs, i, h => by
    simp only [List.length_cons] at h
    rw [splice, splice_allW vs (cs.set i v) (i + 1) (by rw [List.length_set]; omega)]
    have h1 : (cs.set i v).take (i + 1) = cs.take i ++ [v] := by
      apply List.ext_getElem
      · simp; omega
      · intro j h1 h2
        simp only [List.length_take, List.length_set] at h1
        rw [List.getElem_take, List.getElem_set, List.getElem_append]
        by_cases hj : j < i
        · rw [if_neg (by omega), dif_pos (by simp; omega), List.getElem_take]
        · have : j = i := by omega
          subst this
          rw [if_pos rfl, dif_neg (by rw [List.length_take]; omega)]
          simp
    rw [h1, List.drop_set_of_lt (by omega)]
    simp [Nat.add_assoc, Nat.add_comm 1]

theorem store_allW {P : Program} {H : Heap} {t e : TypeId} {b k : Nat} {cs vs : List Value} (hb : H.get b = some (.cells cs e (k + 1))) (hl : cs.length = vs.length) (hs : sizeB P t = some vs.length) (ho : vs.all oneC = true) :
    astore P t H (.agg vs.toArray) (.pointer (some ⟨b, 0, none⟩)) = some (H.set b (.cells vs e (k + 1)), b) := by
  have h1 : (Value.agg vs.toArray).cells = vs.toArray := rfl
  simp only [astore, hb, h1, hs, spliceQ_eq]
  rw [if_pos ⟨by simp, by simp; omega, rfl, by simpa using ho⟩, splice_allW _ _ _ (by simp; omega)]
  simp only [List.take_zero, List.nil_append, Nat.zero_add]
  rw [List.drop_eq_nil_of_le (by omega), List.append_nil]

end Go.AI
namespace Go.Proofs.YtijimplcjaeneaaGreatDoor
open Go.AI
set_option maxRecDepth 100000 in
theorem index_spec [Orc] {B : Nat} {H : Heap} {v : Value} {xs : List Int} {t : Int} (hB : B ≤ H.n) (hv : Ints H v xs) (hn : xs.length < 1000000) :
    CallB Tryz.prog B 84 [v, .int .i64 t] H (fun r H' => r = .int .i64 (if t ∈ xs then (xs.idxOf t : Int) else -1) ∧ H' = H) := by
  refine CV.enter callees false (Orc.hv rfl rfl) Tryz.func84 rfl (by kernel_rfl) (Nat.le_of_ble_eq_true rfl) hB ?_ (Orc.hw rfl rfl)
  repeat' first
    | refine CO.cons rfl ?_
    | refine CO.nil ?_
    | refine CV.seq ?_
    | refine CV.region callees ?_
    | refine CV.cond ?_
    | refine CV.block ?_
    | refine CV.skip ?_
    | refine CV.exit ?_
    | refine CV.ret ?_
    | refine CV.scope ?_
    | refine CV.draw callees (by decide +kernel) ?_
    | refine CH.cons rfl ?_
    | refine CH.nil ?_
    | refine CO.consG rfl ?_
    | refine CH.consG rfl ?_
    | refine CG.cons rfl ?_
    | refine CR.cons ?_
    | refine CR.nil ?_
    | refine CG.nil ?_
    | refine CG.consG rfl ?_
    | refine ⟨(rfl : plain _ = true), ?_⟩
    | refine ⟨(rfl : nilOk _ = some _), ?_⟩
    | refine ⟨_, ints_len (by assumption), ?_⟩
    | refine ⟨_, ints_addr (by assumption) (by omega) (by omega), ?_⟩
    | refine ⟨_, ints_load (by assumption) (by omega) (by omega), ?_⟩
    | refine ⟨(⟨by omega, by omega⟩ : inI64 _), ?_⟩
    | refine ⟨_, fun tm ha => step1_max rfl (ev_tmp ha rfl) (ev_tmp ha rfl), ?_⟩
    | refine ⟨_, fun tm ha => step1_min rfl (ev_tmp ha rfl) (ev_tmp ha rfl), ?_⟩
    | (refine ⟨fun _ => ?_, fun _ => ?_⟩ <;> first | (exfalso; omega) | skip)
    | fail
  refine CV.loopc ?_
  refine WCv.rounds callees false (α := Nat) (fun i => [(0, v), (1, .int .i64 t), (7, .int .i64 xs.length), (8, .int .i64 i)]) (fun i Hz => Hz = H ∧ i ≤ xs.length ∧ t ∉ xs.take i) (fun i => xs.length - i) (0) (by repeat' first | exact trivial | refine ⟨rfl, ?_⟩ | refine ⟨slot_int (by (try simp only [Int.toNat_natCast]); omega), ?_⟩) ?_ ?_
  · exact ⟨rfl, by omega, by simp⟩
  rintro i Hx ⟨rfl, hi, hno⟩ hBx
  by_cases hi2 : i < xs.length
  · have hm : xs[i]! ∈ xs := by rw [getElem!_pos xs i hi2]; exact List.getElem_mem _
    have hsn : xs.take (i + 1) = xs.take i ++ [xs[i]!] := by rw [List.take_add_one, List.getElem?_eq_getElem hi2, getElem!_pos xs i hi2]; rfl
    have hxi : xs[(i : Int).toNat]! = xs[i]! := rfl
    repeat' first
      | refine CO.cons rfl ?_
      | refine CO.nil ?_
      | refine CV.seq ?_
      | refine CV.region callees ?_
      | refine CV.cond ?_
      | refine CV.block ?_
      | refine CV.skip ?_
      | refine CV.exit ?_
      | refine CV.ret ?_
      | refine CV.scope ?_
      | refine CV.draw callees (by decide +kernel) ?_
      | refine CH.cons rfl ?_
      | refine CH.nil ?_
      | refine CO.consG rfl ?_
      | refine CH.consG rfl ?_
      | refine CG.cons rfl ?_
      | refine CR.cons ?_
      | refine CR.nil ?_
      | refine CG.nil ?_
      | refine CG.consG rfl ?_
      | refine ⟨(rfl : plain _ = true), ?_⟩
      | refine ⟨(rfl : nilOk _ = some _), ?_⟩
      | refine ⟨_, ints_len (by assumption), ?_⟩
      | refine ⟨_, ints_addr (by assumption) (by omega) (by omega), ?_⟩
      | refine ⟨_, ints_load (by assumption) (by omega) (by omega), ?_⟩
      | refine ⟨(⟨by omega, by omega⟩ : inI64 _), ?_⟩
      | refine ⟨_, fun tm ha => step1_max rfl (ev_tmp ha rfl) (ev_tmp ha rfl), ?_⟩
      | refine ⟨_, fun tm ha => step1_min rfl (ev_tmp ha rfl) (ev_tmp ha rfl), ?_⟩
      | (refine ⟨fun _ => ?_, fun _ => ?_⟩ <;> first | (exfalso; omega) | skip)
      | fail
    · rename_i h1
      have h1 : t = xs[i]! := by first | exact h1 | omega
      refine ⟨rfl, ?_, rfl⟩
      rw [if_pos (by rw [h1]; exact hm)]
      have hd : xs = xs.take i ++ xs.drop i := (List.take_append_drop i xs).symm
      have hdd : xs.drop i = t :: xs.drop (i + 1) := by rw [List.drop_eq_getElem_cons hi2, h1, getElem!_pos xs i hi2]
      have : xs.idxOf t = i := by
        rw [hd, List.idxOf_append, if_neg hno, hdd, List.idxOf_cons_self, List.length_take]; omega
      rw [this]
    · rename_i h1
      have h1 : ¬ t = xs[i]! := by first | exact h1 | omega
      refine ⟨(i + 1), (by repeat' first | exact trivial | refine ⟨rfl, ?_⟩ | refine ⟨slot_int (by (try simp only [Int.toNat_natCast]); omega), ?_⟩), (by (try dsimp only); omega), ?_⟩
      refine ⟨rfl, by omega, ?_⟩
      rw [hsn, List.mem_append, List.mem_singleton]
      exact fun h => h.elim hno h1
  · have : i = xs.length := by omega
    subst this
    rw [List.take_length] at hno
    repeat' first
      | refine CO.cons rfl ?_
      | refine CO.nil ?_
      | refine CV.seq ?_
      | refine CV.region callees ?_
      | refine CV.cond ?_
      | refine CV.block ?_
      | refine CV.skip ?_
      | refine CV.exit ?_
      | refine CV.ret ?_
      | refine CV.scope ?_
      | refine CV.draw callees (by decide +kernel) ?_
      | refine CH.cons rfl ?_
      | refine CH.nil ?_
      | refine CO.consG rfl ?_
      | refine CH.consG rfl ?_
      | refine CG.cons rfl ?_
      | refine CR.cons ?_
      | refine CR.nil ?_
      | refine CG.nil ?_
      | refine CG.consG rfl ?_
      | refine ⟨(rfl : plain _ = true), ?_⟩
      | refine ⟨(rfl : nilOk _ = some _), ?_⟩
      | refine ⟨_, ints_len (by assumption), ?_⟩
      | refine ⟨_, ints_addr (by assumption) (by omega) (by omega), ?_⟩
      | refine ⟨_, ints_load (by assumption) (by omega) (by omega), ?_⟩
      | refine ⟨(⟨by omega, by omega⟩ : inI64 _), ?_⟩
      | refine ⟨_, fun tm ha => step1_max rfl (ev_tmp ha rfl) (ev_tmp ha rfl), ?_⟩
      | refine ⟨_, fun tm ha => step1_min rfl (ev_tmp ha rfl) (ev_tmp ha rfl), ?_⟩
      | (refine ⟨fun _ => ?_, fun _ => ?_⟩ <;> first | (exfalso; omega) | skip)
      | fail
    exact ⟨rfl, by rw [if_neg hno], rfl⟩
set_option maxRecDepth 100000 in
theorem contains_spec [Orc] {B : Nat} {H : Heap} {v : Value} {xs : List Int} {t : Int} (hB : B ≤ H.n) (hv : Ints H v xs) (hn : xs.length < 1000000) :
    CallB Tryz.prog B 59 [v, .int .i64 t] H (fun r H' => r = .bool (decide (t ∈ xs)) ∧ H' = H) := by
  refine CV.enter callees false (Orc.hv rfl rfl) Tryz.func59 rfl (by kernel_rfl) (Nat.le_of_ble_eq_true rfl) hB ?_ (Orc.hw rfl rfl)
  repeat' first
    | refine CO.cons rfl ?_
    | refine CO.nil ?_
    | refine CV.seq ?_
    | refine CV.region callees ?_
    | refine CV.cond ?_
    | refine CV.block ?_
    | refine CV.skip ?_
    | refine CV.exit ?_
    | refine CV.ret ?_
    | refine CV.scope ?_
    | refine CV.draw callees (by decide +kernel) ?_
    | refine CH.cons rfl ?_
    | refine CH.nil ?_
    | refine CO.consG rfl ?_
    | refine CH.consG rfl ?_
    | refine CG.cons rfl ?_
    | refine CR.cons ?_
    | refine CR.nil ?_
    | refine CG.nil ?_
    | refine CG.consG rfl ?_
    | refine ⟨(rfl : plain _ = true), ?_⟩
    | refine ⟨(rfl : nilOk _ = some _), ?_⟩
    | refine ⟨_, ints_len (by assumption), ?_⟩
    | refine ⟨_, ints_addr (by assumption) (by omega) (by omega), ?_⟩
    | refine ⟨_, ints_load (by assumption) (by omega) (by omega), ?_⟩
    | refine ⟨(⟨by omega, by omega⟩ : inI64 _), ?_⟩
    | refine ⟨_, fun tm ha => step1_max rfl (ev_tmp ha rfl) (ev_tmp ha rfl), ?_⟩
    | refine ⟨_, fun tm ha => step1_min rfl (ev_tmp ha rfl) (ev_tmp ha rfl), ?_⟩
    | (refine ⟨fun _ => ?_, fun _ => ?_⟩ <;> first | (exfalso; omega) | skip)
    | fail
  refine (index_spec hB hv hn).mono ?_
  rintro r H1 ⟨rfl, rfl⟩
  by_cases h : t ∈ xs
  · rw [if_pos h]
    repeat' first
      | refine CO.cons rfl ?_
      | refine CO.nil ?_
      | refine CV.seq ?_
      | refine CV.region callees ?_
      | refine CV.cond ?_
      | refine CV.block ?_
      | refine CV.skip ?_
      | refine CV.exit ?_
      | refine CV.ret ?_
      | refine CV.scope ?_
      | refine CV.draw callees (by decide +kernel) ?_
      | refine CH.cons rfl ?_
      | refine CH.nil ?_
      | refine CO.consG rfl ?_
      | refine CH.consG rfl ?_
      | refine CG.cons rfl ?_
      | refine CR.cons ?_
      | refine CR.nil ?_
      | refine CG.nil ?_
      | refine CG.consG rfl ?_
      | refine ⟨(rfl : plain _ = true), ?_⟩
      | refine ⟨(rfl : nilOk _ = some _), ?_⟩
      | refine ⟨_, ints_len (by assumption), ?_⟩
      | refine ⟨_, ints_addr (by assumption) (by omega) (by omega), ?_⟩
      | refine ⟨_, ints_load (by assumption) (by omega) (by omega), ?_⟩
      | refine ⟨(⟨by omega, by omega⟩ : inI64 _), ?_⟩
      | refine ⟨_, fun tm ha => step1_max rfl (ev_tmp ha rfl) (ev_tmp ha rfl), ?_⟩
      | refine ⟨_, fun tm ha => step1_min rfl (ev_tmp ha rfl) (ev_tmp ha rfl), ?_⟩
      | (refine ⟨fun _ => ?_, fun _ => ?_⟩ <;> first | (exfalso; omega) | skip)
      | fail
    exact ⟨rfl, by simp [h], rfl⟩
  · rw [if_neg h]
    repeat' first
      | refine CO.cons rfl ?_
      | refine CO.nil ?_
      | refine CV.seq ?_
      | refine CV.region callees ?_
      | refine CV.cond ?_
      | refine CV.block ?_
      | refine CV.skip ?_
      | refine CV.exit ?_
      | refine CV.ret ?_
      | refine CV.scope ?_
      | refine CV.draw callees (by decide +kernel) ?_
      | refine CH.cons rfl ?_
      | refine CH.nil ?_
      | refine CO.consG rfl ?_
      | refine CH.consG rfl ?_
      | refine CG.cons rfl ?_
      | refine CR.cons ?_
      | refine CR.nil ?_
      | refine CG.nil ?_
      | refine CG.consG rfl ?_
      | refine ⟨(rfl : plain _ = true), ?_⟩
      | refine ⟨(rfl : nilOk _ = some _), ?_⟩
      | refine ⟨_, ints_len (by assumption), ?_⟩
      | refine ⟨_, ints_addr (by assumption) (by omega) (by omega), ?_⟩
      | refine ⟨_, ints_load (by assumption) (by omega) (by omega), ?_⟩
      | refine ⟨(⟨by omega, by omega⟩ : inI64 _), ?_⟩
      | refine ⟨_, fun tm ha => step1_max rfl (ev_tmp ha rfl) (ev_tmp ha rfl), ?_⟩
      | refine ⟨_, fun tm ha => step1_min rfl (ev_tmp ha rfl) (ev_tmp ha rfl), ?_⟩
      | (refine ⟨fun _ => ?_, fun _ => ?_⟩ <;> first | (exfalso; omega) | skip)
      | fail
    exact ⟨rfl, by simp [h], rfl⟩
/-- Fields at an offset. -/
theorem fS {b i f : Nat} {o n : Nat} {t : TypeId} (h : fieldOff Tryz.prog t f = some (o, n)) (hn : n ≠ 0) : afieldAddr Tryz.prog t (.pointer (some ⟨b, i, none⟩)) f = some (.pointer (some ⟨b, i + o, none⟩)) := field_addr h hn
theorem KeepX.put {b c : Nat} {H H1 H2 : Heap} (k : KeepX b H H1) (hc : H.n ≤ c) (o : ∀ x, x ≠ c → H2.get x = H1.get x) (n : H2.n = H1.n) : KeepX b H H2 := ⟨by have := k.1; omega, fun x hx hxb => (o x (by omega)).trans (k.2 x hx hxb)⟩
theorem Box.put {b c : Nat} {H1 H2 : Heap} (h : Box b H1) (hc : b ≠ c) (o : ∀ x, x ≠ c → H2.get x = H1.get x) (n : H2.n = H1.n) : Box b H2 := ⟨by have := h.1; omega, by obtain ⟨w, hw⟩ := h.2; exact ⟨w, (o b hc).trans hw⟩⟩
theorem own_keepF {e : TypeId} {H H' : Heap} {v : Value} {vs : List Value} {B : Nat} (h : Own e H v vs B) (hn : H.n ≤ H'.n) (hk : ∀ c, blkOf v = some c → H'.get c = H.get c) : Own e H' v vs B := by
  rcases h with h | ⟨b', rfl, h2, h3, h4⟩
  · exact .inl h
  · exact .inr ⟨b', rfl, h2, Nat.lt_of_lt_of_le h3 hn, by rw [hk b' rfl]; exact h4⟩
theorem Own.lower {e : TypeId} {H : Heap} {v : Value} {vs : List Value} {B B' : Nat} (h : Own e H v vs B) (hB : B' ≤ B) : Own e H v vs B' := by
  rcases h with h | ⟨b, h1, h2, h3, h4⟩
  · exact .inl h
  · exact .inr ⟨b, h1, Nat.le_trans hB h2, h3, h4⟩

abbrev nilS : Value := .slice none 0 0
structure Gu where
  nm : List Int
  ra : Int
  ho : Int
  ne : Int
  ma : Int
deriving Inhabited
structure Ru where
  kd : Int
  a : Int
  b : Int
  wt : Int
deriving Inhabited
end Go.Proofs.YtijimplcjaeneaaGreatDoor

