/- Several texts in one. -/
import Derived.Test.YteocbhefhobehaaDoorY3
import Derived.Test.YteocbhefhobehaaDoorX4
set_option linter.unusedVariables false
set_option linter.unusedSimpArgs false
/- How many partitions there are; which lists are partitions, by the reference. -/
namespace Go.Proofs.YteocbhefhobehaaDoor
open Go.AI
set_option maxRecDepth 100000 in
theorem refCheck_spec {B : Nat} {v : Value} {H : Heap} {xs : List Int} (hB : B ≤ H.n) (hv : Ints H v xs) :
    CallB Tryd.prog B 29 [v] H (fun r H' => r = .int .i64 (check xs) ∧ H' = H) := by
  refine CV.enter callees false rfl Tryd.func29 rfl ok29 (Nat.le_of_ble_eq_true rfl) hB ?_
  repeat' first
    | refine CO.cons rfl ?_
    | refine CO.nil ?_
    | refine CV.seq ?_
    | refine CV.region callees ?_
    | refine CV.cond ?_
    | refine CV.block ?_
    | refine CV.skip ?_
    | refine CV.exit ?_
    | refine CV.ret ?_
    | refine CV.scope ?_
    | refine CV.draw callees rfl ?_
    | refine CH.cons rfl ?_
    | refine CH.nil ?_
    | refine CO.consG rfl ?_
    | refine CH.consG rfl ?_
    | refine CG.cons rfl ?_
    | refine CG.nil ?_
    | refine CG.consG rfl ?_
    | refine ⟨(rfl : plain _ = true), ?_⟩
    | refine ⟨(rfl : nilOk _ = some _), ?_⟩
    | refine ⟨_, ints_len (by assumption), ?_⟩
    | refine ⟨_, ints_addr (by assumption) (by omega) (by omega), ?_⟩
    | refine ⟨_, ints_load (by assumption) (by omega) (by omega), ?_⟩
    | refine ⟨(⟨by omega, by omega⟩ : inI64 _), ?_⟩
    | refine ⟨_, fun tm ha => step1_max rfl (ev_tmp ha rfl) (ev_tmp ha rfl), ?_⟩
    | refine ⟨_, fun tm ha => step1_min rfl (ev_tmp ha rfl) (ev_tmp ha rfl), ?_⟩
    | (refine ⟨fun _ => ?_, fun _ => ?_⟩ <;> first | (exfalso; omega) | skip)
    | fail
  · exact ⟨rfl, by rw [check, if_pos (by omega)], rfl⟩
  · exact ⟨rfl, by rw [check, if_neg (by omega), if_pos (by omega)], rfl⟩
  refine CV.loopc ?_
  refine WCv.rounds callees false (α := Int × Int) (fun (i, m) => [(0, v), (3, .int .i64 m), (4, .int .i64 i)]) (fun (i, m) Hz => Hz = H ∧ 0 ≤ i ∧ i ≤ xs.length ∧ -1 ≤ m ∧ m ≤ 8 ∧ checkFrom (xs.drop i.toNat) (m + 1) = check xs) (fun (i, m) => xs.length - i.toNat) (0, -1) (by repeat' first | exact trivial | refine ⟨rfl, ?_⟩) ?_ ?_
  · exact ⟨rfl, by omega, by omega, by omega, by omega, by simp; rw [check, if_neg (by omega), if_neg (by omega)]⟩
  rintro ⟨i, m⟩ Hx ⟨rfl, hi0, hi1, hm0, hm1, hc⟩ _
  by_cases hi : i < xs.length
  · rw [drop_cons (xs := xs) (n := i.toNat) (by omega), checkFrom] at hc
    repeat' first
      | refine CO.cons rfl ?_
      | refine CO.nil ?_
      | refine CV.seq ?_
      | refine CV.region callees ?_
      | refine CV.cond ?_
      | refine CV.block ?_
      | refine CV.skip ?_
      | refine CV.exit ?_
      | refine CV.ret ?_
      | refine CV.scope ?_
      | refine CV.draw callees rfl ?_
      | refine CH.cons rfl ?_
      | refine CH.nil ?_
      | refine CO.consG rfl ?_
      | refine CH.consG rfl ?_
      | refine CG.cons rfl ?_
      | refine CG.nil ?_
      | refine CG.consG rfl ?_
      | refine ⟨(rfl : plain _ = true), ?_⟩
      | refine ⟨(rfl : nilOk _ = some _), ?_⟩
      | refine ⟨_, ints_len (by assumption), ?_⟩
      | refine ⟨_, ints_addr (by assumption) (by omega) (by omega), ?_⟩
      | refine ⟨_, ints_load (by assumption) (by omega) (by omega), ?_⟩
      | refine ⟨(⟨by omega, by omega⟩ : inI64 _), ?_⟩
      | refine ⟨_, fun tm ha => step1_max rfl (ev_tmp ha rfl) (ev_tmp ha rfl), ?_⟩
      | refine ⟨_, fun tm ha => step1_min rfl (ev_tmp ha rfl) (ev_tmp ha rfl), ?_⟩
      | (refine ⟨fun _ => ?_, fun _ => ?_⟩ <;> first | (exfalso; omega) | skip)
      | fail
    · exact ⟨rfl, by rw [← hc, if_pos (by omega)], rfl⟩
    · exact ⟨rfl, by rw [← hc, if_pos (by omega)], rfl⟩
    · exact ⟨rfl, by rw [← hc, if_neg (by omega), if_pos (by omega)], rfl⟩
    · rw [if_neg (by omega), if_neg (by omega)] at hc
      refine ⟨(i + 1, max m xs[i.toNat]!), (by repeat' first | exact trivial | refine ⟨rfl, ?_⟩), (by (try dsimp only); omega), ?_⟩
      refine ⟨rfl, by omega, by omega, by omega, by omega, ?_⟩
      rw [show (i + 1).toNat = i.toNat + 1 by omega, ← hc]
      congr 1
      omega
  · rw [show xs.drop i.toNat = [] by simp; omega, checkFrom] at hc
    repeat' first
      | refine CO.cons rfl ?_
      | refine CO.nil ?_
      | refine CV.seq ?_
      | refine CV.region callees ?_
      | refine CV.cond ?_
      | refine CV.block ?_
      | refine CV.skip ?_
      | refine CV.exit ?_
      | refine CV.ret ?_
      | refine CV.scope ?_
      | refine CV.draw callees rfl ?_
      | refine CH.cons rfl ?_
      | refine CH.nil ?_
      | refine CO.consG rfl ?_
      | refine CH.consG rfl ?_
      | refine CG.cons rfl ?_
      | refine CG.nil ?_
      | refine CG.consG rfl ?_
      | refine ⟨(rfl : plain _ = true), ?_⟩
      | refine ⟨(rfl : nilOk _ = some _), ?_⟩
      | refine ⟨_, ints_len (by assumption), ?_⟩
      | refine ⟨_, ints_addr (by assumption) (by omega) (by omega), ?_⟩
      | refine ⟨_, ints_load (by assumption) (by omega) (by omega), ?_⟩
      | refine ⟨(⟨by omega, by omega⟩ : inI64 _), ?_⟩
      | refine ⟨_, fun tm ha => step1_max rfl (ev_tmp ha rfl) (ev_tmp ha rfl), ?_⟩
      | refine ⟨_, fun tm ha => step1_min rfl (ev_tmp ha rfl) (ev_tmp ha rfl), ?_⟩
      | (refine ⟨fun _ => ?_, fun _ => ?_⟩ <;> first | (exfalso; omega) | skip)
      | fail
    exact ⟨rfl, by rw [← hc], rfl⟩
set_option maxRecDepth 100000 in
theorem long_spec {B : Nat} {v : Value} {H : Heap} {xs : List Int} (hB : B ≤ H.n) (hv : Ints H v xs) :
    CallB Tryd.prog B 18 [v] H (fun r H' => r = .bool (decide (40 < xs.length)) ∧ H' = H) := by
  refine CV.enter callees false rfl Tryd.func18 rfl ok18 (Nat.le_of_ble_eq_true rfl) hB ?_
  repeat' first
    | refine CO.cons rfl ?_
    | refine CO.nil ?_
    | refine CV.seq ?_
    | refine CV.region callees ?_
    | refine CV.cond ?_
    | refine CV.block ?_
    | refine CV.skip ?_
    | refine CV.exit ?_
    | refine CV.ret ?_
    | refine CV.scope ?_
    | refine CV.draw callees rfl ?_
    | refine CH.cons rfl ?_
    | refine CH.nil ?_
    | refine CO.consG rfl ?_
    | refine CH.consG rfl ?_
    | refine CG.cons rfl ?_
    | refine CG.nil ?_
    | refine CG.consG rfl ?_
    | refine ⟨(rfl : plain _ = true), ?_⟩
    | refine ⟨(rfl : nilOk _ = some _), ?_⟩
    | refine ⟨_, ints_len (by assumption), ?_⟩
    | refine ⟨_, ints_addr (by assumption) (by omega) (by omega), ?_⟩
    | refine ⟨_, ints_load (by assumption) (by omega) (by omega), ?_⟩
    | refine ⟨(⟨by omega, by omega⟩ : inI64 _), ?_⟩
    | refine ⟨_, fun tm ha => step1_max rfl (ev_tmp ha rfl) (ev_tmp ha rfl), ?_⟩
    | refine ⟨_, fun tm ha => step1_min rfl (ev_tmp ha rfl) (ev_tmp ha rfl), ?_⟩
    | (refine ⟨fun _ => ?_, fun _ => ?_⟩ <;> first | (exfalso; omega) | skip)
    | fail
  · exact ⟨rfl, by rw [decide_eq_true (by omega)], rfl⟩
  · exact ⟨rfl, by rw [decide_eq_false (by omega)], rfl⟩
end Go.Proofs.YteocbhefhobehaaDoor


/- Tables in variables; ranks. -/
namespace Go.AI
def zeroCells (P : Program) (t : TypeId) : Option (List Value) :=
  match (P.info? t).bind (·.zero) with
  | some z => bif z.cells.toList.all scalar then some z.cells.toList else none
  | none => none
theorem alloc_of {P : Program} {H : Heap} {t : TypeId} {l : List Value} (h : zeroCells P t = some l) : sAlloc P H t = some (.pointer (some ⟨H.n, 0, none⟩), H.new (.cells l t 1), H.n) := by
  unfold zeroCells at h
  unfold sAlloc
  split at h
  · rename_i z hz
    rw [hz]
    cases hc : z.cells.toList.all scalar with
    | true =>
      rw [hc] at h
      cases h
      simp only [hc, if_true]
      rfl
    | false => rw [hc] at h; cases h
  · cases h
theorem splice_all : ∀ (vs cs : List Value) (i : Nat), i + vs.length ≤ cs.length → splice cs i vs = cs.take i ++ vs ++ cs.drop (i + vs.length)
  | [], cs, i, _ => by simp [splice]
  | v :: vs, cs, i, h => by
    simp only [List.length_cons] at h
    rw [splice, splice_all vs (cs.set i v) (i + 1) (by rw [List.length_set]; omega)]
    have h1 : (cs.set i v).take (i + 1) = cs.take i ++ [v] := by
      apply List.ext_getElem
      · simp; omega
      · intro j h1 h2
        simp only [List.length_take, List.length_set] at h1
        rw [List.getElem_take, List.getElem_set, List.getElem_append]
        by_cases hj : j < i
        · rw [if_neg (by omega), dif_pos (by simp; omega), List.getElem_take]
        · have : j = i := by omega
          subst this
          rw [if_pos rfl, dif_neg (by rw [List.length_take]; omega)]
          simp
    rw [h1, List.drop_set_of_lt (by omega)]
    simp [Nat.add_assoc, Nat.add_comm 1]
theorem store_all {P : Program} {H : Heap} {t e : TypeId} {b k : Nat} {cs vs : List Value} (hb : H.get b = some (.cells cs e (k + 1))) (hl : cs.length = vs.length) (hs : sizeB P t = some vs.length) (ho : vs.all oneC = true) :
    astore P t H (.agg vs.toArray) (.pointer (some ⟨b, 0, none⟩)) = some (H.set b (.cells vs e (k + 1)), b) := by
  have h1 : (Value.agg vs.toArray).cells = vs.toArray := rfl
  simp only [astore, hb, h1, hs]
  rw [if_pos ⟨by simp, by simp; omega, rfl, by simpa using ho⟩, splice_all _ _ _ (by simp; omega)]
  simp only [List.take_zero, List.nil_append, Nat.zero_add]
  rw [List.drop_eq_nil_of_le (by omega), List.append_nil]
theorem array_addr {P : Program} {t e : TypeId} {len s : Nat} (ht : P.underlying t = some (.array len e)) (hs : sizeB P e = some s) {b i : Nat} {k : Int} {kd : IntKind} (h0 : 0 ≤ k) (h1 : k < len) :
    aindexAddr P t (.pointer (some ⟨b, i, none⟩)) (.int kd k) = some (.pointer (some ⟨b, i + k.toNat * s, none⟩)) := by
  simp [aindexAddr, asIdx, ht, hs, h0, h1]
theorem row_slice {P : Program} {H : Heap} {t e : TypeId} {v : Value} {vs : List Value} {i : Int} {kd : IntKind} (ht : P.underlying t = some (.slice e)) (hs : sizeB P e = some 1) (hv : Row H v vs) (h0 : 0 ≤ i) (h1 : i ≤ vs.length) :
    ∃ r, aslice P t v none (some (some (.int kd i))) = some r ∧ Row H r (vs.take i.toNat) := by
  rcases hv with ⟨rfl, rfl⟩ | ⟨rfl, rfl⟩ | ⟨b, o, c, cs, e', k, rfl, h2, h3, h4, h5, h6⟩
  · simp at h1
    have : i = 0 := by omega
    subst this
    exact ⟨.slice none 0 0, by simp [aslice, ht, hs, bound], .inl ⟨rfl, by simp⟩⟩
  · simp at h1
    have : i = 0 := by omega
    subst this
    exact ⟨anon, by simp [aslice, anon, ht, hs, bound], .inr (.inl ⟨rfl, by simp⟩)⟩
  · refine ⟨.slice (some ⟨b, o, none⟩) i.toNat c, by simp [aslice, ht, hs, bound, h0, h1], .inr (.inr ⟨b, o, c, cs, e', k, ?_, h2, h3, h4, ?_, ?_⟩)⟩
    · rw [List.length_take]; congr 1; omega
    · rw [List.length_take]; omega
    · intro j w hj
      rw [List.getElem?_take] at hj
      split at hj
      · exact h6 j w hj
      · cases hj
end Go.AI
namespace Go.Proofs.YteocbhefhobehaaDoor
open Go.AI
theorem from_step {x b : Int} {r : List Int} (h : checkFrom (x :: r) b = 0) : 0 ≤ x ∧ x ≤ 8 ∧ x ≤ b ∧ checkFrom r (max b (x + 1)) = 0 := by
  rw [checkFrom] at h
  split at h
  · cases h
  split at h
  · cases h
  exact ⟨by omega, by omega, by omega, h⟩

end Go.Proofs.YteocbhefhobehaaDoor


/- The reference's ranks; partitions of ranks. -/
namespace Go.Proofs.YteocbhefhobehaaDoor
open Go.AI
theorem blk_snoc (x : Int) : ∀ (l : List Int) (n : Int), blkFrom (l ++ [x]) n = max (blkFrom l n) (x + 1)
  | [], _ => rfl
  | y :: l, n => by rw [List.cons_append, blkFrom, blkFrom, blk_snoc x l]
theorem take_snoc {xs : List Int} {i : Nat} (h : i < xs.length) : xs.take (i + 1) = xs.take i ++ [xs[i]!] := by
  rw [List.take_add_one, List.getElem?_eq_getElem h, getElem!_pos xs i h]; rfl
set_option maxRecDepth 100000 in
theorem refBlocks_spec {B : Nat} {v : Value} {H : Heap} {xs : List Int} (hB : B ≤ H.n) (hv : Ints H v xs) (hb : ∀ i, i < xs.length → 0 ≤ xs[i]! ∧ xs[i]! < 9) (hn : xs.length < 1000000) :
    CallB Tryd.prog B 87 [v] H (fun r H' => r = .int .i64 (blkFrom xs 0) ∧ H' = H) := by
  refine CV.enter callees false rfl Tryd.func87 rfl ok87 (Nat.le_of_ble_eq_true rfl) hB ?_
  repeat' first
    | refine CO.cons rfl ?_
    | refine CO.nil ?_
    | refine CV.seq ?_
    | refine CV.region callees ?_
    | refine CV.cond ?_
    | refine CV.block ?_
    | refine CV.skip ?_
    | refine CV.exit ?_
    | refine CV.ret ?_
    | refine CV.scope ?_
    | refine CV.draw callees rfl ?_
    | refine CH.cons rfl ?_
    | refine CH.nil ?_
    | refine CO.consG rfl ?_
    | refine CH.consG rfl ?_
    | refine CG.cons rfl ?_
    | refine CG.nil ?_
    | refine CG.consG rfl ?_
    | refine ⟨(rfl : plain _ = true), ?_⟩
    | refine ⟨(rfl : nilOk _ = some _), ?_⟩
    | refine ⟨_, ints_len (by assumption), ?_⟩
    | refine ⟨_, ints_addr (by assumption) (by omega) (by omega), ?_⟩
    | refine ⟨_, ints_load (by assumption) (by omega) (by omega), ?_⟩
    | refine ⟨(⟨by omega, by omega⟩ : inI64 _), ?_⟩
    | refine ⟨_, fun tm ha => step1_max rfl (ev_tmp ha rfl) (ev_tmp ha rfl), ?_⟩
    | refine ⟨_, fun tm ha => step1_min rfl (ev_tmp ha rfl) (ev_tmp ha rfl), ?_⟩
    | (refine ⟨fun _ => ?_, fun _ => ?_⟩ <;> first | (exfalso; omega) | skip)
    | fail
  refine CV.loopc ?_
  refine WCv.rounds callees false (α := Int × Int) (fun (i, m) => [(0, v), (3, .int .i64 m), (4, .int .i64 i)]) (fun (i, m) Hz => Hz = H ∧ 0 ≤ i ∧ i ≤ xs.length ∧ 0 ≤ m ∧ m ≤ 9 ∧ blkFrom (xs.drop i.toNat) m = blkFrom xs 0) (fun (i, m) => xs.length - i.toNat) (0, 0) (by repeat' first | exact trivial | refine ⟨rfl, ?_⟩) ?_ ?_
  · exact ⟨rfl, by simp, by simp, by simp, by simp, by simp⟩
  rintro ⟨i, m⟩ Hx ⟨rfl, hi0, hi1, hm0, hm1, hc⟩ _
  by_cases hi : i < xs.length
  · have hx := hb i.toNat (by omega)
    rw [drop_cons (xs := xs) (n := i.toNat) (by omega), blkFrom] at hc
    repeat' first
      | refine CO.cons rfl ?_
      | refine CO.nil ?_
      | refine CV.seq ?_
      | refine CV.region callees ?_
      | refine CV.cond ?_
      | refine CV.block ?_
      | refine CV.skip ?_
      | refine CV.exit ?_
      | refine CV.ret ?_
      | refine CV.scope ?_
      | refine CV.draw callees rfl ?_
      | refine CH.cons rfl ?_
      | refine CH.nil ?_
      | refine CO.consG rfl ?_
      | refine CH.consG rfl ?_
      | refine CG.cons rfl ?_
      | refine CG.nil ?_
      | refine CG.consG rfl ?_
      | refine ⟨(rfl : plain _ = true), ?_⟩
      | refine ⟨(rfl : nilOk _ = some _), ?_⟩
      | refine ⟨_, ints_len (by assumption), ?_⟩
      | refine ⟨_, ints_addr (by assumption) (by omega) (by omega), ?_⟩
      | refine ⟨_, ints_load (by assumption) (by omega) (by omega), ?_⟩
      | refine ⟨(⟨by omega, by omega⟩ : inI64 _), ?_⟩
      | refine ⟨_, fun tm ha => step1_max rfl (ev_tmp ha rfl) (ev_tmp ha rfl), ?_⟩
      | refine ⟨_, fun tm ha => step1_min rfl (ev_tmp ha rfl) (ev_tmp ha rfl), ?_⟩
      | (refine ⟨fun _ => ?_, fun _ => ?_⟩ <;> first | (exfalso; omega) | skip)
      | fail
    refine ⟨(i + 1, max m (xs[i.toNat]! + 1)), (by repeat' first | exact trivial | refine ⟨rfl, ?_⟩), (by (try dsimp only); omega), ?_⟩
    exact ⟨rfl, by omega, by omega, by omega, by omega, by rw [show (i + 1).toNat = i.toNat + 1 by omega]; exact hc⟩
  · rw [show xs.drop i.toNat = [] by simp; omega, blkFrom] at hc
    repeat' first
      | refine CO.cons rfl ?_
      | refine CO.nil ?_
      | refine CV.seq ?_
      | refine CV.region callees ?_
      | refine CV.cond ?_
      | refine CV.block ?_
      | refine CV.skip ?_
      | refine CV.exit ?_
      | refine CV.ret ?_
      | refine CV.scope ?_
      | refine CV.draw callees rfl ?_
      | refine CH.cons rfl ?_
      | refine CH.nil ?_
      | refine CO.consG rfl ?_
      | refine CH.consG rfl ?_
      | refine CG.cons rfl ?_
      | refine CG.nil ?_
      | refine CG.consG rfl ?_
      | refine ⟨(rfl : plain _ = true), ?_⟩
      | refine ⟨(rfl : nilOk _ = some _), ?_⟩
      | refine ⟨_, ints_len (by assumption), ?_⟩
      | refine ⟨_, ints_addr (by assumption) (by omega) (by omega), ?_⟩
      | refine ⟨_, ints_load (by assumption) (by omega) (by omega), ?_⟩
      | refine ⟨(⟨by omega, by omega⟩ : inI64 _), ?_⟩
      | refine ⟨_, fun tm ha => step1_max rfl (ev_tmp ha rfl) (ev_tmp ha rfl), ?_⟩
      | refine ⟨_, fun tm ha => step1_min rfl (ev_tmp ha rfl) (ev_tmp ha rfl), ?_⟩
      | (refine ⟨fun _ => ?_, fun _ => ?_⟩ <;> first | (exfalso; omega) | skip)
      | fail
    exact ⟨rfl, by rw [hc], rfl⟩

end Go.Proofs.YteocbhefhobehaaDoor


/- Partitions of ranks. -/
namespace Go.Proofs.YteocbhefhobehaaDoor
open Go.AI
theorem step1_quoI {P : Program} {tm : Tm} {H : Heap} {o : Oper} {t u : TypeId} {x y : Operand} {a b : Int} (ho : o.op = .binOp .quo t x y u) (hx : ev P tm x = some (.int .i64 a)) (hy : ev P tm y = some (.int .i64 b)) (hb : b ≠ 0) (h0 : -9223372036854775808 ≤ a.tdiv b) (h1 : a.tdiv b < 9223372036854775808) : step1 P tm H o = some (.int .i64 (a.tdiv b), H, H.n) := by
  have := step1_quo ho hx hy hb (H := H)
  rw [wrapI h0 h1] at this
  exact this
end Go.Proofs.YteocbhefhobehaaDoor


/- Partitions of ranks, by the reference. -/
namespace Go.Proofs.YteocbhefhobehaaDoor
open Go.AI
end Go.Proofs.YteocbhefhobehaaDoor


/- The next partition. -/
namespace Go.Proofs.YteocbhefhobehaaDoor
open Go.AI
end Go.Proofs.YteocbhefhobehaaDoor


/- The next partition, by the reference. -/
namespace Go.Proofs.YteocbhefhobehaaDoor
open Go.AI
end Go.Proofs.YteocbhefhobehaaDoor


/- ChartChecks: its function answers true. -/
namespace Go.Proofs.YteocbhefhobehaaDoor
open Go.AI
end Go.Proofs.YteocbhefhobehaaDoor


/- ChartRanks: its function answers true. -/
namespace Go.Proofs.YteocbhefhobehaaDoor
open Go.AI
theorem un41 : Tryd.prog.underlying 41 = some (.slice 22) := by kernel_rfl
theorem one22 : oneBB Tryd.prog 22 = some (.slice none 0 0, 24) := by kernel_rfl
theorem sz22 : sizeB Tryd.prog 22 = some 1 := by kernel_rfl
theorem ag22 : isAggB Tryd.prog 22 = some false := by kernel_rfl
theorem row_one {H : Heap} {v : Value} {vs : List Value} (h : Row H v vs) : oneC v = true := by
  rcases h with ⟨rfl, _⟩ | ⟨rfl, _⟩ | ⟨_, _, _, _, _, _, rfl, _⟩ <;> rfl
theorem row_new {H : Heap} {l : List Value} {n : Nat} {e : TypeId} (hn : n = l.length) : Row (H.new (.cells l e 2)) (.slice (some ⟨H.n, 0, none⟩) n 0) l :=
  .inr (.inr ⟨H.n, 0, 0, _, e, 2, by rw [hn], Nat.lt_succ_self _, Heap.get_new_eq _ _, by decide, by simp, fun j w h => by simpa using h⟩)
theorem lists_len {H : Heap} {v : Value} {vs : List Value} (h : Row H v vs) : alen Tryd.prog H 41 v = some (.int .i64 vs.length) := Row.alen h un41
theorem lists_addr {H : Heap} {v : Value} {vs : List Value} (h : Row H v vs) {i : Int} (h0 : 0 ≤ i) (h1 : i < vs.length) : aindexAddr Tryd.prog 41 v (.int .i64 i) = some (elemAt v i.toNat) := Row.addr h un41 sz22 h0 h1
theorem lists_load {H : Heap} {v : Value} {vs : List Value} (h : Row H v vs) {i : Int} (h0 : 0 ≤ i) (h1 : i < vs.length) : aload Tryd.prog 22 H (elemAt v i.toNat) = some vs[i.toNat]! := by
  have : i.toNat < vs.length := by omega
  exact Row.load h ag22 (by rw [List.getElem?_eq_getElem this, getElem!_pos vs _ this])
end Go.Proofs.YteocbhefhobehaaDoor

