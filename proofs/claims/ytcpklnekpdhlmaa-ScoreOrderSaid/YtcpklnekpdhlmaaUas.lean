
/- Rows of rows of numbers; scores by keys: who is before whom. -/
import Derived.Test.YtcpklnekpdhlmaaS7s
import Derived.Test.YtcpklnekpdhlmaaTps
set_option linter.unusedVariables false
set_option linter.unusedSimpArgs false
namespace Go.AI
section
variable {P : Program} {H : Heap} {t e : TypeId} {z : Value} {by' : Nat}
theorem append_nilW (ht : P.underlying t = some (.slice e)) (h1 : oneBB P e = some (z, by')) (hb : by' ≤ 1000) {b' : Nat} {news : List Value} {e' : TypeId} {k : Nat} (hy : H.get b' = some (.cells news e' k)) (hn0 : 0 < news.length) (hn : news.length ≤ 1000000) :
    aappend P H #[t, t] (.slice none 0 0) (.slice (some ⟨b', 0, none⟩) news.length 0) = some (.slice (some ⟨H.n, 0, none⟩) news.length 0, H.new (.cells news e 2), H.n) := by
  obtain ⟨info, hi, hz, hs, hc, hsc, hby⟩ := oneBB_spec h1
  have hmul : news.length * info.bytes ≤ 1000000 * 1000 := Nat.mul_le_mul hn (by omega)
  simp only [aappend, ht, hi, hz, hc, hs, sourceOf, hy]
  have hl : ¬ news.length = 0 := by omega
  rw [if_neg (by simp), if_neg (by simp), if_pos (by simp)]
  simp only [hl, if_false, Nat.mul_one, List.drop_zero, List.take_length, Nat.zero_add]
  rw [if_pos ⟨by show news.length ≤ 9223372036854775807; omega, by omega⟩]
  rfl
theorem append_rowW (ht : P.underlying t = some (.slice e)) (h1 : oneBB P e = some (z, by')) (hb : by' ≤ 1000) {b b' : Nat} {cs news : List Value} {e' : TypeId} {k : Nat} (hx : H.get b = some (.cells cs e 2)) (hy : H.get b' = some (.cells news e' k)) (hn0 : 0 < news.length) (hn : cs.length + news.length ≤ 1000000) :
    aappend P H #[t, t] (.slice (some ⟨b, 0, none⟩) cs.length 0) (.slice (some ⟨b', 0, none⟩) news.length 0) = some (.slice (some ⟨H.n, 0, none⟩) (cs.length + news.length) 0, (H.set b .gone).new (.cells (cs ++ news) e 2), b) := by
  obtain ⟨info, hi, hz, hs, hc, hsc, hby⟩ := oneBB_spec h1
  have hmul : (cs.length + news.length) * info.bytes ≤ 1000000 * 1000 := Nat.mul_le_mul hn (by omega)
  simp only [aappend, ht, hi, hz, hc, hs, sourceOf, hy, hx]
  have hl : ¬ news.length = 0 := by omega
  rw [if_neg (by simp), if_neg (by simp), if_pos (by simp)]
  simp only [hl, if_false, Nat.mul_one, List.drop_zero, List.take_length, Nat.zero_add]
  rw [if_neg (by simp), if_pos ⟨trivial, trivial, by show cs.length + news.length ≤ 9223372036854775807; omega, by omega⟩]
  rfl
theorem append_askW {K : Value → Heap → Prop} {B B0 : Nat} {x w : Value} {vs : List Value} (ht : P.underlying t = some (.slice e)) (h1 : oneBB P e = some (z, by')) (hb : by' ≤ 1000) (hx : Own e H x vs B0) (hB0 : B0 ≤ H.n) (hB : B ≤ B0) (hn : vs.length < 1000000)
    (hk : ∀ r H', Own e H' r (vs ++ [w]) B0 → KeepBut x H H' → (∀ c, blkOf r = some c → H.n ≤ c) → K r H') :
    ∃ v H' b, aappend P (H.new (.cells [w] e 2)) #[t, t] x (.slice (some ⟨H.n, 0, none⟩) 1 0) = some (v, H', b) ∧ B ≤ b ∧ K v H' := by
  have hy : (H.new (.cells [w] e 2)).get H.n = some (.cells [w] e 2) := Heap.get_new_eq _ _
  rcases hx with ⟨rfl, rfl⟩ | ⟨b, rfl, h2, h3, h4⟩
  · refine ⟨_, _, _, append_nilW ht h1 hb (news := [w]) hy (by simp) (by simp), ?_, hk _ _ (.inr ⟨_, rfl, ?_, ?_, Heap.get_new_eq _ _⟩) ⟨?_, ?_⟩ ?_⟩
    · show B ≤ H.n + 1; omega
    · show B0 ≤ H.n + 1; omega
    · show H.n + 1 < H.n + 1 + 1; omega
    · show H.n ≤ H.n + 1 + 1; omega
    · intro c hc _
      rw [Heap.get_new_ne _ _ (by show c ≠ H.n + 1; omega), Heap.get_new_ne _ _ (by omega)]
    · intro c hc; cases hc; show H.n ≤ H.n + 1; omega
  · have hx' : (H.new (.cells [w] e 2)).get b = some (.cells vs e 2) := by rw [Heap.get_new_ne _ _ (by omega)]; exact h4
    refine ⟨_, _, _, append_rowW ht h1 hb (news := [w]) hx' hy (by simp) (by simp; omega), Nat.le_trans hB h2, hk _ _ (.inr ⟨_, ?_, ?_, ?_, Heap.get_new_eq _ _⟩) ⟨?_, ?_⟩ ?_⟩
    · simp
    · show B0 ≤ H.n + 1; omega
    · show H.n + 1 < H.n + 1 + 1; omega
    · show H.n ≤ H.n + 1 + 1; omega
    · intro c hc hne
      have hne' : b ≠ c := fun h => hne (by rw [h]; rfl)
      rw [Heap.get_new_ne _ _ (by show c ≠ H.n + 1; omega), Heap.get_set_ne _ _ hne', Heap.get_new_ne _ _ (by omega)]
    · intro c hc; cases hc; show H.n ≤ H.n + 1; omega
theorem step1_neg {tm : Tm} {o : Oper} {t : TypeId} {x : Operand} {k : IntKind} {a : Int} (ho : o.op = .unOp .neg t x) (hx : ev P tm x = some (.int k a)) : step1 P tm H o = some (.int k (k.wrap (0 - a)), H, H.n) := by
  have h2 : apure P tm o = some (.int k (k.wrap (0 - a))) := by
    unfold apure
    simp only [ho, Op.operands, execOp, evT_of hx]
    rw [if_pos (by simp [hx, plain, flat, scalar])]
    simp only [pureRun_bind, Op.unary, pureRun_pure, Option.bind_some]
    rfl
  simp only [step1, ho, h2, ret]
end
end Go.AI
namespace Go.Proofs.Ytcpklnekpdhlmaa
open Go.AI
theorem un32 : Try.prog.underlying 32 = some (.slice 22) := by kernel_rfl
theorem one22 : oneBB Try.prog 22 = some (.slice none 0 0, 24) := by kernel_rfl
/-- A row of rows of numbers, to be read. -/
structure Grid (H : Heap) (r : Value) (vals : List Value) (ls : List (List Int)) : Prop where
  row : Row H r vals
  len : vals.length = ls.length
  at' : ∀ i : Nat, i < ls.length → Ints H vals[i]! ls[i]!
theorem Grid.keep {H H' : Heap} {r : Value} {vals : List Value} {ls : List (List Int)} (h : Grid H r vals ls) (k : Keep H H') : Grid H' r vals ls :=
  ⟨h.row.keep k, h.len, fun i hi => Row.keep (h.at' i hi) k⟩
theorem Grid.box {b : Nat} {H H' : Heap} {r : Value} {vals : List Value} {ls : List (List Int)} (h : Grid H r vals ls) (k : KeepX b H H') (hb : Box b H) : Grid H' r vals ls :=
  ⟨row_box h.row k hb, h.len, fun i hi => row_box (h.at' i hi) k hb⟩
theorem Grid.alen {H : Heap} {r : Value} {vals : List Value} {ls : List (List Int)} (h : Grid H r vals ls) : alen Try.prog H 32 r = some (.int .i64 ls.length) := by
  rw [← h.len]; exact Row.alen h.row un32
theorem Grid.addr {H : Heap} {r : Value} {vals : List Value} {ls : List (List Int)} (h : Grid H r vals ls) {i : Int} (h0 : 0 ≤ i) (h1 : i < ls.length) : aindexAddr Try.prog 32 r (.int .i64 i) = some (elemAt r i.toNat) :=
  Row.addr h.row un32 sz22 h0 (by rw [h.len]; exact h1)
theorem Grid.load {H : Heap} {r : Value} {vals : List Value} {ls : List (List Int)} (h : Grid H r vals ls) {i : Int} (h0 : 0 ≤ i) (h1 : i < ls.length) : aload Try.prog 22 H (elemAt r i.toNat) = some vals[i.toNat]! := by
  have : i.toNat < vals.length := by rw [h.len]; omega
  exact Row.load h.row ag22 (by rw [List.getElem?_eq_getElem this, getElem!_pos vals _ this])
/-- A row of rows of one's own. -/
structure OwnG (H : Heap) (r : Value) (vals : List Value) (ls : List (List Int)) (B : Nat) : Prop where
  own : Own 22 H r vals B
  len : vals.length = ls.length
  at' : ∀ i : Nat, i < ls.length → Own 3 H vals[i]! (ls[i]!.map VI) B
  ap : ∀ i : Nat, i < ls.length → Apart vals[i]! r
theorem OwnG.grid {H : Heap} {r : Value} {vals : List Value} {ls : List (List Int)} {B : Nat} (h : OwnG H r vals ls B) : Grid H r vals ls :=
  ⟨h.own.row, h.len, fun i hi => (h.at' i hi).row⟩
theorem OwnG.nil {H : Heap} {B : Nat} : OwnG H (.slice none 0 0) [] [] B := ⟨.inl ⟨rfl, rfl⟩, rfl, fun i hi => by simp at hi, fun i hi => by simp at hi⟩
theorem OwnG.box {b : Nat} {H H' : Heap} {r : Value} {vals : List Value} {ls : List (List Int)} {B : Nat} (h : OwnG H r vals ls B) (k : KeepX b H H') (hb : Box b H) : OwnG H' r vals ls B :=
  ⟨own_box h.own k hb, h.len, fun i hi => own_box (h.at' i hi) k hb, h.ap⟩
theorem OwnG.keep {H H' : Heap} {r : Value} {vals : List Value} {ls : List (List Int)} {B : Nat} (h : OwnG H r vals ls B) (k : Keep H H') : OwnG H' r vals ls B :=
  ⟨h.own.keep k, h.len, fun i hi => (h.at' i hi).keep k, h.ap⟩
theorem at_snoc {α : Type} [Inhabited α] {l : List α} {x : α} {i : Nat} : (l ++ [x])[i]! = if i < l.length then l[i]! else if i = l.length then x else default := by
  by_cases h : i < l.length
  · rw [if_pos h, getElem!_pos _ i (by simp; omega), List.getElem_append_left h, getElem!_pos l i h]
  · rw [if_neg h]
    by_cases e : i = l.length
    · subst e; rw [if_pos rfl, getElem!_pos _ _ (by simp)]; simp
    · rw [if_neg e, getElem!_neg _ _ (by simp; omega)]
theorem gpush_ask {K : Value → Heap → Prop} {B B0 : Nat} {H : Heap} {r u : Value} {vals : List Value} {ls : List (List Int)} {xs : List Int} (hg : OwnG H r vals ls B0) (hB0 : B0 ≤ H.n) (hB : B ≤ B0) (hu : Own 3 H u (xs.map VI) B0) (ha : Apart u r) (hn : ls.length < 1000000)
    (hk : ∀ r' H', OwnG H' r' (vals ++ [u]) (ls ++ [xs]) B0 → KeepBut r H H' → (∀ c, blkOf r' = some c → H.n ≤ c) → K r' H') :
    ∃ v H' b, aappend Try.prog (H.new (.cells [u] 22 2)) #[32, 32] r (.slice (some ⟨H.n, 0, none⟩) 1 0) = some (v, H', b) ∧ B ≤ b ∧ K v H' := by
  refine append_askW un32 one22 (by omega) hg.own hB0 hB (by rw [hg.len]; exact hn) fun r' H' ho kb hf => hk r' H' ⟨ho, by simp [hg.len], fun i hi => ?_, fun i hi => ?_⟩ kb hf
  · rw [at_snoc, at_snoc, hg.len]
    rw [List.length_append, List.length_singleton] at hi
    by_cases h : i < ls.length
    · rw [if_pos h, if_pos h]; exact (hg.at' i h).keepBut kb (hg.ap i h)
    · rw [if_neg h, if_neg h, if_pos (by omega), if_pos (by omega)]; exact hu.keepBut kb ha
  · rw [at_snoc, hg.len]
    rw [List.length_append, List.length_singleton] at hi
    intro c hc hr
    have hge := hf c hr
    by_cases h : i < ls.length
    · rw [if_pos h] at hc
      have := ((hg.at' i h).lt hc).2
      omega
    · rw [if_neg h, if_pos (by omega)] at hc
      have := (hu.lt hc).2
      omega
/-- A score. -/
structure Scr where
  p : Int
  k : Int
  w : Int
  r : Int
  n : Int
  o : Int
  s : Int
  h : Int
def amt (x : Scr) (i q : Int) : Int := if q = 1 then x.p else if q = 2 then x.k else if q = 3 then x.r else if q = 4 then x.h else if q = 5 then x.s else -i
abbrev Scr.v (x : Scr) : Value := Xv x.p x.k x.w x.r x.n x.o x.s x.h
abbrev Scr.l (x : Scr) : List Value := Xl x.p x.k x.w x.r x.n x.o x.s x.h
/-- A score and a seat. -/
abbrev Gl (x : Scr) (i : Int) : List Value := [.int .i64 x.p, .int .i64 x.k, .int .i64 x.w, .int .i64 x.r, .int .i64 x.n, .int .i64 x.o, .int .i64 x.s, .int .i64 x.h, .int .i64 i]
abbrev Gv (x : Scr) (i : Int) : Value := .agg #[.int .i64 x.p, .int .i64 x.k, .int .i64 x.w, .int .i64 x.r, .int .i64 x.n, .int .i64 x.o, .int .i64 x.s, .int .i64 x.h, .int .i64 i]
abbrev Gc (x : Scr) (i : Int) : AObj := .cells (Gl x i) 111 1
theorem buildG {x : Scr} {i : Int} : abuild Try.prog 111 [(0, x.v), (1, .int .i64 i)] = some (Gv x i) := by kernel_rfl
theorem foG0 : fieldOff Try.prog 111 0 = some (0, 8) := by kernel_rfl
theorem foG1 : fieldOff Try.prog 111 1 = some (8, 1) := by kernel_rfl
theorem addrG0 {b : Nat} : afieldAddr Try.prog 111 (.pointer (some ⟨b, 0, none⟩)) 0 = some (.pointer (some ⟨b, 0, none⟩)) := field_addr foG0 (by decide)
theorem addrG1 {b : Nat} : afieldAddr Try.prog 111 (.pointer (some ⟨b, 0, none⟩)) 1 = some (.pointer (some ⟨b, 8, none⟩)) := field_addr foG1 (by decide)
theorem agG : isAggB Try.prog 111 = some true := by kernel_rfl
theorem szG : sizeB Try.prog 111 = some 9 := by kernel_rfl
theorem loadG {H : Heap} {b : Nat} {x : Scr} {i : Int} (hg : H.get b = some (Gc x i)) : aload Try.prog 111 H (.pointer (some ⟨b, 0, none⟩)) = some (Gv x i) := by
  simp [aload, hg, agG, szG]
theorem alloc_g {H : Heap} {x : Scr} {i : Int} : anew H (Value.cells (Gv x i)).toList 111 1 = H.new (Gc x i) := rfl
set_option maxRecDepth 100000 in
theorem amt1_spec {B : Nat} {H : Heap} {x : Scr} {i : Int} (hB : B ≤ H.n) :
    CallB Try.prog B 107 [Gv x i] H (fun r H' => r = .int .i64 (amt x i 1) ∧ Keep H H') := by
  refine CV.enter callees false rfl Try.func107 rfl (by kernel_rfl) (Nat.le_of_ble_eq_true rfl) hB ?_
  repeat' first
    | refine CO.cons rfl ?_
    | refine CO.nil ?_
    | refine CV.seq ?_
    | refine CV.region callees ?_
    | refine CV.cond ?_
    | refine CV.block ?_
    | refine CV.skip ?_
    | refine CV.exit ?_
    | refine CV.ret ?_
    | refine CV.scope ?_
    | refine CV.draw callees rfl ?_
    | refine CH.cons rfl ?_
    | refine CH.nil ?_
    | refine CO.consG rfl ?_
    | refine CH.consG rfl ?_
    | refine CG.cons rfl ?_
    | refine CR.cons ?_
    | refine CR.nil ?_
    | refine CG.nil ?_
    | refine CG.consG rfl ?_
    | refine ⟨(rfl : plain _ = true), ?_⟩
    | refine ⟨(rfl : nilOk _ = some _), ?_⟩
    | refine ⟨_, ints_len (by assumption), ?_⟩
    | refine ⟨_, ints_addr (by assumption) (by omega) (by omega), ?_⟩
    | refine ⟨_, ints_load (by assumption) (by omega) (by omega), ?_⟩
    | refine ⟨(⟨by omega, by omega⟩ : inI64 _), ?_⟩
    | refine ⟨_, fun tm ha => step1_max rfl (ev_tmp ha rfl) (ev_tmp ha rfl), ?_⟩
    | refine ⟨_, fun tm ha => step1_min rfl (ev_tmp ha rfl) (ev_tmp ha rfl), ?_⟩
    | (refine ⟨(rfl : notTuple _ = true), ?_⟩)
    | (refine ⟨fun _ => ?_, fun _ => ?_⟩ <;> first | (exfalso; omega) | skip)
    | fail
  rw [alloc_g]
  generalize hs : H.new (Gc x i) = Hs
  have hg := new_get hs
  have kk := new_keep hs
  repeat' first
    | refine CO.cons rfl ?_
    | refine CO.nil ?_
    | refine CV.seq ?_
    | refine CV.region callees ?_
    | refine CV.cond ?_
    | refine CV.block ?_
    | refine CV.skip ?_
    | refine CV.exit ?_
    | refine CV.ret ?_
    | refine CV.scope ?_
    | refine CV.draw callees rfl ?_
    | refine CH.cons rfl ?_
    | refine CH.nil ?_
    | refine CO.consG rfl ?_
    | refine CH.consG rfl ?_
    | refine CG.cons rfl ?_
    | refine CR.cons ?_
    | refine CR.nil ?_
    | refine CG.nil ?_
    | refine CG.consG rfl ?_
    | refine ⟨(rfl : plain _ = true), ?_⟩
    | refine ⟨(rfl : nilOk _ = some _), ?_⟩
    | refine ⟨_, ints_len (by assumption), ?_⟩
    | refine ⟨_, ints_addr (by assumption) (by omega) (by omega), ?_⟩
    | refine ⟨_, ints_load (by assumption) (by omega) (by omega), ?_⟩
    | refine ⟨(⟨by omega, by omega⟩ : inI64 _), ?_⟩
    | refine ⟨_, fun tm ha => step1_max rfl (ev_tmp ha rfl) (ev_tmp ha rfl), ?_⟩
    | refine ⟨_, fun tm ha => step1_min rfl (ev_tmp ha rfl) (ev_tmp ha rfl), ?_⟩
    | (refine ⟨_, addrG0, ?_⟩)
    | (refine ⟨_, addrX (by decide), ?_⟩)
    | (refine ⟨_, cell_load ag3 hg rfl, ?_⟩)
    | (refine ⟨fun _ => ?_, fun _ => ?_⟩ <;> first | (exfalso; omega) | skip)
    | fail
  exact ⟨rfl, rfl, kk⟩
set_option maxRecDepth 100000 in
theorem amt2_spec {B : Nat} {H : Heap} {x : Scr} {i : Int} (hB : B ≤ H.n) :
    CallB Try.prog B 108 [Gv x i] H (fun r H' => r = .int .i64 (amt x i 2) ∧ Keep H H') := by
  refine CV.enter callees false rfl Try.func108 rfl (by kernel_rfl) (Nat.le_of_ble_eq_true rfl) hB ?_
  repeat' first
    | refine CO.cons rfl ?_
    | refine CO.nil ?_
    | refine CV.seq ?_
    | refine CV.region callees ?_
    | refine CV.cond ?_
    | refine CV.block ?_
    | refine CV.skip ?_
    | refine CV.exit ?_
    | refine CV.ret ?_
    | refine CV.scope ?_
    | refine CV.draw callees rfl ?_
    | refine CH.cons rfl ?_
    | refine CH.nil ?_
    | refine CO.consG rfl ?_
    | refine CH.consG rfl ?_
    | refine CG.cons rfl ?_
    | refine CR.cons ?_
    | refine CR.nil ?_
    | refine CG.nil ?_
    | refine CG.consG rfl ?_
    | refine ⟨(rfl : plain _ = true), ?_⟩
    | refine ⟨(rfl : nilOk _ = some _), ?_⟩
    | refine ⟨_, ints_len (by assumption), ?_⟩
    | refine ⟨_, ints_addr (by assumption) (by omega) (by omega), ?_⟩
    | refine ⟨_, ints_load (by assumption) (by omega) (by omega), ?_⟩
    | refine ⟨(⟨by omega, by omega⟩ : inI64 _), ?_⟩
    | refine ⟨_, fun tm ha => step1_max rfl (ev_tmp ha rfl) (ev_tmp ha rfl), ?_⟩
    | refine ⟨_, fun tm ha => step1_min rfl (ev_tmp ha rfl) (ev_tmp ha rfl), ?_⟩
    | (refine ⟨(rfl : notTuple _ = true), ?_⟩)
    | (refine ⟨fun _ => ?_, fun _ => ?_⟩ <;> first | (exfalso; omega) | skip)
    | fail
  rw [alloc_g]
  generalize hs : H.new (Gc x i) = Hs
  have hg := new_get hs
  have kk := new_keep hs
  repeat' first
    | refine CO.cons rfl ?_
    | refine CO.nil ?_
    | refine CV.seq ?_
    | refine CV.region callees ?_
    | refine CV.cond ?_
    | refine CV.block ?_
    | refine CV.skip ?_
    | refine CV.exit ?_
    | refine CV.ret ?_
    | refine CV.scope ?_
    | refine CV.draw callees rfl ?_
    | refine CH.cons rfl ?_
    | refine CH.nil ?_
    | refine CO.consG rfl ?_
    | refine CH.consG rfl ?_
    | refine CG.cons rfl ?_
    | refine CR.cons ?_
    | refine CR.nil ?_
    | refine CG.nil ?_
    | refine CG.consG rfl ?_
    | refine ⟨(rfl : plain _ = true), ?_⟩
    | refine ⟨(rfl : nilOk _ = some _), ?_⟩
    | refine ⟨_, ints_len (by assumption), ?_⟩
    | refine ⟨_, ints_addr (by assumption) (by omega) (by omega), ?_⟩
    | refine ⟨_, ints_load (by assumption) (by omega) (by omega), ?_⟩
    | refine ⟨(⟨by omega, by omega⟩ : inI64 _), ?_⟩
    | refine ⟨_, fun tm ha => step1_max rfl (ev_tmp ha rfl) (ev_tmp ha rfl), ?_⟩
    | refine ⟨_, fun tm ha => step1_min rfl (ev_tmp ha rfl) (ev_tmp ha rfl), ?_⟩
    | (refine ⟨_, addrG0, ?_⟩)
    | (refine ⟨_, addrX (by decide), ?_⟩)
    | (refine ⟨_, cell_load ag3 hg rfl, ?_⟩)
    | (refine ⟨fun _ => ?_, fun _ => ?_⟩ <;> first | (exfalso; omega) | skip)
    | fail
  exact ⟨rfl, rfl, kk⟩
set_option maxRecDepth 100000 in
theorem amt3_spec {B : Nat} {H : Heap} {x : Scr} {i : Int} (hB : B ≤ H.n) :
    CallB Try.prog B 109 [Gv x i] H (fun r H' => r = .int .i64 (amt x i 3) ∧ Keep H H') := by
  refine CV.enter callees false rfl Try.func109 rfl (by kernel_rfl) (Nat.le_of_ble_eq_true rfl) hB ?_
  repeat' first
    | refine CO.cons rfl ?_
    | refine CO.nil ?_
    | refine CV.seq ?_
    | refine CV.region callees ?_
    | refine CV.cond ?_
    | refine CV.block ?_
    | refine CV.skip ?_
    | refine CV.exit ?_
    | refine CV.ret ?_
    | refine CV.scope ?_
    | refine CV.draw callees rfl ?_
    | refine CH.cons rfl ?_
    | refine CH.nil ?_
    | refine CO.consG rfl ?_
    | refine CH.consG rfl ?_
    | refine CG.cons rfl ?_
    | refine CR.cons ?_
    | refine CR.nil ?_
    | refine CG.nil ?_
    | refine CG.consG rfl ?_
    | refine ⟨(rfl : plain _ = true), ?_⟩
    | refine ⟨(rfl : nilOk _ = some _), ?_⟩
    | refine ⟨_, ints_len (by assumption), ?_⟩
    | refine ⟨_, ints_addr (by assumption) (by omega) (by omega), ?_⟩
    | refine ⟨_, ints_load (by assumption) (by omega) (by omega), ?_⟩
    | refine ⟨(⟨by omega, by omega⟩ : inI64 _), ?_⟩
    | refine ⟨_, fun tm ha => step1_max rfl (ev_tmp ha rfl) (ev_tmp ha rfl), ?_⟩
    | refine ⟨_, fun tm ha => step1_min rfl (ev_tmp ha rfl) (ev_tmp ha rfl), ?_⟩
    | (refine ⟨(rfl : notTuple _ = true), ?_⟩)
    | (refine ⟨fun _ => ?_, fun _ => ?_⟩ <;> first | (exfalso; omega) | skip)
    | fail
  rw [alloc_g]
  generalize hs : H.new (Gc x i) = Hs
  have hg := new_get hs
  have kk := new_keep hs
  repeat' first
    | refine CO.cons rfl ?_
    | refine CO.nil ?_
    | refine CV.seq ?_
    | refine CV.region callees ?_
    | refine CV.cond ?_
    | refine CV.block ?_
    | refine CV.skip ?_
    | refine CV.exit ?_
    | refine CV.ret ?_
    | refine CV.scope ?_
    | refine CV.draw callees rfl ?_
    | refine CH.cons rfl ?_
    | refine CH.nil ?_
    | refine CO.consG rfl ?_
    | refine CH.consG rfl ?_
    | refine CG.cons rfl ?_
    | refine CR.cons ?_
    | refine CR.nil ?_
    | refine CG.nil ?_
    | refine CG.consG rfl ?_
    | refine ⟨(rfl : plain _ = true), ?_⟩
    | refine ⟨(rfl : nilOk _ = some _), ?_⟩
    | refine ⟨_, ints_len (by assumption), ?_⟩
    | refine ⟨_, ints_addr (by assumption) (by omega) (by omega), ?_⟩
    | refine ⟨_, ints_load (by assumption) (by omega) (by omega), ?_⟩
    | refine ⟨(⟨by omega, by omega⟩ : inI64 _), ?_⟩
    | refine ⟨_, fun tm ha => step1_max rfl (ev_tmp ha rfl) (ev_tmp ha rfl), ?_⟩
    | refine ⟨_, fun tm ha => step1_min rfl (ev_tmp ha rfl) (ev_tmp ha rfl), ?_⟩
    | (refine ⟨_, addrG0, ?_⟩)
    | (refine ⟨_, addrX (by decide), ?_⟩)
    | (refine ⟨_, cell_load ag3 hg rfl, ?_⟩)
    | (refine ⟨fun _ => ?_, fun _ => ?_⟩ <;> first | (exfalso; omega) | skip)
    | fail
  exact ⟨rfl, rfl, kk⟩
set_option maxRecDepth 100000 in
theorem amt4_spec {B : Nat} {H : Heap} {x : Scr} {i : Int} (hB : B ≤ H.n) :
    CallB Try.prog B 110 [Gv x i] H (fun r H' => r = .int .i64 (amt x i 4) ∧ Keep H H') := by
  refine CV.enter callees false rfl Try.func110 rfl (by kernel_rfl) (Nat.le_of_ble_eq_true rfl) hB ?_
  repeat' first
    | refine CO.cons rfl ?_
    | refine CO.nil ?_
    | refine CV.seq ?_
    | refine CV.region callees ?_
    | refine CV.cond ?_
    | refine CV.block ?_
    | refine CV.skip ?_
    | refine CV.exit ?_
    | refine CV.ret ?_
    | refine CV.scope ?_
    | refine CV.draw callees rfl ?_
    | refine CH.cons rfl ?_
    | refine CH.nil ?_
    | refine CO.consG rfl ?_
    | refine CH.consG rfl ?_
    | refine CG.cons rfl ?_
    | refine CR.cons ?_
    | refine CR.nil ?_
    | refine CG.nil ?_
    | refine CG.consG rfl ?_
    | refine ⟨(rfl : plain _ = true), ?_⟩
    | refine ⟨(rfl : nilOk _ = some _), ?_⟩
    | refine ⟨_, ints_len (by assumption), ?_⟩
    | refine ⟨_, ints_addr (by assumption) (by omega) (by omega), ?_⟩
    | refine ⟨_, ints_load (by assumption) (by omega) (by omega), ?_⟩
    | refine ⟨(⟨by omega, by omega⟩ : inI64 _), ?_⟩
    | refine ⟨_, fun tm ha => step1_max rfl (ev_tmp ha rfl) (ev_tmp ha rfl), ?_⟩
    | refine ⟨_, fun tm ha => step1_min rfl (ev_tmp ha rfl) (ev_tmp ha rfl), ?_⟩
    | (refine ⟨(rfl : notTuple _ = true), ?_⟩)
    | (refine ⟨fun _ => ?_, fun _ => ?_⟩ <;> first | (exfalso; omega) | skip)
    | fail
  rw [alloc_g]
  generalize hs : H.new (Gc x i) = Hs
  have hg := new_get hs
  have kk := new_keep hs
  repeat' first
    | refine CO.cons rfl ?_
    | refine CO.nil ?_
    | refine CV.seq ?_
    | refine CV.region callees ?_
    | refine CV.cond ?_
    | refine CV.block ?_
    | refine CV.skip ?_
    | refine CV.exit ?_
    | refine CV.ret ?_
    | refine CV.scope ?_
    | refine CV.draw callees rfl ?_
    | refine CH.cons rfl ?_
    | refine CH.nil ?_
    | refine CO.consG rfl ?_
    | refine CH.consG rfl ?_
    | refine CG.cons rfl ?_
    | refine CR.cons ?_
    | refine CR.nil ?_
    | refine CG.nil ?_
    | refine CG.consG rfl ?_
    | refine ⟨(rfl : plain _ = true), ?_⟩
    | refine ⟨(rfl : nilOk _ = some _), ?_⟩
    | refine ⟨_, ints_len (by assumption), ?_⟩
    | refine ⟨_, ints_addr (by assumption) (by omega) (by omega), ?_⟩
    | refine ⟨_, ints_load (by assumption) (by omega) (by omega), ?_⟩
    | refine ⟨(⟨by omega, by omega⟩ : inI64 _), ?_⟩
    | refine ⟨_, fun tm ha => step1_max rfl (ev_tmp ha rfl) (ev_tmp ha rfl), ?_⟩
    | refine ⟨_, fun tm ha => step1_min rfl (ev_tmp ha rfl) (ev_tmp ha rfl), ?_⟩
    | (refine ⟨_, addrG0, ?_⟩)
    | (refine ⟨_, addrX (by decide), ?_⟩)
    | (refine ⟨_, cell_load ag3 hg rfl, ?_⟩)
    | (refine ⟨fun _ => ?_, fun _ => ?_⟩ <;> first | (exfalso; omega) | skip)
    | fail
  exact ⟨rfl, rfl, kk⟩
set_option maxRecDepth 100000 in
theorem amt5_spec {B : Nat} {H : Heap} {x : Scr} {i : Int} (hB : B ≤ H.n) :
    CallB Try.prog B 111 [Gv x i] H (fun r H' => r = .int .i64 (amt x i 5) ∧ Keep H H') := by
  refine CV.enter callees false rfl Try.func111 rfl (by kernel_rfl) (Nat.le_of_ble_eq_true rfl) hB ?_
  repeat' first
    | refine CO.cons rfl ?_
    | refine CO.nil ?_
    | refine CV.seq ?_
    | refine CV.region callees ?_
    | refine CV.cond ?_
    | refine CV.block ?_
    | refine CV.skip ?_
    | refine CV.exit ?_
    | refine CV.ret ?_
    | refine CV.scope ?_
    | refine CV.draw callees rfl ?_
    | refine CH.cons rfl ?_
    | refine CH.nil ?_
    | refine CO.consG rfl ?_
    | refine CH.consG rfl ?_
    | refine CG.cons rfl ?_
    | refine CR.cons ?_
    | refine CR.nil ?_
    | refine CG.nil ?_
    | refine CG.consG rfl ?_
    | refine ⟨(rfl : plain _ = true), ?_⟩
    | refine ⟨(rfl : nilOk _ = some _), ?_⟩
    | refine ⟨_, ints_len (by assumption), ?_⟩
    | refine ⟨_, ints_addr (by assumption) (by omega) (by omega), ?_⟩
    | refine ⟨_, ints_load (by assumption) (by omega) (by omega), ?_⟩
    | refine ⟨(⟨by omega, by omega⟩ : inI64 _), ?_⟩
    | refine ⟨_, fun tm ha => step1_max rfl (ev_tmp ha rfl) (ev_tmp ha rfl), ?_⟩
    | refine ⟨_, fun tm ha => step1_min rfl (ev_tmp ha rfl) (ev_tmp ha rfl), ?_⟩
    | (refine ⟨(rfl : notTuple _ = true), ?_⟩)
    | (refine ⟨fun _ => ?_, fun _ => ?_⟩ <;> first | (exfalso; omega) | skip)
    | fail
  rw [alloc_g]
  generalize hs : H.new (Gc x i) = Hs
  have hg := new_get hs
  have kk := new_keep hs
  repeat' first
    | refine CO.cons rfl ?_
    | refine CO.nil ?_
    | refine CV.seq ?_
    | refine CV.region callees ?_
    | refine CV.cond ?_
    | refine CV.block ?_
    | refine CV.skip ?_
    | refine CV.exit ?_
    | refine CV.ret ?_
    | refine CV.scope ?_
    | refine CV.draw callees rfl ?_
    | refine CH.cons rfl ?_
    | refine CH.nil ?_
    | refine CO.consG rfl ?_
    | refine CH.consG rfl ?_
    | refine CG.cons rfl ?_
    | refine CR.cons ?_
    | refine CR.nil ?_
    | refine CG.nil ?_
    | refine CG.consG rfl ?_
    | refine ⟨(rfl : plain _ = true), ?_⟩
    | refine ⟨(rfl : nilOk _ = some _), ?_⟩
    | refine ⟨_, ints_len (by assumption), ?_⟩
    | refine ⟨_, ints_addr (by assumption) (by omega) (by omega), ?_⟩
    | refine ⟨_, ints_load (by assumption) (by omega) (by omega), ?_⟩
    | refine ⟨(⟨by omega, by omega⟩ : inI64 _), ?_⟩
    | refine ⟨_, fun tm ha => step1_max rfl (ev_tmp ha rfl) (ev_tmp ha rfl), ?_⟩
    | refine ⟨_, fun tm ha => step1_min rfl (ev_tmp ha rfl) (ev_tmp ha rfl), ?_⟩
    | (refine ⟨_, addrG0, ?_⟩)
    | (refine ⟨_, addrX (by decide), ?_⟩)
    | (refine ⟨_, cell_load ag3 hg rfl, ?_⟩)
    | (refine ⟨fun _ => ?_, fun _ => ?_⟩ <;> first | (exfalso; omega) | skip)
    | fail
  exact ⟨rfl, rfl, kk⟩
set_option maxRecDepth 100000 in
theorem amt6_spec {B : Nat} {H : Heap} {x : Scr} {i : Int} (hB : B ≤ H.n) (h0 : 0 ≤ i) (h1 : i < 1000000) :
    CallB Try.prog B 112 [Gv x i] H (fun r H' => r = .int .i64 (amt x i 6) ∧ Keep H H') := by
  refine CV.enter callees false rfl Try.func112 rfl (by kernel_rfl) (Nat.le_of_ble_eq_true rfl) hB ?_
  repeat' first
    | refine CO.cons rfl ?_
    | refine CO.nil ?_
    | refine CV.seq ?_
    | refine CV.region callees ?_
    | refine CV.cond ?_
    | refine CV.block ?_
    | refine CV.skip ?_
    | refine CV.exit ?_
    | refine CV.ret ?_
    | refine CV.scope ?_
    | refine CV.draw callees rfl ?_
    | refine CH.cons rfl ?_
    | refine CH.nil ?_
    | refine CO.consG rfl ?_
    | refine CH.consG rfl ?_
    | refine CG.cons rfl ?_
    | refine CR.cons ?_
    | refine CR.nil ?_
    | refine CG.nil ?_
    | refine CG.consG rfl ?_
    | refine ⟨(rfl : plain _ = true), ?_⟩
    | refine ⟨(rfl : nilOk _ = some _), ?_⟩
    | refine ⟨_, ints_len (by assumption), ?_⟩
    | refine ⟨_, ints_addr (by assumption) (by omega) (by omega), ?_⟩
    | refine ⟨_, ints_load (by assumption) (by omega) (by omega), ?_⟩
    | refine ⟨(⟨by omega, by omega⟩ : inI64 _), ?_⟩
    | refine ⟨_, fun tm ha => step1_max rfl (ev_tmp ha rfl) (ev_tmp ha rfl), ?_⟩
    | refine ⟨_, fun tm ha => step1_min rfl (ev_tmp ha rfl) (ev_tmp ha rfl), ?_⟩
    | (refine ⟨(rfl : notTuple _ = true), ?_⟩)
    | (refine ⟨fun _ => ?_, fun _ => ?_⟩ <;> first | (exfalso; omega) | skip)
    | fail
  rw [alloc_g]
  generalize hs : H.new (Gc x i) = Hs
  have hg := new_get hs
  have kk := new_keep hs
  repeat' first
    | refine CO.cons rfl ?_
    | refine CO.nil ?_
    | refine CV.seq ?_
    | refine CV.region callees ?_
    | refine CV.cond ?_
    | refine CV.block ?_
    | refine CV.skip ?_
    | refine CV.exit ?_
    | refine CV.ret ?_
    | refine CV.scope ?_
    | refine CV.draw callees rfl ?_
    | refine CH.cons rfl ?_
    | refine CH.nil ?_
    | refine CO.consG rfl ?_
    | refine CH.consG rfl ?_
    | refine CG.cons rfl ?_
    | refine CR.cons ?_
    | refine CR.nil ?_
    | refine CG.nil ?_
    | refine CG.consG rfl ?_
    | refine ⟨(rfl : plain _ = true), ?_⟩
    | refine ⟨(rfl : nilOk _ = some _), ?_⟩
    | refine ⟨_, ints_len (by assumption), ?_⟩
    | refine ⟨_, ints_addr (by assumption) (by omega) (by omega), ?_⟩
    | refine ⟨_, ints_load (by assumption) (by omega) (by omega), ?_⟩
    | refine ⟨(⟨by omega, by omega⟩ : inI64 _), ?_⟩
    | refine ⟨_, fun tm ha => step1_max rfl (ev_tmp ha rfl) (ev_tmp ha rfl), ?_⟩
    | refine ⟨_, fun tm ha => step1_min rfl (ev_tmp ha rfl) (ev_tmp ha rfl), ?_⟩
    | (refine ⟨_, addrG1, ?_⟩)
    | (refine ⟨_, cell_load ag3 hg rfl, ?_⟩)
    | (refine ⟨_, fun tm ha => step1_neg rfl (ev_tmp ha rfl), ?_⟩)
    | (refine ⟨fun _ => ?_, fun _ => ?_⟩ <;> first | (exfalso; omega) | skip)
    | fail
  exact ⟨rfl, by rw [wrapI (by omega) (by omega), Int.zero_sub]; rfl, kk⟩
end Go.Proofs.Ytcpklnekpdhlmaa
