/- Several texts in one. -/
import Derived.Test.YtglkphjjinmgmaaX5
import Derived.Below
set_option linter.unusedVariables false
set_option linter.unusedSimpArgs false
namespace Go.AI
def laid : List AObj -> Heap -> Heap
  | [], H => H
  | o :: l, H => laid l (H.new o)
theorem laid_n : ∀ (l : List AObj) (H : Heap), (laid l H).n = H.n + l.length
  | [], _ => rfl
  | o :: l, H => by rw [laid, laid_n l]; simp [Heap.new]; omega
theorem laid_get : ∀ (l : List AObj) (H : Heap), (∀ b o, H.get b = some o -> b < H.n) -> ∀ b o, (laid l H).get b = some o ↔ (H.get b = some o ∨ ∃ i, b = H.n + i ∧ l[i]? = some o)
  | [], H, hH, b, o => by simp [laid]
  | x :: l, H, hH, b, o => by
    have hH' : ∀ b o, (H.new x).get b = some o -> b < (H.new x).n := by
      intro b o h
      show b < H.n + 1
      by_cases hb : b = H.n
      · omega
      · rw [Heap.get_new_ne _ _ hb] at h; have := hH b o h; omega
    rw [laid, laid_get l _ hH' b o]
    constructor
    · rintro (h | ⟨i, rfl, h⟩)
      · by_cases hb : b = H.n
        · subst hb; rw [Heap.get_new_eq] at h
          exact .inr ⟨0, by simp, by simpa using h⟩
        · rw [Heap.get_new_ne _ _ hb] at h; exact .inl h
      · exact .inr ⟨i + 1, by show H.n + 1 + i = H.n + (i + 1); omega, by simpa using h⟩
    · rintro (h | ⟨i, rfl, h⟩)
      · have := hH b o h
        exact .inl (by rw [Heap.get_new_ne _ _ (by omega)]; exact h)
      · cases i with
        | zero => exact .inl (by simp at h; rw [show H.n + 0 = H.n from rfl, Heap.get_new_eq, h])
        | succ i => exact .inr ⟨i, by show H.n + (i + 1) = H.n + 1 + i; omega, by simpa using h⟩
def nothing : Heap := ⟨0, .leaf⟩
def baseHeap (l : List AObj) : Heap := laid l nothing
theorem base_n (l : List AObj) : (baseHeap l).n = l.length := by rw [baseHeap, laid_n]; simp [nothing]
theorem base_get (l : List AObj) (b : Nat) (o : AObj) : (baseHeap l).get b = some o ↔ l[b]? = some o := by
  rw [baseHeap, laid_get l nothing (by intro b o h; simp [nothing, Heap.get, Tr.get] at h) b o]
  constructor
  · rintro (h | ⟨i, rfl, h⟩)
    · simp [nothing, Heap.get, Tr.get] at h
    · simpa [nothing] using h
  · intro h; exact .inr ⟨b, by simp [nothing], h⟩
def found (P : Program) (l : List AObj) (k f : Nat) (v : Value) : Prop :=
  ∃ H' lo, @call P (Oracle.none P) k (.fn f) [] (baseHeap l) = some (v, H', lo) ∧ (baseHeap l).n <= lo
end Go.AI
namespace Go.AI
def Keep (H H' : Heap) : Prop := H.n <= H'.n ∧ ∀ b, b < H.n -> H'.get b = H.get b
theorem Keep.refl (H : Heap) : Keep H H := ⟨Nat.le_refl _, fun _ _ => rfl⟩
theorem Keep.trans {H1 H2 H3 : Heap} (h : Keep H1 H2) (k : Keep H2 H3) : Keep H1 H3 :=
  ⟨Nat.le_trans h.1 k.1, fun b hb => (k.2 b (Nat.lt_of_lt_of_le hb h.1)).trans (h.2 b hb)⟩
theorem Keep.new (H : Heap) (o : AObj) : Keep H (H.new o) := ⟨Nat.le_succ _, fun b hb => Heap.get_new_ne _ _ (Nat.ne_of_lt hb)⟩
theorem Row.keep {H H' : Heap} {v : Value} {vs : List Value} (h : Row H v vs) (k : Keep H H') : Row H' v vs := by
  rcases h with h | h | ⟨b, i, c, cs, e, kd, h1, h2, h3, h4⟩
  · exact .inl h
  · exact .inr (.inl h)
  · exact .inr (.inr ⟨b, i, c, cs, e, kd, h1, Nat.lt_of_lt_of_le h2 k.1, by rw [k.2 b h2]; exact h3, h4⟩)
def KeepX (b : Nat) (H H' : Heap) : Prop := H.n <= H'.n ∧ ∀ c, c < H.n -> c ≠ b -> H'.get c = H.get c
theorem KeepX.refl (b : Nat) (H : Heap) : KeepX b H H := ⟨Nat.le_refl _, fun _ _ _ => rfl⟩
theorem KeepX.trans {b : Nat} {H1 H2 H3 : Heap} (h : KeepX b H1 H2) (k : KeepX b H2 H3) : KeepX b H1 H3 :=
  ⟨Nat.le_trans h.1 k.1, fun c hc hb => (k.2 c (Nat.lt_of_lt_of_le hc h.1) hb).trans (h.2 c hc hb)⟩
theorem Keep.butX {H H' : Heap} (h : Keep H H') (b : Nat) : KeepX b H H' := ⟨h.1, fun c hc _ => h.2 c hc⟩
theorem KeepX.keep {b : Nat} {H0 H H' : Heap} (h : KeepX b H H') (k : Keep H0 H) (hb : H0.n <= b) : Keep H0 H' :=
  ⟨Nat.le_trans k.1 h.1, fun c hc => (h.2 c (Nat.lt_of_lt_of_le hc k.1) (by omega)).trans (k.2 c hc)⟩
theorem Row.keepX {H H' : Heap} {b : Nat} {v : Value} {vs cs0 : List Value} {e0 : TypeId} (h : Row H v vs) (k : KeepX b H H') (hb : H.get b = some (.cells cs0 e0 1)) : Row H' v vs := by
  rcases h with h | h | ⟨b', i, c, cs, e, kd, h1, h2, h3, h4, h5⟩
  · exact .inl h
  · exact .inr (.inl h)
  · refine .inr (.inr ⟨b', i, c, cs, e, kd, h1, Nat.lt_of_lt_of_le h2 k.1, ?_, h4, h5⟩)
    rw [k.2 b' h2]
    · exact h3
    · rintro rfl; rw [hb] at h3; cases h3; exact h4 rfl
def oneBB (P : Program) (e : TypeId) : Option (Value × Nat) :=
  match P.info? e with
  | some info => match info.zero with
    | some z => bif Nat.beq info.size 1 && oneC z && scalar z then some (z, info.bytes) else none
    | none => none
  | none => none
theorem oneC_cells {v : Value} (h : oneC v = true) : v.cells = #[v] := by cases v <;> simp_all [oneC, Value.cells]
theorem oneC_notTuple {v : Value} (h : oneC v = true) : notTuple v = true := by cases v <;> simp_all [oneC, notTuple]
theorem oneBB_spec {P : Program} {e : TypeId} {z : Value} {n : Nat} (h : oneBB P e = some (z, n)) : ∃ info, P.info? e = some info ∧ info.zero = some z ∧ info.size = 1 ∧ z.cells = #[z] ∧ scalar z = true ∧ info.bytes = n := by
  unfold oneBB at h
  split at h
  · rename_i info hi
    split at h
    · rename_i z' hz
      cases hc : (Nat.beq info.size 1 && oneC z' && scalar z') with
      | false => rw [hc] at h; simp at h
      | true =>
        rw [hc] at h
        simp only [cond_true, Option.some.injEq, Prod.mk.injEq] at h
        obtain ⟨rfl, rfl⟩ := h
        simp only [Bool.and_eq_true] at hc
        refine ⟨info, hi, hz, Nat.eq_of_beq_eq_true hc.1.1, ?_, hc.2, rfl⟩
        have := hc.1.2
        cases z' <;> simp_all [oneC, Value.cells]
    · cases h
  · cases h
section
variable {P : Program} {H : Heap} {t e : TypeId} {z : Value} {by' : Nat}
theorem make_row (ht : P.underlying t = some (.slice e)) (h1 : oneBB P e = some (z, by')) (hb : by' <= 16) (n : Nat) (hn : n <= 1000000) :
    amakeSlice P H t (.int .i64 n) (.int .i64 n) = some (.slice (some ⟨H.n, 0, none⟩) n 0, H.new (.cells (List.replicate n z) e 2), H.n) := by
  obtain ⟨info, hi, hz, hs, hc, hsc, hby⟩ := oneBB_spec h1
  have hmul : info.bytes * n <= 16 * 1000000 := Nat.mul_le_mul (by omega) hn
  simp only [amakeSlice, ht, hi, hz]
  rw [if_pos (by
    refine ⟨by omega, by omega, by omega, by have h := Int.ofNat_le.2 hmul; rw [Int.natCast_mul] at h; omega, by omega, by rw [hc, hs]; rfl, by rw [hc]; simp [hsc]⟩)]
  simp only [anew, Int.toNat_natCast, hs, Nat.mul_one, hc]
  congr 5
  apply List.ext_getElem
  · simp [zeros]
  · intro i h1 h2; simp [zeros, Nat.mod_one]
theorem build_one (ht : P.underlying t = some (.slice e)) (h1 : oneBB P e = some (z, by')) {v : Value} (hv : oneC v = true) :
    abuildSlice P H t 1 [(0, v)] = some (.slice (some ⟨H.n, 0, none⟩) 1 0, H.new (.cells [v] e 2), H.n) := by
  obtain ⟨info, hi, hz, hs, hc, hsc, hby⟩ := oneBB_spec h1
  have hv1 := oneC_cells hv
  have hv2 := oneC_notTuple hv
  simp only [abuildSlice, ht, hi, hz, hs, hc]
  have hz1 : zeros #[z] (1 * 1) = [z] := rfl
  rw [if_pos ⟨by omega, rfl, by simp [hsc], by omega⟩, hz1]
  simp only [fillL, hv1, List.length_singleton, hv2, splice, anew]
  rfl
theorem append_nil (ht : P.underlying t = some (.slice e)) (h1 : oneBB P e = some (z, by')) (hb : by' <= 16) {b' : Nat} {news : List Value} {e' : TypeId} {k : Nat} (hy : H.get b' = some (.cells news e' k)) (hn0 : 0 < news.length) (hn : news.length <= 1000000) :
    aappend P H #[t, t] (.slice none 0 0) (.slice (some ⟨b', 0, none⟩) news.length 0) = some (.slice (some ⟨H.n, 0, none⟩) news.length 0, H.new (.cells news e 2), H.n) := by
  obtain ⟨info, hi, hz, hs, hc, hsc, hby⟩ := oneBB_spec h1
  have hmul : news.length * info.bytes <= 1000000 * 16 := Nat.mul_le_mul hn (by omega)
  simp only [aappend, ht, hi, hz, hc, hs, sourceOf, hy]
  have hl : ¬ news.length = 0 := by omega
  rw [if_neg (by simp), if_neg (by simp), if_pos (by simp)]
  simp only [hl, if_false, Nat.mul_one, List.drop_zero, List.take_length, Nat.zero_add]
  rw [if_pos ⟨by show news.length <= 9223372036854775807; omega, by omega⟩]
  rfl
theorem append_row (ht : P.underlying t = some (.slice e)) (h1 : oneBB P e = some (z, by')) (hb : by' <= 16) {b b' : Nat} {cs news : List Value} {e' : TypeId} {k : Nat} (hx : H.get b = some (.cells cs e 2)) (hy : H.get b' = some (.cells news e' k)) (hn0 : 0 < news.length) (hn : cs.length + news.length <= 1000000) :
    aappend P H #[t, t] (.slice (some ⟨b, 0, none⟩) cs.length 0) (.slice (some ⟨b', 0, none⟩) news.length 0) = some (.slice (some ⟨H.n, 0, none⟩) (cs.length + news.length) 0, (H.set b .gone).new (.cells (cs ++ news) e 2), b) := by
  obtain ⟨info, hi, hz, hs, hc, hsc, hby⟩ := oneBB_spec h1
  have hmul : (cs.length + news.length) * info.bytes <= 1000000 * 16 := Nat.mul_le_mul hn (by omega)
  simp only [aappend, ht, hi, hz, hc, hs, sourceOf, hy, hx]
  have hl : ¬ news.length = 0 := by omega
  rw [if_neg (by simp), if_neg (by simp), if_pos (by simp)]
  simp only [hl, if_false, Nat.mul_one, List.drop_zero, List.take_length, Nat.zero_add]
  rw [if_neg (by simp), if_pos ⟨trivial, trivial, by show cs.length + news.length <= 9223372036854775807; omega, by omega⟩]
  rfl
theorem store_row (hs : sizeB P e = some 1) {b i : Nat} {cs : List Value} {e' : TypeId} {k : Nat} (hx : H.get b = some (.cells cs e' (k + 1))) (hi : i < cs.length) {v : Value} (hv : oneC v = true) :
    astore P e H v (.pointer (some ⟨b, i, none⟩)) = some (H.set b (.cells (cs.set i v) e' (k + 1)), b) := by
  have hv1 := oneC_cells hv
  have hv2 := oneC_notTuple hv
  simp [astore, hx, hs, hv1, hv2, hv, spliceQ_eq, splice, show i + 1 <= cs.length by omega]
def Own (e : TypeId) (H : Heap) (v : Value) (vs : List Value) (B : Nat) : Prop :=
  (v = .slice none 0 0 ∧ vs = []) ∨ ∃ b, v = .slice (some ⟨b, 0, none⟩) vs.length 0 ∧ B <= b ∧ b < H.n ∧ H.get b = some (.cells vs e 2)
theorem Own.row {e : TypeId} {H : Heap} {v : Value} {vs : List Value} {B : Nat} (h : Own e H v vs B) : Row H v vs := by
  rcases h with h | ⟨b, h1, h2, h3, h4⟩
  · exact .inl h
  · exact .inr (.inr ⟨b, 0, 0, vs, e, 2, h1, h3, h4, by simp, by simp, fun j w hj => by simpa using hj⟩)
theorem Own.keep {e : TypeId} {H H' : Heap} {v : Value} {vs : List Value} {B : Nat} (h : Own e H v vs B) (k : Keep H H') : Own e H' v vs B := by
  rcases h with h | ⟨b, h1, h2, h3, h4⟩
  · exact .inl h
  · exact .inr ⟨b, h1, h2, Nat.lt_of_lt_of_le h3 k.1, by rw [k.2 b h3]; exact h4⟩
theorem Own.keepX {e : TypeId} {H H' : Heap} {b : Nat} {v : Value} {vs cs0 : List Value} {e0 : TypeId} {B : Nat} (h : Own e H v vs B) (k : KeepX b H H') (hb : H.get b = some (.cells cs0 e0 1)) : Own e H' v vs B := by
  rcases h with h | ⟨b', h1, h2, h3, h4⟩
  · exact .inl h
  · refine .inr ⟨b', h1, h2, Nat.lt_of_lt_of_le h3 k.1, ?_⟩
    rw [k.2 b' h3]
    · exact h4
    · rintro rfl; rw [hb] at h4; cases h4
theorem Own.notTuple {e : TypeId} {H : Heap} {v : Value} {vs : List Value} {B : Nat} (h : Own e H v vs B) : AI.notTuple v = true := by
  rcases h with ⟨rfl, _⟩ | ⟨_, rfl, _⟩ <;> rfl
end
end Go.AI
namespace Go.AI
open Go.RowKit
section
variable {P : Program} [Oracle P]
theorem run_of {B : Nat} {ρ : Ren} {H : Heap} {w : World} {f : FuncId} {l : List Value} {args : Array Value} {Q : Value -> Heap -> Prop} (hm : P.follows .mixedOrders = true) (hO : OracleOK P B) (hH : HR P B ρ H w) (hl : L2 (VT ρ) l args.toList) (h : CallB P H.n f l H Q) (hW : WildOK P B := by exact wild_none fun _ => rfl) :
    Calls P f args w fun e w' => ∃ v v' H' ρ', e = .returned v' ∧ VT ρ' v v' ∧ Q v H' ∧ Below w.heap.size w w' := by
  obtain ⟨k, v, H', lo, h1, h2, h3⟩ := h.run.out
  refine callsIn_wide.1 ((show CallsIn Fence.wide 0 P f args w _ from (call_sound hO hm hW k (.fn f) l H v H' lo h1 ρ w args 0 hH hl).2).mono ?_)
  rintro e w' ⟨ρ', v', rfl, h4, h5, h6⟩
  exact ⟨v, v', H', ρ', rfl, h4, h3, h6.below hH h2.1⟩
end
structure Seen where
  ent : Ent
  obj : AObj
def seenR (l : List Seen) : Ren := fun b => (l[b]?).map (·.ent)
def seenH (l : List Seen) : Heap := baseHeap (l.map (·.obj))
theorem seen_get {l : List Seen} {b : Nat} {s : Seen} (h : l[b]? = some s) : (seenH l).get b = some s.obj := by
  rw [seenH, base_get, List.getElem?_map, h]; rfl
theorem seen_n (l : List Seen) : (seenH l).n = l.length := by rw [seenH, base_n, List.length_map]
end Go.AI
namespace Go.AI
def fieldOff (P : Program) (s : TypeId) (f : Nat) : Option (Nat × Nat) :=
  match P.underlying s with
  | some (.struct fs) => match fs[f]? with
    | some fd => match sizeB P fd.type with
      | some n => some (fd.offset, n)
      | none => none
    | none => none
  | _ => none
theorem fieldOff_spec {P : Program} {s : TypeId} {f o n : Nat} (h : fieldOff P s f = some (o, n)) : ∃ fs fd, P.underlying s = some (.struct fs) ∧ fs[f]? = some fd ∧ sizeB P fd.type = some n ∧ fd.offset = o := by
  unfold fieldOff at h
  split at h
  · rename_i fs h1
    split at h
    · rename_i fd h2
      split at h
      · rename_i m h3
        cases h
        exact ⟨fs, fd, h1, h2, h3, rfl⟩
      · cases h
    · cases h
  · cases h
theorem field_addr {P : Program} {s : TypeId} {f o n : Nat} (h : fieldOff P s f = some (o, n)) (hn : n ≠ 0) {b i : Nat} : afieldAddr P s (.pointer (some ⟨b, i, none⟩)) f = some (.pointer (some ⟨b, i + o, none⟩)) := by
  obtain ⟨fs, fd, h1, h2, h3, rfl⟩ := fieldOff_spec h
  cases n with
  | zero => exact absurd rfl hn
  | succ n => simp only [afieldAddr, h1, h2, h3]
end Go.AI
namespace Go.AI
section
variable (P : Program) [Oracle P]
structure CV (N B : Nat) (wr : Bool) (c : Code) (L : Kn) (H : Heap) (Q : Exit -> Kn -> Heap -> Prop) : Prop where
  run : WCv P B c L H Q
structure CO (N B : Nat) (wr : Bool) (ops l : List Oper) (L : Kn) (H : Heap) (K : Kn -> Heap -> Prop) : Prop where
  run : vcOps P N B wr ops l L H K
structure CG (N B : Nat) (wr : Bool) (ops l : List Oper) (L : Kn) (H : Heap) (K : Kn -> Heap -> Prop) : Prop where
  run : vcG P N B wr ops l L H K
structure CR (N B : Nat) (wr : Bool) (ops : List Oper) (l : List (Nat × List Nat)) (V : List (Nat × Value)) (L : Kn) (H : Heap) (K : Kn -> Heap -> Prop) : Prop where
  run : vcR P N B wr ops l V L H K
structure CH (N B : Nat) (wr : Bool) (ops l : List Oper) (L : Kn) (H : Heap) (K : Kn -> Heap -> Prop) : Prop where
  run : vcHead P N B wr ops l L H K
end
section
variable {P : Program} [Oracle P] {N B : Nat} {wr : Bool} {L : Kn} {H : Heap} {Q : Exit -> Kn -> Heap -> Prop} {a b : Code} {ops rest : List Oper} {o : Oper} {K : Kn -> Heap -> Prop}
theorem CO_eq {l : List Oper} : CO P N B wr ops l L H K = vcOps P N B wr ops l L H K := propext ⟨CO.run, CO.mk⟩
theorem CG_eq {l : List Oper} : CG P N B wr ops l L H K = vcG P N B wr ops l L H K := propext ⟨CG.run, CG.mk⟩
theorem CR_eq {l : List (Nat × List Nat)} {V : List (Nat × Value)} : CR P N B wr ops l V L H K = vcR P N B wr ops l V L H K := propext ⟨CR.run, CR.mk⟩
theorem CH_eq {l : List Oper} : CH P N B wr ops l L H K = vcHead P N B wr ops l L H K := propext ⟨CH.run, CH.mk⟩
def seqK (k : Kn -> Heap -> Prop) (Q : Exit -> Kn -> Heap -> Prop) : Exit -> Kn -> Heap -> Prop
  | .normal, L, H => k L H
  | e, L, H => Q e L H
def blkK (id : Nat) (Q : Exit -> Kn -> Heap -> Prop) : Exit -> Kn -> Heap -> Prop
  | .exit j, L, H => bif Nat.beq j id then Q .normal L H else Q (.exit j) L H
  | e, L, H => Q e L H
def ifK (p q : Prop) : Value -> Prop
  | .bool true => p
  | .bool false => q
  | _ => False
theorem CV.seq (h : CV P N B wr a L H (seqK (fun L H => CV P N B wr b L H Q) Q)) : CV P N B wr (.seq a b) L H Q := by
  refine ⟨⟨fun tm lo ha hl hB => ?_⟩⟩
  refine WC.seq ((h.run.run tm lo ha hl hB).mono ?_)
  rintro e ⟨tm', H', lo'⟩ ⟨hl', hB', L', h1, h2⟩
  cases e with
  | normal => exact h2.run.run tm' lo' h1 hl' hB'
  | _ => exact ⟨hl', hB', L', h1, h2⟩
theorem CV.skip (h : Q .normal L H) : CV P N B wr .skip L H Q := ⟨⟨fun tm lo ha hl hB => WC.skip ⟨hl, hB, L, ha, h⟩⟩⟩
theorem CV.exit {id : Nat} (h : Q (.exit id) L H) : CV P N B wr (.exit id) L H Q := ⟨⟨fun tm lo ha hl hB => WC.exit ⟨hl, hB, L, ha, h⟩⟩⟩
theorem CV.ret (h : Q .ret L H) : CV P N B wr .ret L H Q := ⟨⟨fun tm lo ha hl hB => WC.ret ⟨hl, hB, L, ha, h⟩⟩⟩
theorem CV.cond {x : Operand} (h : evK P L x (ifK (CV P N B wr a L H Q) (CV P N B wr b L H Q))) : CV P N B wr (.cond x a b) L H Q := by
  refine ⟨⟨fun tm lo ha hl hB => ?_⟩⟩
  obtain ⟨v, h1, h2⟩ := evK_spec ha h
  unfold ifK at h2
  split at h2
  · exact WC.cond h1 (h2.run.run tm lo ha hl hB)
  · exact WC.cond h1 (h2.run.run tm lo ha hl hB)
  · exact h2.elim
theorem CV.block {id : Nat} (h : CV P N B wr b L H (blkK id Q)) : CV P N B wr (.block id b) L H Q := by
  refine ⟨⟨fun tm lo ha hl hB => ?_⟩⟩
  refine WC.block ((h.run.run tm lo ha hl hB).mono ?_)
  rintro e ⟨tm', H', lo'⟩ ⟨hl', hB', L', h1, h2⟩
  cases e with
  | exit j =>
    simp only [inBlk]
    rcases cond_iff h2 with ⟨h3, h4⟩ | ⟨h3, h4⟩
    · rw [if_pos (Nat.eq_of_beq_eq_true h3)]; exact ⟨hl', hB', L', h1, h4⟩
    · rw [if_neg (Nat.ne_of_beq_eq_false h3)]; exact ⟨hl', hB', L', h1, h4⟩
  | _ => exact ⟨hl', hB', L', h1, h2⟩
theorem CV.loopc (h : WCv P B (.loop b) L H Q) : CV P N B wr (.loop b) L H Q := ⟨h⟩
theorem CV.region (hN : calleesOk P N = true) {id : Nat} {os : Array Oper} (h : CO P N B wr os.toList os.toList L H (Q .normal)) : CV P N B wr (.region id os false) L H Q := ⟨vc_spec hN (wr := wr) _ L H Q (by unfold vc; exact h.run)⟩
theorem CV.draw (hN : calleesOk P N = true) {id : Nat} {os : Array Oper} (hs : wideSel os.toList = false) (h : CH P N B wr os.toList (os.toList.take (splitM os.toList)) L H fun L H => CO P N B wr os.toList ((os.toList.drop (splitM os.toList)).take (splitQ os.toList)) L H fun L H => CH P N B wr os.toList (os.toList.drop (splitM os.toList + splitQ os.toList)) L H (Q .normal)) (hms : mSelP P os.toList = false := by decide +kernel) : CV P N B wr (.region id os true) L H Q := by
  refine ⟨vc_spec hN (wr := wr) _ L H Q ?_⟩
  unfold vc
  simp only [CH_eq, CO_eq] at h
  rw [hs, hms]
  exact h
theorem CV.wide (hN : calleesOk P N = true) {id : Nat} {os : Array Oper} (hs : wideSel os.toList = true) (is : List Nat) (hi : wideI os.toList = is) (h : CG P N B wr os.toList (pickOps os.toList is) L H (Q .normal)) (ht : tlSel os.toList = false := by rfl) (hx : apSel os.toList = false := by rfl) (hal : alSel os.toList = false := by rfl) (hms : mSelP P os.toList = false := by decide +kernel) : CV P N B wr (.region id os true) L H Q := by
  subst hi
  exact ⟨⟨fun tm lo ha hl hB => WC.wide hs ht hx hal (vcG_spec hN _ L tm H lo _ ha hl hB h.run) hms⟩⟩
theorem CV.wideR (hN : calleesOk P N = true) {id : Nat} {os : Array Oper} (hs : wideSel os.toList = true) (pl : List (Nat × List Nat)) (hp : planOf os = some pl) (h : CR P N B wr os.toList pl [] L H (Q .normal)) (ht : tlSel os.toList = false := by rfl) (hx : apSel os.toList = false := by rfl) (hal : alSel os.toList = false := by rfl) (hms : mSelP P os.toList = false := by decide +kernel) : CV P N B wr (.region id os true) L H Q :=
  ⟨⟨fun tm lo ha hl hB => WC.wideR hs ht hx hal hp (vcR_spec hN _ [] L tm H lo _ ha hl hB h.run) hms⟩⟩
theorem CV.mX (hN : calleesOk P N = true) {id : Nat} {os : Array Oper} (hms : mSelP P os.toList = true) (pl : List (Nat × List Nat)) (hp : planM os = some pl) (h : CR P N B wr os.toList pl [] L H (Q .normal)) : CV P N B wr (.region id os true) L H Q :=
  ⟨⟨fun tm lo ha hl hB => WC.mX hms hp (vcR_spec hN _ [] L tm H lo _ ha hl hB h.run)⟩⟩
theorem CV.al (hN : calleesOk P N = true) {id : Nat} {os : Array Oper} (hal : alSel os.toList = true) (a0 : Nat) (pl : List (Nat × List Nat)) (hp : planA os = some (a0, pl)) {t : TypeId} {d : Option Tmp} {v : Value} {H1 : Heap} (ho : (os.toList[a0]?).map (fun o => (o.op, o.dst)) = some (.alloc t, d)) (hz : sAlloc P H t = some (v, H1, H.n)) (h : CR P N B wr os.toList pl [] L H (Q .normal)) (ht : tlSel os.toList = false := by rfl) (hx : apSel os.toList = false := by rfl) (hms : mSelP P os.toList = false := by decide +kernel) : CV P N B wr (.region id os true) L H Q := by
  refine ⟨⟨fun tm lo ha hl hB => WC.al ht hx hal hp ?_ (vcR_spec hN _ [] L tm H lo _ ha hl hB h.run) hms⟩⟩
  cases hoo : os.toList[a0]? with
  | none => rw [hoo] at ho; cases ho
  | some o =>
    rw [hoo] at ho
    simp only [Option.map_some, Option.some.injEq, Prod.mk.injEq] at ho
    exact ⟨o, _, rfl, by simp only [step1, ho.1]; exact hz⟩
theorem CR.nil {V : List (Nat × Value)} (h : K L H) : CR P N B wr ops [] V L H K := ⟨by unfold vcR; exact h⟩
theorem CR.cons {V : List (Nat × Value)} {i : Nat} {es : List Nat} {l : List (Nat × List Nat)} (h : nthK ops i fun o => match o.guard with
    | none => bif isStoreB o && (!es.isEmpty && loadsB ops es) then blockK P L o fun b => againS P ops L H b es
        (vcStep P N B B wr o L H (fun _ _ => False) (fun v H' => putK L o.dst v fun L' => CR P N B wr ops l ((i, v) :: V) L' H' K))
      else bif isNewB o then vcStep P N B B wr o L H (fun _ _ => False) (fun v H' => putK L o.dst v fun L' => CR P N B wr ops l ((i, v) :: V) L' H' K)
      else vcStep P N B B wr o L H (fun v H' => putK L o.dst v fun L' => againK P ops V L' H' es (CR P N B wr ops l ((i, v) :: V) L' H' K)) (fun v H' => putK L o.dst v fun L' => againK P ops V L' H' es (CR P N B wr ops l ((i, v) :: V) L' H' K))
    | some (j, want) => guardK ops L j want fun b => bif bEq b want then
        vcStep P N B B wr o L H (fun v H' => putK L o.dst v fun L' => againK P ops V L' H' es (CR P N B wr ops l ((i, v) :: V) L' H' K)) (fun v H' => putK L o.dst v fun L' => againK P ops V L' H' es (CR P N B wr ops l ((i, v) :: V) L' H' K))
      else putK L o.dst undef fun L' => CR P N B wr ops l ((i, undef) :: V) L' H K) : CR P N B wr ops ((i, es) :: l) V L H K := by
  refine ⟨?_⟩
  unfold vcR
  simp only [CR_eq] at h
  exact .inl h
theorem CR.call {V : List (Nat × Value)} {i : Nat} {es : List Nat} {l : List (Nat × List Nat)} (h : nthK ops i fun o => match o.guard with
    | none => vcStep P N B H.n wr o L H (fun v H' => putK L o.dst v fun L' => CR P N B wr ops l ((i, v) :: V) L' H' K) (fun _ _ => False)
    | some (j, want) => guardK ops L j want fun b => bif bEq b want then
        vcStep P N B H.n wr o L H (fun v H' => putK L o.dst v fun L' => CR P N B wr ops l ((i, v) :: V) L' H' K) (fun _ _ => False)
      else putK L o.dst undef fun L' => CR P N B wr ops l ((i, undef) :: V) L' H K) : CR P N B wr ops ((i, es) :: l) V L H K := by
  refine ⟨?_⟩
  unfold vcR
  simp only [CR_eq] at h
  exact .inr (.inl h)
theorem CR.callL {V : List (Nat × Value)} {i : Nat} {es : List Nat} {l : List (Nat × List Nat)} (Bc : Nat) (hBc : B <= Bc) (h : nthK ops i fun o => match o.guard with
    | none => vcStep P N B Bc wr o L H (fun v H' => putK L o.dst v fun L' => againL P ops V L H Bc L' H' es (CR P N B wr ops l ((i, v) :: V) L' H' K)) (fun _ _ => False)
    | some _ => False) : CR P N B wr ops ((i, es) :: l) V L H K := by
  refine ⟨?_⟩
  unfold vcR
  simp only [CR_eq] at h
  exact .inr (.inr (.inl ⟨Bc, hBc, h⟩))
theorem CR.opL {V : List (Nat × Value)} {i : Nat} {es : List Nat} {l : List (Nat × List Nat)} (Bc : Nat) (hBc : B <= Bc) (hBn : Bc <= H.n) (h : nthK ops i fun o => match o.guard with
    | none => vcStep P N Bc Bc wr o L H (fun _ _ => False) (fun v H' => putK L o.dst v fun L' => againL P ops V L H Bc L' H' es (CR P N B wr ops l ((i, v) :: V) L' H' K))
    | some _ => False) : CR P N B wr ops ((i, es) :: l) V L H K := by
  refine ⟨?_⟩
  unfold vcR
  simp only [CR_eq] at h
  exact .inr (.inr (.inr ⟨Bc, hBc, hBn, h⟩))
theorem CG.nil (h : K L H) : CG P N B wr ops [] L H K := ⟨by unfold vcG; exact h⟩
theorem CG.cons (hg : o.guard = none) (h : vcStep P N H.n H.n wr o L H (fun v H' => putK L o.dst v fun L' => CG P N B wr ops rest L' H' K) (fun v H' => putK L o.dst v fun L' => CG P N B wr ops rest L' H' K)) : CG P N B wr ops (o :: rest) L H K := by
  refine ⟨?_⟩
  unfold vcG
  simp only [CG_eq] at h
  simp only [hg]
  exact h
theorem CG.consG {j : Nat} {want : Bool} (hg : o.guard = some (j, want)) (h : guardK ops L j want fun b => bif bEq b want then
        vcStep P N H.n H.n wr o L H (fun v H' => putK L o.dst v fun L' => CG P N B wr ops rest L' H' K) (fun v H' => putK L o.dst v fun L' => CG P N B wr ops rest L' H' K)
      else putK L o.dst undef fun L' => CG P N B wr ops rest L' H K) : CG P N B wr ops (o :: rest) L H K := by
  refine ⟨?_⟩
  unfold vcG
  simp only [CG_eq] at h
  simp only [hg]
  exact h
theorem CO.nil (h : K L H) : CO P N B wr ops [] L H K := ⟨by unfold vcOps; exact h⟩
theorem CH.nil (h : K L H) : CH P N B wr ops [] L H K := ⟨by unfold vcHead; exact h⟩
theorem CO.cons (hg : o.guard = none) (h : vcStep P N B B wr o L H (fun v H' => putK L o.dst v fun L' => CO P N B wr ops rest L' H' K) (fun v H' => putK L o.dst v fun L' => CO P N B wr ops rest L' H' K)) : CO P N B wr ops (o :: rest) L H K := by
  refine ⟨?_⟩
  unfold vcOps
  simp only [CO_eq] at h
  simp only [hg]
  exact h
theorem CH.cons (hg : o.guard = none) (h : vcStep P N B H.n wr o L H (fun v _ => plain v = true ∧ putK L o.dst v fun L' => CH P N B wr ops rest L' H K) (fun v _ => putK L o.dst v fun L' => CH P N B wr ops rest L' H K)) : CH P N B wr ops (o :: rest) L H K := by
  refine ⟨?_⟩
  unfold vcHead
  simp only [CH_eq] at h
  simp only [hg]
  exact h
theorem CO.consG {j : Nat} {want : Bool} (hg : o.guard = some (j, want)) (h : guardK ops L j want fun b => bif bEq b want then
        vcStep P N B B wr o L H (fun v H' => putK L o.dst v fun L' => CO P N B wr ops rest L' H' K) (fun v H' => putK L o.dst v fun L' => CO P N B wr ops rest L' H' K)
      else putK L o.dst undef fun L' => CO P N B wr ops rest L' H K) : CO P N B wr ops (o :: rest) L H K := by
  refine ⟨?_⟩
  unfold vcOps
  simp only [CO_eq] at h
  simp only [hg]
  exact h
theorem CH.consG {j : Nat} {want : Bool} (hg : o.guard = some (j, want)) (h : guardK ops L j want fun b => bif bEq b want then
        vcStep P N B H.n wr o L H (fun v _ => plain v = true ∧ putK L o.dst v fun L' => CH P N B wr ops rest L' H K) (fun v _ => putK L o.dst v fun L' => CH P N B wr ops rest L' H K)
      else putK L o.dst undef fun L' => CH P N B wr ops rest L' H K) : CH P N B wr ops (o :: rest) L H K := by
  refine ⟨?_⟩
  unfold vcHead
  simp only [CH_eq] at h
  simp only [hg]
  exact h
def endK (P : Program) (fn : Func) (Q : Value -> Heap -> Prop) : Exit -> Kn -> Heap -> Prop
  | .normal, L, H => resK P L H fn.results.toList fun l => l.all notTuple = true ∧ tupK l fun v => Q v H
  | .ret, L, H => resK P L H fn.results.toList fun l => l.all notTuple = true ∧ tupK l fun v => Q v H
  | _, _, _ => False
theorem CV.enter {f : FuncId} {args : List Value} {H : Heap} {Q : Value -> Heap -> Prop} {fn : Func} {c : Code} (_hN : calleesOk P N = true) (wr : Bool) (hor : Oracle.val P f = none) (hf : P.funcs[f]? = some fn) (hb : fn.body = some c) (hok : codeOk fn.ntmps c = true) (hl : args.length <= fn.ntmps)
    (hB : B <= H.n) (h : argsK args 0 .leaf fun L => CV P N B wr c L H (endK P fn Q)) (hwi : Oracle.wild P f = false := by rfl) : CallB P B f args H Q := by
  obtain ⟨L, h1, h2⟩ := argsK_spec args 0 .leaf .leaf _ (by intro i v hv; simp [Tr.get] at hv) h
  refine ⟨WF.enter hor hf hb hok hl ((h2.run.run _ H.n h1 hB hB).mono ?_) hwi⟩
  rintro e ⟨tm, H', lo⟩ ⟨hl', hB', L', h3, h4⟩
  have key : ∀ (h : resK P L' H' fn.results.toList fun l => l.all notTuple = true ∧ tupK l fun v => Q v H'), ∃ vs, ressOf P tm H' fn.results.toList = some vs ∧ vs.all notTuple = true ∧ (B <= lo ∧ B <= H'.n) ∧ Q (tupled vs) H' := by
    intro h
    obtain ⟨l, h5, h6, h7⟩ := resK_spec h3 _ _ h
    refine ⟨l, h5, h6, ⟨hl', hB'⟩, ?_⟩
    unfold tupK at h7
    unfold tupled
    split at h7
    · exact h7
    · rename_i hne
      split
      · exact absurd rfl (hne _)
      · exact h7
  cases e with
  | normal => exact ⟨rfl, key h4⟩
  | ret => exact ⟨rfl, key h4⟩
  | _ => exact h4.elim
theorem WCv.rounds {α : Type} (_hN : calleesOk P N = true) (wr : Bool) {b : Code} {L : Kn} {H : Heap} {Q : Exit -> Kn -> Heap -> Prop} (S : α -> List (Nat × Value)) (I : α -> Heap -> Prop) (μ : α -> Nat)
    (a0 : α) (hc : covers L (S a0)) (hI : I a0 H)
    (hr : ∀ a Hx, I a Hx -> B <= Hx.n -> mkK (S a) .leaf fun L' => CV P N B wr b L' Hx (roundK S I μ a Q)) : WCv P B (.loop b) L H Q := by
  have key : ∀ n a, μ a = n -> ∀ Hx lo, I a Hx -> B <= lo -> B <= Hx.n -> ∀ tm, (∀ i v, (i, v) ∈ S a -> Tm.at tm i = v) -> WC P (.loop b) ⟨tm, Hx, lo⟩ fun e st => B <= st.lo ∧ B <= st.heap.n ∧ ∃ L', Agree st.tmps L' ∧ Q e L' st.heap := by
    intro n
    induction n using Nat.strongRecOn with
    | _ n ih =>
      intro a hn Hx lo hI hl hB tm ht
      obtain ⟨L', h1, h2⟩ := mkK_spec (S a) .leaf _ (hr a Hx hI hB)
      have ha : Agree tm L' := fun i v hv => by
        rcases h2 i v hv with h3 | h3
        · simp [Tr.get] at h3
        · exact ht i v h3
      refine WC.round ((h1.run.run tm lo ha hl hB).mono ?_)
      rintro e ⟨tm', H', lo'⟩ ⟨hl', hB', L2, h3, h4⟩
      cases e with
      | normal =>
        obtain ⟨a', h5, h6, h7⟩ := h4
        exact ih _ (by rw [<- hn]; exact h6) a' rfl H' lo' h7 hl' hB' tm' fun i v hv => h3 i v (covers_mem L2 _ h5 i v hv)
      | _ => exact ⟨hl', hB', L2, h3, h4⟩
  exact ⟨fun tm lo ha hl hB => key _ a0 rfl H lo hI hl hB tm fun i v hv => ha i v (covers_mem L _ hc i v hv)⟩
/-! ### A range over a function, and its rounds -/
/-- Where the record of a loop stands, what comes behind the loop. -/
def loopK (l : Nat) (L : Kn) (Q : Exit -> Kn -> Heap -> Prop) (H : Heap) : Prop :=
  ∃ s pend tm ps x y e, H.get l = some (.loop s pend tm ps x y) ∧ notBusy s = true ∧ jumpOf pend = some e ∧ Q e L (H.set l (.loop .exhausted pend tm ps x y))
theorem CV.rangeFunc (hN : calleesOk P N = true) {g : Operand} {ps : Array Tmp} {x y : Code}
    (h : evK P L g fun v => match v with
      | .func (.func f) first cap => bif Nat.beq (assoc (Oracle.exts P) f) 0 && (decide (first.size = 0) && (Nat.ble 2 f && Nat.blt f N)) then
          ∀ tm, Agree tm L -> CallB P B f (.func (.yield H.n) #[] #[] :: cap.toList) (H.new (.loop .ready none tm ps x y)) (fun _ H' => loopK H.n L Q H') else False
      | _ => False) : CV P N B wr (.rangeFunc g ps x y) L H Q := by
  refine ⟨⟨fun tm lo ha hl hB => ?_⟩⟩
  obtain ⟨v, h1, h2⟩ := evK_spec ha h
  split at h2
  · rename_i f first cap
    rcases cond_iff h2 with ⟨h3, h4⟩ | ⟨h3, h4⟩
    · simp only [Bool.and_eq_true, decide_eq_true_eq] at h3
      obtain ⟨h30, h31, h32, h33⟩ := h3
      have h8 := calleesOk_spec N hN f (Nat.le_of_ble_eq_true h32) (Nat.le_of_ble_eq_true h33) (Nat.eq_of_beq_eq_true h30)
      unfold calleeOk at h8
      have hc : iterOf P tm g = some (f, cap.toList) := by
        simp only [iterOf, h1, h31, if_true]
        split at h8
        · rename_i fn hfn
          simp only [Bool.and_eq_true, decide_eq_true_eq] at h8
          simp only [hfn]
          rw [if_pos h8]
        · simp at h8
      refine WC.rangeFunc hc ((h4 tm ha).run.mono ?_)
      rintro r H' lo' ⟨⟨hl', hB'⟩, s, pend, tm', ps', x', y', e, h5, h6, h7, h9⟩
      exact ⟨s, pend, tm', ps', x', y', e, h5, h6, h7, by dsimp only; omega, hB', L, ha, h9⟩
    · exact h4.elim
  · exact h2.elim
def roundEnd (l : Nat) (Q : Value -> Heap -> Prop) : Exit -> Kn -> Heap -> Prop := fun e _ H =>
  ∃ s pend tm ps x y j, H.get l = some (.loop s pend tm ps x y) ∧ pendOf e = some j ∧ Q (.bool j.isNone) (H.set l (.loop (bif j.isNone then .ready else .done) j tm ps x y))
def putKs : List (Tmp × Value) -> Kn -> (Kn -> Prop) -> Prop
  | [], L, K => K L
  | (p, v) :: r, L, K => setK 14 L p v fun L => putKs r L K
theorem putKs_spec : ∀ (l : List (Tmp × Value)) (tm : Tm) (L : Kn) (K : Kn -> Prop), Agree tm L -> putKs l L K -> ∃ L', Agree (putPs l tm) L' ∧ K L'
  | [], _, L, K, ha, h => ⟨L, ha, h⟩
  | (p, v) :: r, tm, L, K, ha, h => by
    obtain ⟨L', h1, h2, h3⟩ := setK_get h
    exact putKs_spec r _ L' K (ha.set h2 h3) h1
theorem RoundB.enter (_hN : calleesOk P N = true) (wr : Bool) {l : Nat} {args : List Value} {H : Heap} {Q : Value -> Heap -> Prop} {pend : Option Code} {tm : Tm} {ps : Array Tmp} {x y : Code} {L : Kn}
    (hg : H.get l = some (.loop .ready pend tm ps x y)) (ha : Agree tm L) (hl : args.length = ps.size) (hB : B <= H.n) (hBl : B <= l)
    (h : putKs (ps.toList.zip args) L fun L => CV P N B wr x L H (seqK (fun L H => ∃ pend1 tm1 ps1 x1 y1, H.get l = some (.loop .ready pend1 tm1 ps1 x1 y1) ∧
      CV P N B wr y L (H.set l (.loop .busy pend1 tm1 ps1 x1 y1)) (roundEnd l Q)) (fun _ _ _ => False))) : RoundB P B l args H Q := by
  obtain ⟨L1, h1, h2⟩ := putKs_spec _ tm L _ ha h
  refine ⟨WF.round hg hl ((h2.run.run _ H.n h1 hB hB).mono ?_)⟩
  rintro e ⟨tm1', H1, lo1⟩ ⟨hl1, hB1, L2, h3, h4⟩
  cases e with
  | normal =>
    obtain ⟨pend1, tm1, ps1, x1, y1, h5, h6⟩ := h4
    refine ⟨rfl, pend1, tm1, ps1, x1, y1, h5, (h6.run.run tm1' (min lo1 l) h3 (Nat.le_min.2 ⟨hl1, hBl⟩) hB1).mono ?_⟩
    rintro e2 ⟨tm2', H2, lo2⟩ ⟨hl2, hB2, L3, h7, s2, pend2, tm2, ps2, x2, y2, j, h8, h9, h10⟩
    exact ⟨s2, pend2, tm2, ps2, x2, y2, j, h8, h9, ⟨Nat.le_min.2 ⟨hl2, hBl⟩, hB2⟩, h10⟩
  | _ => exact h4.elim
end
end Go.AI
namespace Go.AI
def blkOf : Value -> Option Nat
  | .slice (some ⟨b, _, _⟩) _ _ => some b
  | _ => none
structure KeepBut (x : Value) (H H' : Heap) : Prop where
  le : H.n <= H'.n
  get : ∀ c, c < H.n -> blkOf x ≠ some c -> H'.get c = H.get c
def Apart (u v : Value) : Prop := ∀ c, blkOf u = some c -> blkOf v ≠ some c
theorem Apart.symm {u v : Value} (h : Apart u v) : Apart v u := fun c hu hv => h c hv hu
theorem Own.lt {e : TypeId} {H : Heap} {v : Value} {vs : List Value} {B : Nat} (h : Own e H v vs B) {c : Nat} (hc : blkOf v = some c) : B <= c ∧ c < H.n := by
  rcases h with ⟨rfl, _⟩ | ⟨b, rfl, h2, h3, h4⟩
  · cases hc
  · cases hc; exact ⟨h2, h3⟩
theorem Own.keepBut {e : TypeId} {H H' : Heap} {x v : Value} {vs : List Value} {B : Nat} (h : Own e H v vs B) (k : KeepBut x H H') (ha : Apart v x) : Own e H' v vs B := by
  rcases h with h | ⟨b, rfl, h2, h3, h4⟩
  · exact .inl h
  · exact .inr ⟨b, rfl, h2, Nat.lt_of_lt_of_le h3 k.le, by rw [k.get b h3 (ha b rfl)]; exact h4⟩
theorem KeepBut.keep {x : Value} {H0 H H' : Heap} (k : KeepBut x H H') (h : Keep H0 H) (hx : ∀ c, blkOf x = some c -> H0.n <= c) : Keep H0 H' :=
  ⟨Nat.le_trans h.1 k.le, fun c hc => (k.get c (Nat.lt_of_lt_of_le hc h.1) fun h => by have := hx c h; omega).trans (h.2 c hc)⟩
theorem Own.apartNew {e : TypeId} {H : Heap} {v r : Value} {vs : List Value} {B : Nat} (h : Own e H v vs B) (hr : ∀ c, blkOf r = some c -> H.n <= c) : Apart v r := fun c hc hr' => by
  have := (h.lt hc).2; have := hr c hr'; omega
section
variable {P : Program} {H : Heap} {t e : TypeId} {z : Value} {by' : Nat}
theorem append_ask {K : Value -> Heap -> Prop} {B B0 : Nat} {x w : Value} {vs : List Value} (ht : P.underlying t = some (.slice e)) (h1 : oneBB P e = some (z, by')) (hb : by' <= 16) (hx : Own e H x vs B0) (hB0 : B0 <= H.n) (hB : B <= B0) (hn : vs.length < 1000000)
    (hk : ∀ r H', Own e H' r (vs ++ [w]) B0 -> KeepBut x H H' -> (∀ c, blkOf r = some c -> H.n <= c) -> K r H') :
    ∃ v H' b, aappend P (H.new (.cells [w] e 2)) #[t, t] x (.slice (some ⟨H.n, 0, none⟩) 1 0) = some (v, H', b) ∧ B <= b ∧ K v H' := by
  have hy : (H.new (.cells [w] e 2)).get H.n = some (.cells [w] e 2) := Heap.get_new_eq _ _
  rcases hx with ⟨rfl, rfl⟩ | ⟨b, rfl, h2, h3, h4⟩
  · refine ⟨_, _, _, append_nil ht h1 hb (news := [w]) hy (by simp) (by simp), ?_, hk _ _ (.inr ⟨_, rfl, ?_, ?_, Heap.get_new_eq _ _⟩) ⟨?_, ?_⟩ ?_⟩
    · show B <= H.n + 1; omega
    · show B0 <= H.n + 1; omega
    · show H.n + 1 < H.n + 1 + 1; omega
    · show H.n <= H.n + 1 + 1; omega
    · intro c hc _
      rw [Heap.get_new_ne _ _ (by show c ≠ H.n + 1; omega), Heap.get_new_ne _ _ (by omega)]
    · intro c hc; cases hc; show H.n <= H.n + 1; omega
  · have hx' : (H.new (.cells [w] e 2)).get b = some (.cells vs e 2) := by rw [Heap.get_new_ne _ _ (by omega)]; exact h4
    refine ⟨_, _, _, append_row ht h1 hb (news := [w]) hx' hy (by simp) (by simp; omega), Nat.le_trans hB h2, hk _ _ (.inr ⟨_, ?_, ?_, ?_, Heap.get_new_eq _ _⟩) ⟨?_, ?_⟩ ?_⟩
    · simp
    · show B0 <= H.n + 1; omega
    · show H.n + 1 < H.n + 1 + 1; omega
    · show H.n <= H.n + 1 + 1; omega
    · intro c hc hne
      have hne' : b ≠ c := fun h => hne (by rw [h]; rfl)
      rw [Heap.get_new_ne _ _ (by show c ≠ H.n + 1; omega), Heap.get_set_ne _ _ hne', Heap.get_new_ne _ _ (by omega)]
    · intro c hc; cases hc; show H.n <= H.n + 1; omega
theorem store_ask {K : Heap -> Prop} {B B0 : Nat} {x w : Value} {vs : List Value} {i : Nat} (hs : sizeB P e = some 1) (hx : Own e H x vs B0) (hB : B <= B0) (hi : i < vs.length) (hw : oneC w = true)
    (hk : ∀ H', Own e H' x (vs.set i w) B0 -> KeepBut x H H' -> K H') :
    ∃ H' b, astore P e H w (elemAt x i) = some (H', b) ∧ B <= b ∧ K H' := by
  rcases hx with ⟨rfl, rfl⟩ | ⟨b0, rfl, h2, h3, h4⟩
  · simp at hi
  · have he : elemAt (.slice (some ⟨b0, 0, none⟩) vs.length 0) i = .pointer (some ⟨b0, i, none⟩) := by simp [elemAt]
    rw [he]
    refine ⟨_, _, store_row hs h4 hi hw, Nat.le_trans hB h2, hk _ (.inr ⟨b0, by simp, h2, h3, Heap.get_set_eq _ _ _⟩) ⟨Nat.le_refl _, fun c hc hne => Heap.get_set_ne _ _ fun h => hne (by rw [h]; rfl)⟩⟩
theorem KeepBut.keepX {x : Value} {H0 H H' : Heap} {b : Nat} (k : KeepBut x H H') (h : KeepX b H0 H) (hx : ∀ c, blkOf x = some c -> H0.n <= c) : KeepX b H0 H' :=
  ⟨Nat.le_trans h.1 k.le, fun c hc hcb => (k.get c (Nat.lt_of_lt_of_le hc h.1) fun h => by have := hx c h; omega).trans (h.2 c hc hcb)⟩
end
end Go.AI
namespace Go.AI
section
variable {P : Program} [Oracle P] {N B : Nat} {wr : Bool} {L : Kn} {H : Heap} {Q : Exit -> Kn -> Heap -> Prop} {a b : Code}
end
end Go.AI
namespace Go.AI
end Go.AI
namespace Go.AI
theorem new_get {H Hs : Heap} {o : AObj} (h : H.new o = Hs) : Hs.get H.n = some o := by rw [<- h]; exact Heap.get_new_eq _ _
theorem new_n {H Hs : Heap} {o : AObj} (h : H.new o = Hs) : Hs.n = H.n + 1 := by rw [<- h]; rfl
theorem new_keep {H Hs : Heap} {o : AObj} (h : H.new o = Hs) : Keep H Hs := by rw [<- h]; exact Keep.new _ _
theorem set_get {H Hb : Heap} {b : Nat} {o : AObj} (h : H.set b o = Hb) : Hb.get b = some o := by rw [<- h]; exact Heap.get_set_eq _ _ _
theorem set_n {H Hb : Heap} {b : Nat} {o : AObj} (h : H.set b o = Hb) : Hb.n = H.n := by rw [<- h]; rfl
theorem set_old {H Hb : Heap} {b : Nat} {o : AObj} (h : H.set b o = Hb) : ∀ c, c ≠ b -> Hb.get c = H.get c := fun c hc => by rw [<- h]; exact Heap.get_set_ne _ _ (Ne.symm hc)
theorem var_store {P : Program} {H : Heap} {b : Nat} {x v : Value} {t e : TypeId} (hs : sizeB P t = some 1) (hg : H.get b = some (.cells [x] e 1)) (hv : oneC v = true) : astore P t H v (.pointer (some ⟨b, 0, none⟩)) = some (H.set b (.cells [v] e 1), b) :=
  store_row (i := 0) hs hg (by simp) hv
end Go.AI
namespace Go.AI
def idxFrom : Nat -> List Value -> List (Nat × Value)
  | _, [] => []
  | i, v :: vs => (i, v) :: idxFrom (i + 1) vs
theorem fill_vals : ∀ (vs : List Value) (i : Nat) (cells : List Value), cells.length = i + vs.length -> vs.all oneC = true -> fillL (fun i => some (i * 1, 1)) cells (idxFrom i vs) = some (cells.take i ++ vs)
  | [], i, cells, h, _ => by simp only [idxFrom, fillL]; rw [List.take_of_length_le (by simp at h; omega), List.append_nil]
  | v :: vs, i, cells, h, ho => by
    simp only [List.all_cons, Bool.and_eq_true] at ho
    have hv1 := oneC_cells ho.1
    have hv2 := oneC_notTuple ho.1
    simp only [List.length_cons] at h
    rw [idxFrom, fillL]
    have hif : ¬ (v.cells.size ≠ 1 ∨ i * 1 + v.cells.size > cells.length ∨ notTuple v = false) := by rw [hv1, hv2]; simp; omega
    simp only [hif, if_false]
    rw [hv1, show splice cells (i * 1) #[v].toList = cells.set i v by rw [Nat.mul_one]; rfl, fill_vals vs (i + 1) _ (by simp; omega) ho.2]
    congr 1
    rw [List.take_add_one, List.getElem?_set_self (by omega), List.take_set_of_le (Nat.le_refl _)]
    simp
theorem build_vals {P : Program} {H : Heap} {t e : TypeId} {z : Value} {by' : Nat} (vs : List Value) (ht : P.underlying t = some (.slice e)) (h1 : oneBB P e = some (z, by')) (ho : vs.all oneC = true) (hl : vs.length <= 1000) :
    abuildSlice P H t vs.length (idxFrom 0 vs) = some (.slice (some ⟨H.n, 0, none⟩) vs.length 0, H.new (.cells vs e 2), H.n) := by
  obtain ⟨info, hi, hz, hs, hc, hsc, hby⟩ := oneBB_spec h1
  simp only [abuildSlice, ht, hi, hz, hs, hc]
  rw [if_pos ⟨by omega, rfl, by simp [hsc], by omega⟩, fill_vals vs 0 _ (by simp [zeros]) ho]
  simp only [List.take_zero, List.nil_append, anew]
end Go.AI
namespace Go.AI
theorem new_row {H : Heap} {l : List Value} {n : Nat} {e : TypeId} (hn : n = l.length) : Row (H.new (.cells l e 2)) (.slice (some ⟨H.n, 0, none⟩) n 0) l :=
  .inr (.inr ⟨H.n, 0, 0, _, e, 2, by rw [hn], Nat.lt_succ_self _, Heap.get_new_eq _ _, by decide, by simp, fun j w h => by simpa using h⟩)
theorem same_int {k : IntKind} {n : Int} : sameFix (.int k n) (.int k n) = true := by simp [sameFix, sameFix1]
theorem beq_self (n : Nat) : Nat.beq n n = true := by induction n with
  | zero => rfl
  | succ n ih => exact ih
theorem same_sl {b i n : Nat} : sameFix (.slice (some ⟨b, i, none⟩) n 0) (.slice (some ⟨b, i, none⟩) n 0) = true := by simp only [sameFix, sameFix1, beq_self, Bool.and_true]
theorem Own.same {e : TypeId} {H : Heap} {v : Value} {vs : List Value} {B : Nat} (h : Own e H v vs B) : sameFix v v = true := by
  rcases h with ⟨rfl, _⟩ | ⟨b, rfl, _⟩
  · rfl
  · exact same_sl
end Go.AI
