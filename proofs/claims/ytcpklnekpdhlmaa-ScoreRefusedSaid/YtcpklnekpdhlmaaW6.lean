/- Several texts in one. -/
import Derived.Test.YtcpklnekpdhlmaaW4
import Derived.Test.YtcpklnekpdhlmaaW5
set_option linter.unusedVariables false
set_option linter.unusedSimpArgs false

/- Places: who is before whom. -/
namespace Go.Proofs.Ytcpklnekpdhlmaa
open Go.AI
end Go.Proofs.Ytcpklnekpdhlmaa



/- Rows of rows of numbers; scores by keys: who is before whom. -/
namespace Go.AI
section
variable {P : Program} {H : Heap} {t e : TypeId} {z : Value} {by' : Nat}
theorem append_nilW (ht : P.underlying t = some (.slice e)) (h1 : oneBB P e = some (z, by')) (hb : by' ≤ 1000) {b' : Nat} {news : List Value} {e' : TypeId} {k : Nat} (hy : H.get b' = some (.cells news e' k)) (hn0 : 0 < news.length) (hn : news.length ≤ 1000000) :
    aappend P H #[t, t] (.slice none 0 0) (.slice (some ⟨b', 0, none⟩) news.length 0) = some (.slice (some ⟨H.n, 0, none⟩) news.length 0, H.new (.cells news e 2), H.n) := by
  obtain ⟨info, hi, hz, hs, hc, hsc, hby⟩ := oneBB_spec h1
  have hmul : news.length * info.bytes ≤ 1000000 * 1000 := Nat.mul_le_mul hn (by omega)
  simp only [aappend, ht, hi, hz, hc, hs, sourceOf, hy]
  have hl : ¬ news.length = 0 := by omega
  rw [if_neg (by simp), if_neg (by simp), if_pos (by simp)]
  simp only [hl, if_false, Nat.mul_one, List.drop_zero, List.take_length, Nat.zero_add]
  rw [if_pos ⟨by show news.length ≤ 9223372036854775807; omega, by omega⟩]
  rfl
theorem append_rowW (ht : P.underlying t = some (.slice e)) (h1 : oneBB P e = some (z, by')) (hb : by' ≤ 1000) {b b' : Nat} {cs news : List Value} {e' : TypeId} {k : Nat} (hx : H.get b = some (.cells cs e 2)) (hy : H.get b' = some (.cells news e' k)) (hn0 : 0 < news.length) (hn : cs.length + news.length ≤ 1000000) :
    aappend P H #[t, t] (.slice (some ⟨b, 0, none⟩) cs.length 0) (.slice (some ⟨b', 0, none⟩) news.length 0) = some (.slice (some ⟨H.n, 0, none⟩) (cs.length + news.length) 0, (H.set b .gone).new (.cells (cs ++ news) e 2), b) := by
  obtain ⟨info, hi, hz, hs, hc, hsc, hby⟩ := oneBB_spec h1
  have hmul : (cs.length + news.length) * info.bytes ≤ 1000000 * 1000 := Nat.mul_le_mul hn (by omega)
  simp only [aappend, ht, hi, hz, hc, hs, sourceOf, hy, hx]
  have hl : ¬ news.length = 0 := by omega
  rw [if_neg (by simp), if_neg (by simp), if_pos (by simp)]
  simp only [hl, if_false, Nat.mul_one, List.drop_zero, List.take_length, Nat.zero_add]
  rw [if_neg (by simp), if_pos ⟨trivial, trivial, by show cs.length + news.length ≤ 9223372036854775807; omega, by omega⟩]
  rfl
theorem append_askW {K : Value → Heap → Prop} {B B0 : Nat} {x w : Value} {vs : List Value} (ht : P.underlying t = some (.slice e)) (h1 : oneBB P e = some (z, by')) (hb : by' ≤ 1000) (hx : Own e H x vs B0) (hB0 : B0 ≤ H.n) (hB : B ≤ B0) (hn : vs.length < 1000000)
    (hk : ∀ r H', Own e H' r (vs ++ [w]) B0 → KeepBut x H H' → (∀ c, blkOf r = some c → H.n ≤ c) → K r H') :
    ∃ v H' b, aappend P (H.new (.cells [w] e 2)) #[t, t] x (.slice (some ⟨H.n, 0, none⟩) 1 0) = some (v, H', b) ∧ B ≤ b ∧ K v H' := by
  have hy : (H.new (.cells [w] e 2)).get H.n = some (.cells [w] e 2) := Heap.get_new_eq _ _
  rcases hx with ⟨rfl, rfl⟩ | ⟨b, rfl, h2, h3, h4⟩
  · refine ⟨_, _, _, append_nilW ht h1 hb (news := [w]) hy (by simp) (by simp), ?_, hk _ _ (.inr ⟨_, rfl, ?_, ?_, Heap.get_new_eq _ _⟩) ⟨?_, ?_⟩ ?_⟩
    · show B ≤ H.n + 1; omega
    · show B0 ≤ H.n + 1; omega
    · show H.n + 1 < H.n + 1 + 1; omega
    · show H.n ≤ H.n + 1 + 1; omega
    · intro c hc _
      rw [Heap.get_new_ne _ _ (by show c ≠ H.n + 1; omega), Heap.get_new_ne _ _ (by omega)]
    · intro c hc; cases hc; show H.n ≤ H.n + 1; omega
  · have hx' : (H.new (.cells [w] e 2)).get b = some (.cells vs e 2) := by rw [Heap.get_new_ne _ _ (by omega)]; exact h4
    refine ⟨_, _, _, append_rowW ht h1 hb (news := [w]) hx' hy (by simp) (by simp; omega), Nat.le_trans hB h2, hk _ _ (.inr ⟨_, ?_, ?_, ?_, Heap.get_new_eq _ _⟩) ⟨?_, ?_⟩ ?_⟩
    · simp
    · show B0 ≤ H.n + 1; omega
    · show H.n + 1 < H.n + 1 + 1; omega
    · show H.n ≤ H.n + 1 + 1; omega
    · intro c hc hne
      have hne' : b ≠ c := fun h => hne (by rw [h]; rfl)
      rw [Heap.get_new_ne _ _ (by show c ≠ H.n + 1; omega), Heap.get_set_ne _ _ hne', Heap.get_new_ne _ _ (by omega)]
    · intro c hc; cases hc; show H.n ≤ H.n + 1; omega
end
end Go.AI
namespace Go.Proofs.Ytcpklnekpdhlmaa
open Go.AI
theorem un32 : Try.prog.underlying 32 = some (.slice 22) := by kernel_rfl
theorem one22 : oneBB Try.prog 22 = some (.slice none 0 0, 24) := by kernel_rfl
/-- A row of rows of numbers, to be read. -/
structure Grid (H : Heap) (r : Value) (vals : List Value) (ls : List (List Int)) : Prop where
  row : Row H r vals
  len : vals.length = ls.length
  at' : ∀ i : Nat, i < ls.length → Ints H vals[i]! ls[i]!
theorem Grid.keep {H H' : Heap} {r : Value} {vals : List Value} {ls : List (List Int)} (h : Grid H r vals ls) (k : Keep H H') : Grid H' r vals ls :=
  ⟨h.row.keep k, h.len, fun i hi => Row.keep (h.at' i hi) k⟩
theorem Grid.box {b : Nat} {H H' : Heap} {r : Value} {vals : List Value} {ls : List (List Int)} (h : Grid H r vals ls) (k : KeepX b H H') (hb : Box b H) : Grid H' r vals ls :=
  ⟨row_box h.row k hb, h.len, fun i hi => row_box (h.at' i hi) k hb⟩
theorem Grid.alen {H : Heap} {r : Value} {vals : List Value} {ls : List (List Int)} (h : Grid H r vals ls) : alen Try.prog H 32 r = some (.int .i64 ls.length) := by
  rw [← h.len]; exact Row.alen h.row un32
theorem Grid.addr {H : Heap} {r : Value} {vals : List Value} {ls : List (List Int)} (h : Grid H r vals ls) {i : Int} (h0 : 0 ≤ i) (h1 : i < ls.length) : aindexAddr Try.prog 32 r (.int .i64 i) = some (elemAt r i.toNat) :=
  Row.addr h.row un32 sz22 h0 (by rw [h.len]; exact h1)
theorem Grid.load {H : Heap} {r : Value} {vals : List Value} {ls : List (List Int)} (h : Grid H r vals ls) {i : Int} (h0 : 0 ≤ i) (h1 : i < ls.length) : aload Try.prog 22 H (elemAt r i.toNat) = some vals[i.toNat]! := by
  have : i.toNat < vals.length := by rw [h.len]; omega
  exact Row.load h.row ag22 (by rw [List.getElem?_eq_getElem this, getElem!_pos vals _ this])
/-- A row of rows of one's own. -/
structure OwnG (H : Heap) (r : Value) (vals : List Value) (ls : List (List Int)) (B : Nat) : Prop where
  own : Own 22 H r vals B
  len : vals.length = ls.length
  at' : ∀ i : Nat, i < ls.length → Own 3 H vals[i]! (ls[i]!.map VI) B
  ap : ∀ i : Nat, i < ls.length → Apart vals[i]! r
theorem OwnG.grid {H : Heap} {r : Value} {vals : List Value} {ls : List (List Int)} {B : Nat} (h : OwnG H r vals ls B) : Grid H r vals ls :=
  ⟨h.own.row, h.len, fun i hi => (h.at' i hi).row⟩
theorem OwnG.nil {H : Heap} {B : Nat} : OwnG H (.slice none 0 0) [] [] B := ⟨.inl ⟨rfl, rfl⟩, rfl, fun i hi => by simp at hi, fun i hi => by simp at hi⟩
theorem OwnG.box {b : Nat} {H H' : Heap} {r : Value} {vals : List Value} {ls : List (List Int)} {B : Nat} (h : OwnG H r vals ls B) (k : KeepX b H H') (hb : Box b H) : OwnG H' r vals ls B :=
  ⟨own_box h.own k hb, h.len, fun i hi => own_box (h.at' i hi) k hb, h.ap⟩
theorem OwnG.keep {H H' : Heap} {r : Value} {vals : List Value} {ls : List (List Int)} {B : Nat} (h : OwnG H r vals ls B) (k : Keep H H') : OwnG H' r vals ls B :=
  ⟨h.own.keep k, h.len, fun i hi => (h.at' i hi).keep k, h.ap⟩
theorem at_snoc {α : Type} [Inhabited α] {l : List α} {x : α} {i : Nat} : (l ++ [x])[i]! = if i < l.length then l[i]! else if i = l.length then x else default := by
  by_cases h : i < l.length
  · rw [if_pos h, getElem!_pos _ i (by simp; omega), List.getElem_append_left h, getElem!_pos l i h]
  · rw [if_neg h]
    by_cases e : i = l.length
    · subst e; rw [if_pos rfl, getElem!_pos _ _ (by simp)]; simp
    · rw [if_neg e, getElem!_neg _ _ (by simp; omega)]
theorem gpush_ask {K : Value → Heap → Prop} {B B0 : Nat} {H : Heap} {r u : Value} {vals : List Value} {ls : List (List Int)} {xs : List Int} (hg : OwnG H r vals ls B0) (hB0 : B0 ≤ H.n) (hB : B ≤ B0) (hu : Own 3 H u (xs.map VI) B0) (ha : Apart u r) (hn : ls.length < 1000000)
    (hk : ∀ r' H', OwnG H' r' (vals ++ [u]) (ls ++ [xs]) B0 → KeepBut r H H' → (∀ c, blkOf r' = some c → H.n ≤ c) → K r' H') :
    ∃ v H' b, aappend Try.prog (H.new (.cells [u] 22 2)) #[32, 32] r (.slice (some ⟨H.n, 0, none⟩) 1 0) = some (v, H', b) ∧ B ≤ b ∧ K v H' := by
  refine append_askW un32 one22 (by omega) hg.own hB0 hB (by rw [hg.len]; exact hn) fun r' H' ho kb hf => hk r' H' ⟨ho, by simp [hg.len], fun i hi => ?_, fun i hi => ?_⟩ kb hf
  · rw [at_snoc, at_snoc, hg.len]
    rw [List.length_append, List.length_singleton] at hi
    by_cases h : i < ls.length
    · rw [if_pos h, if_pos h]; exact (hg.at' i h).keepBut kb (hg.ap i h)
    · rw [if_neg h, if_neg h, if_pos (by omega), if_pos (by omega)]; exact hu.keepBut kb ha
  · rw [at_snoc, hg.len]
    rw [List.length_append, List.length_singleton] at hi
    intro c hc hr
    have hge := hf c hr
    by_cases h : i < ls.length
    · rw [if_pos h] at hc
      have := ((hg.at' i h).lt hc).2
      omega
    · rw [if_neg h, if_pos (by omega)] at hc
      have := (hu.lt hc).2
      omega
/-- A score. -/
structure Scr where
  p : Int
  k : Int
  w : Int
  r : Int
  n : Int
  o : Int
  s : Int
  h : Int
abbrev Scr.v (x : Scr) : Value := Xv x.p x.k x.w x.r x.n x.o x.s x.h
abbrev Scr.l (x : Scr) : List Value := Xl x.p x.k x.w x.r x.n x.o x.s x.h
end Go.Proofs.Ytcpklnekpdhlmaa



/- Tables and deeds: what a deed does, what all do. -/
namespace Go.Proofs.Ytcpklnekpdhlmaa
open Go.AI
structure Tb where
  pk : Int
  ps : Int
  st : Int
  rs : List (List Int)
structure Dd where
  kd : Int
  gs : Int
  pc : Int
  nm : Int
def doE (t : Tb) (d : Dd) : Int :=
  if d.kd = 1 then (if t.st ≠ 1 then 10 else if t.ps = t.pk then 8 else 0)
  else if d.kd = 2 then (if t.st ≠ 1 then 10 else if d.gs < 0 ∨ (t.rs.length : Int) ≤ d.gs ∨ d.pc < 0 ∨ t.pk ≤ d.pc then 7 else if t.ps ≤ d.pc then 13 else if okN d.nm = true then 0 else 2)
  else if d.kd = 3 then (if t.st ≠ 1 then 10 else 0)
  else if d.kd = 4 then (if t.st ≠ 2 then 10 else 0)
  else if d.kd = 5 then (if t.st = 1 ∧ t.ps < t.pk then 6 else if t.st ≠ 1 then 10 else 0)
  else if d.kd = 6 then (if t.st ≠ 3 then 10 else 0)
  else 4
def put2 (rs : List (List Int)) (i j : Nat) (x : Int) : List (List Int) := rs.set i ((rs[i]!).set j x)
def doN (t : Tb) (d : Dd) : Tb :=
  if d.kd = 1 then {t with ps := t.ps + 1}
  else if d.kd = 2 then {t with rs := put2 t.rs d.gs.toNat d.pc.toNat d.nm}
  else if d.kd = 3 then {t with st := 2}
  else if d.kd = 4 then {t with st := 1}
  else if d.kd = 5 then {t with st := 3}
  else {t with st := 4}
def doT (t : Tb) (d : Dd) : Tb := if doE t d = 0 then doN t d else t
def runT (t : Tb) (ds : List Dd) : Tb := ds.foldl doT t
def runE : Tb → List Dd → List Int
  | _, [] => []
  | t, d :: ds => doE t d :: runE (doT t d) ds
theorem runE_len : ∀ (ds : List Dd) (t : Tb), (runE t ds).length = ds.length
  | [], _ => rfl
  | d :: ds, t => by rw [runE, List.length_cons, runE_len ds, List.length_cons]
theorem runT_snoc (t : Tb) (ds : List Dd) (d : Dd) : runT t (ds ++ [d]) = doT (runT t ds) d := by simp [runT, List.foldl_append]
theorem runE_snoc : ∀ (ds : List Dd) (t : Tb) (d : Dd), runE t (ds ++ [d]) = runE t ds ++ [doE (runT t ds) d]
  | [], t, d => rfl
  | a :: ds, t, d => by rw [List.cons_append, runE, runE_snoc ds, runE, List.cons_append]; rfl
/-- A table that may be. -/
structure Vt (t : Tb) : Prop where
  pk0 : 1 ≤ t.pk
  pk9 : t.pk ≤ 9
  ps0 : 0 ≤ t.ps
  psk : t.ps ≤ t.pk
  st1 : 1 ≤ t.st
  st4 : t.st ≤ 4
  len0 : 0 < t.rs.length
  len9 : t.rs.length ≤ 12
  row : ∀ i, i < t.rs.length → (t.rs[i]!.length : Int) = t.pk ∧ (∀ j, j < t.rs[i]!.length → okN t.rs[i]![j]! = true) ∧ ∀ j, j < t.rs[i]!.length → t.ps ≤ j → t.rs[i]![j]! = -1
  shut : 3 ≤ t.st → t.ps = t.pk
theorem put2_len (rs : List (List Int)) (i j : Nat) (x : Int) : (put2 rs i j x).length = rs.length := by rw [put2, List.length_set]
theorem put2_at {rs : List (List Int)} {i j k : Nat} {x : Int} (hk : k < rs.length) : (put2 rs i j x)[k]! = if i = k then (rs[k]!).set j x else rs[k]! := by
  rw [put2, getElem!_pos _ k (by rw [List.length_set]; exact hk), List.getElem_set]
  split
  · rename_i h; rw [h]
  · rw [getElem!_pos rs k hk]
theorem doE_six {t : Tb} {d : Dd} (h : doE t d = 0) : d.kd = 1 ∨ d.kd = 2 ∨ d.kd = 3 ∨ d.kd = 4 ∨ d.kd = 5 ∨ d.kd = 6 := by
  unfold doE at h
  repeat' split at h
  all_goals first | omega | cases h
theorem Vt.next {t : Tb} (v : Vt t) {d : Dd} (h : doE t d = 0) : Vt (doN t d) := by
  have h6 := doE_six h
  unfold doE at h
  rcases h6 with k | k | k | k | k | k <;> simp only [k, if_true, if_false, Int.reduceEq] at h <;> simp only [doN, k, if_true, if_false, Int.reduceEq]
  · split at h
    · cases h
    · rename_i hs
      split at h
      · cases h
      · rename_i hp
        have := v.ps0
        have := v.psk
        refine ⟨v.pk0, v.pk9, ?_, ?_, v.st1, v.st4, v.len0, v.len9, fun i hi => ⟨(v.row i hi).1, (v.row i hi).2.1, fun j hj hp => (v.row i hi).2.2 j hj ?_⟩, fun h3 => ?_⟩
        · show 0 ≤ t.ps + 1; omega
        · show t.ps + 1 ≤ t.pk; omega
        · have : t.ps + 1 ≤ j := hp
          omega
        · have : 3 ≤ t.st := h3
          omega
  · split at h
    · cases h
    · rename_i hs
      split at h
      · cases h
      · rename_i hm
        split at h
        · cases h
        · rename_i hl
          split at h
          · rename_i ho
            refine ⟨v.pk0, v.pk9, v.ps0, v.psk, v.st1, v.st4, ?_, ?_, fun i hi => ?_, v.shut⟩
            · show 0 < (put2 _ _ _ _).length; rw [put2_len]; exact v.len0
            · show (put2 _ _ _ _).length ≤ 12; rw [put2_len]; exact v.len9
            · have hi' : i < t.rs.length := by have : i < (put2 _ _ _ _).length := hi; rwa [put2_len] at this
              have e2 := put2_at (i := d.gs.toNat) (j := d.pc.toNat) (x := d.nm) hi'
              show (((put2 t.rs d.gs.toNat d.pc.toNat d.nm)[i]!.length : Int) = t.pk) ∧ (∀ j, j < (put2 t.rs d.gs.toNat d.pc.toNat d.nm)[i]!.length → okN (put2 t.rs d.gs.toNat d.pc.toNat d.nm)[i]![j]! = true) ∧ ∀ j, j < (put2 t.rs d.gs.toNat d.pc.toNat d.nm)[i]!.length → t.ps ≤ j → (put2 t.rs d.gs.toNat d.pc.toNat d.nm)[i]![j]! = -1
              rw [e2]
              obtain ⟨r1, r2, r3⟩ := v.row i hi'
              split
              · refine ⟨by rw [List.length_set]; exact r1, fun j hj => ?_, fun j hj hp => ?_⟩
                · rw [List.length_set] at hj
                  rw [getElem!_pos _ j (by rw [List.length_set]; exact hj), List.getElem_set]
                  split
                  · exact ho
                  · have := r2 j hj; rwa [getElem!_pos _ j hj] at this
                · rw [List.length_set] at hj
                  rw [getElem!_pos _ j (by rw [List.length_set]; exact hj), List.getElem_set, if_neg (by omega)]
                  have := r3 j hj hp; rwa [getElem!_pos _ j hj] at this
              · exact ⟨r1, r2, r3⟩
          · cases h
  · split at h
    · cases h
    · rename_i hs
      exact ⟨v.pk0, v.pk9, v.ps0, v.psk, by show (1 : Int) ≤ 2; decide, by show (2 : Int) ≤ 4; decide, v.len0, v.len9, v.row, fun h3 => absurd (show (3 : Int) ≤ 2 from h3) (by decide)⟩
  · split at h
    · cases h
    · rename_i hs
      exact ⟨v.pk0, v.pk9, v.ps0, v.psk, by show (1 : Int) ≤ 1; decide, by show (1 : Int) ≤ 4; decide, v.len0, v.len9, v.row, fun h3 => absurd (show (3 : Int) ≤ 1 from h3) (by decide)⟩
  · split at h
    · cases h
    · rename_i hs
      split at h
      · cases h
      · rename_i hs2
        have := v.psk
        exact ⟨v.pk0, v.pk9, v.ps0, v.psk, by show (1 : Int) ≤ 3; decide, by show (3 : Int) ≤ 4; decide, v.len0, v.len9, v.row, fun h3 => by show t.ps = t.pk; omega⟩
  · split at h
    · cases h
    · rename_i hs
      exact ⟨v.pk0, v.pk9, v.ps0, v.psk, by show (1 : Int) ≤ 4; decide, by show (4 : Int) ≤ 4; decide, v.len0, v.len9, v.row, fun h3 => v.shut (by omega)⟩
theorem Vt.go {t : Tb} (v : Vt t) (d : Dd) : Vt (doT t d) := by
  unfold doT; split
  · rename_i h; exact v.next h
  · exact v
theorem Vt.run : ∀ (ds : List Dd) {t : Tb}, Vt t → Vt (runT t ds)
  | [], _, v => v
  | d :: ds, _, v => Vt.run ds (v.go d)
theorem doT_same (t : Tb) (d : Dd) : (doT t d).pk = t.pk ∧ (doT t d).rs.length = t.rs.length ∧ t.ps ≤ (doT t d).ps := by
  unfold doT; split
  · unfold doN; repeat' split
    all_goals first | exact ⟨rfl, rfl, Int.le_refl _⟩ | exact ⟨rfl, put2_len _ _ _ _, Int.le_refl _⟩ | exact ⟨rfl, rfl, by show t.ps ≤ t.ps + 1; omega⟩
  · exact ⟨rfl, rfl, Int.le_refl _⟩
theorem runT_same : ∀ (ds : List Dd) (t : Tb), (runT t ds).pk = t.pk ∧ (runT t ds).rs.length = t.rs.length ∧ t.ps ≤ (runT t ds).ps
  | [], _ => ⟨rfl, rfl, Int.le_refl _⟩
  | d :: ds, t => by
    obtain ⟨a, b, c⟩ := doT_same t d
    obtain ⟨a', b', c'⟩ := runT_same ds (doT t d)
    exact ⟨a'.trans a, b'.trans b, Int.le_trans c c'⟩
/-- The deeds without errors. -/
def right : Tb → List Dd → List Dd
  | _, [] => []
  | t, d :: ds => if doE t d = 0 then d :: right (doT t d) ds else right (doT t d) ds
theorem right_snoc : ∀ (ds : List Dd) (t : Tb) (d : Dd), right t (ds ++ [d]) = right t ds ++ if doE (runT t ds) d = 0 then [d] else []
  | [], t, d => rfl
  | a :: ds, t, d => by
    rw [List.cons_append, right, right, right_snoc ds]
    split <;> rfl
theorem right_run : ∀ (ds : List Dd) (t : Tb), runT t (right t ds) = runT t ds
  | [], _ => rfl
  | d :: ds, t => by
    rw [right]
    by_cases h : doE t d = 0
    · rw [if_pos h]; exact right_run ds (doT t d)
    · rw [if_neg h]
      have e : doT t d = t := by unfold doT; rw [if_neg h]
      have := right_run ds (doT t d)
      rw [e] at this ⊢
      rw [this]; show _ = runT (doT t d) ds; rw [e]
theorem right_ok : ∀ (ds : List Dd) (t : Tb), ∀ e ∈ runE t (right t ds), e = 0
  | [], _ => by intro e h; cases h
  | d :: ds, t => by
    rw [right]
    by_cases h : doE t d = 0
    · rw [if_pos h, runE]
      intro e he
      rcases List.mem_cons.1 he with rfl | he
      · exact h
      · exact right_ok ds (doT t d) e he
    · rw [if_neg h]
      have e : doT t d = t := by unfold doT; rw [if_neg h]
      have := right_ok ds (doT t d)
      rw [e] at this ⊢
      exact this
theorem doN_write {t : Tb} {d : Dd} (hd : d.kd = 2) : doN t d = {t with rs := put2 t.rs d.gs.toNat d.pc.toNat d.nm} := by unfold doN; simp [hd]
end Go.Proofs.Ytcpklnekpdhlmaa



/- Tables that may be, by the program. -/
namespace Go.Proofs.Ytcpklnekpdhlmaa
open Go.AI
abbrev Tv (t : Tb) (A : Value) : Value := .agg #[.int .i64 t.pk, .int .i64 t.ps, .int .i64 t.st, A]
abbrev Tl (t : Tb) (A : Value) : List Value := [.int .i64 t.pk, .int .i64 t.ps, .int .i64 t.st, A]
abbrev Tc (t : Tb) (A : Value) : AObj := .cells (Tl t A) 52 1
theorem foT0 : fieldOff Try.prog 52 0 = some (0, 1) := by kernel_rfl
theorem foT1 : fieldOff Try.prog 52 1 = some (1, 1) := by kernel_rfl
theorem foT2 : fieldOff Try.prog 52 2 = some (2, 1) := by kernel_rfl
theorem foT3 : fieldOff Try.prog 52 3 = some (3, 1) := by kernel_rfl
theorem foT (i : Nat) (hi : i < 4) : fieldOff Try.prog 52 i = some (i, 1) := by
  match i, hi with
  | 0, _ => exact foT0
  | 1, _ => exact foT1
  | 2, _ => exact foT2
  | 3, _ => exact foT3
theorem addrT {b i : Nat} (hi : i < 4) : afieldAddr Try.prog 52 (.pointer (some ⟨b, 0, none⟩)) i = some (.pointer (some ⟨b, i, none⟩)) := by
  rw [field_addr (foT i hi) (by decide), Nat.zero_add]
theorem agT : isAggB Try.prog 52 = some true := by kernel_rfl
theorem szT : sizeB Try.prog 52 = some 4 := by kernel_rfl
theorem ag32 : isAggB Try.prog 32 = some false := by kernel_rfl
theorem sz32 : sizeB Try.prog 32 = some 1 := by kernel_rfl
abbrev T0 : Tb := ⟨0, 0, 0, []⟩
theorem zeroT : zeroCells Try.prog 52 = some (Tl T0 (.slice none 0 0)) := by kernel_rfl
theorem allocT {H : Heap} : sAlloc Try.prog H 52 = some (.pointer (some ⟨H.n, 0, none⟩), H.new (Tc T0 (.slice none 0 0)), H.n) := alloc_of zeroT
theorem loadT {H : Heap} {b : Nat} {t : Tb} {A : Value} {e : TypeId} (hg : H.get b = some (.cells (Tl t A) e 1)) : aload Try.prog 52 H (.pointer (some ⟨b, 0, none⟩)) = some (Tv t A) := by
  simp [aload, hg, agT, szT]
theorem storeT {H : Heap} {b : Nat} {t t' : Tb} {A A' : Value} {e : TypeId} (hA : oneC A' = true) (hg : H.get b = some (.cells (Tl t A) e 1)) : astore Try.prog 52 H (Tv t' A') (.pointer (some ⟨b, 0, none⟩)) = some (H.set b (.cells (Tl t' A') e 1), b) :=
  store_all (vs := Tl t' A') hg rfl szT (by simp only [List.all_cons, List.all_nil, hA]; rfl)
theorem alloc_t {H : Heap} {t : Tb} {A : Value} (hA : A.cells.toList = [A]) : anew H (Value.cells (Tv t A)).toList 52 1 = H.new (Tc t A) := by
  have : (Value.cells (Tv t A)).toList = [.int .i64 t.pk, .int .i64 t.ps, .int .i64 t.st] ++ A.cells.toList := by
    rw [hA]; rfl
  rw [this, hA]; rfl
theorem Grid.oneC {H : Heap} {r : Value} {vals : List Value} {ls : List (List Int)} (h : Grid H r vals ls) : AI.oneC r = true ∧ r.cells.toList = [r] := ⟨h.row.oneC.1, h.row.oneC.2.2⟩
set_option maxRecDepth 100000 in
theorem indexF_spec {B : Nat} {H : Heap} {v : Value} {xs : List Int} (hB : B ≤ H.n) (hv : Ints H v xs) (hn : xs.length < 1000000) (hm : ∀ j, j < xs.length → xs[j]! = -1) :
    CallB Try.prog B 88 [v, .func (.func 66) #[] #[]] H (fun r H' => r = .int .i64 (-1) ∧ H' = H) := by
  refine CV.enter callees false rfl Try.func88 rfl (by kernel_rfl) (Nat.le_of_ble_eq_true rfl) hB ?_
  repeat' first
    | refine CO.cons rfl ?_
    | refine CO.nil ?_
    | refine CV.seq ?_
    | refine CV.region callees ?_
    | refine CV.cond ?_
    | refine CV.block ?_
    | refine CV.skip ?_
    | refine CV.exit ?_
    | refine CV.ret ?_
    | refine CV.scope ?_
    | refine CV.draw callees rfl ?_
    | refine CH.cons rfl ?_
    | refine CH.nil ?_
    | refine CO.consG rfl ?_
    | refine CH.consG rfl ?_
    | refine CG.cons rfl ?_
    | refine CR.cons ?_
    | refine CR.nil ?_
    | refine CG.nil ?_
    | refine CG.consG rfl ?_
    | refine ⟨(rfl : plain _ = true), ?_⟩
    | refine ⟨(rfl : nilOk _ = some _), ?_⟩
    | refine ⟨_, ints_len (by assumption), ?_⟩
    | refine ⟨_, ints_addr (by assumption) (by omega) (by omega), ?_⟩
    | refine ⟨_, ints_load (by assumption) (by omega) (by omega), ?_⟩
    | refine ⟨(⟨by omega, by omega⟩ : inI64 _), ?_⟩
    | refine ⟨_, fun tm ha => step1_max rfl (ev_tmp ha rfl) (ev_tmp ha rfl), ?_⟩
    | refine ⟨_, fun tm ha => step1_min rfl (ev_tmp ha rfl) (ev_tmp ha rfl), ?_⟩
    | (refine ⟨fun _ => ?_, fun _ => ?_⟩ <;> first | (exfalso; omega) | skip)
    | fail
  refine CV.loopc ?_
  refine WCv.rounds callees false (α := Nat) (fun i => [(0, v), (1, .func (.func 66) #[] #[]), (7, .int .i64 xs.length), (8, .int .i64 i)]) (fun i Hz => Hz = H ∧ i ≤ xs.length) (fun i => xs.length - i) (0) (by repeat' first | exact trivial | refine ⟨rfl, ?_⟩ | refine ⟨slot_int (by (try simp only [Int.toNat_natCast]); omega), ?_⟩) ?_ ?_
  · exact ⟨rfl, by omega⟩
  rintro i Hx ⟨rfl, hi⟩ hBx
  by_cases hi2 : i < xs.length
  · have e : xs[(i : Int).toNat]! = -1 := hm i hi2
    repeat' first
      | refine CO.cons rfl ?_
      | refine CO.nil ?_
      | refine CV.seq ?_
      | refine CV.region callees ?_
      | refine CV.cond ?_
      | refine CV.block ?_
      | refine CV.skip ?_
      | refine CV.exit ?_
      | refine CV.ret ?_
      | refine CV.scope ?_
      | refine CV.draw callees rfl ?_
      | refine CH.cons rfl ?_
      | refine CH.nil ?_
      | refine CO.consG rfl ?_
      | refine CH.consG rfl ?_
      | refine CG.cons rfl ?_
      | refine CR.cons ?_
      | refine CR.nil ?_
      | refine CG.nil ?_
      | refine CG.consG rfl ?_
      | refine ⟨(rfl : plain _ = true), ?_⟩
      | refine ⟨(rfl : nilOk _ = some _), ?_⟩
      | refine ⟨_, ints_len (by assumption), ?_⟩
      | refine ⟨_, ints_addr (by assumption) (by omega) (by omega), ?_⟩
      | refine ⟨_, ints_load (by assumption) (by omega) (by omega), ?_⟩
      | refine ⟨(⟨by omega, by omega⟩ : inI64 _), ?_⟩
      | refine ⟨_, fun tm ha => step1_max rfl (ev_tmp ha rfl) (ev_tmp ha rfl), ?_⟩
      | refine ⟨_, fun tm ha => step1_min rfl (ev_tmp ha rfl) (ev_tmp ha rfl), ?_⟩
      | (refine ⟨fun _ => ?_, fun _ => ?_⟩ <;> first | (exfalso; omega) | skip)
      | fail
    refine (written_spec hBx).mono ?_
    rintro r H1 ⟨rfl, rfl⟩
    rw [e]
    repeat' first
      | refine CO.cons rfl ?_
      | refine CO.nil ?_
      | refine CV.seq ?_
      | refine CV.region callees ?_
      | refine CV.cond ?_
      | refine CV.block ?_
      | refine CV.skip ?_
      | refine CV.exit ?_
      | refine CV.ret ?_
      | refine CV.scope ?_
      | refine CV.draw callees rfl ?_
      | refine CH.cons rfl ?_
      | refine CH.nil ?_
      | refine CO.consG rfl ?_
      | refine CH.consG rfl ?_
      | refine CG.cons rfl ?_
      | refine CR.cons ?_
      | refine CR.nil ?_
      | refine CG.nil ?_
      | refine CG.consG rfl ?_
      | refine ⟨(rfl : plain _ = true), ?_⟩
      | refine ⟨(rfl : nilOk _ = some _), ?_⟩
      | refine ⟨_, ints_len (by assumption), ?_⟩
      | refine ⟨_, ints_addr (by assumption) (by omega) (by omega), ?_⟩
      | refine ⟨_, ints_load (by assumption) (by omega) (by omega), ?_⟩
      | refine ⟨(⟨by omega, by omega⟩ : inI64 _), ?_⟩
      | refine ⟨_, fun tm ha => step1_max rfl (ev_tmp ha rfl) (ev_tmp ha rfl), ?_⟩
      | refine ⟨_, fun tm ha => step1_min rfl (ev_tmp ha rfl) (ev_tmp ha rfl), ?_⟩
      | (refine ⟨fun _ => ?_, fun _ => ?_⟩ <;> first | (exfalso; omega) | skip)
      | fail
    refine ⟨(i + 1), (by repeat' first | exact trivial | refine ⟨rfl, ?_⟩ | refine ⟨slot_int (by (try simp only [Int.toNat_natCast]); omega), ?_⟩), (by (try dsimp only); omega), ?_⟩
    exact ⟨rfl, by omega⟩
  · repeat' first
      | refine CO.cons rfl ?_
      | refine CO.nil ?_
      | refine CV.seq ?_
      | refine CV.region callees ?_
      | refine CV.cond ?_
      | refine CV.block ?_
      | refine CV.skip ?_
      | refine CV.exit ?_
      | refine CV.ret ?_
      | refine CV.scope ?_
      | refine CV.draw callees rfl ?_
      | refine CH.cons rfl ?_
      | refine CH.nil ?_
      | refine CO.consG rfl ?_
      | refine CH.consG rfl ?_
      | refine CG.cons rfl ?_
      | refine CR.cons ?_
      | refine CR.nil ?_
      | refine CG.nil ?_
      | refine CG.consG rfl ?_
      | refine ⟨(rfl : plain _ = true), ?_⟩
      | refine ⟨(rfl : nilOk _ = some _), ?_⟩
      | refine ⟨_, ints_len (by assumption), ?_⟩
      | refine ⟨_, ints_addr (by assumption) (by omega) (by omega), ?_⟩
      | refine ⟨_, ints_load (by assumption) (by omega) (by omega), ?_⟩
      | refine ⟨(⟨by omega, by omega⟩ : inI64 _), ?_⟩
      | refine ⟨_, fun tm ha => step1_max rfl (ev_tmp ha rfl) (ev_tmp ha rfl), ?_⟩
      | refine ⟨_, fun tm ha => step1_min rfl (ev_tmp ha rfl) (ev_tmp ha rfl), ?_⟩
      | (refine ⟨fun _ => ?_, fun _ => ?_⟩ <;> first | (exfalso; omega) | skip)
      | fail
    exact ⟨rfl, rfl, rfl⟩
set_option maxRecDepth 100000 in
theorem contF_spec {B : Nat} {H : Heap} {v : Value} {xs : List Int} (hB : B ≤ H.n) (hv : Ints H v xs) (hn : xs.length < 1000000) (hm : ∀ j, j < xs.length → xs[j]! = -1) :
    CallB Try.prog B 65 [v, .func (.func 66) #[] #[]] H (fun r H' => r = .bool false ∧ H' = H) := by
  refine CV.enter callees false rfl Try.func65 rfl (by kernel_rfl) (Nat.le_of_ble_eq_true rfl) hB ?_
  repeat' first
    | refine CO.cons rfl ?_
    | refine CO.nil ?_
    | refine CV.seq ?_
    | refine CV.region callees ?_
    | refine CV.cond ?_
    | refine CV.block ?_
    | refine CV.skip ?_
    | refine CV.exit ?_
    | refine CV.ret ?_
    | refine CV.scope ?_
    | refine CV.draw callees rfl ?_
    | refine CH.cons rfl ?_
    | refine CH.nil ?_
    | refine CO.consG rfl ?_
    | refine CH.consG rfl ?_
    | refine CG.cons rfl ?_
    | refine CR.cons ?_
    | refine CR.nil ?_
    | refine CG.nil ?_
    | refine CG.consG rfl ?_
    | refine ⟨(rfl : plain _ = true), ?_⟩
    | refine ⟨(rfl : nilOk _ = some _), ?_⟩
    | refine ⟨_, ints_len (by assumption), ?_⟩
    | refine ⟨_, ints_addr (by assumption) (by omega) (by omega), ?_⟩
    | refine ⟨_, ints_load (by assumption) (by omega) (by omega), ?_⟩
    | refine ⟨(⟨by omega, by omega⟩ : inI64 _), ?_⟩
    | refine ⟨_, fun tm ha => step1_max rfl (ev_tmp ha rfl) (ev_tmp ha rfl), ?_⟩
    | refine ⟨_, fun tm ha => step1_min rfl (ev_tmp ha rfl) (ev_tmp ha rfl), ?_⟩
    | (refine ⟨fun _ => ?_, fun _ => ?_⟩ <;> first | (exfalso; omega) | skip)
    | fail
  refine (indexF_spec hB hv hn hm).mono ?_
  rintro r H1 ⟨rfl, rfl⟩
  repeat' first
    | refine CO.cons rfl ?_
    | refine CO.nil ?_
    | refine CV.seq ?_
    | refine CV.region callees ?_
    | refine CV.cond ?_
    | refine CV.block ?_
    | refine CV.skip ?_
    | refine CV.exit ?_
    | refine CV.ret ?_
    | refine CV.scope ?_
    | refine CV.draw callees rfl ?_
    | refine CH.cons rfl ?_
    | refine CH.nil ?_
    | refine CO.consG rfl ?_
    | refine CH.consG rfl ?_
    | refine CG.cons rfl ?_
    | refine CR.cons ?_
    | refine CR.nil ?_
    | refine CG.nil ?_
    | refine CG.consG rfl ?_
    | refine ⟨(rfl : plain _ = true), ?_⟩
    | refine ⟨(rfl : nilOk _ = some _), ?_⟩
    | refine ⟨_, ints_len (by assumption), ?_⟩
    | refine ⟨_, ints_addr (by assumption) (by omega) (by omega), ?_⟩
    | refine ⟨_, ints_load (by assumption) (by omega) (by omega), ?_⟩
    | refine ⟨(⟨by omega, by omega⟩ : inI64 _), ?_⟩
    | refine ⟨_, fun tm ha => step1_max rfl (ev_tmp ha rfl) (ev_tmp ha rfl), ?_⟩
    | refine ⟨_, fun tm ha => step1_min rfl (ev_tmp ha rfl) (ev_tmp ha rfl), ?_⟩
    | (refine ⟨fun _ => ?_, fun _ => ?_⟩ <;> first | (exfalso; omega) | skip)
    | fail
  exact ⟨rfl, rfl, rfl⟩
theorem Vt.ansE {t : Tb} (v : Vt t) {i : Nat} (hi : i < t.rs.length) : ansE t.rs[i]! t.pk = 0 := by
  obtain ⟨h1, h2, _⟩ := v.row i hi
  rw [Go.Proofs.Ytcpklnekpdhlmaa.ansE, if_neg (by omega)]
  have : t.rs[i]!.all okN = true := by
    rw [List.all_eq_true]
    intro x hx
    obtain ⟨j, hj, rfl⟩ := List.getElem_of_mem hx
    have := h2 j hj
    rwa [getElem!_pos _ j hj] at this
  rw [this]; rfl
set_option maxHeartbeats 2000000 in
set_option maxRecDepth 100000 in
theorem checkTable_spec {B : Nat} {H : Heap} {t : Tb} {A : Value} {vals : List Value} (hB : B ≤ H.n) (hg : Grid H A vals t.rs) (hv : Vt t) :
    CallB Try.prog B 35 [Tv t A] H (fun r H' => r = .int .i64 0 ∧ Keep H H') := by
  obtain ⟨q1, q2, q3, q4, q5, q6, q7, q8, q9, q10⟩ := hv
  have hv : Vt t := ⟨q1, q2, q3, q4, q5, q6, q7, q8, q9, q10⟩
  refine CV.enter callees false rfl Try.func35 rfl (by kernel_rfl) (Nat.le_of_ble_eq_true rfl) hB ?_
  repeat' first
    | refine CO.cons rfl ?_
    | refine CO.nil ?_
    | refine CV.seq ?_
    | refine CV.region callees ?_
    | refine CV.cond ?_
    | refine CV.block ?_
    | refine CV.skip ?_
    | refine CV.exit ?_
    | refine CV.ret ?_
    | refine CV.scope ?_
    | refine CV.draw callees rfl ?_
    | refine CH.cons rfl ?_
    | refine CH.nil ?_
    | refine CO.consG rfl ?_
    | refine CH.consG rfl ?_
    | refine CG.cons rfl ?_
    | refine CR.cons ?_
    | refine CR.nil ?_
    | refine CG.nil ?_
    | refine CG.consG rfl ?_
    | refine ⟨(rfl : plain _ = true), ?_⟩
    | refine ⟨(rfl : nilOk _ = some _), ?_⟩
    | refine ⟨_, ints_len (by assumption), ?_⟩
    | refine ⟨_, ints_addr (by assumption) (by omega) (by omega), ?_⟩
    | refine ⟨_, ints_load (by assumption) (by omega) (by omega), ?_⟩
    | refine ⟨(⟨by omega, by omega⟩ : inI64 _), ?_⟩
    | refine ⟨_, fun tm ha => step1_max rfl (ev_tmp ha rfl) (ev_tmp ha rfl), ?_⟩
    | refine ⟨_, fun tm ha => step1_min rfl (ev_tmp ha rfl) (ev_tmp ha rfl), ?_⟩
    | (refine ⟨fun _ => ?_, fun _ => ?_⟩ <;> first | (exfalso; omega) | skip)
    | fail
  refine ⟨(by simp only [notTuple]), ?_⟩
  rw [alloc_t hg.oneC.2]
  generalize hs : H.new (Tc t A) = Hs
  have hgt := new_get hs
  have kk := new_keep hs
  have ls := kk.1
  have hgs : Grid Hs A vals t.rs := hg.keep kk
  repeat' first
    | refine CO.cons rfl ?_
    | refine CO.nil ?_
    | refine CV.seq ?_
    | refine CV.region callees ?_
    | refine CV.cond ?_
    | refine CV.block ?_
    | refine CV.skip ?_
    | refine CV.exit ?_
    | refine CV.ret ?_
    | refine CV.scope ?_
    | refine CV.draw callees rfl ?_
    | refine CH.cons rfl ?_
    | refine CH.nil ?_
    | refine CO.consG rfl ?_
    | refine CH.consG rfl ?_
    | refine CG.cons rfl ?_
    | refine CR.cons ?_
    | refine CR.nil ?_
    | refine CG.nil ?_
    | refine CG.consG rfl ?_
    | refine ⟨(rfl : plain _ = true), ?_⟩
    | refine ⟨(rfl : nilOk _ = some _), ?_⟩
    | refine ⟨_, ints_len (by assumption), ?_⟩
    | refine ⟨_, ints_addr (by assumption) (by omega) (by omega), ?_⟩
    | refine ⟨_, ints_load (by assumption) (by omega) (by omega), ?_⟩
    | refine ⟨(⟨by omega, by omega⟩ : inI64 _), ?_⟩
    | refine ⟨_, fun tm ha => step1_max rfl (ev_tmp ha rfl) (ev_tmp ha rfl), ?_⟩
    | refine ⟨_, fun tm ha => step1_min rfl (ev_tmp ha rfl) (ev_tmp ha rfl), ?_⟩
    | (refine ⟨_, addrT (by decide), ?_⟩)
    | (refine ⟨_, cell_load ag3 hgt rfl, ?_⟩)
    | (refine ⟨_, cell_load ag32 hgt rfl, ?_⟩)
    | refine ⟨_, hgs.alen, ?_⟩
    | (refine ⟨fun _ => ?_, fun _ => ?_⟩ <;> first | (exfalso; omega) | skip)
    | fail
  refine CV.loopc ?_
  refine WCv.rounds callees false (α := Nat) (fun i => [(1, .pointer (some ⟨H.n, 0, none⟩)), (43, A), (44, .int .i64 t.rs.length), (45, .int .i64 i)]) (fun i Hz => Hz = Hs ∧ i ≤ t.rs.length) (fun i => t.rs.length - i) (0) (by repeat' first | exact trivial | refine ⟨rfl, ?_⟩ | refine ⟨slot_int (by (try simp only [Int.toNat_natCast]); omega), ?_⟩) ?_ ?_
  · exact ⟨rfl, by omega⟩
  rintro i Hx ⟨rfl, hi⟩ hBx
  by_cases hi2 : i < t.rs.length
  · have hai : Ints Hx vals[(i : Int).toNat]! t.rs[i]! := hgs.at' i hi2
    obtain ⟨r1, r2, r3⟩ := q9 i hi2
    repeat' first
      | refine CO.cons rfl ?_
      | refine CO.nil ?_
      | refine CV.seq ?_
      | refine CV.region callees ?_
      | refine CV.cond ?_
      | refine CV.block ?_
      | refine CV.skip ?_
      | refine CV.exit ?_
      | refine CV.ret ?_
      | refine CV.scope ?_
      | refine CV.draw callees rfl ?_
      | refine CH.cons rfl ?_
      | refine CH.nil ?_
      | refine CO.consG rfl ?_
      | refine CH.consG rfl ?_
      | refine CG.cons rfl ?_
      | refine CR.cons ?_
      | refine CR.nil ?_
      | refine CG.nil ?_
      | refine CG.consG rfl ?_
      | refine ⟨(rfl : plain _ = true), ?_⟩
      | refine ⟨(rfl : nilOk _ = some _), ?_⟩
      | refine ⟨_, ints_len (by assumption), ?_⟩
      | refine ⟨_, ints_addr (by assumption) (by omega) (by omega), ?_⟩
      | refine ⟨_, ints_load (by assumption) (by omega) (by omega), ?_⟩
      | refine ⟨(⟨by omega, by omega⟩ : inI64 _), ?_⟩
      | refine ⟨_, fun tm ha => step1_max rfl (ev_tmp ha rfl) (ev_tmp ha rfl), ?_⟩
      | refine ⟨_, fun tm ha => step1_min rfl (ev_tmp ha rfl) (ev_tmp ha rfl), ?_⟩
      | refine ⟨_, hgs.addr (by omega) (by omega), ?_⟩
      | refine ⟨_, hgs.load (by omega) (by omega), ?_⟩
      | (refine ⟨_, addrT (by decide), ?_⟩)
      | (refine ⟨_, cell_load ag3 hgt rfl, ?_⟩)
      | (refine ⟨fun _ => ?_, fun _ => ?_⟩ <;> first | (exfalso; omega) | skip)
      | fail
    refine (checkAnswer_spec hBx hai (by omega)).mono ?_
    rintro r H1 ⟨rfl, rfl⟩
    rw [hv.ansE hi2]
    repeat' first
      | refine CO.cons rfl ?_
      | refine CO.nil ?_
      | refine CV.seq ?_
      | refine CV.region callees ?_
      | refine CV.cond ?_
      | refine CV.block ?_
      | refine CV.skip ?_
      | refine CV.exit ?_
      | refine CV.ret ?_
      | refine CV.scope ?_
      | refine CV.draw callees rfl ?_
      | refine CH.cons rfl ?_
      | refine CH.nil ?_
      | refine CO.consG rfl ?_
      | refine CH.consG rfl ?_
      | refine CG.cons rfl ?_
      | refine CR.cons ?_
      | refine CR.nil ?_
      | refine CG.nil ?_
      | refine CG.consG rfl ?_
      | refine ⟨(rfl : plain _ = true), ?_⟩
      | refine ⟨(rfl : nilOk _ = some _), ?_⟩
      | refine ⟨_, ints_len (by assumption), ?_⟩
      | refine ⟨_, ints_addr (by assumption) (by omega) (by omega), ?_⟩
      | refine ⟨_, ints_load (by assumption) (by omega) (by omega), ?_⟩
      | refine ⟨(⟨by omega, by omega⟩ : inI64 _), ?_⟩
      | refine ⟨_, fun tm ha => step1_max rfl (ev_tmp ha rfl) (ev_tmp ha rfl), ?_⟩
      | refine ⟨_, fun tm ha => step1_min rfl (ev_tmp ha rfl) (ev_tmp ha rfl), ?_⟩
      | (refine ⟨_, addrT (by decide), ?_⟩)
      | (refine ⟨_, cell_load ag3 hgt rfl, ?_⟩)
      | refine slice_lo hai (by omega) (by omega) ?_
      | (refine ⟨fun _ => ?_, fun _ => ?_⟩ <;> first | (exfalso; omega) | skip)
      | fail
    intro u hu
    repeat' first
      | refine CO.cons rfl ?_
      | refine CO.nil ?_
      | refine CV.seq ?_
      | refine CV.region callees ?_
      | refine CV.cond ?_
      | refine CV.block ?_
      | refine CV.skip ?_
      | refine CV.exit ?_
      | refine CV.ret ?_
      | refine CV.scope ?_
      | refine CV.draw callees rfl ?_
      | refine CH.cons rfl ?_
      | refine CH.nil ?_
      | refine CO.consG rfl ?_
      | refine CH.consG rfl ?_
      | refine CG.cons rfl ?_
      | refine CR.cons ?_
      | refine CR.nil ?_
      | refine CG.nil ?_
      | refine CG.consG rfl ?_
      | refine ⟨(rfl : plain _ = true), ?_⟩
      | refine ⟨(rfl : nilOk _ = some _), ?_⟩
      | refine ⟨_, ints_len (by assumption), ?_⟩
      | refine ⟨_, ints_addr (by assumption) (by omega) (by omega), ?_⟩
      | refine ⟨_, ints_load (by assumption) (by omega) (by omega), ?_⟩
      | refine ⟨(⟨by omega, by omega⟩ : inI64 _), ?_⟩
      | refine ⟨_, fun tm ha => step1_max rfl (ev_tmp ha rfl) (ev_tmp ha rfl), ?_⟩
      | refine ⟨_, fun tm ha => step1_min rfl (ev_tmp ha rfl) (ev_tmp ha rfl), ?_⟩
      | (refine ⟨fun _ => ?_, fun _ => ?_⟩ <;> first | (exfalso; omega) | skip)
      | fail
    refine (contF_spec hBx hu (by rw [List.length_drop]; omega) (fun j hj => ?_)).mono ?_
    · rw [List.length_drop] at hj
      have := r3 (t.ps.toNat + j) (by omega) (by omega)
      rw [getElem!_pos _ j (by rw [List.length_drop]; exact hj), List.getElem_drop]
      rwa [getElem!_pos _ _ (by omega)] at this
    rintro r H2 ⟨rfl, rfl⟩
    repeat' first
      | refine CO.cons rfl ?_
      | refine CO.nil ?_
      | refine CV.seq ?_
      | refine CV.region callees ?_
      | refine CV.cond ?_
      | refine CV.block ?_
      | refine CV.skip ?_
      | refine CV.exit ?_
      | refine CV.ret ?_
      | refine CV.scope ?_
      | refine CV.draw callees rfl ?_
      | refine CH.cons rfl ?_
      | refine CH.nil ?_
      | refine CO.consG rfl ?_
      | refine CH.consG rfl ?_
      | refine CG.cons rfl ?_
      | refine CR.cons ?_
      | refine CR.nil ?_
      | refine CG.nil ?_
      | refine CG.consG rfl ?_
      | refine ⟨(rfl : plain _ = true), ?_⟩
      | refine ⟨(rfl : nilOk _ = some _), ?_⟩
      | refine ⟨_, ints_len (by assumption), ?_⟩
      | refine ⟨_, ints_addr (by assumption) (by omega) (by omega), ?_⟩
      | refine ⟨_, ints_load (by assumption) (by omega) (by omega), ?_⟩
      | refine ⟨(⟨by omega, by omega⟩ : inI64 _), ?_⟩
      | refine ⟨_, fun tm ha => step1_max rfl (ev_tmp ha rfl) (ev_tmp ha rfl), ?_⟩
      | refine ⟨_, fun tm ha => step1_min rfl (ev_tmp ha rfl) (ev_tmp ha rfl), ?_⟩
      | (refine ⟨fun _ => ?_, fun _ => ?_⟩ <;> first | (exfalso; omega) | skip)
      | fail
    refine ⟨(i + 1), (by repeat' first | exact trivial | refine ⟨rfl, ?_⟩ | refine ⟨slot_int (by (try simp only [Int.toNat_natCast]); omega), ?_⟩), (by (try dsimp only); omega), ?_⟩
    exact ⟨rfl, by omega⟩
  · repeat' first
      | refine CO.cons rfl ?_
      | refine CO.nil ?_
      | refine CV.seq ?_
      | refine CV.region callees ?_
      | refine CV.cond ?_
      | refine CV.block ?_
      | refine CV.skip ?_
      | refine CV.exit ?_
      | refine CV.ret ?_
      | refine CV.scope ?_
      | refine CV.draw callees rfl ?_
      | refine CH.cons rfl ?_
      | refine CH.nil ?_
      | refine CO.consG rfl ?_
      | refine CH.consG rfl ?_
      | refine CG.cons rfl ?_
      | refine CR.cons ?_
      | refine CR.nil ?_
      | refine CG.nil ?_
      | refine CG.consG rfl ?_
      | refine ⟨(rfl : plain _ = true), ?_⟩
      | refine ⟨(rfl : nilOk _ = some _), ?_⟩
      | refine ⟨_, ints_len (by assumption), ?_⟩
      | refine ⟨_, ints_addr (by assumption) (by omega) (by omega), ?_⟩
      | refine ⟨_, ints_load (by assumption) (by omega) (by omega), ?_⟩
      | refine ⟨(⟨by omega, by omega⟩ : inI64 _), ?_⟩
      | refine ⟨_, fun tm ha => step1_max rfl (ev_tmp ha rfl) (ev_tmp ha rfl), ?_⟩
      | refine ⟨_, fun tm ha => step1_min rfl (ev_tmp ha rfl) (ev_tmp ha rfl), ?_⟩
      | (refine ⟨_, addrT (by decide), ?_⟩)
      | (refine ⟨_, cell_load ag3 hgt rfl, ?_⟩)
      | (refine ⟨fun _ => ?_, fun _ => ?_⟩ <;> first | (exfalso; omega) | skip)
      | fail
    all_goals exact ⟨rfl, rfl, kk⟩
end Go.Proofs.Ytcpklnekpdhlmaa



/- A table at work. -/
namespace Go.AI
section
variable {P : Program} {H : Heap} {t e : TypeId} {z : Value} {by' : Nat}
theorem make_rowW (ht : P.underlying t = some (.slice e)) (h1 : oneBB P e = some (z, by')) (hb : by' ≤ 1000) (n : Nat) (hn : n ≤ 1000000) :
    amakeSlice P H t (.int .i64 n) (.int .i64 n) = some (.slice (some ⟨H.n, 0, none⟩) n 0, H.new (.cells (List.replicate n z) e 2), H.n) := by
  obtain ⟨info, hi, hz, hs, hc, hsc, hby⟩ := oneBB_spec h1
  have hmul : info.bytes * n ≤ 1000 * 1000000 := Nat.mul_le_mul (by omega) hn
  simp only [amakeSlice, ht, hi, hz]
  rw [if_pos (by
    refine ⟨by omega, by omega, by omega, by have h := Int.ofNat_le.2 hmul; rw [Int.natCast_mul] at h; omega, by omega, by rw [hc, hs]; rfl, by rw [hc]; simp [hsc]⟩)]
  simp only [anew, Int.toNat_natCast, hs, Nat.mul_one, hc]
  congr 5
  apply List.ext_getElem
  · simp [zeros]
  · intro i h1 h2; simp [zeros, Nat.mod_one]
end
end Go.AI
namespace Go.Proofs.Ytcpklnekpdhlmaa
open Go.AI
/-- A table at work: its rows are one's own, and apart. -/
structure Work (H : Heap) (bw : Nat) (A : Value) (vals : List Value) (t : Tb) (B : Nat) : Prop where
  get : H.get bw = some (.cells (Tl t A) 98 1)
  lo : B ≤ bw
  lt : bw < H.n
  own : OwnG H A vals t.rs B
  aw : blkOf A ≠ some bw
  vw : ∀ i : Nat, i < t.rs.length → blkOf vals[i]! ≠ some bw
  sep : ∀ i j : Nat, i < t.rs.length → j < t.rs.length → i ≠ j → Apart vals[i]! vals[j]!
theorem foW : fieldOff Try.prog 98 0 = some (0, 4) := by kernel_rfl
theorem addrW {b : Nat} : afieldAddr Try.prog 98 (.pointer (some ⟨b, 0, none⟩)) 0 = some (.pointer (some ⟨b, 0, none⟩)) := field_addr foW (by decide)
theorem buildW {p q s : Int} {x : Option Addr} {n c : Nat} : abuild Try.prog 98 [(0, .agg #[.int .i64 p, .int .i64 q, .int .i64 s, .slice x n c])] = some (.agg #[.int .i64 p, .int .i64 q, .int .i64 s, .slice x n c]) := by kernel_rfl
theorem Row.shape {H : Heap} {v : Value} {vs : List Value} (h : Row H v vs) : ∃ x n c, v = .slice x n c := by
  rcases h with ⟨rfl, _⟩ | ⟨rfl, _⟩ | ⟨_, _, _, _, _, _, rfl, _⟩
  · exact ⟨_, _, _, rfl⟩
  · exact ⟨_, _, _, rfl⟩
  · exact ⟨_, _, _, rfl⟩
theorem cell_store {H : Heap} {b i : Nat} {cs : List Value} {e t : TypeId} {k : Nat} {v : Value} (hs : sizeB Try.prog t = some 1) (hg : H.get b = some (.cells cs e (k + 1))) (hi : i < cs.length) (hv : oneC v = true) : astore Try.prog t H v (.pointer (some ⟨b, i, none⟩)) = some (H.set b (.cells (cs.set i v) e (k + 1)), b) := store_row hs hg hi hv
theorem clone_ints {B : Nat} {v : Value} {H : Heap} {xs : List Int} (hB : B ≤ H.n) (hv : Ints H v xs) (hn : xs.length < 1000000) :
    CallB Try.prog B 84 [v] H (fun r H' => Own 3 H' r (xs.map VI) H.n ∧ Keep H H') := clone_spec hB hv hn
set_option maxHeartbeats 2000000 in
set_option maxRecDepth 100000 in
theorem begun_spec {B : Nat} {H : Heap} {t : Tb} {A : Value} {vals : List Value} (hB : B ≤ H.n) (hg : Grid H A vals t.rs) (hv : Vt t) :
    CallB Try.prog B 62 [Tv t A] H (fun r H' => (∃ bw A' vals', r = .pointer (some ⟨bw, 0, none⟩) ∧ Work H' bw A' vals' t H.n) ∧ Keep H H') := by
  have q7 := hv.len0
  have q8 := hv.len9
  have q9 := hv.row
  have q2 := hv.pk9
  obtain ⟨x, n, c, rfl⟩ := Row.shape hg.row
  refine CV.enter callees false rfl Try.func62 rfl (by kernel_rfl) (Nat.le_of_ble_eq_true rfl) hB ?_
  repeat' first
    | refine CO.cons rfl ?_
    | refine CO.nil ?_
    | refine CV.seq ?_
    | refine CV.region callees ?_
    | refine CV.cond ?_
    | refine CV.block ?_
    | refine CV.skip ?_
    | refine CV.exit ?_
    | refine CV.ret ?_
    | refine CV.scope ?_
    | refine CV.draw callees rfl ?_
    | refine CH.cons rfl ?_
    | refine CH.nil ?_
    | refine CO.consG rfl ?_
    | refine CH.consG rfl ?_
    | refine CG.cons rfl ?_
    | refine CR.cons ?_
    | refine CR.nil ?_
    | refine CG.nil ?_
    | refine CG.consG rfl ?_
    | refine ⟨(rfl : plain _ = true), ?_⟩
    | refine ⟨(rfl : nilOk _ = some _), ?_⟩
    | refine ⟨_, ints_len (by assumption), ?_⟩
    | refine ⟨_, ints_addr (by assumption) (by omega) (by omega), ?_⟩
    | refine ⟨_, ints_load (by assumption) (by omega) (by omega), ?_⟩
    | refine ⟨(⟨by omega, by omega⟩ : inI64 _), ?_⟩
    | refine ⟨_, fun tm ha => step1_max rfl (ev_tmp ha rfl) (ev_tmp ha rfl), ?_⟩
    | refine ⟨_, fun tm ha => step1_min rfl (ev_tmp ha rfl) (ev_tmp ha rfl), ?_⟩
    | (refine ⟨fun _ => ?_, fun _ => ?_⟩ <;> first | (exfalso; omega) | skip)
    | fail
  refine ⟨(rfl : notTuple _ = true), ?_⟩
  rw [alloc_t rfl]
  generalize hs : H.new (Tc t (.slice x n c)) = Hs
  have hgt := new_get hs
  have k1 := new_keep hs
  have n1 := new_n hs
  have hgs : Grid Hs (.slice x n c) vals t.rs := hg.keep k1
  repeat' first
    | refine CO.cons rfl ?_
    | refine CO.nil ?_
    | refine CV.seq ?_
    | refine CV.region callees ?_
    | refine CV.cond ?_
    | refine CV.block ?_
    | refine CV.skip ?_
    | refine CV.exit ?_
    | refine CV.ret ?_
    | refine CV.scope ?_
    | refine CV.draw callees rfl ?_
    | refine CH.cons rfl ?_
    | refine CH.nil ?_
    | refine CO.consG rfl ?_
    | refine CH.consG rfl ?_
    | refine CG.cons rfl ?_
    | refine CR.cons ?_
    | refine CR.nil ?_
    | refine CG.nil ?_
    | refine CG.consG rfl ?_
    | refine ⟨(rfl : plain _ = true), ?_⟩
    | refine ⟨(rfl : nilOk _ = some _), ?_⟩
    | refine ⟨_, ints_len (by assumption), ?_⟩
    | refine ⟨_, ints_addr (by assumption) (by omega) (by omega), ?_⟩
    | refine ⟨_, ints_load (by assumption) (by omega) (by omega), ?_⟩
    | refine ⟨(⟨by omega, by omega⟩ : inI64 _), ?_⟩
    | refine ⟨_, fun tm ha => step1_max rfl (ev_tmp ha rfl) (ev_tmp ha rfl), ?_⟩
    | refine ⟨_, fun tm ha => step1_min rfl (ev_tmp ha rfl) (ev_tmp ha rfl), ?_⟩
    | (refine ⟨_, loadT hgt, ?_⟩)
    | (refine ⟨_, buildW, ?_⟩)
    | (refine ⟨fun _ => ?_, fun _ => ?_⟩ <;> first | (exfalso; omega) | skip)
    | fail
  refine ⟨(rfl : notTuple _ = true), ?_⟩
  rw [show anew Hs (Value.cells (Value.agg #[.int .i64 t.pk, .int .i64 t.ps, .int .i64 t.st, .slice x n c])).toList 98 1 = Hs.new (.cells (Tl t (.slice x n c)) 98 1) from rfl]
  generalize hs2 : Hs.new (.cells (Tl t (.slice x n c)) 98 1) = Hw
  have hgw := new_get hs2
  have k2 := new_keep hs2
  have n2 := new_n hs2
  obtain ⟨bw, hbw⟩ : ∃ bw, Hs.n = bw := ⟨_, rfl⟩
  rw [hbw] at hgw n2 ⊢
  have hgt2 : Hw.get H.n = some (Tc t (.slice x n c)) := by rw [k2.2 _ (by omega)]; exact hgt
  have hgs2 : Grid Hw (.slice x n c) vals t.rs := hgs.keep k2
  repeat' first
    | refine CO.cons rfl ?_
    | refine CO.nil ?_
    | refine CV.seq ?_
    | refine CV.region callees ?_
    | refine CV.cond ?_
    | refine CV.block ?_
    | refine CV.skip ?_
    | refine CV.exit ?_
    | refine CV.ret ?_
    | refine CV.scope ?_
    | refine CV.draw callees rfl ?_
    | refine CH.cons rfl ?_
    | refine CH.nil ?_
    | refine CO.consG rfl ?_
    | refine CH.consG rfl ?_
    | refine CG.cons rfl ?_
    | refine CR.cons ?_
    | refine CR.nil ?_
    | refine CG.nil ?_
    | refine CG.consG rfl ?_
    | refine ⟨(rfl : plain _ = true), ?_⟩
    | refine ⟨(rfl : nilOk _ = some _), ?_⟩
    | refine ⟨_, ints_len (by assumption), ?_⟩
    | refine ⟨_, ints_addr (by assumption) (by omega) (by omega), ?_⟩
    | refine ⟨_, ints_load (by assumption) (by omega) (by omega), ?_⟩
    | refine ⟨(⟨by omega, by omega⟩ : inI64 _), ?_⟩
    | refine ⟨_, fun tm ha => step1_max rfl (ev_tmp ha rfl) (ev_tmp ha rfl), ?_⟩
    | refine ⟨_, fun tm ha => step1_min rfl (ev_tmp ha rfl) (ev_tmp ha rfl), ?_⟩
    | (refine ⟨_, addrT (by decide), ?_⟩)
    | (refine ⟨_, cell_load ag32 hgt2 rfl, ?_⟩)
    | refine ⟨_, hgs2.alen, ?_⟩
    | (refine ⟨_, _, make_rowW un32 one22 (by omega) t.rs.length (by omega), ?_⟩)
    | (refine ⟨fun _ => ?_, fun _ => ?_⟩ <;> first | (exfalso; omega) | skip)
    | fail
  have hown : Own 22 (Hw.new (.cells (List.replicate t.rs.length (.slice none 0 0)) 22 2)) (.slice (some ⟨Hw.n, 0, none⟩) t.rs.length 0) (List.replicate t.rs.length (.slice none 0 0)) H.n :=
    .inr ⟨Hw.n, by simp, by omega, Nat.lt_succ_self _, by rw [Heap.get_new_eq]⟩
  generalize hs3 : Hw.new (.cells (List.replicate t.rs.length (.slice none 0 0)) 22 2) = H3 at hown ⊢
  have k3 := new_keep hs3
  have n3 := new_n hs3
  obtain ⟨ba, hba⟩ : ∃ ba, Hw.n = ba := ⟨_, rfl⟩
  rw [hba] at hown n3 ⊢
  have hblk : blkOf (Value.slice (some ⟨ba, 0, none⟩) t.rs.length 0) = some ba := rfl
  generalize hA' : Value.slice (some ⟨ba, 0, none⟩) t.rs.length 0 = A' at hown hblk ⊢
  have hoA : oneC A' = true := by rw [← hA']; rfl
  have hgw3 : H3.get bw = some (.cells (Tl t (.slice x n c)) 98 1) := by rw [k3.2 _ (by omega)]; exact hgw
  repeat' first
    | refine CO.cons rfl ?_
    | refine CO.nil ?_
    | refine CV.seq ?_
    | refine CV.region callees ?_
    | refine CV.cond ?_
    | refine CV.block ?_
    | refine CV.skip ?_
    | refine CV.exit ?_
    | refine CV.ret ?_
    | refine CV.scope ?_
    | refine CV.draw callees rfl ?_
    | refine CH.cons rfl ?_
    | refine CH.nil ?_
    | refine CO.consG rfl ?_
    | refine CH.consG rfl ?_
    | refine CG.cons rfl ?_
    | refine CR.cons ?_
    | refine CR.nil ?_
    | refine CG.nil ?_
    | refine CG.consG rfl ?_
    | refine ⟨(rfl : plain _ = true), ?_⟩
    | refine ⟨(rfl : nilOk _ = some _), ?_⟩
    | refine ⟨_, ints_len (by assumption), ?_⟩
    | refine ⟨_, ints_addr (by assumption) (by omega) (by omega), ?_⟩
    | refine ⟨_, ints_load (by assumption) (by omega) (by omega), ?_⟩
    | refine ⟨(⟨by omega, by omega⟩ : inI64 _), ?_⟩
    | refine ⟨_, fun tm ha => step1_max rfl (ev_tmp ha rfl) (ev_tmp ha rfl), ?_⟩
    | refine ⟨_, fun tm ha => step1_min rfl (ev_tmp ha rfl) (ev_tmp ha rfl), ?_⟩
    | (refine ⟨_, addrW, ?_⟩)
    | (refine ⟨_, addrT (by decide), ?_⟩)
    | (refine ⟨fun _ => ?_, fun _ => ?_⟩ <;> first | (exfalso; omega) | skip)
    | fail
  refine ⟨_, _, cell_store sz32 hgw3 (Nat.le_of_ble_eq_true rfl) hoA, by omega, ?_⟩
  generalize hs4 : H3.set bw _ = H4
  have hg4 : H4.get bw = some (.cells (Tl t A') 98 1) := set_get hs4
  have n4 := set_n hs4
  have k4 : Keep H H4 := keep_put ((k1.trans k2).trans k3) (by omega) (set_old hs4) n4
  have x4 : KeepX bw H3 H4 := by rw [← hs4]; exact KeepX.set _ _
  have ho4 := hown.keepX x4 hgw3
  have hg4A : Grid H4 (.slice x n c) vals t.rs := hg.keep k4
  have hgt4 : H4.get H.n = some (Tc t (.slice x n c)) := by rw [set_old hs4 _ (by omega), k3.2 _ (by omega)]; exact hgt2
  repeat' first
    | refine CO.cons rfl ?_
    | refine CO.nil ?_
    | refine CV.seq ?_
    | refine CV.region callees ?_
    | refine CV.cond ?_
    | refine CV.block ?_
    | refine CV.skip ?_
    | refine CV.exit ?_
    | refine CV.ret ?_
    | refine CV.scope ?_
    | refine CV.draw callees rfl ?_
    | refine CH.cons rfl ?_
    | refine CH.nil ?_
    | refine CO.consG rfl ?_
    | refine CH.consG rfl ?_
    | refine CG.cons rfl ?_
    | refine CR.cons ?_
    | refine CR.nil ?_
    | refine CG.nil ?_
    | refine CG.consG rfl ?_
    | refine ⟨(rfl : plain _ = true), ?_⟩
    | refine ⟨(rfl : nilOk _ = some _), ?_⟩
    | refine ⟨_, ints_len (by assumption), ?_⟩
    | refine ⟨_, ints_addr (by assumption) (by omega) (by omega), ?_⟩
    | refine ⟨_, ints_load (by assumption) (by omega) (by omega), ?_⟩
    | refine ⟨(⟨by omega, by omega⟩ : inI64 _), ?_⟩
    | refine ⟨_, fun tm ha => step1_max rfl (ev_tmp ha rfl) (ev_tmp ha rfl), ?_⟩
    | refine ⟨_, fun tm ha => step1_min rfl (ev_tmp ha rfl) (ev_tmp ha rfl), ?_⟩
    | (refine ⟨_, addrT (by decide), ?_⟩)
    | (refine ⟨_, cell_load ag32 hgt4 rfl, ?_⟩)
    | refine ⟨_, hg4A.alen, ?_⟩
    | (refine ⟨fun _ => ?_, fun _ => ?_⟩ <;> first | (exfalso; omega) | skip)
    | fail
  refine CV.loopc ?_
  refine WCv.rounds callees false (α := List Value × Nat) (fun (ws, i) => [(3, .pointer (some ⟨bw, 0, none⟩)), (18, .slice x n c), (19, .int .i64 t.rs.length), (20, .int .i64 i)]) (fun (ws, i) Hz => i ≤ t.rs.length ∧ ws.length = t.rs.length ∧ Own 22 Hz A' ws H.n ∧ Hz.get bw = some (.cells (Tl t A') 98 1) ∧ Keep H Hz ∧ H4.n ≤ Hz.n ∧ (∀ a : Nat, a < i → Own 3 Hz ws[a]! (t.rs[a]!.map VI) H.n ∧ Apart ws[a]! A' ∧ blkOf ws[a]! ≠ some bw) ∧ (∀ a b : Nat, a < i → b < i → a ≠ b → Apart ws[a]! ws[b]!)) (fun (ws, i) => t.rs.length - i) (List.replicate t.rs.length (.slice none 0 0), 0) (by repeat' first | exact trivial | refine ⟨rfl, ?_⟩ | refine ⟨slot_int (by (try simp only [Int.toNat_natCast]); omega), ?_⟩) ?_ ?_
  · exact ⟨by omega, by simp, ho4, hg4, k4, Nat.le_refl _, fun a ha => by omega, fun a b ha => by omega⟩
  rintro ⟨ws, i⟩ Hx ⟨hi, lw, hoA2, hgx, kx, lx, hro, hsep⟩ hBx
  have hgA : Grid Hx (.slice x n c) vals t.rs := hg.keep kx
  by_cases hi2 : i < t.rs.length
  · have hai : Ints Hx vals[(i : Int).toNat]! t.rs[i]! := hgA.at' i hi2
    obtain ⟨r1, r2, r3⟩ := q9 i hi2
    repeat' first
      | refine CO.cons rfl ?_
      | refine CO.nil ?_
      | refine CV.seq ?_
      | refine CV.region callees ?_
      | refine CV.cond ?_
      | refine CV.block ?_
      | refine CV.skip ?_
      | refine CV.exit ?_
      | refine CV.ret ?_
      | refine CV.scope ?_
      | refine CV.draw callees rfl ?_
      | refine CH.cons rfl ?_
      | refine CH.nil ?_
      | refine CO.consG rfl ?_
      | refine CH.consG rfl ?_
      | refine CG.cons rfl ?_
      | refine CR.cons ?_
      | refine CR.nil ?_
      | refine CG.nil ?_
      | refine CG.consG rfl ?_
      | refine ⟨(rfl : plain _ = true), ?_⟩
      | refine ⟨(rfl : nilOk _ = some _), ?_⟩
      | refine ⟨_, ints_len (by assumption), ?_⟩
      | refine ⟨_, ints_addr (by assumption) (by omega) (by omega), ?_⟩
      | refine ⟨_, ints_load (by assumption) (by omega) (by omega), ?_⟩
      | refine ⟨(⟨by omega, by omega⟩ : inI64 _), ?_⟩
      | refine ⟨_, fun tm ha => step1_max rfl (ev_tmp ha rfl) (ev_tmp ha rfl), ?_⟩
      | refine ⟨_, fun tm ha => step1_min rfl (ev_tmp ha rfl) (ev_tmp ha rfl), ?_⟩
      | refine ⟨_, hgA.addr (by omega) (by omega), ?_⟩
      | refine ⟨_, hgA.load (by omega) (by omega), ?_⟩
      | refine CV.tl callees rfl [0, 1, 2, 3, 4, 5, 6, 7, 8] (by kernel_rfl) ?_
      | (refine ⟨_, addrW, ?_⟩)
      | (refine ⟨_, addrT (by decide), ?_⟩)
      | (refine ⟨_, cell_load ag32 hgx rfl, ?_⟩)
      | (refine ⟨fun _ => ?_, fun _ => ?_⟩ <;> first | (exfalso; omega) | skip)
      | fail
    refine (clone_ints (Nat.le_refl _) hai (by omega)).mono ?_
    rintro u H5 ⟨hu, k5⟩
    have l5 := k5.1
    have hoA5 := hoA2.keep k5
    repeat' first
      | refine CO.cons rfl ?_
      | refine CO.nil ?_
      | refine CV.seq ?_
      | refine CV.region callees ?_
      | refine CV.cond ?_
      | refine CV.block ?_
      | refine CV.skip ?_
      | refine CV.exit ?_
      | refine CV.ret ?_
      | refine CV.scope ?_
      | refine CV.draw callees rfl ?_
      | refine CH.cons rfl ?_
      | refine CH.nil ?_
      | refine CO.consG rfl ?_
      | refine CH.consG rfl ?_
      | refine CG.cons rfl ?_
      | refine CR.cons ?_
      | refine CR.nil ?_
      | refine CG.nil ?_
      | refine CG.consG rfl ?_
      | refine ⟨(rfl : plain _ = true), ?_⟩
      | refine ⟨(rfl : nilOk _ = some _), ?_⟩
      | refine ⟨_, ints_len (by assumption), ?_⟩
      | refine ⟨_, ints_addr (by assumption) (by omega) (by omega), ?_⟩
      | refine ⟨_, ints_load (by assumption) (by omega) (by omega), ?_⟩
      | refine ⟨(⟨by omega, by omega⟩ : inI64 _), ?_⟩
      | refine ⟨_, fun tm ha => step1_max rfl (ev_tmp ha rfl) (ev_tmp ha rfl), ?_⟩
      | refine ⟨_, fun tm ha => step1_min rfl (ev_tmp ha rfl) (ev_tmp ha rfl), ?_⟩
      | refine ⟨_, Row.addr hoA5.row un32 sz22 (by omega) (by rw [lw]; omega), ?_⟩
      | (refine ⟨fun _ => ?_, fun _ => ?_⟩ <;> first | (exfalso; omega) | skip)
      | fail
    rw [show ((i : Int)).toNat = i from rfl]
    refine store_ask sz22 hoA5 (by omega) (by omega) hu.row.oneC.1 ?_
    intro H6 hoA6 kb6
    have l6 := kb6.le
    have kb : KeepBut A' Hx H6 := (k5.but A').trans kb6
    have huA : Apart u A' := fun d hd hd2 => by have h1 := (hu.lt hd).1; have h2 := (hoA2.lt hd2).2; omega
    repeat' first
      | refine CO.cons rfl ?_
      | refine CO.nil ?_
      | refine CV.seq ?_
      | refine CV.region callees ?_
      | refine CV.cond ?_
      | refine CV.block ?_
      | refine CV.skip ?_
      | refine CV.exit ?_
      | refine CV.ret ?_
      | refine CV.scope ?_
      | refine CV.draw callees rfl ?_
      | refine CH.cons rfl ?_
      | refine CH.nil ?_
      | refine CO.consG rfl ?_
      | refine CH.consG rfl ?_
      | refine CG.cons rfl ?_
      | refine CR.cons ?_
      | refine CR.nil ?_
      | refine CG.nil ?_
      | refine CG.consG rfl ?_
      | refine ⟨(rfl : plain _ = true), ?_⟩
      | refine ⟨(rfl : nilOk _ = some _), ?_⟩
      | refine ⟨_, ints_len (by assumption), ?_⟩
      | refine ⟨_, ints_addr (by assumption) (by omega) (by omega), ?_⟩
      | refine ⟨_, ints_load (by assumption) (by omega) (by omega), ?_⟩
      | refine ⟨(⟨by omega, by omega⟩ : inI64 _), ?_⟩
      | refine ⟨_, fun tm ha => step1_max rfl (ev_tmp ha rfl) (ev_tmp ha rfl), ?_⟩
      | refine ⟨_, fun tm ha => step1_min rfl (ev_tmp ha rfl) (ev_tmp ha rfl), ?_⟩
      | (refine ⟨fun _ => ?_, fun _ => ?_⟩ <;> first | (exfalso; omega) | skip)
      | fail
    refine ⟨(ws.set i u, i + 1), (by repeat' first | exact trivial | refine ⟨rfl, ?_⟩ | refine ⟨slot_int (by (try simp only [Int.toNat_natCast]); omega), ?_⟩), (by (try dsimp only); omega), ?_⟩
    have hat : ∀ a, a < ws.length → (ws.set i u)[a]! = if i = a then u else ws[a]! := fun a ha => by
      rw [getElem!_pos _ a (by rw [List.length_set]; exact ha), List.getElem_set, getElem!_pos ws a ha]
    refine ⟨by omega, by rw [List.length_set]; exact lw, hoA6, ?_, kb6.keep (kx.trans k5) (fun d hd => (hoA2.lt hd).1), by omega, fun a ha => ?_, fun a b ha hb hab => ?_⟩
    · rw [kb6.get bw (by omega) (fun h => by rw [hblk] at h; cases h; omega), k5.2 bw (by omega)]; exact hgx
    · rw [hat a (by omega)]
      by_cases e : i = a
      · subst e
        rw [if_pos rfl]
        exact ⟨(hu.low kx.1).keepBut kb6 huA, huA, fun h => by have := (hu.lt h).1; omega⟩
      · rw [if_neg e]
        obtain ⟨g1, g2, g3⟩ := hro a (by omega)
        exact ⟨g1.keepBut kb g2, g2, g3⟩
    · rw [hat a (by omega), hat b (by omega)]
      by_cases e : i = a
      · rw [if_pos e, if_neg (by omega)]
        intro d hd hd2
        have h1 := (hu.lt hd).1
        have h2 := ((hro b (by omega)).1.lt hd2).2
        omega
      · rw [if_neg e]
        by_cases e2 : i = b
        · rw [if_pos e2]
          intro d hd hd2
          have h1 := (hu.lt hd2).1
          have h2 := ((hro a (by omega)).1.lt hd).2
          omega
        · rw [if_neg e2]; exact hsep a b (by omega) (by omega) hab
  · have hil : i = t.rs.length := by omega
    subst hil
    repeat' first
      | refine CO.cons rfl ?_
      | refine CO.nil ?_
      | refine CV.seq ?_
      | refine CV.region callees ?_
      | refine CV.cond ?_
      | refine CV.block ?_
      | refine CV.skip ?_
      | refine CV.exit ?_
      | refine CV.ret ?_
      | refine CV.scope ?_
      | refine CV.draw callees rfl ?_
      | refine CH.cons rfl ?_
      | refine CH.nil ?_
      | refine CO.consG rfl ?_
      | refine CH.consG rfl ?_
      | refine CG.cons rfl ?_
      | refine CR.cons ?_
      | refine CR.nil ?_
      | refine CG.nil ?_
      | refine CG.consG rfl ?_
      | refine ⟨(rfl : plain _ = true), ?_⟩
      | refine ⟨(rfl : nilOk _ = some _), ?_⟩
      | refine ⟨_, ints_len (by assumption), ?_⟩
      | refine ⟨_, ints_addr (by assumption) (by omega) (by omega), ?_⟩
      | refine ⟨_, ints_load (by assumption) (by omega) (by omega), ?_⟩
      | refine ⟨(⟨by omega, by omega⟩ : inI64 _), ?_⟩
      | refine ⟨_, fun tm ha => step1_max rfl (ev_tmp ha rfl) (ev_tmp ha rfl), ?_⟩
      | refine ⟨_, fun tm ha => step1_min rfl (ev_tmp ha rfl) (ev_tmp ha rfl), ?_⟩
      | (refine ⟨fun _ => ?_, fun _ => ?_⟩ <;> first | (exfalso; omega) | skip)
      | fail
    exact ⟨rfl, ⟨bw, A', ws, rfl, ⟨hgx, by omega, by omega, ⟨hoA2, lw, fun i hi => (hro i hi).1, fun i hi => (hro i hi).2.1⟩, fun h => by rw [hblk] at h; cases h; omega, fun i hi => (hro i hi).2.2, hsep⟩⟩, kx⟩
end Go.Proofs.Ytcpklnekpdhlmaa



/- A deed of writing, at a table at work. -/
namespace Go.Proofs.Ytcpklnekpdhlmaa
open Go.AI
abbrev Dl (d : Dd) : List Value := [.int .i64 d.kd, .int .i64 d.gs, .int .i64 d.pc, .int .i64 d.nm]
abbrev Dv (d : Dd) : Value := .agg #[.int .i64 d.kd, .int .i64 d.gs, .int .i64 d.pc, .int .i64 d.nm]
abbrev Dc (d : Dd) : AObj := .cells (Dl d) 54 1
theorem foD0 : fieldOff Try.prog 54 0 = some (0, 1) := by kernel_rfl
theorem foD1 : fieldOff Try.prog 54 1 = some (1, 1) := by kernel_rfl
theorem foD2 : fieldOff Try.prog 54 2 = some (2, 1) := by kernel_rfl
theorem foD3 : fieldOff Try.prog 54 3 = some (3, 1) := by kernel_rfl
theorem foD (i : Nat) (hi : i < 4) : fieldOff Try.prog 54 i = some (i, 1) := by
  match i, hi with
  | 0, _ => exact foD0
  | 1, _ => exact foD1
  | 2, _ => exact foD2
  | 3, _ => exact foD3
theorem addrD {b i : Nat} (hi : i < 4) : afieldAddr Try.prog 54 (.pointer (some ⟨b, 0, none⟩)) i = some (.pointer (some ⟨b, i, none⟩)) := by
  rw [field_addr (foD i hi) (by decide), Nat.zero_add]
theorem agD : isAggB Try.prog 54 = some true := by kernel_rfl
theorem szD : sizeB Try.prog 54 = some 4 := by kernel_rfl
theorem loadD {H : Heap} {b : Nat} {d : Dd} (hg : H.get b = some (Dc d)) : aload Try.prog 54 H (.pointer (some ⟨b, 0, none⟩)) = some (Dv d) := by
  simp [aload, hg, agD, szD]
theorem alloc_d {H : Heap} {d : Dd} : anew H (Value.cells (Dv d)).toList 54 1 = H.new (Dc d) := rfl
/-- Nothing that is not the table's is changed. -/
structure KeepW (H H' : Heap) (bw : Nat) (vals : List Value) (m : Nat) : Prop where
  le : H.n ≤ H'.n
  get : ∀ c, c < H.n → c ≠ bw → (∀ i : Nat, i < m → blkOf vals[i]! ≠ some c) → H'.get c = H.get c
theorem keep_w {H H' : Heap} (k : Keep H H') (bw : Nat) (vals : List Value) (m : Nat) : KeepW H H' bw vals m := ⟨k.1, fun c hc _ _ => k.2 c hc⟩
theorem KeepW.trans {H1 H2 H3 : Heap} {bw : Nat} {vals : List Value} {m : Nat} (h : KeepW H1 H2 bw vals m) (k : KeepW H2 H3 bw vals m) : KeepW H1 H3 bw vals m :=
  ⟨Nat.le_trans h.le k.le, fun c hc h1 h2 => by rw [k.get c (Nat.lt_of_lt_of_le hc h.le) h1 h2]; exact h.get c hc h1 h2⟩
theorem Work.keep {H H' : Heap} {bw : Nat} {A : Value} {vals : List Value} {t : Tb} {B : Nat} (h : Work H bw A vals t B) (k : Keep H H') : Work H' bw A vals t B :=
  ⟨by rw [k.2 bw h.lt]; exact h.get, h.lo, Nat.lt_of_lt_of_le h.lt k.1, h.own.keep k, h.aw, h.vw, h.sep⟩
/-- A number is written. -/
theorem Work.write {H H' : Heap} {bw : Nat} {A : Value} {vals : List Value} {t : Tb} {B g p : Nat} {x : Int} (h : Work H bw A vals t B) (hg : g < t.rs.length) (ho : Own 3 H' vals[g]! ((t.rs[g]!.set p x).map VI) B) (kb : KeepBut vals[g]! H H') :
    Work H' bw A vals {t with rs := put2 t.rs g p x} B := by
  have hl : (put2 t.rs g p x).length = t.rs.length := put2_len _ _ _ _
  refine ⟨by rw [kb.get bw h.lt (h.vw g hg)]; exact h.get, h.lo, Nat.lt_of_lt_of_le h.lt kb.le, ⟨h.own.own.keepBut kb (h.own.ap g hg).symm, by rw [h.own.len]; exact hl.symm, fun i hi => ?_, fun i hi => h.own.ap i (by rw [hl] at hi; exact hi)⟩, h.aw, fun i hi => h.vw i (by rw [hl] at hi; exact hi), fun i j hi hj => h.sep i j (by rw [hl] at hi; exact hi) (by rw [hl] at hj; exact hj)⟩
  have hi' : i < t.rs.length := by rw [hl] at hi; exact hi
  show Own 3 H' vals[i]! ((put2 t.rs g p x)[i]!.map VI) B
  rw [put2_at hi']
  by_cases e : g = i
  · subst e; rw [if_pos rfl]; exact ho
  · rw [if_neg e]; exact (h.own.at' i hi').keepBut kb (h.sep i g hi' hg (fun e2 => e e2.symm))
set_option maxHeartbeats 2000000 in
set_option maxRecDepth 100000 in
theorem write_spec {B : Nat} {H : Heap} {bw : Nat} {A : Value} {vals : List Value} {t : Tb} {d : Dd} (hB : B ≤ H.n) (hw : Work H bw A vals t B) (hv : Vt t) (hd : d.kd = 2) :
    CallB Try.prog B 99 [.pointer (some ⟨bw, 0, none⟩), Dv d] H (fun r H' => r = .int .i64 (doE t d) ∧ Work H' bw A vals (doT t d) B ∧ KeepW H H' bw vals t.rs.length) := by
  have q7 := hv.len0
  have q8 := hv.len9
  have q2 := hv.pk9
  have hbl := hw.lo
  have hbt := hw.lt
  have e0 : doE t d = if t.st ≠ 1 then 10 else if d.gs < 0 ∨ (t.rs.length : Int) ≤ d.gs ∨ d.pc < 0 ∨ t.pk ≤ d.pc then 7 else if t.ps ≤ d.pc then 13 else if okN d.nm = true then 0 else 2 := by
    unfold doE; rw [hd]; simp
  have et : ∀ e : Int, doE t d = e → e ≠ 0 → doT t d = t := fun e h1 h2 => by unfold doT; rw [if_neg (by rw [h1]; exact h2)]
  refine CV.enter callees false rfl Try.func99 rfl (by kernel_rfl) (Nat.le_of_ble_eq_true rfl) hB ?_
  repeat' first
    | refine CO.cons rfl ?_
    | refine CO.nil ?_
    | refine CV.seq ?_
    | refine CV.region callees ?_
    | refine CV.cond ?_
    | refine CV.block ?_
    | refine CV.skip ?_
    | refine CV.exit ?_
    | refine CV.ret ?_
    | refine CV.scope ?_
    | refine CV.draw callees rfl ?_
    | refine CH.cons rfl ?_
    | refine CH.nil ?_
    | refine CO.consG rfl ?_
    | refine CH.consG rfl ?_
    | refine CG.cons rfl ?_
    | refine CR.cons ?_
    | refine CR.nil ?_
    | refine CG.nil ?_
    | refine CG.consG rfl ?_
    | refine ⟨(rfl : plain _ = true), ?_⟩
    | refine ⟨(rfl : nilOk _ = some _), ?_⟩
    | refine ⟨_, ints_len (by assumption), ?_⟩
    | refine ⟨_, ints_addr (by assumption) (by omega) (by omega), ?_⟩
    | refine ⟨_, ints_load (by assumption) (by omega) (by omega), ?_⟩
    | refine ⟨(⟨by omega, by omega⟩ : inI64 _), ?_⟩
    | refine ⟨_, fun tm ha => step1_max rfl (ev_tmp ha rfl) (ev_tmp ha rfl), ?_⟩
    | refine ⟨_, fun tm ha => step1_min rfl (ev_tmp ha rfl) (ev_tmp ha rfl), ?_⟩
    | (refine ⟨fun _ => ?_, fun _ => ?_⟩ <;> first | (exfalso; omega) | skip)
    | fail
  refine ⟨(rfl : notTuple _ = true), ?_⟩
  rw [alloc_d]
  generalize hs : H.new (Dc d) = Hs
  have hgd := new_get hs
  have k1 := new_keep hs
  have n1 := new_n hs
  have hws := hw.keep k1
  have hgw := hws.get
  have hgr : Grid Hs A vals t.rs := hws.own.grid
  have fin : ∀ e : Int, doE t d = e → e ≠ 0 → Work Hs bw A vals (doT t d) B ∧ KeepW H Hs bw vals t.rs.length := fun e h1 h2 => by rw [et e h1 h2]; exact ⟨hws, keep_w k1 _ _ _⟩
  by_cases h1 : ¬ t.st = 1
  · repeat' first
      | refine CO.cons rfl ?_
      | refine CO.nil ?_
      | refine CV.seq ?_
      | refine CV.region callees ?_
      | refine CV.cond ?_
      | refine CV.block ?_
      | refine CV.skip ?_
      | refine CV.exit ?_
      | refine CV.ret ?_
      | refine CV.scope ?_
      | refine CV.draw callees rfl ?_
      | refine CH.cons rfl ?_
      | refine CH.nil ?_
      | refine CO.consG rfl ?_
      | refine CH.consG rfl ?_
      | refine CG.cons rfl ?_
      | refine CR.cons ?_
      | refine CR.nil ?_
      | refine CG.nil ?_
      | refine CG.consG rfl ?_
      | refine ⟨(rfl : plain _ = true), ?_⟩
      | refine ⟨(rfl : nilOk _ = some _), ?_⟩
      | refine ⟨_, ints_len (by assumption), ?_⟩
      | refine ⟨_, ints_addr (by assumption) (by omega) (by omega), ?_⟩
      | refine ⟨_, ints_load (by assumption) (by omega) (by omega), ?_⟩
      | refine ⟨(⟨by omega, by omega⟩ : inI64 _), ?_⟩
      | refine ⟨_, fun tm ha => step1_max rfl (ev_tmp ha rfl) (ev_tmp ha rfl), ?_⟩
      | refine ⟨_, fun tm ha => step1_min rfl (ev_tmp ha rfl) (ev_tmp ha rfl), ?_⟩
      | (refine ⟨_, addrW, ?_⟩)
      | (refine ⟨_, addrT (by decide), ?_⟩)
      | (refine ⟨_, cell_load ag3 hgw rfl, ?_⟩)
      | (refine ⟨fun _ => ?_, fun _ => ?_⟩ <;> first | (exfalso; omega) | skip)
      | fail
    have e1 : doE t d = 10 := by rw [e0, if_pos h1]
    exact ⟨rfl, by rw [e1], fin 10 e1 (by decide)⟩
  have h1 : t.st = 1 := Classical.not_not.1 h1
  rw [if_neg (fun h => h h1)] at e0
  by_cases h2 : d.gs < 0 ∨ (t.rs.length : Int) ≤ d.gs ∨ d.pc < 0 ∨ t.pk ≤ d.pc
  · have e1 : doE t d = 7 := by rw [e0, if_pos h2]
    repeat' first
      | refine CO.cons rfl ?_
      | refine CO.nil ?_
      | refine CV.seq ?_
      | refine CV.region callees ?_
      | refine CV.cond ?_
      | refine CV.block ?_
      | refine CV.skip ?_
      | refine CV.exit ?_
      | refine CV.ret ?_
      | refine CV.scope ?_
      | refine CV.draw callees rfl ?_
      | refine CH.cons rfl ?_
      | refine CH.nil ?_
      | refine CO.consG rfl ?_
      | refine CH.consG rfl ?_
      | refine CG.cons rfl ?_
      | refine CR.cons ?_
      | refine CR.nil ?_
      | refine CG.nil ?_
      | refine CG.consG rfl ?_
      | refine ⟨(rfl : plain _ = true), ?_⟩
      | refine ⟨(rfl : nilOk _ = some _), ?_⟩
      | refine ⟨_, ints_len (by assumption), ?_⟩
      | refine ⟨_, ints_addr (by assumption) (by omega) (by omega), ?_⟩
      | refine ⟨_, ints_load (by assumption) (by omega) (by omega), ?_⟩
      | refine ⟨(⟨by omega, by omega⟩ : inI64 _), ?_⟩
      | refine ⟨_, fun tm ha => step1_max rfl (ev_tmp ha rfl) (ev_tmp ha rfl), ?_⟩
      | refine ⟨_, fun tm ha => step1_min rfl (ev_tmp ha rfl) (ev_tmp ha rfl), ?_⟩
      | (refine ⟨_, addrW, ?_⟩)
      | (refine ⟨_, addrT (by decide), ?_⟩)
      | (refine ⟨_, addrD (by decide), ?_⟩)
      | (refine ⟨_, cell_load ag3 hgw rfl, ?_⟩)
      | (refine ⟨_, cell_load ag3 hgd rfl, ?_⟩)
      | (refine ⟨_, cell_load ag32 hgw rfl, ?_⟩)
      | refine ⟨_, hgr.alen, ?_⟩
      | (refine ⟨fun _ => ?_, fun _ => ?_⟩ <;> first | (exfalso; omega) | skip)
      | fail
    all_goals exact ⟨rfl, by rw [e1], fin 7 e1 (by decide)⟩
  rw [if_neg h2] at e0
  by_cases h3 : t.ps ≤ d.pc
  · have e1 : doE t d = 13 := by rw [e0, if_pos h3]
    repeat' first
      | refine CO.cons rfl ?_
      | refine CO.nil ?_
      | refine CV.seq ?_
      | refine CV.region callees ?_
      | refine CV.cond ?_
      | refine CV.block ?_
      | refine CV.skip ?_
      | refine CV.exit ?_
      | refine CV.ret ?_
      | refine CV.scope ?_
      | refine CV.draw callees rfl ?_
      | refine CH.cons rfl ?_
      | refine CH.nil ?_
      | refine CO.consG rfl ?_
      | refine CH.consG rfl ?_
      | refine CG.cons rfl ?_
      | refine CR.cons ?_
      | refine CR.nil ?_
      | refine CG.nil ?_
      | refine CG.consG rfl ?_
      | refine ⟨(rfl : plain _ = true), ?_⟩
      | refine ⟨(rfl : nilOk _ = some _), ?_⟩
      | refine ⟨_, ints_len (by assumption), ?_⟩
      | refine ⟨_, ints_addr (by assumption) (by omega) (by omega), ?_⟩
      | refine ⟨_, ints_load (by assumption) (by omega) (by omega), ?_⟩
      | refine ⟨(⟨by omega, by omega⟩ : inI64 _), ?_⟩
      | refine ⟨_, fun tm ha => step1_max rfl (ev_tmp ha rfl) (ev_tmp ha rfl), ?_⟩
      | refine ⟨_, fun tm ha => step1_min rfl (ev_tmp ha rfl) (ev_tmp ha rfl), ?_⟩
      | (refine ⟨_, addrW, ?_⟩)
      | (refine ⟨_, addrT (by decide), ?_⟩)
      | (refine ⟨_, addrD (by decide), ?_⟩)
      | (refine ⟨_, cell_load ag3 hgw rfl, ?_⟩)
      | (refine ⟨_, cell_load ag3 hgd rfl, ?_⟩)
      | (refine ⟨_, cell_load ag32 hgw rfl, ?_⟩)
      | refine ⟨_, hgr.alen, ?_⟩
      | (refine ⟨fun _ => ?_, fun _ => ?_⟩ <;> first | (exfalso; omega) | skip)
      | fail
    all_goals exact ⟨rfl, by rw [e1], fin 13 e1 (by decide)⟩
  rw [if_neg h3] at e0
  repeat' first
    | refine CO.cons rfl ?_
    | refine CO.nil ?_
    | refine CV.seq ?_
    | refine CV.region callees ?_
    | refine CV.cond ?_
    | refine CV.block ?_
    | refine CV.skip ?_
    | refine CV.exit ?_
    | refine CV.ret ?_
    | refine CV.scope ?_
    | refine CV.draw callees rfl ?_
    | refine CH.cons rfl ?_
    | refine CH.nil ?_
    | refine CO.consG rfl ?_
    | refine CH.consG rfl ?_
    | refine CG.cons rfl ?_
    | refine CR.cons ?_
    | refine CR.nil ?_
    | refine CG.nil ?_
    | refine CG.consG rfl ?_
    | refine ⟨(rfl : plain _ = true), ?_⟩
    | refine ⟨(rfl : nilOk _ = some _), ?_⟩
    | refine ⟨_, ints_len (by assumption), ?_⟩
    | refine ⟨_, ints_addr (by assumption) (by omega) (by omega), ?_⟩
    | refine ⟨_, ints_load (by assumption) (by omega) (by omega), ?_⟩
    | refine ⟨(⟨by omega, by omega⟩ : inI64 _), ?_⟩
    | refine ⟨_, fun tm ha => step1_max rfl (ev_tmp ha rfl) (ev_tmp ha rfl), ?_⟩
    | refine ⟨_, fun tm ha => step1_min rfl (ev_tmp ha rfl) (ev_tmp ha rfl), ?_⟩
    | (refine ⟨_, addrW, ?_⟩)
    | (refine ⟨_, addrT (by decide), ?_⟩)
    | (refine ⟨_, addrD (by decide), ?_⟩)
    | (refine ⟨_, cell_load ag3 hgw rfl, ?_⟩)
    | (refine ⟨_, cell_load ag3 hgd rfl, ?_⟩)
    | (refine ⟨_, cell_load ag32 hgw rfl, ?_⟩)
    | refine ⟨_, hgr.alen, ?_⟩
    | (refine ⟨fun _ => ?_, fun _ => ?_⟩ <;> first | (exfalso; omega) | skip)
    | fail
  refine (number_spec (by omega)).mono ?_
  rintro r H2 ⟨rfl, rfl⟩
  cases h4 : okN d.nm with
  | false =>
    have e1 : doE t d = 2 := by rw [e0, if_neg (by rw [h4]; decide)]
    repeat' first
      | refine CO.cons rfl ?_
      | refine CO.nil ?_
      | refine CV.seq ?_
      | refine CV.region callees ?_
      | refine CV.cond ?_
      | refine CV.block ?_
      | refine CV.skip ?_
      | refine CV.exit ?_
      | refine CV.ret ?_
      | refine CV.scope ?_
      | refine CV.draw callees rfl ?_
      | refine CH.cons rfl ?_
      | refine CH.nil ?_
      | refine CO.consG rfl ?_
      | refine CH.consG rfl ?_
      | refine CG.cons rfl ?_
      | refine CR.cons ?_
      | refine CR.nil ?_
      | refine CG.nil ?_
      | refine CG.consG rfl ?_
      | refine ⟨(rfl : plain _ = true), ?_⟩
      | refine ⟨(rfl : nilOk _ = some _), ?_⟩
      | refine ⟨_, ints_len (by assumption), ?_⟩
      | refine ⟨_, ints_addr (by assumption) (by omega) (by omega), ?_⟩
      | refine ⟨_, ints_load (by assumption) (by omega) (by omega), ?_⟩
      | refine ⟨(⟨by omega, by omega⟩ : inI64 _), ?_⟩
      | refine ⟨_, fun tm ha => step1_max rfl (ev_tmp ha rfl) (ev_tmp ha rfl), ?_⟩
      | refine ⟨_, fun tm ha => step1_min rfl (ev_tmp ha rfl) (ev_tmp ha rfl), ?_⟩
      | (refine ⟨fun _ => ?_, fun _ => ?_⟩ <;> first | (exfalso; omega) | skip)
      | fail
    exact ⟨rfl, by rw [e1], fin 2 e1 (by decide)⟩
  | true =>
    have e1 : doE t d = 0 := by rw [e0, if_pos h4]
    have hgl : d.gs.toNat < t.rs.length := by omega
    obtain ⟨r1, r2, r3⟩ := hv.row d.gs.toNat hgl
    have hro := hws.own.at' d.gs.toNat hgl
    have hri : Ints H2 vals[d.gs.toNat]! t.rs[d.gs.toNat]! := hro.row
    repeat' first
      | refine CO.cons rfl ?_
      | refine CO.nil ?_
      | refine CV.seq ?_
      | refine CV.region callees ?_
      | refine CV.cond ?_
      | refine CV.block ?_
      | refine CV.skip ?_
      | refine CV.exit ?_
      | refine CV.ret ?_
      | refine CV.scope ?_
      | refine CV.draw callees rfl ?_
      | refine CH.cons rfl ?_
      | refine CH.nil ?_
      | refine CO.consG rfl ?_
      | refine CH.consG rfl ?_
      | refine CG.cons rfl ?_
      | refine CR.cons ?_
      | refine CR.nil ?_
      | refine CG.nil ?_
      | refine CG.consG rfl ?_
      | refine ⟨(rfl : plain _ = true), ?_⟩
      | refine ⟨(rfl : nilOk _ = some _), ?_⟩
      | refine ⟨_, ints_len (by assumption), ?_⟩
      | refine ⟨_, ints_addr (by assumption) (by omega) (by omega), ?_⟩
      | refine ⟨_, ints_load (by assumption) (by omega) (by omega), ?_⟩
      | refine ⟨(⟨by omega, by omega⟩ : inI64 _), ?_⟩
      | refine ⟨_, fun tm ha => step1_max rfl (ev_tmp ha rfl) (ev_tmp ha rfl), ?_⟩
      | refine ⟨_, fun tm ha => step1_min rfl (ev_tmp ha rfl) (ev_tmp ha rfl), ?_⟩
      | (refine ⟨_, addrW, ?_⟩)
      | (refine ⟨_, addrT (by decide), ?_⟩)
      | (refine ⟨_, addrD (by decide), ?_⟩)
      | (refine ⟨_, cell_load ag3 hgd rfl, ?_⟩)
      | (refine ⟨_, cell_load ag32 hgw rfl, ?_⟩)
      | (refine ⟨_, hgr.addr (by omega) (by omega), ?_⟩)
      | (refine ⟨_, hgr.load (by omega) (by omega), ?_⟩)
      | (refine ⟨fun _ => ?_, fun _ => ?_⟩ <;> first | (exfalso; omega) | skip)
      | fail
    refine put_ask (i := d.pc.toNat) hro (by omega) (by omega) ?_
    intro H3 ho3 kb3
    repeat' first
      | refine CO.cons rfl ?_
      | refine CO.nil ?_
      | refine CV.seq ?_
      | refine CV.region callees ?_
      | refine CV.cond ?_
      | refine CV.block ?_
      | refine CV.skip ?_
      | refine CV.exit ?_
      | refine CV.ret ?_
      | refine CV.scope ?_
      | refine CV.draw callees rfl ?_
      | refine CH.cons rfl ?_
      | refine CH.nil ?_
      | refine CO.consG rfl ?_
      | refine CH.consG rfl ?_
      | refine CG.cons rfl ?_
      | refine CR.cons ?_
      | refine CR.nil ?_
      | refine CG.nil ?_
      | refine CG.consG rfl ?_
      | refine ⟨(rfl : plain _ = true), ?_⟩
      | refine ⟨(rfl : nilOk _ = some _), ?_⟩
      | refine ⟨_, ints_len (by assumption), ?_⟩
      | refine ⟨_, ints_addr (by assumption) (by omega) (by omega), ?_⟩
      | refine ⟨_, ints_load (by assumption) (by omega) (by omega), ?_⟩
      | refine ⟨(⟨by omega, by omega⟩ : inI64 _), ?_⟩
      | refine ⟨_, fun tm ha => step1_max rfl (ev_tmp ha rfl) (ev_tmp ha rfl), ?_⟩
      | refine ⟨_, fun tm ha => step1_min rfl (ev_tmp ha rfl) (ev_tmp ha rfl), ?_⟩
      | (refine ⟨fun _ => ?_, fun _ => ?_⟩ <;> first | (exfalso; omega) | skip)
      | fail
    have hdt : doT t d = {t with rs := put2 t.rs d.gs.toNat d.pc.toNat d.nm} := by unfold doT; rw [if_pos e1, doN_write hd]
    refine ⟨rfl, by rw [e1], by rw [hdt]; exact hws.write hgl ho3 kb3, ?_⟩
    exact (keep_w k1 _ _ _).trans ⟨kb3.le, fun c hc _ hv => kb3.get c hc (hv _ hgl)⟩
end Go.Proofs.Ytcpklnekpdhlmaa

