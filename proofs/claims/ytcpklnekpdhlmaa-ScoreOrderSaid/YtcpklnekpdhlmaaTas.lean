
/- Tables and deeds: what a deed does, what all do. -/
import Derived.Test.YtcpklnekpdhlmaaS1s
set_option linter.unusedVariables false
set_option linter.unusedSimpArgs false
namespace Go.Proofs.Ytcpklnekpdhlmaa
open Go.AI
structure Tb where
  pk : Int
  ps : Int
  st : Int
  rs : List (List Int)
structure Dd where
  kd : Int
  gs : Int
  pc : Int
  nm : Int
def doE (t : Tb) (d : Dd) : Int :=
  if d.kd = 1 then (if t.st ≠ 1 then 10 else if t.ps = t.pk then 8 else 0)
  else if d.kd = 2 then (if t.st ≠ 1 then 10 else if d.gs < 0 ∨ (t.rs.length : Int) ≤ d.gs ∨ d.pc < 0 ∨ t.pk ≤ d.pc then 7 else if t.ps ≤ d.pc then 13 else if okN d.nm = true then 0 else 2)
  else if d.kd = 3 then (if t.st ≠ 1 then 10 else 0)
  else if d.kd = 4 then (if t.st ≠ 2 then 10 else 0)
  else if d.kd = 5 then (if t.st = 1 ∧ t.ps < t.pk then 6 else if t.st ≠ 1 then 10 else 0)
  else if d.kd = 6 then (if t.st ≠ 3 then 10 else 0)
  else 4
def put2 (rs : List (List Int)) (i j : Nat) (x : Int) : List (List Int) := rs.set i ((rs[i]!).set j x)
def doN (t : Tb) (d : Dd) : Tb :=
  if d.kd = 1 then {t with ps := t.ps + 1}
  else if d.kd = 2 then {t with rs := put2 t.rs d.gs.toNat d.pc.toNat d.nm}
  else if d.kd = 3 then {t with st := 2}
  else if d.kd = 4 then {t with st := 1}
  else if d.kd = 5 then {t with st := 3}
  else {t with st := 4}
def doT (t : Tb) (d : Dd) : Tb := if doE t d = 0 then doN t d else t
def runT (t : Tb) (ds : List Dd) : Tb := ds.foldl doT t
def runE : Tb → List Dd → List Int
  | _, [] => []
  | t, d :: ds => doE t d :: runE (doT t d) ds
theorem runE_len : ∀ (ds : List Dd) (t : Tb), (runE t ds).length = ds.length
  | [], _ => rfl
  | d :: ds, t => by rw [runE, List.length_cons, runE_len ds, List.length_cons]
theorem runT_snoc (t : Tb) (ds : List Dd) (d : Dd) : runT t (ds ++ [d]) = doT (runT t ds) d := by simp [runT, List.foldl_append]
theorem runE_snoc : ∀ (ds : List Dd) (t : Tb) (d : Dd), runE t (ds ++ [d]) = runE t ds ++ [doE (runT t ds) d]
  | [], t, d => rfl
  | a :: ds, t, d => by rw [List.cons_append, runE, runE_snoc ds, runE, List.cons_append]; rfl
/-- A table that may be. -/
structure Vt (t : Tb) : Prop where
  pk0 : 1 ≤ t.pk
  pk9 : t.pk ≤ 9
  ps0 : 0 ≤ t.ps
  psk : t.ps ≤ t.pk
  st1 : 1 ≤ t.st
  st4 : t.st ≤ 4
  len0 : 0 < t.rs.length
  len9 : t.rs.length ≤ 12
  row : ∀ i, i < t.rs.length → (t.rs[i]!.length : Int) = t.pk ∧ (∀ j, j < t.rs[i]!.length → okN t.rs[i]![j]! = true) ∧ ∀ j, j < t.rs[i]!.length → t.ps ≤ j → t.rs[i]![j]! = -1
  shut : 3 ≤ t.st → t.ps = t.pk
theorem put2_len (rs : List (List Int)) (i j : Nat) (x : Int) : (put2 rs i j x).length = rs.length := by rw [put2, List.length_set]
theorem put2_at {rs : List (List Int)} {i j k : Nat} {x : Int} (hk : k < rs.length) : (put2 rs i j x)[k]! = if i = k then (rs[k]!).set j x else rs[k]! := by
  rw [put2, getElem!_pos _ k (by rw [List.length_set]; exact hk), List.getElem_set]
  split
  · rename_i h; rw [h]
  · rw [getElem!_pos rs k hk]
theorem doE_six {t : Tb} {d : Dd} (h : doE t d = 0) : d.kd = 1 ∨ d.kd = 2 ∨ d.kd = 3 ∨ d.kd = 4 ∨ d.kd = 5 ∨ d.kd = 6 := by
  unfold doE at h
  repeat' split at h
  all_goals first | omega | cases h
theorem Vt.next {t : Tb} (v : Vt t) {d : Dd} (h : doE t d = 0) : Vt (doN t d) := by
  have h6 := doE_six h
  unfold doE at h
  rcases h6 with k | k | k | k | k | k <;> simp only [k, if_true, if_false, Int.reduceEq] at h <;> simp only [doN, k, if_true, if_false, Int.reduceEq]
  · split at h
    · cases h
    · rename_i hs
      split at h
      · cases h
      · rename_i hp
        have := v.ps0
        have := v.psk
        refine ⟨v.pk0, v.pk9, ?_, ?_, v.st1, v.st4, v.len0, v.len9, fun i hi => ⟨(v.row i hi).1, (v.row i hi).2.1, fun j hj hp => (v.row i hi).2.2 j hj ?_⟩, fun h3 => ?_⟩
        · show 0 ≤ t.ps + 1; omega
        · show t.ps + 1 ≤ t.pk; omega
        · have : t.ps + 1 ≤ j := hp
          omega
        · have : 3 ≤ t.st := h3
          omega
  · split at h
    · cases h
    · rename_i hs
      split at h
      · cases h
      · rename_i hm
        split at h
        · cases h
        · rename_i hl
          split at h
          · rename_i ho
            refine ⟨v.pk0, v.pk9, v.ps0, v.psk, v.st1, v.st4, ?_, ?_, fun i hi => ?_, v.shut⟩
            · show 0 < (put2 _ _ _ _).length; rw [put2_len]; exact v.len0
            · show (put2 _ _ _ _).length ≤ 12; rw [put2_len]; exact v.len9
            · have hi' : i < t.rs.length := by have : i < (put2 _ _ _ _).length := hi; rwa [put2_len] at this
              have e2 := put2_at (i := d.gs.toNat) (j := d.pc.toNat) (x := d.nm) hi'
              show (((put2 t.rs d.gs.toNat d.pc.toNat d.nm)[i]!.length : Int) = t.pk) ∧ (∀ j, j < (put2 t.rs d.gs.toNat d.pc.toNat d.nm)[i]!.length → okN (put2 t.rs d.gs.toNat d.pc.toNat d.nm)[i]![j]! = true) ∧ ∀ j, j < (put2 t.rs d.gs.toNat d.pc.toNat d.nm)[i]!.length → t.ps ≤ j → (put2 t.rs d.gs.toNat d.pc.toNat d.nm)[i]![j]! = -1
              rw [e2]
              obtain ⟨r1, r2, r3⟩ := v.row i hi'
              split
              · refine ⟨by rw [List.length_set]; exact r1, fun j hj => ?_, fun j hj hp => ?_⟩
                · rw [List.length_set] at hj
                  rw [getElem!_pos _ j (by rw [List.length_set]; exact hj), List.getElem_set]
                  split
                  · exact ho
                  · have := r2 j hj; rwa [getElem!_pos _ j hj] at this
                · rw [List.length_set] at hj
                  rw [getElem!_pos _ j (by rw [List.length_set]; exact hj), List.getElem_set, if_neg (by omega)]
                  have := r3 j hj hp; rwa [getElem!_pos _ j hj] at this
              · exact ⟨r1, r2, r3⟩
          · cases h
  · split at h
    · cases h
    · rename_i hs
      exact ⟨v.pk0, v.pk9, v.ps0, v.psk, by show (1 : Int) ≤ 2; decide, by show (2 : Int) ≤ 4; decide, v.len0, v.len9, v.row, fun h3 => absurd (show (3 : Int) ≤ 2 from h3) (by decide)⟩
  · split at h
    · cases h
    · rename_i hs
      exact ⟨v.pk0, v.pk9, v.ps0, v.psk, by show (1 : Int) ≤ 1; decide, by show (1 : Int) ≤ 4; decide, v.len0, v.len9, v.row, fun h3 => absurd (show (3 : Int) ≤ 1 from h3) (by decide)⟩
  · split at h
    · cases h
    · rename_i hs
      split at h
      · cases h
      · rename_i hs2
        have := v.psk
        exact ⟨v.pk0, v.pk9, v.ps0, v.psk, by show (1 : Int) ≤ 3; decide, by show (3 : Int) ≤ 4; decide, v.len0, v.len9, v.row, fun h3 => by show t.ps = t.pk; omega⟩
  · split at h
    · cases h
    · rename_i hs
      exact ⟨v.pk0, v.pk9, v.ps0, v.psk, by show (1 : Int) ≤ 4; decide, by show (4 : Int) ≤ 4; decide, v.len0, v.len9, v.row, fun h3 => v.shut (by omega)⟩
theorem Vt.go {t : Tb} (v : Vt t) (d : Dd) : Vt (doT t d) := by
  unfold doT; split
  · rename_i h; exact v.next h
  · exact v
theorem Vt.run : ∀ (ds : List Dd) {t : Tb}, Vt t → Vt (runT t ds)
  | [], _, v => v
  | d :: ds, _, v => Vt.run ds (v.go d)
theorem doT_same (t : Tb) (d : Dd) : (doT t d).pk = t.pk ∧ (doT t d).rs.length = t.rs.length ∧ t.ps ≤ (doT t d).ps := by
  unfold doT; split
  · unfold doN; repeat' split
    all_goals first | exact ⟨rfl, rfl, Int.le_refl _⟩ | exact ⟨rfl, put2_len _ _ _ _, Int.le_refl _⟩ | exact ⟨rfl, rfl, by show t.ps ≤ t.ps + 1; omega⟩
  · exact ⟨rfl, rfl, Int.le_refl _⟩
theorem runT_same : ∀ (ds : List Dd) (t : Tb), (runT t ds).pk = t.pk ∧ (runT t ds).rs.length = t.rs.length ∧ t.ps ≤ (runT t ds).ps
  | [], _ => ⟨rfl, rfl, Int.le_refl _⟩
  | d :: ds, t => by
    obtain ⟨a, b, c⟩ := doT_same t d
    obtain ⟨a', b', c'⟩ := runT_same ds (doT t d)
    exact ⟨a'.trans a, b'.trans b, Int.le_trans c c'⟩
/-- The deeds without errors. -/
def right : Tb → List Dd → List Dd
  | _, [] => []
  | t, d :: ds => if doE t d = 0 then d :: right (doT t d) ds else right (doT t d) ds
theorem right_snoc : ∀ (ds : List Dd) (t : Tb) (d : Dd), right t (ds ++ [d]) = right t ds ++ if doE (runT t ds) d = 0 then [d] else []
  | [], t, d => rfl
  | a :: ds, t, d => by
    rw [List.cons_append, right, right, right_snoc ds]
    split <;> rfl
theorem right_run : ∀ (ds : List Dd) (t : Tb), runT t (right t ds) = runT t ds
  | [], _ => rfl
  | d :: ds, t => by
    rw [right]
    by_cases h : doE t d = 0
    · rw [if_pos h]; exact right_run ds (doT t d)
    · rw [if_neg h]
      have e : doT t d = t := by unfold doT; rw [if_neg h]
      have := right_run ds (doT t d)
      rw [e] at this ⊢
      rw [this]; show _ = runT (doT t d) ds; rw [e]
theorem right_ok : ∀ (ds : List Dd) (t : Tb), ∀ e ∈ runE t (right t ds), e = 0
  | [], _ => by intro e h; cases h
  | d :: ds, t => by
    rw [right]
    by_cases h : doE t d = 0
    · rw [if_pos h, runE]
      intro e he
      rcases List.mem_cons.1 he with rfl | he
      · exact h
      · exact right_ok ds (doT t d) e he
    · rw [if_neg h]
      have e : doT t d = t := by unfold doT; rw [if_neg h]
      have := right_ok ds (doT t d)
      rw [e] at this ⊢
      exact this
/-- Writing does not change what another writing returns. -/
theorem doE_write {t : Tb} {d e : Dd} (hd : d.kd = 2) (he : e.kd = 2) : doE (doT t d) e = doE t e := by
  unfold doT; split
  · have : doN t d = {t with rs := put2 t.rs d.gs.toNat d.pc.toNat d.nm} := by unfold doN; simp [hd]
    rw [this]
    simp only [doE, he, put2_len]
  · rfl
theorem put2_comm {rs : List (List Int)} {i j k l : Nat} {x y : Int} (h : i ≠ k ∨ j ≠ l) : put2 (put2 rs i j x) k l y = put2 (put2 rs k l y) i j x := by
  apply List.ext_getElem
  · simp only [put2_len]
  · intro n h1 h2
    have hn : n < rs.length := by simpa only [put2_len] using h1
    have a1 := put2_at (rs := put2 rs i j x) (i := k) (j := l) (k := n) (x := y) (by rw [put2_len]; exact hn)
    have a2 := put2_at (rs := put2 rs k l y) (i := i) (j := j) (k := n) (x := x) (by rw [put2_len]; exact hn)
    rw [getElem!_pos _ n h1] at a1
    rw [getElem!_pos _ n h2] at a2
    rw [a1, a2, put2_at hn, put2_at hn]
    by_cases hi : i = n <;> by_cases hk : k = n <;> simp only [hi, hk, if_true, if_false]
    exact List.set_comm _ _ (by rcases h with h | h <;> omega)
theorem put2_twice {rs : List (List Int)} {i j : Nat} {x y : Int} : put2 (put2 rs i j x) i j y = put2 rs i j y := by
  apply List.ext_getElem
  · simp only [put2_len]
  · intro n h1 h2
    have hn : n < rs.length := by simpa only [put2_len] using h1
    have a1 := put2_at (rs := put2 rs i j x) (i := i) (j := j) (k := n) (x := y) (by rw [put2_len]; exact hn)
    have a2 := put2_at (rs := rs) (i := i) (j := j) (k := n) (x := y) hn
    rw [getElem!_pos _ n h1] at a1
    rw [getElem!_pos _ n h2] at a2
    rw [a1, a2, put2_at hn]
    by_cases hi : i = n <;> simp only [hi, if_true, if_false, List.set_set]
theorem doN_write {t : Tb} {d : Dd} (hd : d.kd = 2) : doN t d = {t with rs := put2 t.rs d.gs.toNat d.pc.toNat d.nm} := by unfold doN; simp [hd]
theorem write_comm {t : Tb} {d e : Dd} (hd : d.kd = 2) (he : e.kd = 2) (d0 : 0 ≤ d.gs ∧ 0 ≤ d.pc) (e0 : 0 ≤ e.gs ∧ 0 ≤ e.pc) (h : d.gs ≠ e.gs ∨ d.pc ≠ e.pc) : doT (doT t d) e = doT (doT t e) d := by
  have a := doE_write (t := t) hd he
  have b := doE_write (t := t) he hd
  rw [doT, a, doT.eq_1 (doT t e) d, b]
  by_cases h1 : doE t d = 0 <;> by_cases h2 : doE t e = 0 <;> simp only [doT, h1, h2, if_true, if_false]
  rw [doN_write hd, doN_write he, doN_write he, doN_write hd, put2_comm (by omega)]
theorem write_twice {t : Tb} {d e : Dd} (hd : d.kd = 2) (he : e.kd = 2) (hg : d.gs = e.gs) (hp : d.pc = e.pc) (o1 : okN d.nm = true) (o2 : okN e.nm = true) : doT (doT t d) e = doT t e := by
  have a := doE_write (t := t) hd he
  have b : doE t d = doE t e := by simp only [doE, hd, he, hg, hp, o1, o2, if_true, if_false, Int.reduceEq]
  rw [doT, a, doT.eq_1 t e]
  by_cases h1 : doE t e = 0
  · rw [if_pos h1, if_pos h1, doT, if_pos (by rw [b]; exact h1), doN_write hd, doN_write he, doN_write he, hg, hp]
    simp only [put2_twice]
  · rw [if_neg h1, if_neg h1, doT, if_neg (by rw [b]; exact h1)]
end Go.Proofs.Ytcpklnekpdhlmaa
