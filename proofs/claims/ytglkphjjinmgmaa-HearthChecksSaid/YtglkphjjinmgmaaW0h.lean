
/- Fires: their cells, and what is said of them. -/
import Derived.Test.YtglkphjjinmgmaaZ0h
import Derived.Test.YtglkphjjinmgmaaX4
import Derived.Test.YtglkphjjinmgmaaEu
set_option linter.unusedVariables false
set_option linter.unusedSimpArgs false
namespace Go.AI
theorem RowS.cells {s : Nat} {H : Heap} {v : Value} {rs : List (List Value)} (h : RowS s H v rs) : v.cells.toList = [v] ∧ AI.oneC v = true ∧ AI.notTuple v = true := by
  rcases h.2 with ⟨rfl, _⟩ | ⟨rfl, _⟩ | ⟨_, _, _, _, _, _, rfl, _⟩ <;> exact ⟨rfl, rfl, rfl⟩
theorem agg_load {P : Program} {H : Heap} {t e : TypeId} {b i n k : Nat} {cs : List Value} (ha : isAggB P t = some true) (hs : sizeB P t = some n) (hg : H.get b = some (.cells cs e k)) (hle : i + n ≤ cs.length) : aload P t H (.pointer (some ⟨b, i, none⟩)) = some (.agg ((cs.drop i).take n).toArray) := by
  simp [aload, hg, ha, hs, hle]
theorem RowS.inj {s : Nat} {H : Heap} {v : Value} {rs rs' : List (List Value)} (hs : 0 < s) (h : RowS s H v rs) (h' : RowS s H v rs') : rs = rs' := by
  have hq : ∀ (b i n c : Nat) (cs : List Value), rs.length = n → rs'.length = n → (∀ (j q : Nat) (r : List Value) (w : Value), rs[j]? = some r → r[q]? = some w → cs[i + j * s + q]? = some w) → (∀ (j q : Nat) (r : List Value) (w : Value), rs'[j]? = some r → r[q]? = some w → cs[i + j * s + q]? = some w) → rs = rs' := by
    intro b i n c cs hl hl' h1 h2
    apply List.ext_getElem (by omega)
    intro j hj hj'
    have e1 := h.1 rs[j] (List.getElem_mem hj)
    have e2 := h'.1 rs'[j] (List.getElem_mem hj')
    apply List.ext_getElem (by omega)
    intro q hq hq'
    have a1 := h1 j q _ _ (List.getElem?_eq_getElem hj) (List.getElem?_eq_getElem hq)
    have a2 := h2 j q _ _ (List.getElem?_eq_getElem hj') (List.getElem?_eq_getElem hq')
    rw [a1] at a2
    exact Option.some.inj a2
  rcases h.2 with ⟨h1, h2⟩ | ⟨h1, h2⟩ | ⟨b, i, c, cs, e, k, h1, _, h3, _, _, h4⟩ <;> rcases h'.2 with ⟨g1, g2⟩ | ⟨g1, g2⟩ | ⟨b', i', c', cs', e', k', g1, _, g3, _, _, g4⟩
  · rw [h2, g2]
  · rw [h2, g2]
  · rw [h1] at g1; cases g1
  · rw [h2, g2]
  · rw [h2, g2]
  · rw [h1] at g1; simp [anon] at g1
  · rw [h1] at g1; cases g1
  · rw [h1] at g1; simp [anon] at g1
  · rw [h1] at g1
    simp only [Value.slice.injEq, Option.some.injEq, Addr.mk.injEq, and_true] at g1
    obtain ⟨⟨rfl, rfl⟩, hl, rfl⟩ := g1
    rw [h3] at g3
    cases g3
    exact hq b i rs.length c cs rfl hl.symm h4 g4
end Go.AI
namespace Go.Proofs.Ytglkphjjinmgmaa
open Go.AI
/-- A coal. -/
structure Co where
  cl : Int
  ch : Int
  bl : Int
  bh : Int
  hl : Int
  hh : Int
  lt : Bool
deriving Inhabited
abbrev VJ : Int → Value := Value.int .i64
abbrev Col (c : Co) : List Value := [VJ c.cl, VJ c.ch, VJ c.bl, VJ c.bh, VJ c.hl, VJ c.hh, .bool c.lt]
abbrev Cov (c : Co) : Value := .agg #[VJ c.cl, VJ c.ch, VJ c.bl, VJ c.bh, VJ c.hl, VJ c.hh, .bool c.lt]
abbrev Hl (h : Int × Int) : List Value := [VJ h.1, VJ h.2]
abbrev Hv (h : Int × Int) : Value := .agg #[VJ h.1, VJ h.2]
abbrev Fl (c t : Value) : List Value := [c, t]
abbrev Fv (c t : Value) : Value := .agg #[c, t]
abbrev nilS : Value := .slice none 0 0
theorem Col_inj {a b : Co} (h : Col a = Col b) : a = b := by
  cases a; cases b; simp [Col] at h; simp [h]
theorem Hl_inj {a b : Int × Int} (h : Hl a = Hl b) : a = b := by
  cases a; cases b; simp [Hl] at h; simp [h]
theorem map_inj {α β : Type} {f : α → β} (hf : ∀ a b, f a = f b → a = b) : ∀ {l k : List α}, l.map f = k.map f → l = k
  | [], [], _ => rfl
  | [], _ :: _, h => by simp at h
  | _ :: _, [], h => by simp at h
  | a :: l, b :: k, h => by
    simp only [List.map_cons, List.cons.injEq] at h
    rw [hf a b h.1, map_inj hf h.2]
/-- A coal that may be. -/
structure CoOk (c : Co) : Prop where
  c1 : 1 ≤ c.cl
  c2 : c.cl ≤ c.ch
  c3 : c.ch ≤ 300
  b1 : 1 ≤ c.bl
  b2 : c.bl ≤ c.bh
  b3 : c.bh ≤ 300
  h1 : 0 ≤ c.hl
  h2 : c.hl ≤ c.hh
  h3 : c.hh ≤ 1000
/-- A fire that may be. -/
structure FOk (cs : List Co) (ts : List (Int × Int)) : Prop where
  n : cs.length ≤ 12
  c : ∀ i, i < cs.length → CoOk cs[i]!
  m : ts.length ≤ 40
  t : ∀ i, i < ts.length → (0 ≤ ts[i]!.1 ∧ ts[i]!.1 < cs.length) ∧ (0 ≤ ts[i]!.2 ∧ ts[i]!.2 < cs.length) ∧ ts[i]!.1 ≠ ts[i]!.2
/-- The ends of what is known of Catch and Burn. -/
def ca (e : Int) (c : Co) : Int := if e = 0 then c.cl else c.ch
def bu (e : Int) (c : Co) : Int := if e = 0 then c.bh else c.bl
def coAt (cs : List Co) (i : Int) : Co := cs[i.toNat]!
/-- From which coal to which one fire may go. -/
def Arc (e : Int) (cs : List Co) (ts : List (Int × Int)) (p : Int × Int) : Prop := (p ∈ ts ∨ (p.2, p.1) ∈ ts) ∧ ca e (coAt cs p.2) ≤ bu e (coAt cs p.1)
/-- When each coal begins: there is one such list alone. -/
structure IsBeg (e : Int) (cs : List Co) (ts : List (Int × Int)) (B : List Int) : Prop where
  len : B.length = cs.length
  lo : ∀ i : Nat, i < B.length → 0 ≤ B[i]! ∧ B[i]! ≤ 1000000
  lit : ∀ i : Nat, i < B.length → cs[i]!.lt = true → B[i]! = 0
  le : ∀ p, Arc e cs ts p → B[p.2.toNat]! ≤ B[p.1.toNat]! + ca e (coAt cs p.2)
  via : ∀ i : Nat, i < B.length → cs[i]!.lt = false → B[i]! = 1000000 ∨ ∃ p, Arc e cs ts p ∧ p.2 = i ∧ B[i]! = B[p.1.toNat]! + ca e (coAt cs p.2) ∧ B[i]! < 1000000
theorem mem_ats {ts : List (Int × Int)} {p : Int × Int} (h : p ∈ ts) : ∃ i, i < ts.length ∧ ts[i]! = p := by
  obtain ⟨i, hi, h⟩ := List.mem_iff_getElem.1 h
  exact ⟨i, hi, by rw [getElem!_pos ts i hi]; exact h⟩
theorem Arc.ok {e : Int} {cs : List Co} {ts : List (Int × Int)} {p : Int × Int} (hf : FOk cs ts) (h : Arc e cs ts p) : (0 ≤ p.1 ∧ p.1 < cs.length) ∧ (0 ≤ p.2 ∧ p.2 < cs.length) ∧ p.1 ≠ p.2 := by
  rcases h.1 with h | h
  · obtain ⟨i, hi, rfl⟩ := mem_ats h
    exact hf.t i hi
  · obtain ⟨i, hi, e⟩ := mem_ats h
    have := hf.t i hi
    rw [e] at this
    exact ⟨this.2.1, this.1, fun h => this.2.2 h.symm⟩
theorem ca_pos {e : Int} {cs : List Co} {ts : List (Int × Int)} (hf : FOk cs ts) {i : Int} (h0 : 0 ≤ i) (h1 : i < cs.length) : 1 ≤ ca e (coAt cs i) ∧ ca e (coAt cs i) ≤ 300 := by
  have := hf.c i.toNat (by omega)
  unfold ca coAt
  have h2 := this.c1; have h3 := this.c2; have h4 := this.c3
  split <;> omega
/-- One list alone. -/
theorem IsBeg.le_of {e : Int} {cs : List Co} {ts : List (Int × Int)} {B B' : List Int} (hf : FOk cs ts) (h : IsBeg e cs ts B) (h' : IsBeg e cs ts B') : ∀ (m : Nat) (i : Nat), i < cs.length → B'[i]!.toNat ≤ m → B[i]! ≤ B'[i]! := by
  intro m
  induction m with
  | zero =>
    intro i hi hm
    have h1 := h'.lo i (by rw [h'.len]; exact hi)
    cases hl : cs[i]!.lt with
    | true => rw [h.lit i (by rw [h.len]; exact hi) hl]; omega
    | false =>
      rcases h'.via i (by rw [h'.len]; exact hi) hl with h2 | ⟨p, hp, hpi, h3, _⟩
      · omega
      · have h4 := hp.ok hf
        have h5 := ca_pos (e := e) hf h4.2.1.1 h4.2.1.2
        have h6 := h'.lo p.1.toNat (by rw [h'.len]; omega)
        omega
  | succ m ih =>
    intro i hi hm
    have h1 := h'.lo i (by rw [h'.len]; exact hi)
    have h0 := h.lo i (by rw [h.len]; exact hi)
    cases hl : cs[i]!.lt with
    | true => rw [h.lit i (by rw [h.len]; exact hi) hl]; omega
    | false =>
      rcases h'.via i (by rw [h'.len]; exact hi) hl with h2 | ⟨p, hp, hpi, h3, _⟩
      · omega
      · have h4 := hp.ok hf
        have h5 := ca_pos (e := e) hf h4.2.1.1 h4.2.1.2
        have h6 := h'.lo p.1.toNat (by rw [h'.len]; omega)
        have h7 := ih p.1.toNat (by omega) (by omega)
        have h8 := h.le p hp
        have h9 : p.2.toNat = i := by omega
        rw [h9] at h8
        omega
theorem IsBeg.one {e : Int} {cs : List Co} {ts : List (Int × Int)} {B B' : List Int} (hf : FOk cs ts) (h : IsBeg e cs ts B) (h' : IsBeg e cs ts B') : B = B' := by
  apply List.ext_getElem (by rw [h.len, h'.len])
  intro i h1 h2
  have a := h.le_of hf h' _ i (by rw [← h.len]; exact h1) (Nat.le_refl _)
  have b := h'.le_of hf h _ i (by rw [← h.len]; exact h1) (Nat.le_refl _)
  rw [getElem!_pos B i h1, getElem!_pos B' i h2] at a b
  omega
/-- What may still be lowered. -/
structure Pre (e : Int) (cs : List Co) (ts : List (Int × Int)) (B : List Int) : Prop where
  len : B.length = cs.length
  lo : ∀ i : Nat, i < B.length → 0 ≤ B[i]! ∧ B[i]! ≤ 1000000
  lit : ∀ i : Nat, i < B.length → cs[i]!.lt = true → B[i]! = 0
  via : ∀ i : Nat, i < B.length → cs[i]!.lt = false → B[i]! = 1000000 ∨ ∃ p, Arc e cs ts p ∧ p.2 = i ∧ B[p.1.toNat]! + ca e (coAt cs p.2) ≤ B[i]! ∧ B[i]! < 1000000
def sumI : List Int → Int
  | [] => 0
  | x :: l => x + sumI l
theorem sumI_set : ∀ {l : List Int} {i : Nat} {x : Int}, i < l.length → sumI (l.set i x) = sumI l - l[i]! + x
  | y :: l, 0, x, _ => by simp [sumI]; omega
  | y :: l, i + 1, x, h => by
    have := sumI_set (l := l) (i := i) (x := x) (by simpa using h)
    simp only [List.set_cons_succ, sumI, this]
    simp
    omega
theorem sumI_nonneg : ∀ {l : List Int}, (∀ i : Nat, i < l.length → 0 ≤ l[i]!) → 0 ≤ sumI l
  | [], _ => by simp [sumI]
  | y :: l, h => by
    have h1 := h 0 (by simp)
    have h2 := sumI_nonneg (l := l) fun i hi => by
      have := h (i + 1) (by simpa using hi)
      simpa using this
    simp at h1
    simp [sumI]; omega
theorem getS {l : List Int} {i a : Nat} {x : Int} (ha : a < l.length) : (l.set i x)[a]! = if i = a then x else l[a]! := by
  rw [getElem!_pos _ a (by rw [List.length_set]; exact ha), List.getElem_set, getElem!_pos l a ha]
theorem Pre.lower {e : Int} {cs : List Co} {ts : List (Int × Int)} {B : List Int} (hf : FOk cs ts) (h : Pre e cs ts B) {p : Int × Int} (hp : Arc e cs ts p) (hlt : B[p.1.toNat]! + ca e (coAt cs p.2) < B[p.2.toNat]!) : Pre e cs ts (B.set p.2.toNat (B[p.1.toNat]! + ca e (coAt cs p.2))) := by
  have h4 := hp.ok hf
  have h5 := ca_pos (e := e) hf h4.2.1.1 h4.2.1.2
  have hl := h.len
  have ha := h.lo p.1.toNat (by omega)
  have hb := h.lo p.2.toNat (by omega)
  refine ⟨by rw [List.length_set]; exact h.len, fun i hi => ?_, fun i hi hlit => ?_, fun i hi hlit => ?_⟩
  · rw [List.length_set] at hi
    rw [getS hi]
    split
    · omega
    · exact h.lo i hi
  · rw [List.length_set] at hi
    rw [getS hi]
    split
    · rename_i he
      have := h.lit i hi hlit
      rw [he] at hlt
      omega
    · exact h.lit i hi hlit
  · rw [List.length_set] at hi
    have hne : p.2.toNat ≠ p.1.toNat := by omega
    by_cases he : p.2.toNat = i
    · refine .inr ⟨p, hp, by omega, ?_⟩
      rw [getS (show p.1.toNat < B.length by omega), if_neg hne, getS hi, if_pos he]
      exact ⟨by omega, by omega⟩
    · rcases h.via i hi hlit with h2 | ⟨q, hq, hqi, h3, h4'⟩
      · exact .inl (by rw [getS hi, if_neg he]; exact h2)
      · refine .inr ⟨q, hq, hqi, ?_⟩
        have hq1 := hq.ok hf
        rw [getS hi, if_neg he, getS (show q.1.toNat < B.length by omega)]
        refine ⟨?_, h4'⟩
        split
        · rename_i h6
          rw [← h6] at h3
          omega
        · exact h3
theorem Pre.end_ {e : Int} {cs : List Co} {ts : List (Int × Int)} (hf : FOk cs ts) : ∀ (m : Nat) (B : List Int), Pre e cs ts B → (sumI B).toNat ≤ m → ∃ B, IsBeg e cs ts B := by
  intro m
  induction m with
  | zero =>
    intro B h hm
    by_cases hx : ∃ p, Arc e cs ts p ∧ B[p.1.toNat]! + ca e (coAt cs p.2) < B[p.2.toNat]!
    · obtain ⟨p, hp, hlt⟩ := hx
      have h4 := hp.ok hf
      have h0 := (h.lower hf hp hlt)
      have h1 := sumI_nonneg (fun i hi => (h0.lo i hi).1)
      have hlen := h.len
      have hlt2 : p.2.toNat < B.length := by omega
      rw [sumI_set hlt2] at h1
      omega
    · refine ⟨B, h.len, h.lo, h.lit, fun p hp => ?_, fun i hi hl => ?_⟩
      · have h9 : ¬ (B[p.1.toNat]! + ca e (coAt cs p.2) < B[p.2.toNat]!) := fun hlt => hx ⟨p, hp, hlt⟩
        omega
      · rcases h.via i hi hl with h2 | ⟨p, hp, hpi, h3, h4⟩
        · exact .inl h2
        · have h5 : ¬ (B[p.1.toNat]! + ca e (coAt cs p.2) < B[p.2.toNat]!) := fun hlt => hx ⟨p, hp, hlt⟩
          have h6 : p.2.toNat = i := by omega
          rw [h6] at h5
          exact .inr ⟨p, hp, hpi, by omega, h4⟩
  | succ m ih =>
    intro B h hm
    by_cases hx : ∃ p, Arc e cs ts p ∧ B[p.1.toNat]! + ca e (coAt cs p.2) < B[p.2.toNat]!
    · obtain ⟨p, hp, hlt⟩ := hx
      have h4 := hp.ok hf
      refine ih _ (h.lower hf hp hlt) ?_
      have hlen := h.len
      have hlt2 : p.2.toNat < B.length := by omega
      rw [sumI_set hlt2]
      omega
    · refine ⟨B, h.len, h.lo, h.lit, fun p hp => ?_, fun i hi hl => ?_⟩
      · have h9 : ¬ (B[p.1.toNat]! + ca e (coAt cs p.2) < B[p.2.toNat]!) := fun hlt => hx ⟨p, hp, hlt⟩
        omega
      · rcases h.via i hi hl with h2 | ⟨p, hp, hpi, h3, h4⟩
        · exact .inl h2
        · have h5 : ¬ (B[p.1.toNat]! + ca e (coAt cs p.2) < B[p.2.toNat]!) := fun hlt => hx ⟨p, hp, hlt⟩
          have h6 : p.2.toNat = i := by omega
          rw [h6] at h5
          exact .inr ⟨p, hp, hpi, by omega, h4⟩
/-- Before fire goes anywhere. -/
def initB (cs : List Co) : List Int := cs.map fun c => bif c.lt then 0 else 1000000
theorem initB_at {cs : List Co} {i : Nat} (h : i < cs.length) : (initB cs)[i]! = bif cs[i]!.lt then 0 else 1000000 := by
  rw [getElem!_pos _ i (by simp [initB, h]), getElem!_pos cs i h]; simp [initB]
theorem pre_init {e : Int} {cs : List Co} {ts : List (Int × Int)} : Pre e cs ts (initB cs) := by
  have hl : (initB cs).length = cs.length := by simp [initB]
  refine ⟨hl, fun i hi => ?_, fun i hi h => ?_, fun i hi h => .inl ?_⟩
  · rw [initB_at (by omega)]; cases cs[i]!.lt <;> simp
  · rw [initB_at (by omega), h]; rfl
  · rw [initB_at (by omega), h]; rfl
theorem isBeg_ex {e : Int} {cs : List Co} {ts : List (Int × Int)} (hf : FOk cs ts) : ∃ B, IsBeg e cs ts B := Pre.end_ hf _ _ pre_init (Nat.le_refl _)
end Go.Proofs.Ytglkphjjinmgmaa

