
/- Rounds in which fire goes from coal to coal, in any order. -/
import Derived.Test.YtglkphjjinmgmaaW3h
set_option linter.unusedVariables false
set_option linter.unusedSimpArgs false
namespace Go.Proofs.Ytglkphjjinmgmaa
open Go.AI
theorem filter_lt {α : Type} {p q : α → Bool} : ∀ {l : List α}, (∀ x ∈ l, q x = true → p x = true) → (∃ x, x ∈ l ∧ p x = true ∧ q x = false) → (l.filter q).length < (l.filter p).length
  | [], _, ⟨x, h, _⟩ => by cases h
  | y :: l, h, ⟨x, hx, h1, h2⟩ => by
    have hle : ∀ {l : List α}, (∀ x ∈ l, q x = true → p x = true) → (l.filter q).length ≤ (l.filter p).length := by
      intro l
      induction l with
      | nil => intro _; simp
      | cons z l ih =>
        intro h
        have := ih fun x hx => h x (by simp [hx])
        by_cases hq : q z = true
        · rw [List.filter_cons_of_pos hq, List.filter_cons_of_pos (h z (by simp) hq)]; simp; omega
        · rw [List.filter_cons_of_neg hq]
          by_cases hp : p z = true
          · rw [List.filter_cons_of_pos hp]; simp; omega
          · rw [List.filter_cons_of_neg hp]; omega
    have ht := fun z hz => h z (List.mem_cons_of_mem y hz)
    by_cases hq : q y = true
    · have hp := h y (by simp) hq
      rw [List.filter_cons_of_pos hq, List.filter_cons_of_pos hp]
      have hne : x ≠ y := by rintro rfl; rw [hq] at h2; cases h2
      have := filter_lt ht ⟨x, (by simpa [hne] using hx), h1, h2⟩
      simp; omega
    · rw [List.filter_cons_of_neg hq]
      by_cases hp : p y = true
      · rw [List.filter_cons_of_pos hp]
        have := hle ht
        simp; omega
      · rw [List.filter_cons_of_neg hp]
        have hne : x ≠ y := by rintro rfl; exact hp h1
        exact filter_lt ht ⟨x, (by simpa [hne] using hx), h1, h2⟩
theorem getS_out {l : List Int} {i a : Nat} {x : Int} (ha : ¬ a < l.length) : (l.set i x)[a]! = l[a]! := by
  rw [getElem!_neg (l.set i x) a (by rw [List.length_set]; exact ha), getElem!_neg l a ha]
/-- How many are less. -/
def dN (Bs : List Int) (x : Int) : Nat := (Bs.filter fun y => decide (y < x)).length
theorem mem_atI {l : List Int} {i : Nat} (h : i < l.length) : l[i]! ∈ l := by rw [getElem!_pos l i h]; exact List.getElem_mem h
theorem dN_lt {Bs : List Int} {x : Int} {a : Nat} (ha : a < Bs.length) (h : Bs[a]! < x) : dN Bs Bs[a]! < dN Bs x :=
  filter_lt (fun y _ hy => by simp only [decide_eq_true_eq] at hy ⊢; omega) ⟨Bs[a]!, mem_atI ha, decide_eq_true h, decide_eq_false (Int.lt_irrefl _)⟩
theorem dN_top {Bs : List Int} {a : Nat} (ha : a < Bs.length) : dN Bs Bs[a]! < Bs.length := by
  have := filter_lt (l := Bs) (p := fun _ => true) (q := fun y => decide (y < Bs[a]!)) (fun _ _ _ => rfl) ⟨Bs[a]!, mem_atI ha, rfl, decide_eq_false (Int.lt_irrefl _)⟩
  rw [List.filter_eq_self.2 (fun _ _ => rfl)] at this
  exact this
theorem dN_zero {Bs : List Int} {x : Int} (h : ∀ i : Nat, i < Bs.length → x ≤ Bs[i]!) : dN Bs x = 0 := by
  unfold dN
  rw [List.length_eq_zero_iff, List.filter_eq_nil_iff]
  intro y hy
  obtain ⟨i, hi, rfl⟩ := List.mem_iff_getElem.1 hy
  have := h i hi
  rw [getElem!_pos Bs i hi] at this
  simp; omega
/-- Behind so many rounds. -/
structure Lev (cs : List Co) (Bs : List Int) (r : Nat) (B : List Int) : Prop where
  len : B.length = cs.length
  bd : ∀ i : Nat, i < cs.length → Bs[i]! ≤ B[i]! ∧ B[i]! ≤ 1000000
  at_ : ∀ i : Nat, i < cs.length → dN Bs Bs[i]! ≤ r → B[i]! = Bs[i]!
/-- Within a round, behind some of the ways. -/
structure Mid (e : Int) (cs : List Co) (Bs B1 : List Int) (M : List (Int × Int)) (seen : List Nat) (B : List Int) : Prop where
  len : B.length = cs.length
  bd : ∀ i : Nat, i < cs.length → Bs[i]! ≤ B[i]! ∧ B[i]! ≤ B1[i]!
  on : ∀ k ∈ seen, k < M.length ∧ B[(M[k]!).2.toNat]! ≤ B1[(M[k]!).1.toNat]! + tm e cs M[k]!
theorem Lev.init {e : Int} {cs : List Co} {ts : List (Int × Int)} {Bs : List Int} (hf : FOk cs ts) (h : IsBeg e cs ts Bs) : Lev cs Bs 0 (initB cs) := by
  have hl := h.len
  refine ⟨by simp [initB], fun i hi => ?_, fun i hi hd => ?_⟩
  · have := h.lo i (by omega)
    rw [initB_at hi]
    cases hlt : cs[i]!.lt with
    | true => rw [h.lit i (by omega) hlt]; exact ⟨Int.le_refl _, by decide⟩
    | false => exact ⟨this.2, Int.le_refl _⟩
  · rw [initB_at hi]
    cases hlt : cs[i]!.lt with
    | true => rw [h.lit i (by omega) hlt]; rfl
    | false =>
      rcases h.via i (by omega) hlt with h2 | ⟨p, hp, hpi, h3, _⟩
      · rw [h2]; rfl
      · have h4 := hp.ok hf
        have h5 := ca_pos (e := e) hf h4.2.1.1 h4.2.1.2
        have := dN_lt (Bs := Bs) (x := Bs[i]!) (a := p.1.toNat) (by omega) (by omega)
        omega
theorem Lev.mid {e : Int} {cs : List Co} {Bs B1 : List Int} {M : List (Int × Int)} {r : Nat} (h : Lev cs Bs r B1) : Mid e cs Bs B1 M [] B1 :=
  ⟨h.len, fun i hi => ⟨(h.bd i hi).1, Int.le_refl _⟩, fun k hk => by cases hk⟩
theorem Mid.step {e : Int} {cs : List Co} {ts : List (Int × Int)} {Bs B1 B : List Int} {M : List (Int × Int)} {seen : List Nat} {k : Nat} {p : Int × Int} (hf : FOk cs ts) (hb : IsBeg e cs ts Bs) (hp : Arc e cs ts p) (h : Mid e cs Bs B1 M seen B) (hk : k < M.length) (hkp : M[k]! = p) :
    Mid e cs Bs B1 M (seen ++ [k]) (B.set p.2.toNat (min B[p.2.toNat]! (B[p.1.toNat]! + tm e cs p))) := by
  have hl := h.len
  have h4 := hp.ok hf
  have ha := h.bd p.1.toNat (by omega)
  have hb2 := h.bd p.2.toNat (by omega)
  have hle := hb.le p hp
  refine ⟨by rw [List.length_set]; exact h.len, fun i hi => ?_, fun q hq => ?_⟩
  · have hi' := h.bd i hi
    rw [getS (by omega)]
    split
    · rename_i he
      subst he
      show _ ≤ min _ (_ + ca e (coAt cs p.2)) ∧ min _ (_ + ca e (coAt cs p.2)) ≤ _
      omega
    · exact hi'
  · rw [List.mem_append] at hq
    rcases hq with hq | hq
    · obtain ⟨h1, h2⟩ := h.on q hq
      refine ⟨h1, ?_⟩
      by_cases he : p.2.toNat = (M[q]!).2.toNat
      · rw [← he, getS (by omega), if_pos rfl]
        rw [← he] at h2
        omega
      · by_cases hin : (M[q]!).2.toNat < B.length
        · rw [getS hin, if_neg he]; exact h2
        · rw [getS_out hin]; exact h2
    · have : q = k := by simpa using hq
      subst this
      refine ⟨hk, ?_⟩
      rw [hkp, getS (by omega), if_pos rfl]
      show min _ (_ + ca e (coAt cs p.2)) ≤ _ + ca e (coAt cs p.2)
      omega
theorem Mid.end_ {e : Int} {cs : List Co} {ts : List (Int × Int)} {Bs B1 B : List Int} {M : List (Int × Int)} {seen : List Nat} {r : Nat} (hf : FOk cs ts) (hb : IsBeg e cs ts Bs) (hM : ∀ p, p ∈ M ↔ Arc e cs ts p) (h1 : Lev cs Bs r B1) (h : Mid e cs Bs B1 M seen B) (hall : ∀ k, k < M.length → k ∈ seen) : Lev cs Bs (r + 1) B := by
  have hbl := hb.len
  refine ⟨h.len, fun i hi => ?_, fun i hi hd => ?_⟩
  · have := h.bd i hi; have := h1.bd i hi; omega
  · have h2 := h.bd i hi
    by_cases hr : dN Bs Bs[i]! ≤ r
    · have := h1.at_ i hi hr; omega
    · cases hlt : cs[i]!.lt with
      | true =>
        exfalso
        apply hr
        have h0 := hb.lit i (by omega) hlt
        rw [h0, dN_zero fun j hj => (hb.lo j hj).1]
        exact Nat.zero_le _
      | false =>
        rcases hb.via i (by omega) hlt with h3 | ⟨p, hp, hpi, h3, _⟩
        · have := h1.bd i hi; omega
        · have h4 := hp.ok hf
          have h5 := ca_pos (e := e) hf h4.2.1.1 h4.2.1.2
          have h6 := dN_lt (Bs := Bs) (x := Bs[i]!) (a := p.1.toNat) (by omega) (by omega)
          have h7 := h1.at_ p.1.toNat (by omega) (by omega)
          obtain ⟨k, hk, hkp⟩ := mem_ats ((hM p).2 hp)
          have h8 := (h.on k (hall k hk)).2
          rw [hkp, h7, show p.2.toNat = i by omega] at h8
          have h9 : B[i]! ≤ Bs[p.1.toNat]! + ca e (coAt cs p.2) := h8
          omega
theorem Lev.end_ {e : Int} {cs : List Co} {ts : List (Int × Int)} {Bs B : List Int} (hb : IsBeg e cs ts Bs) (h : Lev cs Bs cs.length B) : B = Bs := by
  have hbl := hb.len
  apply List.ext_getElem (by rw [h.len, hbl])
  intro i h1 h2
  have h3 := h.at_ i (by omega) (by have := dN_top (Bs := Bs) (a := i) h2; omega)
  rw [getElem!_pos B i h1, getElem!_pos Bs i h2] at h3
  exact h3
/-- How many are left. -/
def leftN (m : Nat) (seen : List Nat) : Nat := ((List.range m).filter fun k => decide (¬ k ∈ seen)).length
theorem leftN_lt {m k : Nat} {seen : List Nat} (hk : k < m) (hn : ¬ k ∈ seen) : leftN m (seen ++ [k]) < leftN m seen :=
  filter_lt (fun x _ hx => by simp at hx ⊢; exact hx.1) ⟨k, List.mem_range.2 hk, by simpa using hn, by simp⟩
end Go.Proofs.Ytglkphjjinmgmaa

