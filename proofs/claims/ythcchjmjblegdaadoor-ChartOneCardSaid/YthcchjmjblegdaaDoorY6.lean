/- Several texts in one. -/
import Derived.Test.YthcchjmjblegdaaDoorY5
import Derived.Test.YthcchjmjblegdaaDoorY4
/- Which packets can stay: blocks of the one become blocks of the other. -/
namespace Go.Proofs.YthcchjmjblegdaaDoor
open Go.AI
/-- How many of the first numbers. -/
def cnt (p : Nat → Bool) (n : Nat) : Nat := ((List.range n).filter p).length
theorem filter_le_of {α : Type} {p q : α → Bool} : ∀ {l : List α}, (∀ x ∈ l, p x = true → q x = true) → (l.filter p).length ≤ (l.filter q).length
  | [], _ => by simp
  | x :: l, h => by
    have h1 := filter_le_of (p := p) (q := q) (l := l) fun y hy => h y (by simp [hy])
    have h2 := h x (by simp)
    simp only [List.filter_cons]
    cases hp : p x <;> cases hq : q x <;> simp_all <;> omega
theorem cnt_le {p q : Nat → Bool} {n : Nat} (h : ∀ i, i < n → p i = true → q i = true) : cnt p n ≤ cnt q n := filter_le_of fun x hx => h x (List.mem_range.1 hx)
theorem filter_split {α : Type} {p q : α → Bool} : ∀ l : List α, (l.filter p).length = (l.filter fun x => p x && q x).length + (l.filter fun x => p x && !q x).length
  | [] => by simp
  | x :: l => by
    have := filter_split (p := p) (q := q) l
    simp only [List.filter_cons]
    cases hp : p x <;> cases hq : q x <;> simp_all <;> omega
theorem cnt_split (p q : Nat → Bool) (n : Nat) : cnt p n = cnt (fun i => p i && q i) n + cnt (fun i => p i && !q i) n := filter_split _
theorem cnt_none {p : Nat → Bool} {n : Nat} (h : ∀ i, i < n → p i = false) : cnt p n = 0 := by
  unfold cnt
  rw [List.length_eq_zero_iff, List.filter_eq_nil_iff]
  intro i hi; simp [h i (List.mem_range.1 hi)]
theorem cnt_pos {p : Nat → Bool} {n : Nat} (h : 0 < cnt p n) : ∃ i, i < n ∧ p i = true := by
  apply Classical.byContradiction
  intro hn
  have := cnt_none (p := p) (n := n) fun i hi => by
    cases hp : p i with
    | false => rfl
    | true => exact absurd ⟨i, hi, hp⟩ hn
  omega
theorem cnt_zero {p : Nat → Bool} {n i : Nat} (h : cnt p n = 0) (hi : i < n) : p i = false := by
  unfold cnt at h
  rw [List.length_eq_zero_iff, List.filter_eq_nil_iff] at h
  simpa using h i (List.mem_range.2 hi)
theorem cnt_leN (p : Nat → Bool) (n : Nat) : cnt p n ≤ n := by
  unfold cnt
  exact Nat.le_trans (List.length_filter_le _ _) (by simp)
/-- In a block of the one, and in one of the other. -/
def both (a b : List Int) (x y : Int) (i : Nat) : Bool := a[i]! == x && b[i]! == y
theorem both_iff {a b : List Int} {x y : Int} {i : Nat} : both a b x y i = true ↔ a[i]! = x ∧ b[i]! = y := by simp only [both, Bool.and_eq_true, beq_iff_eq]
def common (a b : List Int) (x y : Int) : Nat := cnt (both a b x y) a.length
/-- Packets that can stay, of the blocks from x on, if some blocks are taken. -/
structure Mat (a b : List Int) (x : Int) (tk : List Bool) (p : Nat → Bool) : Prop where
  from' : ∀ i, i < a.length → p i = true → x ≤ a[i]!
  free : ∀ i, i < a.length → p i = true → tk[(b[i]!).toNat]? = some false
  agr : ∀ i j, i < a.length → j < a.length → p i = true → p j = true → (a[i]! = a[j]! ↔ b[i]! = b[j]!)
structure Best (a b : List Int) (x : Int) (tk : List Bool) (m : Nat) : Prop where
  has : ∃ p, Mat a b x tk p ∧ cnt p a.length = m
  top : ∀ p, Mat a b x tk p → cnt p a.length ≤ m
/-- What is known when some blocks of the other have been tried. -/
structure Try (a b : List Int) (x : Int) (tk : List Bool) (y : Int) (m : Nat) : Prop where
  has : ∃ p, Mat a b x tk p ∧ cnt p a.length = m
  top : ∀ p, Mat a b x tk p → (∀ i, i < a.length → p i = true → a[i]! = x → b[i]! < y) → cnt p a.length ≤ m
variable {a b : List Int} {x y : Int} {tk : List Bool} {m k : Nat}
theorem Best.end' (h : ∀ i, i < a.length → a[i]! < x) : Best a b x tk 0 :=
  ⟨⟨fun _ => false, ⟨fun _ _ h => (by cases h), fun _ _ h => (by cases h), fun _ _ _ _ h => (by cases h)⟩, cnt_none fun _ _ => rfl⟩,
   fun p hp => by
    have := cnt_none (p := p) (n := a.length) fun i hi => by
      cases hpi : p i with
      | false => rfl
      | true => have := hp.from' i hi hpi; have := h i hi; omega
    omega⟩
theorem Mat.down {p : Nat → Bool} (h : Mat a b (x + 1) tk p) : Mat a b x tk p := ⟨fun i hi hp => by have := h.from' i hi hp; omega, h.free, h.agr⟩
theorem Best.start (hb : ∀ i, i < a.length → 0 ≤ b[i]!) (h : Best a b (x + 1) tk m) : Try a b x tk 0 m :=
  ⟨by obtain ⟨p, h1, h2⟩ := h.has; exact ⟨p, h1.down, h2⟩,
   fun p hp hy => h.top p ⟨fun i hi hpi => by
      have h1 := hp.from' i hi hpi
      by_cases he : a[i]! = x
      · have := hy i hi hpi he; have := hb i hi; omega
      · omega, hp.free, hp.agr⟩⟩
theorem Try.done (h : Try a b x tk y m) (hy : tk.length ≤ y) (hb : ∀ i, i < a.length → 0 ≤ b[i]!) : Best a b x tk m :=
  ⟨h.has, fun p hp => h.top p hp fun i hi hpi _ => by
    have := hp.free i hi hpi
    have h1 := (List.getElem?_eq_some_iff.1 this).1
    have := hb i hi
    omega⟩
theorem Try.skip (hy : 0 ≤ y) (h : Try a b x tk y m) (hn : common a b x y = 0 ∨ tk[y.toNat]? ≠ some false) : Try a b x tk (y + 1) m :=
  ⟨h.has, fun p hp hq => h.top p hp fun i hi hpi he => by
    have h1 := hq i hi hpi he
    by_cases h2 : b[i]! = y
    · exfalso
      rcases hn with hn | hn
      · have := cnt_zero (p := both a b x y) hn hi
        simp [both, he, h2] at this
      · exact hn (by rw [← h2]; exact hp.free i hi hpi)
    · omega⟩
theorem get_set {l : List Bool} {i j : Nat} {v : Bool} : (l.set i v)[j]? = if i = j then (if i < l.length then some v else none) else l[j]? := by
  rw [List.getElem?_set]
theorem Try.put (hy : 0 ≤ y) (hb : ∀ i, i < a.length → 0 ≤ b[i]!) (h : Try a b x tk y m) (hf : tk[y.toNat]? = some false) (hk : Best a b (x + 1) (tk.set y.toNat true) k) : Try a b x tk (y + 1) (max m (common a b x y + k)) := by
  have hlt := (List.getElem?_eq_some_iff.1 hf).1
  refine ⟨?_, fun p hp hq => ?_⟩
  · by_cases hc : common a b x y + k ≤ m
    · rw [Nat.max_eq_left hc]; exact h.has
    rw [Nat.max_eq_right (by omega)]
    obtain ⟨p, hp, hpc⟩ := hk.has
    have hpf : ∀ i, i < a.length → p i = true → tk[(b[i]!).toNat]? = some false ∧ b[i]! ≠ y := fun i hi hpi => by
      have := hp.free i hi hpi
      rw [get_set, if_pos hlt] at this
      split at this
      · cases this
      · rename_i hne
        exact ⟨this, fun h => hne (by rw [h])⟩
    refine ⟨fun i => p i || both a b x y i, ⟨fun i hi hpi => ?_, fun i hi hpi => ?_, fun i j hi hj hpi hpj => ?_⟩, ?_⟩
    · simp only [Bool.or_eq_true] at hpi
      rcases hpi with hpi | hpi
      · have := hp.from' i hi hpi; omega
      · have := both_iff.1 hpi; omega
    · simp only [Bool.or_eq_true] at hpi
      rcases hpi with hpi | hpi
      · exact (hpf i hi hpi).1
      · rw [(both_iff.1 hpi).2]; exact hf
    · simp only [Bool.or_eq_true] at hpi hpj
      rcases hpi with hpi | hpi <;> rcases hpj with hpj | hpj
      · exact hp.agr i j hi hj hpi hpj
      · have h1 := hp.from' i hi hpi
        have h2 := (hpf i hi hpi).2
        have hpj := both_iff.1 hpj
        rw [hpj.1, hpj.2]
        exact ⟨fun h => by omega, fun h => absurd h h2⟩
      · have h1 := hp.from' j hj hpj
        have h2 := (hpf j hj hpj).2
        have hpi := both_iff.1 hpi
        rw [hpi.1, hpi.2]
        exact ⟨fun h => by omega, fun h => absurd h.symm h2⟩
      · have hpi := both_iff.1 hpi
        have hpj := both_iff.1 hpj
        rw [hpi.1, hpi.2, hpj.1, hpj.2]; simp
    · rw [cnt_split _ (both a b x y)]
      unfold common
      congr 1
      · unfold cnt; congr 2; funext i; cases p i <;> cases both a b x y i <;> rfl
      · rw [← hpc]
        unfold cnt; congr 1
        apply List.filter_congr
        intro i hi
        have hi' := List.mem_range.1 hi
        cases hpi : p i with
        | false => cases both a b x y i <;> rfl
        | true =>
          cases hbi : both a b x y i with
          | false => rfl
          | true => exact absurd (both_iff.1 hbi).2 (hpf i hi' hpi).2
  · by_cases he : ∃ i, i < a.length ∧ p i = true ∧ a[i]! = x ∧ b[i]! = y
    · obtain ⟨i0, hi0, hp0, ha0, hb0⟩ := he
      refine Nat.le_trans ?_ (Nat.le_max_right _ _)
      rw [cnt_split p (both a b x y)]
      refine Nat.add_le_add (cnt_le fun i hi h => by simp at h; exact h.2) (hk.top _ ⟨fun i hi h => ?_, fun i hi h => ?_, fun i j hi hj h1 h2 => ?_⟩)
      · simp only [Bool.and_eq_true, Bool.not_eq_true'] at h
        have h1 := hp.from' i hi h.1
        by_cases hx : a[i]! = x
        · have := (hp.agr i i0 hi hi0 h.1 hp0).1 (by omega)
          have h2 := h.2
          rw [both_iff.2 ⟨hx, by omega⟩] at h2; cases h2
        · omega
      · simp only [Bool.and_eq_true, Bool.not_eq_true'] at h
        rw [get_set]
        have h1 := hp.free i hi h.1
        split
        · rename_i hne
          have hby : b[i]! = y := by have := hb i hi; omega
          have := (hp.agr i i0 hi hi0 h.1 hp0).2 (by omega)
          have h2 := h.2
          rw [both_iff.2 ⟨by omega, hby⟩] at h2; cases h2
        · exact h1
      · simp only [Bool.and_eq_true] at h1 h2
        exact hp.agr i j hi hj h1.1 h2.1
    · refine Nat.le_trans (h.top p hp fun i hi hpi hx => ?_) (Nat.le_max_left _ _)
      have h1 := hq i hi hpi hx
      by_cases h2 : b[i]! = y
      · exact absurd ⟨i, hi, hpi, hx, h2⟩ he
      · omega
/-- The same, by sets of bits. -/
theorem cnt_dB {p : Nat → Bool} {n : Nat} (hn : n ≤ 9) : pop (dB p n) = cnt p n := by
  unfold pop cnt
  have e : (List.range 9).filter (fun i => (dB p n).testBit i) = (List.range n).filter p := by
    have h9 : List.range 9 = List.range n ++ (List.range (9 - n)).map (n + ·) := by
      rw [← List.range_add, show n + (9 - n) = 9 by omega]
    rw [h9, List.filter_append]
    have h1 : ((List.range (9 - n)).map (n + ·)).filter (fun i => (dB p n).testBit i) = [] := by
      rw [List.filter_eq_nil_iff]
      intro i hi
      obtain ⟨j, _, rfl⟩ := List.mem_map.1 hi
      rw [dB_bit, decide_eq_false (by omega)]; simp
    rw [h1, List.append_nil]
    apply List.filter_congr
    intro i hi
    rw [dB_bit, decide_eq_true (List.mem_range.1 hi), Bool.true_and]
  rw [e]
theorem pop_cnt {t n : Nat} (hn : n ≤ 9) (ht : t < 2 ^ n) : pop t = cnt (fun i => t.testBit i) n := by
  rw [← cnt_dB hn]
  congr 1
  apply Nat.eq_of_testBit_eq
  intro i
  rw [dB_bit]
  by_cases h : i < n
  · rw [decide_eq_true h, Bool.true_and]
  · rw [decide_eq_false h, Bool.false_and, Nat.testBit_lt_two_pow (Nat.lt_of_lt_of_le ht (Nat.pow_le_pow_right (by decide) (by omega)))]
theorem blk_from_ge : ∀ (xs : List Int) (m : Int), m ≤ blkFrom xs m
  | [], m => Int.le_refl _
  | x :: r, m => by rw [blkFrom]; have := blk_from_ge r (max m (x + 1)); omega
theorem blk_gt : ∀ (xs : List Int) (m : Int) (i : Nat), i < xs.length → xs[i]! < blkFrom xs m
  | x :: r, m, 0, _ => by rw [blkFrom]; have := blk_from_ge r (max m (x + 1)); simp; omega
  | x :: r, m, i + 1, h => by rw [blkFrom]; simpa using blk_gt r (max m (x + 1)) i (by simpa using h)
theorem blk_le9 : ∀ (xs : List Int) (m : Int), m ≤ 9 → (∀ i, i < xs.length → xs[i]! < 9) → blkFrom xs m ≤ 9
  | [], m, h, _ => h
  | x :: r, m, h, hb => by
    rw [blkFrom]
    have h0 := hb 0 (by simp)
    simp at h0
    exact blk_le9 r _ (by omega) fun i hi => by simpa using hb (i + 1) (by simpa using hi)
theorem Best.stay {a b : List Int} {tk : List Bool} {m : Nat} (h9 : a.length ≤ 9) (ha : ∀ i, i < a.length → 0 ≤ a[i]!) (hb : ∀ i, i < a.length → tk[(b[i]!).toNat]? = some false) (h : Best a b 0 tk m) : Stay a b m := by
  refine ⟨?_, fun t ht hA => ?_⟩
  · obtain ⟨p, hp, rfl⟩ := h.has
    refine ⟨dB p a.length, dB_lt _ _, fun i j hi hj h1 h2 => ?_, cnt_dB h9⟩
    rw [dB_bit, Bool.and_eq_true] at h1 h2
    exact hp.agr i j hi hj h1.2 h2.2
  · rw [pop_cnt h9 ht]
    exact h.top _ ⟨fun i hi _ => ha i hi, fun i hi _ => hb i hi, fun i j hi hj h1 h2 => hA i j hi hj h1 h2⟩
theorem Stay.uniq {a b : List Int} {m k : Nat} (h : Stay a b m) (g : Stay a b k) : m = k := by
  obtain ⟨t, h1, h2, rfl⟩ := h.has
  obtain ⟨u, g1, g2, rfl⟩ := g.has
  have := h.top u g1 g2
  have := g.top t h1 h2
  omega
end Go.Proofs.YthcchjmjblegdaaDoor

/- Moves: the reference, and both held against each other. -/
namespace Go.Proofs.YthcchjmjblegdaaDoor
open Go.AI
abbrev VB (b : Bool) : Value := .bool b
theorem un87 : Tryd.prog.underlying 87 = some (.slice 4) := by kernel_rfl
theorem one4 : oneBB Tryd.prog 4 = some (.bool false, 1) := by kernel_rfl
theorem sz4 : sizeB Tryd.prog 4 = some 1 := by kernel_rfl
theorem ag4 : isAggB Tryd.prog 4 = some false := by kernel_rfl
set_option maxRecDepth 100000 in
theorem refCheckBoth_spec {B : Nat} {v u : Value} {H : Heap} {xs ys : List Int} (hB : B ≤ H.n) (hv : Ints H v xs) (hu : Ints H u ys) :
    CallB Tryd.prog B 91 [v, u] H (fun r H' => r = .int .i64 (chk2 xs ys) ∧ H' = H) := by
  refine CV.enter callees false rfl Tryd.func91 rfl ok91 (Nat.le_of_ble_eq_true rfl) hB ?_
  repeat' first
    | refine CO.cons rfl ?_
    | refine CO.nil ?_
    | refine CV.seq ?_
    | refine CV.region callees ?_
    | refine CV.cond ?_
    | refine CV.block ?_
    | refine CV.skip ?_
    | refine CV.exit ?_
    | refine CV.ret ?_
    | refine CV.scope ?_
    | refine CV.draw callees rfl ?_
    | refine CH.cons rfl ?_
    | refine CH.nil ?_
    | refine CO.consG rfl ?_
    | refine CH.consG rfl ?_
    | refine CG.cons rfl ?_
    | refine CG.nil ?_
    | refine CG.consG rfl ?_
    | refine ⟨(rfl : plain _ = true), ?_⟩
    | refine ⟨(rfl : nilOk _ = some _), ?_⟩
    | refine ⟨_, ints_len (by assumption), ?_⟩
    | refine ⟨_, ints_addr (by assumption) (by omega) (by omega), ?_⟩
    | refine ⟨_, ints_load (by assumption) (by omega) (by omega), ?_⟩
    | refine ⟨(⟨by omega, by omega⟩ : inI64 _), ?_⟩
    | refine ⟨_, fun tm ha => step1_max rfl (ev_tmp ha rfl) (ev_tmp ha rfl), ?_⟩
    | refine ⟨_, fun tm ha => step1_min rfl (ev_tmp ha rfl) (ev_tmp ha rfl), ?_⟩
    | (refine ⟨fun _ => ?_, fun _ => ?_⟩ <;> first | (exfalso; omega) | skip)
    | fail
  refine (refCheck_spec hB hv).mono ?_
  rintro r H' ⟨rfl, rfl⟩
  repeat' first
    | refine CO.cons rfl ?_
    | refine CO.nil ?_
    | refine CV.seq ?_
    | refine CV.region callees ?_
    | refine CV.cond ?_
    | refine CV.block ?_
    | refine CV.skip ?_
    | refine CV.exit ?_
    | refine CV.ret ?_
    | refine CV.scope ?_
    | refine CV.draw callees rfl ?_
    | refine CH.cons rfl ?_
    | refine CH.nil ?_
    | refine CO.consG rfl ?_
    | refine CH.consG rfl ?_
    | refine CG.cons rfl ?_
    | refine CG.nil ?_
    | refine CG.consG rfl ?_
    | refine ⟨(rfl : plain _ = true), ?_⟩
    | refine ⟨(rfl : nilOk _ = some _), ?_⟩
    | refine ⟨_, ints_len (by assumption), ?_⟩
    | refine ⟨_, ints_addr (by assumption) (by omega) (by omega), ?_⟩
    | refine ⟨_, ints_load (by assumption) (by omega) (by omega), ?_⟩
    | refine ⟨(⟨by omega, by omega⟩ : inI64 _), ?_⟩
    | refine ⟨_, fun tm ha => step1_max rfl (ev_tmp ha rfl) (ev_tmp ha rfl), ?_⟩
    | refine ⟨_, fun tm ha => step1_min rfl (ev_tmp ha rfl) (ev_tmp ha rfl), ?_⟩
    | (refine ⟨fun _ => ?_, fun _ => ?_⟩ <;> first | (exfalso; omega) | skip)
    | fail
  · exact ⟨rfl, by rw [chk2, if_neg (by assumption)], rfl⟩
  have h1 : check xs = 0 := Classical.not_not.1 (by assumption)
  refine (refCheck_spec hB hu).mono ?_
  rintro r H' ⟨rfl, rfl⟩
  repeat' first
    | refine CO.cons rfl ?_
    | refine CO.nil ?_
    | refine CV.seq ?_
    | refine CV.region callees ?_
    | refine CV.cond ?_
    | refine CV.block ?_
    | refine CV.skip ?_
    | refine CV.exit ?_
    | refine CV.ret ?_
    | refine CV.scope ?_
    | refine CV.draw callees rfl ?_
    | refine CH.cons rfl ?_
    | refine CH.nil ?_
    | refine CO.consG rfl ?_
    | refine CH.consG rfl ?_
    | refine CG.cons rfl ?_
    | refine CG.nil ?_
    | refine CG.consG rfl ?_
    | refine ⟨(rfl : plain _ = true), ?_⟩
    | refine ⟨(rfl : nilOk _ = some _), ?_⟩
    | refine ⟨_, ints_len (by assumption), ?_⟩
    | refine ⟨_, ints_addr (by assumption) (by omega) (by omega), ?_⟩
    | refine ⟨_, ints_load (by assumption) (by omega) (by omega), ?_⟩
    | refine ⟨(⟨by omega, by omega⟩ : inI64 _), ?_⟩
    | refine ⟨_, fun tm ha => step1_max rfl (ev_tmp ha rfl) (ev_tmp ha rfl), ?_⟩
    | refine ⟨_, fun tm ha => step1_min rfl (ev_tmp ha rfl) (ev_tmp ha rfl), ?_⟩
    | (refine ⟨fun _ => ?_, fun _ => ?_⟩ <;> first | (exfalso; omega) | skip)
    | fail
  · exact ⟨rfl, by rw [chk2, if_pos h1, if_neg (by assumption)], rfl⟩
  · have h2 : check ys = 0 := Classical.not_not.1 (by assumption)
    exact ⟨rfl, by rw [chk2, if_pos h1, if_pos h2, if_neg (by omega)], rfl⟩
  · have h2 : check ys = 0 := Classical.not_not.1 (by assumption)
    exact ⟨rfl, by rw [chk2, if_pos h1, if_pos h2, if_pos (by omega)], rfl⟩
theorem cnt_succ (p : Nat → Bool) (n : Nat) : cnt p (n + 1) = cnt p n + if p n then 1 else 0 := by
  unfold cnt
  rw [List.range_succ, List.filter_append, List.length_append]
  cases h : p n <;> simp [h]
set_option maxHeartbeats 1000000 in
set_option maxRecDepth 100000 in
theorem common_spec {B : Nat} {v u : Value} {H : Heap} {xs ys : List Int} {x y : Int} (hB : B ≤ H.n) (hv : Ints H v xs) (hu : Ints H u ys) (hl : xs.length = ys.length) (h9 : xs.length ≤ 9) :
    CallB Tryd.prog B 110 [v, u, .int .i64 x, .int .i64 y] H (fun r H' => r = .int .i64 (common xs ys x y) ∧ H' = H) := by
  refine CV.enter callees false rfl Tryd.func110 rfl ok110 (Nat.le_of_ble_eq_true rfl) hB ?_
  repeat' first
    | refine CO.cons rfl ?_
    | refine CO.nil ?_
    | refine CV.seq ?_
    | refine CV.region callees ?_
    | refine CV.cond ?_
    | refine CV.block ?_
    | refine CV.skip ?_
    | refine CV.exit ?_
    | refine CV.ret ?_
    | refine CV.scope ?_
    | refine CV.draw callees rfl ?_
    | refine CH.cons rfl ?_
    | refine CH.nil ?_
    | refine CO.consG rfl ?_
    | refine CH.consG rfl ?_
    | refine CG.cons rfl ?_
    | refine CG.nil ?_
    | refine CG.consG rfl ?_
    | refine ⟨(rfl : plain _ = true), ?_⟩
    | refine ⟨(rfl : nilOk _ = some _), ?_⟩
    | refine ⟨_, ints_len (by assumption), ?_⟩
    | refine ⟨_, ints_addr (by assumption) (by omega) (by omega), ?_⟩
    | refine ⟨_, ints_load (by assumption) (by omega) (by omega), ?_⟩
    | refine ⟨(⟨by omega, by omega⟩ : inI64 _), ?_⟩
    | refine ⟨_, fun tm ha => step1_max rfl (ev_tmp ha rfl) (ev_tmp ha rfl), ?_⟩
    | refine ⟨_, fun tm ha => step1_min rfl (ev_tmp ha rfl) (ev_tmp ha rfl), ?_⟩
    | (refine ⟨fun _ => ?_, fun _ => ?_⟩ <;> first | (exfalso; omega) | skip)
    | fail
  refine CV.loopc ?_
  refine WCv.rounds callees false (α := Nat) (fun i => [(0, v), (1, u), (2, .int .i64 x), (3, .int .i64 y), (9, .int .i64 (cnt (both xs ys x y) i)), (10, .int .i64 i)]) (fun i Hz => Hz = H ∧ i ≤ xs.length) (fun i => xs.length - i) (0) (by repeat' first | exact trivial | refine ⟨rfl, ?_⟩ | refine ⟨slot_int (by (try simp only [Int.toNat_natCast]); omega), ?_⟩) ?_ ?_
  · exact ⟨rfl, by omega⟩
  rintro i Hx ⟨rfl, hi0⟩ hBx
  have hc := cnt_leN (both xs ys x y) i
  have hs := cnt_succ (both xs ys x y) i
  repeat' first
    | refine CO.cons rfl ?_
    | refine CO.nil ?_
    | refine CV.seq ?_
    | refine CV.region callees ?_
    | refine CV.cond ?_
    | refine CV.block ?_
    | refine CV.skip ?_
    | refine CV.exit ?_
    | refine CV.ret ?_
    | refine CV.scope ?_
    | refine CV.draw callees rfl ?_
    | refine CH.cons rfl ?_
    | refine CH.nil ?_
    | refine CO.consG rfl ?_
    | refine CH.consG rfl ?_
    | refine CG.cons rfl ?_
    | refine CG.nil ?_
    | refine CG.consG rfl ?_
    | refine ⟨(rfl : plain _ = true), ?_⟩
    | refine ⟨(rfl : nilOk _ = some _), ?_⟩
    | refine ⟨_, ints_len (by assumption), ?_⟩
    | refine ⟨_, ints_addr (by assumption) (by omega) (by omega), ?_⟩
    | refine ⟨_, ints_load (by assumption) (by omega) (by omega), ?_⟩
    | refine ⟨(⟨by omega, by omega⟩ : inI64 _), ?_⟩
    | refine ⟨_, fun tm ha => step1_max rfl (ev_tmp ha rfl) (ev_tmp ha rfl), ?_⟩
    | refine ⟨_, fun tm ha => step1_min rfl (ev_tmp ha rfl) (ev_tmp ha rfl), ?_⟩
    | (refine ⟨fun _ => ?_, fun _ => ?_⟩ <;> first | (exfalso; omega) | skip)
    | fail
  · rename_i h1 h2 h3
    rw [Int.toNat_natCast] at h2 h3
    rw [both_iff.2 ⟨h2, h3⟩, if_pos rfl] at hs
    refine ⟨(i + 1), (by repeat' first | exact trivial | refine ⟨rfl, ?_⟩ | refine ⟨slot_int (by (try simp only [Int.toNat_natCast]); omega), ?_⟩), (by (try dsimp only); omega), ?_⟩
    exact ⟨rfl, by omega⟩
  · rename_i h1 h2 h3
    rw [Int.toNat_natCast] at h2 h3
    have h4 : both xs ys x y i = false := by
      cases h5 : both xs ys x y i with
      | false => rfl
      | true => exact absurd (both_iff.1 h5).2 h3
    rw [h4, if_neg (by decide)] at hs
    refine ⟨(i + 1), (by repeat' first | exact trivial | refine ⟨rfl, ?_⟩ | refine ⟨slot_int (by (try simp only [Int.toNat_natCast]); omega), ?_⟩), (by (try dsimp only); omega), ?_⟩
    exact ⟨rfl, by omega⟩
  · rename_i h1 h2
    rw [Int.toNat_natCast] at h2
    have h4 : both xs ys x y i = false := by
      cases h5 : both xs ys x y i with
      | false => rfl
      | true => exact absurd (both_iff.1 h5).1 h2
    rw [h4, if_neg (by decide)] at hs
    refine ⟨(i + 1), (by repeat' first | exact trivial | refine ⟨rfl, ?_⟩ | refine ⟨slot_int (by (try simp only [Int.toNat_natCast]); omega), ?_⟩), (by (try dsimp only); omega), ?_⟩
    exact ⟨rfl, by omega⟩
  · exact ⟨rfl, by rw [show i = xs.length by omega]; rfl, rfl⟩
theorem bools_len {H : Heap} {v : Value} {l : List Bool} (h : Row H v (l.map VB)) : alen Tryd.prog H 87 v = some (.int .i64 l.length) := by
  have := Row.alen h un87; simpa using this
theorem bools_addr {H : Heap} {v : Value} {l : List Bool} (h : Row H v (l.map VB)) {i : Int} (h0 : 0 ≤ i) (h1 : i < l.length) : aindexAddr Tryd.prog 87 v (.int .i64 i) = some (elemAt v i.toNat) := Row.addr h un87 sz4 h0 (by simpa using h1)
theorem bools_load {H : Heap} {v : Value} {l : List Bool} (h : Row H v (l.map VB)) {i : Int} (h0 : 0 ≤ i) (h1 : i < l.length) : aload Tryd.prog 4 H (elemAt v i.toNat) = some (VB l[i.toNat]!) := by
  have : i.toNat < l.length := by omega
  exact Row.load h ag4 (by simp [List.getElem?_map, List.getElem?_eq_getElem this, getElem!_pos, this])
theorem bput_ask {H : Heap} {K : Heap → Prop} {B B0 : Nat} {x : Value} {y : Bool} {l : List Bool} {i : Nat} (hx : Own 4 H x (l.map VB) B0) (hB : B ≤ B0) (hi : i < l.length)
    (hk : ∀ H', Own 4 H' x ((l.set i y).map VB) B0 → KeepBut x H H' → K H') :
    ∃ H' b, astore Tryd.prog 4 H (.bool y) (elemAt x i) = some (H', b) ∧ B ≤ b ∧ K H' :=
  store_ask sz4 hx hB (by simpa using hi) rfl fun H' h => hk H' (by rw [List.map_set]; exact h)
set_option maxHeartbeats 2000000 in
set_option maxRecDepth 100000 in
theorem stay_spec {xs ys : List Int} (hcx : check xs = 0) (hcy : check ys = 0) (hl : xs.length = ys.length) : ∀ (d : Nat) {B : Nat} {v u t : Value} {H0 H : Heap} {x : Int} {tk : List Bool}, B ≤ H0.n → Ints H0 v xs → Ints H0 u ys → Keep H0 H → Own 4 H t (tk.map VB) H0.n → tk.length ≤ 9 → 0 ≤ x → x + d = blkFrom xs 0 →
    CallB Tryd.prog B 95 [v, u, .int .i64 x, t] H (fun r H' => (∃ m : Nat, r = .int .i64 m ∧ m ≤ 9 ∧ Best xs ys x tk m) ∧ Own 4 H' t (tk.map VB) H0.n ∧ Keep H0 H')
  | d, B, v, u, t, H0, H, x, tk, hB0, hv0, hu0, k0, ht, htl, hx0, hd => by
    have hB : B ≤ H.n := Nat.le_trans hB0 k0.1
    have hlx := check_len hcx
    have hbx : ∀ i, i < xs.length → 0 ≤ xs[i]! ∧ xs[i]! < 9 := fun i hi => check_bound hcx hi
    have hby : ∀ i, i < xs.length → 0 ≤ ys[i]! := fun i hi => (check_bound hcy (by omega)).1
    have hb9 := blk_le9 xs 0 (by omega) fun i hi => (hbx i hi).2
    have hv : Ints H v xs := hv0.keep k0
    refine CV.enter callees false rfl Tryd.func95 rfl ok95 (Nat.le_of_ble_eq_true rfl) hB ?_
    repeat' first
      | refine CO.cons rfl ?_
      | refine CO.nil ?_
      | refine CV.seq ?_
      | refine CV.region callees ?_
      | refine CV.cond ?_
      | refine CV.block ?_
      | refine CV.skip ?_
      | refine CV.exit ?_
      | refine CV.ret ?_
      | refine CV.scope ?_
      | refine CV.draw callees rfl ?_
      | refine CH.cons rfl ?_
      | refine CH.nil ?_
      | refine CO.consG rfl ?_
      | refine CH.consG rfl ?_
      | refine CG.cons rfl ?_
      | refine CG.nil ?_
      | refine CG.consG rfl ?_
      | refine ⟨(rfl : plain _ = true), ?_⟩
      | refine ⟨(rfl : nilOk _ = some _), ?_⟩
      | refine ⟨_, ints_len (by assumption), ?_⟩
      | refine ⟨_, ints_addr (by assumption) (by omega) (by omega), ?_⟩
      | refine ⟨_, ints_load (by assumption) (by omega) (by omega), ?_⟩
      | refine ⟨(⟨by omega, by omega⟩ : inI64 _), ?_⟩
      | refine ⟨_, fun tm ha => step1_max rfl (ev_tmp ha rfl) (ev_tmp ha rfl), ?_⟩
      | refine ⟨_, fun tm ha => step1_min rfl (ev_tmp ha rfl) (ev_tmp ha rfl), ?_⟩
      | (refine ⟨fun _ => ?_, fun _ => ?_⟩ <;> first | (exfalso; omega) | skip)
      | fail
    refine (refBlocks_spec hB hv hbx (by omega)).mono ?_
    rintro r H1 ⟨rfl, rfl⟩
    cases d with
    | zero =>
      repeat' first
        | refine CO.cons rfl ?_
        | refine CO.nil ?_
        | refine CV.seq ?_
        | refine CV.region callees ?_
        | refine CV.cond ?_
        | refine CV.block ?_
        | refine CV.skip ?_
        | refine CV.exit ?_
        | refine CV.ret ?_
        | refine CV.scope ?_
        | refine CV.draw callees rfl ?_
        | refine CH.cons rfl ?_
        | refine CH.nil ?_
        | refine CO.consG rfl ?_
        | refine CH.consG rfl ?_
        | refine CG.cons rfl ?_
        | refine CG.nil ?_
        | refine CG.consG rfl ?_
        | refine ⟨(rfl : plain _ = true), ?_⟩
        | refine ⟨(rfl : nilOk _ = some _), ?_⟩
        | refine ⟨_, ints_len (by assumption), ?_⟩
        | refine ⟨_, ints_addr (by assumption) (by omega) (by omega), ?_⟩
        | refine ⟨_, ints_load (by assumption) (by omega) (by omega), ?_⟩
        | refine ⟨(⟨by omega, by omega⟩ : inI64 _), ?_⟩
        | refine ⟨_, fun tm ha => step1_max rfl (ev_tmp ha rfl) (ev_tmp ha rfl), ?_⟩
        | refine ⟨_, fun tm ha => step1_min rfl (ev_tmp ha rfl) (ev_tmp ha rfl), ?_⟩
        | (refine ⟨fun _ => ?_, fun _ => ?_⟩ <;> first | (exfalso; omega) | skip)
        | fail
      exact ⟨rfl, ⟨0, rfl, by omega, Best.end' fun i hi => by have := blk_gt xs 0 i hi; omega⟩, ht, k0⟩
    | succ d =>
      repeat' first
        | refine CO.cons rfl ?_
        | refine CO.nil ?_
        | refine CV.seq ?_
        | refine CV.region callees ?_
        | refine CV.cond ?_
        | refine CV.block ?_
        | refine CV.skip ?_
        | refine CV.exit ?_
        | refine CV.ret ?_
        | refine CV.scope ?_
        | refine CV.draw callees rfl ?_
        | refine CH.cons rfl ?_
        | refine CH.nil ?_
        | refine CO.consG rfl ?_
        | refine CH.consG rfl ?_
        | refine CG.cons rfl ?_
        | refine CG.nil ?_
        | refine CG.consG rfl ?_
        | refine ⟨(rfl : plain _ = true), ?_⟩
        | refine ⟨(rfl : nilOk _ = some _), ?_⟩
        | refine ⟨_, ints_len (by assumption), ?_⟩
        | refine ⟨_, ints_addr (by assumption) (by omega) (by omega), ?_⟩
        | refine ⟨_, ints_load (by assumption) (by omega) (by omega), ?_⟩
        | refine ⟨(⟨by omega, by omega⟩ : inI64 _), ?_⟩
        | refine ⟨_, fun tm ha => step1_max rfl (ev_tmp ha rfl) (ev_tmp ha rfl), ?_⟩
        | refine ⟨_, fun tm ha => step1_min rfl (ev_tmp ha rfl) (ev_tmp ha rfl), ?_⟩
        | (refine ⟨fun _ => ?_, fun _ => ?_⟩ <;> first | (exfalso; omega) | skip)
        | fail
      refine (stay_spec hcx hcy hl d hB0 hv0 hu0 k0 ht htl (by omega) (by omega)).mono ?_
      rintro r H2 ⟨⟨m0, rfl, hm0, hM0⟩, ht2, k2⟩
      repeat' first
        | refine CO.cons rfl ?_
        | refine CO.nil ?_
        | refine CV.seq ?_
        | refine CV.region callees ?_
        | refine CV.cond ?_
        | refine CV.block ?_
        | refine CV.skip ?_
        | refine CV.exit ?_
        | refine CV.ret ?_
        | refine CV.scope ?_
        | refine CV.draw callees rfl ?_
        | refine CH.cons rfl ?_
        | refine CH.nil ?_
        | refine CO.consG rfl ?_
        | refine CH.consG rfl ?_
        | refine CG.cons rfl ?_
        | refine CG.nil ?_
        | refine CG.consG rfl ?_
        | refine ⟨(rfl : plain _ = true), ?_⟩
        | refine ⟨(rfl : nilOk _ = some _), ?_⟩
        | refine ⟨_, ints_len (by assumption), ?_⟩
        | refine ⟨_, ints_addr (by assumption) (by omega) (by omega), ?_⟩
        | refine ⟨_, ints_load (by assumption) (by omega) (by omega), ?_⟩
        | refine ⟨(⟨by omega, by omega⟩ : inI64 _), ?_⟩
        | refine ⟨_, fun tm ha => step1_max rfl (ev_tmp ha rfl) (ev_tmp ha rfl), ?_⟩
        | refine ⟨_, fun tm ha => step1_min rfl (ev_tmp ha rfl) (ev_tmp ha rfl), ?_⟩
        | (refine ⟨fun _ => ?_, fun _ => ?_⟩ <;> first | (exfalso; omega) | skip)
        | fail
      refine CV.loopc ?_
      refine WCv.rounds callees false (α := Nat × Nat) (fun (j, m) => [(0, v), (1, u), (2, .int .i64 x), (3, t), (9, .int .i64 m), (10, .int .i64 j)]) (fun (j, m) Hz => j ≤ tk.length ∧ m ≤ 9 ∧ Own 4 Hz t (tk.map VB) H0.n ∧ Keep H0 Hz ∧ Try xs ys x tk j m) (fun (j, m) => tk.length - j) (0, m0) (by repeat' first | exact trivial | refine ⟨rfl, ?_⟩ | refine ⟨slot_int (by (try simp only [Int.toNat_natCast]); omega), ?_⟩) ?_ ?_
      · exact ⟨by omega, hm0, ht2, k2, hM0.start hby⟩
      rintro ⟨j, m⟩ Hx ⟨hj, hm, htx, kx, hT⟩ hBx
      have hvx : Ints Hx v xs := hv0.keep kx
      have hux : Ints Hx u ys := hu0.keep kx
      have htr := htx.row
      repeat' first
        | refine CO.cons rfl ?_
        | refine CO.nil ?_
        | refine CV.seq ?_
        | refine CV.region callees ?_
        | refine CV.cond ?_
        | refine CV.block ?_
        | refine CV.skip ?_
        | refine CV.exit ?_
        | refine CV.ret ?_
        | refine CV.scope ?_
        | refine CV.draw callees rfl ?_
        | refine CH.cons rfl ?_
        | refine CH.nil ?_
        | refine CO.consG rfl ?_
        | refine CH.consG rfl ?_
        | refine CG.cons rfl ?_
        | refine CG.nil ?_
        | refine CG.consG rfl ?_
        | refine ⟨(rfl : plain _ = true), ?_⟩
        | refine ⟨(rfl : nilOk _ = some _), ?_⟩
        | refine ⟨_, ints_len (by assumption), ?_⟩
        | refine ⟨_, ints_addr (by assumption) (by omega) (by omega), ?_⟩
        | refine ⟨_, ints_load (by assumption) (by omega) (by omega), ?_⟩
        | refine ⟨(⟨by omega, by omega⟩ : inI64 _), ?_⟩
        | refine ⟨_, fun tm ha => step1_max rfl (ev_tmp ha rfl) (ev_tmp ha rfl), ?_⟩
        | refine ⟨_, fun tm ha => step1_min rfl (ev_tmp ha rfl) (ev_tmp ha rfl), ?_⟩
        | refine ⟨_, bools_len htr, ?_⟩
        | (refine ⟨fun _ => ?_, fun _ => ?_⟩ <;> first | (exfalso; omega) | skip)
        | fail
      · refine (common_spec hBx hvx hux hl hlx.2).mono ?_
        rintro r H3 ⟨rfl, rfl⟩
        have hcn : common xs ys x j ≤ 9 := Nat.le_trans (cnt_leN _ _) hlx.2
        obtain ⟨f, hf⟩ : ∃ f, tk[(j : Int).toNat]! = f := ⟨_, rfl⟩
        have hf2 : tk[j]? = some f := by
          rw [Int.toNat_natCast] at hf
          rw [List.getElem?_eq_getElem (by omega), ← hf, getElem!_pos tk j (by omega)]
        have hld := bools_load htr (i := (j : Int)) (by omega) (by omega)
        rw [hf] at hld
        have hskip : (common xs ys x j = 0 ∨ f = true) → Try xs ys x tk ((j + 1 : Nat) : Int) m := fun h => by
          rw [show ((j + 1 : Nat) : Int) = (j : Int) + 1 by omega]
          refine hT.skip (by omega) (h.imp id fun h => ?_)
          rw [Int.toNat_natCast, hf2, h]; simp
        cases f with
        | true =>
          repeat' first
            | refine CO.cons rfl ?_
            | refine CO.nil ?_
            | refine CV.seq ?_
            | refine CV.region callees ?_
            | refine CV.cond ?_
            | refine CV.block ?_
            | refine CV.skip ?_
            | refine CV.exit ?_
            | refine CV.ret ?_
            | refine CV.scope ?_
            | refine CV.draw callees rfl ?_
            | refine CH.cons rfl ?_
            | refine CH.nil ?_
            | refine CO.consG rfl ?_
            | refine CH.consG rfl ?_
            | refine CG.cons rfl ?_
            | refine CG.nil ?_
            | refine CG.consG rfl ?_
            | refine ⟨(rfl : plain _ = true), ?_⟩
            | refine ⟨(rfl : nilOk _ = some _), ?_⟩
            | refine ⟨_, ints_len (by assumption), ?_⟩
            | refine ⟨_, ints_addr (by assumption) (by omega) (by omega), ?_⟩
            | refine ⟨_, ints_load (by assumption) (by omega) (by omega), ?_⟩
            | refine ⟨(⟨by omega, by omega⟩ : inI64 _), ?_⟩
            | refine ⟨_, fun tm ha => step1_max rfl (ev_tmp ha rfl) (ev_tmp ha rfl), ?_⟩
            | refine ⟨_, fun tm ha => step1_min rfl (ev_tmp ha rfl) (ev_tmp ha rfl), ?_⟩
            | refine ⟨_, bools_addr htr (by omega) (by omega), ?_⟩
            | refine ⟨_, hld, ?_⟩
            | (refine ⟨fun _ => ?_, fun _ => ?_⟩ <;> first | (exfalso; omega) | skip)
            | fail
          · refine ⟨(j + 1, m), (by repeat' first | exact trivial | refine ⟨rfl, ?_⟩ | refine ⟨slot_int (by (try simp only [Int.toNat_natCast]); omega), ?_⟩), (by (try dsimp only); omega), ?_⟩
            exact ⟨by omega, hm, htx, kx, hskip (.inr rfl)⟩
          · refine ⟨(j + 1, m), (by repeat' first | exact trivial | refine ⟨rfl, ?_⟩ | refine ⟨slot_int (by (try simp only [Int.toNat_natCast]); omega), ?_⟩), (by (try dsimp only); omega), ?_⟩
            exact ⟨by omega, hm, htx, kx, hskip (.inr rfl)⟩
        | false =>
          repeat' first
            | refine CO.cons rfl ?_
            | refine CO.nil ?_
            | refine CV.seq ?_
            | refine CV.region callees ?_
            | refine CV.cond ?_
            | refine CV.block ?_
            | refine CV.skip ?_
            | refine CV.exit ?_
            | refine CV.ret ?_
            | refine CV.scope ?_
            | refine CV.draw callees rfl ?_
            | refine CH.cons rfl ?_
            | refine CH.nil ?_
            | refine CO.consG rfl ?_
            | refine CH.consG rfl ?_
            | refine CG.cons rfl ?_
            | refine CG.nil ?_
            | refine CG.consG rfl ?_
            | refine ⟨(rfl : plain _ = true), ?_⟩
            | refine ⟨(rfl : nilOk _ = some _), ?_⟩
            | refine ⟨_, ints_len (by assumption), ?_⟩
            | refine ⟨_, ints_addr (by assumption) (by omega) (by omega), ?_⟩
            | refine ⟨_, ints_load (by assumption) (by omega) (by omega), ?_⟩
            | refine ⟨(⟨by omega, by omega⟩ : inI64 _), ?_⟩
            | refine ⟨_, fun tm ha => step1_max rfl (ev_tmp ha rfl) (ev_tmp ha rfl), ?_⟩
            | refine ⟨_, fun tm ha => step1_min rfl (ev_tmp ha rfl) (ev_tmp ha rfl), ?_⟩
            | refine ⟨_, bools_addr htr (by omega) (by omega), ?_⟩
            | refine ⟨_, hld, ?_⟩
            | (refine ⟨fun _ => ?_, fun _ => ?_⟩ <;> first | (exfalso; omega) | skip)
            | fail
          · refine bput_ask (i := (j : Int).toNat) htx hB0 (by omega) ?_
            rw [Int.toNat_natCast]
            intro H4 ht4 kb4
            have k4 := kb4.keep kx fun c hc => (htx.lt hc).1
            repeat' first
              | refine CO.cons rfl ?_
              | refine CO.nil ?_
              | refine CV.seq ?_
              | refine CV.region callees ?_
              | refine CV.cond ?_
              | refine CV.block ?_
              | refine CV.skip ?_
              | refine CV.exit ?_
              | refine CV.ret ?_
              | refine CV.scope ?_
              | refine CV.draw callees rfl ?_
              | refine CH.cons rfl ?_
              | refine CH.nil ?_
              | refine CO.consG rfl ?_
              | refine CH.consG rfl ?_
              | refine CG.cons rfl ?_
              | refine CG.nil ?_
              | refine CG.consG rfl ?_
              | refine ⟨(rfl : plain _ = true), ?_⟩
              | refine ⟨(rfl : nilOk _ = some _), ?_⟩
              | refine ⟨_, ints_len (by assumption), ?_⟩
              | refine ⟨_, ints_addr (by assumption) (by omega) (by omega), ?_⟩
              | refine ⟨_, ints_load (by assumption) (by omega) (by omega), ?_⟩
              | refine ⟨(⟨by omega, by omega⟩ : inI64 _), ?_⟩
              | refine ⟨_, fun tm ha => step1_max rfl (ev_tmp ha rfl) (ev_tmp ha rfl), ?_⟩
              | refine ⟨_, fun tm ha => step1_min rfl (ev_tmp ha rfl) (ev_tmp ha rfl), ?_⟩
              | (refine ⟨fun _ => ?_, fun _ => ?_⟩ <;> first | (exfalso; omega) | skip)
              | fail
            refine (stay_spec hcx hcy hl d hB0 hv0 hu0 k4 ht4 (by rw [List.length_set]; exact htl) (by omega) (by omega)).mono ?_
            rintro r H5 ⟨⟨m1, rfl, hm1, hM1⟩, ht5, k5⟩
            repeat' first
              | refine CO.cons rfl ?_
              | refine CO.nil ?_
              | refine CV.seq ?_
              | refine CV.region callees ?_
              | refine CV.cond ?_
              | refine CV.block ?_
              | refine CV.skip ?_
              | refine CV.exit ?_
              | refine CV.ret ?_
              | refine CV.scope ?_
              | refine CV.draw callees rfl ?_
              | refine CH.cons rfl ?_
              | refine CH.nil ?_
              | refine CO.consG rfl ?_
              | refine CH.consG rfl ?_
              | refine CG.cons rfl ?_
              | refine CG.nil ?_
              | refine CG.consG rfl ?_
              | refine ⟨(rfl : plain _ = true), ?_⟩
              | refine ⟨(rfl : nilOk _ = some _), ?_⟩
              | refine ⟨_, ints_len (by assumption), ?_⟩
              | refine ⟨_, ints_addr (by assumption) (by omega) (by omega), ?_⟩
              | refine ⟨_, ints_load (by assumption) (by omega) (by omega), ?_⟩
              | refine ⟨(⟨by omega, by omega⟩ : inI64 _), ?_⟩
              | refine ⟨_, fun tm ha => step1_max rfl (ev_tmp ha rfl) (ev_tmp ha rfl), ?_⟩
              | refine ⟨_, fun tm ha => step1_min rfl (ev_tmp ha rfl) (ev_tmp ha rfl), ?_⟩
              | refine ⟨_, bools_addr ht5.row (by omega) (by rw [List.length_set]; omega), ?_⟩
              | (refine ⟨fun _ => ?_, fun _ => ?_⟩ <;> first | (exfalso; omega) | skip)
              | fail
            refine bput_ask (i := (j : Int).toNat) ht5 hB0 (by rw [List.length_set]; omega) ?_
            rw [Int.toNat_natCast]
            intro H6 ht6 kb6
            have k6 := kb6.keep k5 fun c hc => (ht5.lt hc).1
            have e6 : (tk.set j true).set j false = tk := by
              rw [List.set_set]
              apply List.ext_getElem?
              intro q
              rw [List.getElem?_set]
              split
              · rename_i hq
                subst hq
                rw [if_pos (by omega), hf2]
              · rfl
            rw [e6] at ht6
            have hT' := hT.put (by omega) hby (by rw [Int.toNat_natCast]; exact hf2) (by rw [Int.toNat_natCast]; exact hM1)
            obtain ⟨p, _, hp⟩ := hT'.has
            have hp9 := cnt_leN p xs.length
            repeat' first
              | refine CO.cons rfl ?_
              | refine CO.nil ?_
              | refine CV.seq ?_
              | refine CV.region callees ?_
              | refine CV.cond ?_
              | refine CV.block ?_
              | refine CV.skip ?_
              | refine CV.exit ?_
              | refine CV.ret ?_
              | refine CV.scope ?_
              | refine CV.draw callees rfl ?_
              | refine CH.cons rfl ?_
              | refine CH.nil ?_
              | refine CO.consG rfl ?_
              | refine CH.consG rfl ?_
              | refine CG.cons rfl ?_
              | refine CG.nil ?_
              | refine CG.consG rfl ?_
              | refine ⟨(rfl : plain _ = true), ?_⟩
              | refine ⟨(rfl : nilOk _ = some _), ?_⟩
              | refine ⟨_, ints_len (by assumption), ?_⟩
              | refine ⟨_, ints_addr (by assumption) (by omega) (by omega), ?_⟩
              | refine ⟨_, ints_load (by assumption) (by omega) (by omega), ?_⟩
              | refine ⟨(⟨by omega, by omega⟩ : inI64 _), ?_⟩
              | refine ⟨_, fun tm ha => step1_max rfl (ev_tmp ha rfl) (ev_tmp ha rfl), ?_⟩
              | refine ⟨_, fun tm ha => step1_min rfl (ev_tmp ha rfl) (ev_tmp ha rfl), ?_⟩
              | (refine ⟨fun _ => ?_, fun _ => ?_⟩ <;> first | (exfalso; omega) | skip)
              | fail
            refine ⟨(j + 1, max m (common xs ys x j + m1)), (by repeat' first | exact trivial | refine ⟨rfl, ?_⟩ | refine ⟨slot_int (by (try simp only [Int.toNat_natCast]); omega), ?_⟩), (by (try dsimp only); omega), ?_⟩
            exact ⟨by omega, by omega, ht6, k6, by rw [show ((j + 1 : Nat) : Int) = (j : Int) + 1 by omega]; exact hT'⟩
          · refine ⟨(j + 1, m), (by repeat' first | exact trivial | refine ⟨rfl, ?_⟩ | refine ⟨slot_int (by (try simp only [Int.toNat_natCast]); omega), ?_⟩), (by (try dsimp only); omega), ?_⟩
            exact ⟨by omega, hm, htx, kx, hskip (.inl (by omega))⟩
      · exact ⟨rfl, ⟨m, rfl, hm, hT.done (by omega) hby⟩, htx, kx⟩

set_option maxHeartbeats 1000000 in
set_option maxRecDepth 100000 in
theorem refMoves_spec {B : Nat} {v u : Value} {H : Heap} {xs ys : List Int} (hB : B ≤ H.n) (hv : Ints H v xs) (hu : Ints H u ys) :
    CallB Tryd.prog B 48 [v, u] H (fun r H' => (∃ m : Int, r = .tuple #[.int .i64 m, .int .i64 (chk2 xs ys)] ∧ (chk2 xs ys = 0 → ∃ k : Nat, m = xs.length - k ∧ Stay xs ys k) ∧ (chk2 xs ys ≠ 0 → m = 0)) ∧ Keep H H') := by
  refine CV.enter callees false rfl Tryd.func48 rfl ok48 (Nat.le_of_ble_eq_true rfl) hB ?_
  repeat' first
    | refine CO.cons rfl ?_
    | refine CO.nil ?_
    | refine CV.seq ?_
    | refine CV.region callees ?_
    | refine CV.cond ?_
    | refine CV.block ?_
    | refine CV.skip ?_
    | refine CV.exit ?_
    | refine CV.ret ?_
    | refine CV.scope ?_
    | refine CV.draw callees rfl ?_
    | refine CH.cons rfl ?_
    | refine CH.nil ?_
    | refine CO.consG rfl ?_
    | refine CH.consG rfl ?_
    | refine CG.cons rfl ?_
    | refine CG.nil ?_
    | refine CG.consG rfl ?_
    | refine ⟨(rfl : plain _ = true), ?_⟩
    | refine ⟨(rfl : nilOk _ = some _), ?_⟩
    | refine ⟨_, ints_len (by assumption), ?_⟩
    | refine ⟨_, ints_addr (by assumption) (by omega) (by omega), ?_⟩
    | refine ⟨_, ints_load (by assumption) (by omega) (by omega), ?_⟩
    | refine ⟨(⟨by omega, by omega⟩ : inI64 _), ?_⟩
    | refine ⟨_, fun tm ha => step1_max rfl (ev_tmp ha rfl) (ev_tmp ha rfl), ?_⟩
    | refine ⟨_, fun tm ha => step1_min rfl (ev_tmp ha rfl) (ev_tmp ha rfl), ?_⟩
    | (refine ⟨fun _ => ?_, fun _ => ?_⟩ <;> first | (exfalso; omega) | skip)
    | fail
  refine (refCheckBoth_spec hB hv hu).mono ?_
  rintro r H1 ⟨rfl, rfl⟩
  repeat' first
    | refine CO.cons rfl ?_
    | refine CO.nil ?_
    | refine CV.seq ?_
    | refine CV.region callees ?_
    | refine CV.cond ?_
    | refine CV.block ?_
    | refine CV.skip ?_
    | refine CV.exit ?_
    | refine CV.ret ?_
    | refine CV.scope ?_
    | refine CV.draw callees rfl ?_
    | refine CH.cons rfl ?_
    | refine CH.nil ?_
    | refine CO.consG rfl ?_
    | refine CH.consG rfl ?_
    | refine CG.cons rfl ?_
    | refine CG.nil ?_
    | refine CG.consG rfl ?_
    | refine ⟨(rfl : plain _ = true), ?_⟩
    | refine ⟨(rfl : nilOk _ = some _), ?_⟩
    | refine ⟨_, ints_len (by assumption), ?_⟩
    | refine ⟨_, ints_addr (by assumption) (by omega) (by omega), ?_⟩
    | refine ⟨_, ints_load (by assumption) (by omega) (by omega), ?_⟩
    | refine ⟨(⟨by omega, by omega⟩ : inI64 _), ?_⟩
    | refine ⟨_, fun tm ha => step1_max rfl (ev_tmp ha rfl) (ev_tmp ha rfl), ?_⟩
    | refine ⟨_, fun tm ha => step1_min rfl (ev_tmp ha rfl) (ev_tmp ha rfl), ?_⟩
    | (refine ⟨fun _ => ?_, fun _ => ?_⟩ <;> first | (exfalso; omega) | skip)
    | fail
  · exact ⟨rfl, ⟨0, rfl, fun h => absurd h (by assumption), fun _ => rfl⟩, Keep.refl _⟩
  have h0 : chk2 xs ys = 0 := Classical.not_not.1 (by assumption)
  obtain ⟨hcx, hcy, hl⟩ := chk2_zero h0
  have hlx := check_len hcx
  have hby : ∀ i, i < ys.length → 0 ≤ ys[i]! ∧ ys[i]! < 9 := fun i hi => check_bound hcy hi
  refine (refBlocks_spec hB hu hby (by omega)).mono ?_
  rintro r H2 ⟨rfl, rfl⟩
  have hb9 := blk_le9 ys 0 (by omega) fun i hi => (hby i hi).2
  have hb0 := blk_from_ge ys 0
  obtain ⟨n, hn⟩ : ∃ n : Nat, blkFrom ys 0 = n := ⟨(blkFrom ys 0).toNat, by omega⟩
  have hx9 := blk_le9 xs 0 (by omega) fun i hi => (check_bound hcx hi).2
  have hx0 := blk_from_ge xs 0
  rw [hn]
  refine ⟨_, _, make_row un87 one4 (by omega) n (by omega), ?_⟩
  repeat' first
    | refine CO.cons rfl ?_
    | refine CO.nil ?_
    | refine CV.seq ?_
    | refine CV.region callees ?_
    | refine CV.cond ?_
    | refine CV.block ?_
    | refine CV.skip ?_
    | refine CV.exit ?_
    | refine CV.ret ?_
    | refine CV.scope ?_
    | refine CV.draw callees rfl ?_
    | refine CH.cons rfl ?_
    | refine CH.nil ?_
    | refine CO.consG rfl ?_
    | refine CH.consG rfl ?_
    | refine CG.cons rfl ?_
    | refine CG.nil ?_
    | refine CG.consG rfl ?_
    | refine ⟨(rfl : plain _ = true), ?_⟩
    | refine ⟨(rfl : nilOk _ = some _), ?_⟩
    | refine ⟨_, ints_len (by assumption), ?_⟩
    | refine ⟨_, ints_addr (by assumption) (by omega) (by omega), ?_⟩
    | refine ⟨_, ints_load (by assumption) (by omega) (by omega), ?_⟩
    | refine ⟨(⟨by omega, by omega⟩ : inI64 _), ?_⟩
    | refine ⟨_, fun tm ha => step1_max rfl (ev_tmp ha rfl) (ev_tmp ha rfl), ?_⟩
    | refine ⟨_, fun tm ha => step1_min rfl (ev_tmp ha rfl) (ev_tmp ha rfl), ?_⟩
    | (refine ⟨fun _ => ?_, fun _ => ?_⟩ <;> first | (exfalso; omega) | skip)
    | fail
  refine (stay_spec hcx hcy hl (blkFrom xs 0).toNat (tk := List.replicate n false) hB hv hu (Keep.new _ _) (.inr ⟨H2.n, by simp, Nat.le_refl _, Nat.lt_succ_self _, by rw [Heap.get_new_eq]; simp⟩) (by simp; omega) (by omega) (by omega)).mono ?_
  rintro r H3 ⟨⟨m, rfl, hm, hM⟩, _, k3⟩
  repeat' first
    | refine CO.cons rfl ?_
    | refine CO.nil ?_
    | refine CV.seq ?_
    | refine CV.region callees ?_
    | refine CV.cond ?_
    | refine CV.block ?_
    | refine CV.skip ?_
    | refine CV.exit ?_
    | refine CV.ret ?_
    | refine CV.scope ?_
    | refine CV.draw callees rfl ?_
    | refine CH.cons rfl ?_
    | refine CH.nil ?_
    | refine CO.consG rfl ?_
    | refine CH.consG rfl ?_
    | refine CG.cons rfl ?_
    | refine CG.nil ?_
    | refine CG.consG rfl ?_
    | refine ⟨(rfl : plain _ = true), ?_⟩
    | refine ⟨(rfl : nilOk _ = some _), ?_⟩
    | refine ⟨_, ints_len (by assumption), ?_⟩
    | refine ⟨_, ints_addr (by assumption) (by omega) (by omega), ?_⟩
    | refine ⟨_, ints_load (by assumption) (by omega) (by omega), ?_⟩
    | refine ⟨(⟨by omega, by omega⟩ : inI64 _), ?_⟩
    | refine ⟨_, fun tm ha => step1_max rfl (ev_tmp ha rfl) (ev_tmp ha rfl), ?_⟩
    | refine ⟨_, fun tm ha => step1_min rfl (ev_tmp ha rfl) (ev_tmp ha rfl), ?_⟩
    | (refine ⟨fun _ => ?_, fun _ => ?_⟩ <;> first | (exfalso; omega) | skip)
    | fail
  refine ⟨rfl, ⟨_, by rw [h0], fun _ => ⟨m, rfl, hM.stay hlx.2 (fun i hi => (check_bound hcx hi).1) fun i hi => ?_⟩, fun h => absurd h0 h⟩, k3⟩
  have h1 := hby i (by omega)
  have h2 := blk_gt ys 0 i (by omega)
  rw [List.getElem?_replicate, if_pos (by omega)]

set_option maxRecDepth 100000 in
theorem movesAll_spec {B : Nat} {v u : Value} {H : Heap} {xs ys : List Int} (hB : B ≤ H.n) (hv : Ints H v xs) (hu : Ints H u ys) :
    CallB Tryd.prog B 47 [v, u] H (fun r H' => (∃ m : Int, r = .tuple #[.int .i64 m, .int .i64 (chk2 xs ys)] ∧ (chk2 xs ys = 0 → ∃ k : Nat, m = xs.length - k ∧ Stay xs ys k) ∧ (chk2 xs ys ≠ 0 → m = 0)) ∧ Keep H H') := by
  by_cases h0 : chk2 xs ys = 0
  · obtain ⟨hcx, hcy, hl⟩ := chk2_zero h0
    refine (moves_spec hB hv hu hcx hcy hl).mono ?_
    rintro r H1 ⟨⟨m, rfl, hm⟩, k⟩
    rw [h0]
    exact ⟨⟨_, rfl, fun _ => ⟨m, rfl, hm.stay⟩, fun h => absurd rfl h⟩, k⟩
  · refine CV.enter callees false rfl Tryd.func47 rfl ok47 (Nat.le_of_ble_eq_true rfl) hB ?_
    repeat' first
      | refine CO.cons rfl ?_
      | refine CO.nil ?_
      | refine CV.seq ?_
      | refine CV.region callees ?_
      | refine CV.cond ?_
      | refine CV.block ?_
      | refine CV.skip ?_
      | refine CV.exit ?_
      | refine CV.ret ?_
      | refine CV.scope ?_
      | refine CV.draw callees rfl ?_
      | refine CH.cons rfl ?_
      | refine CH.nil ?_
      | refine CO.consG rfl ?_
      | refine CH.consG rfl ?_
      | refine CG.cons rfl ?_
      | refine CG.nil ?_
      | refine CG.consG rfl ?_
      | refine ⟨(rfl : plain _ = true), ?_⟩
      | refine ⟨(rfl : nilOk _ = some _), ?_⟩
      | refine ⟨_, ints_len (by assumption), ?_⟩
      | refine ⟨_, ints_addr (by assumption) (by omega) (by omega), ?_⟩
      | refine ⟨_, ints_load (by assumption) (by omega) (by omega), ?_⟩
      | refine ⟨(⟨by omega, by omega⟩ : inI64 _), ?_⟩
      | refine ⟨_, fun tm ha => step1_max rfl (ev_tmp ha rfl) (ev_tmp ha rfl), ?_⟩
      | refine ⟨_, fun tm ha => step1_min rfl (ev_tmp ha rfl) (ev_tmp ha rfl), ?_⟩
      | (refine ⟨fun _ => ?_, fun _ => ?_⟩ <;> first | (exfalso; omega) | skip)
      | fail
    refine (checkBoth_spec hB hv hu).mono ?_
    rintro r H1 ⟨rfl, rfl⟩
    repeat' first
      | refine CO.cons rfl ?_
      | refine CO.nil ?_
      | refine CV.seq ?_
      | refine CV.region callees ?_
      | refine CV.cond ?_
      | refine CV.block ?_
      | refine CV.skip ?_
      | refine CV.exit ?_
      | refine CV.ret ?_
      | refine CV.scope ?_
      | refine CV.draw callees rfl ?_
      | refine CH.cons rfl ?_
      | refine CH.nil ?_
      | refine CO.consG rfl ?_
      | refine CH.consG rfl ?_
      | refine CG.cons rfl ?_
      | refine CG.nil ?_
      | refine CG.consG rfl ?_
      | refine ⟨(rfl : plain _ = true), ?_⟩
      | refine ⟨(rfl : nilOk _ = some _), ?_⟩
      | refine ⟨_, ints_len (by assumption), ?_⟩
      | refine ⟨_, ints_addr (by assumption) (by omega) (by omega), ?_⟩
      | refine ⟨_, ints_load (by assumption) (by omega) (by omega), ?_⟩
      | refine ⟨(⟨by omega, by omega⟩ : inI64 _), ?_⟩
      | refine ⟨_, fun tm ha => step1_max rfl (ev_tmp ha rfl) (ev_tmp ha rfl), ?_⟩
      | refine ⟨_, fun tm ha => step1_min rfl (ev_tmp ha rfl) (ev_tmp ha rfl), ?_⟩
      | (refine ⟨fun _ => ?_, fun _ => ?_⟩ <;> first | (exfalso; omega) | skip)
      | fail
    exact ⟨rfl, ⟨0, rfl, fun h => absurd h h0, fun _ => rfl⟩, Keep.refl _⟩
end Go.Proofs.YthcchjmjblegdaaDoor

/- ChartMoves: its function answers true. -/
namespace Go.Proofs.YthcchjmjblegdaaDoor
open Go.AI
theorem build_pair {H : Heap} {a b : Value} (ha : oneC a = true) (hb : oneC b = true) : abuildSlice Tryd.prog H 41 2 [(0, a), (1, b)] = some (.slice (some ⟨H.n, 0, none⟩) 2 0, H.new (.cells [a, b] 22 2), H.n) := by
  obtain ⟨info, hi, hz, hs, hc', hsc, hby⟩ := oneBB_spec one22
  simp only [abuildSlice, un41, hi, hz, hs, hc']
  rw [if_pos ⟨by omega, rfl, by simp [scalar], by omega⟩]
  have hz3 : zeros #[(Value.slice none 0 0)] (2 * 1) = [.slice none 0 0, .slice none 0 0] := rfl
  rw [hz3]
  simp only [fillL, oneC_cells ha, oneC_cells hb, oneC_notTuple ha, oneC_notTuple hb]
  rfl
/-- A row of rows of numbers. -/
structure Lists (H : Heap) (r : Value) (vals : List Value) (ls : List (List Int)) (n : Nat) : Prop where
  row : Row H r vals
  len : vals.length = n
  at' : ∀ i : Nat, i < n → Ints H vals[i]! ls[i]!
theorem Lists.keep {H H' : Heap} {r : Value} {vals : List Value} {ls : List (List Int)} {n : Nat} (h : Lists H r vals ls n) (k : Keep H H') : Lists H' r vals ls n :=
  ⟨h.row.keep k, h.len, fun i hi => (h.at' i hi).keep k⟩
theorem Lists.box {b : Nat} {H H' : Heap} {r : Value} {vals : List Value} {ls : List (List Int)} {n : Nat} (h : Lists H r vals ls n) (k : KeepX b H H') (hb : Box b H) : Lists H' r vals ls n :=
  ⟨h.row.box k hb, h.len, fun i hi => (h.at' i hi).box k hb⟩
theorem Lists.alen {H : Heap} {r : Value} {vals : List Value} {ls : List (List Int)} {n : Nat} (h : Lists H r vals ls n) : alen Tryd.prog H 41 r = some (.int .i64 n) := by
  rw [← h.len]; exact lists_len h.row
theorem Lists.addr {H : Heap} {r : Value} {vals : List Value} {ls : List (List Int)} {n : Nat} (h : Lists H r vals ls n) {i : Int} (h0 : 0 ≤ i) (h1 : i < n) : aindexAddr Tryd.prog 41 r (.int .i64 i) = some (elemAt r i.toNat) :=
  lists_addr h.row h0 (by rw [h.len]; exact h1)
theorem Lists.load {H : Heap} {r : Value} {vals : List Value} {ls : List (List Int)} {n : Nat} (h : Lists H r vals ls n) {i : Int} (h0 : 0 ≤ i) (h1 : i < n) : aload Tryd.prog 22 H (elemAt r i.toNat) = some vals[i.toNat]! :=
  lists_load h.row h0 (by rw [h.len]; exact h1)

set_option maxHeartbeats 4000000 in
set_option maxRecDepth 100000 in
theorem chartMoves_spec {v u w : Value} {H : Heap} {xs ys zs : List Int} (hBase : Base H) (hv : Ints H v xs) (hx : xs.length ≤ 9223372036854775807) (_ : ∀ x ∈ xs, inI64 x)
    (hu : Ints H u ys) (hy : ys.length ≤ 9223372036854775807) (_ : ∀ x ∈ ys, inI64 x) (hw : Ints H w zs) (hz : zs.length ≤ 9223372036854775807) (_ : ∀ x ∈ zs, inI64 x) :
    CallB Tryd.prog H.n 6 [v, u, w] H (fun r _ => r = .bool true) := by
  have hB : H.n ≤ H.n := Nat.le_refl _
  refine CV.enter callees false rfl Tryd.func6 rfl ok6 (Nat.le_of_ble_eq_true rfl) hB ?_
  repeat' first
    | refine CO.cons rfl ?_
    | refine CO.nil ?_
    | refine CV.seq ?_
    | refine CV.region callees ?_
    | refine CV.cond ?_
    | refine CV.block ?_
    | refine CV.skip ?_
    | refine CV.exit ?_
    | refine CV.ret ?_
    | refine CV.scope ?_
    | refine CV.draw callees rfl ?_
    | refine CH.cons rfl ?_
    | refine CH.nil ?_
    | refine CO.consG rfl ?_
    | refine CH.consG rfl ?_
    | refine CG.cons rfl ?_
    | refine CG.nil ?_
    | refine CG.consG rfl ?_
    | refine ⟨(rfl : plain _ = true), ?_⟩
    | refine ⟨(rfl : nilOk _ = some _), ?_⟩
    | refine ⟨_, ints_len (by assumption), ?_⟩
    | refine ⟨_, ints_addr (by assumption) (by omega) (by omega), ?_⟩
    | refine ⟨_, ints_load (by assumption) (by omega) (by omega), ?_⟩
    | refine ⟨(⟨by omega, by omega⟩ : inI64 _), ?_⟩
    | refine ⟨_, fun tm ha => step1_max rfl (ev_tmp ha rfl) (ev_tmp ha rfl), ?_⟩
    | refine ⟨_, fun tm ha => step1_min rfl (ev_tmp ha rfl) (ev_tmp ha rfl), ?_⟩
    | (refine ⟨fun _ => ?_, fun _ => ?_⟩ <;> first | (exfalso; omega) | skip)
    | fail
  refine (long_spec hB hv).mono ?_
  rintro r H1 ⟨rfl, rfl⟩
  by_cases h40 : 40 < xs.length
  · rw [decide_eq_true h40]
    repeat' first
      | refine CO.cons rfl ?_
      | refine CO.nil ?_
      | refine CV.seq ?_
      | refine CV.region callees ?_
      | refine CV.cond ?_
      | refine CV.block ?_
      | refine CV.skip ?_
      | refine CV.exit ?_
      | refine CV.ret ?_
      | refine CV.scope ?_
      | refine CV.draw callees rfl ?_
      | refine CH.cons rfl ?_
      | refine CH.nil ?_
      | refine CO.consG rfl ?_
      | refine CH.consG rfl ?_
      | refine CG.cons rfl ?_
      | refine CG.nil ?_
      | refine CG.consG rfl ?_
      | refine ⟨(rfl : plain _ = true), ?_⟩
      | refine ⟨(rfl : nilOk _ = some _), ?_⟩
      | refine ⟨_, ints_len (by assumption), ?_⟩
      | refine ⟨_, ints_addr (by assumption) (by omega) (by omega), ?_⟩
      | refine ⟨_, ints_load (by assumption) (by omega) (by omega), ?_⟩
      | refine ⟨(⟨by omega, by omega⟩ : inI64 _), ?_⟩
      | refine ⟨_, fun tm ha => step1_max rfl (ev_tmp ha rfl) (ev_tmp ha rfl), ?_⟩
      | refine ⟨_, fun tm ha => step1_min rfl (ev_tmp ha rfl) (ev_tmp ha rfl), ?_⟩
      | refine CallB.known rfl hBase hB ?_
      | (refine ⟨fun _ => ?_, fun _ => ?_⟩ <;> first | (exfalso; omega) | skip)
      | fail
    exact ⟨rfl, rfl⟩
  rw [decide_eq_false h40]
  repeat' first
    | refine CO.cons rfl ?_
    | refine CO.nil ?_
    | refine CV.seq ?_
    | refine CV.region callees ?_
    | refine CV.cond ?_
    | refine CV.block ?_
    | refine CV.skip ?_
    | refine CV.exit ?_
    | refine CV.ret ?_
    | refine CV.scope ?_
    | refine CV.draw callees rfl ?_
    | refine CH.cons rfl ?_
    | refine CH.nil ?_
    | refine CO.consG rfl ?_
    | refine CH.consG rfl ?_
    | refine CG.cons rfl ?_
    | refine CG.nil ?_
    | refine CG.consG rfl ?_
    | refine ⟨(rfl : plain _ = true), ?_⟩
    | refine ⟨(rfl : nilOk _ = some _), ?_⟩
    | refine ⟨_, ints_len (by assumption), ?_⟩
    | refine ⟨_, ints_addr (by assumption) (by omega) (by omega), ?_⟩
    | refine ⟨_, ints_load (by assumption) (by omega) (by omega), ?_⟩
    | refine ⟨(⟨by omega, by omega⟩ : inI64 _), ?_⟩
    | refine ⟨_, fun tm ha => step1_max rfl (ev_tmp ha rfl) (ev_tmp ha rfl), ?_⟩
    | refine ⟨_, fun tm ha => step1_min rfl (ev_tmp ha rfl) (ev_tmp ha rfl), ?_⟩
    | (refine ⟨fun _ => ?_, fun _ => ?_⟩ <;> first | (exfalso; omega) | skip)
    | fail
  refine (long_spec hB hu).mono ?_
  rintro r H2 ⟨rfl, rfl⟩
  by_cases h41 : 40 < ys.length
  · rw [decide_eq_true h41]
    repeat' first
      | refine CO.cons rfl ?_
      | refine CO.nil ?_
      | refine CV.seq ?_
      | refine CV.region callees ?_
      | refine CV.cond ?_
      | refine CV.block ?_
      | refine CV.skip ?_
      | refine CV.exit ?_
      | refine CV.ret ?_
      | refine CV.scope ?_
      | refine CV.draw callees rfl ?_
      | refine CH.cons rfl ?_
      | refine CH.nil ?_
      | refine CO.consG rfl ?_
      | refine CH.consG rfl ?_
      | refine CG.cons rfl ?_
      | refine CG.nil ?_
      | refine CG.consG rfl ?_
      | refine ⟨(rfl : plain _ = true), ?_⟩
      | refine ⟨(rfl : nilOk _ = some _), ?_⟩
      | refine ⟨_, ints_len (by assumption), ?_⟩
      | refine ⟨_, ints_addr (by assumption) (by omega) (by omega), ?_⟩
      | refine ⟨_, ints_load (by assumption) (by omega) (by omega), ?_⟩
      | refine ⟨(⟨by omega, by omega⟩ : inI64 _), ?_⟩
      | refine ⟨_, fun tm ha => step1_max rfl (ev_tmp ha rfl) (ev_tmp ha rfl), ?_⟩
      | refine ⟨_, fun tm ha => step1_min rfl (ev_tmp ha rfl) (ev_tmp ha rfl), ?_⟩
      | refine CallB.known rfl hBase hB ?_
      | (refine ⟨fun _ => ?_, fun _ => ?_⟩ <;> first | (exfalso; omega) | skip)
      | fail
    exact ⟨rfl, rfl⟩
  rw [decide_eq_false h41]
  repeat' first
    | refine CO.cons rfl ?_
    | refine CO.nil ?_
    | refine CV.seq ?_
    | refine CV.region callees ?_
    | refine CV.cond ?_
    | refine CV.block ?_
    | refine CV.skip ?_
    | refine CV.exit ?_
    | refine CV.ret ?_
    | refine CV.scope ?_
    | refine CV.draw callees rfl ?_
    | refine CH.cons rfl ?_
    | refine CH.nil ?_
    | refine CO.consG rfl ?_
    | refine CH.consG rfl ?_
    | refine CG.cons rfl ?_
    | refine CG.nil ?_
    | refine CG.consG rfl ?_
    | refine ⟨(rfl : plain _ = true), ?_⟩
    | refine ⟨(rfl : nilOk _ = some _), ?_⟩
    | refine ⟨_, ints_len (by assumption), ?_⟩
    | refine ⟨_, ints_addr (by assumption) (by omega) (by omega), ?_⟩
    | refine ⟨_, ints_load (by assumption) (by omega) (by omega), ?_⟩
    | refine ⟨(⟨by omega, by omega⟩ : inI64 _), ?_⟩
    | refine ⟨_, fun tm ha => step1_max rfl (ev_tmp ha rfl) (ev_tmp ha rfl), ?_⟩
    | refine ⟨_, fun tm ha => step1_min rfl (ev_tmp ha rfl) (ev_tmp ha rfl), ?_⟩
    | (refine ⟨fun _ => ?_, fun _ => ?_⟩ <;> first | (exfalso; omega) | skip)
    | fail
  refine (boxOf_spec hB hw hz).mono ?_
  rintro r H3 ⟨⟨b, rfl, hb, hbx⟩, k3⟩
  have kk := k3
  replace hv := hv.keep k3
  replace hu := hu.keep k3
  have hB := k3.1
  repeat' first
    | refine CO.cons rfl ?_
    | refine CO.nil ?_
    | refine CV.seq ?_
    | refine CV.region callees ?_
    | refine CV.cond ?_
    | refine CV.block ?_
    | refine CV.skip ?_
    | refine CV.exit ?_
    | refine CV.ret ?_
    | refine CV.scope ?_
    | refine CV.draw callees rfl ?_
    | refine CH.cons rfl ?_
    | refine CH.nil ?_
    | refine CO.consG rfl ?_
    | refine CH.consG rfl ?_
    | refine CG.cons rfl ?_
    | refine CG.nil ?_
    | refine CG.consG rfl ?_
    | refine ⟨(rfl : plain _ = true), ?_⟩
    | refine ⟨(rfl : nilOk _ = some _), ?_⟩
    | refine ⟨_, ints_len (by assumption), ?_⟩
    | refine ⟨_, ints_addr (by assumption) (by omega) (by omega), ?_⟩
    | refine ⟨_, ints_load (by assumption) (by omega) (by omega), ?_⟩
    | refine ⟨(⟨by omega, by omega⟩ : inI64 _), ?_⟩
    | refine ⟨_, fun tm ha => step1_max rfl (ev_tmp ha rfl) (ev_tmp ha rfl), ?_⟩
    | refine ⟨_, fun tm ha => step1_min rfl (ev_tmp ha rfl) (ev_tmp ha rfl), ?_⟩
    | (refine ⟨fun _ => ?_, fun _ => ?_⟩ <;> first | (exfalso; omega) | skip)
    | fail
  refine (any_spec hb hB hbx (by omega) (by omega) (by omega)).mono ?_
  rintro r H4 ⟨⟨m, rfl, hm1, hm9⟩, hb4, k4⟩
  replace hv := hv.box k4 hbx
  replace hu := hu.box k4 hbx
  replace kk := k4.keep kk hb
  replace hB := Nat.le_trans hB k4.1
  repeat' first
    | refine CO.cons rfl ?_
    | refine CO.nil ?_
    | refine CV.seq ?_
    | refine CV.region callees ?_
    | refine CV.cond ?_
    | refine CV.block ?_
    | refine CV.skip ?_
    | refine CV.exit ?_
    | refine CV.ret ?_
    | refine CV.scope ?_
    | refine CV.draw callees rfl ?_
    | refine CH.cons rfl ?_
    | refine CH.nil ?_
    | refine CO.consG rfl ?_
    | refine CH.consG rfl ?_
    | refine CG.cons rfl ?_
    | refine CG.nil ?_
    | refine CG.consG rfl ?_
    | refine ⟨(rfl : plain _ = true), ?_⟩
    | refine ⟨(rfl : nilOk _ = some _), ?_⟩
    | refine ⟨_, ints_len (by assumption), ?_⟩
    | refine ⟨_, ints_addr (by assumption) (by omega) (by omega), ?_⟩
    | refine ⟨_, ints_load (by assumption) (by omega) (by omega), ?_⟩
    | refine ⟨(⟨by omega, by omega⟩ : inI64 _), ?_⟩
    | refine ⟨_, fun tm ha => step1_max rfl (ev_tmp ha rfl) (ev_tmp ha rfl), ?_⟩
    | refine ⟨_, fun tm ha => step1_min rfl (ev_tmp ha rfl) (ev_tmp ha rfl), ?_⟩
    | (refine ⟨fun _ => ?_, fun _ => ?_⟩ <;> first | (exfalso; omega) | skip)
    | fail
  refine (partitionOf_spec hb hB hb4 hm1 hm9).mono ?_
  rintro o H5 ⟨⟨os, co, lo, hoo⟩, hb5, k5⟩
  have ho : Ints H5 o os := hoo.row
  replace hv := hv.box k5 hb4
  replace hu := hu.box k5 hb4
  replace kk := k5.keep kk hb
  replace hB := Nat.le_trans hB k5.1
  repeat' first
    | refine CO.cons rfl ?_
    | refine CO.nil ?_
    | refine CV.seq ?_
    | refine CV.region callees ?_
    | refine CV.cond ?_
    | refine CV.block ?_
    | refine CV.skip ?_
    | refine CV.exit ?_
    | refine CV.ret ?_
    | refine CV.scope ?_
    | refine CV.draw callees rfl ?_
    | refine CH.cons rfl ?_
    | refine CH.nil ?_
    | refine CO.consG rfl ?_
    | refine CH.consG rfl ?_
    | refine CG.cons rfl ?_
    | refine CG.nil ?_
    | refine CG.consG rfl ?_
    | refine ⟨(rfl : plain _ = true), ?_⟩
    | refine ⟨(rfl : nilOk _ = some _), ?_⟩
    | refine ⟨_, ints_len (by assumption), ?_⟩
    | refine ⟨_, ints_addr (by assumption) (by omega) (by omega), ?_⟩
    | refine ⟨_, ints_load (by assumption) (by omega) (by omega), ?_⟩
    | refine ⟨(⟨by omega, by omega⟩ : inI64 _), ?_⟩
    | refine ⟨_, fun tm ha => step1_max rfl (ev_tmp ha rfl) (ev_tmp ha rfl), ?_⟩
    | refine ⟨_, fun tm ha => step1_min rfl (ev_tmp ha rfl) (ev_tmp ha rfl), ?_⟩
    | refine ⟨_, _, build_pair (row_one hv) (row_one ho), ?_⟩
    | (refine ⟨fun _ => ?_, fun _ => ?_⟩ <;> first | (exfalso; omega) | skip)
    | fail
  have k6 := Keep.new H5 (.cells [v, o] 22 2)
  have hR : Row (H5.new (.cells [v, o] 22 2)) _ _ := row_new (H := H5) (l := [v, o]) (e := 22) (n := 2) rfl
  replace hv := hv.keep k6
  replace hu := hu.keep k6
  replace ho := ho.keep k6
  replace hb5 := hb5.keep k6
  replace hB := Nat.le_trans hB k6.1
  replace kk := kk.trans k6
  generalize hRv : Value.slice (some ⟨H5.n, 0, none⟩) 2 0 = R at hR ⊢
  generalize H5.new (.cells [v, o] 22 2) = H6 at *
  clear k6
  repeat' first
    | refine CO.cons rfl ?_
    | refine CO.nil ?_
    | refine CV.seq ?_
    | refine CV.region callees ?_
    | refine CV.cond ?_
    | refine CV.block ?_
    | refine CV.skip ?_
    | refine CV.exit ?_
    | refine CV.ret ?_
    | refine CV.scope ?_
    | refine CV.draw callees rfl ?_
    | refine CH.cons rfl ?_
    | refine CH.nil ?_
    | refine CO.consG rfl ?_
    | refine CH.consG rfl ?_
    | refine CG.cons rfl ?_
    | refine CG.nil ?_
    | refine CG.consG rfl ?_
    | refine ⟨(rfl : plain _ = true), ?_⟩
    | refine ⟨(rfl : nilOk _ = some _), ?_⟩
    | refine ⟨_, ints_len (by assumption), ?_⟩
    | refine ⟨_, ints_addr (by assumption) (by omega) (by omega), ?_⟩
    | refine ⟨_, ints_load (by assumption) (by omega) (by omega), ?_⟩
    | refine ⟨(⟨by omega, by omega⟩ : inI64 _), ?_⟩
    | refine ⟨_, fun tm ha => step1_max rfl (ev_tmp ha rfl) (ev_tmp ha rfl), ?_⟩
    | refine ⟨_, fun tm ha => step1_min rfl (ev_tmp ha rfl) (ev_tmp ha rfl), ?_⟩
    | (refine ⟨fun _ => ?_, fun _ => ?_⟩ <;> first | (exfalso; omega) | skip)
    | fail
  refine (partitionOf_spec hb hB hb5 hm1 hm9).mono ?_
  rintro p H7 ⟨⟨ps, cp, lp, hpp⟩, hb7, k7⟩
  have hp : Ints H7 p ps := hpp.row
  replace hv := hv.box k7 hb5
  replace hu := hu.box k7 hb5
  replace ho := ho.box k7 hb5
  replace hR := hR.box k7 hb5
  replace kk := k7.keep kk hb
  replace hB := Nat.le_trans hB k7.1
  repeat' first
    | refine CO.cons rfl ?_
    | refine CO.nil ?_
    | refine CV.seq ?_
    | refine CV.region callees ?_
    | refine CV.cond ?_
    | refine CV.block ?_
    | refine CV.skip ?_
    | refine CV.exit ?_
    | refine CV.ret ?_
    | refine CV.scope ?_
    | refine CV.draw callees rfl ?_
    | refine CH.cons rfl ?_
    | refine CH.nil ?_
    | refine CO.consG rfl ?_
    | refine CH.consG rfl ?_
    | refine CG.cons rfl ?_
    | refine CG.nil ?_
    | refine CG.consG rfl ?_
    | refine ⟨(rfl : plain _ = true), ?_⟩
    | refine ⟨(rfl : nilOk _ = some _), ?_⟩
    | refine ⟨_, ints_len (by assumption), ?_⟩
    | refine ⟨_, ints_addr (by assumption) (by omega) (by omega), ?_⟩
    | refine ⟨_, ints_load (by assumption) (by omega) (by omega), ?_⟩
    | refine ⟨(⟨by omega, by omega⟩ : inI64 _), ?_⟩
    | refine ⟨_, fun tm ha => step1_max rfl (ev_tmp ha rfl) (ev_tmp ha rfl), ?_⟩
    | refine ⟨_, fun tm ha => step1_min rfl (ev_tmp ha rfl) (ev_tmp ha rfl), ?_⟩
    | refine ⟨_, _, build_pair (row_one hu) (row_one hp), ?_⟩
    | (refine ⟨fun _ => ?_, fun _ => ?_⟩ <;> first | (exfalso; omega) | skip)
    | fail
  have k8 := Keep.new H7 (.cells [u, p] 22 2)
  have hS : Row (H7.new (.cells [u, p] 22 2)) _ _ := row_new (H := H7) (l := [u, p]) (e := 22) (n := 2) rfl
  replace hv := hv.keep k8
  replace hu := hu.keep k8
  replace ho := ho.keep k8
  replace hp := hp.keep k8
  replace hR := hR.keep k8
  replace hB := Nat.le_trans hB k8.1
  replace kk := kk.trans k8
  generalize hSv : Value.slice (some ⟨H7.n, 0, none⟩) 2 0 = S at hS ⊢
  generalize H7.new (.cells [u, p] 22 2) = H8 at *
  clear k8
  have hLR : Lists H8 R [v, o] [xs, os] 2 := ⟨hR, rfl, fun i hi => by
    have : i = 0 ∨ i = 1 := by omega
    rcases this with rfl | rfl
    · exact hv
    · exact ho⟩
  have hLS : Lists H8 S [u, p] [ys, ps] 2 := ⟨hS, rfl, fun i hi => by
    have : i = 0 ∨ i = 1 := by omega
    rcases this with rfl | rfl
    · exact hu
    · exact hp⟩
  generalize [v, o] = va at hLR
  generalize [u, p] = vb at hLS
  generalize [xs, os] = la at hLR
  generalize [ys, ps] = lb at hLS
  clear hR hS hv hu ho hp
  repeat' first
    | refine CO.cons rfl ?_
    | refine CO.nil ?_
    | refine CV.seq ?_
    | refine CV.region callees ?_
    | refine CV.cond ?_
    | refine CV.block ?_
    | refine CV.skip ?_
    | refine CV.exit ?_
    | refine CV.ret ?_
    | refine CV.scope ?_
    | refine CV.draw callees rfl ?_
    | refine CH.cons rfl ?_
    | refine CH.nil ?_
    | refine CO.consG rfl ?_
    | refine CH.consG rfl ?_
    | refine CG.cons rfl ?_
    | refine CG.nil ?_
    | refine CG.consG rfl ?_
    | refine ⟨(rfl : plain _ = true), ?_⟩
    | refine ⟨(rfl : nilOk _ = some _), ?_⟩
    | refine ⟨_, ints_len (by assumption), ?_⟩
    | refine ⟨_, ints_addr (by assumption) (by omega) (by omega), ?_⟩
    | refine ⟨_, ints_load (by assumption) (by omega) (by omega), ?_⟩
    | refine ⟨(⟨by omega, by omega⟩ : inI64 _), ?_⟩
    | refine ⟨_, fun tm ha => step1_max rfl (ev_tmp ha rfl) (ev_tmp ha rfl), ?_⟩
    | refine ⟨_, fun tm ha => step1_min rfl (ev_tmp ha rfl) (ev_tmp ha rfl), ?_⟩
    | (refine ⟨fun _ => ?_, fun _ => ?_⟩ <;> first | (exfalso; omega) | skip)
    | fail
  refine CV.loopc ?_
  refine WCv.rounds callees false (α := Nat) (fun i => [(9, R), (10, S), (11, .int .i64 i)]) (fun i Hz => i ≤ 2 ∧ Keep H8 Hz) (fun i => 2 - i) (0) (by repeat' first | exact trivial | refine ⟨rfl, ?_⟩ | refine ⟨slot_int (by (try simp only [Int.toNat_natCast]); omega), ?_⟩) ?_ ?_
  · exact ⟨by omega, Keep.refl _⟩
  rintro i Hx ⟨hi, kx⟩ hBx
  have hRx := hLR.keep kx
  have hSx := hLS.keep kx
  have hBase' := hBase.keep (kk.trans kx)
  by_cases hi2 : i < 2
  · repeat' first
      | refine CO.cons rfl ?_
      | refine CO.nil ?_
      | refine CV.seq ?_
      | refine CV.region callees ?_
      | refine CV.cond ?_
      | refine CV.block ?_
      | refine CV.skip ?_
      | refine CV.exit ?_
      | refine CV.ret ?_
      | refine CV.scope ?_
      | refine CV.draw callees rfl ?_
      | refine CH.cons rfl ?_
      | refine CH.nil ?_
      | refine CO.consG rfl ?_
      | refine CH.consG rfl ?_
      | refine CG.cons rfl ?_
      | refine CG.nil ?_
      | refine CG.consG rfl ?_
      | refine ⟨(rfl : plain _ = true), ?_⟩
      | refine ⟨(rfl : nilOk _ = some _), ?_⟩
      | refine ⟨_, ints_len (by assumption), ?_⟩
      | refine ⟨_, ints_addr (by assumption) (by omega) (by omega), ?_⟩
      | refine ⟨_, ints_load (by assumption) (by omega) (by omega), ?_⟩
      | refine ⟨(⟨by omega, by omega⟩ : inI64 _), ?_⟩
      | refine ⟨_, fun tm ha => step1_max rfl (ev_tmp ha rfl) (ev_tmp ha rfl), ?_⟩
      | refine ⟨_, fun tm ha => step1_min rfl (ev_tmp ha rfl) (ev_tmp ha rfl), ?_⟩
      | refine ⟨_, hRx.alen, ?_⟩
      | refine ⟨_, hRx.addr (by omega) (by omega), ?_⟩
      | refine ⟨_, hRx.load (by omega) (by omega), ?_⟩
      | refine ⟨_, hSx.addr (by omega) (by omega), ?_⟩
      | refine ⟨_, hSx.load (by omega) (by omega), ?_⟩
      | (refine ⟨fun _ => ?_, fun _ => ?_⟩ <;> first | (exfalso; omega) | skip)
      | fail
    have ha := hRx.at' i (by omega)
    have hb' := hSx.at' i (by omega)
    rw [Int.toNat_natCast]
    refine (movesAll_spec hBx ha hb').mono ?_
    rintro r H9 ⟨⟨m1, rfl, hm1', hm1n⟩, k9⟩
    replace hBx := Nat.le_trans hBx k9.1
    replace hRx := hRx.keep k9
    replace hSx := hSx.keep k9
    replace ha := ha.keep k9
    replace hb' := hb'.keep k9
    have kx9 := kx.trans k9
    repeat' first
      | refine CO.cons rfl ?_
      | refine CO.nil ?_
      | refine CV.seq ?_
      | refine CV.region callees ?_
      | refine CV.cond ?_
      | refine CV.block ?_
      | refine CV.skip ?_
      | refine CV.exit ?_
      | refine CV.ret ?_
      | refine CV.scope ?_
      | refine CV.draw callees rfl ?_
      | refine CH.cons rfl ?_
      | refine CH.nil ?_
      | refine CO.consG rfl ?_
      | refine CH.consG rfl ?_
      | refine CG.cons rfl ?_
      | refine CG.nil ?_
      | refine CG.consG rfl ?_
      | refine ⟨(rfl : plain _ = true), ?_⟩
      | refine ⟨(rfl : nilOk _ = some _), ?_⟩
      | refine ⟨_, ints_len (by assumption), ?_⟩
      | refine ⟨_, ints_addr (by assumption) (by omega) (by omega), ?_⟩
      | refine ⟨_, ints_load (by assumption) (by omega) (by omega), ?_⟩
      | refine ⟨(⟨by omega, by omega⟩ : inI64 _), ?_⟩
      | refine ⟨_, fun tm ha => step1_max rfl (ev_tmp ha rfl) (ev_tmp ha rfl), ?_⟩
      | refine ⟨_, fun tm ha => step1_min rfl (ev_tmp ha rfl) (ev_tmp ha rfl), ?_⟩
      | refine ⟨_, hRx.addr (by omega) (by omega), ?_⟩
      | refine ⟨_, hRx.load (by omega) (by omega), ?_⟩
      | refine ⟨_, hSx.addr (by omega) (by omega), ?_⟩
      | refine ⟨_, hSx.load (by omega) (by omega), ?_⟩
      | (refine ⟨fun _ => ?_, fun _ => ?_⟩ <;> first | (exfalso; omega) | skip)
      | fail
    rw [Int.toNat_natCast]
    refine (refMoves_spec hBx ha hb').mono ?_
    rintro r H10 ⟨⟨m2, rfl, hm2', hm2n⟩, k10⟩
    have e : m1 = m2 := by
      by_cases h0 : chk2 la[i]! lb[i]! = 0
      · obtain ⟨a1, e1, s1⟩ := hm1' h0
        obtain ⟨a2, e2, s2⟩ := hm2' h0
        have := s1.uniq s2
        omega
      · rw [hm1n h0, hm2n h0]
    subst e
    repeat' first
      | refine CO.cons rfl ?_
      | refine CO.nil ?_
      | refine CV.seq ?_
      | refine CV.region callees ?_
      | refine CV.cond ?_
      | refine CV.block ?_
      | refine CV.skip ?_
      | refine CV.exit ?_
      | refine CV.ret ?_
      | refine CV.scope ?_
      | refine CV.draw callees rfl ?_
      | refine CH.cons rfl ?_
      | refine CH.nil ?_
      | refine CO.consG rfl ?_
      | refine CH.consG rfl ?_
      | refine CG.cons rfl ?_
      | refine CG.nil ?_
      | refine CG.consG rfl ?_
      | refine ⟨(rfl : plain _ = true), ?_⟩
      | refine ⟨(rfl : nilOk _ = some _), ?_⟩
      | refine ⟨_, ints_len (by assumption), ?_⟩
      | refine ⟨_, ints_addr (by assumption) (by omega) (by omega), ?_⟩
      | refine ⟨_, ints_load (by assumption) (by omega) (by omega), ?_⟩
      | refine ⟨(⟨by omega, by omega⟩ : inI64 _), ?_⟩
      | refine ⟨_, fun tm ha => step1_max rfl (ev_tmp ha rfl) (ev_tmp ha rfl), ?_⟩
      | refine ⟨_, fun tm ha => step1_min rfl (ev_tmp ha rfl) (ev_tmp ha rfl), ?_⟩
      | (refine ⟨fun _ => ?_, fun _ => ?_⟩ <;> first | (exfalso; omega) | skip)
      | fail
    refine ⟨(i + 1), (by repeat' first | exact trivial | refine ⟨rfl, ?_⟩ | refine ⟨slot_int (by (try simp only [Int.toNat_natCast]); omega), ?_⟩), (by (try dsimp only); omega), ?_⟩
    exact ⟨by omega, kx9.trans k10⟩
  · repeat' first
      | refine CO.cons rfl ?_
      | refine CO.nil ?_
      | refine CV.seq ?_
      | refine CV.region callees ?_
      | refine CV.cond ?_
      | refine CV.block ?_
      | refine CV.skip ?_
      | refine CV.exit ?_
      | refine CV.ret ?_
      | refine CV.scope ?_
      | refine CV.draw callees rfl ?_
      | refine CH.cons rfl ?_
      | refine CH.nil ?_
      | refine CO.consG rfl ?_
      | refine CH.consG rfl ?_
      | refine CG.cons rfl ?_
      | refine CG.nil ?_
      | refine CG.consG rfl ?_
      | refine ⟨(rfl : plain _ = true), ?_⟩
      | refine ⟨(rfl : nilOk _ = some _), ?_⟩
      | refine ⟨_, ints_len (by assumption), ?_⟩
      | refine ⟨_, ints_addr (by assumption) (by omega) (by omega), ?_⟩
      | refine ⟨_, ints_load (by assumption) (by omega) (by omega), ?_⟩
      | refine ⟨(⟨by omega, by omega⟩ : inI64 _), ?_⟩
      | refine ⟨_, fun tm ha => step1_max rfl (ev_tmp ha rfl) (ev_tmp ha rfl), ?_⟩
      | refine ⟨_, fun tm ha => step1_min rfl (ev_tmp ha rfl) (ev_tmp ha rfl), ?_⟩
      | refine ⟨_, hRx.alen, ?_⟩
      | refine CallB.known rfl hBase' hBx ?_
      | (refine ⟨fun _ => ?_, fun _ => ?_⟩ <;> first | (exfalso; omega) | skip)
      | fail
    exact ⟨rfl, rfl⟩
end Go.Proofs.YthcchjmjblegdaaDoor

/- Joins and meets by the reference. -/
namespace Go.Proofs.YthcchjmjblegdaaDoor
open Go.AI
/-- Labels while those that belong together are made equal. -/
structure Lab (a b l : List Int) : Prop where
  len : l.length = a.length
  old : ∀ i, i < a.length → ∃ j, j < a.length ∧ l[i]! = a[j]! ∧ ∀ t, Fine a t → Fine b t → t[i]! = t[j]!
theorem set_at {l : List Int} {k i : Nat} {y : Int} (hk : k < l.length) : (l.set k y)[i]! = if i = k then y else l[i]! := by
  by_cases h : i = k
  · subst h; rw [if_pos rfl, getElem!_pos _ i (by rw [List.length_set]; exact hk)]; simp
  · rw [if_neg h]
    by_cases hi : i < l.length
    · rw [getElem!_pos _ i (by rw [List.length_set]; exact hi), getElem!_pos _ i hi, List.getElem_set_ne (fun e => h e.symm)]
    · rw [getElem!_neg _ i (by rw [List.length_set]; exact hi), getElem!_neg _ i hi]
theorem Lab.start (a b : List Int) : Lab a b a := ⟨rfl, fun i hi => ⟨i, hi, rfl, fun _ _ _ => rfl⟩⟩
theorem Lab.put {a b l : List Int} {i k : Nat} (h : Lab a b l) (hl : a.length = b.length) (hi : i < a.length) (hk : k < a.length) (he : a[i]! = a[k]! ∨ b[i]! = b[k]!) : Lab a b (l.set k l[i]!) := by
  refine ⟨by rw [List.length_set, h.len], fun q hq => ?_⟩
  rw [set_at (by rw [h.len]; exact hk)]
  split
  · rename_i hqk
    subst hqk
    obtain ⟨j, hj, e, ht⟩ := h.old i hi
    refine ⟨j, hj, e, fun t h1 h2 => ?_⟩
    rw [← ht t h1 h2]
    rcases he with he | he
    · exact h1.all hq hi he.symm
    · exact h2.all (by omega) (by omega) he.symm
  · exact h.old q hq
theorem Lab.isJoin {a b l : List Int} (h : Lab a b l) (hl : a.length = b.length) (hs : ∀ i k, i < a.length → k < a.length → (a[i]! = a[k]! ∨ b[i]! = b[k]!) → ¬ l[i]! < l[k]!) : IsJoin a b l := by
  refine ⟨h.len, fun i j hij hi he => ?_, fun i j hij hi he => ?_, fun t h1 h2 i j hij hi he => ?_⟩
  · have := hs i j hi (by omega) (.inl he); have := hs j i (by omega) hi (.inl he.symm); omega
  · have := hs i j (by omega) (by omega) (.inr he); have := hs j i (by omega) (by omega) (.inr he.symm); omega
  · rw [h.len] at hi
    obtain ⟨u, hu, e1, t1⟩ := h.old i hi
    obtain ⟨w, hw, e2, t2⟩ := h.old j (by omega)
    rw [t1 t h1 h2, t2 t h1 h2]
    exact h1.all hu hw (by omega)
/-- What all labels are together. -/
def wt (l : List Int) : Nat := (l.map Int.toNat).sum
theorem wt_set : ∀ {l : List Int} {k : Nat} {y : Int}, k < l.length → 0 ≤ y → y < l[k]! → wt (l.set k y) < wt l
  | x :: l, 0, y, _, h0, h1 => by simp [wt] at h1 ⊢; omega
  | x :: l, k + 1, y, hk, h0, h1 => by
    have := wt_set (l := l) (k := k) (y := y) (by simpa using hk) h0 (by simpa using h1)
    simp [wt] at this ⊢; exact this
theorem set_bound {l : List Int} {k : Nat} {y : Int} {P : Int → Prop} (hl : ∀ i, i < l.length → P l[i]!) (hy : P y) : ∀ i, i < (l.set k y).length → P (l.set k y)[i]! := by
  intro i hi
  rw [List.length_set] at hi
  by_cases hk : k < l.length
  · rw [set_at hk]
    split
    · exact hy
    · exact hl i hi
  · rw [List.set_eq_of_length_le (by omega)]; exact hl i hi
theorem ok44 : codeOk Tryd.f44.ntmps (Tryd.f44.body.getD .skip) = true := by kernel_rfl
set_option maxHeartbeats 1000000 in
set_option maxRecDepth 100000 in
theorem refMeet_spec {B : Nat} {v u : Value} {H : Heap} {xs ys : List Int} (hB : B ≤ H.n) (hv : Ints H v xs) (hu : Ints H u ys) :
    CallB Tryd.prog B 44 [v, u] H (fun r H' => TwoR H xs ys (fun l => l = num (meetL xs ys) []) r H' ∧ Keep H H') := by
  refine CV.enter callees false rfl Tryd.func44 rfl ok44 (Nat.le_of_ble_eq_true rfl) hB ?_
  repeat' first
    | refine CO.cons rfl ?_
    | refine CO.nil ?_
    | refine CV.seq ?_
    | refine CV.region callees ?_
    | refine CV.cond ?_
    | refine CV.block ?_
    | refine CV.skip ?_
    | refine CV.exit ?_
    | refine CV.ret ?_
    | refine CV.scope ?_
    | refine CV.draw callees rfl ?_
    | refine CH.cons rfl ?_
    | refine CH.nil ?_
    | refine CO.consG rfl ?_
    | refine CH.consG rfl ?_
    | refine CG.cons rfl ?_
    | refine CG.nil ?_
    | refine CG.consG rfl ?_
    | refine ⟨(rfl : plain _ = true), ?_⟩
    | refine ⟨(rfl : nilOk _ = some _), ?_⟩
    | refine ⟨_, ints_len (by assumption), ?_⟩
    | refine ⟨_, ints_addr (by assumption) (by omega) (by omega), ?_⟩
    | refine ⟨_, ints_load (by assumption) (by omega) (by omega), ?_⟩
    | refine ⟨(⟨by omega, by omega⟩ : inI64 _), ?_⟩
    | refine ⟨_, fun tm ha => step1_max rfl (ev_tmp ha rfl) (ev_tmp ha rfl), ?_⟩
    | refine ⟨_, fun tm ha => step1_min rfl (ev_tmp ha rfl) (ev_tmp ha rfl), ?_⟩
    | (refine ⟨fun _ => ?_, fun _ => ?_⟩ <;> first | (exfalso; omega) | skip)
    | fail
  refine (refCheckBoth_spec hB hv hu).mono ?_
  rintro r H1 ⟨rfl, rfl⟩
  repeat' first
    | refine CO.cons rfl ?_
    | refine CO.nil ?_
    | refine CV.seq ?_
    | refine CV.region callees ?_
    | refine CV.cond ?_
    | refine CV.block ?_
    | refine CV.skip ?_
    | refine CV.exit ?_
    | refine CV.ret ?_
    | refine CV.scope ?_
    | refine CV.draw callees rfl ?_
    | refine CH.cons rfl ?_
    | refine CH.nil ?_
    | refine CO.consG rfl ?_
    | refine CH.consG rfl ?_
    | refine CG.cons rfl ?_
    | refine CG.nil ?_
    | refine CG.consG rfl ?_
    | refine ⟨(rfl : plain _ = true), ?_⟩
    | refine ⟨(rfl : nilOk _ = some _), ?_⟩
    | refine ⟨_, ints_len (by assumption), ?_⟩
    | refine ⟨_, ints_addr (by assumption) (by omega) (by omega), ?_⟩
    | refine ⟨_, ints_load (by assumption) (by omega) (by omega), ?_⟩
    | refine ⟨(⟨by omega, by omega⟩ : inI64 _), ?_⟩
    | refine ⟨_, fun tm ha => step1_max rfl (ev_tmp ha rfl) (ev_tmp ha rfl), ?_⟩
    | refine ⟨_, fun tm ha => step1_min rfl (ev_tmp ha rfl) (ev_tmp ha rfl), ?_⟩
    | (refine ⟨fun _ => ?_, fun _ => ?_⟩ <;> first | (exfalso; omega) | skip)
    | fail
  · exact ⟨rfl, by rw [TwoR, if_neg (by assumption)], Keep.refl _⟩
  have h0 : chk2 xs ys = 0 := Classical.not_not.1 (by assumption)
  obtain ⟨hcx, hcy, hl⟩ := chk2_zero h0
  have hlx := check_len hcx
  refine CV.loopc ?_
  refine WCv.rounds callees false (α := Value × Nat) (fun (o, i) => [(0, v), (1, u), (7, o), (8, .int .i64 i)]) (fun (o, i) Hz => i ≤ xs.length ∧ Keep H1 Hz ∧ Own 3 Hz o (((meetL xs ys).take i).map VI) H1.n) (fun (o, i) => xs.length - i) (.slice none 0 0, 0) (by repeat' first | exact trivial | refine ⟨rfl, ?_⟩ | refine ⟨slot_int (by (try simp only [Int.toNat_natCast]); omega), ?_⟩) ?_ ?_
  · exact ⟨by omega, Keep.refl _, .inl ⟨rfl, by simp⟩⟩
  rintro ⟨o, i⟩ Hx ⟨hi, hk, ho⟩ hBx
  have hvx := hv.keep hk
  have hux := hu.keep hk
  have hml := meetL_length hl
  by_cases hi2 : i < xs.length
  · have hx := check_bound hcx (i := (i : Int).toNat) (by omega)
    have hy := check_bound hcy (i := (i : Int).toNat) (by omega)
    repeat' first
      | refine CO.cons rfl ?_
      | refine CO.nil ?_
      | refine CV.seq ?_
      | refine CV.region callees ?_
      | refine CV.cond ?_
      | refine CV.block ?_
      | refine CV.skip ?_
      | refine CV.exit ?_
      | refine CV.ret ?_
      | refine CV.scope ?_
      | refine CV.draw callees rfl ?_
      | refine CH.cons rfl ?_
      | refine CH.nil ?_
      | refine CO.consG rfl ?_
      | refine CH.consG rfl ?_
      | refine CG.cons rfl ?_
      | refine CG.nil ?_
      | refine CG.consG rfl ?_
      | refine ⟨(rfl : plain _ = true), ?_⟩
      | refine ⟨(rfl : nilOk _ = some _), ?_⟩
      | refine ⟨_, ints_len (by assumption), ?_⟩
      | refine ⟨_, ints_addr (by assumption) (by omega) (by omega), ?_⟩
      | refine ⟨_, ints_load (by assumption) (by omega) (by omega), ?_⟩
      | refine ⟨(⟨by omega, by omega⟩ : inI64 _), ?_⟩
      | refine ⟨_, fun tm ha => step1_max rfl (ev_tmp ha rfl) (ev_tmp ha rfl), ?_⟩
      | refine ⟨_, fun tm ha => step1_min rfl (ev_tmp ha rfl) (ev_tmp ha rfl), ?_⟩
      | refine ⟨_, _, build_one un22 one3 rfl, ?_⟩
      | (refine ⟨fun _ => ?_, fun _ => ?_⟩ <;> first | (exfalso; omega) | skip)
      | fail
    refine push_ask ho hk.1 hB (by simp; omega) ?_
    intro o2 H2 ho2 kb2 hf2
    repeat' first
      | refine CO.cons rfl ?_
      | refine CO.nil ?_
      | refine CV.seq ?_
      | refine CV.region callees ?_
      | refine CV.cond ?_
      | refine CV.block ?_
      | refine CV.skip ?_
      | refine CV.exit ?_
      | refine CV.ret ?_
      | refine CV.scope ?_
      | refine CV.draw callees rfl ?_
      | refine CH.cons rfl ?_
      | refine CH.nil ?_
      | refine CO.consG rfl ?_
      | refine CH.consG rfl ?_
      | refine CG.cons rfl ?_
      | refine CG.nil ?_
      | refine CG.consG rfl ?_
      | refine ⟨(rfl : plain _ = true), ?_⟩
      | refine ⟨(rfl : nilOk _ = some _), ?_⟩
      | refine ⟨_, ints_len (by assumption), ?_⟩
      | refine ⟨_, ints_addr (by assumption) (by omega) (by omega), ?_⟩
      | refine ⟨_, ints_load (by assumption) (by omega) (by omega), ?_⟩
      | refine ⟨(⟨by omega, by omega⟩ : inI64 _), ?_⟩
      | refine ⟨_, fun tm ha => step1_max rfl (ev_tmp ha rfl) (ev_tmp ha rfl), ?_⟩
      | refine ⟨_, fun tm ha => step1_min rfl (ev_tmp ha rfl) (ev_tmp ha rfl), ?_⟩
      | (refine ⟨fun _ => ?_, fun _ => ?_⟩ <;> first | (exfalso; omega) | skip)
      | fail
    refine ⟨(o2, i + 1), (by repeat' first | exact trivial | refine ⟨rfl, ?_⟩ | refine ⟨slot_int (by (try simp only [Int.toNat_natCast]); omega), ?_⟩), (by (try dsimp only); omega), ?_⟩
    refine ⟨by omega, kb2.keep hk (fun c hc => (ho.lt hc).1), ?_⟩
    rw [take_snoc (by omega), meetL_at hl hi2]
    exact ho2
  · repeat' first
      | refine CO.cons rfl ?_
      | refine CO.nil ?_
      | refine CV.seq ?_
      | refine CV.region callees ?_
      | refine CV.cond ?_
      | refine CV.block ?_
      | refine CV.skip ?_
      | refine CV.exit ?_
      | refine CV.ret ?_
      | refine CV.scope ?_
      | refine CV.draw callees rfl ?_
      | refine CH.cons rfl ?_
      | refine CH.nil ?_
      | refine CO.consG rfl ?_
      | refine CH.consG rfl ?_
      | refine CG.cons rfl ?_
      | refine CG.nil ?_
      | refine CG.consG rfl ?_
      | refine ⟨(rfl : plain _ = true), ?_⟩
      | refine ⟨(rfl : nilOk _ = some _), ?_⟩
      | refine ⟨_, ints_len (by assumption), ?_⟩
      | refine ⟨_, ints_addr (by assumption) (by omega) (by omega), ?_⟩
      | refine ⟨_, ints_load (by assumption) (by omega) (by omega), ?_⟩
      | refine ⟨(⟨by omega, by omega⟩ : inI64 _), ?_⟩
      | refine ⟨_, fun tm ha => step1_max rfl (ev_tmp ha rfl) (ev_tmp ha rfl), ?_⟩
      | refine ⟨_, fun tm ha => step1_min rfl (ev_tmp ha rfl) (ev_tmp ha rfl), ?_⟩
      | (refine ⟨fun _ => ?_, fun _ => ?_⟩ <;> first | (exfalso; omega) | skip)
      | fail
    rw [List.take_of_length_le (by omega)] at ho
    refine (refof_spec hBx ho.row (by omega)).mono ?_
    rintro r H2 ⟨hr, hk2⟩
    repeat' first
      | refine CO.cons rfl ?_
      | refine CO.nil ?_
      | refine CV.seq ?_
      | refine CV.region callees ?_
      | refine CV.cond ?_
      | refine CV.block ?_
      | refine CV.skip ?_
      | refine CV.exit ?_
      | refine CV.ret ?_
      | refine CV.scope ?_
      | refine CV.draw callees rfl ?_
      | refine CH.cons rfl ?_
      | refine CH.nil ?_
      | refine CO.consG rfl ?_
      | refine CH.consG rfl ?_
      | refine CG.cons rfl ?_
      | refine CG.nil ?_
      | refine CG.consG rfl ?_
      | refine ⟨(rfl : plain _ = true), ?_⟩
      | refine ⟨(rfl : nilOk _ = some _), ?_⟩
      | refine ⟨_, ints_len (by assumption), ?_⟩
      | refine ⟨_, ints_addr (by assumption) (by omega) (by omega), ?_⟩
      | refine ⟨_, ints_load (by assumption) (by omega) (by omega), ?_⟩
      | refine ⟨(⟨by omega, by omega⟩ : inI64 _), ?_⟩
      | refine ⟨_, fun tm ha => step1_max rfl (ev_tmp ha rfl) (ev_tmp ha rfl), ?_⟩
      | refine ⟨_, fun tm ha => step1_min rfl (ev_tmp ha rfl) (ev_tmp ha rfl), ?_⟩
      | (refine ⟨fun _ => ?_, fun _ => ?_⟩ <;> first | (exfalso; omega) | skip)
      | fail
    refine ⟨by simp only [List.all_cons, List.all_nil, hr.notTuple]; rfl, ?_, hk.trans hk2⟩
    rw [TwoR, if_pos h0]
    exact ⟨r, _, rfl, rfl, hr.low hk.1⟩
/-- What the reference's joining knows in one go over all pairs. -/
structure Pass (a b l0 l : List Int) (more : Bool) (i k : Nat) : Prop where
  lab : Lab a b l
  pos : ∀ q, q < l.length → 0 ≤ l[q]!
  less : more = true → wt l < wt l0
  same : more = false → l = l0 ∧ ∀ u w, u < a.length → w < a.length → (u < i ∨ (u = i ∧ w < k)) → (a[u]! = a[w]! ∨ b[u]! = b[w]!) → ¬ l[u]! < l[w]!
theorem Pass.skip {a b l0 l : List Int} {more : Bool} {i k : Nat} (h : Pass a b l0 l more i k) (hn : ¬ ((a[i]! = a[k]! ∨ b[i]! = b[k]!) ∧ l[i]! < l[k]!)) : Pass a b l0 l more i (k + 1) :=
  ⟨h.lab, h.pos, h.less, fun hm => ⟨(h.same hm).1, fun u w hu hw hc he => by
    by_cases h1 : u = i ∧ w = k
    · obtain ⟨rfl, rfl⟩ := h1
      exact fun hlt => hn ⟨he, hlt⟩
    · exact (h.same hm).2 u w hu hw (by omega) he⟩⟩
theorem Pass.put {a b l0 l : List Int} {more : Bool} {i k : Nat} (h : Pass a b l0 l more i k) (hl : a.length = b.length) (hi : i < a.length) (hk : k < a.length) (he : a[i]! = a[k]! ∨ b[i]! = b[k]!) (hlt : l[i]! < l[k]!) : Pass a b l0 (l.set k l[i]!) true i (k + 1) :=
  ⟨h.lab.put hl hi hk he, set_bound h.pos (h.pos i (by rw [h.lab.len]; exact hi)), fun _ => by
    have h1 := wt_set (l := l) (k := k) (y := l[i]!) (by rw [h.lab.len]; exact hk) (h.pos i (by rw [h.lab.len]; exact hi)) hlt
    cases more with
    | true => have := h.less rfl; omega
    | false => rw [← (h.same rfl).1]; exact h1, fun hm => by cases hm⟩
theorem Pass.next {a b l0 l : List Int} {more : Bool} {i k : Nat} (h : Pass a b l0 l more i k) (hk : a.length ≤ k) : Pass a b l0 l more (i + 1) 0 :=
  ⟨h.lab, h.pos, h.less, fun hm => ⟨(h.same hm).1, fun u w hu hw hc he => (h.same hm).2 u w hu hw (by omega) he⟩⟩
def bn (b : Bool) : Nat := if b then 1 else 0

set_option maxHeartbeats 4000000 in
set_option maxRecDepth 100000 in
theorem refJoin_spec {B : Nat} {v u : Value} {H : Heap} {xs ys : List Int} (hB : B ≤ H.n) (hv : Ints H v xs) (hu : Ints H u ys) :
    CallB Tryd.prog B 46 [v, u] H (fun r H' => TwoR H xs ys (fun l => ∃ s, IsJoin xs ys s ∧ l = num s []) r H' ∧ Keep H H') := by
  refine CV.enter callees false rfl Tryd.func46 rfl ok46 (Nat.le_of_ble_eq_true rfl) hB ?_
  repeat' first
    | refine CO.cons rfl ?_
    | refine CO.nil ?_
    | refine CV.seq ?_
    | refine CV.region callees ?_
    | refine CV.cond ?_
    | refine CV.block ?_
    | refine CV.skip ?_
    | refine CV.exit ?_
    | refine CV.ret ?_
    | refine CV.scope ?_
    | refine CV.draw callees rfl ?_
    | refine CH.cons rfl ?_
    | refine CH.nil ?_
    | refine CO.consG rfl ?_
    | refine CH.consG rfl ?_
    | refine CG.cons rfl ?_
    | refine CG.nil ?_
    | refine CG.consG rfl ?_
    | refine ⟨(rfl : plain _ = true), ?_⟩
    | refine ⟨(rfl : nilOk _ = some _), ?_⟩
    | refine ⟨_, ints_len (by assumption), ?_⟩
    | refine ⟨_, ints_addr (by assumption) (by omega) (by omega), ?_⟩
    | refine ⟨_, ints_load (by assumption) (by omega) (by omega), ?_⟩
    | refine ⟨(⟨by omega, by omega⟩ : inI64 _), ?_⟩
    | refine ⟨_, fun tm ha => step1_max rfl (ev_tmp ha rfl) (ev_tmp ha rfl), ?_⟩
    | refine ⟨_, fun tm ha => step1_min rfl (ev_tmp ha rfl) (ev_tmp ha rfl), ?_⟩
    | (refine ⟨fun _ => ?_, fun _ => ?_⟩ <;> first | (exfalso; omega) | skip)
    | fail
  refine (refCheckBoth_spec hB hv hu).mono ?_
  rintro r H1 ⟨rfl, rfl⟩
  repeat' first
    | refine CO.cons rfl ?_
    | refine CO.nil ?_
    | refine CV.seq ?_
    | refine CV.region callees ?_
    | refine CV.cond ?_
    | refine CV.block ?_
    | refine CV.skip ?_
    | refine CV.exit ?_
    | refine CV.ret ?_
    | refine CV.scope ?_
    | refine CV.draw callees rfl ?_
    | refine CH.cons rfl ?_
    | refine CH.nil ?_
    | refine CO.consG rfl ?_
    | refine CH.consG rfl ?_
    | refine CG.cons rfl ?_
    | refine CG.nil ?_
    | refine CG.consG rfl ?_
    | refine ⟨(rfl : plain _ = true), ?_⟩
    | refine ⟨(rfl : nilOk _ = some _), ?_⟩
    | refine ⟨_, ints_len (by assumption), ?_⟩
    | refine ⟨_, ints_addr (by assumption) (by omega) (by omega), ?_⟩
    | refine ⟨_, ints_load (by assumption) (by omega) (by omega), ?_⟩
    | refine ⟨(⟨by omega, by omega⟩ : inI64 _), ?_⟩
    | refine ⟨_, fun tm ha => step1_max rfl (ev_tmp ha rfl) (ev_tmp ha rfl), ?_⟩
    | refine ⟨_, fun tm ha => step1_min rfl (ev_tmp ha rfl) (ev_tmp ha rfl), ?_⟩
    | (refine ⟨fun _ => ?_, fun _ => ?_⟩ <;> first | (exfalso; omega) | skip)
    | fail
  · exact ⟨rfl, by rw [TwoR, if_neg (by assumption)], Keep.refl _⟩
  have h0 : chk2 xs ys = 0 := Classical.not_not.1 (by assumption)
  obtain ⟨hcx, hcy, hl⟩ := chk2_zero h0
  have hlx := check_len hcx
  refine ⟨_, _, build_none un22 one3, ?_⟩
  repeat' first
    | refine CO.cons rfl ?_
    | refine CO.nil ?_
    | refine CV.seq ?_
    | refine CV.region callees ?_
    | refine CV.cond ?_
    | refine CV.block ?_
    | refine CV.skip ?_
    | refine CV.exit ?_
    | refine CV.ret ?_
    | refine CV.scope ?_
    | refine CV.draw callees rfl ?_
    | refine CH.cons rfl ?_
    | refine CH.nil ?_
    | refine CO.consG rfl ?_
    | refine CH.consG rfl ?_
    | refine CG.cons rfl ?_
    | refine CG.nil ?_
    | refine CG.consG rfl ?_
    | refine ⟨(rfl : plain _ = true), ?_⟩
    | refine ⟨(rfl : nilOk _ = some _), ?_⟩
    | refine ⟨_, ints_len (by assumption), ?_⟩
    | refine ⟨_, ints_addr (by assumption) (by omega) (by omega), ?_⟩
    | refine ⟨_, ints_load (by assumption) (by omega) (by omega), ?_⟩
    | refine ⟨(⟨by omega, by omega⟩ : inI64 _), ?_⟩
    | refine ⟨_, fun tm ha => step1_max rfl (ev_tmp ha rfl) (ev_tmp ha rfl), ?_⟩
    | refine ⟨_, fun tm ha => step1_min rfl (ev_tmp ha rfl) (ev_tmp ha rfl), ?_⟩
    | (refine ⟨fun _ => ?_, fun _ => ?_⟩ <;> first | (exfalso; omega) | skip)
    | fail
  refine copy_ask un22 one3 (by omega) hv hB (by simp; omega) ?_
  intro w H2 hw k2
  repeat' first
    | refine CO.cons rfl ?_
    | refine CO.nil ?_
    | refine CV.seq ?_
    | refine CV.region callees ?_
    | refine CV.cond ?_
    | refine CV.block ?_
    | refine CV.skip ?_
    | refine CV.exit ?_
    | refine CV.ret ?_
    | refine CV.scope ?_
    | refine CV.draw callees rfl ?_
    | refine CH.cons rfl ?_
    | refine CH.nil ?_
    | refine CO.consG rfl ?_
    | refine CH.consG rfl ?_
    | refine CG.cons rfl ?_
    | refine CG.nil ?_
    | refine CG.consG rfl ?_
    | refine ⟨(rfl : plain _ = true), ?_⟩
    | refine ⟨(rfl : nilOk _ = some _), ?_⟩
    | refine ⟨_, ints_len (by assumption), ?_⟩
    | refine ⟨_, ints_addr (by assumption) (by omega) (by omega), ?_⟩
    | refine ⟨_, ints_load (by assumption) (by omega) (by omega), ?_⟩
    | refine ⟨(⟨by omega, by omega⟩ : inI64 _), ?_⟩
    | refine ⟨_, fun tm ha => step1_max rfl (ev_tmp ha rfl) (ev_tmp ha rfl), ?_⟩
    | refine ⟨_, fun tm ha => step1_min rfl (ev_tmp ha rfl) (ev_tmp ha rfl), ?_⟩
    | (refine ⟨fun _ => ?_, fun _ => ?_⟩ <;> first | (exfalso; omega) | skip)
    | fail
  refine CV.loopc ?_
  refine WCv.rounds callees false (α := Bool × List Int) (fun (more, l) => [(0, v), (1, u), (7, w), (8, .bool more)]) (fun (more, l) Hz => Keep H1 Hz ∧ Own 3 Hz w (l.map VI) H1.n ∧ Lab xs ys l ∧ (∀ q, q < l.length → 0 ≤ l[q]!) ∧ (more = false → ∀ u w, u < xs.length → w < xs.length → (xs[u]! = xs[w]! ∨ ys[u]! = ys[w]!) → ¬ l[u]! < l[w]!)) (fun (more, l) => wt l + bn more) (true, xs) (by repeat' first | exact trivial | refine ⟨rfl, ?_⟩ | refine ⟨slot_int (by (try simp only [Int.toNat_natCast]); omega), ?_⟩) ?_ ?_
  · exact ⟨k2, hw, Lab.start xs ys, fun q hq => (check_bound hcx hq).1, fun h => by cases h⟩
  rintro ⟨more, l⟩ Hx ⟨hk, hwx, hL, hpos, hfin⟩ hBx
  cases more with
  | false =>
    repeat' first
      | refine CO.cons rfl ?_
      | refine CO.nil ?_
      | refine CV.seq ?_
      | refine CV.region callees ?_
      | refine CV.cond ?_
      | refine CV.block ?_
      | refine CV.skip ?_
      | refine CV.exit ?_
      | refine CV.ret ?_
      | refine CV.scope ?_
      | refine CV.draw callees rfl ?_
      | refine CH.cons rfl ?_
      | refine CH.nil ?_
      | refine CO.consG rfl ?_
      | refine CH.consG rfl ?_
      | refine CG.cons rfl ?_
      | refine CG.nil ?_
      | refine CG.consG rfl ?_
      | refine ⟨(rfl : plain _ = true), ?_⟩
      | refine ⟨(rfl : nilOk _ = some _), ?_⟩
      | refine ⟨_, ints_len (by assumption), ?_⟩
      | refine ⟨_, ints_addr (by assumption) (by omega) (by omega), ?_⟩
      | refine ⟨_, ints_load (by assumption) (by omega) (by omega), ?_⟩
      | refine ⟨(⟨by omega, by omega⟩ : inI64 _), ?_⟩
      | refine ⟨_, fun tm ha => step1_max rfl (ev_tmp ha rfl) (ev_tmp ha rfl), ?_⟩
      | refine ⟨_, fun tm ha => step1_min rfl (ev_tmp ha rfl) (ev_tmp ha rfl), ?_⟩
      | (refine ⟨fun _ => ?_, fun _ => ?_⟩ <;> first | (exfalso; omega) | skip)
      | fail
    have hll := hL.len
    refine (refof_spec hBx hwx.row (by omega)).mono ?_
    rintro r H3 ⟨hr, hk3⟩
    repeat' first
      | refine CO.cons rfl ?_
      | refine CO.nil ?_
      | refine CV.seq ?_
      | refine CV.region callees ?_
      | refine CV.cond ?_
      | refine CV.block ?_
      | refine CV.skip ?_
      | refine CV.exit ?_
      | refine CV.ret ?_
      | refine CV.scope ?_
      | refine CV.draw callees rfl ?_
      | refine CH.cons rfl ?_
      | refine CH.nil ?_
      | refine CO.consG rfl ?_
      | refine CH.consG rfl ?_
      | refine CG.cons rfl ?_
      | refine CG.nil ?_
      | refine CG.consG rfl ?_
      | refine ⟨(rfl : plain _ = true), ?_⟩
      | refine ⟨(rfl : nilOk _ = some _), ?_⟩
      | refine ⟨_, ints_len (by assumption), ?_⟩
      | refine ⟨_, ints_addr (by assumption) (by omega) (by omega), ?_⟩
      | refine ⟨_, ints_load (by assumption) (by omega) (by omega), ?_⟩
      | refine ⟨(⟨by omega, by omega⟩ : inI64 _), ?_⟩
      | refine ⟨_, fun tm ha => step1_max rfl (ev_tmp ha rfl) (ev_tmp ha rfl), ?_⟩
      | refine ⟨_, fun tm ha => step1_min rfl (ev_tmp ha rfl) (ev_tmp ha rfl), ?_⟩
      | (refine ⟨fun _ => ?_, fun _ => ?_⟩ <;> first | (exfalso; omega) | skip)
      | fail
    refine ⟨by simp only [List.all_cons, List.all_nil, hr.notTuple]; rfl, ?_, hk.trans hk3⟩
    rw [TwoR, if_pos h0]
    exact ⟨r, _, rfl, ⟨l, hL.isJoin hl (hfin rfl), rfl⟩, hr.low hk.1⟩
  | true =>
    repeat' first
      | refine CO.cons rfl ?_
      | refine CO.nil ?_
      | refine CV.seq ?_
      | refine CV.region callees ?_
      | refine CV.cond ?_
      | refine CV.block ?_
      | refine CV.skip ?_
      | refine CV.exit ?_
      | refine CV.ret ?_
      | refine CV.scope ?_
      | refine CV.draw callees rfl ?_
      | refine CH.cons rfl ?_
      | refine CH.nil ?_
      | refine CO.consG rfl ?_
      | refine CH.consG rfl ?_
      | refine CG.cons rfl ?_
      | refine CG.nil ?_
      | refine CG.consG rfl ?_
      | refine ⟨(rfl : plain _ = true), ?_⟩
      | refine ⟨(rfl : nilOk _ = some _), ?_⟩
      | refine ⟨_, ints_len (by assumption), ?_⟩
      | refine ⟨_, ints_addr (by assumption) (by omega) (by omega), ?_⟩
      | refine ⟨_, ints_load (by assumption) (by omega) (by omega), ?_⟩
      | refine ⟨(⟨by omega, by omega⟩ : inI64 _), ?_⟩
      | refine ⟨_, fun tm ha => step1_max rfl (ev_tmp ha rfl) (ev_tmp ha rfl), ?_⟩
      | refine ⟨_, fun tm ha => step1_min rfl (ev_tmp ha rfl) (ev_tmp ha rfl), ?_⟩
      | (refine ⟨fun _ => ?_, fun _ => ?_⟩ <;> first | (exfalso; omega) | skip)
      | fail
    refine CV.loopc ?_
    refine WCv.rounds callees false (α := Nat × Bool × List Int) (fun (i, more, m) => [(0, v), (1, u), (7, w), (8, .bool more), (9, .int .i64 i)]) (fun (i, more, m) Hz => i ≤ xs.length ∧ Keep H1 Hz ∧ Own 3 Hz w (m.map VI) H1.n ∧ Pass xs ys l m more i 0) (fun (i, more, m) => xs.length - i) (0, false, l) (by repeat' first | exact trivial | refine ⟨rfl, ?_⟩ | refine ⟨slot_int (by (try simp only [Int.toNat_natCast]); omega), ?_⟩) ?_ ?_
    · exact ⟨by omega, hk, hwx, ⟨hL, hpos, fun h => (by cases h), fun _ => ⟨rfl, fun u w _ _ h => by omega⟩⟩⟩
    rintro ⟨i, more, m⟩ Hy ⟨hi, hky, hwy, hP⟩ hBy
    have hvy := hv.keep hky
    have huy := hu.keep hky
    by_cases hi2 : i < xs.length
    · repeat' first
        | refine CO.cons rfl ?_
        | refine CO.nil ?_
        | refine CV.seq ?_
        | refine CV.region callees ?_
        | refine CV.cond ?_
        | refine CV.block ?_
        | refine CV.skip ?_
        | refine CV.exit ?_
        | refine CV.ret ?_
        | refine CV.scope ?_
        | refine CV.draw callees rfl ?_
        | refine CH.cons rfl ?_
        | refine CH.nil ?_
        | refine CO.consG rfl ?_
        | refine CH.consG rfl ?_
        | refine CG.cons rfl ?_
        | refine CG.nil ?_
        | refine CG.consG rfl ?_
        | refine ⟨(rfl : plain _ = true), ?_⟩
        | refine ⟨(rfl : nilOk _ = some _), ?_⟩
        | refine ⟨_, ints_len (by assumption), ?_⟩
        | refine ⟨_, ints_addr (by assumption) (by omega) (by omega), ?_⟩
        | refine ⟨_, ints_load (by assumption) (by omega) (by omega), ?_⟩
        | refine ⟨(⟨by omega, by omega⟩ : inI64 _), ?_⟩
        | refine ⟨_, fun tm ha => step1_max rfl (ev_tmp ha rfl) (ev_tmp ha rfl), ?_⟩
        | refine ⟨_, fun tm ha => step1_min rfl (ev_tmp ha rfl) (ev_tmp ha rfl), ?_⟩
        | (refine ⟨fun _ => ?_, fun _ => ?_⟩ <;> first | (exfalso; omega) | skip)
        | fail
      refine CV.loopc ?_
      refine WCv.rounds callees false (α := Nat × Bool × List Int) (fun (k, more, m) => [(0, v), (1, u), (7, w), (8, .bool more), (9, .int .i64 i), (10, .int .i64 k)]) (fun (k, more, m) Hz => k ≤ xs.length ∧ Keep H1 Hz ∧ Own 3 Hz w (m.map VI) H1.n ∧ Pass xs ys l m more i k) (fun (k, more, m) => xs.length - k) (0, more, m) (by repeat' first | exact trivial | refine ⟨rfl, ?_⟩ | refine ⟨slot_int (by (try simp only [Int.toNat_natCast]); omega), ?_⟩) ?_ ?_
      · exact ⟨by omega, hky, hwy, hP⟩
      rintro ⟨k, more, m⟩ Hz ⟨hk1, hkz, hwz, hPz⟩ hBz
      have hvz := hv.keep hkz
      have huz := hu.keep hkz
      have hwi : Ints Hz w m := hwz.row
      have hlm := hPz.lab.len
      by_cases hk2 : k < xs.length
      · have fin : ∀ H3, Own 3 H3 w ((m.set k m[i]!).map VI) H1.n → KeepBut w Hz H3 → Keep H1 H3 := fun H3 _ kb => kb.keep hkz fun c hc => (hwz.lt hc).1
        repeat' first
          | refine CO.cons rfl ?_
          | refine CO.nil ?_
          | refine CV.seq ?_
          | refine CV.region callees ?_
          | refine CV.cond ?_
          | refine CV.block ?_
          | refine CV.skip ?_
          | refine CV.exit ?_
          | refine CV.ret ?_
          | refine CV.scope ?_
          | refine CV.draw callees rfl ?_
          | refine CH.cons rfl ?_
          | refine CH.nil ?_
          | refine CO.consG rfl ?_
          | refine CH.consG rfl ?_
          | refine CG.cons rfl ?_
          | refine CG.nil ?_
          | refine CG.consG rfl ?_
          | refine ⟨(rfl : plain _ = true), ?_⟩
          | refine ⟨(rfl : nilOk _ = some _), ?_⟩
          | refine ⟨_, ints_len (by assumption), ?_⟩
          | refine ⟨_, ints_addr (by assumption) (by omega) (by omega), ?_⟩
          | refine ⟨_, ints_load (by assumption) (by omega) (by omega), ?_⟩
          | refine ⟨(⟨by omega, by omega⟩ : inI64 _), ?_⟩
          | refine ⟨_, fun tm ha => step1_max rfl (ev_tmp ha rfl) (ev_tmp ha rfl), ?_⟩
          | refine ⟨_, fun tm ha => step1_min rfl (ev_tmp ha rfl) (ev_tmp ha rfl), ?_⟩
          | (refine ⟨fun _ => ?_, fun _ => ?_⟩ <;> first | (exfalso; omega) | skip)
          | fail
        all_goals simp only [Int.toNat_natCast] at *
        · refine put_ask (i := k) hwz hB (by omega) ?_
          intro H3 hw3 kb3
          repeat' first
            | refine CO.cons rfl ?_
            | refine CO.nil ?_
            | refine CV.seq ?_
            | refine CV.region callees ?_
            | refine CV.cond ?_
            | refine CV.block ?_
            | refine CV.skip ?_
            | refine CV.exit ?_
            | refine CV.ret ?_
            | refine CV.scope ?_
            | refine CV.draw callees rfl ?_
            | refine CH.cons rfl ?_
            | refine CH.nil ?_
            | refine CO.consG rfl ?_
            | refine CH.consG rfl ?_
            | refine CG.cons rfl ?_
            | refine CG.nil ?_
            | refine CG.consG rfl ?_
            | refine ⟨(rfl : plain _ = true), ?_⟩
            | refine ⟨(rfl : nilOk _ = some _), ?_⟩
            | refine ⟨_, ints_len (by assumption), ?_⟩
            | refine ⟨_, ints_addr (by assumption) (by omega) (by omega), ?_⟩
            | refine ⟨_, ints_load (by assumption) (by omega) (by omega), ?_⟩
            | refine ⟨(⟨by omega, by omega⟩ : inI64 _), ?_⟩
            | refine ⟨_, fun tm ha => step1_max rfl (ev_tmp ha rfl) (ev_tmp ha rfl), ?_⟩
            | refine ⟨_, fun tm ha => step1_min rfl (ev_tmp ha rfl) (ev_tmp ha rfl), ?_⟩
            | (refine ⟨fun _ => ?_, fun _ => ?_⟩ <;> first | (exfalso; omega) | skip)
            | fail
          refine ⟨(k + 1, true, m.set k m[i]!), (by repeat' first | exact trivial | refine ⟨rfl, ?_⟩ | refine ⟨slot_int (by (try simp only [Int.toNat_natCast]); omega), ?_⟩), (by (try dsimp only); omega), ?_⟩
          exact ⟨by omega, fin _ hw3 kb3, hw3, hPz.put hl hi2 hk2 (.inl (by assumption)) (by assumption)⟩
        · refine ⟨(k + 1, more, m), (by repeat' first | exact trivial | refine ⟨rfl, ?_⟩ | refine ⟨slot_int (by (try simp only [Int.toNat_natCast]); omega), ?_⟩), (by (try dsimp only); omega), ?_⟩
          exact ⟨by omega, hkz, hwz, hPz.skip fun h => absurd h.2 (by assumption)⟩
        · refine put_ask (i := k) hwz hB (by omega) ?_
          intro H3 hw3 kb3
          repeat' first
            | refine CO.cons rfl ?_
            | refine CO.nil ?_
            | refine CV.seq ?_
            | refine CV.region callees ?_
            | refine CV.cond ?_
            | refine CV.block ?_
            | refine CV.skip ?_
            | refine CV.exit ?_
            | refine CV.ret ?_
            | refine CV.scope ?_
            | refine CV.draw callees rfl ?_
            | refine CH.cons rfl ?_
            | refine CH.nil ?_
            | refine CO.consG rfl ?_
            | refine CH.consG rfl ?_
            | refine CG.cons rfl ?_
            | refine CG.nil ?_
            | refine CG.consG rfl ?_
            | refine ⟨(rfl : plain _ = true), ?_⟩
            | refine ⟨(rfl : nilOk _ = some _), ?_⟩
            | refine ⟨_, ints_len (by assumption), ?_⟩
            | refine ⟨_, ints_addr (by assumption) (by omega) (by omega), ?_⟩
            | refine ⟨_, ints_load (by assumption) (by omega) (by omega), ?_⟩
            | refine ⟨(⟨by omega, by omega⟩ : inI64 _), ?_⟩
            | refine ⟨_, fun tm ha => step1_max rfl (ev_tmp ha rfl) (ev_tmp ha rfl), ?_⟩
            | refine ⟨_, fun tm ha => step1_min rfl (ev_tmp ha rfl) (ev_tmp ha rfl), ?_⟩
            | (refine ⟨fun _ => ?_, fun _ => ?_⟩ <;> first | (exfalso; omega) | skip)
            | fail
          refine ⟨(k + 1, true, m.set k m[i]!), (by repeat' first | exact trivial | refine ⟨rfl, ?_⟩ | refine ⟨slot_int (by (try simp only [Int.toNat_natCast]); omega), ?_⟩), (by (try dsimp only); omega), ?_⟩
          exact ⟨by omega, fin _ hw3 kb3, hw3, hPz.put hl hi2 hk2 (.inr (by assumption)) (by assumption)⟩
        · refine ⟨(k + 1, more, m), (by repeat' first | exact trivial | refine ⟨rfl, ?_⟩ | refine ⟨slot_int (by (try simp only [Int.toNat_natCast]); omega), ?_⟩), (by (try dsimp only); omega), ?_⟩
          exact ⟨by omega, hkz, hwz, hPz.skip fun h => absurd h.2 (by assumption)⟩
        · refine ⟨(k + 1, more, m), (by repeat' first | exact trivial | refine ⟨rfl, ?_⟩ | refine ⟨slot_int (by (try simp only [Int.toNat_natCast]); omega), ?_⟩), (by (try dsimp only); omega), ?_⟩
          exact ⟨by omega, hkz, hwz, hPz.skip fun h => h.1.elim (fun e => absurd e (by assumption)) (fun e => absurd e (by assumption))⟩
      · repeat' first
          | refine CO.cons rfl ?_
          | refine CO.nil ?_
          | refine CV.seq ?_
          | refine CV.region callees ?_
          | refine CV.cond ?_
          | refine CV.block ?_
          | refine CV.skip ?_
          | refine CV.exit ?_
          | refine CV.ret ?_
          | refine CV.scope ?_
          | refine CV.draw callees rfl ?_
          | refine CH.cons rfl ?_
          | refine CH.nil ?_
          | refine CO.consG rfl ?_
          | refine CH.consG rfl ?_
          | refine CG.cons rfl ?_
          | refine CG.nil ?_
          | refine CG.consG rfl ?_
          | refine ⟨(rfl : plain _ = true), ?_⟩
          | refine ⟨(rfl : nilOk _ = some _), ?_⟩
          | refine ⟨_, ints_len (by assumption), ?_⟩
          | refine ⟨_, ints_addr (by assumption) (by omega) (by omega), ?_⟩
          | refine ⟨_, ints_load (by assumption) (by omega) (by omega), ?_⟩
          | refine ⟨(⟨by omega, by omega⟩ : inI64 _), ?_⟩
          | refine ⟨_, fun tm ha => step1_max rfl (ev_tmp ha rfl) (ev_tmp ha rfl), ?_⟩
          | refine ⟨_, fun tm ha => step1_min rfl (ev_tmp ha rfl) (ev_tmp ha rfl), ?_⟩
          | (refine ⟨fun _ => ?_, fun _ => ?_⟩ <;> first | (exfalso; omega) | skip)
          | fail
        refine ⟨(i + 1, more, m), (by repeat' first | exact trivial | refine ⟨rfl, ?_⟩ | refine ⟨slot_int (by (try simp only [Int.toNat_natCast]); omega), ?_⟩), (by (try dsimp only); omega), ?_⟩
        exact ⟨by omega, hkz, hwz, hPz.next (by omega)⟩
    · repeat' first
        | refine CO.cons rfl ?_
        | refine CO.nil ?_
        | refine CV.seq ?_
        | refine CV.region callees ?_
        | refine CV.cond ?_
        | refine CV.block ?_
        | refine CV.skip ?_
        | refine CV.exit ?_
        | refine CV.ret ?_
        | refine CV.scope ?_
        | refine CV.draw callees rfl ?_
        | refine CH.cons rfl ?_
        | refine CH.nil ?_
        | refine CO.consG rfl ?_
        | refine CH.consG rfl ?_
        | refine CG.cons rfl ?_
        | refine CG.nil ?_
        | refine CG.consG rfl ?_
        | refine ⟨(rfl : plain _ = true), ?_⟩
        | refine ⟨(rfl : nilOk _ = some _), ?_⟩
        | refine ⟨_, ints_len (by assumption), ?_⟩
        | refine ⟨_, ints_addr (by assumption) (by omega) (by omega), ?_⟩
        | refine ⟨_, ints_load (by assumption) (by omega) (by omega), ?_⟩
        | refine ⟨(⟨by omega, by omega⟩ : inI64 _), ?_⟩
        | refine ⟨_, fun tm ha => step1_max rfl (ev_tmp ha rfl) (ev_tmp ha rfl), ?_⟩
        | refine ⟨_, fun tm ha => step1_min rfl (ev_tmp ha rfl) (ev_tmp ha rfl), ?_⟩
        | (refine ⟨fun _ => ?_, fun _ => ?_⟩ <;> first | (exfalso; omega) | skip)
        | fail
      refine ⟨(more, m), (by repeat' first | exact trivial | refine ⟨rfl, ?_⟩), ?_, hky, hwy, hP.lab, hP.pos, fun hm => ?_⟩
      · cases more with
        | true => have := hP.less rfl; simp only [bn]; simp; omega
        | false => have := (hP.same rfl).1; subst this; simp [bn]
      · subst hm
        exact fun u w hu hw he => (hP.same rfl).2 u w hu hw (by omega) he
end Go.Proofs.YthcchjmjblegdaaDoor

/- ChartLattice: its function answers true. -/
namespace Go.Proofs.YthcchjmjblegdaaDoor
open Go.AI
set_option maxHeartbeats 1000000 in
set_option maxRecDepth 100000 in
theorem refFiner_spec {B : Nat} {v u : Value} {H : Heap} {xs ys : List Int} (hB : B ≤ H.n) (hv : Ints H v xs) (hu : Ints H u ys) :
    CallB Tryd.prog B 42 [v, u] H (fun r H' => (∃ b : Bool, r = .tuple #[.bool b, .int .i64 (chk2 xs ys)] ∧ (chk2 xs ys = 0 → (b = true ↔ Fine xs ys)) ∧ (chk2 xs ys ≠ 0 → b = false)) ∧ H' = H) := by
  refine CV.enter callees false rfl Tryd.func42 rfl ok42 (Nat.le_of_ble_eq_true rfl) hB ?_
  repeat' first
    | refine CO.cons rfl ?_
    | refine CO.nil ?_
    | refine CV.seq ?_
    | refine CV.region callees ?_
    | refine CV.cond ?_
    | refine CV.block ?_
    | refine CV.skip ?_
    | refine CV.exit ?_
    | refine CV.ret ?_
    | refine CV.scope ?_
    | refine CV.draw callees rfl ?_
    | refine CH.cons rfl ?_
    | refine CH.nil ?_
    | refine CO.consG rfl ?_
    | refine CH.consG rfl ?_
    | refine CG.cons rfl ?_
    | refine CG.nil ?_
    | refine CG.consG rfl ?_
    | refine ⟨(rfl : plain _ = true), ?_⟩
    | refine ⟨(rfl : nilOk _ = some _), ?_⟩
    | refine ⟨_, ints_len (by assumption), ?_⟩
    | refine ⟨_, ints_addr (by assumption) (by omega) (by omega), ?_⟩
    | refine ⟨_, ints_load (by assumption) (by omega) (by omega), ?_⟩
    | refine ⟨(⟨by omega, by omega⟩ : inI64 _), ?_⟩
    | refine ⟨_, fun tm ha => step1_max rfl (ev_tmp ha rfl) (ev_tmp ha rfl), ?_⟩
    | refine ⟨_, fun tm ha => step1_min rfl (ev_tmp ha rfl) (ev_tmp ha rfl), ?_⟩
    | (refine ⟨fun _ => ?_, fun _ => ?_⟩ <;> first | (exfalso; omega) | skip)
    | fail
  refine (refCheckBoth_spec hB hv hu).mono ?_
  rintro r H1 ⟨rfl, rfl⟩
  repeat' first
    | refine CO.cons rfl ?_
    | refine CO.nil ?_
    | refine CV.seq ?_
    | refine CV.region callees ?_
    | refine CV.cond ?_
    | refine CV.block ?_
    | refine CV.skip ?_
    | refine CV.exit ?_
    | refine CV.ret ?_
    | refine CV.scope ?_
    | refine CV.draw callees rfl ?_
    | refine CH.cons rfl ?_
    | refine CH.nil ?_
    | refine CO.consG rfl ?_
    | refine CH.consG rfl ?_
    | refine CG.cons rfl ?_
    | refine CG.nil ?_
    | refine CG.consG rfl ?_
    | refine ⟨(rfl : plain _ = true), ?_⟩
    | refine ⟨(rfl : nilOk _ = some _), ?_⟩
    | refine ⟨_, ints_len (by assumption), ?_⟩
    | refine ⟨_, ints_addr (by assumption) (by omega) (by omega), ?_⟩
    | refine ⟨_, ints_load (by assumption) (by omega) (by omega), ?_⟩
    | refine ⟨(⟨by omega, by omega⟩ : inI64 _), ?_⟩
    | refine ⟨_, fun tm ha => step1_max rfl (ev_tmp ha rfl) (ev_tmp ha rfl), ?_⟩
    | refine ⟨_, fun tm ha => step1_min rfl (ev_tmp ha rfl) (ev_tmp ha rfl), ?_⟩
    | (refine ⟨fun _ => ?_, fun _ => ?_⟩ <;> first | (exfalso; omega) | skip)
    | fail
  · exact ⟨rfl, ⟨false, rfl, fun h => absurd h (by assumption), fun _ => rfl⟩, rfl⟩
  have h0 : chk2 xs ys = 0 := Classical.not_not.1 (by assumption)
  obtain ⟨hcx, hcy, hl⟩ := chk2_zero h0
  have hlx := check_len hcx
  refine CV.loopc ?_
  refine WCv.rounds callees false (α := Nat) (fun i => [(0, v), (1, u), (7, .int .i64 i)]) (fun i Hz => Hz = H1 ∧ i ≤ xs.length ∧ ∀ p q : Nat, q < p → p < i → xs[p]! = xs[q]! → ys[p]! = ys[q]!) (fun i => xs.length - i) (0) (by repeat' first | exact trivial | refine ⟨rfl, ?_⟩ | refine ⟨slot_int (by (try simp only [Int.toNat_natCast]); omega), ?_⟩) ?_ ?_
  · exact ⟨rfl, by omega, fun p q _ h => by omega⟩
  rintro i Hx ⟨rfl, hi, hf⟩ hBx
  by_cases hi2 : i < xs.length
  · repeat' first
      | refine CO.cons rfl ?_
      | refine CO.nil ?_
      | refine CV.seq ?_
      | refine CV.region callees ?_
      | refine CV.cond ?_
      | refine CV.block ?_
      | refine CV.skip ?_
      | refine CV.exit ?_
      | refine CV.ret ?_
      | refine CV.scope ?_
      | refine CV.draw callees rfl ?_
      | refine CH.cons rfl ?_
      | refine CH.nil ?_
      | refine CO.consG rfl ?_
      | refine CH.consG rfl ?_
      | refine CG.cons rfl ?_
      | refine CG.nil ?_
      | refine CG.consG rfl ?_
      | refine ⟨(rfl : plain _ = true), ?_⟩
      | refine ⟨(rfl : nilOk _ = some _), ?_⟩
      | refine ⟨_, ints_len (by assumption), ?_⟩
      | refine ⟨_, ints_addr (by assumption) (by omega) (by omega), ?_⟩
      | refine ⟨_, ints_load (by assumption) (by omega) (by omega), ?_⟩
      | refine ⟨(⟨by omega, by omega⟩ : inI64 _), ?_⟩
      | refine ⟨_, fun tm ha => step1_max rfl (ev_tmp ha rfl) (ev_tmp ha rfl), ?_⟩
      | refine ⟨_, fun tm ha => step1_min rfl (ev_tmp ha rfl) (ev_tmp ha rfl), ?_⟩
      | (refine ⟨fun _ => ?_, fun _ => ?_⟩ <;> first | (exfalso; omega) | skip)
      | fail
    refine CV.loopc ?_
    refine WCv.rounds callees false (α := Nat) (fun k => [(0, v), (1, u), (7, .int .i64 i), (8, .int .i64 k)]) (fun k Hz => Hz = Hx ∧ k ≤ i ∧ ∀ q : Nat, q < k → xs[i]! = xs[q]! → ys[i]! = ys[q]!) (fun k => i - k) (0) (by repeat' first | exact trivial | refine ⟨rfl, ?_⟩ | refine ⟨slot_int (by (try simp only [Int.toNat_natCast]); omega), ?_⟩) ?_ ?_
    · exact ⟨rfl, by omega, fun q h => by omega⟩
    rintro k Hy ⟨rfl, hk, hg⟩ hBy
    by_cases hk2 : k < i
    · have more : (xs[i]! = xs[k]! → ys[i]! = ys[k]!) → ∀ q : Nat, q < k + 1 → xs[i]! = xs[q]! → ys[i]! = ys[q]! := fun h q hq he => by
        by_cases hqk : q < k
        · exact hg q hqk he
        · have : q = k := by omega
          subst this; exact h he
      repeat' first
        | refine CO.cons rfl ?_
        | refine CO.nil ?_
        | refine CV.seq ?_
        | refine CV.region callees ?_
        | refine CV.cond ?_
        | refine CV.block ?_
        | refine CV.skip ?_
        | refine CV.exit ?_
        | refine CV.ret ?_
        | refine CV.scope ?_
        | refine CV.draw callees rfl ?_
        | refine CH.cons rfl ?_
        | refine CH.nil ?_
        | refine CO.consG rfl ?_
        | refine CH.consG rfl ?_
        | refine CG.cons rfl ?_
        | refine CG.nil ?_
        | refine CG.consG rfl ?_
        | refine ⟨(rfl : plain _ = true), ?_⟩
        | refine ⟨(rfl : nilOk _ = some _), ?_⟩
        | refine ⟨_, ints_len (by assumption), ?_⟩
        | refine ⟨_, ints_addr (by assumption) (by omega) (by omega), ?_⟩
        | refine ⟨_, ints_load (by assumption) (by omega) (by omega), ?_⟩
        | refine ⟨(⟨by omega, by omega⟩ : inI64 _), ?_⟩
        | refine ⟨_, fun tm ha => step1_max rfl (ev_tmp ha rfl) (ev_tmp ha rfl), ?_⟩
        | refine ⟨_, fun tm ha => step1_min rfl (ev_tmp ha rfl) (ev_tmp ha rfl), ?_⟩
        | (refine ⟨fun _ => ?_, fun _ => ?_⟩ <;> first | (exfalso; omega) | skip)
        | fail
      all_goals simp only [Int.toNat_natCast] at *
      · exact ⟨rfl, ⟨false, by rw [h0], fun _ => ⟨(fun h => by cases h), fun h => absurd (h i k hk2 hi2 (by assumption)) (by assumption)⟩, fun _ => rfl⟩, rfl⟩
      · refine ⟨(k + 1), (by repeat' first | exact trivial | refine ⟨rfl, ?_⟩ | refine ⟨slot_int (by (try simp only [Int.toNat_natCast]); omega), ?_⟩), (by (try dsimp only); omega), ?_⟩
        exact ⟨rfl, by omega, more fun _ => Classical.not_not.1 (by assumption)⟩
      · refine ⟨(k + 1), (by repeat' first | exact trivial | refine ⟨rfl, ?_⟩ | refine ⟨slot_int (by (try simp only [Int.toNat_natCast]); omega), ?_⟩), (by (try dsimp only); omega), ?_⟩
        exact ⟨rfl, by omega, more fun h => absurd h (by assumption)⟩
    · repeat' first
        | refine CO.cons rfl ?_
        | refine CO.nil ?_
        | refine CV.seq ?_
        | refine CV.region callees ?_
        | refine CV.cond ?_
        | refine CV.block ?_
        | refine CV.skip ?_
        | refine CV.exit ?_
        | refine CV.ret ?_
        | refine CV.scope ?_
        | refine CV.draw callees rfl ?_
        | refine CH.cons rfl ?_
        | refine CH.nil ?_
        | refine CO.consG rfl ?_
        | refine CH.consG rfl ?_
        | refine CG.cons rfl ?_
        | refine CG.nil ?_
        | refine CG.consG rfl ?_
        | refine ⟨(rfl : plain _ = true), ?_⟩
        | refine ⟨(rfl : nilOk _ = some _), ?_⟩
        | refine ⟨_, ints_len (by assumption), ?_⟩
        | refine ⟨_, ints_addr (by assumption) (by omega) (by omega), ?_⟩
        | refine ⟨_, ints_load (by assumption) (by omega) (by omega), ?_⟩
        | refine ⟨(⟨by omega, by omega⟩ : inI64 _), ?_⟩
        | refine ⟨_, fun tm ha => step1_max rfl (ev_tmp ha rfl) (ev_tmp ha rfl), ?_⟩
        | refine ⟨_, fun tm ha => step1_min rfl (ev_tmp ha rfl) (ev_tmp ha rfl), ?_⟩
        | (refine ⟨fun _ => ?_, fun _ => ?_⟩ <;> first | (exfalso; omega) | skip)
        | fail
      refine ⟨(i + 1), (by repeat' first | exact trivial | refine ⟨rfl, ?_⟩ | refine ⟨slot_int (by (try simp only [Int.toNat_natCast]); omega), ?_⟩), (by (try dsimp only); omega), ?_⟩
      refine ⟨rfl, by omega, fun p q hq hp he => ?_⟩
      by_cases hpi : p < i
      · exact hf p q hq hpi he
      · have : p = i := by omega
        subst this; exact hg q (by omega) he
  · repeat' first
      | refine CO.cons rfl ?_
      | refine CO.nil ?_
      | refine CV.seq ?_
      | refine CV.region callees ?_
      | refine CV.cond ?_
      | refine CV.block ?_
      | refine CV.skip ?_
      | refine CV.exit ?_
      | refine CV.ret ?_
      | refine CV.scope ?_
      | refine CV.draw callees rfl ?_
      | refine CH.cons rfl ?_
      | refine CH.nil ?_
      | refine CO.consG rfl ?_
      | refine CH.consG rfl ?_
      | refine CG.cons rfl ?_
      | refine CG.nil ?_
      | refine CG.consG rfl ?_
      | refine ⟨(rfl : plain _ = true), ?_⟩
      | refine ⟨(rfl : nilOk _ = some _), ?_⟩
      | refine ⟨_, ints_len (by assumption), ?_⟩
      | refine ⟨_, ints_addr (by assumption) (by omega) (by omega), ?_⟩
      | refine ⟨_, ints_load (by assumption) (by omega) (by omega), ?_⟩
      | refine ⟨(⟨by omega, by omega⟩ : inI64 _), ?_⟩
      | refine ⟨_, fun tm ha => step1_max rfl (ev_tmp ha rfl) (ev_tmp ha rfl), ?_⟩
      | refine ⟨_, fun tm ha => step1_min rfl (ev_tmp ha rfl) (ev_tmp ha rfl), ?_⟩
      | (refine ⟨fun _ => ?_, fun _ => ?_⟩ <;> first | (exfalso; omega) | skip)
      | fail
    exact ⟨rfl, ⟨true, by rw [h0], fun _ => ⟨fun _ p q hq hp he => hf p q hq (by omega) he, fun _ => rfl⟩, fun h => absurd h0 h⟩, rfl⟩
theorem TwoR.flat {H : Heap} {xs ys : List Int} {good : List Int → Prop} {r : Value} {H' : Heap} (h : TwoR H xs ys good r H') (hg : chk2 xs ys = 0 → ∀ l, good l → l.length ≤ 9) :
    ∃ u l, r = .tuple #[u, .int .i64 (chk2 xs ys)] ∧ Ints H' u l ∧ l.length ≤ 9 ∧ (chk2 xs ys = 0 → good l) ∧ (chk2 xs ys ≠ 0 → l = []) := by
  unfold TwoR at h
  split at h
  · rename_i h0
    obtain ⟨u, l, rfl, h1, h2⟩ := h
    exact ⟨u, l, by rw [h0], h2.row, hg h0 l h1, fun _ => h1, fun h => absurd h0 h⟩
  · rename_i h0
    subst h
    exact ⟨_, [], rfl, .inl ⟨rfl, rfl⟩, by simp, fun h => absurd h h0, fun _ => rfl⟩
theorem num_len9 {l : List Int} {n : Nat} (h : l.length = n) (h9 : n ≤ 9) : (num l []).length ≤ 9 := by rw [num_length]; omega

set_option maxHeartbeats 8000000 in
set_option maxRecDepth 100000 in
theorem chartLattice_spec {v u w : Value} {H : Heap} {xs ys zs : List Int} (hBase : Base H) (hv : Ints H v xs) (hx : xs.length ≤ 9223372036854775807) (_ : ∀ x ∈ xs, inI64 x)
    (hu : Ints H u ys) (hy : ys.length ≤ 9223372036854775807) (_ : ∀ x ∈ ys, inI64 x) (hw : Ints H w zs) (hz : zs.length ≤ 9223372036854775807) (_ : ∀ x ∈ zs, inI64 x) :
    CallB Tryd.prog H.n 5 [v, u, w] H (fun r _ => r = .bool true) := by
  have hB : H.n ≤ H.n := Nat.le_refl _
  refine CV.enter callees false rfl Tryd.func5 rfl ok5 (Nat.le_of_ble_eq_true rfl) hB ?_
  repeat' first
    | refine CO.cons rfl ?_
    | refine CO.nil ?_
    | refine CV.seq ?_
    | refine CV.region callees ?_
    | refine CV.cond ?_
    | refine CV.block ?_
    | refine CV.skip ?_
    | refine CV.exit ?_
    | refine CV.ret ?_
    | refine CV.scope ?_
    | refine CV.draw callees rfl ?_
    | refine CH.cons rfl ?_
    | refine CH.nil ?_
    | refine CO.consG rfl ?_
    | refine CH.consG rfl ?_
    | refine CG.cons rfl ?_
    | refine CG.nil ?_
    | refine CG.consG rfl ?_
    | refine ⟨(rfl : plain _ = true), ?_⟩
    | refine ⟨(rfl : nilOk _ = some _), ?_⟩
    | refine ⟨_, ints_len (by assumption), ?_⟩
    | refine ⟨_, ints_addr (by assumption) (by omega) (by omega), ?_⟩
    | refine ⟨_, ints_load (by assumption) (by omega) (by omega), ?_⟩
    | refine ⟨(⟨by omega, by omega⟩ : inI64 _), ?_⟩
    | refine ⟨_, fun tm ha => step1_max rfl (ev_tmp ha rfl) (ev_tmp ha rfl), ?_⟩
    | refine ⟨_, fun tm ha => step1_min rfl (ev_tmp ha rfl) (ev_tmp ha rfl), ?_⟩
    | (refine ⟨fun _ => ?_, fun _ => ?_⟩ <;> first | (exfalso; omega) | skip)
    | fail
  refine (long_spec hB hv).mono ?_
  rintro r H1 ⟨rfl, rfl⟩
  by_cases h40 : 40 < xs.length
  · rw [decide_eq_true h40]
    repeat' first
      | refine CO.cons rfl ?_
      | refine CO.nil ?_
      | refine CV.seq ?_
      | refine CV.region callees ?_
      | refine CV.cond ?_
      | refine CV.block ?_
      | refine CV.skip ?_
      | refine CV.exit ?_
      | refine CV.ret ?_
      | refine CV.scope ?_
      | refine CV.draw callees rfl ?_
      | refine CH.cons rfl ?_
      | refine CH.nil ?_
      | refine CO.consG rfl ?_
      | refine CH.consG rfl ?_
      | refine CG.cons rfl ?_
      | refine CG.nil ?_
      | refine CG.consG rfl ?_
      | refine ⟨(rfl : plain _ = true), ?_⟩
      | refine ⟨(rfl : nilOk _ = some _), ?_⟩
      | refine ⟨_, ints_len (by assumption), ?_⟩
      | refine ⟨_, ints_addr (by assumption) (by omega) (by omega), ?_⟩
      | refine ⟨_, ints_load (by assumption) (by omega) (by omega), ?_⟩
      | refine ⟨(⟨by omega, by omega⟩ : inI64 _), ?_⟩
      | refine ⟨_, fun tm ha => step1_max rfl (ev_tmp ha rfl) (ev_tmp ha rfl), ?_⟩
      | refine ⟨_, fun tm ha => step1_min rfl (ev_tmp ha rfl) (ev_tmp ha rfl), ?_⟩
      | refine CallB.known rfl hBase hB ?_
      | (refine ⟨fun _ => ?_, fun _ => ?_⟩ <;> first | (exfalso; omega) | skip)
      | fail
    exact ⟨rfl, rfl⟩
  rw [decide_eq_false h40]
  repeat' first
    | refine CO.cons rfl ?_
    | refine CO.nil ?_
    | refine CV.seq ?_
    | refine CV.region callees ?_
    | refine CV.cond ?_
    | refine CV.block ?_
    | refine CV.skip ?_
    | refine CV.exit ?_
    | refine CV.ret ?_
    | refine CV.scope ?_
    | refine CV.draw callees rfl ?_
    | refine CH.cons rfl ?_
    | refine CH.nil ?_
    | refine CO.consG rfl ?_
    | refine CH.consG rfl ?_
    | refine CG.cons rfl ?_
    | refine CG.nil ?_
    | refine CG.consG rfl ?_
    | refine ⟨(rfl : plain _ = true), ?_⟩
    | refine ⟨(rfl : nilOk _ = some _), ?_⟩
    | refine ⟨_, ints_len (by assumption), ?_⟩
    | refine ⟨_, ints_addr (by assumption) (by omega) (by omega), ?_⟩
    | refine ⟨_, ints_load (by assumption) (by omega) (by omega), ?_⟩
    | refine ⟨(⟨by omega, by omega⟩ : inI64 _), ?_⟩
    | refine ⟨_, fun tm ha => step1_max rfl (ev_tmp ha rfl) (ev_tmp ha rfl), ?_⟩
    | refine ⟨_, fun tm ha => step1_min rfl (ev_tmp ha rfl) (ev_tmp ha rfl), ?_⟩
    | (refine ⟨fun _ => ?_, fun _ => ?_⟩ <;> first | (exfalso; omega) | skip)
    | fail
  refine (long_spec hB hu).mono ?_
  rintro r H2 ⟨rfl, rfl⟩
  by_cases h41 : 40 < ys.length
  · rw [decide_eq_true h41]
    repeat' first
      | refine CO.cons rfl ?_
      | refine CO.nil ?_
      | refine CV.seq ?_
      | refine CV.region callees ?_
      | refine CV.cond ?_
      | refine CV.block ?_
      | refine CV.skip ?_
      | refine CV.exit ?_
      | refine CV.ret ?_
      | refine CV.scope ?_
      | refine CV.draw callees rfl ?_
      | refine CH.cons rfl ?_
      | refine CH.nil ?_
      | refine CO.consG rfl ?_
      | refine CH.consG rfl ?_
      | refine CG.cons rfl ?_
      | refine CG.nil ?_
      | refine CG.consG rfl ?_
      | refine ⟨(rfl : plain _ = true), ?_⟩
      | refine ⟨(rfl : nilOk _ = some _), ?_⟩
      | refine ⟨_, ints_len (by assumption), ?_⟩
      | refine ⟨_, ints_addr (by assumption) (by omega) (by omega), ?_⟩
      | refine ⟨_, ints_load (by assumption) (by omega) (by omega), ?_⟩
      | refine ⟨(⟨by omega, by omega⟩ : inI64 _), ?_⟩
      | refine ⟨_, fun tm ha => step1_max rfl (ev_tmp ha rfl) (ev_tmp ha rfl), ?_⟩
      | refine ⟨_, fun tm ha => step1_min rfl (ev_tmp ha rfl) (ev_tmp ha rfl), ?_⟩
      | refine CallB.known rfl hBase hB ?_
      | (refine ⟨fun _ => ?_, fun _ => ?_⟩ <;> first | (exfalso; omega) | skip)
      | fail
    exact ⟨rfl, rfl⟩
  rw [decide_eq_false h41]
  repeat' first
    | refine CO.cons rfl ?_
    | refine CO.nil ?_
    | refine CV.seq ?_
    | refine CV.region callees ?_
    | refine CV.cond ?_
    | refine CV.block ?_
    | refine CV.skip ?_
    | refine CV.exit ?_
    | refine CV.ret ?_
    | refine CV.scope ?_
    | refine CV.draw callees rfl ?_
    | refine CH.cons rfl ?_
    | refine CH.nil ?_
    | refine CO.consG rfl ?_
    | refine CH.consG rfl ?_
    | refine CG.cons rfl ?_
    | refine CG.nil ?_
    | refine CG.consG rfl ?_
    | refine ⟨(rfl : plain _ = true), ?_⟩
    | refine ⟨(rfl : nilOk _ = some _), ?_⟩
    | refine ⟨_, ints_len (by assumption), ?_⟩
    | refine ⟨_, ints_addr (by assumption) (by omega) (by omega), ?_⟩
    | refine ⟨_, ints_load (by assumption) (by omega) (by omega), ?_⟩
    | refine ⟨(⟨by omega, by omega⟩ : inI64 _), ?_⟩
    | refine ⟨_, fun tm ha => step1_max rfl (ev_tmp ha rfl) (ev_tmp ha rfl), ?_⟩
    | refine ⟨_, fun tm ha => step1_min rfl (ev_tmp ha rfl) (ev_tmp ha rfl), ?_⟩
    | (refine ⟨fun _ => ?_, fun _ => ?_⟩ <;> first | (exfalso; omega) | skip)
    | fail
  refine (boxOf_spec hB hw hz).mono ?_
  rintro r H3 ⟨⟨b, rfl, hb, hbx⟩, k3⟩
  have kk := k3
  replace hv := hv.keep k3
  replace hu := hu.keep k3
  have hB := k3.1
  repeat' first
    | refine CO.cons rfl ?_
    | refine CO.nil ?_
    | refine CV.seq ?_
    | refine CV.region callees ?_
    | refine CV.cond ?_
    | refine CV.block ?_
    | refine CV.skip ?_
    | refine CV.exit ?_
    | refine CV.ret ?_
    | refine CV.scope ?_
    | refine CV.draw callees rfl ?_
    | refine CH.cons rfl ?_
    | refine CH.nil ?_
    | refine CO.consG rfl ?_
    | refine CH.consG rfl ?_
    | refine CG.cons rfl ?_
    | refine CG.nil ?_
    | refine CG.consG rfl ?_
    | refine ⟨(rfl : plain _ = true), ?_⟩
    | refine ⟨(rfl : nilOk _ = some _), ?_⟩
    | refine ⟨_, ints_len (by assumption), ?_⟩
    | refine ⟨_, ints_addr (by assumption) (by omega) (by omega), ?_⟩
    | refine ⟨_, ints_load (by assumption) (by omega) (by omega), ?_⟩
    | refine ⟨(⟨by omega, by omega⟩ : inI64 _), ?_⟩
    | refine ⟨_, fun tm ha => step1_max rfl (ev_tmp ha rfl) (ev_tmp ha rfl), ?_⟩
    | refine ⟨_, fun tm ha => step1_min rfl (ev_tmp ha rfl) (ev_tmp ha rfl), ?_⟩
    | (refine ⟨fun _ => ?_, fun _ => ?_⟩ <;> first | (exfalso; omega) | skip)
    | fail
  refine (any_spec hb hB hbx (by omega) (by omega) (by omega)).mono ?_
  rintro r H4 ⟨⟨m, rfl, hm1, hm9⟩, hb4, k4⟩
  replace hv := hv.box k4 hbx
  replace hu := hu.box k4 hbx
  replace kk := k4.keep kk hb
  replace hB := Nat.le_trans hB k4.1
  repeat' first
    | refine CO.cons rfl ?_
    | refine CO.nil ?_
    | refine CV.seq ?_
    | refine CV.region callees ?_
    | refine CV.cond ?_
    | refine CV.block ?_
    | refine CV.skip ?_
    | refine CV.exit ?_
    | refine CV.ret ?_
    | refine CV.scope ?_
    | refine CV.draw callees rfl ?_
    | refine CH.cons rfl ?_
    | refine CH.nil ?_
    | refine CO.consG rfl ?_
    | refine CH.consG rfl ?_
    | refine CG.cons rfl ?_
    | refine CG.nil ?_
    | refine CG.consG rfl ?_
    | refine ⟨(rfl : plain _ = true), ?_⟩
    | refine ⟨(rfl : nilOk _ = some _), ?_⟩
    | refine ⟨_, ints_len (by assumption), ?_⟩
    | refine ⟨_, ints_addr (by assumption) (by omega) (by omega), ?_⟩
    | refine ⟨_, ints_load (by assumption) (by omega) (by omega), ?_⟩
    | refine ⟨(⟨by omega, by omega⟩ : inI64 _), ?_⟩
    | refine ⟨_, fun tm ha => step1_max rfl (ev_tmp ha rfl) (ev_tmp ha rfl), ?_⟩
    | refine ⟨_, fun tm ha => step1_min rfl (ev_tmp ha rfl) (ev_tmp ha rfl), ?_⟩
    | (refine ⟨fun _ => ?_, fun _ => ?_⟩ <;> first | (exfalso; omega) | skip)
    | fail
  refine (partitionOf_spec hb hB hb4 hm1 hm9).mono ?_
  rintro o H5 ⟨⟨os, co, lo, hoo⟩, hb5, k5⟩
  have ho : Ints H5 o os := hoo.row
  replace hv := hv.box k5 hb4
  replace hu := hu.box k5 hb4
  replace kk := k5.keep kk hb
  replace hB := Nat.le_trans hB k5.1
  repeat' first
    | refine CO.cons rfl ?_
    | refine CO.nil ?_
    | refine CV.seq ?_
    | refine CV.region callees ?_
    | refine CV.cond ?_
    | refine CV.block ?_
    | refine CV.skip ?_
    | refine CV.exit ?_
    | refine CV.ret ?_
    | refine CV.scope ?_
    | refine CV.draw callees rfl ?_
    | refine CH.cons rfl ?_
    | refine CH.nil ?_
    | refine CO.consG rfl ?_
    | refine CH.consG rfl ?_
    | refine CG.cons rfl ?_
    | refine CG.nil ?_
    | refine CG.consG rfl ?_
    | refine ⟨(rfl : plain _ = true), ?_⟩
    | refine ⟨(rfl : nilOk _ = some _), ?_⟩
    | refine ⟨_, ints_len (by assumption), ?_⟩
    | refine ⟨_, ints_addr (by assumption) (by omega) (by omega), ?_⟩
    | refine ⟨_, ints_load (by assumption) (by omega) (by omega), ?_⟩
    | refine ⟨(⟨by omega, by omega⟩ : inI64 _), ?_⟩
    | refine ⟨_, fun tm ha => step1_max rfl (ev_tmp ha rfl) (ev_tmp ha rfl), ?_⟩
    | refine ⟨_, fun tm ha => step1_min rfl (ev_tmp ha rfl) (ev_tmp ha rfl), ?_⟩
    | refine ⟨_, _, build_lists (row_one hv) (row_one ho) (row_one hv), ?_⟩
    | (refine ⟨fun _ => ?_, fun _ => ?_⟩ <;> first | (exfalso; omega) | skip)
    | fail
  have k6 := Keep.new H5 (.cells [v, o, v] 22 2)
  have hR : Row (H5.new (.cells [v, o, v] 22 2)) _ _ := row_new (H := H5) (l := [v, o, v]) (e := 22) (n := 3) rfl
  replace hv := hv.keep k6
  replace hu := hu.keep k6
  replace ho := ho.keep k6
  replace hb5 := hb5.keep k6
  replace hB := Nat.le_trans hB k6.1
  replace kk := kk.trans k6
  generalize hRv : Value.slice (some ⟨H5.n, 0, none⟩) 3 0 = R at hR ⊢
  generalize H5.new (.cells [v, o, v] 22 2) = H6 at *
  clear k6
  repeat' first
    | refine CO.cons rfl ?_
    | refine CO.nil ?_
    | refine CV.seq ?_
    | refine CV.region callees ?_
    | refine CV.cond ?_
    | refine CV.block ?_
    | refine CV.skip ?_
    | refine CV.exit ?_
    | refine CV.ret ?_
    | refine CV.scope ?_
    | refine CV.draw callees rfl ?_
    | refine CH.cons rfl ?_
    | refine CH.nil ?_
    | refine CO.consG rfl ?_
    | refine CH.consG rfl ?_
    | refine CG.cons rfl ?_
    | refine CG.nil ?_
    | refine CG.consG rfl ?_
    | refine ⟨(rfl : plain _ = true), ?_⟩
    | refine ⟨(rfl : nilOk _ = some _), ?_⟩
    | refine ⟨_, ints_len (by assumption), ?_⟩
    | refine ⟨_, ints_addr (by assumption) (by omega) (by omega), ?_⟩
    | refine ⟨_, ints_load (by assumption) (by omega) (by omega), ?_⟩
    | refine ⟨(⟨by omega, by omega⟩ : inI64 _), ?_⟩
    | refine ⟨_, fun tm ha => step1_max rfl (ev_tmp ha rfl) (ev_tmp ha rfl), ?_⟩
    | refine ⟨_, fun tm ha => step1_min rfl (ev_tmp ha rfl) (ev_tmp ha rfl), ?_⟩
    | (refine ⟨fun _ => ?_, fun _ => ?_⟩ <;> first | (exfalso; omega) | skip)
    | fail
  refine (partitionOf_spec hb hB hb5 hm1 hm9).mono ?_
  rintro p H7 ⟨⟨ps, cp, lp, hpp⟩, hb7, k7⟩
  have hp : Ints H7 p ps := hpp.row
  replace hv := hv.box k7 hb5
  replace hu := hu.box k7 hb5
  replace ho := ho.box k7 hb5
  replace hR := hR.box k7 hb5
  replace kk := k7.keep kk hb
  replace hB := Nat.le_trans hB k7.1
  repeat' first
    | refine CO.cons rfl ?_
    | refine CO.nil ?_
    | refine CV.seq ?_
    | refine CV.region callees ?_
    | refine CV.cond ?_
    | refine CV.block ?_
    | refine CV.skip ?_
    | refine CV.exit ?_
    | refine CV.ret ?_
    | refine CV.scope ?_
    | refine CV.draw callees rfl ?_
    | refine CH.cons rfl ?_
    | refine CH.nil ?_
    | refine CO.consG rfl ?_
    | refine CH.consG rfl ?_
    | refine CG.cons rfl ?_
    | refine CG.nil ?_
    | refine CG.consG rfl ?_
    | refine ⟨(rfl : plain _ = true), ?_⟩
    | refine ⟨(rfl : nilOk _ = some _), ?_⟩
    | refine ⟨_, ints_len (by assumption), ?_⟩
    | refine ⟨_, ints_addr (by assumption) (by omega) (by omega), ?_⟩
    | refine ⟨_, ints_load (by assumption) (by omega) (by omega), ?_⟩
    | refine ⟨(⟨by omega, by omega⟩ : inI64 _), ?_⟩
    | refine ⟨_, fun tm ha => step1_max rfl (ev_tmp ha rfl) (ev_tmp ha rfl), ?_⟩
    | refine ⟨_, fun tm ha => step1_min rfl (ev_tmp ha rfl) (ev_tmp ha rfl), ?_⟩
    | (refine ⟨fun _ => ?_, fun _ => ?_⟩ <;> first | (exfalso; omega) | skip)
    | fail
  refine (partitionOf_spec hb hB hb7 hm1 hm9).mono ?_
  rintro q H9 ⟨⟨qs, cq, lq, hqq⟩, hb9, k9⟩
  have hq : Ints H9 q qs := hqq.row
  replace hv := hv.box k9 hb7
  replace hu := hu.box k9 hb7
  replace ho := ho.box k9 hb7
  replace hp := hp.box k9 hb7
  replace hR := hR.box k9 hb7
  replace kk := k9.keep kk hb
  replace hB := Nat.le_trans hB k9.1
  repeat' first
    | refine CO.cons rfl ?_
    | refine CO.nil ?_
    | refine CV.seq ?_
    | refine CV.region callees ?_
    | refine CV.cond ?_
    | refine CV.block ?_
    | refine CV.skip ?_
    | refine CV.exit ?_
    | refine CV.ret ?_
    | refine CV.scope ?_
    | refine CV.draw callees rfl ?_
    | refine CH.cons rfl ?_
    | refine CH.nil ?_
    | refine CO.consG rfl ?_
    | refine CH.consG rfl ?_
    | refine CG.cons rfl ?_
    | refine CG.nil ?_
    | refine CG.consG rfl ?_
    | refine ⟨(rfl : plain _ = true), ?_⟩
    | refine ⟨(rfl : nilOk _ = some _), ?_⟩
    | refine ⟨_, ints_len (by assumption), ?_⟩
    | refine ⟨_, ints_addr (by assumption) (by omega) (by omega), ?_⟩
    | refine ⟨_, ints_load (by assumption) (by omega) (by omega), ?_⟩
    | refine ⟨(⟨by omega, by omega⟩ : inI64 _), ?_⟩
    | refine ⟨_, fun tm ha => step1_max rfl (ev_tmp ha rfl) (ev_tmp ha rfl), ?_⟩
    | refine ⟨_, fun tm ha => step1_min rfl (ev_tmp ha rfl) (ev_tmp ha rfl), ?_⟩
    | refine ⟨_, _, build_lists (row_one hu) (row_one hp) (row_one hq), ?_⟩
    | (refine ⟨fun _ => ?_, fun _ => ?_⟩ <;> first | (exfalso; omega) | skip)
    | fail
  have k8 := Keep.new H9 (.cells [u, p, q] 22 2)
  have hS : Row (H9.new (.cells [u, p, q] 22 2)) _ _ := row_new (H := H9) (l := [u, p, q]) (e := 22) (n := 3) rfl
  replace hv := hv.keep k8
  replace hu := hu.keep k8
  replace ho := ho.keep k8
  replace hp := hp.keep k8
  replace hq := hq.keep k8
  replace hR := hR.keep k8
  replace hB := Nat.le_trans hB k8.1
  replace kk := kk.trans k8
  generalize hSv : Value.slice (some ⟨H9.n, 0, none⟩) 3 0 = S at hS ⊢
  generalize H9.new (.cells [u, p, q] 22 2) = H8 at *
  clear k8
  have hLR : Lists H8 R [v, o, v] [xs, os, xs] 3 := ⟨hR, rfl, fun i hi => by
    have : i = 0 ∨ i = 1 ∨ i = 2 := by omega
    rcases this with rfl | rfl | rfl
    · exact hv
    · exact ho
    · exact hv⟩
  have hLS : Lists H8 S [u, p, q] [ys, ps, qs] 3 := ⟨hS, rfl, fun i hi => by
    have : i = 0 ∨ i = 1 ∨ i = 2 := by omega
    rcases this with rfl | rfl | rfl
    · exact hu
    · exact hp
    · exact hq⟩
  have hlen : ∀ i : Nat, i < 3 → ([xs, os, xs] : List (List Int))[i]!.length ≤ 40 ∧ ([ys, ps, qs] : List (List Int))[i]!.length ≤ 40 := fun i hi => by
    have : i = 0 ∨ i = 1 ∨ i = 2 := by omega
    rcases this with rfl | rfl | rfl
    · exact ⟨by show xs.length ≤ 40; omega, by show ys.length ≤ 40; omega⟩
    · exact ⟨by show os.length ≤ 40; omega, by show ps.length ≤ 40; omega⟩
    · exact ⟨by show xs.length ≤ 40; omega, by show qs.length ≤ 40; omega⟩
  generalize [v, o, v] = va at hLR
  generalize [u, p, q] = vb at hLS
  generalize ([xs, os, xs] : List (List Int)) = la at hLR hlen
  generalize ([ys, ps, qs] : List (List Int)) = lb at hLS hlen
  clear hR hS hv hu ho hp hq
  repeat' first
    | refine CO.cons rfl ?_
    | refine CO.nil ?_
    | refine CV.seq ?_
    | refine CV.region callees ?_
    | refine CV.cond ?_
    | refine CV.block ?_
    | refine CV.skip ?_
    | refine CV.exit ?_
    | refine CV.ret ?_
    | refine CV.scope ?_
    | refine CV.draw callees rfl ?_
    | refine CH.cons rfl ?_
    | refine CH.nil ?_
    | refine CO.consG rfl ?_
    | refine CH.consG rfl ?_
    | refine CG.cons rfl ?_
    | refine CG.nil ?_
    | refine CG.consG rfl ?_
    | refine ⟨(rfl : plain _ = true), ?_⟩
    | refine ⟨(rfl : nilOk _ = some _), ?_⟩
    | refine ⟨_, ints_len (by assumption), ?_⟩
    | refine ⟨_, ints_addr (by assumption) (by omega) (by omega), ?_⟩
    | refine ⟨_, ints_load (by assumption) (by omega) (by omega), ?_⟩
    | refine ⟨(⟨by omega, by omega⟩ : inI64 _), ?_⟩
    | refine ⟨_, fun tm ha => step1_max rfl (ev_tmp ha rfl) (ev_tmp ha rfl), ?_⟩
    | refine ⟨_, fun tm ha => step1_min rfl (ev_tmp ha rfl) (ev_tmp ha rfl), ?_⟩
    | (refine ⟨fun _ => ?_, fun _ => ?_⟩ <;> first | (exfalso; omega) | skip)
    | fail
  refine CV.loopc ?_
  refine WCv.rounds callees false (α := Nat) (fun i => [(9, R), (10, S), (11, .int .i64 i)]) (fun i Hz => i ≤ 3 ∧ Keep H8 Hz) (fun i => 3 - i) (0) (by repeat' first | exact trivial | refine ⟨rfl, ?_⟩ | refine ⟨slot_int (by (try simp only [Int.toNat_natCast]); omega), ?_⟩) ?_ ?_
  · exact ⟨by omega, Keep.refl _⟩
  rintro i Hx ⟨hi, kx⟩ hBx
  have hRx := hLR.keep kx
  have hSx := hLS.keep kx
  by_cases hi2 : i < 3
  · have ha := hRx.at' i hi2
    have hb' := hSx.at' i hi2
    obtain ⟨hl1, hl2⟩ := hlen i hi2
    generalize hgl : la[i]! = l1 at ha hl1
    generalize hgm : lb[i]! = l2 at hb' hl2
    have hva : va[(i : Int).toNat]! = va[i]! := rfl
    have hvb : vb[(i : Int).toNat]! = vb[i]! := rfl
    generalize hgv : va[i]! = v1 at ha hva
    generalize hgu : vb[i]! = v2 at hb' hvb
    have hlR : ∀ Hq, Lists Hq R va la 3 → aload Tryd.prog 22 Hq (elemAt R (i : Int).toNat) = some v1 := fun Hq h => by rw [← hva]; exact h.load (by omega) (by omega)
    have hlS : ∀ Hq, Lists Hq S vb lb 3 → aload Tryd.prog 22 Hq (elemAt S (i : Int).toNat) = some v2 := fun Hq h => by rw [← hvb]; exact h.load (by omega) (by omega)
    repeat' first
      | refine CO.cons rfl ?_
      | refine CO.nil ?_
      | refine CV.seq ?_
      | refine CV.region callees ?_
      | refine CV.cond ?_
      | refine CV.block ?_
      | refine CV.skip ?_
      | refine CV.exit ?_
      | refine CV.ret ?_
      | refine CV.scope ?_
      | refine CV.draw callees rfl ?_
      | refine CH.cons rfl ?_
      | refine CH.nil ?_
      | refine CO.consG rfl ?_
      | refine CH.consG rfl ?_
      | refine CG.cons rfl ?_
      | refine CG.nil ?_
      | refine CG.consG rfl ?_
      | refine ⟨(rfl : plain _ = true), ?_⟩
      | refine ⟨(rfl : nilOk _ = some _), ?_⟩
      | refine ⟨_, ints_len (by assumption), ?_⟩
      | refine ⟨_, ints_addr (by assumption) (by omega) (by omega), ?_⟩
      | refine ⟨_, ints_load (by assumption) (by omega) (by omega), ?_⟩
      | refine ⟨(⟨by omega, by omega⟩ : inI64 _), ?_⟩
      | refine ⟨_, fun tm ha => step1_max rfl (ev_tmp ha rfl) (ev_tmp ha rfl), ?_⟩
      | refine ⟨_, fun tm ha => step1_min rfl (ev_tmp ha rfl) (ev_tmp ha rfl), ?_⟩
      | refine ⟨_, hRx.alen, ?_⟩
      | refine CV.wide callees rfl [0,1,2,3,5,6,7,8,4,9,10,11] (by kernel_rfl) ?_
      | refine ⟨_, hRx.addr (by omega) (by omega), ?_⟩
      | refine ⟨_, hlR _ hRx, ?_⟩
      | refine ⟨_, hSx.addr (by omega) (by omega), ?_⟩
      | refine ⟨_, hlS _ hSx, ?_⟩
      | (refine ⟨fun _ => ?_, fun _ => ?_⟩ <;> first | (exfalso; omega) | skip)
      | fail
    refine (ints_spec (Nat.le_refl _) ha (by omega)).mono ?_
    rintro mx Ha ⟨hmx, ka⟩
    replace hmx := hmx.ints
    replace hBx := Nat.le_trans hBx ka.1
    replace hRx := hRx.keep ka
    replace hSx := hSx.keep ka
    replace ha := ha.keep ka
    replace hb' := hb'.keep ka
    replace kx := kx.trans ka
    repeat' first
      | refine CO.cons rfl ?_
      | refine CO.nil ?_
      | refine CV.seq ?_
      | refine CV.region callees ?_
      | refine CV.cond ?_
      | refine CV.block ?_
      | refine CV.skip ?_
      | refine CV.exit ?_
      | refine CV.ret ?_
      | refine CV.scope ?_
      | refine CV.draw callees rfl ?_
      | refine CH.cons rfl ?_
      | refine CH.nil ?_
      | refine CO.consG rfl ?_
      | refine CH.consG rfl ?_
      | refine CG.cons rfl ?_
      | refine CG.nil ?_
      | refine CG.consG rfl ?_
      | refine ⟨(rfl : plain _ = true), ?_⟩
      | refine ⟨(rfl : nilOk _ = some _), ?_⟩
      | refine ⟨_, ints_len (by assumption), ?_⟩
      | refine ⟨_, ints_addr (by assumption) (by omega) (by omega), ?_⟩
      | refine ⟨_, ints_load (by assumption) (by omega) (by omega), ?_⟩
      | refine ⟨(⟨by omega, by omega⟩ : inI64 _), ?_⟩
      | refine ⟨_, fun tm ha => step1_max rfl (ev_tmp ha rfl) (ev_tmp ha rfl), ?_⟩
      | refine ⟨_, fun tm ha => step1_min rfl (ev_tmp ha rfl) (ev_tmp ha rfl), ?_⟩
      | (refine ⟨fun _ => ?_, fun _ => ?_⟩ <;> first | (exfalso; omega) | skip)
      | fail
    refine (ints_spec (Nat.le_refl _) hb' (by omega)).mono ?_
    rintro my Hc ⟨hmy, kc⟩
    replace hmy := hmy.ints
    replace hBx := Nat.le_trans hBx kc.1
    replace hRx := hRx.keep kc
    replace hSx := hSx.keep kc
    replace ha := ha.keep kc
    replace hb' := hb'.keep kc
    replace hmx := hmx.keep kc
    replace kx := kx.trans kc
    repeat' first
      | refine CO.cons rfl ?_
      | refine CO.nil ?_
      | refine CV.seq ?_
      | refine CV.region callees ?_
      | refine CV.cond ?_
      | refine CV.block ?_
      | refine CV.skip ?_
      | refine CV.exit ?_
      | refine CV.ret ?_
      | refine CV.scope ?_
      | refine CV.draw callees rfl ?_
      | refine CH.cons rfl ?_
      | refine CH.nil ?_
      | refine CO.consG rfl ?_
      | refine CH.consG rfl ?_
      | refine CG.cons rfl ?_
      | refine CG.nil ?_
      | refine CG.consG rfl ?_
      | refine ⟨(rfl : plain _ = true), ?_⟩
      | refine ⟨(rfl : nilOk _ = some _), ?_⟩
      | refine ⟨_, ints_len (by assumption), ?_⟩
      | refine ⟨_, ints_addr (by assumption) (by omega) (by omega), ?_⟩
      | refine ⟨_, ints_load (by assumption) (by omega) (by omega), ?_⟩
      | refine ⟨(⟨by omega, by omega⟩ : inI64 _), ?_⟩
      | refine ⟨_, fun tm ha => step1_max rfl (ev_tmp ha rfl) (ev_tmp ha rfl), ?_⟩
      | refine ⟨_, fun tm ha => step1_min rfl (ev_tmp ha rfl) (ev_tmp ha rfl), ?_⟩
      | (refine ⟨fun _ => ?_, fun _ => ?_⟩ <;> first | (exfalso; omega) | skip)
      | fail
    refine (finer_spec hBx hmx hmy).mono ?_
    rintro r Hd ⟨⟨b1, rfl, hb1, hn1⟩, rfl⟩
    repeat' first
      | refine CO.cons rfl ?_
      | refine CO.nil ?_
      | refine CV.seq ?_
      | refine CV.region callees ?_
      | refine CV.cond ?_
      | refine CV.block ?_
      | refine CV.skip ?_
      | refine CV.exit ?_
      | refine CV.ret ?_
      | refine CV.scope ?_
      | refine CV.draw callees rfl ?_
      | refine CH.cons rfl ?_
      | refine CH.nil ?_
      | refine CO.consG rfl ?_
      | refine CH.consG rfl ?_
      | refine CG.cons rfl ?_
      | refine CG.nil ?_
      | refine CG.consG rfl ?_
      | refine ⟨(rfl : plain _ = true), ?_⟩
      | refine ⟨(rfl : nilOk _ = some _), ?_⟩
      | refine ⟨_, ints_len (by assumption), ?_⟩
      | refine ⟨_, ints_addr (by assumption) (by omega) (by omega), ?_⟩
      | refine ⟨_, ints_load (by assumption) (by omega) (by omega), ?_⟩
      | refine ⟨(⟨by omega, by omega⟩ : inI64 _), ?_⟩
      | refine ⟨_, fun tm ha => step1_max rfl (ev_tmp ha rfl) (ev_tmp ha rfl), ?_⟩
      | refine ⟨_, fun tm ha => step1_min rfl (ev_tmp ha rfl) (ev_tmp ha rfl), ?_⟩
      | refine ⟨_, hRx.addr (by omega) (by omega), ?_⟩
      | refine ⟨_, hlR _ hRx, ?_⟩
      | refine ⟨_, hSx.addr (by omega) (by omega), ?_⟩
      | refine ⟨_, hlS _ hSx, ?_⟩
      | (refine ⟨fun _ => ?_, fun _ => ?_⟩ <;> first | (exfalso; omega) | skip)
      | fail
    refine (refFiner_spec hBx ha hb').mono ?_
    rintro r He ⟨⟨b2, rfl, hb2, hn2⟩, rfl⟩
    have hbb : b1 = b2 := by
      by_cases h0 : chk2 l1 l2 = 0
      · have e1 := hb1 h0; have e2 := hb2 h0
        cases b1 <;> cases b2 <;> simp_all
      · rw [hn1 h0, hn2 h0]
    subst hbb
    clear hb2 hn2 hb1 hn1
    repeat' first
      | refine CO.cons rfl ?_
      | refine CO.nil ?_
      | refine CV.seq ?_
      | refine CV.region callees ?_
      | refine CV.cond ?_
      | refine CV.block ?_
      | refine CV.skip ?_
      | refine CV.exit ?_
      | refine CV.ret ?_
      | refine CV.scope ?_
      | refine CV.draw callees rfl ?_
      | refine CH.cons rfl ?_
      | refine CH.nil ?_
      | refine CO.consG rfl ?_
      | refine CH.consG rfl ?_
      | refine CG.cons rfl ?_
      | refine CG.nil ?_
      | refine CG.consG rfl ?_
      | refine ⟨(rfl : plain _ = true), ?_⟩
      | refine ⟨(rfl : nilOk _ = some _), ?_⟩
      | refine ⟨_, ints_len (by assumption), ?_⟩
      | refine ⟨_, ints_addr (by assumption) (by omega) (by omega), ?_⟩
      | refine ⟨_, ints_load (by assumption) (by omega) (by omega), ?_⟩
      | refine ⟨(⟨by omega, by omega⟩ : inI64 _), ?_⟩
      | refine ⟨_, fun tm ha => step1_max rfl (ev_tmp ha rfl) (ev_tmp ha rfl), ?_⟩
      | refine ⟨_, fun tm ha => step1_min rfl (ev_tmp ha rfl) (ev_tmp ha rfl), ?_⟩
      | (refine ⟨fun _ => ?_, fun _ => ?_⟩ <;> first | (exfalso; omega) | skip)
      | fail
    refine (meet_spec hBx hmx hmy).mono ?_
    rintro r Hf ⟨hr1, k1⟩
    have hc9 : chk2 l1 l2 = 0 → l1.length ≤ 9 ∧ l1.length = l2.length := fun h0 => ⟨(check_len (chk2_zero h0).1).2, (chk2_zero h0).2.2⟩
    obtain ⟨u1, m1, rfl, hu1, hm1', hg1, hz1⟩ := hr1.flat fun h0 l hl => by rw [hl]; exact num_len9 (meetL_length (hc9 h0).2) (hc9 h0).1
    replace hBx := Nat.le_trans hBx k1.1
    replace hRx := hRx.keep k1
    replace hSx := hSx.keep k1
    replace ha := ha.keep k1
    replace hb' := hb'.keep k1
    replace hmx := hmx.keep k1
    replace hmy := hmy.keep k1
    replace kx := kx.trans k1
    repeat' first
      | refine CO.cons rfl ?_
      | refine CO.nil ?_
      | refine CV.seq ?_
      | refine CV.region callees ?_
      | refine CV.cond ?_
      | refine CV.block ?_
      | refine CV.skip ?_
      | refine CV.exit ?_
      | refine CV.ret ?_
      | refine CV.scope ?_
      | refine CV.draw callees rfl ?_
      | refine CH.cons rfl ?_
      | refine CH.nil ?_
      | refine CO.consG rfl ?_
      | refine CH.consG rfl ?_
      | refine CG.cons rfl ?_
      | refine CG.nil ?_
      | refine CG.consG rfl ?_
      | refine ⟨(rfl : plain _ = true), ?_⟩
      | refine ⟨(rfl : nilOk _ = some _), ?_⟩
      | refine ⟨_, ints_len (by assumption), ?_⟩
      | refine ⟨_, ints_addr (by assumption) (by omega) (by omega), ?_⟩
      | refine ⟨_, ints_load (by assumption) (by omega) (by omega), ?_⟩
      | refine ⟨(⟨by omega, by omega⟩ : inI64 _), ?_⟩
      | refine ⟨_, fun tm ha => step1_max rfl (ev_tmp ha rfl) (ev_tmp ha rfl), ?_⟩
      | refine ⟨_, fun tm ha => step1_min rfl (ev_tmp ha rfl) (ev_tmp ha rfl), ?_⟩
      | refine ⟨_, hRx.addr (by omega) (by omega), ?_⟩
      | refine ⟨_, hlR _ hRx, ?_⟩
      | refine ⟨_, hSx.addr (by omega) (by omega), ?_⟩
      | refine ⟨_, hlS _ hSx, ?_⟩
      | (refine ⟨fun _ => ?_, fun _ => ?_⟩ <;> first | (exfalso; omega) | skip)
      | fail
    refine (refMeet_spec hBx ha hb').mono ?_
    rintro r Hg ⟨hr2, k2⟩
    obtain ⟨u2, m2, rfl, hu2, hm2', hg2, hz2⟩ := hr2.flat fun h0 l hl => by rw [hl]; exact num_len9 (meetL_length (hc9 h0).2) (hc9 h0).1
    replace hBx := Nat.le_trans hBx k2.1
    replace hRx := hRx.keep k2
    replace hSx := hSx.keep k2
    replace ha := ha.keep k2
    replace hb' := hb'.keep k2
    replace hmx := hmx.keep k2
    replace hmy := hmy.keep k2
    replace hu1 := hu1.keep k2
    replace kx := kx.trans k2
    have em : m2 = m1 := by
      by_cases h0 : chk2 l1 l2 = 0
      · rw [hg1 h0, hg2 h0]
      · rw [hz1 h0, hz2 h0]
    subst em
    clear hg1 hz1 hg2 hz2
    repeat' first
      | refine CO.cons rfl ?_
      | refine CO.nil ?_
      | refine CV.seq ?_
      | refine CV.region callees ?_
      | refine CV.cond ?_
      | refine CV.block ?_
      | refine CV.skip ?_
      | refine CV.exit ?_
      | refine CV.ret ?_
      | refine CV.scope ?_
      | refine CV.draw callees rfl ?_
      | refine CH.cons rfl ?_
      | refine CH.nil ?_
      | refine CO.consG rfl ?_
      | refine CH.consG rfl ?_
      | refine CG.cons rfl ?_
      | refine CG.nil ?_
      | refine CG.consG rfl ?_
      | refine ⟨(rfl : plain _ = true), ?_⟩
      | refine ⟨(rfl : nilOk _ = some _), ?_⟩
      | refine ⟨_, ints_len (by assumption), ?_⟩
      | refine ⟨_, ints_addr (by assumption) (by omega) (by omega), ?_⟩
      | refine ⟨_, ints_load (by assumption) (by omega) (by omega), ?_⟩
      | refine ⟨(⟨by omega, by omega⟩ : inI64 _), ?_⟩
      | refine ⟨_, fun tm ha => step1_max rfl (ev_tmp ha rfl) (ev_tmp ha rfl), ?_⟩
      | refine ⟨_, fun tm ha => step1_min rfl (ev_tmp ha rfl) (ev_tmp ha rfl), ?_⟩
      | (refine ⟨fun _ => ?_, fun _ => ?_⟩ <;> first | (exfalso; omega) | skip)
      | fail
    refine (join_spec hBx hmx hmy).mono ?_
    rintro r Hh ⟨hr3, k3⟩
    obtain ⟨u3, m3, rfl, hu3, hm3', hg3, hz3⟩ := hr3.flat fun h0 l hl => by obtain ⟨s, hs, rfl⟩ := hl; exact num_len9 hs.1 (hc9 h0).1
    replace hBx := Nat.le_trans hBx k3.1
    replace hRx := hRx.keep k3
    replace hSx := hSx.keep k3
    replace ha := ha.keep k3
    replace hb' := hb'.keep k3
    replace hmx := hmx.keep k3
    replace hmy := hmy.keep k3
    replace hu1 := hu1.keep k3
    replace hu2 := hu2.keep k3
    replace kx := kx.trans k3
    repeat' first
      | refine CO.cons rfl ?_
      | refine CO.nil ?_
      | refine CV.seq ?_
      | refine CV.region callees ?_
      | refine CV.cond ?_
      | refine CV.block ?_
      | refine CV.skip ?_
      | refine CV.exit ?_
      | refine CV.ret ?_
      | refine CV.scope ?_
      | refine CV.draw callees rfl ?_
      | refine CH.cons rfl ?_
      | refine CH.nil ?_
      | refine CO.consG rfl ?_
      | refine CH.consG rfl ?_
      | refine CG.cons rfl ?_
      | refine CG.nil ?_
      | refine CG.consG rfl ?_
      | refine ⟨(rfl : plain _ = true), ?_⟩
      | refine ⟨(rfl : nilOk _ = some _), ?_⟩
      | refine ⟨_, ints_len (by assumption), ?_⟩
      | refine ⟨_, ints_addr (by assumption) (by omega) (by omega), ?_⟩
      | refine ⟨_, ints_load (by assumption) (by omega) (by omega), ?_⟩
      | refine ⟨(⟨by omega, by omega⟩ : inI64 _), ?_⟩
      | refine ⟨_, fun tm ha => step1_max rfl (ev_tmp ha rfl) (ev_tmp ha rfl), ?_⟩
      | refine ⟨_, fun tm ha => step1_min rfl (ev_tmp ha rfl) (ev_tmp ha rfl), ?_⟩
      | refine ⟨_, hRx.addr (by omega) (by omega), ?_⟩
      | refine ⟨_, hlR _ hRx, ?_⟩
      | refine ⟨_, hSx.addr (by omega) (by omega), ?_⟩
      | refine ⟨_, hlS _ hSx, ?_⟩
      | (refine ⟨fun _ => ?_, fun _ => ?_⟩ <;> first | (exfalso; omega) | skip)
      | fail
    refine (refJoin_spec hBx ha hb').mono ?_
    rintro r Hj ⟨hr4, k4⟩
    obtain ⟨u4, m4, rfl, hu4, hm4', hg4, hz4⟩ := hr4.flat fun h0 l hl => by obtain ⟨s, hs, rfl⟩ := hl; exact num_len9 hs.1 (hc9 h0).1
    replace hBx := Nat.le_trans hBx k4.1
    replace hRx := hRx.keep k4
    replace hSx := hSx.keep k4
    replace ha := ha.keep k4
    replace hb' := hb'.keep k4
    replace hmx := hmx.keep k4
    replace hmy := hmy.keep k4
    replace hu1 := hu1.keep k4
    replace hu2 := hu2.keep k4
    replace hu3 := hu3.keep k4
    replace kx := kx.trans k4
    have ej : m4 = m3 := by
      by_cases h0 : chk2 l1 l2 = 0
      · obtain ⟨s, hs, rfl⟩ := hg3 h0
        obtain ⟨t, ht, rfl⟩ := hg4 h0
        exact ht.eq hs
      · rw [hz3 h0, hz4 h0]
    subst ej
    clear hg3 hz3 hg4 hz4
    have hne : ∀ e : Int, e = e := fun _ => rfl
    cases b1 <;> repeat' first
      | refine CO.cons rfl ?_
      | refine CO.nil ?_
      | refine CV.seq ?_
      | refine CV.region callees ?_
      | refine CV.cond ?_
      | refine CV.block ?_
      | refine CV.skip ?_
      | refine CV.exit ?_
      | refine CV.ret ?_
      | refine CV.scope ?_
      | refine CV.draw callees rfl ?_
      | refine CH.cons rfl ?_
      | refine CH.nil ?_
      | refine CO.consG rfl ?_
      | refine CH.consG rfl ?_
      | refine CG.cons rfl ?_
      | refine CG.nil ?_
      | refine CG.consG rfl ?_
      | refine ⟨(rfl : plain _ = true), ?_⟩
      | refine ⟨(rfl : nilOk _ = some _), ?_⟩
      | refine ⟨_, ints_len (by assumption), ?_⟩
      | refine ⟨_, ints_addr (by assumption) (by omega) (by omega), ?_⟩
      | refine ⟨_, ints_load (by assumption) (by omega) (by omega), ?_⟩
      | refine ⟨(⟨by omega, by omega⟩ : inI64 _), ?_⟩
      | refine ⟨_, fun tm ha => step1_max rfl (ev_tmp ha rfl) (ev_tmp ha rfl), ?_⟩
      | refine ⟨_, fun tm ha => step1_min rfl (ev_tmp ha rfl) (ev_tmp ha rfl), ?_⟩
      | (refine (eq_spec (by first | exact Nat.le_refl _ | assumption) (by assumption) (by assumption) (by omega)).mono ?_; rintro r H' ⟨rfl, rfl⟩; rw [decide_eq_true rfl])
      | refine ⟨_, fun tm ha => step1_boolNeq un4 rfl (ev_tmp ha rfl) (ev_tmp ha rfl), ?_⟩
      | refine ⟨_, hRx.addr (by omega) (by omega), ?_⟩
      | refine ⟨_, hlR _ hRx, ?_⟩
      | refine ⟨_, hSx.addr (by omega) (by omega), ?_⟩
      | refine ⟨_, hlS _ hSx, ?_⟩
      | (refine ⟨fun _ => ?_, fun _ => ?_⟩ <;> first | (exfalso; omega) | skip)
      | fail
    all_goals refine ⟨(i + 1), (by repeat' first | exact trivial | refine ⟨rfl, ?_⟩ | refine ⟨slot_int (by (try simp only [Int.toNat_natCast]); omega), ?_⟩), (by (try dsimp only); omega), ?_⟩
    all_goals exact ⟨by omega, kx⟩
  · repeat' first
      | refine CO.cons rfl ?_
      | refine CO.nil ?_
      | refine CV.seq ?_
      | refine CV.region callees ?_
      | refine CV.cond ?_
      | refine CV.block ?_
      | refine CV.skip ?_
      | refine CV.exit ?_
      | refine CV.ret ?_
      | refine CV.scope ?_
      | refine CV.draw callees rfl ?_
      | refine CH.cons rfl ?_
      | refine CH.nil ?_
      | refine CO.consG rfl ?_
      | refine CH.consG rfl ?_
      | refine CG.cons rfl ?_
      | refine CG.nil ?_
      | refine CG.consG rfl ?_
      | refine ⟨(rfl : plain _ = true), ?_⟩
      | refine ⟨(rfl : nilOk _ = some _), ?_⟩
      | refine ⟨_, ints_len (by assumption), ?_⟩
      | refine ⟨_, ints_addr (by assumption) (by omega) (by omega), ?_⟩
      | refine ⟨_, ints_load (by assumption) (by omega) (by omega), ?_⟩
      | refine ⟨(⟨by omega, by omega⟩ : inI64 _), ?_⟩
      | refine ⟨_, fun tm ha => step1_max rfl (ev_tmp ha rfl) (ev_tmp ha rfl), ?_⟩
      | refine ⟨_, fun tm ha => step1_min rfl (ev_tmp ha rfl) (ev_tmp ha rfl), ?_⟩
      | refine ⟨_, hRx.alen, ?_⟩
      | refine CallB.known rfl (hBase.keep (kk.trans kx)) hBx ?_
      | (refine ⟨fun _ => ?_, fun _ => ?_⟩ <;> first | (exfalso; omega) | skip)
      | fail
    exact ⟨rfl, rfl⟩
end Go.Proofs.YthcchjmjblegdaaDoor
