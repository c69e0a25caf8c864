/- Several texts in one. -/
import Derived.Test.YteocbhefhobehaaDoorY8
import Derived.Test.YteocbhefhobehaaDoorY7
set_option linter.unusedVariables false
set_option linter.unusedSimpArgs false
/- Texts: equal just if their bytes are; where a line ends, and how many lines there are. -/
namespace Go.Proofs.YteocbhefhobehaaDoor
open Go.AI
def Bytes (l : List Int) : Prop := ∀ x ∈ l, 0 ≤ x ∧ x < 256
theorem strOf_data (l : List Int) : (strOf l).data.toList = l.map fun x => UInt8.ofNat x.toNat := by simp [strOf]
theorem u8_back {x : Int} (h : 0 ≤ x ∧ x < 256) : ((UInt8.ofNat x.toNat).toNat : Int) = x := by
  simp; omega
theorem map_back : ∀ {l : List Int}, Bytes l → (l.map fun x => UInt8.ofNat x.toNat).map (fun u => (u.toNat : Int)) = l
  | [], _ => rfl
  | x :: l, h => by
    have h1 := u8_back (h x (List.mem_cons_self ..))
    simp only [List.map_cons, h1]
    rw [map_back fun y hy => h y (List.mem_cons_of_mem _ hy)]
theorem strOf_inj {a b : List Int} (ha : Bytes a) (hb : Bytes b) (h : strOf a = strOf b) : a = b := by
  have h1 : (strOf a).data.toList = (strOf b).data.toList := by rw [h]
  rw [strOf_data, strOf_data] at h1
  rw [← map_back ha, ← map_back hb, h1]
theorem str_beq {a b : List Int} (ha : Bytes a) (hb : Bytes b) : ((strOf a).toList == (strOf b).toList) = decide (a = b) := by
  by_cases h : a = b
  · subst h; simp
  · rw [decide_eq_false h, beq_eq_false_iff_ne]
    intro e
    rw [Go.Lib.toList_data, Go.Lib.toList_data, strOf_data, strOf_data] at e
    exact h (by rw [← map_back ha, ← map_back hb, e])
theorem bytes_all (s : ByteArray) : ∃ l, Bytes l ∧ s = strOf l := by
  refine ⟨s.data.toList.map fun u => (u.toNat : Int), ?_, ?_⟩
  · intro x hx
    obtain ⟨u, _, rfl⟩ := List.mem_map.1 hx
    have := u.toNat_lt
    omega
  · rw [strOf, List.map_map]
    have : ((fun x : Int => UInt8.ofNat x.toNat) ∘ fun u : UInt8 => (u.toNat : Int)) = id := by
      funext u; simp
    rw [this, List.map_id]
def idxF : List Int → Int
  | [] => -1
  | b :: l => if b = 10 then 0 else if idxF l = -1 then -1 else idxF l + 1
theorem u8_ten {x : Int} (h : 0 ≤ x ∧ x < 256) : (UInt8.ofNat x.toNat == 10) = decide (x = 10) := by
  by_cases hx : x = 10
  · subst hx; rfl
  · rw [decide_eq_false hx, beq_eq_false_iff_ne]
    intro e
    have := u8_back h
    rw [e] at this
    exact hx (by rw [← this]; rfl)
theorem count_map : ∀ {l : List Int}, Bytes l → (l.map fun x => UInt8.ofNat x.toNat).count 10 = l.count 10
  | [], _ => rfl
  | x :: l, h => by
    rw [List.map_cons, List.count_cons, List.count_cons, count_map fun y hy => h y (List.mem_cons_of_mem _ hy), u8_ten (h x (List.mem_cons_self ..))]
    by_cases hx : x = 10 <;> simp [hx]
theorem index_map : ∀ {l : List Int}, Bytes l → Go.Lib.indexByte (l.map fun x => UInt8.ofNat x.toNat) 10 = idxF l
  | [], _ => rfl
  | x :: l, h => by
    rw [List.map_cons, Go.Lib.indexByte, idxF, index_map fun y hy => h y (List.mem_cons_of_mem _ hy), u8_ten (h x (List.mem_cons_self ..))]
    by_cases hx : x = 10
    · simp [hx]
    · by_cases h1 : idxF l = -1 <;> simp [hx, h1]
theorem idxF_spec : ∀ (l : List Int), (idxF l = -1 ∧ ∀ x ∈ l, x ≠ 10) ∨ ∃ a b, l = a ++ 10 :: b ∧ (∀ x ∈ a, x ≠ 10) ∧ idxF l = a.length
  | [] => .inl ⟨rfl, by simp⟩
  | x :: l => by
    by_cases hx : x = 10
    · subst hx; exact .inr ⟨[], l, rfl, by simp, rfl⟩
    · rcases idxF_spec l with ⟨h1, h2⟩ | ⟨a, b, h1, h2, h3⟩
      · refine .inl ⟨by rw [idxF, if_neg hx, if_pos h1], ?_⟩
        intro y hy
        rcases List.mem_cons.1 hy with rfl | hy
        · exact hx
        · exact h2 y hy
      · refine .inr ⟨x :: a, b, by rw [h1]; rfl, ?_, ?_⟩
        · intro y hy
          rcases List.mem_cons.1 hy with rfl | hy
          · exact hx
          · exact h2 y hy
        · rw [idxF, if_neg hx, if_neg (by omega), h3]; simp
theorem ext_count {l : List Int} (hb : Bytes l) : extVal 1 [VS l, .int .u8 10] = some (.int .i64 (l.count 10 : Nat)) := by
  have : Go.Lib.countByte (strOf l).data.toList 10 = l.count 10 := by rw [strOf_data]; exact count_map hb
  rw [← this]; rfl
theorem ext_index {l : List Int} (hb : Bytes l) : extVal 2 [VS l, .int .u8 10] = some (.int .i64 (idxF l)) := by
  have : Go.Lib.indexByte (strOf l).data.toList 10 = idxF l := by rw [strOf_data]; exact index_map hb
  rw [← this]; rfl
/-- The lines of a text. -/
def segs (l : List Int) : List (List Int) := rowsF (l ++ [10]) []
theorem segs_none {l : List Int} (h : ∀ x ∈ l, x ≠ 10) : segs l = [l] := by
  rw [segs, rowsF_one l [] [] h]; rfl
theorem segs_cons {a b : List Int} (h : ∀ x ∈ a, x ≠ 10) : segs (a ++ 10 :: b) = a :: segs b := by
  rw [segs, List.append_assoc, List.cons_append, rowsF_one a [] (b ++ [10]) h]; rfl
theorem count_no {l : List Int} (h : ∀ x ∈ l, x ≠ 10) : l.count 10 = 0 := List.count_eq_zero.2 fun hm => h 10 hm rfl
theorem segs_len (l : List Int) : (segs l).length = l.count 10 + 1 := by
  rcases idxF_spec l with ⟨_, h⟩ | ⟨a, b, rfl, h, _⟩
  · rw [segs_none h, count_no h]; rfl
  · rw [segs_cons h, List.length_cons, segs_len b, List.count_append, count_no h, List.count_cons]; simp
termination_by l.length
decreasing_by subst_vars; simp; omega
theorem Bytes.take {l : List Int} (h : Bytes l) (n : Nat) : Bytes (l.take n) := fun x hx => h x (List.mem_of_mem_take hx)
theorem Bytes.drop {l : List Int} (h : Bytes l) (n : Nat) : Bytes (l.drop n) := fun x hx => h x (List.mem_of_mem_drop hx)
theorem Bytes.append {a b : List Int} (h : Bytes a) (h2 : Bytes b) : Bytes (a ++ b) := fun x hx => (List.mem_append.1 hx).elim (h x) (h2 x)
theorem eqS_t {P : Program} {tm : Tm} {H : Heap} {o : Oper} {t u : TypeId} {x y : Operand} {a b : List Int} (ho : o.op = .binOp .eql t x y u) (hx : ev P tm x = some (VS a)) (hy : ev P tm y = some (VS b)) (h : a = b) : step1 P tm H o = some (.bool true, H, H.n) := by
  subst h; rw [step1_strEql ho hx hy]; simp
theorem eqS_f {P : Program} {tm : Tm} {H : Heap} {o : Oper} {t u : TypeId} {x y : Operand} {a b : List Int} (ho : o.op = .binOp .eql t x y u) (hx : ev P tm x = some (VS a)) (hy : ev P tm y = some (VS b)) (ha : Bytes a) (hb : Bytes b) (h : a ≠ b) : step1 P tm H o = some (.bool false, H, H.n) := by
  rw [step1_strEql ho hx hy, str_beq ha hb, decide_eq_false h]
theorem neS_f {P : Program} {tm : Tm} {H : Heap} {o : Oper} {t u : TypeId} {x y : Operand} {a b : List Int} (ho : o.op = .binOp .neq t x y u) (hx : ev P tm x = some (VS a)) (hy : ev P tm y = some (VS b)) (h : a = b) : step1 P tm H o = some (.bool false, H, H.n) := by
  subst h; rw [step1_strNeq ho hx hy]; simp
theorem neS_t {P : Program} {tm : Tm} {H : Heap} {o : Oper} {t u : TypeId} {x y : Operand} {a b : List Int} (ho : o.op = .binOp .neq t x y u) (hx : ev P tm x = some (VS a)) (hy : ev P tm y = some (VS b)) (ha : Bytes a) (hb : Bytes b) (h : a ≠ b) : step1 P tm H o = some (.bool true, H, H.n) := by
  rw [step1_strNeq ho hx hy, str_beq ha hb, decide_eq_false h]; rfl
end Go.Proofs.YteocbhefhobehaaDoor

/- What the rows of a chart say of its packets. -/
namespace Go.Proofs.YteocbhefhobehaaDoor
open Go.AI
/-- Where the beam begins that is at a packet, by the row; and the same in the first row in which the packet stands. -/
def begF (row : List Int) : Nat → Nat
  | 0 => 0
  | i + 1 => if row[2 * i + 1]! = 45 then begF row i else i + 1
def labF (i : Nat) : List (List Int) → Nat
  | [] => i
  | row :: rs => if row[2 * i]! = 111 ∨ row[2 * i]! = 124 then begF row i else labF i rs
theorem begF_le (row : List Int) : ∀ i, begF row i ≤ i
  | 0 => Nat.le_refl _
  | i + 1 => by
    rw [begF]
    split
    · have := begF_le row i; omega
    · exact Nat.le_refl _
theorem labF_le (i : Nat) : ∀ rs, labF i rs ≤ i
  | [] => Nat.le_refl _
  | row :: rs => by
    rw [labF]
    split
    · exact begF_le row i
    · exact labF_le i rs
theorem rowL_odd {xs : List Int} {row : Int} {i : Nat} (h : 2 * i + 1 < 2 * xs.length - 1) : (rowL xs row)[2 * i + 1]! = ch xs row (2 * (i : Int) + 1) := by
  have hl := rowL_len xs row
  rw [getElem!_pos _ _ (by rw [hl]; exact h)]
  simp only [rowL, List.getElem_map, List.getElem_range]
  congr 1
theorem rowL_even {xs : List Int} {row : Int} {i : Nat} (h : 2 * i < 2 * xs.length - 1) : (rowL xs row)[2 * i]! = ch xs row (2 * (i : Int)) := by
  have hl := rowL_len xs row
  rw [getElem!_pos _ _ (by rw [hl]; exact h)]
  simp only [rowL, List.getElem_map, List.getElem_range]
  congr 1
theorem begF_chart {xs : List Int} (hc : check xs = 0) {b : Nat} (hb : b < bk xs) : ∀ {j : Nat}, j < xs.length → fst xs b ≤ j → (j : Int) ≤ lst xs b → (begF (rowL xs (lev xs b)) j : Int) = fst xs b
  | 0, _, h1, _ => by
    have := (span_blk hc hb).f0
    rw [begF]; omega
  | j + 1, hj, h1, h2 => by
    have hs := span_blk hc hb
    rw [begF, rowL_odd (by omega), ch_odd]
    by_cases hf : fst xs b ≤ j
    · have : ovr xs (lev xs b) j (j + 1) (bk xs) = true := ovr_iff.2 ⟨b, hb, rfl, hf, by omega⟩
      rw [this, if_pos rfl, if_pos rfl]
      exact begF_chart hc hb (by omega) hf (by omega)
    · have : ovr xs (lev xs b) j (j + 1) (bk xs) = false := by
        cases ho : ovr xs (lev xs b) j (j + 1) (bk xs) with
        | false => rfl
        | true =>
          obtain ⟨k, k1, k2, k3, k4⟩ := ovr_iff.1 ho
          have hk := span_blk hc k1
          have hne : k ≠ b := fun e => by subst e; omega
          rcases lev_apart hk hs hne k2 with h | h
          · omega
          · have := hs.fl; omega
      rw [this]
      simp only [Bool.false_eq_true, if_false]
      rw [if_neg (by decide)]
      omega
theorem labF_chart {xs : List Int} (hc : check xs = 0) {i : Nat} (hi : i < xs.length) : ∀ (m q : Nat), (q : Int) + 1 ≤ lev xs xs[i]!.toNat → lev xs xs[i]!.toNat ≤ q + m →
    (labF i ((List.range' q m).map fun (q : Nat) => rowL xs ((q : Int) + 1)) : Int) = fst xs xs[i]!
  | 0, q, h1, h2 => by omega
  | m + 1, q, h1, h2 => by
    obtain ⟨b0, b1, b2⟩ := blk_of hc hi
    have hs : Span xs xs[i]! := span_of hi rfl
    have hof := hs.of i hi rfl
    rw [List.range'_succ, List.map_cons, labF, rowL_even (by omega)]
    by_cases he : (q : Int) + 1 = lev xs xs[i]!.toNat
    · have hh : ch xs ((q : Int) + 1) (2 * (i : Int)) = 111 ∨ ch xs ((q : Int) + 1) (2 * (i : Int)) = 124 := by
        rw [ch_even hc hi, if_neg (fun e => by omega), if_neg (by omega)]
        by_cases h5 : fst xs xs[i]! < lst xs xs[i]!
        · rw [if_pos ⟨he, h5⟩]; exact .inl rfl
        · rw [if_neg (fun e => h5 e.2), if_neg (fun e => by omega)]; exact .inr rfl
      rw [if_pos hh, he]
      have := begF_chart hc b1 hi (by rw [b2]; exact hof.1) (by rw [b2]; exact hof.2)
      rw [this, b2]
    · have hlt : (q : Int) + 1 < lev xs xs[i]!.toNat := by omega
      have ih := labF_chart hc hi m (q + 1) (by omega) (by omega)
      have hh : ¬ (ch xs ((q : Int) + 1) (2 * (i : Int)) = 111 ∨ ch xs ((q : Int) + 1) (2 * (i : Int)) = 124) := by
        rw [ch_even hc hi]
        by_cases ho : ovr xs ((q : Int) + 1) ((i : Int) - 1) (i + 1) (bk xs) = true
        · rw [if_pos ⟨hlt, ho⟩]; decide
        · rw [if_neg (fun e => ho e.2), if_pos hlt]; decide
      rw [if_neg hh]; exact ih
/-- The labels that the rows give are those of the partition. -/
def labsF (n : Nat) (rs : List (List Int)) : List Int := (List.range n).map fun i => 2 * (labF i rs : Int)
theorem labs_chart {xs : List Int} (hc : check xs = 0) {d : Nat} (hd : deepN xs (bk xs) ≤ d) : num (labsF xs.length ((List.range d).map fun (q : Nat) => rowL xs ((q : Int) + 1))) [] = xs := by
  have e : labsF xs.length ((List.range d).map fun (q : Nat) => rowL xs ((q : Int) + 1)) = xs.map fun b => 2 * fst xs b := by
    apply List.ext_getElem (by simp [labsF])
    intro i h1 h2
    have hi : i < xs.length := by simpa using h2
    obtain ⟨b0, b1, b2⟩ := blk_of hc hi
    have hp := lev_pos xs xs[i]!.toNat
    have hg := deepN_ge xs b1
    simp only [labsF, List.getElem_map, List.getElem_range]
    have := labF_chart hc hi d 0 (by omega) (by omega)
    rw [List.range_eq_range', this, getElem!_pos xs i hi]
  rw [e, num_inj (fun b => 2 * fst xs b) xs]
  · exact num_canon hc
  · intro a b ha hb hab
    obtain ⟨i, hi, rfl⟩ := List.getElem_of_mem ha
    obtain ⟨j, hj, rfl⟩ := List.getElem_of_mem hb
    have sa : Span xs xs[i] := span_of hi (getElem!_pos xs i hi)
    have sb : Span xs xs[j] := span_of hj (getElem!_pos xs j hj)
    have h1 : fst xs xs[i] = fst xs xs[j] := by
      have : 2 * fst xs xs[i] = 2 * fst xs xs[j] := hab
      omega
    have := sa.fa
    rw [h1, sb.fa] at this
    exact this.symm
end Go.Proofs.YteocbhefhobehaaDoor

/- A chart is of one partition. -/
namespace Go.Proofs.YteocbhefhobehaaDoor
open Go.AI
theorem drw_rows (xs : List Int) : ∃ d : Nat, deepN xs (bk xs) = d ∧ drw xs = drwN xs (d + 1) ∧ rowsF (drw xs) [] = (List.range (d + 1)).map fun (q : Nat) => rowL xs ((q : Int) + 1) := by
  obtain ⟨d, hd⟩ : ∃ d : Nat, deepN xs (bk xs) = d := ⟨(deepN xs (bk xs)).toNat, by have := deepN_le xs (bk xs); omega⟩
  have hdrw : drw xs = drwN xs (d + 1) := by unfold drw; rw [hd]; rfl
  exact ⟨d, hd, hdrw, by rw [hdrw, rowsF_drwN]⟩
theorem drw_end (xs : List Int) : ∃ t, drw xs = t ++ [10] := by
  obtain ⟨d, _, h, _⟩ := drw_rows xs
  rw [h, drwN]
  exact ⟨_, by rw [List.append_assoc]⟩
theorem drw_bytes (xs : List Int) : Bytes (drw xs) := by
  obtain ⟨d, _, h, _⟩ := drw_rows xs
  rw [h]; exact drwN_bytes xs _
theorem read_back {xs l t ys : List Int} (hc : check xs = 0) (h : drw xs = l) (ht : ∀ t', l = t' ++ [10] → t = t') (hys : ∀ w, (∀ r ∈ segs t, r.length = w) → ys = labsF ((w + 1) / 2) (segs t)) :
    num ys [] = xs ∧ ys.length = xs.length := by
  have hlx := check_len hc
  obtain ⟨t', h1⟩ := drw_end xs
  obtain ⟨d, hd, h2, h3⟩ := drw_rows xs
  have e : t = t' := ht t' (by rw [← h, h1])
  subst e
  have hs : segs t = (List.range (d + 1)).map fun (q : Nat) => rowL xs ((q : Int) + 1) := by rw [segs, ← h1, h3]
  have hw := hys (2 * xs.length - 1) (by
    intro r hr
    rw [hs] at hr
    obtain ⟨q, _, rfl⟩ := List.mem_map.1 hr
    exact rowL_len xs _)
  rw [hs, show (2 * xs.length - 1 + 1) / 2 = xs.length by omega] at hw
  exact ⟨by rw [hw]; exact labs_chart hc (by omega), by rw [hw]; simp [labsF]⟩
theorem drw_inj {p q : List Int} (hp : check p = 0) (hq : check q = 0) (h : drw p = drw q) : p = q := by
  have hlp := check_len hp
  have hlq := check_len hq
  obtain ⟨d, hd, h1, h2⟩ := drw_rows p
  obtain ⟨e, he, h3, h4⟩ := drw_rows q
  rw [h, h4] at h2
  have hl : e = d := by
    have := congrArg List.length h2
    simp at this; exact this
  subst hl
  have hn : q.length = p.length := by
    have h5 : (rowL q (((0 : Nat) : Int) + 1)).length = (rowL p (((0 : Nat) : Int) + 1)).length := by
      have := congrArg (fun l => (l[0]?.map List.length)) h2
      simpa using this
    rw [rowL_len, rowL_len] at h5
    omega
  have a := labs_chart hp (d := e + 1) (by omega)
  have b := labs_chart hq (d := e + 1) (by omega)
  rw [← h2, ← hn, b] at a
  exact a.symm
end Go.Proofs.YteocbhefhobehaaDoor

/- strings.TrimSuffix and strings.Split at a line feed, and what they call. -/
namespace Go.Proofs.YteocbhefhobehaaDoor
open Go.AI
theorem one10 : ([10] : List Int).length = 1 := rfl
theorem b10 : Bytes [10] := fun x hx => by simp at hx; omega
theorem bNil : Bytes [] := fun x hx => by simp at hx
set_option maxRecDepth 100000 in
theorem indexByte_spec {B : Nat} {H : Heap} {l : List Int} (hB : B ≤ H.n) (hb : Bytes l) :
    CallB Tryd.prog B 138 [VS l, .int .u8 10] H (fun r H' => r = .int .i64 (idxF l) ∧ H' = H) := by
  refine CV.enter callees false rfl Tryd.func138 rfl ok138 (Nat.le_of_ble_eq_true rfl) hB ?_
  repeat' first
    | refine CO.cons rfl ?_
    | refine CO.nil ?_
    | refine CV.seq ?_
    | refine CV.region callees ?_
    | refine CV.cond ?_
    | refine CV.block ?_
    | refine CV.skip ?_
    | refine CV.exit ?_
    | refine CV.ret ?_
    | refine CV.scope ?_
    | refine CV.draw callees rfl ?_
    | refine CH.cons rfl ?_
    | refine CH.nil ?_
    | refine CO.consG rfl ?_
    | refine CH.consG rfl ?_
    | refine CG.cons rfl ?_
    | refine CG.nil ?_
    | refine CG.consG rfl ?_
    | refine ⟨(rfl : plain _ = true), ?_⟩
    | refine ⟨(rfl : nilOk _ = some _), ?_⟩
    | refine ⟨_, ints_len (by assumption), ?_⟩
    | refine ⟨_, ints_addr (by assumption) (by omega) (by omega), ?_⟩
    | refine ⟨_, ints_load (by assumption) (by omega) (by omega), ?_⟩
    | refine ⟨(⟨by omega, by omega⟩ : inI64 _), ?_⟩
    | refine ⟨_, fun tm ha => step1_max rfl (ev_tmp ha rfl) (ev_tmp ha rfl), ?_⟩
    | refine ⟨_, fun tm ha => step1_min rfl (ev_tmp ha rfl) (ev_tmp ha rfl), ?_⟩
    | refine ⟨_, ext_index hb, ?_⟩
    | (refine ⟨fun _ => ?_, fun _ => ?_⟩ <;> first | (exfalso; omega) | skip)
    | fail
  exact ⟨rfl, rfl, rfl⟩
set_option maxRecDepth 100000 in
theorem sIndex_spec {B : Nat} {H : Heap} {l : List Int} (hB : B ≤ H.n) (hb : Bytes l) :
    CallB Tryd.prog B 136 [VS l, VS [10]] H (fun r H' => r = .int .i64 (idxF l) ∧ H' = H) := by
  have h1 := one10
  have hx : ([10] : List Int)[(0 : Int).toNat]! = 10 := rfl
  refine CV.enter callees false rfl Tryd.func136 rfl ok136 (Nat.le_of_ble_eq_true rfl) hB ?_
  by_cases hl : [10] = l
  · subst hl
    repeat' first
      | refine CO.cons rfl ?_
      | refine CO.nil ?_
      | refine CV.seq ?_
      | refine CV.region callees ?_
      | refine CV.cond ?_
      | refine CV.block ?_
      | refine CV.skip ?_
      | refine CV.exit ?_
      | refine CV.ret ?_
      | refine CV.scope ?_
      | refine CV.draw callees rfl ?_
      | refine CH.cons rfl ?_
      | refine CH.nil ?_
      | refine CO.consG rfl ?_
      | refine CH.consG rfl ?_
      | refine CG.cons rfl ?_
      | refine CG.nil ?_
      | refine CG.consG rfl ?_
      | refine ⟨(rfl : plain _ = true), ?_⟩
      | refine ⟨(rfl : nilOk _ = some _), ?_⟩
      | refine ⟨_, ints_len (by assumption), ?_⟩
      | refine ⟨_, ints_addr (by assumption) (by omega) (by omega), ?_⟩
      | refine ⟨_, ints_load (by assumption) (by omega) (by omega), ?_⟩
      | refine ⟨(⟨by omega, by omega⟩ : inI64 _), ?_⟩
      | refine ⟨_, fun tm ha => step1_max rfl (ev_tmp ha rfl) (ev_tmp ha rfl), ?_⟩
      | refine ⟨_, fun tm ha => step1_min rfl (ev_tmp ha rfl) (ev_tmp ha rfl), ?_⟩
      | refine ⟨_, str_len (l := [10]) un9, ?_⟩
      | refine ⟨_, fun tm ha => eqS_t rfl (ev_tmp ha rfl) (ev_tmp ha rfl) rfl, ?_⟩
      | (refine ⟨fun _ => ?_, fun _ => ?_⟩ <;> first | (exfalso; omega) | skip)
      | fail
    exact ⟨rfl, rfl, rfl⟩
  · repeat' first
      | refine CO.cons rfl ?_
      | refine CO.nil ?_
      | refine CV.seq ?_
      | refine CV.region callees ?_
      | refine CV.cond ?_
      | refine CV.block ?_
      | refine CV.skip ?_
      | refine CV.exit ?_
      | refine CV.ret ?_
      | refine CV.scope ?_
      | refine CV.draw callees rfl ?_
      | refine CH.cons rfl ?_
      | refine CH.nil ?_
      | refine CO.consG rfl ?_
      | refine CH.consG rfl ?_
      | refine CG.cons rfl ?_
      | refine CG.nil ?_
      | refine CG.consG rfl ?_
      | refine ⟨(rfl : plain _ = true), ?_⟩
      | refine ⟨(rfl : nilOk _ = some _), ?_⟩
      | refine ⟨_, ints_len (by assumption), ?_⟩
      | refine ⟨_, ints_addr (by assumption) (by omega) (by omega), ?_⟩
      | refine ⟨_, ints_load (by assumption) (by omega) (by omega), ?_⟩
      | refine ⟨(⟨by omega, by omega⟩ : inI64 _), ?_⟩
      | refine ⟨_, fun tm ha => step1_max rfl (ev_tmp ha rfl) (ev_tmp ha rfl), ?_⟩
      | refine ⟨_, fun tm ha => step1_min rfl (ev_tmp ha rfl) (ev_tmp ha rfl), ?_⟩
      | refine ⟨_, str_len (l := [10]) un9, ?_⟩
      | refine ⟨_, fun tm ha => eqS_f rfl (ev_tmp ha rfl) (ev_tmp ha rfl) b10 hb hl, ?_⟩
      | refine ⟨_, str_index (l := [10]) un9 b10 (by omega) (by omega), ?_⟩
      | (refine ⟨fun _ => ?_, fun _ => ?_⟩ <;> first | (exfalso; omega) | skip)
      | fail
    rw [hx]
    refine (indexByte_spec hB hb).mono ?_
    rintro r H' ⟨rfl, rfl⟩
    repeat' first
      | refine CO.cons rfl ?_
      | refine CO.nil ?_
      | refine CV.seq ?_
      | refine CV.region callees ?_
      | refine CV.cond ?_
      | refine CV.block ?_
      | refine CV.skip ?_
      | refine CV.exit ?_
      | refine CV.ret ?_
      | refine CV.scope ?_
      | refine CV.draw callees rfl ?_
      | refine CH.cons rfl ?_
      | refine CH.nil ?_
      | refine CO.consG rfl ?_
      | refine CH.consG rfl ?_
      | refine CG.cons rfl ?_
      | refine CG.nil ?_
      | refine CG.consG rfl ?_
      | refine ⟨(rfl : plain _ = true), ?_⟩
      | refine ⟨(rfl : nilOk _ = some _), ?_⟩
      | refine ⟨_, ints_len (by assumption), ?_⟩
      | refine ⟨_, ints_addr (by assumption) (by omega) (by omega), ?_⟩
      | refine ⟨_, ints_load (by assumption) (by omega) (by omega), ?_⟩
      | refine ⟨(⟨by omega, by omega⟩ : inI64 _), ?_⟩
      | refine ⟨_, fun tm ha => step1_max rfl (ev_tmp ha rfl) (ev_tmp ha rfl), ?_⟩
      | refine ⟨_, fun tm ha => step1_min rfl (ev_tmp ha rfl) (ev_tmp ha rfl), ?_⟩
      | (refine ⟨fun _ => ?_, fun _ => ?_⟩ <;> first | (exfalso; omega) | skip)
      | fail
    exact ⟨rfl, rfl, rfl⟩
set_option maxRecDepth 100000 in
theorem index_spec {B : Nat} {H : Heap} {l : List Int} (hB : B ≤ H.n) (hb : Bytes l) :
    CallB Tryd.prog B 129 [VS l, VS [10]] H (fun r H' => r = .int .i64 (idxF l) ∧ H' = H) := by
  refine CV.enter callees false rfl Tryd.func129 rfl ok129 (Nat.le_of_ble_eq_true rfl) hB ?_
  repeat' first
    | refine CO.cons rfl ?_
    | refine CO.nil ?_
    | refine CV.seq ?_
    | refine CV.region callees ?_
    | refine CV.cond ?_
    | refine CV.block ?_
    | refine CV.skip ?_
    | refine CV.exit ?_
    | refine CV.ret ?_
    | refine CV.scope ?_
    | refine CV.draw callees rfl ?_
    | refine CH.cons rfl ?_
    | refine CH.nil ?_
    | refine CO.consG rfl ?_
    | refine CH.consG rfl ?_
    | refine CG.cons rfl ?_
    | refine CG.nil ?_
    | refine CG.consG rfl ?_
    | refine ⟨(rfl : plain _ = true), ?_⟩
    | refine ⟨(rfl : nilOk _ = some _), ?_⟩
    | refine ⟨_, ints_len (by assumption), ?_⟩
    | refine ⟨_, ints_addr (by assumption) (by omega) (by omega), ?_⟩
    | refine ⟨_, ints_load (by assumption) (by omega) (by omega), ?_⟩
    | refine ⟨(⟨by omega, by omega⟩ : inI64 _), ?_⟩
    | refine ⟨_, fun tm ha => step1_max rfl (ev_tmp ha rfl) (ev_tmp ha rfl), ?_⟩
    | refine ⟨_, fun tm ha => step1_min rfl (ev_tmp ha rfl) (ev_tmp ha rfl), ?_⟩
    | (refine ⟨fun _ => ?_, fun _ => ?_⟩ <;> first | (exfalso; omega) | skip)
    | fail
  refine (sIndex_spec hB hb).mono ?_
  rintro r H' ⟨rfl, rfl⟩
  repeat' first
    | refine CO.cons rfl ?_
    | refine CO.nil ?_
    | refine CV.seq ?_
    | refine CV.region callees ?_
    | refine CV.cond ?_
    | refine CV.block ?_
    | refine CV.skip ?_
    | refine CV.exit ?_
    | refine CV.ret ?_
    | refine CV.scope ?_
    | refine CV.draw callees rfl ?_
    | refine CH.cons rfl ?_
    | refine CH.nil ?_
    | refine CO.consG rfl ?_
    | refine CH.consG rfl ?_
    | refine CG.cons rfl ?_
    | refine CG.nil ?_
    | refine CG.consG rfl ?_
    | refine ⟨(rfl : plain _ = true), ?_⟩
    | refine ⟨(rfl : nilOk _ = some _), ?_⟩
    | refine ⟨_, ints_len (by assumption), ?_⟩
    | refine ⟨_, ints_addr (by assumption) (by omega) (by omega), ?_⟩
    | refine ⟨_, ints_load (by assumption) (by omega) (by omega), ?_⟩
    | refine ⟨(⟨by omega, by omega⟩ : inI64 _), ?_⟩
    | refine ⟨_, fun tm ha => step1_max rfl (ev_tmp ha rfl) (ev_tmp ha rfl), ?_⟩
    | refine ⟨_, fun tm ha => step1_min rfl (ev_tmp ha rfl) (ev_tmp ha rfl), ?_⟩
    | (refine ⟨fun _ => ?_, fun _ => ?_⟩ <;> first | (exfalso; omega) | skip)
    | fail
  exact ⟨rfl, rfl, rfl⟩
set_option maxRecDepth 100000 in
theorem scount_spec {B : Nat} {H : Heap} {l : List Int} (hB : B ≤ H.n) (hb : Bytes l) :
    CallB Tryd.prog B 128 [VS l, VS [10]] H (fun r H' => r = .int .i64 (l.count 10 : Nat) ∧ H' = H) := by
  have h1 := one10
  have hx : ([10] : List Int)[(0 : Int).toNat]! = 10 := rfl
  refine CV.enter callees false rfl Tryd.func128 rfl ok128 (Nat.le_of_ble_eq_true rfl) hB ?_
  repeat' first
    | refine CO.cons rfl ?_
    | refine CO.nil ?_
    | refine CV.seq ?_
    | refine CV.region callees ?_
    | refine CV.cond ?_
    | refine CV.block ?_
    | refine CV.skip ?_
    | refine CV.exit ?_
    | refine CV.ret ?_
    | refine CV.scope ?_
    | refine CV.draw callees rfl ?_
    | refine CH.cons rfl ?_
    | refine CH.nil ?_
    | refine CO.consG rfl ?_
    | refine CH.consG rfl ?_
    | refine CG.cons rfl ?_
    | refine CG.nil ?_
    | refine CG.consG rfl ?_
    | refine ⟨(rfl : plain _ = true), ?_⟩
    | refine ⟨(rfl : nilOk _ = some _), ?_⟩
    | refine ⟨_, ints_len (by assumption), ?_⟩
    | refine ⟨_, ints_addr (by assumption) (by omega) (by omega), ?_⟩
    | refine ⟨_, ints_load (by assumption) (by omega) (by omega), ?_⟩
    | refine ⟨(⟨by omega, by omega⟩ : inI64 _), ?_⟩
    | refine ⟨_, fun tm ha => step1_max rfl (ev_tmp ha rfl) (ev_tmp ha rfl), ?_⟩
    | refine ⟨_, fun tm ha => step1_min rfl (ev_tmp ha rfl) (ev_tmp ha rfl), ?_⟩
    | refine ⟨_, str_len (l := [10]) un9, ?_⟩
    | refine ⟨_, str_index (l := [10]) un9 b10 (by omega) (by omega), ?_⟩
    | (refine ⟨fun _ => ?_, fun _ => ?_⟩ <;> first | (exfalso; omega) | skip)
    | fail
  rw [hx]
  repeat' first
    | refine CO.cons rfl ?_
    | refine CO.nil ?_
    | refine CV.seq ?_
    | refine CV.region callees ?_
    | refine CV.cond ?_
    | refine CV.block ?_
    | refine CV.skip ?_
    | refine CV.exit ?_
    | refine CV.ret ?_
    | refine CV.scope ?_
    | refine CV.draw callees rfl ?_
    | refine CH.cons rfl ?_
    | refine CH.nil ?_
    | refine CO.consG rfl ?_
    | refine CH.consG rfl ?_
    | refine CG.cons rfl ?_
    | refine CG.nil ?_
    | refine CG.consG rfl ?_
    | refine ⟨(rfl : plain _ = true), ?_⟩
    | refine ⟨(rfl : nilOk _ = some _), ?_⟩
    | refine ⟨_, ints_len (by assumption), ?_⟩
    | refine ⟨_, ints_addr (by assumption) (by omega) (by omega), ?_⟩
    | refine ⟨_, ints_load (by assumption) (by omega) (by omega), ?_⟩
    | refine ⟨(⟨by omega, by omega⟩ : inI64 _), ?_⟩
    | refine ⟨_, fun tm ha => step1_max rfl (ev_tmp ha rfl) (ev_tmp ha rfl), ?_⟩
    | refine ⟨_, fun tm ha => step1_min rfl (ev_tmp ha rfl) (ev_tmp ha rfl), ?_⟩
    | refine ⟨_, ext_count hb, ?_⟩
    | (refine ⟨fun _ => ?_, fun _ => ?_⟩ <;> first | (exfalso; omega) | skip)
    | fail
  exact ⟨rfl, rfl, rfl⟩
set_option maxRecDepth 100000 in
theorem hasSuffix_spec {B : Nat} {H : Heap} {l : List Int} (hB : B ≤ H.n) (hb : Bytes l) (hn : l.length < 100000) :
    CallB Tryd.prog B 130 [VS l, VS [10]] H (fun r H' => (∃ b, r = .bool b ∧ (b = true → ∃ t, l = t ++ [10]) ∧ (b = false → ∀ t, l ≠ t ++ [10])) ∧ H' = H) := by
  have h1 := one10
  refine CV.enter callees false rfl Tryd.func130 rfl ok130 (Nat.le_of_ble_eq_true rfl) hB ?_
  by_cases h0 : l = []
  · subst h0
    have h2 : ([] : List Int).length = 0 := rfl
    repeat' first
      | refine CO.cons rfl ?_
      | refine CO.nil ?_
      | refine CV.seq ?_
      | refine CV.region callees ?_
      | refine CV.cond ?_
      | refine CV.block ?_
      | refine CV.skip ?_
      | refine CV.exit ?_
      | refine CV.ret ?_
      | refine CV.scope ?_
      | refine CV.draw callees rfl ?_
      | refine CH.cons rfl ?_
      | refine CH.nil ?_
      | refine CO.consG rfl ?_
      | refine CH.consG rfl ?_
      | refine CG.cons rfl ?_
      | refine CG.nil ?_
      | refine CG.consG rfl ?_
      | refine ⟨(rfl : plain _ = true), ?_⟩
      | refine ⟨(rfl : nilOk _ = some _), ?_⟩
      | refine ⟨_, ints_len (by assumption), ?_⟩
      | refine ⟨_, ints_addr (by assumption) (by omega) (by omega), ?_⟩
      | refine ⟨_, ints_load (by assumption) (by omega) (by omega), ?_⟩
      | refine ⟨(⟨by omega, by omega⟩ : inI64 _), ?_⟩
      | refine ⟨_, fun tm ha => step1_max rfl (ev_tmp ha rfl) (ev_tmp ha rfl), ?_⟩
      | refine ⟨_, fun tm ha => step1_min rfl (ev_tmp ha rfl) (ev_tmp ha rfl), ?_⟩
      | refine ⟨_, str_len (l := [10]) un9, ?_⟩
      | refine ⟨_, str_len (l := []) un9, ?_⟩
      | (refine ⟨fun _ => ?_, fun _ => ?_⟩ <;> first | (exfalso; omega) | skip)
      | fail
    exact ⟨rfl, ⟨_, rfl, (fun h => by cases h), (fun _ t h => by simp at h)⟩, rfl⟩
  · have hp : 0 < l.length := List.length_pos_iff.2 h0
    have hd : l.drop (l.length - 1) = [l[l.length - 1]!] := by
      rw [List.drop_eq_getElem_cons (by omega), getElem!_pos l (l.length - 1) (by omega), show l.length - 1 + 1 = l.length by omega, List.drop_length]
    have hcat : l = l.take (l.length - 1) ++ [l[l.length - 1]!] := by rw [← hd, List.take_append_drop]
    have hti : ((l.length : Int) - (([10] : List Int).length : Nat)).toNat = l.length - 1 := by omega
    by_cases he : l.drop (l.length - 1) = [10]
    · repeat' first
        | refine CO.cons rfl ?_
        | refine CO.nil ?_
        | refine CV.seq ?_
        | refine CV.region callees ?_
        | refine CV.cond ?_
        | refine CV.block ?_
        | refine CV.skip ?_
        | refine CV.exit ?_
        | refine CV.ret ?_
        | refine CV.scope ?_
        | refine CV.draw callees rfl ?_
        | refine CH.cons rfl ?_
        | refine CH.nil ?_
        | refine CO.consG rfl ?_
        | refine CH.consG rfl ?_
        | refine CG.cons rfl ?_
        | refine CG.nil ?_
        | refine CG.consG rfl ?_
        | refine ⟨(rfl : plain _ = true), ?_⟩
        | refine ⟨(rfl : nilOk _ = some _), ?_⟩
        | refine ⟨_, ints_len (by assumption), ?_⟩
        | refine ⟨_, ints_addr (by assumption) (by omega) (by omega), ?_⟩
        | refine ⟨_, ints_load (by assumption) (by omega) (by omega), ?_⟩
        | refine ⟨(⟨by omega, by omega⟩ : inI64 _), ?_⟩
        | refine ⟨_, fun tm ha => step1_max rfl (ev_tmp ha rfl) (ev_tmp ha rfl), ?_⟩
        | refine ⟨_, fun tm ha => step1_min rfl (ev_tmp ha rfl) (ev_tmp ha rfl), ?_⟩
        | refine ⟨_, str_len (l := [10]) un9, ?_⟩
        | refine ⟨_, str_len (l := l) un9, ?_⟩
        | refine ⟨_, str_slice_lo un9 (by omega) (by omega), ?_⟩
        | refine ⟨_, fun tm ha => eqS_t rfl (ev_tmp ha rfl) (ev_tmp ha rfl) (by rw [hti]; exact he), ?_⟩
        | (refine ⟨fun _ => ?_, fun _ => ?_⟩ <;> first | (exfalso; omega) | skip)
        | fail
      exact ⟨rfl, ⟨_, rfl, fun _ => ⟨l.take (l.length - 1), by rw [← he, List.take_append_drop]⟩, (fun h => by cases h)⟩, rfl⟩
    · repeat' first
        | refine CO.cons rfl ?_
        | refine CO.nil ?_
        | refine CV.seq ?_
        | refine CV.region callees ?_
        | refine CV.cond ?_
        | refine CV.block ?_
        | refine CV.skip ?_
        | refine CV.exit ?_
        | refine CV.ret ?_
        | refine CV.scope ?_
        | refine CV.draw callees rfl ?_
        | refine CH.cons rfl ?_
        | refine CH.nil ?_
        | refine CO.consG rfl ?_
        | refine CH.consG rfl ?_
        | refine CG.cons rfl ?_
        | refine CG.nil ?_
        | refine CG.consG rfl ?_
        | refine ⟨(rfl : plain _ = true), ?_⟩
        | refine ⟨(rfl : nilOk _ = some _), ?_⟩
        | refine ⟨_, ints_len (by assumption), ?_⟩
        | refine ⟨_, ints_addr (by assumption) (by omega) (by omega), ?_⟩
        | refine ⟨_, ints_load (by assumption) (by omega) (by omega), ?_⟩
        | refine ⟨(⟨by omega, by omega⟩ : inI64 _), ?_⟩
        | refine ⟨_, fun tm ha => step1_max rfl (ev_tmp ha rfl) (ev_tmp ha rfl), ?_⟩
        | refine ⟨_, fun tm ha => step1_min rfl (ev_tmp ha rfl) (ev_tmp ha rfl), ?_⟩
        | refine ⟨_, str_len (l := [10]) un9, ?_⟩
        | refine ⟨_, str_len (l := l) un9, ?_⟩
        | refine ⟨_, str_slice_lo un9 (by omega) (by omega), ?_⟩
        | refine ⟨_, fun tm ha => eqS_f rfl (ev_tmp ha rfl) (ev_tmp ha rfl) (hb.drop _) b10 (by rw [hti]; exact he), ?_⟩
        | (refine ⟨fun _ => ?_, fun _ => ?_⟩ <;> first | (exfalso; omega) | skip)
        | fail
      refine ⟨rfl, ⟨_, rfl, (fun h => by cases h), (fun _ t h => he ?_)⟩, rfl⟩
      subst h
      simp
set_option maxRecDepth 100000 in
theorem trim_spec {B : Nat} {H : Heap} {l : List Int} (hB : B ≤ H.n) (hb : Bytes l) (hn : l.length < 100000) :
    CallB Tryd.prog B 118 [VS l, VS [10]] H (fun r H' => (∃ t, r = VS t ∧ Bytes t ∧ t.length ≤ l.length ∧ ∀ t', l = t' ++ [10] → t = t') ∧ H' = H) := by
  have h1 := one10
  refine CV.enter callees false rfl Tryd.func118 rfl ok118 (Nat.le_of_ble_eq_true rfl) hB ?_
  repeat' first
    | refine CO.cons rfl ?_
    | refine CO.nil ?_
    | refine CV.seq ?_
    | refine CV.region callees ?_
    | refine CV.cond ?_
    | refine CV.block ?_
    | refine CV.skip ?_
    | refine CV.exit ?_
    | refine CV.ret ?_
    | refine CV.scope ?_
    | refine CV.draw callees rfl ?_
    | refine CH.cons rfl ?_
    | refine CH.nil ?_
    | refine CO.consG rfl ?_
    | refine CH.consG rfl ?_
    | refine CG.cons rfl ?_
    | refine CG.nil ?_
    | refine CG.consG rfl ?_
    | refine ⟨(rfl : plain _ = true), ?_⟩
    | refine ⟨(rfl : nilOk _ = some _), ?_⟩
    | refine ⟨_, ints_len (by assumption), ?_⟩
    | refine ⟨_, ints_addr (by assumption) (by omega) (by omega), ?_⟩
    | refine ⟨_, ints_load (by assumption) (by omega) (by omega), ?_⟩
    | refine ⟨(⟨by omega, by omega⟩ : inI64 _), ?_⟩
    | refine ⟨_, fun tm ha => step1_max rfl (ev_tmp ha rfl) (ev_tmp ha rfl), ?_⟩
    | refine ⟨_, fun tm ha => step1_min rfl (ev_tmp ha rfl) (ev_tmp ha rfl), ?_⟩
    | (refine ⟨fun _ => ?_, fun _ => ?_⟩ <;> first | (exfalso; omega) | skip)
    | fail
  refine (hasSuffix_spec hB hb hn).mono ?_
  rintro r H' ⟨⟨b, rfl, hb1, hb2⟩, rfl⟩
  cases b with
  | true =>
    obtain ⟨t, ht⟩ := hb1 rfl
    have hl : l.length = t.length + 1 := by rw [ht]; simp
    repeat' first
      | refine CO.cons rfl ?_
      | refine CO.nil ?_
      | refine CV.seq ?_
      | refine CV.region callees ?_
      | refine CV.cond ?_
      | refine CV.block ?_
      | refine CV.skip ?_
      | refine CV.exit ?_
      | refine CV.ret ?_
      | refine CV.scope ?_
      | refine CV.draw callees rfl ?_
      | refine CH.cons rfl ?_
      | refine CH.nil ?_
      | refine CO.consG rfl ?_
      | refine CH.consG rfl ?_
      | refine CG.cons rfl ?_
      | refine CG.nil ?_
      | refine CG.consG rfl ?_
      | refine ⟨(rfl : plain _ = true), ?_⟩
      | refine ⟨(rfl : nilOk _ = some _), ?_⟩
      | refine ⟨_, ints_len (by assumption), ?_⟩
      | refine ⟨_, ints_addr (by assumption) (by omega) (by omega), ?_⟩
      | refine ⟨_, ints_load (by assumption) (by omega) (by omega), ?_⟩
      | refine ⟨(⟨by omega, by omega⟩ : inI64 _), ?_⟩
      | refine ⟨_, fun tm ha => step1_max rfl (ev_tmp ha rfl) (ev_tmp ha rfl), ?_⟩
      | refine ⟨_, fun tm ha => step1_min rfl (ev_tmp ha rfl) (ev_tmp ha rfl), ?_⟩
      | refine ⟨_, str_len (l := [10]) un9, ?_⟩
      | refine ⟨_, str_len (l := l) un9, ?_⟩
      | refine ⟨_, str_slice_hi un9 (by omega) (by omega), ?_⟩
      | (refine ⟨fun _ => ?_, fun _ => ?_⟩ <;> first | (exfalso; omega) | skip)
      | fail
    have hti : ((l.length : Int) - (([10] : List Int).length : Nat)).toNat = t.length := by omega
    refine ⟨rfl, ⟨_, rfl, hb.take _, by rw [List.length_take]; omega, fun t' h' => ?_⟩, rfl⟩
    rw [hti, ht, List.take_left']
    · have : t ++ [10] = t' ++ [10] := by rw [← ht, ← h']
      exact List.append_cancel_right this
    · rfl
  | false =>
    repeat' first
      | refine CO.cons rfl ?_
      | refine CO.nil ?_
      | refine CV.seq ?_
      | refine CV.region callees ?_
      | refine CV.cond ?_
      | refine CV.block ?_
      | refine CV.skip ?_
      | refine CV.exit ?_
      | refine CV.ret ?_
      | refine CV.scope ?_
      | refine CV.draw callees rfl ?_
      | refine CH.cons rfl ?_
      | refine CH.nil ?_
      | refine CO.consG rfl ?_
      | refine CH.consG rfl ?_
      | refine CG.cons rfl ?_
      | refine CG.nil ?_
      | refine CG.consG rfl ?_
      | refine ⟨(rfl : plain _ = true), ?_⟩
      | refine ⟨(rfl : nilOk _ = some _), ?_⟩
      | refine ⟨_, ints_len (by assumption), ?_⟩
      | refine ⟨_, ints_addr (by assumption) (by omega) (by omega), ?_⟩
      | refine ⟨_, ints_load (by assumption) (by omega) (by omega), ?_⟩
      | refine ⟨(⟨by omega, by omega⟩ : inI64 _), ?_⟩
      | refine ⟨_, fun tm ha => step1_max rfl (ev_tmp ha rfl) (ev_tmp ha rfl), ?_⟩
      | refine ⟨_, fun tm ha => step1_min rfl (ev_tmp ha rfl) (ev_tmp ha rfl), ?_⟩
      | (refine ⟨fun _ => ?_, fun _ => ?_⟩ <;> first | (exfalso; omega) | skip)
      | fail
    exact ⟨rfl, ⟨_, rfl, hb, Nat.le_refl _, fun t' h' => absurd h' (hb2 rfl t')⟩, rfl⟩
set_option maxRecDepth 100000 in
theorem trimSuffix_spec {B : Nat} {H : Heap} {l : List Int} (hB : B ≤ H.n) (hb : Bytes l) (hn : l.length < 100000) :
    CallB Tryd.prog B 102 [VS l, VS [10]] H (fun r H' => (∃ t, r = VS t ∧ Bytes t ∧ t.length ≤ l.length ∧ ∀ t', l = t' ++ [10] → t = t') ∧ H' = H) := by
  refine CV.enter callees false rfl Tryd.func102 rfl ok102 (Nat.le_of_ble_eq_true rfl) hB ?_
  repeat' first
    | refine CO.cons rfl ?_
    | refine CO.nil ?_
    | refine CV.seq ?_
    | refine CV.region callees ?_
    | refine CV.cond ?_
    | refine CV.block ?_
    | refine CV.skip ?_
    | refine CV.exit ?_
    | refine CV.ret ?_
    | refine CV.scope ?_
    | refine CV.draw callees rfl ?_
    | refine CH.cons rfl ?_
    | refine CH.nil ?_
    | refine CO.consG rfl ?_
    | refine CH.consG rfl ?_
    | refine CG.cons rfl ?_
    | refine CG.nil ?_
    | refine CG.consG rfl ?_
    | refine ⟨(rfl : plain _ = true), ?_⟩
    | refine ⟨(rfl : nilOk _ = some _), ?_⟩
    | refine ⟨_, ints_len (by assumption), ?_⟩
    | refine ⟨_, ints_addr (by assumption) (by omega) (by omega), ?_⟩
    | refine ⟨_, ints_load (by assumption) (by omega) (by omega), ?_⟩
    | refine ⟨(⟨by omega, by omega⟩ : inI64 _), ?_⟩
    | refine ⟨_, fun tm ha => step1_max rfl (ev_tmp ha rfl) (ev_tmp ha rfl), ?_⟩
    | refine ⟨_, fun tm ha => step1_min rfl (ev_tmp ha rfl) (ev_tmp ha rfl), ?_⟩
    | (refine ⟨fun _ => ?_, fun _ => ?_⟩ <;> first | (exfalso; omega) | skip)
    | fail
  refine (trim_spec hB hb hn).mono ?_
  rintro r H' ⟨⟨t, rfl, h2, h3, h4⟩, rfl⟩
  repeat' first
    | refine CO.cons rfl ?_
    | refine CO.nil ?_
    | refine CV.seq ?_
    | refine CV.region callees ?_
    | refine CV.cond ?_
    | refine CV.block ?_
    | refine CV.skip ?_
    | refine CV.exit ?_
    | refine CV.ret ?_
    | refine CV.scope ?_
    | refine CV.draw callees rfl ?_
    | refine CH.cons rfl ?_
    | refine CH.nil ?_
    | refine CO.consG rfl ?_
    | refine CH.consG rfl ?_
    | refine CG.cons rfl ?_
    | refine CG.nil ?_
    | refine CG.consG rfl ?_
    | refine ⟨(rfl : plain _ = true), ?_⟩
    | refine ⟨(rfl : nilOk _ = some _), ?_⟩
    | refine ⟨_, ints_len (by assumption), ?_⟩
    | refine ⟨_, ints_addr (by assumption) (by omega) (by omega), ?_⟩
    | refine ⟨_, ints_load (by assumption) (by omega) (by omega), ?_⟩
    | refine ⟨(⟨by omega, by omega⟩ : inI64 _), ?_⟩
    | refine ⟨_, fun tm ha => step1_max rfl (ev_tmp ha rfl) (ev_tmp ha rfl), ?_⟩
    | refine ⟨_, fun tm ha => step1_min rfl (ev_tmp ha rfl) (ev_tmp ha rfl), ?_⟩
    | (refine ⟨fun _ => ?_, fun _ => ?_⟩ <;> first | (exfalso; omega) | skip)
    | fail
  exact ⟨rfl, ⟨_, rfl, h2, h3, h4⟩, rfl⟩
end Go.Proofs.YteocbhefhobehaaDoor

/- strings.Split at a line feed. -/
namespace Go.Proofs.YteocbhefhobehaaDoor
open Go.AI
theorem strs_put {H : Heap} {K : Heap → Prop} {B B0 : Nat} {x : Value} {y : List Int} {l : List (List Int)} {i : Nat} (hx : Own 9 H x (l.map VS) B0) (hB : B ≤ B0) (hi : i < l.length)
    (hk : ∀ H', Own 9 H' x ((l.set i y).map VS) B0 → KeepBut x H H' → K H') :
    ∃ H' b, astore Tryd.prog 9 H (VS y) (elemAt x i) = some (H', b) ∧ B ≤ b ∧ K H' :=
  store_ask sz9 hx hB (by simpa using hi) rfl fun H' h => hk H' (by rw [List.map_set]; exact h)
theorem strs_slice {K : Value → Prop} {H : Heap} {v : Value} {ls : List (List Int)} {i : Int} (hv : Row H v (ls.map VS)) (h0 : 0 ≤ i) (h1 : i ≤ ls.length) (hk : ∀ r, Row H r ((ls.take i.toNat).map VS) → K r) :
    ∃ r, aslice Tryd.prog 50 v none (some (some (.int .i64 i))) = some r ∧ K r := by
  obtain ⟨r, h2, h3⟩ := row_slice (kd := .i64) un50 sz9 hv h0 (by simpa using h1)
  exact ⟨r, h2, hk r (by rw [← List.map_take] at h3; exact h3)⟩
theorem count_le (l : List Int) : l.count 10 ≤ l.length := List.count_le_length
set_option maxHeartbeats 1000000 in
set_option maxRecDepth 100000 in
theorem genSplit_spec {B : Nat} {H : Heap} {l : List Int} (hB : B ≤ H.n) (hb : Bytes l) (hn : l.length < 100000) :
    CallB Tryd.prog B 117 [VS l, VS [10], .int .i64 0, .int .i64 (-1)] H (fun r H' => Row H' r ((segs l).map VS) ∧ Keep H H') := by
  have h1 := one10
  have hcl := count_le l
  have hsl := segs_len l
  obtain ⟨n, hcn⟩ : ∃ n, l.count 10 = n := ⟨_, rfl⟩
  rw [hcn] at hcl hsl
  have hmin : min ((n : Int) + 1) ((l.length : Int) + 1) = ((n + 1 : Nat) : Int) := by omega
  refine CV.enter callees false rfl Tryd.func117 rfl ok117 (Nat.le_of_ble_eq_true rfl) hB ?_
  repeat' first
    | refine CO.cons rfl ?_
    | refine CO.nil ?_
    | refine CV.seq ?_
    | refine CV.region callees ?_
    | refine CV.cond ?_
    | refine CV.block ?_
    | refine CV.skip ?_
    | refine CV.exit ?_
    | refine CV.ret ?_
    | refine CV.scope ?_
    | refine CV.draw callees rfl ?_
    | refine CH.cons rfl ?_
    | refine CH.nil ?_
    | refine CO.consG rfl ?_
    | refine CH.consG rfl ?_
    | refine CG.cons rfl ?_
    | refine CG.nil ?_
    | refine CG.consG rfl ?_
    | refine ⟨(rfl : plain _ = true), ?_⟩
    | refine ⟨(rfl : nilOk _ = some _), ?_⟩
    | refine ⟨_, ints_len (by assumption), ?_⟩
    | refine ⟨_, ints_addr (by assumption) (by omega) (by omega), ?_⟩
    | refine ⟨_, ints_load (by assumption) (by omega) (by omega), ?_⟩
    | refine ⟨(⟨by omega, by omega⟩ : inI64 _), ?_⟩
    | refine ⟨_, fun tm ha => step1_max rfl (ev_tmp ha rfl) (ev_tmp ha rfl), ?_⟩
    | refine ⟨_, fun tm ha => step1_min rfl (ev_tmp ha rfl) (ev_tmp ha rfl), ?_⟩
    | refine ⟨_, fun tm ha => eqS_f rfl (ev_tmp ha rfl) (show _ = some (VS []) from rfl) b10 bNil (by simp), ?_⟩
    | (refine ⟨fun _ => ?_, fun _ => ?_⟩ <;> first | (exfalso; omega) | skip)
    | fail
  refine (scount_spec hB hb).mono ?_
  rintro r H1 ⟨rfl, rfl⟩
  rw [hcn]
  repeat' first
    | refine CO.cons rfl ?_
    | refine CO.nil ?_
    | refine CV.seq ?_
    | refine CV.region callees ?_
    | refine CV.cond ?_
    | refine CV.block ?_
    | refine CV.skip ?_
    | refine CV.exit ?_
    | refine CV.ret ?_
    | refine CV.scope ?_
    | refine CV.draw callees rfl ?_
    | refine CH.cons rfl ?_
    | refine CH.nil ?_
    | refine CO.consG rfl ?_
    | refine CH.consG rfl ?_
    | refine CG.cons rfl ?_
    | refine CG.nil ?_
    | refine CG.consG rfl ?_
    | refine ⟨(rfl : plain _ = true), ?_⟩
    | refine ⟨(rfl : nilOk _ = some _), ?_⟩
    | refine ⟨_, ints_len (by assumption), ?_⟩
    | refine ⟨_, ints_addr (by assumption) (by omega) (by omega), ?_⟩
    | refine ⟨_, ints_load (by assumption) (by omega) (by omega), ?_⟩
    | refine ⟨(⟨by omega, by omega⟩ : inI64 _), ?_⟩
    | refine ⟨_, fun tm ha => step1_max rfl (ev_tmp ha rfl) (ev_tmp ha rfl), ?_⟩
    | refine ⟨_, fun tm ha => step1_min rfl (ev_tmp ha rfl) (ev_tmp ha rfl), ?_⟩
    | refine ⟨_, str_len un9, ?_⟩
    | (refine ⟨fun _ => ?_, fun _ => ?_⟩ <;> first | (exfalso; omega) | skip)
    | fail
  rw [hmin]
  repeat' first
    | refine CO.cons rfl ?_
    | refine CO.nil ?_
    | refine CV.seq ?_
    | refine CV.region callees ?_
    | refine CV.cond ?_
    | refine CV.block ?_
    | refine CV.skip ?_
    | refine CV.exit ?_
    | refine CV.ret ?_
    | refine CV.scope ?_
    | refine CV.draw callees rfl ?_
    | refine CH.cons rfl ?_
    | refine CH.nil ?_
    | refine CO.consG rfl ?_
    | refine CH.consG rfl ?_
    | refine CG.cons rfl ?_
    | refine CG.nil ?_
    | refine CG.consG rfl ?_
    | refine ⟨(rfl : plain _ = true), ?_⟩
    | refine ⟨(rfl : nilOk _ = some _), ?_⟩
    | refine ⟨_, ints_len (by assumption), ?_⟩
    | refine ⟨_, ints_addr (by assumption) (by omega) (by omega), ?_⟩
    | refine ⟨_, ints_load (by assumption) (by omega) (by omega), ?_⟩
    | refine ⟨(⟨by omega, by omega⟩ : inI64 _), ?_⟩
    | refine ⟨_, fun tm ha => step1_max rfl (ev_tmp ha rfl) (ev_tmp ha rfl), ?_⟩
    | refine ⟨_, fun tm ha => step1_min rfl (ev_tmp ha rfl) (ev_tmp ha rfl), ?_⟩
    | (refine ⟨fun _ => ?_, fun _ => ?_⟩ <;> first | (exfalso; omega) | skip)
    | fail
  refine ⟨_, _, make_row un50 one9 (by omega) (n + 1) (by omega), ?_⟩
  have hown : Own 9 (H1.new (.cells (List.replicate (n + 1) (.string .empty)) 9 2)) (.slice (some ⟨H1.n, 0, none⟩) ((n + 1 : Nat)) 0) ((List.replicate (n + 1) ([] : List Int)).map VS) H1.n :=
    .inr ⟨H1.n, by simp, Nat.le_refl _, Nat.lt_succ_self _, by rw [Heap.get_new_eq]; simp; rfl⟩
  have k2 : Keep H1 (H1.new (.cells (List.replicate (n + 1) (.string .empty)) 9 2)) := Keep.new _ _
  generalize hH3 : H1.new (.cells (List.replicate (n + 1) (.string .empty)) 9 2) = H3 at hown k2
  generalize hw : Value.slice (some ⟨H1.n, 0, none⟩) ((n + 1 : Nat)) 0 = w at hown
  repeat' first
    | refine CO.cons rfl ?_
    | refine CO.nil ?_
    | refine CV.seq ?_
    | refine CV.region callees ?_
    | refine CV.cond ?_
    | refine CV.block ?_
    | refine CV.skip ?_
    | refine CV.exit ?_
    | refine CV.ret ?_
    | refine CV.scope ?_
    | refine CV.draw callees rfl ?_
    | refine CH.cons rfl ?_
    | refine CH.nil ?_
    | refine CO.consG rfl ?_
    | refine CH.consG rfl ?_
    | refine CG.cons rfl ?_
    | refine CG.nil ?_
    | refine CG.consG rfl ?_
    | refine ⟨(rfl : plain _ = true), ?_⟩
    | refine ⟨(rfl : nilOk _ = some _), ?_⟩
    | refine ⟨_, ints_len (by assumption), ?_⟩
    | refine ⟨_, ints_addr (by assumption) (by omega) (by omega), ?_⟩
    | refine ⟨_, ints_load (by assumption) (by omega) (by omega), ?_⟩
    | refine ⟨(⟨by omega, by omega⟩ : inI64 _), ?_⟩
    | refine ⟨_, fun tm ha => step1_max rfl (ev_tmp ha rfl) (ev_tmp ha rfl), ?_⟩
    | refine ⟨_, fun tm ha => step1_min rfl (ev_tmp ha rfl) (ev_tmp ha rfl), ?_⟩
    | (refine ⟨fun _ => ?_, fun _ => ?_⟩ <;> first | (exfalso; omega) | skip)
    | fail
  refine CV.loopc ?_
  refine WCv.rounds callees false (α := Nat × List Int × List (List Int)) (fun (i, s, ls) => [(0, VS s), (1, VS [10]), (2, .int .i64 0), (3, .int .i64 n), (9, w), (10, .int .i64 i)]) (fun (i, s, ls) Hz => i ≤ n ∧ ls.length = i ∧ Bytes s ∧ s.length ≤ l.length ∧ s.count 10 = n - i ∧ segs l = ls ++ segs s ∧ Keep H1 Hz ∧ Own 9 Hz w ((ls ++ List.replicate (n + 1 - i) []).map VS) H1.n) (fun (i, s, ls) => n - i) (0, l, []) (by repeat' first | exact trivial | refine ⟨rfl, ?_⟩ | refine ⟨slot_int (by (try simp only [Int.toNat_natCast]); omega), ?_⟩) ?_ ?_
  · exact ⟨by omega, rfl, hb, by omega, by omega, rfl, k2, by simpa using hown⟩
  rintro ⟨i, s, ls⟩ Hx ⟨hi, hli, hbs, hsn, hcs, hsg, hkx, hox⟩ hBx
  have hlen : (ls ++ List.replicate (n + 1 - i) ([] : List Int)).length = n + 1 := by simp; omega
  have hrow := hox.row
  by_cases hin : i < n
  · rcases idxF_spec s with ⟨_, hno⟩ | ⟨a, b, hs, hna, hidx⟩
    · have := count_no hno; omega
    · have hsl2 : s.length = a.length + 1 + b.length := by rw [hs]; simp; omega
      repeat' first
        | refine CO.cons rfl ?_
        | refine CO.nil ?_
        | refine CV.seq ?_
        | refine CV.region callees ?_
        | refine CV.cond ?_
        | refine CV.block ?_
        | refine CV.skip ?_
        | refine CV.exit ?_
        | refine CV.ret ?_
        | refine CV.scope ?_
        | refine CV.draw callees rfl ?_
        | refine CH.cons rfl ?_
        | refine CH.nil ?_
        | refine CO.consG rfl ?_
        | refine CH.consG rfl ?_
        | refine CG.cons rfl ?_
        | refine CG.nil ?_
        | refine CG.consG rfl ?_
        | refine ⟨(rfl : plain _ = true), ?_⟩
        | refine ⟨(rfl : nilOk _ = some _), ?_⟩
        | refine ⟨_, ints_len (by assumption), ?_⟩
        | refine ⟨_, ints_addr (by assumption) (by omega) (by omega), ?_⟩
        | refine ⟨_, ints_load (by assumption) (by omega) (by omega), ?_⟩
        | refine ⟨(⟨by omega, by omega⟩ : inI64 _), ?_⟩
        | refine ⟨_, fun tm ha => step1_max rfl (ev_tmp ha rfl) (ev_tmp ha rfl), ?_⟩
        | refine ⟨_, fun tm ha => step1_min rfl (ev_tmp ha rfl) (ev_tmp ha rfl), ?_⟩
        | (refine ⟨fun _ => ?_, fun _ => ?_⟩ <;> first | (exfalso; omega) | skip)
        | fail
      refine (index_spec hBx hbs).mono ?_
      rintro r H4 ⟨rfl, rfl⟩
      rw [hidx]
      have ha1 : ((a.length : Int) + 0).toNat = a.length := by omega
      have ha2 : ((a.length : Int) + (([10] : List Int).length : Nat)).toNat = a.length + 1 := by omega
      have hta : s.take a.length = a := by rw [hs, List.take_left']; rfl
      have hdb : s.drop (a.length + 1) = b := by rw [hs, List.drop_append]; simp
      repeat' first
        | refine CO.cons rfl ?_
        | refine CO.nil ?_
        | refine CV.seq ?_
        | refine CV.region callees ?_
        | refine CV.cond ?_
        | refine CV.block ?_
        | refine CV.skip ?_
        | refine CV.exit ?_
        | refine CV.ret ?_
        | refine CV.scope ?_
        | refine CV.draw callees rfl ?_
        | refine CH.cons rfl ?_
        | refine CH.nil ?_
        | refine CO.consG rfl ?_
        | refine CH.consG rfl ?_
        | refine CG.cons rfl ?_
        | refine CG.nil ?_
        | refine CG.consG rfl ?_
        | refine ⟨(rfl : plain _ = true), ?_⟩
        | refine ⟨(rfl : nilOk _ = some _), ?_⟩
        | refine ⟨_, ints_len (by assumption), ?_⟩
        | refine ⟨_, ints_addr (by assumption) (by omega) (by omega), ?_⟩
        | refine ⟨_, ints_load (by assumption) (by omega) (by omega), ?_⟩
        | refine ⟨(⟨by omega, by omega⟩ : inI64 _), ?_⟩
        | refine ⟨_, fun tm ha => step1_max rfl (ev_tmp ha rfl) (ev_tmp ha rfl), ?_⟩
        | refine ⟨_, fun tm ha => step1_min rfl (ev_tmp ha rfl) (ev_tmp ha rfl), ?_⟩
        | refine ⟨_, str_slice_hi un9 (by omega) (by omega), ?_⟩
        | refine ⟨_, strs_addr hrow (by omega) (by omega), ?_⟩
        | (refine ⟨fun _ => ?_, fun _ => ?_⟩ <;> first | (exfalso; omega) | skip)
        | fail
      rw [ha1, hta, Int.toNat_natCast]
      refine strs_put hox hB (by omega) ?_
      intro H5 ho5 kb5
      have hset : (ls ++ List.replicate (n + 1 - i) ([] : List Int)).set i a = (ls ++ [a]) ++ List.replicate (n + 1 - (i + 1)) [] := by
        rw [List.set_append_right _ _ (by omega), hli, Nat.sub_self, show n + 1 - i = (n + 1 - (i + 1)) + 1 by omega, List.replicate_succ, List.set_cons_zero, List.append_assoc]
        rfl
      rw [hset] at ho5
      repeat' first
        | refine CO.cons rfl ?_
        | refine CO.nil ?_
        | refine CV.seq ?_
        | refine CV.region callees ?_
        | refine CV.cond ?_
        | refine CV.block ?_
        | refine CV.skip ?_
        | refine CV.exit ?_
        | refine CV.ret ?_
        | refine CV.scope ?_
        | refine CV.draw callees rfl ?_
        | refine CH.cons rfl ?_
        | refine CH.nil ?_
        | refine CO.consG rfl ?_
        | refine CH.consG rfl ?_
        | refine CG.cons rfl ?_
        | refine CG.nil ?_
        | refine CG.consG rfl ?_
        | refine ⟨(rfl : plain _ = true), ?_⟩
        | refine ⟨(rfl : nilOk _ = some _), ?_⟩
        | refine ⟨_, ints_len (by assumption), ?_⟩
        | refine ⟨_, ints_addr (by assumption) (by omega) (by omega), ?_⟩
        | refine ⟨_, ints_load (by assumption) (by omega) (by omega), ?_⟩
        | refine ⟨(⟨by omega, by omega⟩ : inI64 _), ?_⟩
        | refine ⟨_, fun tm ha => step1_max rfl (ev_tmp ha rfl) (ev_tmp ha rfl), ?_⟩
        | refine ⟨_, fun tm ha => step1_min rfl (ev_tmp ha rfl) (ev_tmp ha rfl), ?_⟩
        | refine ⟨_, str_len (l := [10]) un9, ?_⟩
        | refine ⟨_, str_slice_lo un9 (by omega) (by omega), ?_⟩
        | (refine ⟨fun _ => ?_, fun _ => ?_⟩ <;> first | (exfalso; omega) | skip)
        | fail
      rw [ha2, hdb]
      repeat' first
        | refine CO.cons rfl ?_
        | refine CO.nil ?_
        | refine CV.seq ?_
        | refine CV.region callees ?_
        | refine CV.cond ?_
        | refine CV.block ?_
        | refine CV.skip ?_
        | refine CV.exit ?_
        | refine CV.ret ?_
        | refine CV.scope ?_
        | refine CV.draw callees rfl ?_
        | refine CH.cons rfl ?_
        | refine CH.nil ?_
        | refine CO.consG rfl ?_
        | refine CH.consG rfl ?_
        | refine CG.cons rfl ?_
        | refine CG.nil ?_
        | refine CG.consG rfl ?_
        | refine ⟨(rfl : plain _ = true), ?_⟩
        | refine ⟨(rfl : nilOk _ = some _), ?_⟩
        | refine ⟨_, ints_len (by assumption), ?_⟩
        | refine ⟨_, ints_addr (by assumption) (by omega) (by omega), ?_⟩
        | refine ⟨_, ints_load (by assumption) (by omega) (by omega), ?_⟩
        | refine ⟨(⟨by omega, by omega⟩ : inI64 _), ?_⟩
        | refine ⟨_, fun tm ha => step1_max rfl (ev_tmp ha rfl) (ev_tmp ha rfl), ?_⟩
        | refine ⟨_, fun tm ha => step1_min rfl (ev_tmp ha rfl) (ev_tmp ha rfl), ?_⟩
        | (refine ⟨fun _ => ?_, fun _ => ?_⟩ <;> first | (exfalso; omega) | skip)
        | fail
      refine ⟨(i + 1, b, ls ++ [a]), (by repeat' first | exact trivial | refine ⟨rfl, ?_⟩ | refine ⟨slot_int (by (try simp only [Int.toNat_natCast]); omega), ?_⟩), (by (try dsimp only); omega), ?_⟩
      have hbb : Bytes b := by rw [← hdb]; exact hbs.drop _
      refine ⟨by omega, by simp; omega, hbb, by omega, ?_, ?_, kb5.keep hkx (fun c hc => (hox.lt hc).1), ho5⟩
      · rw [hs, List.count_append, count_no hna, List.count_cons] at hcs
        simp at hcs; omega
      · rw [hsg, hs, segs_cons hna, List.append_assoc]; rfl
  · have hin' : i = n := by omega
    subst hin'
    have hno : ∀ x ∈ s, x ≠ 10 := by
      intro x hx e
      subst e
      have := List.count_pos_iff.2 hx
      omega
    repeat' first
      | refine CO.cons rfl ?_
      | refine CO.nil ?_
      | refine CV.seq ?_
      | refine CV.region callees ?_
      | refine CV.cond ?_
      | refine CV.block ?_
      | refine CV.skip ?_
      | refine CV.exit ?_
      | refine CV.ret ?_
      | refine CV.scope ?_
      | refine CV.draw callees rfl ?_
      | refine CH.cons rfl ?_
      | refine CH.nil ?_
      | refine CO.consG rfl ?_
      | refine CH.consG rfl ?_
      | refine CG.cons rfl ?_
      | refine CG.nil ?_
      | refine CG.consG rfl ?_
      | refine ⟨(rfl : plain _ = true), ?_⟩
      | refine ⟨(rfl : nilOk _ = some _), ?_⟩
      | refine ⟨_, ints_len (by assumption), ?_⟩
      | refine ⟨_, ints_addr (by assumption) (by omega) (by omega), ?_⟩
      | refine ⟨_, ints_load (by assumption) (by omega) (by omega), ?_⟩
      | refine ⟨(⟨by omega, by omega⟩ : inI64 _), ?_⟩
      | refine ⟨_, fun tm ha => step1_max rfl (ev_tmp ha rfl) (ev_tmp ha rfl), ?_⟩
      | refine ⟨_, fun tm ha => step1_min rfl (ev_tmp ha rfl) (ev_tmp ha rfl), ?_⟩
      | refine ⟨_, strs_addr hrow (by omega) (by omega), ?_⟩
      | (refine ⟨fun _ => ?_, fun _ => ?_⟩ <;> first | (exfalso; omega) | skip)
      | fail
    rw [Int.toNat_natCast]
    refine strs_put hox hB (by omega) ?_
    intro H5 ho5 kb5
    have hset : (ls ++ List.replicate (i + 1 - i) ([] : List Int)).set i s = ls ++ [s] := by
      rw [List.set_append_right _ _ (by omega), hli, Nat.sub_self, show i + 1 - i = 1 by omega]
      rfl
    rw [hset] at ho5
    have hl5 : ((ls ++ [s]).map VS).length = i + 1 := by simp; omega
    repeat' first
      | refine CO.cons rfl ?_
      | refine CO.nil ?_
      | refine CV.seq ?_
      | refine CV.region callees ?_
      | refine CV.cond ?_
      | refine CV.block ?_
      | refine CV.skip ?_
      | refine CV.exit ?_
      | refine CV.ret ?_
      | refine CV.scope ?_
      | refine CV.draw callees rfl ?_
      | refine CH.cons rfl ?_
      | refine CH.nil ?_
      | refine CO.consG rfl ?_
      | refine CH.consG rfl ?_
      | refine CG.cons rfl ?_
      | refine CG.nil ?_
      | refine CG.consG rfl ?_
      | refine ⟨(rfl : plain _ = true), ?_⟩
      | refine ⟨(rfl : nilOk _ = some _), ?_⟩
      | refine ⟨_, ints_len (by assumption), ?_⟩
      | refine ⟨_, ints_addr (by assumption) (by omega) (by omega), ?_⟩
      | refine ⟨_, ints_load (by assumption) (by omega) (by omega), ?_⟩
      | refine ⟨(⟨by omega, by omega⟩ : inI64 _), ?_⟩
      | refine ⟨_, fun tm ha => step1_max rfl (ev_tmp ha rfl) (ev_tmp ha rfl), ?_⟩
      | refine ⟨_, fun tm ha => step1_min rfl (ev_tmp ha rfl) (ev_tmp ha rfl), ?_⟩
      | (refine ⟨fun _ => ?_, fun _ => ?_⟩ <;> first | (exfalso; omega) | skip)
      | fail
    refine strs_slice ho5.row (by omega) (by simp; omega) fun r hr => ?_
    rw [List.take_of_length_le (by simp; omega)] at hr
    repeat' first
      | refine CO.cons rfl ?_
      | refine CO.nil ?_
      | refine CV.seq ?_
      | refine CV.region callees ?_
      | refine CV.cond ?_
      | refine CV.block ?_
      | refine CV.skip ?_
      | refine CV.exit ?_
      | refine CV.ret ?_
      | refine CV.scope ?_
      | refine CV.draw callees rfl ?_
      | refine CH.cons rfl ?_
      | refine CH.nil ?_
      | refine CO.consG rfl ?_
      | refine CH.consG rfl ?_
      | refine CG.cons rfl ?_
      | refine CG.nil ?_
      | refine CG.consG rfl ?_
      | refine ⟨(rfl : plain _ = true), ?_⟩
      | refine ⟨(rfl : nilOk _ = some _), ?_⟩
      | refine ⟨_, ints_len (by assumption), ?_⟩
      | refine ⟨_, ints_addr (by assumption) (by omega) (by omega), ?_⟩
      | refine ⟨_, ints_load (by assumption) (by omega) (by omega), ?_⟩
      | refine ⟨(⟨by omega, by omega⟩ : inI64 _), ?_⟩
      | refine ⟨_, fun tm ha => step1_max rfl (ev_tmp ha rfl) (ev_tmp ha rfl), ?_⟩
      | refine ⟨_, fun tm ha => step1_min rfl (ev_tmp ha rfl) (ev_tmp ha rfl), ?_⟩
      | (refine ⟨fun _ => ?_, fun _ => ?_⟩ <;> first | (exfalso; omega) | skip)
      | fail
    refine ⟨by simp only [List.all_cons, List.all_nil, row_nt hr]; rfl, ?_, kb5.keep hkx (fun c hc => (hox.lt hc).1)⟩
    rw [hsg, segs_none hno]
    exact hr
set_option maxRecDepth 100000 in
theorem split_spec {B : Nat} {H : Heap} {l : List Int} (hB : B ≤ H.n) (hb : Bytes l) (hn : l.length < 100000) :
    CallB Tryd.prog B 101 [VS l, VS [10]] H (fun r H' => Row H' r ((segs l).map VS) ∧ Keep H H') := by
  refine CV.enter callees false rfl Tryd.func101 rfl ok101 (Nat.le_of_ble_eq_true rfl) hB ?_
  repeat' first
    | refine CO.cons rfl ?_
    | refine CO.nil ?_
    | refine CV.seq ?_
    | refine CV.region callees ?_
    | refine CV.cond ?_
    | refine CV.block ?_
    | refine CV.skip ?_
    | refine CV.exit ?_
    | refine CV.ret ?_
    | refine CV.scope ?_
    | refine CV.draw callees rfl ?_
    | refine CH.cons rfl ?_
    | refine CH.nil ?_
    | refine CO.consG rfl ?_
    | refine CH.consG rfl ?_
    | refine CG.cons rfl ?_
    | refine CG.nil ?_
    | refine CG.consG rfl ?_
    | refine ⟨(rfl : plain _ = true), ?_⟩
    | refine ⟨(rfl : nilOk _ = some _), ?_⟩
    | refine ⟨_, ints_len (by assumption), ?_⟩
    | refine ⟨_, ints_addr (by assumption) (by omega) (by omega), ?_⟩
    | refine ⟨_, ints_load (by assumption) (by omega) (by omega), ?_⟩
    | refine ⟨(⟨by omega, by omega⟩ : inI64 _), ?_⟩
    | refine ⟨_, fun tm ha => step1_max rfl (ev_tmp ha rfl) (ev_tmp ha rfl), ?_⟩
    | refine ⟨_, fun tm ha => step1_min rfl (ev_tmp ha rfl) (ev_tmp ha rfl), ?_⟩
    | (refine ⟨fun _ => ?_, fun _ => ?_⟩ <;> first | (exfalso; omega) | skip)
    | fail
  refine (genSplit_spec hB hb hn).mono ?_
  rintro r H' ⟨hr, hk⟩
  repeat' first
    | refine CO.cons rfl ?_
    | refine CO.nil ?_
    | refine CV.seq ?_
    | refine CV.region callees ?_
    | refine CV.cond ?_
    | refine CV.block ?_
    | refine CV.skip ?_
    | refine CV.exit ?_
    | refine CV.ret ?_
    | refine CV.scope ?_
    | refine CV.draw callees rfl ?_
    | refine CH.cons rfl ?_
    | refine CH.nil ?_
    | refine CO.consG rfl ?_
    | refine CH.consG rfl ?_
    | refine CG.cons rfl ?_
    | refine CG.nil ?_
    | refine CG.consG rfl ?_
    | refine ⟨(rfl : plain _ = true), ?_⟩
    | refine ⟨(rfl : nilOk _ = some _), ?_⟩
    | refine ⟨_, ints_len (by assumption), ?_⟩
    | refine ⟨_, ints_addr (by assumption) (by omega) (by omega), ?_⟩
    | refine ⟨_, ints_load (by assumption) (by omega) (by omega), ?_⟩
    | refine ⟨(⟨by omega, by omega⟩ : inI64 _), ?_⟩
    | refine ⟨_, fun tm ha => step1_max rfl (ev_tmp ha rfl) (ev_tmp ha rfl), ?_⟩
    | refine ⟨_, fun tm ha => step1_min rfl (ev_tmp ha rfl) (ev_tmp ha rfl), ?_⟩
    | (refine ⟨fun _ => ?_, fun _ => ?_⟩ <;> first | (exfalso; omega) | skip)
    | fail
  exact ⟨by simp only [List.all_cons, List.all_nil, row_nt hr]; rfl, hr, hk⟩
end Go.Proofs.YteocbhefhobehaaDoor

/- chart.Read: what it answers. -/
namespace Go.Proofs.YteocbhefhobehaaDoor
open Go.AI
set_option maxRecDepth 100000 in
theorem beginning_spec {B : Nat} {H : Heap} {l : List Int} {i : Nat} (hB : B ≤ H.n) (hb : Bytes l) (hi : 2 * i < l.length) (hl : l.length ≤ 100000) :
    CallB Tryd.prog B 126 [VS l, .int .i64 (2 * (i : Int))] H (fun r H' => r = .int .i64 (2 * (begF l i : Int)) ∧ H' = H) := by
  refine CV.enter callees false rfl Tryd.func126 rfl ok126 (Nat.le_of_ble_eq_true rfl) hB ?_
  repeat' first
    | refine CO.cons rfl ?_
    | refine CO.nil ?_
    | refine CV.seq ?_
    | refine CV.region callees ?_
    | refine CV.cond ?_
    | refine CV.block ?_
    | refine CV.skip ?_
    | refine CV.exit ?_
    | refine CV.ret ?_
    | refine CV.scope ?_
    | refine CV.draw callees rfl ?_
    | refine CH.cons rfl ?_
    | refine CH.nil ?_
    | refine CO.consG rfl ?_
    | refine CH.consG rfl ?_
    | refine CG.cons rfl ?_
    | refine CG.nil ?_
    | refine CG.consG rfl ?_
    | refine ⟨(rfl : plain _ = true), ?_⟩
    | refine ⟨(rfl : nilOk _ = some _), ?_⟩
    | refine ⟨_, ints_len (by assumption), ?_⟩
    | refine ⟨_, ints_addr (by assumption) (by omega) (by omega), ?_⟩
    | refine ⟨_, ints_load (by assumption) (by omega) (by omega), ?_⟩
    | refine ⟨(⟨by omega, by omega⟩ : inI64 _), ?_⟩
    | refine ⟨_, fun tm ha => step1_max rfl (ev_tmp ha rfl) (ev_tmp ha rfl), ?_⟩
    | refine ⟨_, fun tm ha => step1_min rfl (ev_tmp ha rfl) (ev_tmp ha rfl), ?_⟩
    | (refine ⟨fun _ => ?_, fun _ => ?_⟩ <;> first | (exfalso; omega) | skip)
    | fail
  refine CV.loopc ?_
  refine WCv.rounds callees false (α := Nat) (fun j => [(0, VS l), (1, .int .i64 (2 * (j : Int)))]) (fun j Hz => Hz = H ∧ j ≤ i ∧ begF l i = begF l j) (fun j => j) (i) (by repeat' first | exact trivial | refine ⟨rfl, ?_⟩ | refine ⟨slot_int (by (try simp only [Int.toNat_natCast]); omega), ?_⟩) ?_ ?_
  · exact ⟨rfl, Nat.le_refl _, rfl⟩
  rintro j Hx ⟨rfl, hj, he⟩ hBx
  cases j with
  | zero =>
    have hz : begF l 0 = 0 := rfl
    repeat' first
      | refine CO.cons rfl ?_
      | refine CO.nil ?_
      | refine CV.seq ?_
      | refine CV.region callees ?_
      | refine CV.cond ?_
      | refine CV.block ?_
      | refine CV.skip ?_
      | refine CV.exit ?_
      | refine CV.ret ?_
      | refine CV.scope ?_
      | refine CV.draw callees rfl ?_
      | refine CH.cons rfl ?_
      | refine CH.nil ?_
      | refine CO.consG rfl ?_
      | refine CH.consG rfl ?_
      | refine CG.cons rfl ?_
      | refine CG.nil ?_
      | refine CG.consG rfl ?_
      | refine ⟨(rfl : plain _ = true), ?_⟩
      | refine ⟨(rfl : nilOk _ = some _), ?_⟩
      | refine ⟨_, ints_len (by assumption), ?_⟩
      | refine ⟨_, ints_addr (by assumption) (by omega) (by omega), ?_⟩
      | refine ⟨_, ints_load (by assumption) (by omega) (by omega), ?_⟩
      | refine ⟨(⟨by omega, by omega⟩ : inI64 _), ?_⟩
      | refine ⟨_, fun tm ha => step1_max rfl (ev_tmp ha rfl) (ev_tmp ha rfl), ?_⟩
      | refine ⟨_, fun tm ha => step1_min rfl (ev_tmp ha rfl) (ev_tmp ha rfl), ?_⟩
      | (refine ⟨fun _ => ?_, fun _ => ?_⟩ <;> first | (exfalso; omega) | skip)
      | fail
    rw [he, hz]
    exact ⟨rfl, rfl, rfl⟩
  | succ j =>
    have hx : l[(2 * ((j + 1 : Nat) : Int) - 1).toNat]! = l[2 * j + 1]! := by congr 1; omega
    have hs : begF l (j + 1) = if l[2 * j + 1]! = 45 then begF l j else j + 1 := rfl
    repeat' first
      | refine CO.cons rfl ?_
      | refine CO.nil ?_
      | refine CV.seq ?_
      | refine CV.region callees ?_
      | refine CV.cond ?_
      | refine CV.block ?_
      | refine CV.skip ?_
      | refine CV.exit ?_
      | refine CV.ret ?_
      | refine CV.scope ?_
      | refine CV.draw callees rfl ?_
      | refine CH.cons rfl ?_
      | refine CH.nil ?_
      | refine CO.consG rfl ?_
      | refine CH.consG rfl ?_
      | refine CG.cons rfl ?_
      | refine CG.nil ?_
      | refine CG.consG rfl ?_
      | refine ⟨(rfl : plain _ = true), ?_⟩
      | refine ⟨(rfl : nilOk _ = some _), ?_⟩
      | refine ⟨_, ints_len (by assumption), ?_⟩
      | refine ⟨_, ints_addr (by assumption) (by omega) (by omega), ?_⟩
      | refine ⟨_, ints_load (by assumption) (by omega) (by omega), ?_⟩
      | refine ⟨(⟨by omega, by omega⟩ : inI64 _), ?_⟩
      | refine ⟨_, fun tm ha => step1_max rfl (ev_tmp ha rfl) (ev_tmp ha rfl), ?_⟩
      | refine ⟨_, fun tm ha => step1_min rfl (ev_tmp ha rfl) (ev_tmp ha rfl), ?_⟩
      | refine ⟨_, str_index un9 hb (by omega) (by omega), ?_⟩
      | (refine ⟨fun _ => ?_, fun _ => ?_⟩ <;> first | (exfalso; omega) | skip)
      | fail
    · rename_i h1 h2
      rw [hx] at h2
      rw [if_pos h2] at hs
      refine ⟨(j), (by repeat' first | exact trivial | refine ⟨rfl, ?_⟩ | refine ⟨slot_int (by (try simp only [Int.toNat_natCast]); omega), ?_⟩), (by (try dsimp only); omega), ?_⟩
      exact ⟨rfl, by omega, by rw [he, hs]⟩
    · rename_i h1 h2
      rw [hx] at h2
      rw [if_neg h2] at hs
      rw [he, hs]
      exact ⟨rfl, rfl, rfl⟩
set_option maxRecDepth 100000 in
theorem labelAt_spec {B : Nat} {H : Heap} {v : Value} {ls : List (List Int)} {i w : Nat} (hB : B ≤ H.n) (hv : Row H v (ls.map VS)) (hls : ls.length ≤ 1000) (hb : ∀ l ∈ ls, Bytes l ∧ l.length = w) (hi : 2 * i < w) (hw : w ≤ 100000) :
    CallB Tryd.prog B 116 [v, .int .i64 (2 * (i : Int))] H (fun r H' => r = .int .i64 (2 * (labF i ls : Int)) ∧ H' = H) := by
  refine CV.enter callees false rfl Tryd.func116 rfl ok116 (Nat.le_of_ble_eq_true rfl) hB ?_
  repeat' first
    | refine CO.cons rfl ?_
    | refine CO.nil ?_
    | refine CV.seq ?_
    | refine CV.region callees ?_
    | refine CV.cond ?_
    | refine CV.block ?_
    | refine CV.skip ?_
    | refine CV.exit ?_
    | refine CV.ret ?_
    | refine CV.scope ?_
    | refine CV.draw callees rfl ?_
    | refine CH.cons rfl ?_
    | refine CH.nil ?_
    | refine CO.consG rfl ?_
    | refine CH.consG rfl ?_
    | refine CG.cons rfl ?_
    | refine CG.nil ?_
    | refine CG.consG rfl ?_
    | refine ⟨(rfl : plain _ = true), ?_⟩
    | refine ⟨(rfl : nilOk _ = some _), ?_⟩
    | refine ⟨_, ints_len (by assumption), ?_⟩
    | refine ⟨_, ints_addr (by assumption) (by omega) (by omega), ?_⟩
    | refine ⟨_, ints_load (by assumption) (by omega) (by omega), ?_⟩
    | refine ⟨(⟨by omega, by omega⟩ : inI64 _), ?_⟩
    | refine ⟨_, fun tm ha => step1_max rfl (ev_tmp ha rfl) (ev_tmp ha rfl), ?_⟩
    | refine ⟨_, fun tm ha => step1_min rfl (ev_tmp ha rfl) (ev_tmp ha rfl), ?_⟩
    | refine ⟨_, strs_len hv, ?_⟩
    | (refine ⟨fun _ => ?_, fun _ => ?_⟩ <;> first | (exfalso; omega) | skip)
    | fail
  refine CV.loopc ?_
  refine WCv.rounds callees false (α := Nat) (fun k => [(0, v), (1, .int .i64 (2 * (i : Int))), (7, v), (8, .int .i64 ls.length), (9, .int .i64 k)]) (fun k Hz => Hz = H ∧ k ≤ ls.length ∧ labF i ls = labF i (ls.drop k)) (fun k => ls.length - k) (0) (by repeat' first | exact trivial | refine ⟨rfl, ?_⟩ | refine ⟨slot_int (by (try simp only [Int.toNat_natCast]); omega), ?_⟩) ?_ ?_
  · exact ⟨rfl, by omega, rfl⟩
  rintro k Hx ⟨rfl, hk, he⟩ hBx
  by_cases hk2 : k < ls.length
  · obtain ⟨row, hrow⟩ : ∃ row, ls[k]! = row := ⟨_, rfl⟩
    have hmem : row ∈ ls := by rw [← hrow, getElem!_pos ls k hk2]; exact List.getElem_mem _
    obtain ⟨hbr, hlr⟩ := hb row hmem
    have hd : ls.drop k = row :: ls.drop (k + 1) := by rw [List.drop_eq_getElem_cons hk2, ← hrow, getElem!_pos ls k hk2]
    rw [hd, labF] at he
    have hld : aload Tryd.prog 9 Hx (elemAt v (k : Int).toNat) = some (VS row) := by rw [← hrow]; exact strs_load hv (by omega) (by omega)
    have hx : row[(2 * (i : Int)).toNat]! = row[2 * i]! := by congr 1
    repeat' first
      | refine CO.cons rfl ?_
      | refine CO.nil ?_
      | refine CV.seq ?_
      | refine CV.region callees ?_
      | refine CV.cond ?_
      | refine CV.block ?_
      | refine CV.skip ?_
      | refine CV.exit ?_
      | refine CV.ret ?_
      | refine CV.scope ?_
      | refine CV.draw callees rfl ?_
      | refine CH.cons rfl ?_
      | refine CH.nil ?_
      | refine CO.consG rfl ?_
      | refine CH.consG rfl ?_
      | refine CG.cons rfl ?_
      | refine CG.nil ?_
      | refine CG.consG rfl ?_
      | refine ⟨(rfl : plain _ = true), ?_⟩
      | refine ⟨(rfl : nilOk _ = some _), ?_⟩
      | refine ⟨_, ints_len (by assumption), ?_⟩
      | refine ⟨_, ints_addr (by assumption) (by omega) (by omega), ?_⟩
      | refine ⟨_, ints_load (by assumption) (by omega) (by omega), ?_⟩
      | refine ⟨(⟨by omega, by omega⟩ : inI64 _), ?_⟩
      | refine ⟨_, fun tm ha => step1_max rfl (ev_tmp ha rfl) (ev_tmp ha rfl), ?_⟩
      | refine ⟨_, fun tm ha => step1_min rfl (ev_tmp ha rfl) (ev_tmp ha rfl), ?_⟩
      | refine ⟨_, strs_addr hv (by omega) (by omega), ?_⟩
      | refine ⟨_, hld, ?_⟩
      | refine ⟨_, str_index un9 hbr (by omega) (by omega), ?_⟩
      | (refine ⟨fun _ => ?_, fun _ => ?_⟩ <;> first | (exfalso; omega) | skip)
      | fail
    · rename_i g1 g2
      rw [hx] at g2
      rw [if_pos (.inl g2)] at he
      refine (beginning_spec hBx hbr (by omega) (by omega)).mono ?_
      rintro r H' ⟨rfl, rfl⟩
      repeat' first
        | refine CO.cons rfl ?_
        | refine CO.nil ?_
        | refine CV.seq ?_
        | refine CV.region callees ?_
        | refine CV.cond ?_
        | refine CV.block ?_
        | refine CV.skip ?_
        | refine CV.exit ?_
        | refine CV.ret ?_
        | refine CV.scope ?_
        | refine CV.draw callees rfl ?_
        | refine CH.cons rfl ?_
        | refine CH.nil ?_
        | refine CO.consG rfl ?_
        | refine CH.consG rfl ?_
        | refine CG.cons rfl ?_
        | refine CG.nil ?_
        | refine CG.consG rfl ?_
        | refine ⟨(rfl : plain _ = true), ?_⟩
        | refine ⟨(rfl : nilOk _ = some _), ?_⟩
        | refine ⟨_, ints_len (by assumption), ?_⟩
        | refine ⟨_, ints_addr (by assumption) (by omega) (by omega), ?_⟩
        | refine ⟨_, ints_load (by assumption) (by omega) (by omega), ?_⟩
        | refine ⟨(⟨by omega, by omega⟩ : inI64 _), ?_⟩
        | refine ⟨_, fun tm ha => step1_max rfl (ev_tmp ha rfl) (ev_tmp ha rfl), ?_⟩
        | refine ⟨_, fun tm ha => step1_min rfl (ev_tmp ha rfl) (ev_tmp ha rfl), ?_⟩
        | (refine ⟨fun _ => ?_, fun _ => ?_⟩ <;> first | (exfalso; omega) | skip)
        | fail
      rw [he]; exact ⟨rfl, rfl, rfl⟩
    · rename_i g1 g2 g3
      rw [hx] at g3
      rw [if_pos (.inr g3)] at he
      refine (beginning_spec hBx hbr (by omega) (by omega)).mono ?_
      rintro r H' ⟨rfl, rfl⟩
      repeat' first
        | refine CO.cons rfl ?_
        | refine CO.nil ?_
        | refine CV.seq ?_
        | refine CV.region callees ?_
        | refine CV.cond ?_
        | refine CV.block ?_
        | refine CV.skip ?_
        | refine CV.exit ?_
        | refine CV.ret ?_
        | refine CV.scope ?_
        | refine CV.draw callees rfl ?_
        | refine CH.cons rfl ?_
        | refine CH.nil ?_
        | refine CO.consG rfl ?_
        | refine CH.consG rfl ?_
        | refine CG.cons rfl ?_
        | refine CG.nil ?_
        | refine CG.consG rfl ?_
        | refine ⟨(rfl : plain _ = true), ?_⟩
        | refine ⟨(rfl : nilOk _ = some _), ?_⟩
        | refine ⟨_, ints_len (by assumption), ?_⟩
        | refine ⟨_, ints_addr (by assumption) (by omega) (by omega), ?_⟩
        | refine ⟨_, ints_load (by assumption) (by omega) (by omega), ?_⟩
        | refine ⟨(⟨by omega, by omega⟩ : inI64 _), ?_⟩
        | refine ⟨_, fun tm ha => step1_max rfl (ev_tmp ha rfl) (ev_tmp ha rfl), ?_⟩
        | refine ⟨_, fun tm ha => step1_min rfl (ev_tmp ha rfl) (ev_tmp ha rfl), ?_⟩
        | (refine ⟨fun _ => ?_, fun _ => ?_⟩ <;> first | (exfalso; omega) | skip)
        | fail
      rw [he]; exact ⟨rfl, rfl, rfl⟩
    · rename_i g1 g2 g3
      rw [hx] at g2 g3
      rw [if_neg (fun h => h.elim g2 g3)] at he
      refine ⟨(k + 1), (by repeat' first | exact trivial | refine ⟨rfl, ?_⟩ | refine ⟨slot_int (by (try simp only [Int.toNat_natCast]); omega), ?_⟩), (by (try dsimp only); omega), ?_⟩
      exact ⟨rfl, by omega, he⟩
  · have : k = ls.length := by omega
    subst this
    rw [List.drop_length, labF] at he
    repeat' first
      | refine CO.cons rfl ?_
      | refine CO.nil ?_
      | refine CV.seq ?_
      | refine CV.region callees ?_
      | refine CV.cond ?_
      | refine CV.block ?_
      | refine CV.skip ?_
      | refine CV.exit ?_
      | refine CV.ret ?_
      | refine CV.scope ?_
      | refine CV.draw callees rfl ?_
      | refine CH.cons rfl ?_
      | refine CH.nil ?_
      | refine CO.consG rfl ?_
      | refine CH.consG rfl ?_
      | refine CG.cons rfl ?_
      | refine CG.nil ?_
      | refine CG.consG rfl ?_
      | refine ⟨(rfl : plain _ = true), ?_⟩
      | refine ⟨(rfl : nilOk _ = some _), ?_⟩
      | refine ⟨_, ints_len (by assumption), ?_⟩
      | refine ⟨_, ints_addr (by assumption) (by omega) (by omega), ?_⟩
      | refine ⟨_, ints_load (by assumption) (by omega) (by omega), ?_⟩
      | refine ⟨(⟨by omega, by omega⟩ : inI64 _), ?_⟩
      | refine ⟨_, fun tm ha => step1_max rfl (ev_tmp ha rfl) (ev_tmp ha rfl), ?_⟩
      | refine ⟨_, fun tm ha => step1_min rfl (ev_tmp ha rfl) (ev_tmp ha rfl), ?_⟩
      | (refine ⟨fun _ => ?_, fun _ => ?_⟩ <;> first | (exfalso; omega) | skip)
      | fail
    rw [he]
    exact ⟨rfl, rfl, rfl⟩
set_option maxHeartbeats 1000000 in
set_option maxRecDepth 100000 in
theorem labelsOf_spec {B : Nat} {H : Heap} {v : Value} {ls : List (List Int)} (hB : B ≤ H.n) (hv : Row H v (ls.map VS)) (hl0 : 0 < ls.length) (hls : ls.length ≤ 1000) (hb : ∀ l ∈ ls, Bytes l ∧ l.length ≤ 100000) :
    CallB Tryd.prog B 100 [v] H (fun r H' => (∃ ys, Own 3 H' r (ys.map VI) H.n ∧ ∀ w, (∀ l ∈ ls, l.length = w) → ys = labsF ((w + 1) / 2) ls) ∧ Keep H H') := by
  obtain ⟨row0, hrow0⟩ : ∃ row, ls[0]! = row := ⟨_, rfl⟩
  have hmem0 : row0 ∈ ls := by rw [← hrow0, getElem!_pos ls 0 hl0]; exact List.getElem_mem _
  have hb0 := hb row0 hmem0
  have hld0 : aload Tryd.prog 9 H (elemAt v (0 : Int).toNat) = some (VS row0) := by rw [← hrow0]; exact strs_load hv (by omega) (by omega)
  obtain ⟨w, hw⟩ : ∃ w, row0.length = w := ⟨_, rfl⟩
  refine CV.enter callees false rfl Tryd.func100 rfl ok100 (Nat.le_of_ble_eq_true rfl) hB ?_
  repeat' first
    | refine CO.cons rfl ?_
    | refine CO.nil ?_
    | refine CV.seq ?_
    | refine CV.region callees ?_
    | refine CV.cond ?_
    | refine CV.block ?_
    | refine CV.skip ?_
    | refine CV.exit ?_
    | refine CV.ret ?_
    | refine CV.scope ?_
    | refine CV.draw callees rfl ?_
    | refine CH.cons rfl ?_
    | refine CH.nil ?_
    | refine CO.consG rfl ?_
    | refine CH.consG rfl ?_
    | refine CG.cons rfl ?_
    | refine CG.nil ?_
    | refine CG.consG rfl ?_
    | refine ⟨(rfl : plain _ = true), ?_⟩
    | refine ⟨(rfl : nilOk _ = some _), ?_⟩
    | refine ⟨_, ints_len (by assumption), ?_⟩
    | refine ⟨_, ints_addr (by assumption) (by omega) (by omega), ?_⟩
    | refine ⟨_, ints_load (by assumption) (by omega) (by omega), ?_⟩
    | refine ⟨(⟨by omega, by omega⟩ : inI64 _), ?_⟩
    | refine ⟨_, fun tm ha => step1_max rfl (ev_tmp ha rfl) (ev_tmp ha rfl), ?_⟩
    | refine ⟨_, fun tm ha => step1_min rfl (ev_tmp ha rfl) (ev_tmp ha rfl), ?_⟩
    | refine ⟨_, strs_addr hv (by omega) (by omega), ?_⟩
    | refine ⟨_, hld0, ?_⟩
    | refine ⟨_, str_len un9, ?_⟩
    | refine ⟨_, strs_len hv, ?_⟩
    | (refine ⟨fun _ => ?_, fun _ => ?_⟩ <;> first | (exfalso; omega) | skip)
    | fail
  rw [hw]
  refine CV.loopc ?_
  refine WCv.rounds callees false (α := Nat) (fun k => [(0, v), (2, .slice none 0 0), (3, .int .i64 w), (12, v), (13, .int .i64 ls.length), (14, .int .i64 k)]) (fun k Hz => Hz = H ∧ k ≤ ls.length ∧ ∀ q, q < k → ls[q]!.length = w) (fun k => ls.length - k) (0) (by repeat' first | exact trivial | refine ⟨rfl, ?_⟩ | refine ⟨slot_int (by (try simp only [Int.toNat_natCast]); omega), ?_⟩) ?_ ?_
  · exact ⟨rfl, by omega, fun q hq => absurd hq (Nat.not_lt_zero q)⟩
  rintro k Hx ⟨rfl, hk, he⟩ hBx
  by_cases hk2 : k < ls.length
  · obtain ⟨row, hrow⟩ : ∃ row, ls[k]! = row := ⟨_, rfl⟩
    have hmem : row ∈ ls := by rw [← hrow, getElem!_pos ls k hk2]; exact List.getElem_mem _
    have hld : aload Tryd.prog 9 Hx (elemAt v (k : Int).toNat) = some (VS row) := by rw [← hrow]; exact strs_load hv (by omega) (by omega)
    repeat' first
      | refine CO.cons rfl ?_
      | refine CO.nil ?_
      | refine CV.seq ?_
      | refine CV.region callees ?_
      | refine CV.cond ?_
      | refine CV.block ?_
      | refine CV.skip ?_
      | refine CV.exit ?_
      | refine CV.ret ?_
      | refine CV.scope ?_
      | refine CV.draw callees rfl ?_
      | refine CH.cons rfl ?_
      | refine CH.nil ?_
      | refine CO.consG rfl ?_
      | refine CH.consG rfl ?_
      | refine CG.cons rfl ?_
      | refine CG.nil ?_
      | refine CG.consG rfl ?_
      | refine ⟨(rfl : plain _ = true), ?_⟩
      | refine ⟨(rfl : nilOk _ = some _), ?_⟩
      | refine ⟨_, ints_len (by assumption), ?_⟩
      | refine ⟨_, ints_addr (by assumption) (by omega) (by omega), ?_⟩
      | refine ⟨_, ints_load (by assumption) (by omega) (by omega), ?_⟩
      | refine ⟨(⟨by omega, by omega⟩ : inI64 _), ?_⟩
      | refine ⟨_, fun tm ha => step1_max rfl (ev_tmp ha rfl) (ev_tmp ha rfl), ?_⟩
      | refine ⟨_, fun tm ha => step1_min rfl (ev_tmp ha rfl) (ev_tmp ha rfl), ?_⟩
      | refine ⟨_, strs_addr hv (by omega) (by omega), ?_⟩
      | refine ⟨_, hld, ?_⟩
      | refine ⟨_, str_len un9, ?_⟩
      | (refine ⟨fun _ => ?_, fun _ => ?_⟩ <;> first | (exfalso; omega) | skip)
      | fail
    · refine ⟨rfl, ⟨[], .inl ⟨rfl, rfl⟩, fun w' hw' => ?_⟩, Keep.refl _⟩
      have e1 := hw' row hmem
      have e2 := hw' row0 hmem0
      omega
    · refine ⟨(k + 1), (by repeat' first | exact trivial | refine ⟨rfl, ?_⟩ | refine ⟨slot_int (by (try simp only [Int.toNat_natCast]); omega), ?_⟩), (by (try dsimp only); omega), ?_⟩
      refine ⟨rfl, by omega, fun q hq => ?_⟩
      by_cases hqk : q < k
      · exact he q hqk
      · have : q = k := by omega
        subst this; rw [hrow]; omega
  · have hall : ∀ l ∈ ls, Bytes l ∧ l.length = w := by
      intro l hl
      obtain ⟨q, hq, rfl⟩ := List.getElem_of_mem hl
      refine ⟨(hb _ hl).1, ?_⟩
      rw [← getElem!_pos ls q hq]; exact he q (by omega)
    repeat' first
      | refine CO.cons rfl ?_
      | refine CO.nil ?_
      | refine CV.seq ?_
      | refine CV.region callees ?_
      | refine CV.cond ?_
      | refine CV.block ?_
      | refine CV.skip ?_
      | refine CV.exit ?_
      | refine CV.ret ?_
      | refine CV.scope ?_
      | refine CV.draw callees rfl ?_
      | refine CH.cons rfl ?_
      | refine CH.nil ?_
      | refine CO.consG rfl ?_
      | refine CH.consG rfl ?_
      | refine CG.cons rfl ?_
      | refine CG.nil ?_
      | refine CG.consG rfl ?_
      | refine ⟨(rfl : plain _ = true), ?_⟩
      | refine ⟨(rfl : nilOk _ = some _), ?_⟩
      | refine ⟨_, ints_len (by assumption), ?_⟩
      | refine ⟨_, ints_addr (by assumption) (by omega) (by omega), ?_⟩
      | refine ⟨_, ints_load (by assumption) (by omega) (by omega), ?_⟩
      | refine ⟨(⟨by omega, by omega⟩ : inI64 _), ?_⟩
      | refine ⟨_, fun tm ha => step1_max rfl (ev_tmp ha rfl) (ev_tmp ha rfl), ?_⟩
      | refine ⟨_, fun tm ha => step1_min rfl (ev_tmp ha rfl) (ev_tmp ha rfl), ?_⟩
      | (refine ⟨fun _ => ?_, fun _ => ?_⟩ <;> first | (exfalso; omega) | skip)
      | fail
    refine CV.loopc ?_
    refine WCv.rounds callees false (α := Nat × Value) (fun (i, o) => [(0, v), (3, .int .i64 w), (6, o), (7, .int .i64 (2 * (i : Int)))]) (fun (i, o) Hz => 2 * i ≤ w + 1 ∧ Own 3 Hz o ((labsF i ls).map VI) Hx.n ∧ Keep Hx Hz) (fun (i, o) => w + 1 - 2 * i) (0, .slice none 0 0) (by repeat' first | exact trivial | refine ⟨rfl, ?_⟩ | refine ⟨slot_int (by (try simp only [Int.toNat_natCast]); omega), ?_⟩) ?_ ?_
    · exact ⟨by omega, .inl ⟨rfl, rfl⟩, Keep.refl _⟩
    rintro ⟨i, o⟩ Hy ⟨hi, ho, hky⟩ hBy
    by_cases hiw : 2 * i < w
    · have hll : (labsF i ls).length = i := by simp [labsF]
      repeat' first
        | refine CO.cons rfl ?_
        | refine CO.nil ?_
        | refine CV.seq ?_
        | refine CV.region callees ?_
        | refine CV.cond ?_
        | refine CV.block ?_
        | refine CV.skip ?_
        | refine CV.exit ?_
        | refine CV.ret ?_
        | refine CV.scope ?_
        | refine CV.draw callees rfl ?_
        | refine CH.cons rfl ?_
        | refine CH.nil ?_
        | refine CO.consG rfl ?_
        | refine CH.consG rfl ?_
        | refine CG.cons rfl ?_
        | refine CG.nil ?_
        | refine CG.consG rfl ?_
        | refine ⟨(rfl : plain _ = true), ?_⟩
        | refine ⟨(rfl : nilOk _ = some _), ?_⟩
        | refine ⟨_, ints_len (by assumption), ?_⟩
        | refine ⟨_, ints_addr (by assumption) (by omega) (by omega), ?_⟩
        | refine ⟨_, ints_load (by assumption) (by omega) (by omega), ?_⟩
        | refine ⟨(⟨by omega, by omega⟩ : inI64 _), ?_⟩
        | refine ⟨_, fun tm ha => step1_max rfl (ev_tmp ha rfl) (ev_tmp ha rfl), ?_⟩
        | refine ⟨_, fun tm ha => step1_min rfl (ev_tmp ha rfl) (ev_tmp ha rfl), ?_⟩
        | (refine ⟨fun _ => ?_, fun _ => ?_⟩ <;> first | (exfalso; omega) | skip)
        | fail
      refine (labelAt_spec hBy (Row.keep hv hky) hls hall hiw (by omega)).mono ?_
      rintro r H' ⟨rfl, rfl⟩
      repeat' first
        | refine CO.cons rfl ?_
        | refine CO.nil ?_
        | refine CV.seq ?_
        | refine CV.region callees ?_
        | refine CV.cond ?_
        | refine CV.block ?_
        | refine CV.skip ?_
        | refine CV.exit ?_
        | refine CV.ret ?_
        | refine CV.scope ?_
        | refine CV.draw callees rfl ?_
        | refine CH.cons rfl ?_
        | refine CH.nil ?_
        | refine CO.consG rfl ?_
        | refine CH.consG rfl ?_
        | refine CG.cons rfl ?_
        | refine CG.nil ?_
        | refine CG.consG rfl ?_
        | refine ⟨(rfl : plain _ = true), ?_⟩
        | refine ⟨(rfl : nilOk _ = some _), ?_⟩
        | refine ⟨_, ints_len (by assumption), ?_⟩
        | refine ⟨_, ints_addr (by assumption) (by omega) (by omega), ?_⟩
        | refine ⟨_, ints_load (by assumption) (by omega) (by omega), ?_⟩
        | refine ⟨(⟨by omega, by omega⟩ : inI64 _), ?_⟩
        | refine ⟨_, fun tm ha => step1_max rfl (ev_tmp ha rfl) (ev_tmp ha rfl), ?_⟩
        | refine ⟨_, fun tm ha => step1_min rfl (ev_tmp ha rfl) (ev_tmp ha rfl), ?_⟩
        | refine ⟨_, _, build_one un22 one3 rfl, ?_⟩
        | (refine ⟨fun _ => ?_, fun _ => ?_⟩ <;> first | (exfalso; omega) | skip)
        | fail
      refine push_ask ho hky.1 hB (by omega) ?_
      intro o2 H2 ho2 kb2 hf2
      have k2 := kb2.keep hky fun c hc => (ho.lt hc).1
      have hs : labsF i ls ++ [2 * (labF i ls : Int)] = labsF (i + 1) ls := by simp [labsF, List.range_succ]
      rw [hs] at ho2
      repeat' first
        | refine CO.cons rfl ?_
        | refine CO.nil ?_
        | refine CV.seq ?_
        | refine CV.region callees ?_
        | refine CV.cond ?_
        | refine CV.block ?_
        | refine CV.skip ?_
        | refine CV.exit ?_
        | refine CV.ret ?_
        | refine CV.scope ?_
        | refine CV.draw callees rfl ?_
        | refine CH.cons rfl ?_
        | refine CH.nil ?_
        | refine CO.consG rfl ?_
        | refine CH.consG rfl ?_
        | refine CG.cons rfl ?_
        | refine CG.nil ?_
        | refine CG.consG rfl ?_
        | refine ⟨(rfl : plain _ = true), ?_⟩
        | refine ⟨(rfl : nilOk _ = some _), ?_⟩
        | refine ⟨_, ints_len (by assumption), ?_⟩
        | refine ⟨_, ints_addr (by assumption) (by omega) (by omega), ?_⟩
        | refine ⟨_, ints_load (by assumption) (by omega) (by omega), ?_⟩
        | refine ⟨(⟨by omega, by omega⟩ : inI64 _), ?_⟩
        | refine ⟨_, fun tm ha => step1_max rfl (ev_tmp ha rfl) (ev_tmp ha rfl), ?_⟩
        | refine ⟨_, fun tm ha => step1_min rfl (ev_tmp ha rfl) (ev_tmp ha rfl), ?_⟩
        | (refine ⟨fun _ => ?_, fun _ => ?_⟩ <;> first | (exfalso; omega) | skip)
        | fail
      refine ⟨(i + 1, o2), (by repeat' first | exact trivial | refine ⟨rfl, ?_⟩ | refine ⟨slot_int (by (try simp only [Int.toNat_natCast]); omega), ?_⟩), (by (try dsimp only); omega), ?_⟩
      exact ⟨by omega, ho2, k2⟩
    · have hi2 : i = (w + 1) / 2 := by omega
      repeat' first
        | refine CO.cons rfl ?_
        | refine CO.nil ?_
        | refine CV.seq ?_
        | refine CV.region callees ?_
        | refine CV.cond ?_
        | refine CV.block ?_
        | refine CV.skip ?_
        | refine CV.exit ?_
        | refine CV.ret ?_
        | refine CV.scope ?_
        | refine CV.draw callees rfl ?_
        | refine CH.cons rfl ?_
        | refine CH.nil ?_
        | refine CO.consG rfl ?_
        | refine CH.consG rfl ?_
        | refine CG.cons rfl ?_
        | refine CG.nil ?_
        | refine CG.consG rfl ?_
        | refine ⟨(rfl : plain _ = true), ?_⟩
        | refine ⟨(rfl : nilOk _ = some _), ?_⟩
        | refine ⟨_, ints_len (by assumption), ?_⟩
        | refine ⟨_, ints_addr (by assumption) (by omega) (by omega), ?_⟩
        | refine ⟨_, ints_load (by assumption) (by omega) (by omega), ?_⟩
        | refine ⟨(⟨by omega, by omega⟩ : inI64 _), ?_⟩
        | refine ⟨_, fun tm ha => step1_max rfl (ev_tmp ha rfl) (ev_tmp ha rfl), ?_⟩
        | refine ⟨_, fun tm ha => step1_min rfl (ev_tmp ha rfl) (ev_tmp ha rfl), ?_⟩
        | (refine ⟨fun _ => ?_, fun _ => ?_⟩ <;> first | (exfalso; omega) | skip)
        | fail
      refine ⟨by simp only [List.all_cons, List.all_nil, ho.notTuple]; rfl, ⟨_, ho, fun w' hw' => ?_⟩, hky⟩
      have e : w' = w := by rw [← hw' row0 hmem0, hw]
      rw [e, ← hi2]
/-- What Read answers. -/
def ReadR (H : Heap) (l : List Int) (r : Value) (H' : Heap) : Prop :=
  if 400 < l.length then r = .tuple #[.slice none 0 0, .int .i64 5] else
    (∃ xs u, check xs = 0 ∧ drw xs = l ∧ r = .tuple #[u, .int .i64 0] ∧ Own 3 H' u (xs.map VI) H.n) ∨ ((∀ xs, check xs = 0 → drw xs ≠ l) ∧ r = .tuple #[.slice none 0 0, .int .i64 3])
theorem rowsF_bytes : ∀ (l cur : List Int), Bytes l → Bytes cur → ∀ r ∈ rowsF l cur, Bytes r ∧ r.length ≤ l.length + cur.length
  | [], _, _, _ => by simp [rowsF]
  | b :: l, cur, hb, hc => by
    have hbl : Bytes l := fun x hx => hb x (List.mem_cons_of_mem _ hx)
    intro r hr
    rw [rowsF] at hr
    split at hr
    · rcases List.mem_cons.1 hr with rfl | hr
      · exact ⟨hc, by simp⟩
      · have := rowsF_bytes l [] hbl bNil r hr
        exact ⟨this.1, by have := this.2; simp at this ⊢; omega⟩
    · have := rowsF_bytes l (cur ++ [b]) hbl (hc.append (fun x hx => by simp at hx; subst hx; exact hb _ (List.mem_cons_self ..))) r hr
      exact ⟨this.1, by have := this.2; simp at this ⊢; omega⟩
set_option maxHeartbeats 1000000 in
set_option maxRecDepth 100000 in
theorem read_spec {B : Nat} {H : Heap} {l : List Int} (hB : B ≤ H.n) (hBase : Base H) (hb : Bytes l) :
    CallB Tryd.prog B 54 [VS l] H (fun r H' => ReadR H l r H' ∧ Keep H H') := by
  refine CV.enter callees false rfl Tryd.func54 rfl ok54 (Nat.le_of_ble_eq_true rfl) hB ?_
  repeat' first
    | refine CO.cons rfl ?_
    | refine CO.nil ?_
    | refine CV.seq ?_
    | refine CV.region callees ?_
    | refine CV.cond ?_
    | refine CV.block ?_
    | refine CV.skip ?_
    | refine CV.exit ?_
    | refine CV.ret ?_
    | refine CV.scope ?_
    | refine CV.draw callees rfl ?_
    | refine CH.cons rfl ?_
    | refine CH.nil ?_
    | refine CO.consG rfl ?_
    | refine CH.consG rfl ?_
    | refine CG.cons rfl ?_
    | refine CG.nil ?_
    | refine CG.consG rfl ?_
    | refine ⟨(rfl : plain _ = true), ?_⟩
    | refine ⟨(rfl : nilOk _ = some _), ?_⟩
    | refine ⟨_, ints_len (by assumption), ?_⟩
    | refine ⟨_, ints_addr (by assumption) (by omega) (by omega), ?_⟩
    | refine ⟨_, ints_load (by assumption) (by omega) (by omega), ?_⟩
    | refine ⟨(⟨by omega, by omega⟩ : inI64 _), ?_⟩
    | refine ⟨_, fun tm ha => step1_max rfl (ev_tmp ha rfl) (ev_tmp ha rfl), ?_⟩
    | refine ⟨_, fun tm ha => step1_min rfl (ev_tmp ha rfl) (ev_tmp ha rfl), ?_⟩
    | refine ⟨_, str_len un9, ?_⟩
    | (refine ⟨fun _ => ?_, fun _ => ?_⟩ <;> first | (exfalso; omega) | skip)
    | fail
  · refine ⟨rfl, ?_, Keep.refl _⟩
    rw [ReadR, if_pos (by omega)]
  refine (trimSuffix_spec hB hb (by omega)).mono ?_
  rintro r H1 ⟨⟨t, rfl, hbt, htl, ht⟩, rfl⟩
  repeat' first
    | refine CO.cons rfl ?_
    | refine CO.nil ?_
    | refine CV.seq ?_
    | refine CV.region callees ?_
    | refine CV.cond ?_
    | refine CV.block ?_
    | refine CV.skip ?_
    | refine CV.exit ?_
    | refine CV.ret ?_
    | refine CV.scope ?_
    | refine CV.draw callees rfl ?_
    | refine CH.cons rfl ?_
    | refine CH.nil ?_
    | refine CO.consG rfl ?_
    | refine CH.consG rfl ?_
    | refine CG.cons rfl ?_
    | refine CG.nil ?_
    | refine CG.consG rfl ?_
    | refine ⟨(rfl : plain _ = true), ?_⟩
    | refine ⟨(rfl : nilOk _ = some _), ?_⟩
    | refine ⟨_, ints_len (by assumption), ?_⟩
    | refine ⟨_, ints_addr (by assumption) (by omega) (by omega), ?_⟩
    | refine ⟨_, ints_load (by assumption) (by omega) (by omega), ?_⟩
    | refine ⟨(⟨by omega, by omega⟩ : inI64 _), ?_⟩
    | refine ⟨_, fun tm ha => step1_max rfl (ev_tmp ha rfl) (ev_tmp ha rfl), ?_⟩
    | refine ⟨_, fun tm ha => step1_min rfl (ev_tmp ha rfl) (ev_tmp ha rfl), ?_⟩
    | (refine ⟨fun _ => ?_, fun _ => ?_⟩ <;> first | (exfalso; omega) | skip)
    | fail
  refine (split_spec hB hbt (by omega)).mono ?_
  rintro q H2 ⟨hq, k2⟩
  have hsl := segs_len t
  have hcl := count_le t
  have hB2 : B ≤ H2.n := Nat.le_trans hB k2.1
  repeat' first
    | refine CO.cons rfl ?_
    | refine CO.nil ?_
    | refine CV.seq ?_
    | refine CV.region callees ?_
    | refine CV.cond ?_
    | refine CV.block ?_
    | refine CV.skip ?_
    | refine CV.exit ?_
    | refine CV.ret ?_
    | refine CV.scope ?_
    | refine CV.draw callees rfl ?_
    | refine CH.cons rfl ?_
    | refine CH.nil ?_
    | refine CO.consG rfl ?_
    | refine CH.consG rfl ?_
    | refine CG.cons rfl ?_
    | refine CG.nil ?_
    | refine CG.consG rfl ?_
    | refine ⟨(rfl : plain _ = true), ?_⟩
    | refine ⟨(rfl : nilOk _ = some _), ?_⟩
    | refine ⟨_, ints_len (by assumption), ?_⟩
    | refine ⟨_, ints_addr (by assumption) (by omega) (by omega), ?_⟩
    | refine ⟨_, ints_load (by assumption) (by omega) (by omega), ?_⟩
    | refine ⟨(⟨by omega, by omega⟩ : inI64 _), ?_⟩
    | refine ⟨_, fun tm ha => step1_max rfl (ev_tmp ha rfl) (ev_tmp ha rfl), ?_⟩
    | refine ⟨_, fun tm ha => step1_min rfl (ev_tmp ha rfl) (ev_tmp ha rfl), ?_⟩
    | (refine ⟨fun _ => ?_, fun _ => ?_⟩ <;> first | (exfalso; omega) | skip)
    | fail
  refine (labelsOf_spec hB2 hq (by omega) (by omega) fun r hr => ?_).mono ?_
  · have := rowsF_bytes (t ++ [10]) [] (hbt.append b10) bNil r hr
    exact ⟨this.1, by have := this.2; simp at this; omega⟩
  rintro o H3 ⟨⟨ys, hys, hlab⟩, k3⟩
  have hB3 : B ≤ H3.n := Nat.le_trans hB2 k3.1
  repeat' first
    | refine CO.cons rfl ?_
    | refine CO.nil ?_
    | refine CV.seq ?_
    | refine CV.region callees ?_
    | refine CV.cond ?_
    | refine CV.block ?_
    | refine CV.skip ?_
    | refine CV.exit ?_
    | refine CV.ret ?_
    | refine CV.scope ?_
    | refine CV.draw callees rfl ?_
    | refine CH.cons rfl ?_
    | refine CH.nil ?_
    | refine CO.consG rfl ?_
    | refine CH.consG rfl ?_
    | refine CG.cons rfl ?_
    | refine CG.nil ?_
    | refine CG.consG rfl ?_
    | refine ⟨(rfl : plain _ = true), ?_⟩
    | refine ⟨(rfl : nilOk _ = some _), ?_⟩
    | refine ⟨_, ints_len (by assumption), ?_⟩
    | refine ⟨_, ints_addr (by assumption) (by omega) (by omega), ?_⟩
    | refine ⟨_, ints_load (by assumption) (by omega) (by omega), ?_⟩
    | refine ⟨(⟨by omega, by omega⟩ : inI64 _), ?_⟩
    | refine ⟨_, fun tm ha => step1_max rfl (ev_tmp ha rfl) (ev_tmp ha rfl), ?_⟩
    | refine ⟨_, fun tm ha => step1_min rfl (ev_tmp ha rfl) (ev_tmp ha rfl), ?_⟩
    | (refine ⟨fun _ => ?_, fun _ => ?_⟩ <;> first | (exfalso; omega) | skip)
    | fail
  refine (of_spec hB3 hys.row).mono ?_
  rintro r H4 ⟨hof, k4⟩
  have kk := (k2.trans k3).trans k4
  have hB4 : B ≤ H4.n := Nat.le_trans hB3 k4.1
  unfold OfR at hof
  split at hof
  · rename_i h0
    subst hof
    repeat' first
      | refine CO.cons rfl ?_
      | refine CO.nil ?_
      | refine CV.seq ?_
      | refine CV.region callees ?_
      | refine CV.cond ?_
      | refine CV.block ?_
      | refine CV.skip ?_
      | refine CV.exit ?_
      | refine CV.ret ?_
      | refine CV.scope ?_
      | refine CV.draw callees rfl ?_
      | refine CH.cons rfl ?_
      | refine CH.nil ?_
      | refine CO.consG rfl ?_
      | refine CH.consG rfl ?_
      | refine CG.cons rfl ?_
      | refine CG.nil ?_
      | refine CG.consG rfl ?_
      | refine ⟨(rfl : plain _ = true), ?_⟩
      | refine ⟨(rfl : nilOk _ = some _), ?_⟩
      | refine ⟨_, ints_len (by assumption), ?_⟩
      | refine ⟨_, ints_addr (by assumption) (by omega) (by omega), ?_⟩
      | refine ⟨_, ints_load (by assumption) (by omega) (by omega), ?_⟩
      | refine ⟨(⟨by omega, by omega⟩ : inI64 _), ?_⟩
      | refine ⟨_, fun tm ha => step1_max rfl (ev_tmp ha rfl) (ev_tmp ha rfl), ?_⟩
      | refine ⟨_, fun tm ha => step1_min rfl (ev_tmp ha rfl) (ev_tmp ha rfl), ?_⟩
      | (refine ⟨fun _ => ?_, fun _ => ?_⟩ <;> first | (exfalso; omega) | skip)
      | fail
    refine ⟨rfl, ?_, kk⟩
    rw [ReadR, if_neg (by omega)]
    refine .inr ⟨fun xs hc h => ?_, rfl⟩
    have := (read_back hc h ht hlab).2
    have := check_len hc
    omega
  split at hof
  · rename_i h0 h9
    subst hof
    repeat' first
      | refine CO.cons rfl ?_
      | refine CO.nil ?_
      | refine CV.seq ?_
      | refine CV.region callees ?_
      | refine CV.cond ?_
      | refine CV.block ?_
      | refine CV.skip ?_
      | refine CV.exit ?_
      | refine CV.ret ?_
      | refine CV.scope ?_
      | refine CV.draw callees rfl ?_
      | refine CH.cons rfl ?_
      | refine CH.nil ?_
      | refine CO.consG rfl ?_
      | refine CH.consG rfl ?_
      | refine CG.cons rfl ?_
      | refine CG.nil ?_
      | refine CG.consG rfl ?_
      | refine ⟨(rfl : plain _ = true), ?_⟩
      | refine ⟨(rfl : nilOk _ = some _), ?_⟩
      | refine ⟨_, ints_len (by assumption), ?_⟩
      | refine ⟨_, ints_addr (by assumption) (by omega) (by omega), ?_⟩
      | refine ⟨_, ints_load (by assumption) (by omega) (by omega), ?_⟩
      | refine ⟨(⟨by omega, by omega⟩ : inI64 _), ?_⟩
      | refine ⟨_, fun tm ha => step1_max rfl (ev_tmp ha rfl) (ev_tmp ha rfl), ?_⟩
      | refine ⟨_, fun tm ha => step1_min rfl (ev_tmp ha rfl) (ev_tmp ha rfl), ?_⟩
      | (refine ⟨fun _ => ?_, fun _ => ?_⟩ <;> first | (exfalso; omega) | skip)
      | fail
    refine ⟨rfl, ?_, kk⟩
    rw [ReadR, if_neg (by omega)]
    refine .inr ⟨fun xs hc h => ?_, rfl⟩
    have := (read_back hc h ht hlab).2
    have := check_len hc
    omega
  rename_i h0 h9
  obtain ⟨u, rfl, hu⟩ := hof
  have hcu := check_of h0 h9
  repeat' first
    | refine CO.cons rfl ?_
    | refine CO.nil ?_
    | refine CV.seq ?_
    | refine CV.region callees ?_
    | refine CV.cond ?_
    | refine CV.block ?_
    | refine CV.skip ?_
    | refine CV.exit ?_
    | refine CV.ret ?_
    | refine CV.scope ?_
    | refine CV.draw callees rfl ?_
    | refine CH.cons rfl ?_
    | refine CH.nil ?_
    | refine CO.consG rfl ?_
    | refine CH.consG rfl ?_
    | refine CG.cons rfl ?_
    | refine CG.nil ?_
    | refine CG.consG rfl ?_
    | refine ⟨(rfl : plain _ = true), ?_⟩
    | refine ⟨(rfl : nilOk _ = some _), ?_⟩
    | refine ⟨_, ints_len (by assumption), ?_⟩
    | refine ⟨_, ints_addr (by assumption) (by omega) (by omega), ?_⟩
    | refine ⟨_, ints_load (by assumption) (by omega) (by omega), ?_⟩
    | refine ⟨(⟨by omega, by omega⟩ : inI64 _), ?_⟩
    | refine ⟨_, fun tm ha => step1_max rfl (ev_tmp ha rfl) (ev_tmp ha rfl), ?_⟩
    | refine ⟨_, fun tm ha => step1_min rfl (ev_tmp ha rfl) (ev_tmp ha rfl), ?_⟩
    | (refine ⟨fun _ => ?_, fun _ => ?_⟩ <;> first | (exfalso; omega) | skip)
    | fail
  refine (drawing_spec hB4 (hBase.keep kk) hu.row hcu).mono ?_
  rintro r H5 ⟨rfl, k5⟩
  by_cases he : drw (num ys []) = l
  · repeat' first
      | refine CO.cons rfl ?_
      | refine CO.nil ?_
      | refine CV.seq ?_
      | refine CV.region callees ?_
      | refine CV.cond ?_
      | refine CV.block ?_
      | refine CV.skip ?_
      | refine CV.exit ?_
      | refine CV.ret ?_
      | refine CV.scope ?_
      | refine CV.draw callees rfl ?_
      | refine CH.cons rfl ?_
      | refine CH.nil ?_
      | refine CO.consG rfl ?_
      | refine CH.consG rfl ?_
      | refine CG.cons rfl ?_
      | refine CG.nil ?_
      | refine CG.consG rfl ?_
      | refine ⟨(rfl : plain _ = true), ?_⟩
      | refine ⟨(rfl : nilOk _ = some _), ?_⟩
      | refine ⟨_, ints_len (by assumption), ?_⟩
      | refine ⟨_, ints_addr (by assumption) (by omega) (by omega), ?_⟩
      | refine ⟨_, ints_load (by assumption) (by omega) (by omega), ?_⟩
      | refine ⟨(⟨by omega, by omega⟩ : inI64 _), ?_⟩
      | refine ⟨_, fun tm ha => step1_max rfl (ev_tmp ha rfl) (ev_tmp ha rfl), ?_⟩
      | refine ⟨_, fun tm ha => step1_min rfl (ev_tmp ha rfl) (ev_tmp ha rfl), ?_⟩
      | refine ⟨_, fun tm ha => neS_f rfl (ev_tmp ha rfl) (ev_tmp ha rfl) he, ?_⟩
      | (refine ⟨fun _ => ?_, fun _ => ?_⟩ <;> first | (exfalso; omega) | skip)
      | fail
    refine ⟨by simp only [List.all_cons, List.all_nil, hu.notTuple]; rfl, ?_, kk.trans k5⟩
    rw [ReadR, if_neg (by omega)]
    exact .inl ⟨_, _, hcu, he, rfl, (hu.keep k5).low (Nat.le_trans k2.1 k3.1)⟩
  · repeat' first
      | refine CO.cons rfl ?_
      | refine CO.nil ?_
      | refine CV.seq ?_
      | refine CV.region callees ?_
      | refine CV.cond ?_
      | refine CV.block ?_
      | refine CV.skip ?_
      | refine CV.exit ?_
      | refine CV.ret ?_
      | refine CV.scope ?_
      | refine CV.draw callees rfl ?_
      | refine CH.cons rfl ?_
      | refine CH.nil ?_
      | refine CO.consG rfl ?_
      | refine CH.consG rfl ?_
      | refine CG.cons rfl ?_
      | refine CG.nil ?_
      | refine CG.consG rfl ?_
      | refine ⟨(rfl : plain _ = true), ?_⟩
      | refine ⟨(rfl : nilOk _ = some _), ?_⟩
      | refine ⟨_, ints_len (by assumption), ?_⟩
      | refine ⟨_, ints_addr (by assumption) (by omega) (by omega), ?_⟩
      | refine ⟨_, ints_load (by assumption) (by omega) (by omega), ?_⟩
      | refine ⟨(⟨by omega, by omega⟩ : inI64 _), ?_⟩
      | refine ⟨_, fun tm ha => step1_max rfl (ev_tmp ha rfl) (ev_tmp ha rfl), ?_⟩
      | refine ⟨_, fun tm ha => step1_min rfl (ev_tmp ha rfl) (ev_tmp ha rfl), ?_⟩
      | refine ⟨_, fun tm ha => neS_t rfl (ev_tmp ha rfl) (ev_tmp ha rfl) (drw_bytes _) hb he, ?_⟩
      | (refine ⟨fun _ => ?_, fun _ => ?_⟩ <;> first | (exfalso; omega) | skip)
      | fail
    refine ⟨rfl, ?_, kk.trans k5⟩
    rw [ReadR, if_neg (by omega)]
    refine .inr ⟨fun xs hc h => ?_, rfl⟩
    rw [(read_back hc h ht hlab).1] at he
    exact he h
end Go.Proofs.YteocbhefhobehaaDoor

/- A text that is changed at a place. -/
namespace Go.Proofs.YteocbhefhobehaaDoor
open Go.AI
theorem step1_strAdd {P : Program} {tm : Tm} {H : Heap} {o : Oper} {t u : TypeId} {x y : Operand} {a b : List Int} (ho : o.op = .binOp .add t x y u) (hx : ev P tm x = some (VS a)) (hy : ev P tm y = some (VS b)) (hl : a.length + b.length < 1000000) : step1 P tm H o = some (VS (a ++ b), H, H.n) := by
  refine step1_str ho hx hy ?_ rfl
  have : ¬ (((strOf a).size + (strOf b).size : Nat) : Int) > IntKind.i64.max := by
    rw [strOf_size, strOf_size]
    simp [IntKind.max, IntKind.signed, IntKind.bits]
    omega
  simp only [Op.stringOp]
  rw [if_neg this, strOf_append]
  rfl
set_option maxRecDepth 100000 in
theorem fit_spec {B : Nat} {H : Heap} {x n : Int} (hB : B ≤ H.n) (h1 : 2 ≤ n) (hn : n < 1000000) :
    CallB Tryd.prog B 72 [.int .i64 x, .int .i64 n] H (fun r H' => (∃ y, r = .int .i64 y ∧ 0 ≤ y ∧ y < n) ∧ H' = H) := by
  have e1 := Int.tmod_lt_of_pos x (b := n) (by omega)
  have e2 := Int.lt_tmod_of_pos x (b := n) (by omega)
  refine CV.enter callees false rfl Tryd.func72 rfl ok72 (Nat.le_of_ble_eq_true rfl) hB ?_
  repeat' first
    | refine CO.cons rfl ?_
    | refine CO.nil ?_
    | refine CV.seq ?_
    | refine CV.region callees ?_
    | refine CV.cond ?_
    | refine CV.block ?_
    | refine CV.skip ?_
    | refine CV.exit ?_
    | refine CV.ret ?_
    | refine CV.scope ?_
    | refine CV.draw callees rfl ?_
    | refine CH.cons rfl ?_
    | refine CH.nil ?_
    | refine CO.consG rfl ?_
    | refine CH.consG rfl ?_
    | refine CG.cons rfl ?_
    | refine CG.nil ?_
    | refine CG.consG rfl ?_
    | refine ⟨(rfl : plain _ = true), ?_⟩
    | refine ⟨(rfl : nilOk _ = some _), ?_⟩
    | refine ⟨_, ints_len (by assumption), ?_⟩
    | refine ⟨_, ints_addr (by assumption) (by omega) (by omega), ?_⟩
    | refine ⟨_, ints_load (by assumption) (by omega) (by omega), ?_⟩
    | refine ⟨(⟨by omega, by omega⟩ : inI64 _), ?_⟩
    | refine ⟨_, fun tm ha => step1_max rfl (ev_tmp ha rfl) (ev_tmp ha rfl), ?_⟩
    | refine ⟨_, fun tm ha => step1_min rfl (ev_tmp ha rfl) (ev_tmp ha rfl), ?_⟩
    | refine ⟨_, fun tm ha => step1_rem rfl (ev_tmp ha rfl) (ev_tmp ha rfl) (by omega), ?_⟩
    | (refine ⟨fun _ => ?_, fun _ => ?_⟩ <;> first | (exfalso; omega) | skip)
    | fail
  · exact ⟨rfl, ⟨_, rfl, by omega, by omega⟩, rfl⟩
  · exact ⟨rfl, ⟨_, rfl, by omega, by omega⟩, rfl⟩
set_option maxHeartbeats 1000000 in
set_option maxRecDepth 100000 in
theorem blot_spec {B : Nat} {H : Heap} {l : List Int} {a h y : Int} (hB : B ≤ H.n) (hb : Bytes l) (h2 : 2 ≤ l.length) (hn : l.length < 100000) (hy : 0 ≤ y ∧ y < 256) :
    CallB Tryd.prog B 53 [VS l, .int .i64 a, .int .i64 h, .int .u8 y] H (fun r H' => (∃ t, r = VS t ∧ Bytes t ∧ t.length ≤ l.length + 1) ∧ Keep H H') := by
  have hby : Bytes [y] := fun x hx => by simp at hx; omega
  refine CV.enter callees false rfl Tryd.func53 rfl ok53 (Nat.le_of_ble_eq_true rfl) hB ?_
  repeat' first
    | refine CO.cons rfl ?_
    | refine CO.nil ?_
    | refine CV.seq ?_
    | refine CV.region callees ?_
    | refine CV.cond ?_
    | refine CV.block ?_
    | refine CV.skip ?_
    | refine CV.exit ?_
    | refine CV.ret ?_
    | refine CV.scope ?_
    | refine CV.draw callees rfl ?_
    | refine CH.cons rfl ?_
    | refine CH.nil ?_
    | refine CO.consG rfl ?_
    | refine CH.consG rfl ?_
    | refine CG.cons rfl ?_
    | refine CG.nil ?_
    | refine CG.consG rfl ?_
    | refine ⟨(rfl : plain _ = true), ?_⟩
    | refine ⟨(rfl : nilOk _ = some _), ?_⟩
    | refine ⟨_, ints_len (by assumption), ?_⟩
    | refine ⟨_, ints_addr (by assumption) (by omega) (by omega), ?_⟩
    | refine ⟨_, ints_load (by assumption) (by omega) (by omega), ?_⟩
    | refine ⟨(⟨by omega, by omega⟩ : inI64 _), ?_⟩
    | refine ⟨_, fun tm ha => step1_max rfl (ev_tmp ha rfl) (ev_tmp ha rfl), ?_⟩
    | refine ⟨_, fun tm ha => step1_min rfl (ev_tmp ha rfl) (ev_tmp ha rfl), ?_⟩
    | refine ⟨_, str_len un9, ?_⟩
    | (refine ⟨fun _ => ?_, fun _ => ?_⟩ <;> first | (exfalso; omega) | skip)
    | fail
  refine (fit_spec hB (by omega) (by omega)).mono ?_
  rintro r H1 ⟨⟨p, rfl, hp0, hp1⟩, rfl⟩
  have hown : Own 5 (H1.new (.cells [.int .u8 y] 5 2)) (.slice (some ⟨H1.n, 0, none⟩) 1 0) ([y].map V8) H1.n := .inr ⟨H1.n, rfl, Nat.le_refl _, Nat.lt_succ_self _, Heap.get_new_eq _ _⟩
  repeat' first
    | refine CO.cons rfl ?_
    | refine CO.nil ?_
    | refine CV.seq ?_
    | refine CV.region callees ?_
    | refine CV.cond ?_
    | refine CV.block ?_
    | refine CV.skip ?_
    | refine CV.exit ?_
    | refine CV.ret ?_
    | refine CV.scope ?_
    | refine CV.draw callees rfl ?_
    | refine CH.cons rfl ?_
    | refine CH.nil ?_
    | refine CO.consG rfl ?_
    | refine CH.consG rfl ?_
    | refine CG.cons rfl ?_
    | refine CG.nil ?_
    | refine CG.consG rfl ?_
    | refine ⟨(rfl : plain _ = true), ?_⟩
    | refine ⟨(rfl : nilOk _ = some _), ?_⟩
    | refine ⟨_, ints_len (by assumption), ?_⟩
    | refine ⟨_, ints_addr (by assumption) (by omega) (by omega), ?_⟩
    | refine ⟨_, ints_load (by assumption) (by omega) (by omega), ?_⟩
    | refine ⟨(⟨by omega, by omega⟩ : inI64 _), ?_⟩
    | refine ⟨_, fun tm ha => step1_max rfl (ev_tmp ha rfl) (ev_tmp ha rfl), ?_⟩
    | refine ⟨_, fun tm ha => step1_min rfl (ev_tmp ha rfl) (ev_tmp ha rfl), ?_⟩
    | refine ⟨_, _, build_one un93 one5 rfl, ?_⟩
    | refine ⟨_, fun tm ha => step1_convStr rfl (ev_tmp ha rfl) (own_plain hown (by simp)) (conv_str un93 un9 u8_5 hown), ?_⟩
    | (refine ⟨fun _ => ?_, fun _ => ?_⟩ <;> first | (exfalso; omega) | skip)
    | fail
  obtain ⟨H2, hH2⟩ : ∃ H2, H1.new (.cells [.int .u8 y] 5 2) = H2 := ⟨_, rfl⟩
  have hk : Keep H1 H2 := by rw [← hH2]; exact Keep.new _ _
  rw [hH2]
  have hB2 : B ≤ H2.n := Nat.le_trans hB hk.1
  refine (fit_spec hB2 (by omega) (by omega)).mono ?_
  rintro r H3 ⟨⟨k, rfl, hk0, hk1⟩, rfl⟩
  have hl1 : (l.take p.toNat).length = p.toNat := by rw [List.length_take]; omega
  have hl2 : (l.drop (p + 1).toNat).length = l.length - (p + 1).toNat := List.length_drop
  have hl3 : (l.drop p.toNat).length = l.length - p.toNat := List.length_drop
  have hy1 : [y].length = 1 := rfl
  have hA : (l.take p.toNat ++ [y]).length = p.toNat + 1 := by rw [List.length_append, hl1, hy1]
  repeat' first
    | refine CO.cons rfl ?_
    | refine CO.nil ?_
    | refine CV.seq ?_
    | refine CV.region callees ?_
    | refine CV.cond ?_
    | refine CV.block ?_
    | refine CV.skip ?_
    | refine CV.exit ?_
    | refine CV.ret ?_
    | refine CV.scope ?_
    | refine CV.draw callees rfl ?_
    | refine CH.cons rfl ?_
    | refine CH.nil ?_
    | refine CO.consG rfl ?_
    | refine CH.consG rfl ?_
    | refine CG.cons rfl ?_
    | refine CG.nil ?_
    | refine CG.consG rfl ?_
    | refine ⟨(rfl : plain _ = true), ?_⟩
    | refine ⟨(rfl : nilOk _ = some _), ?_⟩
    | refine ⟨_, ints_len (by assumption), ?_⟩
    | refine ⟨_, ints_addr (by assumption) (by omega) (by omega), ?_⟩
    | refine ⟨_, ints_load (by assumption) (by omega) (by omega), ?_⟩
    | refine ⟨(⟨by omega, by omega⟩ : inI64 _), ?_⟩
    | refine ⟨_, fun tm ha => step1_max rfl (ev_tmp ha rfl) (ev_tmp ha rfl), ?_⟩
    | refine ⟨_, fun tm ha => step1_min rfl (ev_tmp ha rfl) (ev_tmp ha rfl), ?_⟩
    | refine ⟨_, str_slice_hi un9 (by omega) (by omega), ?_⟩
    | refine ⟨_, str_slice_lo un9 (by omega) (by omega), ?_⟩
    | refine ⟨_, fun tm ha => step1_strAdd rfl (ev_tmp ha rfl) (ev_tmp ha rfl) (by omega), ?_⟩
    | (refine ⟨fun _ => ?_, fun _ => ?_⟩ <;> first | (exfalso; omega) | skip)
    | fail
  · exact ⟨rfl, ⟨_, rfl, ((hb.take _).append hby).append (hb.drop _), by rw [List.length_append, hA, hl2]; omega⟩, hk⟩
  · exact ⟨rfl, ⟨_, rfl, (hb.take _).append (hb.drop _), by rw [List.length_append, hl1, hl2]; omega⟩, hk⟩
  · exact ⟨rfl, ⟨_, rfl, ((hb.take _).append hby).append (hb.drop _), by rw [List.length_append, hA, hl3]; omega⟩, hk⟩
end Go.Proofs.YteocbhefhobehaaDoor
