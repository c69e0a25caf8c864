/- The beams of a partition. -/
import Derived.Test.YthcchjmjblegdaaDoorI1
import Derived.Test.YthcchjmjblegdaaDoorEu
namespace Go.AI
/-- The first elements of a slice. -/
def preS (v : Value) (i : Nat) : Value :=
  match v with
  | .slice (some a) _ c => .slice (some a) i c
  | v => v
theorem OwnS.slice {P : Program} {t e : TypeId} {s : Nat} {H : Heap} {v : Value} {rs : List (List Value)} {B : Nat} (h : OwnS e s H v rs B) (ht : P.underlying t = some (.slice e)) (hs : sizeB P e = some s) {i : Int} {kd : IntKind} (h0 : 0 ≤ i) (h1 : i ≤ rs.length) :
    aslice P t v none (some (some (.int kd i))) = some (preS v i.toNat) := by
  rcases h.2 with ⟨rfl, rfl⟩ | ⟨b, rfl, h2, h3, h4⟩
  · simp at h1
    have : i = 0 := by omega
    subst this
    simp [aslice, ht, hs, bound, preS]
  · simp [aslice, ht, hs, bound, h0, h1, preS]
theorem OwnS.pre {e : TypeId} {s : Nat} {H : Heap} {v : Value} {rs : List (List Value)} {B : Nat} (h : OwnS e s H v rs B) {i : Nat} (hi : i ≤ rs.length) : RowS s H (preS v i) (rs.take i) := by
  have hl : ∀ r ∈ rs.take i, r.length = s := fun r hr => h.1 r (List.mem_of_mem_take hr)
  refine ⟨hl, ?_⟩
  rcases h.2 with ⟨rfl, rfl⟩ | ⟨b, rfl, h2, h3, h4⟩
  · exact .inl ⟨rfl, by simp⟩
  · have hm : i * s ≤ rs.length * s := Nat.mul_le_mul_right _ hi
    refine .inr (.inr ⟨b, 0, 0, _, e, 2, ?_, h3, h4, by simp, ?_, fun j q r w hj hq => ?_⟩)
    · rw [List.length_take, Nat.min_eq_left hi]; rfl
    · rw [List.length_take, Nat.min_eq_left hi, flat_len h.1]; omega
    · rw [List.getElem?_take] at hj
      split at hj
      · rw [Nat.zero_add]; exact flat_at h.1 hj hq
      · cases hj
end Go.AI
namespace Go.Proofs.YthcchjmjblegdaaDoor
open Go.AI
theorem un88 : Tryd.prog.underlying 88 = some (.slice 91) := by kernel_rfl
theorem sz91 : sizeB Tryd.prog 91 = some 3 := by kernel_rfl
theorem ag91 : isAggB Tryd.prog 91 = some true := by kernel_rfl
theorem zb91 : zeroBB Tryd.prog 91 = some ([VI 0, VI 0, VI 0], 24) := by kernel_rfl
theorem zc91 : zeroCells Tryd.prog 91 = some [VI 0, VI 0, VI 0] := by kernel_rfl
theorem fo0 : fieldOff Tryd.prog 91 0 = some (0, 1) := by kernel_rfl
theorem fo1 : fieldOff Tryd.prog 91 1 = some (1, 1) := by kernel_rfl
theorem fo2 : fieldOff Tryd.prog 91 2 = some (2, 1) := by kernel_rfl
theorem build_beam (i : Int) : abuild Tryd.prog 91 [(0, VI i)] = some (.agg [VI i, VI 0, VI 0].toArray) := by kernel_rfl

def bN (xs : List Int) (i : Nat) : Nat := (blkFrom (xs.take i) 0).toNat
theorem bN_cast (xs : List Int) (i : Nat) : (bN xs i : Int) = blkFrom (xs.take i) 0 := by
  have := blk_from_ge (xs.take i) 0
  unfold bN; omega
theorem bN_all (xs : List Int) : bN xs xs.length = bk xs := by unfold bN bk; rw [List.take_length]
def bm1 (xs : List Int) (i : Nat) : List (List Value) := (List.range (bN xs i)).map fun (b : Nat) => [VI (firstTo xs b i), VI (lastTo xs b i), VI 0]
theorem bm1_len (xs : List Int) (i : Nat) : (bm1 xs i).length = bN xs i := by simp [bm1]
theorem bm1_at {xs : List Int} {i b : Nat} (h : b < bN xs i) : (bm1 xs i)[b]? = some [VI (firstTo xs b i), VI (lastTo xs b i), VI 0] := by simp [bm1, h]
theorem first_met {xs : List Int} (hc : check xs = 0) {i b : Nat} (hi : i ≤ xs.length) (hb : b < bN xs i) : firstTo xs b i ≠ -1 := by
  have := bN_cast xs i
  obtain ⟨j, hj, e⟩ := blk_onto hc i hi b (by omega) (by omega)
  rcases firstTo_spec xs b i with ⟨_, h2⟩ | ⟨f, h1, _⟩
  · exact absurd e (h2 j hj)
  · omega
theorem bm1_old {xs : List Int} (hc : check xs = 0) {i : Nat} (hi : i < xs.length) (hx : xs[i]! < bN xs i) :
    (bm1 xs i).set xs[i]!.toNat [VI (firstTo xs xs[i]! i), VI i, VI 0] = bm1 xs (i + 1) := by
  have h0 := (check_bound hc hi).1
  have c1 := bN_cast xs i
  have c2 := bN_cast xs (i + 1)
  have hs := blk_take_succ hi
  have e : bN xs (i + 1) = bN xs i := by omega
  apply List.ext_getElem?
  intro b
  rw [List.getElem?_set]
  by_cases hb : b < bN xs i
  · rw [bm1_at (i := i + 1) (by omega), bm1_at hb]
    by_cases hbx : xs[i]!.toNat = b
    · subst hbx
      have hcast : ((xs[i]!.toNat : Nat) : Int) = xs[i]! := by omega
      rw [if_pos rfl, if_pos (by rw [bm1_len]; exact hb), hcast, firstTo, lastTo, if_pos rfl, if_neg]
      rintro ⟨h, _⟩
      have := first_met hc (by omega) hb
      rw [hcast] at this
      exact this h
    · rw [if_neg hbx, firstTo, lastTo, if_neg (fun h => hbx (by omega)), if_neg (fun h => hbx (by omega))]
  · rw [List.getElem?_eq_none (l := bm1 xs (i + 1)) (by rw [bm1_len]; omega), if_neg (by omega), List.getElem?_eq_none (by rw [bm1_len]; omega)]
theorem bm1_new {xs : List Int} (hc : check xs = 0) {i : Nat} (hi : i < xs.length) (hx : xs[i]! = bN xs i) :
    (bm1 xs i ++ [[VI i, VI 0, VI 0]]).set xs[i]!.toNat [VI i, VI i, VI 0] = bm1 xs (i + 1) := by
  have c1 := bN_cast xs i
  have c2 := bN_cast xs (i + 1)
  have hs := blk_take_succ hi
  have e : bN xs (i + 1) = bN xs i + 1 := by omega
  have hxn : xs[i]!.toNat = bN xs i := by omega
  rw [hxn, List.set_append_right _ _ (by rw [bm1_len]; omega), bm1_len, Nat.sub_self, List.set_cons_zero]
  apply List.ext_getElem?
  intro b
  by_cases hb : b < bN xs i
  · rw [List.getElem?_append_left (by rw [bm1_len]; exact hb), bm1_at hb, bm1_at (i := i + 1) (by omega), firstTo, lastTo, if_neg (fun h => by omega), if_neg (fun h => by omega)]
  · rw [List.getElem?_append_right (by rw [bm1_len]; omega), bm1_len]
    by_cases hb2 : b = bN xs i
    · subst hb2
      rw [bm1_at (i := i + 1) (by omega), Nat.sub_self]
      have hno : firstTo xs (bN xs i : Nat) i = -1 := by
        rcases firstTo_spec xs (bN xs i : Nat) i with ⟨h1, _⟩ | ⟨f, h1, h2, h3, _⟩
        · exact h1
        · have := blk_gt (xs.take i) 0 f (by rw [List.length_take]; omega)
          rw [getElem!_pos _ f (by rw [List.length_take]; omega), List.getElem_take] at this
          rw [getElem!_pos xs f (by omega)] at h3
          omega
      rw [firstTo, lastTo, if_pos ⟨hno, hx⟩, if_pos hx]
      rfl
    · rw [List.getElem?_eq_none (by simp; omega), List.getElem?_eq_none (by rw [bm1_len]; omega)]
/-- The beams, whose levels are as a function says. -/
def bmF (xs : List Int) (f : Nat → Int) : List (List Value) := (List.range (bk xs)).map fun (b : Nat) => [VI (fst xs b), VI (lst xs b), VI (f b)]
theorem bmF_len (xs : List Int) (f : Nat → Int) : (bmF xs f).length = bk xs := by simp [bmF]
theorem bmF_at {xs : List Int} {f : Nat → Int} {b : Nat} (h : b < bk xs) : (bmF xs f)[b]? = some [VI (fst xs b), VI (lst xs b), VI (f b)] := by simp [bmF, h]
theorem bmF_set {xs : List Int} {f : Nat → Int} {b : Nat} {y : Int} (_h : b < bk xs) : (bmF xs f).set b [VI (fst xs b), VI (lst xs b), VI y] = bmF xs fun q => if q = b then y else f q := by
  apply List.ext_getElem?
  intro q
  rw [List.getElem?_set]
  by_cases hq : q < bk xs
  · rw [bmF_at (f := fun q => if q = b then y else f q) hq, bmF_at hq]
    by_cases hb : b = q
    · subst hb; rw [if_pos rfl, if_pos (by rw [bmF_len]; exact hq), if_pos rfl]
    · rw [if_neg hb, if_neg (fun e => hb e.symm)]
  · rw [List.getElem?_eq_none (l := bmF xs fun q => if q = b then y else f q) (by rw [bmF_len]; omega), List.getElem?_eq_none (l := bmF xs f) (by rw [bmF_len]; omega)]
    split
    · rw [if_neg (by rw [bmF_len]; omega)]
    · rfl
theorem bmF_congr {xs : List Int} {f g : Nat → Int} (h : ∀ b, b < bk xs → f b = g b) : bmF xs f = bmF xs g := by
  unfold bmF
  apply List.map_congr_left
  intro b hb
  rw [h b (List.mem_range.1 hb)]
theorem bm1_bmF (xs : List Int) : bm1 xs xs.length = bmF xs fun _ => 0 := by
  unfold bm1 bmF
  rw [bN_all]; rfl

set_option maxHeartbeats 4000000 in
set_option maxRecDepth 100000 in
theorem beams_spec {B : Nat} {v : Value} {H : Heap} {xs : List Int} (hB : B ≤ H.n) (hv : Ints H v xs) (hc : check xs = 0) :
    CallB Tryd.prog B 96 [v] H (fun r H' => OwnS 91 3 H' r (bmF xs (lev xs)) H.n ∧ Keep H H') := by
  have hlx := check_len hc
  have hk9 := bk_le9 hc
  refine CV.enter callees false rfl Tryd.func96 rfl ok96 (Nat.le_of_ble_eq_true rfl) hB ?_
  repeat' first
    | refine CO.cons rfl ?_
    | refine CO.nil ?_
    | refine CV.seq ?_
    | refine CV.region callees ?_
    | refine CV.cond ?_
    | refine CV.block ?_
    | refine CV.skip ?_
    | refine CV.exit ?_
    | refine CV.ret ?_
    | refine CV.scope ?_
    | refine CV.draw callees rfl ?_
    | refine CH.cons rfl ?_
    | refine CH.nil ?_
    | refine CO.consG rfl ?_
    | refine CH.consG rfl ?_
    | refine CG.cons rfl ?_
    | refine CG.nil ?_
    | refine CG.consG rfl ?_
    | refine ⟨(rfl : plain _ = true), ?_⟩
    | refine ⟨(rfl : nilOk _ = some _), ?_⟩
    | refine ⟨_, ints_len (by assumption), ?_⟩
    | refine ⟨_, ints_addr (by assumption) (by omega) (by omega), ?_⟩
    | refine ⟨_, ints_load (by assumption) (by omega) (by omega), ?_⟩
    | refine ⟨(⟨by omega, by omega⟩ : inI64 _), ?_⟩
    | refine ⟨_, fun tm ha => step1_max rfl (ev_tmp ha rfl) (ev_tmp ha rfl), ?_⟩
    | refine ⟨_, fun tm ha => step1_min rfl (ev_tmp ha rfl) (ev_tmp ha rfl), ?_⟩
    | (refine ⟨fun _ => ?_, fun _ => ?_⟩ <;> first | (exfalso; omega) | skip)
    | fail
  refine CV.loopc ?_
  refine WCv.rounds callees false (α := Value × Nat) (fun (l, i) => [(3, l), (9, v), (10, .int .i64 xs.length), (11, .int .i64 i)]) (fun (l, i) Hz => i ≤ xs.length ∧ Keep H Hz ∧ OwnS 91 3 Hz l (bm1 xs i) H.n) (fun (l, i) => xs.length - i) (.slice none 0 0, 0) (by repeat' first | exact trivial | refine ⟨rfl, ?_⟩ | refine ⟨slot_int (by (try simp only [Int.toNat_natCast]); omega), ?_⟩) ?_ ?_
  · exact ⟨by omega, Keep.refl _, by
      have : bm1 xs 0 = [] := by simp [bm1, bN, blkFrom]
      show OwnS _ _ _ _ (bm1 xs 0) _
      rw [this]; exact OwnS.nil⟩
  rintro ⟨l, i⟩ Hx ⟨hi, hk, hl⟩ hBx
  have hvx := hv.keep hk
  have hll := bm1_len xs i
  by_cases hi2 : i < xs.length
  · have hb0 := check_bound hc hi2
    have hab := at_blk hc hi2
    have hbc := bN_cast xs i
    have hx9 : xs[i]! = xs[(i : Int).toNat]! := rfl
    have hle9 : bN xs i ≤ 9 := by
      have := blk_le9 (xs.take i) 0 (by omega) fun q hq => by
        rw [List.length_take] at hq
        rw [getElem!_pos _ q (by rw [List.length_take]; omega), List.getElem_take]
        have := (check_bound hc (i := q) (by omega)).2
        rwa [getElem!_pos xs q (by omega)] at this
      omega
    repeat' first
      | refine CO.cons rfl ?_
      | refine CO.nil ?_
      | refine CV.seq ?_
      | refine CV.region callees ?_
      | refine CV.cond ?_
      | refine CV.block ?_
      | refine CV.skip ?_
      | refine CV.exit ?_
      | refine CV.ret ?_
      | refine CV.scope ?_
      | refine CV.draw callees rfl ?_
      | refine CH.cons rfl ?_
      | refine CH.nil ?_
      | refine CO.consG rfl ?_
      | refine CH.consG rfl ?_
      | refine CG.cons rfl ?_
      | refine CG.nil ?_
      | refine CG.consG rfl ?_
      | refine ⟨(rfl : plain _ = true), ?_⟩
      | refine ⟨(rfl : nilOk _ = some _), ?_⟩
      | refine ⟨_, ints_len (by assumption), ?_⟩
      | refine ⟨_, ints_addr (by assumption) (by omega) (by omega), ?_⟩
      | refine ⟨_, ints_load (by assumption) (by omega) (by omega), ?_⟩
      | refine ⟨(⟨by omega, by omega⟩ : inI64 _), ?_⟩
      | refine ⟨_, fun tm ha => step1_max rfl (ev_tmp ha rfl) (ev_tmp ha rfl), ?_⟩
      | refine ⟨_, fun tm ha => step1_min rfl (ev_tmp ha rfl) (ev_tmp ha rfl), ?_⟩
      | refine ⟨_, hl.row.alen un88, ?_⟩
      | (refine ⟨fun _ => ?_, fun _ => ?_⟩ <;> first | (exfalso; omega) | skip)
      | fail
    · rename_i h1 h2
      rw [hll, ← hx9] at h2
      repeat' first
        | refine CO.cons rfl ?_
        | refine CO.nil ?_
        | refine CV.seq ?_
        | refine CV.region callees ?_
        | refine CV.cond ?_
        | refine CV.block ?_
        | refine CV.skip ?_
        | refine CV.exit ?_
        | refine CV.ret ?_
        | refine CV.scope ?_
        | refine CV.draw callees rfl ?_
        | refine CH.cons rfl ?_
        | refine CH.nil ?_
        | refine CO.consG rfl ?_
        | refine CH.consG rfl ?_
        | refine CG.cons rfl ?_
        | refine CG.nil ?_
        | refine CG.consG rfl ?_
        | refine ⟨(rfl : plain _ = true), ?_⟩
        | refine ⟨(rfl : nilOk _ = some _), ?_⟩
        | refine ⟨_, ints_len (by assumption), ?_⟩
        | refine ⟨_, ints_addr (by assumption) (by omega) (by omega), ?_⟩
        | refine ⟨_, ints_load (by assumption) (by omega) (by omega), ?_⟩
        | refine ⟨(⟨by omega, by omega⟩ : inI64 _), ?_⟩
        | refine ⟨_, fun tm ha => step1_max rfl (ev_tmp ha rfl) (ev_tmp ha rfl), ?_⟩
        | refine ⟨_, fun tm ha => step1_min rfl (ev_tmp ha rfl) (ev_tmp ha rfl), ?_⟩
        | refine ⟨_, build_beam _, ?_⟩
        | refine ⟨_, _, build_oneS (row := [VI i, VI 0, VI 0]) un88 zb91 (by decide) rfl, ?_⟩
        | (refine ⟨fun _ => ?_, fun _ => ?_⟩ <;> first | (exfalso; omega) | skip)
        | fail
      refine append_askS un88 zb91 (by decide) rfl hl hk.1 hB (by omega) ?_
      intro l2 H2 hl2 kb2 hf2
      have k2 := kb2.keep hk fun c hc => (hl.lt hc).1
      have hlen2 : (bm1 xs i ++ [[VI i, VI 0, VI 0]]).length = bN xs i + 1 := by simp [hll]
      repeat' first
        | refine CO.cons rfl ?_
        | refine CO.nil ?_
        | refine CV.seq ?_
        | refine CV.region callees ?_
        | refine CV.cond ?_
        | refine CV.block ?_
        | refine CV.skip ?_
        | refine CV.exit ?_
        | refine CV.ret ?_
        | refine CV.scope ?_
        | refine CV.draw callees rfl ?_
        | refine CH.cons rfl ?_
        | refine CH.nil ?_
        | refine CO.consG rfl ?_
        | refine CH.consG rfl ?_
        | refine CG.cons rfl ?_
        | refine CG.nil ?_
        | refine CG.consG rfl ?_
        | refine ⟨(rfl : plain _ = true), ?_⟩
        | refine ⟨(rfl : nilOk _ = some _), ?_⟩
        | refine ⟨_, ints_len (by assumption), ?_⟩
        | refine ⟨_, ints_addr (by assumption) (by omega) (by omega), ?_⟩
        | refine ⟨_, ints_load (by assumption) (by omega) (by omega), ?_⟩
        | refine ⟨(⟨by omega, by omega⟩ : inI64 _), ?_⟩
        | refine ⟨_, fun tm ha => step1_max rfl (ev_tmp ha rfl) (ev_tmp ha rfl), ?_⟩
        | refine ⟨_, fun tm ha => step1_min rfl (ev_tmp ha rfl) (ev_tmp ha rfl), ?_⟩
        | refine ⟨_, hl2.row.addr un88 sz91 (by omega) (by omega), ?_⟩
        | refine ⟨_, hl2.row.faddr fo1 (by decide) (by omega), ?_⟩
        | (refine ⟨fun _ => ?_, fun _ => ?_⟩ <;> first | (exfalso; omega) | skip)
        | fail
      refine fstore_askS (r := [VI i, VI 0, VI 0]) sz3 hl2 hB (by
        rw [← hx9, show xs[i]!.toNat = bN xs i by omega, List.getElem?_append_right (by omega), hll]; simp) (by decide) rfl ?_
      intro H3 hl3 kb3
      have k3 := kb3.keep k2 fun c hc => (hl2.lt hc).1
      repeat' first
        | refine CO.cons rfl ?_
        | refine CO.nil ?_
        | refine CV.seq ?_
        | refine CV.region callees ?_
        | refine CV.cond ?_
        | refine CV.block ?_
        | refine CV.skip ?_
        | refine CV.exit ?_
        | refine CV.ret ?_
        | refine CV.scope ?_
        | refine CV.draw callees rfl ?_
        | refine CH.cons rfl ?_
        | refine CH.nil ?_
        | refine CO.consG rfl ?_
        | refine CH.consG rfl ?_
        | refine CG.cons rfl ?_
        | refine CG.nil ?_
        | refine CG.consG rfl ?_
        | refine ⟨(rfl : plain _ = true), ?_⟩
        | refine ⟨(rfl : nilOk _ = some _), ?_⟩
        | refine ⟨_, ints_len (by assumption), ?_⟩
        | refine ⟨_, ints_addr (by assumption) (by omega) (by omega), ?_⟩
        | refine ⟨_, ints_load (by assumption) (by omega) (by omega), ?_⟩
        | refine ⟨(⟨by omega, by omega⟩ : inI64 _), ?_⟩
        | refine ⟨_, fun tm ha => step1_max rfl (ev_tmp ha rfl) (ev_tmp ha rfl), ?_⟩
        | refine ⟨_, fun tm ha => step1_min rfl (ev_tmp ha rfl) (ev_tmp ha rfl), ?_⟩
        | (refine ⟨fun _ => ?_, fun _ => ?_⟩ <;> first | (exfalso; omega) | skip)
        | fail
      refine ⟨(l2, i + 1), (by repeat' first | exact trivial | refine ⟨rfl, ?_⟩ | refine ⟨slot_int (by (try simp only [Int.toNat_natCast]); omega), ?_⟩), (by (try dsimp only); omega), ?_⟩
      refine ⟨by omega, k3, ?_⟩
      rw [← bm1_new hc hi2 h2]
      exact hl3
    · rename_i h1 h2
      rw [hll, ← hx9] at h2
      repeat' first
        | refine CO.cons rfl ?_
        | refine CO.nil ?_
        | refine CV.seq ?_
        | refine CV.region callees ?_
        | refine CV.cond ?_
        | refine CV.block ?_
        | refine CV.skip ?_
        | refine CV.exit ?_
        | refine CV.ret ?_
        | refine CV.scope ?_
        | refine CV.draw callees rfl ?_
        | refine CH.cons rfl ?_
        | refine CH.nil ?_
        | refine CO.consG rfl ?_
        | refine CH.consG rfl ?_
        | refine CG.cons rfl ?_
        | refine CG.nil ?_
        | refine CG.consG rfl ?_
        | refine ⟨(rfl : plain _ = true), ?_⟩
        | refine ⟨(rfl : nilOk _ = some _), ?_⟩
        | refine ⟨_, ints_len (by assumption), ?_⟩
        | refine ⟨_, ints_addr (by assumption) (by omega) (by omega), ?_⟩
        | refine ⟨_, ints_load (by assumption) (by omega) (by omega), ?_⟩
        | refine ⟨(⟨by omega, by omega⟩ : inI64 _), ?_⟩
        | refine ⟨_, fun tm ha => step1_max rfl (ev_tmp ha rfl) (ev_tmp ha rfl), ?_⟩
        | refine ⟨_, fun tm ha => step1_min rfl (ev_tmp ha rfl) (ev_tmp ha rfl), ?_⟩
        | refine ⟨_, hl.row.addr un88 sz91 (by omega) (by omega), ?_⟩
        | refine ⟨_, hl.row.faddr fo1 (by decide) (by omega), ?_⟩
        | (refine ⟨fun _ => ?_, fun _ => ?_⟩ <;> first | (exfalso; omega) | skip)
        | fail
      have hcast : ((xs[i]!.toNat : Nat) : Int) = xs[i]! := by omega
      refine fstore_askS (r := [VI (firstTo xs xs[i]! i), VI (lastTo xs xs[i]! i), VI 0]) sz3 hl hB (by
        have := bm1_at (xs := xs) (i := i) (b := xs[i]!.toNat) (by omega)
        rw [hcast] at this
        exact this) (by decide) rfl ?_
      intro H3 hl3 kb3
      have k3 := kb3.keep hk fun c hc => (hl.lt hc).1
      repeat' first
        | refine CO.cons rfl ?_
        | refine CO.nil ?_
        | refine CV.seq ?_
        | refine CV.region callees ?_
        | refine CV.cond ?_
        | refine CV.block ?_
        | refine CV.skip ?_
        | refine CV.exit ?_
        | refine CV.ret ?_
        | refine CV.scope ?_
        | refine CV.draw callees rfl ?_
        | refine CH.cons rfl ?_
        | refine CH.nil ?_
        | refine CO.consG rfl ?_
        | refine CH.consG rfl ?_
        | refine CG.cons rfl ?_
        | refine CG.nil ?_
        | refine CG.consG rfl ?_
        | refine ⟨(rfl : plain _ = true), ?_⟩
        | refine ⟨(rfl : nilOk _ = some _), ?_⟩
        | refine ⟨_, ints_len (by assumption), ?_⟩
        | refine ⟨_, ints_addr (by assumption) (by omega) (by omega), ?_⟩
        | refine ⟨_, ints_load (by assumption) (by omega) (by omega), ?_⟩
        | refine ⟨(⟨by omega, by omega⟩ : inI64 _), ?_⟩
        | refine ⟨_, fun tm ha => step1_max rfl (ev_tmp ha rfl) (ev_tmp ha rfl), ?_⟩
        | refine ⟨_, fun tm ha => step1_min rfl (ev_tmp ha rfl) (ev_tmp ha rfl), ?_⟩
        | (refine ⟨fun _ => ?_, fun _ => ?_⟩ <;> first | (exfalso; omega) | skip)
        | fail
      refine ⟨(l, i + 1), (by repeat' first | exact trivial | refine ⟨rfl, ?_⟩ | refine ⟨slot_int (by (try simp only [Int.toNat_natCast]); omega), ?_⟩), (by (try dsimp only); omega), ?_⟩
      refine ⟨by omega, k3, ?_⟩
      rw [← bm1_old hc hi2 (by omega)]
      exact hl3
  · have hin : i = xs.length := by omega
    subst hin
    rw [bm1_bmF] at hl
    clear hll
    repeat' first
      | refine CO.cons rfl ?_
      | refine CO.nil ?_
      | refine CV.seq ?_
      | refine CV.region callees ?_
      | refine CV.cond ?_
      | refine CV.block ?_
      | refine CV.skip ?_
      | refine CV.exit ?_
      | refine CV.ret ?_
      | refine CV.scope ?_
      | refine CV.draw callees rfl ?_
      | refine CH.cons rfl ?_
      | refine CH.nil ?_
      | refine CO.consG rfl ?_
      | refine CH.consG rfl ?_
      | refine CG.cons rfl ?_
      | refine CG.nil ?_
      | refine CG.consG rfl ?_
      | refine ⟨(rfl : plain _ = true), ?_⟩
      | refine ⟨(rfl : nilOk _ = some _), ?_⟩
      | refine ⟨_, ints_len (by assumption), ?_⟩
      | refine ⟨_, ints_addr (by assumption) (by omega) (by omega), ?_⟩
      | refine ⟨_, ints_load (by assumption) (by omega) (by omega), ?_⟩
      | refine ⟨(⟨by omega, by omega⟩ : inI64 _), ?_⟩
      | refine ⟨_, fun tm ha => step1_max rfl (ev_tmp ha rfl) (ev_tmp ha rfl), ?_⟩
      | refine ⟨_, fun tm ha => step1_min rfl (ev_tmp ha rfl) (ev_tmp ha rfl), ?_⟩
      | refine ⟨_, hl.row.alen un88, ?_⟩
      | (refine ⟨fun _ => ?_, fun _ => ?_⟩ <;> first | (exfalso; omega) | skip)
      | fail
    rw [bmF_len]
    refine CV.loopc ?_
    refine WCv.rounds callees false (α := Nat) (fun i => [(3, l), (32, .int .i64 (bk xs)), (33, .int .i64 i)]) (fun i Hz => i ≤ bk xs ∧ Keep H Hz ∧ OwnS 91 3 Hz l (bmF xs fun b => if b < i then lev xs b else 0) H.n) (fun i => bk xs - i) (0) (by repeat' first | exact trivial | refine ⟨rfl, ?_⟩ | refine ⟨slot_int (by (try simp only [Int.toNat_natCast]); omega), ?_⟩) ?_ ?_
    · exact ⟨by omega, hk, by rw [bmF_congr (g := fun _ => 0) (fun b _ => if_neg (by omega))]; exact hl⟩
    rintro i Hy ⟨hib, hky, hly⟩ hBy
    by_cases hi3 : i < bk xs
    · have hlen : ∀ f, (bmF xs f).length = bk xs := bmF_len xs
      repeat' first
        | refine CO.cons rfl ?_
        | refine CO.nil ?_
        | refine CV.seq ?_
        | refine CV.region callees ?_
        | refine CV.cond ?_
        | refine CV.block ?_
        | refine CV.skip ?_
        | refine CV.exit ?_
        | refine CV.ret ?_
        | refine CV.scope ?_
        | refine CV.draw callees rfl ?_
        | refine CH.cons rfl ?_
        | refine CH.nil ?_
        | refine CO.consG rfl ?_
        | refine CH.consG rfl ?_
        | refine CG.cons rfl ?_
        | refine CG.nil ?_
        | refine CG.consG rfl ?_
        | refine ⟨(rfl : plain _ = true), ?_⟩
        | refine ⟨(rfl : nilOk _ = some _), ?_⟩
        | refine ⟨_, ints_len (by assumption), ?_⟩
        | refine ⟨_, ints_addr (by assumption) (by omega) (by omega), ?_⟩
        | refine ⟨_, ints_load (by assumption) (by omega) (by omega), ?_⟩
        | refine ⟨(⟨by omega, by omega⟩ : inI64 _), ?_⟩
        | refine ⟨_, fun tm ha => step1_max rfl (ev_tmp ha rfl) (ev_tmp ha rfl), ?_⟩
        | refine ⟨_, fun tm ha => step1_min rfl (ev_tmp ha rfl) (ev_tmp ha rfl), ?_⟩
        | refine ⟨_, hly.row.addr un88 sz91 (by omega) (by rw [hlen]; omega), ?_⟩
        | refine ⟨_, hly.row.faddr fo2 (by decide) (by rw [hlen]; omega), ?_⟩
        | (refine ⟨fun _ => ?_, fun _ => ?_⟩ <;> first | (exfalso; omega) | skip)
        | fail
      refine fstore_askS (r := [VI (fst xs i), VI (lst xs i), VI (if i < i then lev xs i else 0)]) sz3 hly hB (bmF_at hi3) (by decide) rfl ?_
      intro H2 hl2 kb2
      have k2 := kb2.keep hky fun c hc => (hly.lt hc).1
      have e2 : (bmF xs fun b => if b < i then lev xs b else 0).set i [VI (fst xs i), VI (lst xs i), VI 1] = bmF xs fun b => if b = i then 1 else if b < i then lev xs b else 0 := bmF_set hi3
      have hl2' : OwnS 91 3 H2 l (bmF xs fun b => if b = i then levA xs (levs xs i) i 0 else if b < i then lev xs b else 0) H.n := by
        have h3 : OwnS 91 3 H2 l ((bmF xs fun b => if b < i then lev xs b else 0).set i [VI (fst xs i), VI (lst xs i), VI 1]) H.n := hl2
        rw [e2] at h3; exact h3
      clear hl2 hly
      repeat' first
        | refine CO.cons rfl ?_
        | refine CO.nil ?_
        | refine CV.seq ?_
        | refine CV.region callees ?_
        | refine CV.cond ?_
        | refine CV.block ?_
        | refine CV.skip ?_
        | refine CV.exit ?_
        | refine CV.ret ?_
        | refine CV.scope ?_
        | refine CV.draw callees rfl ?_
        | refine CH.cons rfl ?_
        | refine CH.nil ?_
        | refine CO.consG rfl ?_
        | refine CH.consG rfl ?_
        | refine CG.cons rfl ?_
        | refine CG.nil ?_
        | refine CG.consG rfl ?_
        | refine ⟨(rfl : plain _ = true), ?_⟩
        | refine ⟨(rfl : nilOk _ = some _), ?_⟩
        | refine ⟨_, ints_len (by assumption), ?_⟩
        | refine ⟨_, ints_addr (by assumption) (by omega) (by omega), ?_⟩
        | refine ⟨_, ints_load (by assumption) (by omega) (by omega), ?_⟩
        | refine ⟨(⟨by omega, by omega⟩ : inI64 _), ?_⟩
        | refine ⟨_, fun tm ha => step1_max rfl (ev_tmp ha rfl) (ev_tmp ha rfl), ?_⟩
        | refine ⟨_, fun tm ha => step1_min rfl (ev_tmp ha rfl) (ev_tmp ha rfl), ?_⟩
        | refine ⟨_, hl2'.slice un88 sz91 (by omega) (by rw [hlen]; omega), ?_⟩
        | (refine ⟨fun _ => ?_, fun _ => ?_⟩ <;> first | (exfalso; omega) | skip)
        | fail
      have hpl := (hl2'.pre (i := (i : Int).toNat) (by rw [hlen]; omega)).alen (P := Tryd.prog) un88
      rw [List.length_take, hlen, show min (i : Int).toNat (bk xs) = i by omega] at hpl
      repeat' first
        | refine CO.cons rfl ?_
        | refine CO.nil ?_
        | refine CV.seq ?_
        | refine CV.region callees ?_
        | refine CV.cond ?_
        | refine CV.block ?_
        | refine CV.skip ?_
        | refine CV.exit ?_
        | refine CV.ret ?_
        | refine CV.scope ?_
        | refine CV.draw callees rfl ?_
        | refine CH.cons rfl ?_
        | refine CH.nil ?_
        | refine CO.consG rfl ?_
        | refine CH.consG rfl ?_
        | refine CG.cons rfl ?_
        | refine CG.nil ?_
        | refine CG.consG rfl ?_
        | refine ⟨(rfl : plain _ = true), ?_⟩
        | refine ⟨(rfl : nilOk _ = some _), ?_⟩
        | refine ⟨_, ints_len (by assumption), ?_⟩
        | refine ⟨_, ints_addr (by assumption) (by omega) (by omega), ?_⟩
        | refine ⟨_, ints_load (by assumption) (by omega) (by omega), ?_⟩
        | refine ⟨(⟨by omega, by omega⟩ : inI64 _), ?_⟩
        | refine ⟨_, fun tm ha => step1_max rfl (ev_tmp ha rfl) (ev_tmp ha rfl), ?_⟩
        | refine ⟨_, fun tm ha => step1_min rfl (ev_tmp ha rfl) (ev_tmp ha rfl), ?_⟩
        | refine ⟨_, hpl, ?_⟩
        | (refine ⟨fun _ => ?_, fun _ => ?_⟩ <;> first | (exfalso; omega) | skip)
        | fail
      refine CV.loopc ?_
      refine WCv.rounds callees false (α := Nat) (fun j => [(3, l), (6, .int .i64 i), (32, .int .i64 (bk xs)), (33, .int .i64 i), (42, preS l i), (43, .int .i64 i), (44, .int .i64 j)]) (fun j Hz => j ≤ i ∧ Keep H Hz ∧ OwnS 91 3 Hz l (bmF xs fun b => if b = i then levA xs (levs xs i) i j else if b < i then lev xs b else 0) H.n) (fun j => i - j) (0) (by repeat' first | exact trivial | refine ⟨rfl, ?_⟩ | refine ⟨slot_int (by (try simp only [Int.toNat_natCast]); omega), ?_⟩) ?_ ?_
      · exact ⟨by omega, k2, hl2'⟩
      rintro j Hw ⟨hj, hkw, hlw⟩ hBw
      by_cases hj2 : j < i
      · have hpw := hlw.pre (i := i) (by rw [hlen]; omega)
        have hpwl : (List.take i (bmF xs fun b => if b = i then levA xs (levs xs i) i j else if b < i then lev xs b else 0)).length = i := by rw [List.length_take, hlen]; omega
        have hpj : (List.take i (bmF xs fun b => if b = i then levA xs (levs xs i) i j else if b < i then lev xs b else 0))[(j : Int).toNat]? = some [VI (fst xs j), VI (lst xs j), VI (lev xs j)] := by
          rw [Int.toNat_natCast, List.getElem?_take_of_lt hj2, bmF_at (by omega), if_neg (by omega), if_pos hj2]
        repeat' first
          | refine CO.cons rfl ?_
          | refine CO.nil ?_
          | refine CV.seq ?_
          | refine CV.region callees ?_
          | refine CV.cond ?_
          | refine CV.block ?_
          | refine CV.skip ?_
          | refine CV.exit ?_
          | refine CV.ret ?_
          | refine CV.scope ?_
          | refine CV.draw callees rfl ?_
          | refine CH.cons rfl ?_
          | refine CH.nil ?_
          | refine CO.consG rfl ?_
          | refine CH.consG rfl ?_
          | refine CG.cons rfl ?_
          | refine CG.nil ?_
          | refine CG.consG rfl ?_
          | refine ⟨(rfl : plain _ = true), ?_⟩
          | refine ⟨(rfl : nilOk _ = some _), ?_⟩
          | refine ⟨_, ints_len (by assumption), ?_⟩
          | refine ⟨_, ints_addr (by assumption) (by omega) (by omega), ?_⟩
          | refine ⟨_, ints_load (by assumption) (by omega) (by omega), ?_⟩
          | refine ⟨(⟨by omega, by omega⟩ : inI64 _), ?_⟩
          | refine ⟨_, fun tm ha => step1_max rfl (ev_tmp ha rfl) (ev_tmp ha rfl), ?_⟩
          | refine ⟨_, fun tm ha => step1_min rfl (ev_tmp ha rfl) (ev_tmp ha rfl), ?_⟩
          | refine ⟨_, hpw.addr un88 sz91 (by omega) (by omega), ?_⟩
          | refine ⟨_, hpw.load ag91 sz91 hpj, ?_⟩
          | refine ⟨_, _, alloc_of zc91, ?_⟩
          | (refine ⟨fun _ => ?_, fun _ => ?_⟩ <;> first | (exfalso; omega) | skip)
          | fail
        refine ⟨_, _, store_all (Heap.get_new_eq _ _) rfl sz91 rfl, Nat.le_trans hB hkw.1, ?_⟩
        have k3 : Keep Hw ((Hw.new (.cells [VI 0, VI 0, VI 0] 91 1)).set Hw.n (.cells [VI (fst xs j), VI (lst xs j), VI (lev xs j)] 91 1)) := (Keep.new _ _).set _ (Nat.le_refl _)
        have hg3 : ((Hw.new (.cells [VI 0, VI 0, VI 0] 91 1)).set Hw.n (.cells [VI (fst xs j), VI (lst xs j), VI (lev xs j)] 91 1)).get Hw.n = some (.cells [VI (fst xs j), VI (lst xs j), VI (lev xs j)] 91 1) := Heap.get_set_eq _ _ _
        have hl3 := hlw.keep k3
        have k4 := hkw.trans k3
        generalize (Hw.new (.cells [VI 0, VI 0, VI 0] 91 1)).set Hw.n (.cells [VI (fst xs j), VI (lst xs j), VI (lev xs j)] 91 1) = H3 at k3 hg3 hl3 k4 ⊢
        have hii : (bmF xs fun b => if b = i then levA xs (levs xs i) i j else if b < i then lev xs b else 0)[(i : Int).toNat]? = some [VI (fst xs i), VI (lst xs i), VI (levA xs (levs xs i) i j)] := by
          rw [Int.toNat_natCast, bmF_at hi3, if_pos rfl]
        have hsi := span_blk hc hi3
        have hsj := span_blk hc (b := j) (by omega)
        have hlj := lev_le xs j
        have hljp := lev_pos xs j
        have hlA : levA xs (levs xs i) i j ≤ 9 := by
          have := levA_le xs (levs xs i) i i j (fun q hq => by rw [levs_at xs (by omega)]; have := lev_le xs q; omega) (by omega)
          omega
        have hlAp := levA_pos xs (levs xs i) i j
        have hsucc : levA xs (levs xs i) i (j + 1) = if fst xs i < lst xs j then max (levA xs (levs xs i) i j) (lev xs j + 1) else levA xs (levs xs i) i j := by
          rw [levA, levs_at xs hj2]
        have hB3 := Nat.le_trans hB k4.1
        repeat' first
          | refine CO.cons rfl ?_
          | refine CO.nil ?_
          | refine CV.seq ?_
          | refine CV.region callees ?_
          | refine CV.cond ?_
          | refine CV.block ?_
          | refine CV.skip ?_
          | refine CV.exit ?_
          | refine CV.ret ?_
          | refine CV.scope ?_
          | refine CV.draw callees rfl ?_
          | refine CH.cons rfl ?_
          | refine CH.nil ?_
          | refine CO.consG rfl ?_
          | refine CH.consG rfl ?_
          | refine CG.cons rfl ?_
          | refine CG.nil ?_
          | refine CG.consG rfl ?_
          | refine ⟨(rfl : plain _ = true), ?_⟩
          | refine ⟨(rfl : nilOk _ = some _), ?_⟩
          | refine ⟨_, ints_len (by assumption), ?_⟩
          | refine ⟨_, ints_addr (by assumption) (by omega) (by omega), ?_⟩
          | refine ⟨_, ints_load (by assumption) (by omega) (by omega), ?_⟩
          | refine ⟨(⟨by omega, by omega⟩ : inI64 _), ?_⟩
          | refine ⟨_, fun tm ha => step1_max rfl (ev_tmp ha rfl) (ev_tmp ha rfl), ?_⟩
          | refine ⟨_, fun tm ha => step1_min rfl (ev_tmp ha rfl) (ev_tmp ha rfl), ?_⟩
          | refine ⟨_, field_addr fo1 (by decide), ?_⟩
          | refine ⟨_, vfield_load ag3 hg3 rfl, ?_⟩
          | refine ⟨_, hl3.row.addr un88 sz91 (by omega) (by rw [hlen]; omega), ?_⟩
          | refine ⟨_, hl3.row.faddr fo0 (by decide) (by rw [hlen]; omega), ?_⟩
          | refine ⟨_, hl3.row.fload ag3 hii rfl, ?_⟩
          | (refine ⟨fun _ => ?_, fun _ => ?_⟩ <;> first | (exfalso; omega) | skip)
          | fail
        · repeat' first
            | refine CO.cons rfl ?_
            | refine CO.nil ?_
            | refine CV.seq ?_
            | refine CV.region callees ?_
            | refine CV.cond ?_
            | refine CV.block ?_
            | refine CV.skip ?_
            | refine CV.exit ?_
            | refine CV.ret ?_
            | refine CV.scope ?_
            | refine CV.draw callees rfl ?_
            | refine CH.cons rfl ?_
            | refine CH.nil ?_
            | refine CO.consG rfl ?_
            | refine CH.consG rfl ?_
            | refine CG.cons rfl ?_
            | refine CG.nil ?_
            | refine CG.consG rfl ?_
            | refine ⟨(rfl : plain _ = true), ?_⟩
            | refine ⟨(rfl : nilOk _ = some _), ?_⟩
            | refine ⟨_, ints_len (by assumption), ?_⟩
            | refine ⟨_, ints_addr (by assumption) (by omega) (by omega), ?_⟩
            | refine ⟨_, ints_load (by assumption) (by omega) (by omega), ?_⟩
            | refine ⟨(⟨by omega, by omega⟩ : inI64 _), ?_⟩
            | refine ⟨_, fun tm ha => step1_max rfl (ev_tmp ha rfl) (ev_tmp ha rfl), ?_⟩
            | refine ⟨_, fun tm ha => step1_min rfl (ev_tmp ha rfl) (ev_tmp ha rfl), ?_⟩
            | refine ⟨_, field_addr fo2 (by decide), ?_⟩
            | refine ⟨_, vfield_load ag3 hg3 rfl, ?_⟩
            | refine ⟨_, hl3.row.addr un88 sz91 (by omega) (by rw [hlen]; omega), ?_⟩
            | refine ⟨_, hl3.row.faddr fo2 (by decide) (by rw [hlen]; omega), ?_⟩
            | refine ⟨_, hl3.row.fload ag3 hii rfl, ?_⟩
            | (refine ⟨fun _ => ?_, fun _ => ?_⟩ <;> first | (exfalso; omega) | skip)
            | fail
          refine fstore_askS sz3 hl3 hB hii (by decide) rfl ?_
          intro H4 hl4 kb4
          have k5 := kb4.keep k4 fun c hc => (hl3.lt hc).1
          repeat' first
            | refine CO.cons rfl ?_
            | refine CO.nil ?_
            | refine CV.seq ?_
            | refine CV.region callees ?_
            | refine CV.cond ?_
            | refine CV.block ?_
            | refine CV.skip ?_
            | refine CV.exit ?_
            | refine CV.ret ?_
            | refine CV.scope ?_
            | refine CV.draw callees rfl ?_
            | refine CH.cons rfl ?_
            | refine CH.nil ?_
            | refine CO.consG rfl ?_
            | refine CH.consG rfl ?_
            | refine CG.cons rfl ?_
            | refine CG.nil ?_
            | refine CG.consG rfl ?_
            | refine ⟨(rfl : plain _ = true), ?_⟩
            | refine ⟨(rfl : nilOk _ = some _), ?_⟩
            | refine ⟨_, ints_len (by assumption), ?_⟩
            | refine ⟨_, ints_addr (by assumption) (by omega) (by omega), ?_⟩
            | refine ⟨_, ints_load (by assumption) (by omega) (by omega), ?_⟩
            | refine ⟨(⟨by omega, by omega⟩ : inI64 _), ?_⟩
            | refine ⟨_, fun tm ha => step1_max rfl (ev_tmp ha rfl) (ev_tmp ha rfl), ?_⟩
            | refine ⟨_, fun tm ha => step1_min rfl (ev_tmp ha rfl) (ev_tmp ha rfl), ?_⟩
            | (refine ⟨fun _ => ?_, fun _ => ?_⟩ <;> first | (exfalso; omega) | skip)
            | fail
          refine ⟨(j + 1), (by repeat' first | exact trivial | refine ⟨rfl, ?_⟩ | refine ⟨slot_int (by (try simp only [Int.toNat_natCast]); omega), ?_⟩), (by (try dsimp only); omega), ?_⟩
          refine ⟨by omega, k5, ?_⟩
          rw [if_pos (by omega)] at hsucc
          have h4 : OwnS 91 3 H4 l ((bmF xs fun b => if b = i then levA xs (levs xs i) i j else if b < i then lev xs b else 0).set i [VI (fst xs i), VI (lst xs i), VI (max (levA xs (levs xs i) i j) (lev xs j + 1))]) H.n := hl4
          rw [bmF_set hi3] at h4
          rw [bmF_congr (g := fun q => if q = i then max (levA xs (levs xs i) i j) (lev xs j + 1) else if q = i then levA xs (levs xs i) i j else if q < i then lev xs q else 0) (fun b _ => by
            by_cases hb : b = i
            · rw [if_pos hb, if_pos hb, hsucc]
            · rw [if_neg hb, if_neg hb, if_neg hb])]
          exact h4
        · refine ⟨(j + 1), (by repeat' first | exact trivial | refine ⟨rfl, ?_⟩ | refine ⟨slot_int (by (try simp only [Int.toNat_natCast]); omega), ?_⟩), (by (try dsimp only); omega), ?_⟩
          refine ⟨by omega, k4, ?_⟩
          rw [if_neg (by omega)] at hsucc
          rw [hsucc]; exact hl3
      · have : j = i := by omega
        subst this
        repeat' first
          | refine CO.cons rfl ?_
          | refine CO.nil ?_
          | refine CV.seq ?_
          | refine CV.region callees ?_
          | refine CV.cond ?_
          | refine CV.block ?_
          | refine CV.skip ?_
          | refine CV.exit ?_
          | refine CV.ret ?_
          | refine CV.scope ?_
          | refine CV.draw callees rfl ?_
          | refine CH.cons rfl ?_
          | refine CH.nil ?_
          | refine CO.consG rfl ?_
          | refine CH.consG rfl ?_
          | refine CG.cons rfl ?_
          | refine CG.nil ?_
          | refine CG.consG rfl ?_
          | refine ⟨(rfl : plain _ = true), ?_⟩
          | refine ⟨(rfl : nilOk _ = some _), ?_⟩
          | refine ⟨_, ints_len (by assumption), ?_⟩
          | refine ⟨_, ints_addr (by assumption) (by omega) (by omega), ?_⟩
          | refine ⟨_, ints_load (by assumption) (by omega) (by omega), ?_⟩
          | refine ⟨(⟨by omega, by omega⟩ : inI64 _), ?_⟩
          | refine ⟨_, fun tm ha => step1_max rfl (ev_tmp ha rfl) (ev_tmp ha rfl), ?_⟩
          | refine ⟨_, fun tm ha => step1_min rfl (ev_tmp ha rfl) (ev_tmp ha rfl), ?_⟩
          | (refine ⟨fun _ => ?_, fun _ => ?_⟩ <;> first | (exfalso; omega) | skip)
          | fail
        refine ⟨(j + 1), (by repeat' first | exact trivial | refine ⟨rfl, ?_⟩ | refine ⟨slot_int (by (try simp only [Int.toNat_natCast]); omega), ?_⟩), (by (try dsimp only); omega), ?_⟩
        refine ⟨by omega, hkw, ?_⟩
        rw [bmF_congr (g := fun b => if b = j then levA xs (levs xs j) j j else if b < j then lev xs b else 0) (fun b _ => by
          by_cases hb : b = j
          · subst hb; rw [if_pos (by omega), if_pos rfl]; rfl
          · by_cases hb2 : b < j
            · rw [if_pos (by omega), if_neg hb, if_pos hb2]
            · rw [if_neg (by omega), if_neg hb, if_neg hb2])]
        exact hlw
    · repeat' first
        | refine CO.cons rfl ?_
        | refine CO.nil ?_
        | refine CV.seq ?_
        | refine CV.region callees ?_
        | refine CV.cond ?_
        | refine CV.block ?_
        | refine CV.skip ?_
        | refine CV.exit ?_
        | refine CV.ret ?_
        | refine CV.scope ?_
        | refine CV.draw callees rfl ?_
        | refine CH.cons rfl ?_
        | refine CH.nil ?_
        | refine CO.consG rfl ?_
        | refine CH.consG rfl ?_
        | refine CG.cons rfl ?_
        | refine CG.nil ?_
        | refine CG.consG rfl ?_
        | refine ⟨(rfl : plain _ = true), ?_⟩
        | refine ⟨(rfl : nilOk _ = some _), ?_⟩
        | refine ⟨_, ints_len (by assumption), ?_⟩
        | refine ⟨_, ints_addr (by assumption) (by omega) (by omega), ?_⟩
        | refine ⟨_, ints_load (by assumption) (by omega) (by omega), ?_⟩
        | refine ⟨(⟨by omega, by omega⟩ : inI64 _), ?_⟩
        | refine ⟨_, fun tm ha => step1_max rfl (ev_tmp ha rfl) (ev_tmp ha rfl), ?_⟩
        | refine ⟨_, fun tm ha => step1_min rfl (ev_tmp ha rfl) (ev_tmp ha rfl), ?_⟩
        | (refine ⟨fun _ => ?_, fun _ => ?_⟩ <;> first | (exfalso; omega) | skip)
        | fail
      refine ⟨by simp only [List.all_cons, List.all_nil, hly.notTuple]; rfl, ?_, hky⟩
      rw [bmF_congr (g := fun b => if b < i then lev xs b else 0) (fun b hb => by rw [if_pos (by omega)])]
      exact hly
end Go.Proofs.YthcchjmjblegdaaDoor
