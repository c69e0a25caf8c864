/- The reference's ranks; partitions of ranks. -/
import Derived.Test.YthjieekbbhhjgaaDoorD1
namespace Go.Proofs.YthjieekbbhhjgaaDoor
open Go.AI
theorem blk_snoc (x : Int) : ∀ (l : List Int) (n : Int), blkFrom (l ++ [x]) n = max (blkFrom l n) (x + 1)
  | [], _ => rfl
  | y :: l, n => by rw [List.cons_append, blkFrom, blkFrom, blk_snoc x l]
theorem take_snoc {xs : List Int} {i : Nat} (h : i < xs.length) : xs.take (i + 1) = xs.take i ++ [xs[i]!] := by
  rw [List.take_add_one, List.getElem?_eq_getElem h, getElem!_pos xs i h]; rfl
set_option maxRecDepth 100000 in
theorem refBlocks_spec {B : Nat} {v : Value} {H : Heap} {xs : List Int} (hB : B ≤ H.n) (hv : Ints H v xs) (hb : ∀ i, i < xs.length → 0 ≤ xs[i]! ∧ xs[i]! < 9) (hn : xs.length < 1000000) :
    CallB Tryd.prog B 87 [v] H (fun r H' => r = .int .i64 (blkFrom xs 0) ∧ H' = H) := by
  refine CV.enter callees false rfl Tryd.func87 rfl ok87 (Nat.le_of_ble_eq_true rfl) hB ?_
  repeat' first
    | refine CO.cons rfl ?_
    | refine CO.nil ?_
    | refine CV.seq ?_
    | refine CV.region callees ?_
    | refine CV.cond ?_
    | refine CV.block ?_
    | refine CV.skip ?_
    | refine CV.exit ?_
    | refine CV.ret ?_
    | refine CV.scope ?_
    | refine CV.draw callees ?_
    | refine CH.cons rfl ?_
    | refine CH.nil ?_
    | refine CO.consG rfl ?_
    | refine CH.consG rfl ?_
    | refine ⟨(rfl : plain _ = true), ?_⟩
    | refine ⟨(rfl : nilOk _ = some _), ?_⟩
    | refine ⟨_, ints_len (by assumption), ?_⟩
    | refine ⟨_, ints_addr (by assumption) (by omega) (by omega), ?_⟩
    | refine ⟨_, ints_load (by assumption) (by omega) (by omega), ?_⟩
    | refine ⟨(⟨by omega, by omega⟩ : inI64 _), ?_⟩
    | refine ⟨_, fun tm ha => step1_max rfl (ev_tmp ha rfl) (ev_tmp ha rfl), ?_⟩
    | refine ⟨_, fun tm ha => step1_min rfl (ev_tmp ha rfl) (ev_tmp ha rfl), ?_⟩
    | (refine ⟨fun _ => ?_, fun _ => ?_⟩ <;> first | (exfalso; omega) | skip)
    | fail
  refine CV.loopc ?_
  refine WCv.rounds callees false (α := Int × Int) (fun (i, m) => [(0, v), (3, .int .i64 m), (4, .int .i64 i)]) (fun (i, m) Hz => Hz = H ∧ 0 ≤ i ∧ i ≤ xs.length ∧ 0 ≤ m ∧ m ≤ 9 ∧ blkFrom (xs.drop i.toNat) m = blkFrom xs 0) (fun (i, m) => xs.length - i.toNat) (0, 0) (by repeat' first | exact trivial | refine ⟨rfl, ?_⟩) ?_ ?_
  · exact ⟨rfl, by simp, by simp, by simp, by simp, by simp⟩
  rintro ⟨i, m⟩ Hx ⟨rfl, hi0, hi1, hm0, hm1, hc⟩ _
  by_cases hi : i < xs.length
  · have hx := hb i.toNat (by omega)
    rw [drop_cons (xs := xs) (n := i.toNat) (by omega), blkFrom] at hc
    repeat' first
      | refine CO.cons rfl ?_
      | refine CO.nil ?_
      | refine CV.seq ?_
      | refine CV.region callees ?_
      | refine CV.cond ?_
      | refine CV.block ?_
      | refine CV.skip ?_
      | refine CV.exit ?_
      | refine CV.ret ?_
      | refine CV.scope ?_
      | refine CV.draw callees ?_
      | refine CH.cons rfl ?_
      | refine CH.nil ?_
      | refine CO.consG rfl ?_
      | refine CH.consG rfl ?_
      | refine ⟨(rfl : plain _ = true), ?_⟩
      | refine ⟨(rfl : nilOk _ = some _), ?_⟩
      | refine ⟨_, ints_len (by assumption), ?_⟩
      | refine ⟨_, ints_addr (by assumption) (by omega) (by omega), ?_⟩
      | refine ⟨_, ints_load (by assumption) (by omega) (by omega), ?_⟩
      | refine ⟨(⟨by omega, by omega⟩ : inI64 _), ?_⟩
      | refine ⟨_, fun tm ha => step1_max rfl (ev_tmp ha rfl) (ev_tmp ha rfl), ?_⟩
      | refine ⟨_, fun tm ha => step1_min rfl (ev_tmp ha rfl) (ev_tmp ha rfl), ?_⟩
      | (refine ⟨fun _ => ?_, fun _ => ?_⟩ <;> first | (exfalso; omega) | skip)
      | fail
    refine ⟨(i + 1, max m (xs[i.toNat]! + 1)), (by repeat' first | exact trivial | refine ⟨rfl, ?_⟩), (by (try dsimp only); omega), ?_⟩
    exact ⟨rfl, by omega, by omega, by omega, by omega, by rw [show (i + 1).toNat = i.toNat + 1 by omega]; exact hc⟩
  · rw [show xs.drop i.toNat = [] by simp; omega, blkFrom] at hc
    repeat' first
      | refine CO.cons rfl ?_
      | refine CO.nil ?_
      | refine CV.seq ?_
      | refine CV.region callees ?_
      | refine CV.cond ?_
      | refine CV.block ?_
      | refine CV.skip ?_
      | refine CV.exit ?_
      | refine CV.ret ?_
      | refine CV.scope ?_
      | refine CV.draw callees ?_
      | refine CH.cons rfl ?_
      | refine CH.nil ?_
      | refine CO.consG rfl ?_
      | refine CH.consG rfl ?_
      | refine ⟨(rfl : plain _ = true), ?_⟩
      | refine ⟨(rfl : nilOk _ = some _), ?_⟩
      | refine ⟨_, ints_len (by assumption), ?_⟩
      | refine ⟨_, ints_addr (by assumption) (by omega) (by omega), ?_⟩
      | refine ⟨_, ints_load (by assumption) (by omega) (by omega), ?_⟩
      | refine ⟨(⟨by omega, by omega⟩ : inI64 _), ?_⟩
      | refine ⟨_, fun tm ha => step1_max rfl (ev_tmp ha rfl) (ev_tmp ha rfl), ?_⟩
      | refine ⟨_, fun tm ha => step1_min rfl (ev_tmp ha rfl) (ev_tmp ha rfl), ?_⟩
      | (refine ⟨fun _ => ?_, fun _ => ?_⟩ <;> first | (exfalso; omega) | skip)
      | fail
    exact ⟨rfl, by rw [hc], rfl⟩

theorem take_bound {xs : List Int} (h : ∀ i, i < xs.length → 0 ≤ xs[i]! ∧ xs[i]! < 9) (k : Nat) : ∀ i, i < (xs.take k).length → 0 ≤ (xs.take k)[i]! ∧ (xs.take k)[i]! < 9 := by
  intro i hi
  have h1 : i < xs.length := by rw [List.length_take] at hi; omega
  have := h i h1
  rw [getElem!_pos _ i hi, List.getElem_take]
  rwa [getElem!_pos _ i h1] at this
theorem ints_take {H : Heap} {v : Value} {xs : List Int} (h : Ints H v xs) : Ints H v xs := h

set_option maxRecDepth 100000 in
theorem refRank_spec {B : Nat} {v : Value} {H : Heap} {xs : List Int} (hn : B ≤ H.n) (hv : Ints H v xs) :
    CallB Tryd.prog B 36 [v] H (fun r H' => r = pairV (rankR xs) ∧ H' = H) := by
  refine CV.enter callees false rfl Tryd.func36 rfl ok36 (Nat.le_of_ble_eq_true rfl) hn ?_
  repeat' first
    | refine CO.cons rfl ?_
    | refine CO.nil ?_
    | refine CV.seq ?_
    | refine CV.region callees ?_
    | refine CV.cond ?_
    | refine CV.block ?_
    | refine CV.skip ?_
    | refine CV.exit ?_
    | refine CV.ret ?_
    | refine CV.scope ?_
    | refine CV.draw callees ?_
    | refine CH.cons rfl ?_
    | refine CH.nil ?_
    | refine CO.consG rfl ?_
    | refine CH.consG rfl ?_
    | refine ⟨(rfl : plain _ = true), ?_⟩
    | refine ⟨(rfl : nilOk _ = some _), ?_⟩
    | refine ⟨_, ints_len (by assumption), ?_⟩
    | refine ⟨_, ints_addr (by assumption) (by omega) (by omega), ?_⟩
    | refine ⟨_, ints_load (by assumption) (by omega) (by omega), ?_⟩
    | refine ⟨(⟨by omega, by omega⟩ : inI64 _), ?_⟩
    | refine ⟨_, fun tm ha => step1_max rfl (ev_tmp ha rfl) (ev_tmp ha rfl), ?_⟩
    | refine ⟨_, fun tm ha => step1_min rfl (ev_tmp ha rfl) (ev_tmp ha rfl), ?_⟩
    | (refine ⟨fun _ => ?_, fun _ => ?_⟩ <;> first | (exfalso; omega) | skip)
    | fail
  refine (refCheck_spec hn hv).mono ?_
  rintro r H1 ⟨rfl, rfl⟩
  repeat' first
    | refine CO.cons rfl ?_
    | refine CO.nil ?_
    | refine CV.seq ?_
    | refine CV.region callees ?_
    | refine CV.cond ?_
    | refine CV.block ?_
    | refine CV.skip ?_
    | refine CV.exit ?_
    | refine CV.ret ?_
    | refine CV.scope ?_
    | refine CV.draw callees ?_
    | refine CH.cons rfl ?_
    | refine CH.nil ?_
    | refine CO.consG rfl ?_
    | refine CH.consG rfl ?_
    | refine ⟨(rfl : plain _ = true), ?_⟩
    | refine ⟨(rfl : nilOk _ = some _), ?_⟩
    | refine ⟨_, ints_len (by assumption), ?_⟩
    | refine ⟨_, ints_addr (by assumption) (by omega) (by omega), ?_⟩
    | refine ⟨_, ints_load (by assumption) (by omega) (by omega), ?_⟩
    | refine ⟨(⟨by omega, by omega⟩ : inI64 _), ?_⟩
    | refine ⟨_, fun tm ha => step1_max rfl (ev_tmp ha rfl) (ev_tmp ha rfl), ?_⟩
    | refine ⟨_, fun tm ha => step1_min rfl (ev_tmp ha rfl) (ev_tmp ha rfl), ?_⟩
    | (refine ⟨fun _ => ?_, fun _ => ?_⟩ <;> first | (exfalso; omega) | skip)
    | fail
  · exact ⟨rfl, by rw [rankR, if_neg (by assumption)]; rfl, rfl⟩
  have h0 : check xs = 0 := Classical.not_not.1 (by assumption)
  have hlx := check_from h0
  have hbd : ∀ i, i < xs.length → 0 ≤ xs[i]! ∧ xs[i]! < 9 := fun i hi => check_bound h0 hi
  have hd0 := drop_cons (xs := xs) (n := 0) (by omega)
  rw [List.drop_zero] at hd0
  have hst := hlx.1
  rw [hd0] at hst
  obtain ⟨hx0, hx8, hxm, hc'⟩ := from_step hst
  have hx00 : xs[0]! = 0 := by omega
  have ht1 : blkFrom (xs.take 1) 0 = 1 := by
    have := take_snoc (xs := xs) (i := 0) (by omega)
    rw [this, List.take_zero, List.nil_append, blkFrom, blkFrom, hx00]; rfl
  have hr1 : rkF (xs.drop 1) 1 = rkF xs 0 := by
    conv => rhs; rw [hd0, rkF, hx00]
    simp
    rfl
  rw [hx00] at hc'
  refine CV.loopc ?_
  refine WCv.rounds callees false (α := Int × Int) (fun (i, s) => [(0, v), (5, .int .i64 s), (6, .int .i64 i)]) (fun (i, s) Hz => Hz = H1 ∧ 1 ≤ i ∧ i ≤ xs.length ∧ 0 ≤ blkFrom (xs.take i.toNat) 0 ∧ blkFrom (xs.take i.toNat) 0 ≤ i ∧ 0 ≤ s ∧ s ≤ i * 200000 ∧ checkFrom (xs.drop i.toNat) (blkFrom (xs.take i.toNat) 0) = 0 ∧ s + rkF (xs.drop i.toNat) (blkFrom (xs.take i.toNat) 0) = rkF xs 0) (fun (i, s) => xs.length - i.toNat) (1, 0) (by repeat' first | exact trivial | refine ⟨rfl, ?_⟩) ?_ ?_
  · refine ⟨rfl, by omega, by omega, ?_, ?_, by omega, by omega, ?_, ?_⟩
    · show 0 ≤ blkFrom (xs.take 1) 0; omega
    · show blkFrom (xs.take 1) 0 ≤ 1; omega
    · show checkFrom (xs.drop 1) (blkFrom (xs.take 1) 0) = 0; rw [ht1]; exact hc'
    · show 0 + rkF (xs.drop 1) (blkFrom (xs.take 1) 0) = rkF xs 0; rw [ht1, hr1]; omega
  rintro ⟨i, s⟩ Hx ⟨rfl, hi0, hi1, hm0, hm1, hs0, hs1, hc, hr⟩ hBx
  by_cases hi : i < xs.length
  · have hdl : (xs.drop (i.toNat + 1)).length = ((xs.length : Int) - 1 - i).toNat := by simp; omega
    have hts := take_snoc (xs := xs) (i := i.toNat) (by omega)
    have hbs := blk_snoc xs[i.toNat]! (xs.take i.toNat) 0
    rw [← hts] at hbs
    generalize hm : blkFrom (xs.take i.toNat) 0 = m at hm0 hm1 hc hr hbs
    rw [drop_cons (xs := xs) (n := i.toNat) (by omega)] at hc hr
    obtain ⟨hy0, hy8, hym, hc2⟩ := from_step hc
    have be := beh_at (n := ((xs.length : Int) - 1 - i).toNat) (b := m) hm0 (by omega)
    rw [rkF, hdl] at hr
    have mb := mul_bound (x := xs[i.toNat]!) (y := behM ((xs.length : Int) - 1 - i).toNat m) hy0 hy8 (by omega) (by omega)
    repeat' first
      | refine CO.cons rfl ?_
      | refine CO.nil ?_
      | refine CV.seq ?_
      | refine CV.region callees ?_
      | refine CV.cond ?_
      | refine CV.block ?_
      | refine CV.skip ?_
      | refine CV.exit ?_
      | refine CV.ret ?_
      | refine CV.scope ?_
      | refine CV.draw callees ?_
      | refine CH.cons rfl ?_
      | refine CH.nil ?_
      | refine CO.consG rfl ?_
      | refine CH.consG rfl ?_
      | refine ⟨(rfl : plain _ = true), ?_⟩
      | refine ⟨(rfl : nilOk _ = some _), ?_⟩
      | refine ⟨_, ints_len (by assumption), ?_⟩
      | refine ⟨_, ints_addr (by assumption) (by omega) (by omega), ?_⟩
      | refine ⟨_, ints_load (by assumption) (by omega) (by omega), ?_⟩
      | refine ⟨(⟨by omega, by omega⟩ : inI64 _), ?_⟩
      | refine ⟨_, fun tm ha => step1_max rfl (ev_tmp ha rfl) (ev_tmp ha rfl), ?_⟩
      | refine ⟨_, fun tm ha => step1_min rfl (ev_tmp ha rfl) (ev_tmp ha rfl), ?_⟩
      | refine slice_ask (by assumption) (by omega) (by omega) ?_
      | (refine ⟨fun _ => ?_, fun _ => ?_⟩ <;> first | (exfalso; omega) | skip)
      | fail
    intro t ht
    repeat' first
      | refine CO.cons rfl ?_
      | refine CO.nil ?_
      | refine CV.seq ?_
      | refine CV.region callees ?_
      | refine CV.cond ?_
      | refine CV.block ?_
      | refine CV.skip ?_
      | refine CV.exit ?_
      | refine CV.ret ?_
      | refine CV.scope ?_
      | refine CV.draw callees ?_
      | refine CH.cons rfl ?_
      | refine CH.nil ?_
      | refine CO.consG rfl ?_
      | refine CH.consG rfl ?_
      | refine ⟨(rfl : plain _ = true), ?_⟩
      | refine ⟨(rfl : nilOk _ = some _), ?_⟩
      | refine ⟨_, ints_len (by assumption), ?_⟩
      | refine ⟨_, ints_addr (by assumption) (by omega) (by omega), ?_⟩
      | refine ⟨_, ints_load (by assumption) (by omega) (by omega), ?_⟩
      | refine ⟨(⟨by omega, by omega⟩ : inI64 _), ?_⟩
      | refine ⟨_, fun tm ha => step1_max rfl (ev_tmp ha rfl) (ev_tmp ha rfl), ?_⟩
      | refine ⟨_, fun tm ha => step1_min rfl (ev_tmp ha rfl) (ev_tmp ha rfl), ?_⟩
      | (refine ⟨fun _ => ?_, fun _ => ?_⟩ <;> first | (exfalso; omega) | skip)
      | fail
    refine (refBlocks_spec (Nat.le_refl _) ht (take_bound hbd _) (by rw [List.length_take]; omega)).mono ?_
    rintro r H2 ⟨rfl, rfl⟩
    rw [hm]
    repeat' first
      | refine CO.cons rfl ?_
      | refine CO.nil ?_
      | refine CV.seq ?_
      | refine CV.region callees ?_
      | refine CV.cond ?_
      | refine CV.block ?_
      | refine CV.skip ?_
      | refine CV.exit ?_
      | refine CV.ret ?_
      | refine CV.scope ?_
      | refine CV.draw callees ?_
      | refine CH.cons rfl ?_
      | refine CH.nil ?_
      | refine CO.consG rfl ?_
      | refine CH.consG rfl ?_
      | refine ⟨(rfl : plain _ = true), ?_⟩
      | refine ⟨(rfl : nilOk _ = some _), ?_⟩
      | refine ⟨_, ints_len (by assumption), ?_⟩
      | refine ⟨_, ints_addr (by assumption) (by omega) (by omega), ?_⟩
      | refine ⟨_, ints_load (by assumption) (by omega) (by omega), ?_⟩
      | refine ⟨(⟨by omega, by omega⟩ : inI64 _), ?_⟩
      | refine ⟨_, fun tm ha => step1_max rfl (ev_tmp ha rfl) (ev_tmp ha rfl), ?_⟩
      | refine ⟨_, fun tm ha => step1_min rfl (ev_tmp ha rfl) (ev_tmp ha rfl), ?_⟩
      | (refine ⟨fun _ => ?_, fun _ => ?_⟩ <;> first | (exfalso; omega) | skip)
      | fail
    refine (behind_spec ((xs.length : Int) - 1 - i).toNat (Nat.le_refl _) (by omega) hm0 (by omega)).mono ?_
    rintro r H3 ⟨rfl, rfl⟩
    repeat' first
      | refine CO.cons rfl ?_
      | refine CO.nil ?_
      | refine CV.seq ?_
      | refine CV.region callees ?_
      | refine CV.cond ?_
      | refine CV.block ?_
      | refine CV.skip ?_
      | refine CV.exit ?_
      | refine CV.ret ?_
      | refine CV.scope ?_
      | refine CV.draw callees ?_
      | refine CH.cons rfl ?_
      | refine CH.nil ?_
      | refine CO.consG rfl ?_
      | refine CH.consG rfl ?_
      | refine ⟨(rfl : plain _ = true), ?_⟩
      | refine ⟨(rfl : nilOk _ = some _), ?_⟩
      | refine ⟨_, ints_len (by assumption), ?_⟩
      | refine ⟨_, ints_addr (by assumption) (by omega) (by omega), ?_⟩
      | refine ⟨_, ints_load (by assumption) (by omega) (by omega), ?_⟩
      | refine ⟨(⟨by omega, by omega⟩ : inI64 _), ?_⟩
      | refine ⟨_, fun tm ha => step1_max rfl (ev_tmp ha rfl) (ev_tmp ha rfl), ?_⟩
      | refine ⟨_, fun tm ha => step1_min rfl (ev_tmp ha rfl) (ev_tmp ha rfl), ?_⟩
      | (refine ⟨fun _ => ?_, fun _ => ?_⟩ <;> first | (exfalso; omega) | skip)
      | fail
    refine ⟨(i + 1, s + xs[i.toNat]! * behM ((xs.length : Int) - 1 - i).toNat m), (by repeat' first | exact trivial | refine ⟨rfl, ?_⟩), (by (try dsimp only); omega), ?_⟩
    have e : (i + 1).toNat = i.toNat + 1 := by omega
    refine ⟨rfl, by omega, by omega, ?_, ?_, by omega, by omega, ?_, ?_⟩
    · rw [e, hbs]; omega
    · rw [e, hbs]; omega
    · rw [e, hbs]; exact hc2
    · rw [e, hbs]; omega
  · rw [show xs.drop i.toNat = [] by simp; omega, rkF] at hr
    repeat' first
      | refine CO.cons rfl ?_
      | refine CO.nil ?_
      | refine CV.seq ?_
      | refine CV.region callees ?_
      | refine CV.cond ?_
      | refine CV.block ?_
      | refine CV.skip ?_
      | refine CV.exit ?_
      | refine CV.ret ?_
      | refine CV.scope ?_
      | refine CV.draw callees ?_
      | refine CH.cons rfl ?_
      | refine CH.nil ?_
      | refine CO.consG rfl ?_
      | refine CH.consG rfl ?_
      | refine ⟨(rfl : plain _ = true), ?_⟩
      | refine ⟨(rfl : nilOk _ = some _), ?_⟩
      | refine ⟨_, ints_len (by assumption), ?_⟩
      | refine ⟨_, ints_addr (by assumption) (by omega) (by omega), ?_⟩
      | refine ⟨_, ints_load (by assumption) (by omega) (by omega), ?_⟩
      | refine ⟨(⟨by omega, by omega⟩ : inI64 _), ?_⟩
      | refine ⟨_, fun tm ha => step1_max rfl (ev_tmp ha rfl) (ev_tmp ha rfl), ?_⟩
      | refine ⟨_, fun tm ha => step1_min rfl (ev_tmp ha rfl) (ev_tmp ha rfl), ?_⟩
      | (refine ⟨fun _ => ?_, fun _ => ?_⟩ <;> first | (exfalso; omega) | skip)
      | fail
    exact ⟨rfl, by rw [rankR, if_pos h0, ← hr]; simp [pairV], rfl⟩

/-- The partition that has a rank, from a place on. -/
def unM : Nat → Int → Int → List Int
  | 0, _, _ => []
  | m + 1, rest, b => min (rest.tdiv (behM m b)) b :: unM m (rest - min (rest.tdiv (behM m b)) b * behM m b) (max b (min (rest.tdiv (behM m b)) b + 1))
def unE (n rank : Int) : Int := if (cntR n).2 ≠ 0 then (cntR n).2 else if rank < 0 ∨ (cntR n).1 ≤ rank then 7 else 0
def unL (n rank : Int) : List Int := if unE n rank = 0 then unM n.toNat rank 0 else []
theorem un_step {rest e b : Int} (h0 : 0 ≤ rest) (h1 : rest ≤ 21147) (he : 1 ≤ e) (hb0 : 0 ≤ b) : 0 ≤ rest.tdiv e ∧ rest.tdiv e ≤ 21147 ∧ 0 ≤ min (rest.tdiv e) b ∧ min (rest.tdiv e) b ≤ b ∧ 0 ≤ min (rest.tdiv e) b * e ∧ min (rest.tdiv e) b * e ≤ rest := by
  have h2 : 0 ≤ rest.tdiv e := Int.tdiv_nonneg h0 (by omega)
  have h3 : rest.tdiv e * e ≤ rest := by
    rw [Int.tdiv_eq_ediv_of_nonneg h0]
    exact Int.ediv_mul_le rest (by omega)
  have h4 : rest.tdiv e ≤ rest := by
    rw [Int.tdiv_eq_ediv_of_nonneg h0]
    exact Int.ediv_le_self e h0
  have h5 : 0 ≤ min (rest.tdiv e) b := by omega
  exact ⟨h2, by omega, h5, by omega, Int.mul_nonneg h5 (by omega), Int.le_trans (Int.mul_le_mul_of_nonneg_right (by omega) (by omega)) h3⟩
end Go.Proofs.YthjieekbbhhjgaaDoor
