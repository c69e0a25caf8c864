/- The next partition. -/
import Derived.Test.YthjieekbbhhjgaaDoorD2
namespace Go.Proofs.YthjieekbbhhjgaaDoor
open Go.AI
theorem ints_nt' {H : Heap} {v : Value} {xs : List Int} (h : Ints H v xs) : notTuple v = true := by
  rcases h with ⟨rfl, _⟩ | ⟨rfl, _⟩ | ⟨_, _, _, _, _, _, rfl, _⟩ <;> rfl
/-- The next list, if its last change is at a place or before. -/
def nxF (xs : List Int) : Nat → Option (List Int)
  | 0 => none
  | i + 1 => if xs[i + 1]! < blkFrom (xs.take (i + 1)) 0 then some (xs.take (i + 1) ++ (xs[i + 1]! + 1) :: List.replicate (xs.length - (i + 2)) 0) else nxF xs i
def nxO (xs : List Int) : Option (List Int) := nxF xs (xs.length - 1)
def nxE (xs : List Int) : Int := if check xs = 0 then (if (nxO xs).isSome then 0 else 7) else check xs
def nxL (xs : List Int) : List Int := if check xs = 0 then (nxO xs).getD [] else []

set_option maxRecDepth 100000 in
theorem max_spec {B : Nat} {v : Value} {H : Heap} {xs : List Int} (hB : B ≤ H.n) (hv : Ints H v xs) (hb : ∀ i, i < xs.length → 0 ≤ xs[i]! ∧ xs[i]! < 9) (h0 : 0 < xs.length) (hn : xs.length < 1000000) :
    CallB Tryd.prog B 107 [v] H (fun r H' => r = .int .i64 (blkFrom xs 0 - 1) ∧ H' = H) := by
  refine CV.enter callees false rfl Tryd.func107 rfl ok107 (Nat.le_of_ble_eq_true rfl) hB ?_
  repeat' first
    | refine CO.cons rfl ?_
    | refine CO.nil ?_
    | refine CV.seq ?_
    | refine CV.region callees ?_
    | refine CV.cond ?_
    | refine CV.block ?_
    | refine CV.skip ?_
    | refine CV.exit ?_
    | refine CV.ret ?_
    | refine CV.scope ?_
    | refine CV.draw callees ?_
    | refine CH.cons rfl ?_
    | refine CH.nil ?_
    | refine CO.consG rfl ?_
    | refine CH.consG rfl ?_
    | refine ⟨(rfl : plain _ = true), ?_⟩
    | refine ⟨(rfl : nilOk _ = some _), ?_⟩
    | refine ⟨_, ints_len (by assumption), ?_⟩
    | refine ⟨_, ints_addr (by assumption) (by omega) (by omega), ?_⟩
    | refine ⟨_, ints_load (by assumption) (by omega) (by omega), ?_⟩
    | refine ⟨(⟨by omega, by omega⟩ : inI64 _), ?_⟩
    | refine ⟨_, fun tm ha => step1_max rfl (ev_tmp ha rfl) (ev_tmp ha rfl), ?_⟩
    | refine ⟨_, fun tm ha => step1_min rfl (ev_tmp ha rfl) (ev_tmp ha rfl), ?_⟩
    | (refine ⟨fun _ => ?_, fun _ => ?_⟩ <;> first | (exfalso; omega) | skip)
    | fail
  have hx0 := hb 0 h0
  have hd := drop_cons (xs := xs) (n := 0) (by omega)
  rw [List.drop_zero] at hd
  refine CV.loopc ?_
  refine WCv.rounds callees false (α := Int × Int) (fun (i, m) => [(0, v), (3, .int .i64 m), (4, .int .i64 i)]) (fun (i, m) Hz => Hz = H ∧ 1 ≤ i ∧ i ≤ xs.length ∧ 0 ≤ m ∧ m ≤ 8 ∧ blkFrom (xs.drop i.toNat) (m + 1) = blkFrom xs 0) (fun (i, m) => xs.length - i.toNat) (1, xs[0]!) (by repeat' first | exact trivial | refine ⟨rfl, ?_⟩) ?_ ?_
  · refine ⟨rfl, by omega, by omega, by omega, by omega, ?_⟩
    show blkFrom (xs.drop 1) (xs[0]! + 1) = blkFrom xs 0
    conv => rhs; rw [hd, blkFrom]
    rw [show max (0 : Int) (xs[0]! + 1) = xs[0]! + 1 by omega]
  rintro ⟨i, m⟩ Hx ⟨rfl, hi0, hi1, hm0, hm1, hc⟩ _
  by_cases hi : i < xs.length
  · have hx := hb i.toNat (by omega)
    rw [drop_cons (xs := xs) (n := i.toNat) (by omega), blkFrom] at hc
    repeat' first
      | refine CO.cons rfl ?_
      | refine CO.nil ?_
      | refine CV.seq ?_
      | refine CV.region callees ?_
      | refine CV.cond ?_
      | refine CV.block ?_
      | refine CV.skip ?_
      | refine CV.exit ?_
      | refine CV.ret ?_
      | refine CV.scope ?_
      | refine CV.draw callees ?_
      | refine CH.cons rfl ?_
      | refine CH.nil ?_
      | refine CO.consG rfl ?_
      | refine CH.consG rfl ?_
      | refine ⟨(rfl : plain _ = true), ?_⟩
      | refine ⟨(rfl : nilOk _ = some _), ?_⟩
      | refine ⟨_, ints_len (by assumption), ?_⟩
      | refine ⟨_, ints_addr (by assumption) (by omega) (by omega), ?_⟩
      | refine ⟨_, ints_load (by assumption) (by omega) (by omega), ?_⟩
      | refine ⟨(⟨by omega, by omega⟩ : inI64 _), ?_⟩
      | refine ⟨_, fun tm ha => step1_max rfl (ev_tmp ha rfl) (ev_tmp ha rfl), ?_⟩
      | refine ⟨_, fun tm ha => step1_min rfl (ev_tmp ha rfl) (ev_tmp ha rfl), ?_⟩
      | (refine ⟨fun _ => ?_, fun _ => ?_⟩ <;> first | (exfalso; omega) | skip)
      | fail
    refine ⟨(i + 1, max m xs[i.toNat]!), (by repeat' first | exact trivial | refine ⟨rfl, ?_⟩), (by (try dsimp only); omega), ?_⟩
    exact ⟨rfl, by omega, by omega, by omega, by omega, by rw [show (i + 1).toNat = i.toNat + 1 by omega, show max m xs[i.toNat]! + 1 = max (m + 1) (xs[i.toNat]! + 1) by omega]; exact hc⟩
  · rw [show xs.drop i.toNat = [] by simp; omega, blkFrom] at hc
    repeat' first
      | refine CO.cons rfl ?_
      | refine CO.nil ?_
      | refine CV.seq ?_
      | refine CV.region callees ?_
      | refine CV.cond ?_
      | refine CV.block ?_
      | refine CV.skip ?_
      | refine CV.exit ?_
      | refine CV.ret ?_
      | refine CV.scope ?_
      | refine CV.draw callees ?_
      | refine CH.cons rfl ?_
      | refine CH.nil ?_
      | refine CO.consG rfl ?_
      | refine CH.consG rfl ?_
      | refine ⟨(rfl : plain _ = true), ?_⟩
      | refine ⟨(rfl : nilOk _ = some _), ?_⟩
      | refine ⟨_, ints_len (by assumption), ?_⟩
      | refine ⟨_, ints_addr (by assumption) (by omega) (by omega), ?_⟩
      | refine ⟨_, ints_load (by assumption) (by omega) (by omega), ?_⟩
      | refine ⟨(⟨by omega, by omega⟩ : inI64 _), ?_⟩
      | refine ⟨_, fun tm ha => step1_max rfl (ev_tmp ha rfl) (ev_tmp ha rfl), ?_⟩
      | refine ⟨_, fun tm ha => step1_min rfl (ev_tmp ha rfl) (ev_tmp ha rfl), ?_⟩
      | (refine ⟨fun _ => ?_, fun _ => ?_⟩ <;> first | (exfalso; omega) | skip)
      | fail
    exact ⟨rfl, by rw [← hc]; congr 1; omega, rfl⟩

/-- The beginning, and nothing but 0 behind it. -/
def cut (xs : List Int) (j : Nat) : List Int := xs.take j ++ List.replicate (xs.length - j) 0
theorem cut_length {xs : List Int} {j : Nat} (h : j ≤ xs.length) : (cut xs j).length = xs.length := by simp [cut]; omega
theorem cut_at {xs : List Int} {j : Nat} (h : j < xs.length) : (cut xs (j + 1))[j]! = xs[j]! := by
  rw [getElem!_pos (cut xs (j + 1)) j (by rw [cut_length (by omega)]; exact h), getElem!_pos xs j h]
  unfold cut
  rw [List.getElem_append_left (by simp; omega), List.getElem_take]
theorem cut_take {xs : List Int} {j : Nat} (h : j < xs.length) : (cut xs (j + 1)).take j = xs.take j := by
  unfold cut
  rw [List.take_append_of_le_length (by simp; omega), List.take_take, Nat.min_eq_left (by omega)]
theorem cut_set {xs : List Int} {j : Nat} {y : Int} (h : j < xs.length) : (cut xs (j + 1)).set j y = xs.take j ++ y :: List.replicate (xs.length - (j + 1)) 0 := by
  unfold cut
  rw [take_snoc h, List.append_assoc, List.set_append_right _ _ (by simp; omega)]
  simp [List.length_take, Nat.min_eq_left (Nat.le_of_lt h)]
theorem cut_zero {xs : List Int} {j : Nat} (h : j < xs.length) : (cut xs (j + 1)).set j 0 = cut xs j := by
  rw [cut_set h, cut]
  rw [show xs.length - j = (xs.length - (j + 1)) + 1 by omega, List.replicate_succ]
theorem cut_all (xs : List Int) : cut xs xs.length = xs := by simp [cut]

set_option maxHeartbeats 1000000 in
set_option maxRecDepth 100000 in
theorem following_spec {B : Nat} {v : Value} {H : Heap} {xs : List Int} (hB : B ≤ H.n) (hv : Ints H v xs) (hb : ∀ i, i < xs.length → 0 ≤ xs[i]! ∧ xs[i]! < 9) (h0 : 0 < xs.length) (hn : xs.length < 1000000) :
    CallB Tryd.prog B 88 [v] H (fun r H' => (∃ u, r = .tuple #[u, .bool (nxO xs).isSome] ∧ Ints H' u ((nxO xs).getD []) ∧ ∀ c, blkOf u = some c → H.n ≤ c) ∧ Keep H H') := by
  refine CV.enter callees false rfl Tryd.func88 rfl ok88 (Nat.le_of_ble_eq_true rfl) hB ?_
  repeat' first
    | refine CO.cons rfl ?_
    | refine CO.nil ?_
    | refine CV.seq ?_
    | refine CV.region callees ?_
    | refine CV.cond ?_
    | refine CV.block ?_
    | refine CV.skip ?_
    | refine CV.exit ?_
    | refine CV.ret ?_
    | refine CV.scope ?_
    | refine CV.draw callees ?_
    | refine CH.cons rfl ?_
    | refine CH.nil ?_
    | refine CO.consG rfl ?_
    | refine CH.consG rfl ?_
    | refine ⟨(rfl : plain _ = true), ?_⟩
    | refine ⟨(rfl : nilOk _ = some _), ?_⟩
    | refine ⟨_, ints_len (by assumption), ?_⟩
    | refine ⟨_, ints_addr (by assumption) (by omega) (by omega), ?_⟩
    | refine ⟨_, ints_load (by assumption) (by omega) (by omega), ?_⟩
    | refine ⟨(⟨by omega, by omega⟩ : inI64 _), ?_⟩
    | refine ⟨_, fun tm ha => step1_max rfl (ev_tmp ha rfl) (ev_tmp ha rfl), ?_⟩
    | refine ⟨_, fun tm ha => step1_min rfl (ev_tmp ha rfl) (ev_tmp ha rfl), ?_⟩
    | (refine ⟨fun _ => ?_, fun _ => ?_⟩ <;> first | (exfalso; omega) | skip)
    | fail
  refine (clone_spec hB hv hn).mono ?_
  rintro w H1 ⟨hw, k1⟩
  have hwi : Ints H1 w xs := hw.row
  repeat' first
    | refine CO.cons rfl ?_
    | refine CO.nil ?_
    | refine CV.seq ?_
    | refine CV.region callees ?_
    | refine CV.cond ?_
    | refine CV.block ?_
    | refine CV.skip ?_
    | refine CV.exit ?_
    | refine CV.ret ?_
    | refine CV.scope ?_
    | refine CV.draw callees ?_
    | refine CH.cons rfl ?_
    | refine CH.nil ?_
    | refine CO.consG rfl ?_
    | refine CH.consG rfl ?_
    | refine ⟨(rfl : plain _ = true), ?_⟩
    | refine ⟨(rfl : nilOk _ = some _), ?_⟩
    | refine ⟨_, ints_len (by assumption), ?_⟩
    | refine ⟨_, ints_addr (by assumption) (by omega) (by omega), ?_⟩
    | refine ⟨_, ints_load (by assumption) (by omega) (by omega), ?_⟩
    | refine ⟨(⟨by omega, by omega⟩ : inI64 _), ?_⟩
    | refine ⟨_, fun tm ha => step1_max rfl (ev_tmp ha rfl) (ev_tmp ha rfl), ?_⟩
    | refine ⟨_, fun tm ha => step1_min rfl (ev_tmp ha rfl) (ev_tmp ha rfl), ?_⟩
    | (refine ⟨fun _ => ?_, fun _ => ?_⟩ <;> first | (exfalso; omega) | skip)
    | fail
  refine CV.loopc ?_
  refine WCv.rounds callees false (α := Int) (fun j => [(4, w), (5, .int .i64 j)]) (fun j Hz => 0 ≤ j ∧ j < xs.length ∧ Own 3 Hz w ((cut xs (j.toNat + 1)).map VI) H.n ∧ Keep H Hz ∧ nxF xs j.toNat = nxO xs) (fun j => j.toNat) ((xs.length : Int) - 1) (by repeat' first | exact trivial | refine ⟨rfl, ?_⟩) ?_ ?_
  · have e : ((xs.length : Int) - 1).toNat + 1 = xs.length := by omega
    refine ⟨by omega, by omega, ?_, k1, ?_⟩
    · show Own 3 H1 w ((cut xs (((xs.length : Int) - 1).toNat + 1)).map VI) H.n
      rw [e, cut_all]; exact hw
    · show nxF xs ((xs.length : Int) - 1).toNat = nxO xs
      rw [nxO, show ((xs.length : Int) - 1).toNat = xs.length - 1 by omega]
  rintro j Hx ⟨hj0, hj1, hwx, hkx, hM⟩ hBx
  have hwi' : Ints Hx w (cut xs (j.toNat + 1)) := hwx.row
  have hlen : (cut xs (j.toNat + 1)).length = xs.length := cut_length (by omega)
  have hget : (cut xs (j.toNat + 1))[j.toNat]! = xs[j.toNat]! := cut_at (by omega)
  by_cases hj : 0 < j
  · obtain ⟨q, hq⟩ : ∃ q, j.toNat = q + 1 := ⟨j.toNat - 1, by omega⟩
    have hx := hb j.toNat (by omega)
    have hct : (cut xs (j.toNat + 1)).take j.toNat = xs.take j.toNat := cut_take (by omega)
    have hlt : (xs.take j.toNat).length = j.toNat := by rw [List.length_take]; omega
    repeat' first
      | refine CO.cons rfl ?_
      | refine CO.nil ?_
      | refine CV.seq ?_
      | refine CV.region callees ?_
      | refine CV.cond ?_
      | refine CV.block ?_
      | refine CV.skip ?_
      | refine CV.exit ?_
      | refine CV.ret ?_
      | refine CV.scope ?_
      | refine CV.draw callees ?_
      | refine CH.cons rfl ?_
      | refine CH.nil ?_
      | refine CO.consG rfl ?_
      | refine CH.consG rfl ?_
      | refine ⟨(rfl : plain _ = true), ?_⟩
      | refine ⟨(rfl : nilOk _ = some _), ?_⟩
      | refine ⟨_, ints_len (by assumption), ?_⟩
      | refine ⟨_, ints_addr (by assumption) (by omega) (by omega), ?_⟩
      | refine ⟨_, ints_load (by assumption) (by omega) (by omega), ?_⟩
      | refine ⟨(⟨by omega, by omega⟩ : inI64 _), ?_⟩
      | refine ⟨_, fun tm ha => step1_max rfl (ev_tmp ha rfl) (ev_tmp ha rfl), ?_⟩
      | refine ⟨_, fun tm ha => step1_min rfl (ev_tmp ha rfl) (ev_tmp ha rfl), ?_⟩
      | refine slice_ask (by assumption) (by omega) (by omega) ?_
      | (refine ⟨fun _ => ?_, fun _ => ?_⟩ <;> first | (exfalso; omega) | skip)
      | fail
    intro t ht
    rw [hct] at ht
    repeat' first
      | refine CO.cons rfl ?_
      | refine CO.nil ?_
      | refine CV.seq ?_
      | refine CV.region callees ?_
      | refine CV.cond ?_
      | refine CV.block ?_
      | refine CV.skip ?_
      | refine CV.exit ?_
      | refine CV.ret ?_
      | refine CV.scope ?_
      | refine CV.draw callees ?_
      | refine CH.cons rfl ?_
      | refine CH.nil ?_
      | refine CO.consG rfl ?_
      | refine CH.consG rfl ?_
      | refine ⟨(rfl : plain _ = true), ?_⟩
      | refine ⟨(rfl : nilOk _ = some _), ?_⟩
      | refine ⟨_, ints_len (by assumption), ?_⟩
      | refine ⟨_, ints_addr (by assumption) (by omega) (by omega), ?_⟩
      | refine ⟨_, ints_load (by assumption) (by omega) (by omega), ?_⟩
      | refine ⟨(⟨by omega, by omega⟩ : inI64 _), ?_⟩
      | refine ⟨_, fun tm ha => step1_max rfl (ev_tmp ha rfl) (ev_tmp ha rfl), ?_⟩
      | refine ⟨_, fun tm ha => step1_min rfl (ev_tmp ha rfl) (ev_tmp ha rfl), ?_⟩
      | (refine ⟨fun _ => ?_, fun _ => ?_⟩ <;> first | (exfalso; omega) | skip)
      | fail
    refine (max_spec (Nat.le_refl _) ht (take_bound hb _) (by omega) (by omega)).mono ?_
    rintro r H2 ⟨rfl, rfl⟩
    rw [hget]
    repeat' first
      | refine CO.cons rfl ?_
      | refine CO.nil ?_
      | refine CV.seq ?_
      | refine CV.region callees ?_
      | refine CV.cond ?_
      | refine CV.block ?_
      | refine CV.skip ?_
      | refine CV.exit ?_
      | refine CV.ret ?_
      | refine CV.scope ?_
      | refine CV.draw callees ?_
      | refine CH.cons rfl ?_
      | refine CH.nil ?_
      | refine CO.consG rfl ?_
      | refine CH.consG rfl ?_
      | refine ⟨(rfl : plain _ = true), ?_⟩
      | refine ⟨(rfl : nilOk _ = some _), ?_⟩
      | refine ⟨_, ints_len (by assumption), ?_⟩
      | refine ⟨_, ints_addr (by assumption) (by omega) (by omega), ?_⟩
      | refine ⟨_, ints_load (by assumption) (by omega) (by omega), ?_⟩
      | refine ⟨(⟨by omega, by omega⟩ : inI64 _), ?_⟩
      | refine ⟨_, fun tm ha => step1_max rfl (ev_tmp ha rfl) (ev_tmp ha rfl), ?_⟩
      | refine ⟨_, fun tm ha => step1_min rfl (ev_tmp ha rfl) (ev_tmp ha rfl), ?_⟩
      | (refine ⟨fun _ => ?_, fun _ => ?_⟩ <;> first | (exfalso; omega) | skip)
      | fail
    · rw [hget]
      repeat' first
        | refine CO.cons rfl ?_
        | refine CO.nil ?_
        | refine CV.seq ?_
        | refine CV.region callees ?_
        | refine CV.cond ?_
        | refine CV.block ?_
        | refine CV.skip ?_
        | refine CV.exit ?_
        | refine CV.ret ?_
        | refine CV.scope ?_
        | refine CV.draw callees ?_
        | refine CH.cons rfl ?_
        | refine CH.nil ?_
        | refine CO.consG rfl ?_
        | refine CH.consG rfl ?_
        | refine ⟨(rfl : plain _ = true), ?_⟩
        | refine ⟨(rfl : nilOk _ = some _), ?_⟩
        | refine ⟨_, ints_len (by assumption), ?_⟩
        | refine ⟨_, ints_addr (by assumption) (by omega) (by omega), ?_⟩
        | refine ⟨_, ints_load (by assumption) (by omega) (by omega), ?_⟩
        | refine ⟨(⟨by omega, by omega⟩ : inI64 _), ?_⟩
        | refine ⟨_, fun tm ha => step1_max rfl (ev_tmp ha rfl) (ev_tmp ha rfl), ?_⟩
        | refine ⟨_, fun tm ha => step1_min rfl (ev_tmp ha rfl) (ev_tmp ha rfl), ?_⟩
        | (refine ⟨fun _ => ?_, fun _ => ?_⟩ <;> first | (exfalso; omega) | skip)
        | fail
      refine put_ask (i := j.toNat) hwx hB (by omega) ?_
      intro H3 hw3 kb3
      repeat' first
        | refine CO.cons rfl ?_
        | refine CO.nil ?_
        | refine CV.seq ?_
        | refine CV.region callees ?_
        | refine CV.cond ?_
        | refine CV.block ?_
        | refine CV.skip ?_
        | refine CV.exit ?_
        | refine CV.ret ?_
        | refine CV.scope ?_
        | refine CV.draw callees ?_
        | refine CH.cons rfl ?_
        | refine CH.nil ?_
        | refine CO.consG rfl ?_
        | refine CH.consG rfl ?_
        | refine ⟨(rfl : plain _ = true), ?_⟩
        | refine ⟨(rfl : nilOk _ = some _), ?_⟩
        | refine ⟨_, ints_len (by assumption), ?_⟩
        | refine ⟨_, ints_addr (by assumption) (by omega) (by omega), ?_⟩
        | refine ⟨_, ints_load (by assumption) (by omega) (by omega), ?_⟩
        | refine ⟨(⟨by omega, by omega⟩ : inI64 _), ?_⟩
        | refine ⟨_, fun tm ha => step1_max rfl (ev_tmp ha rfl) (ev_tmp ha rfl), ?_⟩
        | refine ⟨_, fun tm ha => step1_min rfl (ev_tmp ha rfl) (ev_tmp ha rfl), ?_⟩
        | (refine ⟨fun _ => ?_, fun _ => ?_⟩ <;> first | (exfalso; omega) | skip)
        | fail
      rw [cut_set (by omega)] at hw3
      have hN : nxO xs = some (xs.take j.toNat ++ (xs[j.toNat]! + 1) :: List.replicate (xs.length - (j.toNat + 1)) 0) := by
        rw [← hM, hq, nxF, if_pos (by rw [← hq]; omega)]
      rw [hN]
      exact ⟨by simp only [List.all_cons, List.all_nil, hw3.notTuple]; rfl, ⟨w, rfl, hw3.row, fun c hc => (hw3.lt hc).1⟩, kb3.keep hkx (fun z hz => (hwx.lt hz).1)⟩
    · refine put_ask (i := j.toNat) hwx hB (by omega) ?_
      intro H3 hw3 kb3
      rw [cut_zero (by omega)] at hw3
      repeat' first
        | refine CO.cons rfl ?_
        | refine CO.nil ?_
        | refine CV.seq ?_
        | refine CV.region callees ?_
        | refine CV.cond ?_
        | refine CV.block ?_
        | refine CV.skip ?_
        | refine CV.exit ?_
        | refine CV.ret ?_
        | refine CV.scope ?_
        | refine CV.draw callees ?_
        | refine CH.cons rfl ?_
        | refine CH.nil ?_
        | refine CO.consG rfl ?_
        | refine CH.consG rfl ?_
        | refine ⟨(rfl : plain _ = true), ?_⟩
        | refine ⟨(rfl : nilOk _ = some _), ?_⟩
        | refine ⟨_, ints_len (by assumption), ?_⟩
        | refine ⟨_, ints_addr (by assumption) (by omega) (by omega), ?_⟩
        | refine ⟨_, ints_load (by assumption) (by omega) (by omega), ?_⟩
        | refine ⟨(⟨by omega, by omega⟩ : inI64 _), ?_⟩
        | refine ⟨_, fun tm ha => step1_max rfl (ev_tmp ha rfl) (ev_tmp ha rfl), ?_⟩
        | refine ⟨_, fun tm ha => step1_min rfl (ev_tmp ha rfl) (ev_tmp ha rfl), ?_⟩
        | (refine ⟨fun _ => ?_, fun _ => ?_⟩ <;> first | (exfalso; omega) | skip)
        | fail
      refine ⟨(j - 1), (by repeat' first | exact trivial | refine ⟨rfl, ?_⟩), (by (try dsimp only); omega), ?_⟩
      refine ⟨by omega, by omega, ?_, kb3.keep hkx (fun z hz => (hwx.lt hz).1), ?_⟩
      · rw [show (j - 1).toNat + 1 = j.toNat by omega]; exact hw3
      · rw [← hM, hq, nxF, if_neg (by rw [← hq]; omega), show (j - 1).toNat = q by omega]
  · have h00 : j.toNat = 0 := by omega
    have hN : nxO xs = none := by rw [← hM, h00]; rfl
    rw [hN]
    repeat' first
      | refine CO.cons rfl ?_
      | refine CO.nil ?_
      | refine CV.seq ?_
      | refine CV.region callees ?_
      | refine CV.cond ?_
      | refine CV.block ?_
      | refine CV.skip ?_
      | refine CV.exit ?_
      | refine CV.ret ?_
      | refine CV.scope ?_
      | refine CV.draw callees ?_
      | refine CH.cons rfl ?_
      | refine CH.nil ?_
      | refine CO.consG rfl ?_
      | refine CH.consG rfl ?_
      | refine ⟨(rfl : plain _ = true), ?_⟩
      | refine ⟨(rfl : nilOk _ = some _), ?_⟩
      | refine ⟨_, ints_len (by assumption), ?_⟩
      | refine ⟨_, ints_addr (by assumption) (by omega) (by omega), ?_⟩
      | refine ⟨_, ints_load (by assumption) (by omega) (by omega), ?_⟩
      | refine ⟨(⟨by omega, by omega⟩ : inI64 _), ?_⟩
      | refine ⟨_, fun tm ha => step1_max rfl (ev_tmp ha rfl) (ev_tmp ha rfl), ?_⟩
      | refine ⟨_, fun tm ha => step1_min rfl (ev_tmp ha rfl) (ev_tmp ha rfl), ?_⟩
      | (refine ⟨fun _ => ?_, fun _ => ?_⟩ <;> first | (exfalso; omega) | skip)
      | fail
    exact ⟨rfl, ⟨_, rfl, .inl ⟨rfl, rfl⟩, fun c hc => by cases hc⟩, hkx⟩

set_option maxRecDepth 100000 in
theorem next_spec {B : Nat} {v : Value} {H : Heap} {xs : List Int} (hB : B ≤ H.n) (hv : Ints H v xs) :
    CallB Tryd.prog B 39 [v] H (fun r H' => (∃ u, r = .tuple #[u, .int .i64 (nxE xs)] ∧ Ints H' u (nxL xs) ∧ ∀ c, blkOf u = some c → H.n ≤ c) ∧ Keep H H') := by
  refine CV.enter callees false rfl Tryd.func39 rfl ok39 (Nat.le_of_ble_eq_true rfl) hB ?_
  repeat' first
    | refine CO.cons rfl ?_
    | refine CO.nil ?_
    | refine CV.seq ?_
    | refine CV.region callees ?_
    | refine CV.cond ?_
    | refine CV.block ?_
    | refine CV.skip ?_
    | refine CV.exit ?_
    | refine CV.ret ?_
    | refine CV.scope ?_
    | refine CV.draw callees ?_
    | refine CH.cons rfl ?_
    | refine CH.nil ?_
    | refine CO.consG rfl ?_
    | refine CH.consG rfl ?_
    | refine ⟨(rfl : plain _ = true), ?_⟩
    | refine ⟨(rfl : nilOk _ = some _), ?_⟩
    | refine ⟨_, ints_len (by assumption), ?_⟩
    | refine ⟨_, ints_addr (by assumption) (by omega) (by omega), ?_⟩
    | refine ⟨_, ints_load (by assumption) (by omega) (by omega), ?_⟩
    | refine ⟨(⟨by omega, by omega⟩ : inI64 _), ?_⟩
    | refine ⟨_, fun tm ha => step1_max rfl (ev_tmp ha rfl) (ev_tmp ha rfl), ?_⟩
    | refine ⟨_, fun tm ha => step1_min rfl (ev_tmp ha rfl) (ev_tmp ha rfl), ?_⟩
    | (refine ⟨fun _ => ?_, fun _ => ?_⟩ <;> first | (exfalso; omega) | skip)
    | fail
  refine (check_spec hB hv).mono ?_
  rintro r H1 ⟨rfl, rfl⟩
  repeat' first
    | refine CO.cons rfl ?_
    | refine CO.nil ?_
    | refine CV.seq ?_
    | refine CV.region callees ?_
    | refine CV.cond ?_
    | refine CV.block ?_
    | refine CV.skip ?_
    | refine CV.exit ?_
    | refine CV.ret ?_
    | refine CV.scope ?_
    | refine CV.draw callees ?_
    | refine CH.cons rfl ?_
    | refine CH.nil ?_
    | refine CO.consG rfl ?_
    | refine CH.consG rfl ?_
    | refine ⟨(rfl : plain _ = true), ?_⟩
    | refine ⟨(rfl : nilOk _ = some _), ?_⟩
    | refine ⟨_, ints_len (by assumption), ?_⟩
    | refine ⟨_, ints_addr (by assumption) (by omega) (by omega), ?_⟩
    | refine ⟨_, ints_load (by assumption) (by omega) (by omega), ?_⟩
    | refine ⟨(⟨by omega, by omega⟩ : inI64 _), ?_⟩
    | refine ⟨_, fun tm ha => step1_max rfl (ev_tmp ha rfl) (ev_tmp ha rfl), ?_⟩
    | refine ⟨_, fun tm ha => step1_min rfl (ev_tmp ha rfl) (ev_tmp ha rfl), ?_⟩
    | (refine ⟨fun _ => ?_, fun _ => ?_⟩ <;> first | (exfalso; omega) | skip)
    | fail
  · exact ⟨rfl, ⟨_, by rw [nxE, if_neg (by assumption)], .inl ⟨rfl, by rw [nxL, if_neg (by assumption)]; rfl⟩, fun c hc => by cases hc⟩, Keep.refl _⟩
  have h0 : check xs = 0 := Classical.not_not.1 (by assumption)
  have hlx := check_from h0
  refine (following_spec hB hv (fun i hi => check_bound h0 hi) (by omega) (by omega)).mono ?_
  rintro r H2 ⟨⟨u, rfl, hu, hf⟩, k2⟩
  rw [nxE, nxL, if_pos h0, if_pos h0]
  cases hN : nxO xs with
  | none =>
    rw [hN] at hu
    repeat' first
      | refine CO.cons rfl ?_
      | refine CO.nil ?_
      | refine CV.seq ?_
      | refine CV.region callees ?_
      | refine CV.cond ?_
      | refine CV.block ?_
      | refine CV.skip ?_
      | refine CV.exit ?_
      | refine CV.ret ?_
      | refine CV.scope ?_
      | refine CV.draw callees ?_
      | refine CH.cons rfl ?_
      | refine CH.nil ?_
      | refine CO.consG rfl ?_
      | refine CH.consG rfl ?_
      | refine ⟨(rfl : plain _ = true), ?_⟩
      | refine ⟨(rfl : nilOk _ = some _), ?_⟩
      | refine ⟨_, ints_len (by assumption), ?_⟩
      | refine ⟨_, ints_addr (by assumption) (by omega) (by omega), ?_⟩
      | refine ⟨_, ints_load (by assumption) (by omega) (by omega), ?_⟩
      | refine ⟨(⟨by omega, by omega⟩ : inI64 _), ?_⟩
      | refine ⟨_, fun tm ha => step1_max rfl (ev_tmp ha rfl) (ev_tmp ha rfl), ?_⟩
      | refine ⟨_, fun tm ha => step1_min rfl (ev_tmp ha rfl) (ev_tmp ha rfl), ?_⟩
      | (refine ⟨fun _ => ?_, fun _ => ?_⟩ <;> first | (exfalso; omega) | skip)
      | fail
    exact ⟨rfl, ⟨_, rfl, .inl ⟨rfl, rfl⟩, fun c hc => by cases hc⟩, k2⟩
  | some l =>
    rw [hN] at hu
    repeat' first
      | refine CO.cons rfl ?_
      | refine CO.nil ?_
      | refine CV.seq ?_
      | refine CV.region callees ?_
      | refine CV.cond ?_
      | refine CV.block ?_
      | refine CV.skip ?_
      | refine CV.exit ?_
      | refine CV.ret ?_
      | refine CV.scope ?_
      | refine CV.draw callees ?_
      | refine CH.cons rfl ?_
      | refine CH.nil ?_
      | refine CO.consG rfl ?_
      | refine CH.consG rfl ?_
      | refine ⟨(rfl : plain _ = true), ?_⟩
      | refine ⟨(rfl : nilOk _ = some _), ?_⟩
      | refine ⟨_, ints_len (by assumption), ?_⟩
      | refine ⟨_, ints_addr (by assumption) (by omega) (by omega), ?_⟩
      | refine ⟨_, ints_load (by assumption) (by omega) (by omega), ?_⟩
      | refine ⟨(⟨by omega, by omega⟩ : inI64 _), ?_⟩
      | refine ⟨_, fun tm ha => step1_max rfl (ev_tmp ha rfl) (ev_tmp ha rfl), ?_⟩
      | refine ⟨_, fun tm ha => step1_min rfl (ev_tmp ha rfl) (ev_tmp ha rfl), ?_⟩
      | (refine ⟨fun _ => ?_, fun _ => ?_⟩ <;> first | (exfalso; omega) | skip)
      | fail
    exact ⟨by simp only [List.all_cons, List.all_nil, ints_nt' hu]; rfl, ⟨u, rfl, hu, hf⟩, k2⟩
end Go.Proofs.YthjieekbbhhjgaaDoor
