/- ChartRanks: its function answers true. -/
import Derived.Test.YthjieekbbhhjgaaDoorD4
import Derived.Test.YthjieekbbhhjgaaDoorD6
import Derived.Test.YthjieekbbhhjgaaDoorB9
namespace Go.Proofs.YthjieekbbhhjgaaDoor
open Go.AI
theorem un41 : Tryd.prog.underlying 41 = some (.slice 22) := by kernel_rfl
theorem one22 : oneBB Tryd.prog 22 = some (.slice none 0 0, 24) := by kernel_rfl
theorem sz22 : sizeB Tryd.prog 22 = some 1 := by kernel_rfl
theorem ag22 : isAggB Tryd.prog 22 = some false := by kernel_rfl
theorem row_one {H : Heap} {v : Value} {vs : List Value} (h : Row H v vs) : oneC v = true := by
  rcases h with ⟨rfl, _⟩ | ⟨rfl, _⟩ | ⟨_, _, _, _, _, _, rfl, _⟩ <;> rfl
theorem build_lists {H : Heap} {a b c : Value} (ha : oneC a = true) (hb : oneC b = true) (hc : oneC c = true) : abuildSlice Tryd.prog H 41 3 [(0, a), (1, b), (2, c)] = some (.slice (some ⟨H.n, 0, none⟩) 3 0, H.new (.cells [a, b, c] 22 2), H.n) := by
  obtain ⟨info, hi, hz, hs, hc', hsc, hby⟩ := oneBB_spec one22
  simp only [abuildSlice, un41, hi, hz, hs, hc']
  rw [if_pos ⟨by omega, rfl, by simp [scalar], by omega⟩]
  have hz3 : zeros #[(Value.slice none 0 0)] (3 * 1) = [.slice none 0 0, .slice none 0 0, .slice none 0 0] := rfl
  rw [hz3]
  simp only [fillL, oneC_cells ha, oneC_cells hb, oneC_cells hc, oneC_notTuple ha, oneC_notTuple hb, oneC_notTuple hc]
  rfl
theorem row_new {H : Heap} {l : List Value} {n : Nat} {e : TypeId} (hn : n = l.length) : Row (H.new (.cells l e 2)) (.slice (some ⟨H.n, 0, none⟩) n 0) l :=
  .inr (.inr ⟨H.n, 0, 0, _, e, 2, by rw [hn], Nat.lt_succ_self _, Heap.get_new_eq _ _, by decide, by simp, fun j w h => by simpa using h⟩)
theorem lists_len {H : Heap} {v : Value} {vs : List Value} (h : Row H v vs) : alen Tryd.prog H 41 v = some (.int .i64 vs.length) := Row.alen h un41
theorem lists_addr {H : Heap} {v : Value} {vs : List Value} (h : Row H v vs) {i : Int} (h0 : 0 ≤ i) (h1 : i < vs.length) : aindexAddr Tryd.prog 41 v (.int .i64 i) = some (elemAt v i.toNat) := Row.addr h un41 sz22 h0 h1
theorem lists_load {H : Heap} {v : Value} {vs : List Value} (h : Row H v vs) {i : Int} (h0 : 0 ≤ i) (h1 : i < vs.length) : aload Tryd.prog 22 H (elemAt v i.toNat) = some vs[i.toNat]! := by
  have : i.toNat < vs.length := by omega
  exact Row.load h ag22 (by rw [List.getElem?_eq_getElem this, getElem!_pos vs _ this])
theorem unM_len : ∀ (m : Nat) (r b : Int), (unM m r b).length = m
  | 0, _, _ => rfl
  | m + 1, r, b => by rw [unM, List.length_cons, unM_len]
theorem unL_len (n k : Int) : (unL n k).length ≤ 9 := by
  unfold unL
  split
  · rename_i h
    rw [unM_len]
    unfold unE at h
    split at h
    · exact absurd h (by assumption)
    · rename_i h2
      have := cnt_bound (Classical.not_not.1 h2)
      omega
  · simp
theorem nxF_len {xs l : List Int} : ∀ j, j < xs.length → nxF xs j = some l → l.length = xs.length
  | 0, _, h => by cases h
  | j + 1, hj, h => by
    rw [nxF] at h
    split at h
    · cases h
      simp
      omega
    · exact nxF_len j (by omega) h
theorem nxL_len (xs : List Int) : (nxL xs).length ≤ 9 := by
  unfold nxL
  split
  · rename_i h
    have hl := check_from h
    cases hN : nxO xs with
    | none => simp
    | some l =>
      have := nxF_len (xs.length - 1) (by omega) hN
      simp only [Option.getD_some]
      omega
  · simp

set_option maxHeartbeats 4000000 in
set_option maxRecDepth 100000 in
theorem chartRanks_spec {v w : Value} {H : Heap} {xs zs : List Int} {n k : Int} (hBase : Base H) (hv : Ints H v xs) (hx : xs.length ≤ 9223372036854775807) (_ : ∀ x ∈ xs, inI64 x)
    (hn1 : inI64 n) (hk1 : inI64 k) (hw : Ints H w zs) (hz : zs.length ≤ 9223372036854775807) (_ : ∀ x ∈ zs, inI64 x) :
    CallB Tryd.prog H.n 4 [v, .int .i64 n, .int .i64 k, w] H (fun r _ => r = .bool true) := by
  have hn : H.n ≤ H.n := Nat.le_refl _
  refine CV.enter callees false rfl Tryd.func4 rfl ok4 (Nat.le_of_ble_eq_true rfl) hn ?_
  repeat' first
    | refine CO.cons rfl ?_
    | refine CO.nil ?_
    | refine CV.seq ?_
    | refine CV.region callees ?_
    | refine CV.cond ?_
    | refine CV.block ?_
    | refine CV.skip ?_
    | refine CV.exit ?_
    | refine CV.ret ?_
    | refine CV.scope ?_
    | refine CV.draw callees ?_
    | refine CH.cons rfl ?_
    | refine CH.nil ?_
    | refine CO.consG rfl ?_
    | refine CH.consG rfl ?_
    | refine ⟨(rfl : plain _ = true), ?_⟩
    | refine ⟨(rfl : nilOk _ = some _), ?_⟩
    | refine ⟨_, ints_len (by assumption), ?_⟩
    | refine ⟨_, ints_addr (by assumption) (by omega) (by omega), ?_⟩
    | refine ⟨_, ints_load (by assumption) (by omega) (by omega), ?_⟩
    | refine ⟨(⟨by omega, by omega⟩ : inI64 _), ?_⟩
    | refine ⟨_, fun tm ha => step1_max rfl (ev_tmp ha rfl) (ev_tmp ha rfl), ?_⟩
    | refine ⟨_, fun tm ha => step1_min rfl (ev_tmp ha rfl) (ev_tmp ha rfl), ?_⟩
    | (refine ⟨fun _ => ?_, fun _ => ?_⟩ <;> first | (exfalso; omega) | skip)
    | fail
  refine (long_spec hn hv).mono ?_
  rintro r H1 ⟨rfl, rfl⟩
  by_cases h40 : 40 < xs.length
  · rw [decide_eq_true h40]
    repeat' first
      | refine CO.cons rfl ?_
      | refine CO.nil ?_
      | refine CV.seq ?_
      | refine CV.region callees ?_
      | refine CV.cond ?_
      | refine CV.block ?_
      | refine CV.skip ?_
      | refine CV.exit ?_
      | refine CV.ret ?_
      | refine CV.scope ?_
      | refine CV.draw callees ?_
      | refine CH.cons rfl ?_
      | refine CH.nil ?_
      | refine CO.consG rfl ?_
      | refine CH.consG rfl ?_
      | refine ⟨(rfl : plain _ = true), ?_⟩
      | refine ⟨(rfl : nilOk _ = some _), ?_⟩
      | refine ⟨_, ints_len (by assumption), ?_⟩
      | refine ⟨_, ints_addr (by assumption) (by omega) (by omega), ?_⟩
      | refine ⟨_, ints_load (by assumption) (by omega) (by omega), ?_⟩
      | refine ⟨(⟨by omega, by omega⟩ : inI64 _), ?_⟩
      | refine ⟨_, fun tm ha => step1_max rfl (ev_tmp ha rfl) (ev_tmp ha rfl), ?_⟩
      | refine ⟨_, fun tm ha => step1_min rfl (ev_tmp ha rfl) (ev_tmp ha rfl), ?_⟩
      | refine CallB.known rfl hBase hn ?_
      | (refine ⟨fun _ => ?_, fun _ => ?_⟩ <;> first | (exfalso; omega) | skip)
      | fail
    exact ⟨rfl, rfl⟩
  rw [decide_eq_false h40]
  repeat' first
    | refine CO.cons rfl ?_
    | refine CO.nil ?_
    | refine CV.seq ?_
    | refine CV.region callees ?_
    | refine CV.cond ?_
    | refine CV.block ?_
    | refine CV.skip ?_
    | refine CV.exit ?_
    | refine CV.ret ?_
    | refine CV.scope ?_
    | refine CV.draw callees ?_
    | refine CH.cons rfl ?_
    | refine CH.nil ?_
    | refine CO.consG rfl ?_
    | refine CH.consG rfl ?_
    | refine ⟨(rfl : plain _ = true), ?_⟩
    | refine ⟨(rfl : nilOk _ = some _), ?_⟩
    | refine ⟨_, ints_len (by assumption), ?_⟩
    | refine ⟨_, ints_addr (by assumption) (by omega) (by omega), ?_⟩
    | refine ⟨_, ints_load (by assumption) (by omega) (by omega), ?_⟩
    | refine ⟨(⟨by omega, by omega⟩ : inI64 _), ?_⟩
    | refine ⟨_, fun tm ha => step1_max rfl (ev_tmp ha rfl) (ev_tmp ha rfl), ?_⟩
    | refine ⟨_, fun tm ha => step1_min rfl (ev_tmp ha rfl) (ev_tmp ha rfl), ?_⟩
    | (refine ⟨fun _ => ?_, fun _ => ?_⟩ <;> first | (exfalso; omega) | skip)
    | fail
  refine (boxOf_spec hn hw hz).mono ?_
  rintro r H3 ⟨⟨b, rfl, hb, hbox⟩, k3⟩
  have hB3 := k3.1
  repeat' first
    | refine CO.cons rfl ?_
    | refine CO.nil ?_
    | refine CV.seq ?_
    | refine CV.region callees ?_
    | refine CV.cond ?_
    | refine CV.block ?_
    | refine CV.skip ?_
    | refine CV.exit ?_
    | refine CV.ret ?_
    | refine CV.scope ?_
    | refine CV.draw callees ?_
    | refine CH.cons rfl ?_
    | refine CH.nil ?_
    | refine CO.consG rfl ?_
    | refine CH.consG rfl ?_
    | refine ⟨(rfl : plain _ = true), ?_⟩
    | refine ⟨(rfl : nilOk _ = some _), ?_⟩
    | refine ⟨_, ints_len (by assumption), ?_⟩
    | refine ⟨_, ints_addr (by assumption) (by omega) (by omega), ?_⟩
    | refine ⟨_, ints_load (by assumption) (by omega) (by omega), ?_⟩
    | refine ⟨(⟨by omega, by omega⟩ : inI64 _), ?_⟩
    | refine ⟨_, fun tm ha => step1_max rfl (ev_tmp ha rfl) (ev_tmp ha rfl), ?_⟩
    | refine ⟨_, fun tm ha => step1_min rfl (ev_tmp ha rfl) (ev_tmp ha rfl), ?_⟩
    | (refine ⟨fun _ => ?_, fun _ => ?_⟩ <;> first | (exfalso; omega) | skip)
    | fail
  refine (any_spec hb hB3 hbox (by omega) (by omega) (by omega)).mono ?_
  rintro r H4 ⟨⟨m, rfl, hm1, hm9⟩, hb4, k4⟩
  have hB4 := Nat.le_trans hB3 k4.1
  repeat' first
    | refine CO.cons rfl ?_
    | refine CO.nil ?_
    | refine CV.seq ?_
    | refine CV.region callees ?_
    | refine CV.cond ?_
    | refine CV.block ?_
    | refine CV.skip ?_
    | refine CV.exit ?_
    | refine CV.ret ?_
    | refine CV.scope ?_
    | refine CV.draw callees ?_
    | refine CH.cons rfl ?_
    | refine CH.nil ?_
    | refine CO.consG rfl ?_
    | refine CH.consG rfl ?_
    | refine ⟨(rfl : plain _ = true), ?_⟩
    | refine ⟨(rfl : nilOk _ = some _), ?_⟩
    | refine ⟨_, ints_len (by assumption), ?_⟩
    | refine ⟨_, ints_addr (by assumption) (by omega) (by omega), ?_⟩
    | refine ⟨_, ints_load (by assumption) (by omega) (by omega), ?_⟩
    | refine ⟨(⟨by omega, by omega⟩ : inI64 _), ?_⟩
    | refine ⟨_, fun tm ha => step1_max rfl (ev_tmp ha rfl) (ev_tmp ha rfl), ?_⟩
    | refine ⟨_, fun tm ha => step1_min rfl (ev_tmp ha rfl) (ev_tmp ha rfl), ?_⟩
    | (refine ⟨fun _ => ?_, fun _ => ?_⟩ <;> first | (exfalso; omega) | skip)
    | fail
  refine (partitionOf_spec hb hB4 hb4 hm1 hm9).mono ?_
  rintro o H5 ⟨⟨os, co, lo, ho⟩, hb5, k5⟩
  have hB5 := Nat.le_trans hB4 k5.1
  have kk5 : Keep H1 H5 := (k4.trans k5).keep k3 hb
  have hoi : Ints H5 o os := ho.row
  have hv5 : Ints H5 v xs := Row.keep hv kk5
  repeat' first
    | refine CO.cons rfl ?_
    | refine CO.nil ?_
    | refine CV.seq ?_
    | refine CV.region callees ?_
    | refine CV.cond ?_
    | refine CV.block ?_
    | refine CV.skip ?_
    | refine CV.exit ?_
    | refine CV.ret ?_
    | refine CV.scope ?_
    | refine CV.draw callees ?_
    | refine CH.cons rfl ?_
    | refine CH.nil ?_
    | refine CO.consG rfl ?_
    | refine CH.consG rfl ?_
    | refine ⟨(rfl : plain _ = true), ?_⟩
    | refine ⟨(rfl : nilOk _ = some _), ?_⟩
    | refine ⟨_, ints_len (by assumption), ?_⟩
    | refine ⟨_, ints_addr (by assumption) (by omega) (by omega), ?_⟩
    | refine ⟨_, ints_load (by assumption) (by omega) (by omega), ?_⟩
    | refine ⟨(⟨by omega, by omega⟩ : inI64 _), ?_⟩
    | refine ⟨_, fun tm ha => step1_max rfl (ev_tmp ha rfl) (ev_tmp ha rfl), ?_⟩
    | refine ⟨_, fun tm ha => step1_min rfl (ev_tmp ha rfl) (ev_tmp ha rfl), ?_⟩
    | (refine ⟨fun _ => ?_, fun _ => ?_⟩ <;> first | (exfalso; omega) | skip)
    | fail
  refine (refCount_spec hB5).mono ?_
  rintro r H6 ⟨rfl, rfl⟩
  have hc2 : (cntR (os.length : Int)).2 = 0 := (cnt_sum (n := (os.length : Int)) (by omega) (by omega)).2
  have hcb := cnt_bound hc2
  obtain ⟨many, hmany⟩ : ∃ many, (cntR (os.length : Int)).1 = many := ⟨_, rfl⟩
  rw [show pairV (cntR (os.length : Int)) = .tuple #[.int .i64 (cntR (os.length : Int)).1, .int .i64 (cntR (os.length : Int)).2] from rfl, hmany]
  rw [hmany] at hcb
  repeat' first
    | refine CO.cons rfl ?_
    | refine CO.nil ?_
    | refine CV.seq ?_
    | refine CV.region callees ?_
    | refine CV.cond ?_
    | refine CV.block ?_
    | refine CV.skip ?_
    | refine CV.exit ?_
    | refine CV.ret ?_
    | refine CV.scope ?_
    | refine CV.draw callees ?_
    | refine CH.cons rfl ?_
    | refine CH.nil ?_
    | refine CO.consG rfl ?_
    | refine CH.consG rfl ?_
    | refine ⟨(rfl : plain _ = true), ?_⟩
    | refine ⟨(rfl : nilOk _ = some _), ?_⟩
    | refine ⟨_, ints_len (by assumption), ?_⟩
    | refine ⟨_, ints_addr (by assumption) (by omega) (by omega), ?_⟩
    | refine ⟨_, ints_load (by assumption) (by omega) (by omega), ?_⟩
    | refine ⟨(⟨by omega, by omega⟩ : inI64 _), ?_⟩
    | refine ⟨_, fun tm ha => step1_max rfl (ev_tmp ha rfl) (ev_tmp ha rfl), ?_⟩
    | refine ⟨_, fun tm ha => step1_min rfl (ev_tmp ha rfl) (ev_tmp ha rfl), ?_⟩
    | refine ⟨_, _, build_lists (row_one hv5) (row_one hoi) (row_one hoi), ?_⟩
    | (refine ⟨fun _ => ?_, fun _ => ?_⟩ <;> first | (exfalso; omega) | skip)
    | fail
  have kl6 := Keep.new H6 (.cells [v, o, o] 22 2)
  have hR7 := row_new (H := H6) (l := [v, o, o]) (e := 22) (n := 3) rfl
  have ho7 : Ints _ o os := Row.keep hoi kl6
  have hv7 : Ints _ v xs := Row.keep hv5 kl6
  have hb7 := hb5.keep kl6
  have hB7 := Nat.le_trans hB5 kl6.1
  have kk7 := kk5.trans kl6
  generalize hRv : Value.slice (some ⟨H6.n, 0, none⟩) 3 0 = R at hR7 ⊢
  generalize H6.new (.cells [v, o, o] 22 2) = H7 at *
  repeat' first
    | refine CO.cons rfl ?_
    | refine CO.nil ?_
    | refine CV.seq ?_
    | refine CV.region callees ?_
    | refine CV.cond ?_
    | refine CV.block ?_
    | refine CV.skip ?_
    | refine CV.exit ?_
    | refine CV.ret ?_
    | refine CV.scope ?_
    | refine CV.draw callees ?_
    | refine CH.cons rfl ?_
    | refine CH.nil ?_
    | refine CO.consG rfl ?_
    | refine CH.consG rfl ?_
    | refine ⟨(rfl : plain _ = true), ?_⟩
    | refine ⟨(rfl : nilOk _ = some _), ?_⟩
    | refine ⟨_, ints_len (by assumption), ?_⟩
    | refine ⟨_, ints_addr (by assumption) (by omega) (by omega), ?_⟩
    | refine ⟨_, ints_load (by assumption) (by omega) (by omega), ?_⟩
    | refine ⟨(⟨by omega, by omega⟩ : inI64 _), ?_⟩
    | refine ⟨_, fun tm ha => step1_max rfl (ev_tmp ha rfl) (ev_tmp ha rfl), ?_⟩
    | refine ⟨_, fun tm ha => step1_min rfl (ev_tmp ha rfl) (ev_tmp ha rfl), ?_⟩
    | refine ⟨_, _, build_three, ?_⟩
    | (refine ⟨fun _ => ?_, fun _ => ?_⟩ <;> first | (exfalso; omega) | skip)
    | fail
  have hr8 := ints_new (H := H7) (l := [n, (os.length : Int), (os.length : Int)]) (n := 3) rfl
  have k8 := Keep.new H7 (.cells ([n, (os.length : Int), (os.length : Int)].map VI) 3 2)
  have ho8 : Ints _ o os := Row.keep ho7 k8
  have hv8 : Ints _ v xs := Row.keep hv7 k8
  have hR8 := Row.keep hR7 k8
  have hb8 := hb7.keep k8
  have hB8 := Nat.le_trans hB7 k8.1
  have kk8 := kk7.trans k8
  obtain ⟨nl, hnl⟩ : ∃ nl : List Int, nl = [n, (os.length : Int), (os.length : Int)] := ⟨_, rfl⟩
  rw [← hnl] at hr8 ho8 hv8 hR8 hb8 hB8 kk8 ⊢
  have hnl3 : nl.length = 3 := by rw [hnl]; rfl
  clear hnl k8
  generalize hv1 : Value.slice (some ⟨H7.n, 0, none⟩) 3 0 = v1 at hr8 ⊢
  generalize H7.new (.cells (nl.map VI) 3 2) = H8 at *
  repeat' first
    | refine CO.cons rfl ?_
    | refine CO.nil ?_
    | refine CV.seq ?_
    | refine CV.region callees ?_
    | refine CV.cond ?_
    | refine CV.block ?_
    | refine CV.skip ?_
    | refine CV.exit ?_
    | refine CV.ret ?_
    | refine CV.scope ?_
    | refine CV.draw callees ?_
    | refine CH.cons rfl ?_
    | refine CH.nil ?_
    | refine CO.consG rfl ?_
    | refine CH.consG rfl ?_
    | refine ⟨(rfl : plain _ = true), ?_⟩
    | refine ⟨(rfl : nilOk _ = some _), ?_⟩
    | refine ⟨_, ints_len (by assumption), ?_⟩
    | refine ⟨_, ints_addr (by assumption) (by omega) (by omega), ?_⟩
    | refine ⟨_, ints_load (by assumption) (by omega) (by omega), ?_⟩
    | refine ⟨(⟨by omega, by omega⟩ : inI64 _), ?_⟩
    | refine ⟨_, fun tm ha => step1_max rfl (ev_tmp ha rfl) (ev_tmp ha rfl), ?_⟩
    | refine ⟨_, fun tm ha => step1_min rfl (ev_tmp ha rfl) (ev_tmp ha rfl), ?_⟩
    | (refine ⟨fun _ => ?_, fun _ => ?_⟩ <;> first | (exfalso; omega) | skip)
    | fail
  refine (any_spec hb hB8 hb8 (by omega) (by omega) (by omega)).mono ?_
  rintro r H9 ⟨⟨x, rfl, hx0, hx1⟩, hb9, k9⟩
  have hB9 := Nat.le_trans hB8 k9.1
  have kk9 : Keep H1 H9 := k9.keep kk8 hb
  have hr9 := row_box hr8 k9 hb8
  have hR9 := row_box hR8 k9 hb8
  have ho9 := row_box ho8 k9 hb8
  have hv9 := row_box hv8 k9 hb8
  repeat' first
    | refine CO.cons rfl ?_
    | refine CO.nil ?_
    | refine CV.seq ?_
    | refine CV.region callees ?_
    | refine CV.cond ?_
    | refine CV.block ?_
    | refine CV.skip ?_
    | refine CV.exit ?_
    | refine CV.ret ?_
    | refine CV.scope ?_
    | refine CV.draw callees ?_
    | refine CH.cons rfl ?_
    | refine CH.nil ?_
    | refine CO.consG rfl ?_
    | refine CH.consG rfl ?_
    | refine ⟨(rfl : plain _ = true), ?_⟩
    | refine ⟨(rfl : nilOk _ = some _), ?_⟩
    | refine ⟨_, ints_len (by assumption), ?_⟩
    | refine ⟨_, ints_addr (by assumption) (by omega) (by omega), ?_⟩
    | refine ⟨_, ints_load (by assumption) (by omega) (by omega), ?_⟩
    | refine ⟨(⟨by omega, by omega⟩ : inI64 _), ?_⟩
    | refine ⟨_, fun tm ha => step1_max rfl (ev_tmp ha rfl) (ev_tmp ha rfl), ?_⟩
    | refine ⟨_, fun tm ha => step1_min rfl (ev_tmp ha rfl) (ev_tmp ha rfl), ?_⟩
    | refine ⟨_, _, build_three, ?_⟩
    | (refine ⟨fun _ => ?_, fun _ => ?_⟩ <;> first | (exfalso; omega) | skip)
    | fail
  have hs10 := ints_new (H := H9) (l := [k, x, k]) (n := 3) rfl
  have k10 := Keep.new H9 (.cells ([k, x, k].map VI) 3 2)
  have hr10 : Ints _ v1 nl := Row.keep hr9 k10
  have hR10 := Row.keep hR9 k10
  have ho10 : Ints _ o os := Row.keep ho9 k10
  have hv10 : Ints _ v xs := Row.keep hv9 k10
  have hB10 := Nat.le_trans hB9 k10.1
  have kk10 := kk9.trans k10
  obtain ⟨sl, hsl⟩ : ∃ sl : List Int, sl = [k, x, k] := ⟨_, rfl⟩
  rw [← hsl] at hs10 hr10 hR10 ho10 hv10 hB10 kk10 ⊢
  have hsl3 : sl.length = 3 := by rw [hsl]; rfl
  have hsI : ∀ i : Nat, i < 3 → inI64 sl[i]! := by
    intro i hi
    have : i = 0 ∨ i = 1 ∨ i = 2 := by omega
    rcases this with rfl | rfl | rfl
    · rw [hsl]; exact hk1
    · rw [hsl]; exact ⟨by show -9223372036854775808 ≤ x; omega, by show x < 9223372036854775808; omega⟩
    · rw [hsl]; exact hk1
  clear hsl k10
  generalize hv2 : Value.slice (some ⟨H9.n, 0, none⟩) 3 0 = v2 at hs10 ⊢
  generalize H9.new (.cells (sl.map VI) 3 2) = H10 at *
  have hall : ∀ i : Nat, i < 3 → Ints H10 [v, o, o][i]! [xs, os, os][i]! ∧ [xs, os, os][i]!.length ≤ 40 := by
    intro i hi
    have : i = 0 ∨ i = 1 ∨ i = 2 := by omega
    rcases this with rfl | rfl | rfl
    · exact ⟨hv10, by show xs.length ≤ 40; omega⟩
    · exact ⟨ho10, by show os.length ≤ 40; omega⟩
    · exact ⟨ho10, by show os.length ≤ 40; omega⟩
  obtain ⟨vals, hvals⟩ : ∃ vals : List Value, vals = [v, o, o] := ⟨_, rfl⟩
  obtain ⟨ls, hls⟩ : ∃ ls : List (List Int), ls = [xs, os, os] := ⟨_, rfl⟩
  have hvl : vals.length = 3 := by rw [hvals]; rfl
  rw [← hvals] at hR10 hall
  rw [← hls] at hall
  clear hvals hls ho10 hv10
  repeat' first
    | refine CO.cons rfl ?_
    | refine CO.nil ?_
    | refine CV.seq ?_
    | refine CV.region callees ?_
    | refine CV.cond ?_
    | refine CV.block ?_
    | refine CV.skip ?_
    | refine CV.exit ?_
    | refine CV.ret ?_
    | refine CV.scope ?_
    | refine CV.draw callees ?_
    | refine CH.cons rfl ?_
    | refine CH.nil ?_
    | refine CO.consG rfl ?_
    | refine CH.consG rfl ?_
    | refine ⟨(rfl : plain _ = true), ?_⟩
    | refine ⟨(rfl : nilOk _ = some _), ?_⟩
    | refine ⟨_, ints_len (by assumption), ?_⟩
    | refine ⟨_, ints_addr (by assumption) (by omega) (by omega), ?_⟩
    | refine ⟨_, ints_load (by assumption) (by omega) (by omega), ?_⟩
    | refine ⟨(⟨by omega, by omega⟩ : inI64 _), ?_⟩
    | refine ⟨_, fun tm ha => step1_max rfl (ev_tmp ha rfl) (ev_tmp ha rfl), ?_⟩
    | refine ⟨_, fun tm ha => step1_min rfl (ev_tmp ha rfl) (ev_tmp ha rfl), ?_⟩
    | (refine ⟨fun _ => ?_, fun _ => ?_⟩ <;> first | (exfalso; omega) | skip)
    | fail
  refine CV.loopc ?_
  refine WCv.rounds callees false (α := Int) (fun i => [(13, R), (14, v1), (15, v2), (16, .int .i64 i)]) (fun i Hz => 0 ≤ i ∧ i ≤ 3 ∧ Keep H10 Hz) (fun i => (3 - i).toNat) (0) (by repeat' first | exact trivial | refine ⟨rfl, ?_⟩) ?_ ?_
  · exact ⟨by omega, by omega, Keep.refl _⟩
  rintro i Hx ⟨hi0, hi1, hkx⟩ hBx
  have hRx : Row Hx R vals := Row.keep hR10 hkx
  have hrx : Ints Hx v1 nl := Row.keep hr10 hkx
  have hsx : Ints Hx v2 sl := Row.keep hs10 hkx
  have kkx := kk10.trans hkx
  by_cases hi : i < 3
  · obtain ⟨ha1, ha2⟩ := hall i.toNat (by omega)
    have hsIi := hsI i.toNat (by omega)
    obtain ⟨a, haa⟩ : ∃ a, vals[i.toNat]! = a := ⟨_, rfl⟩
    obtain ⟨l, hll⟩ : ∃ l, ls[i.toNat]! = l := ⟨_, rfl⟩
    rw [haa, hll] at ha1
    rw [hll] at ha2
    have hax : Ints Hx a l := Row.keep ha1 hkx
    have hload : ∀ Hy, Row Hy R vals → aload Tryd.prog 22 Hy (elemAt R i.toNat) = some a := fun Hy h => by rw [← haa]; exact lists_load h hi0 (by omega)
    repeat' first
      | refine CO.cons rfl ?_
      | refine CO.nil ?_
      | refine CV.seq ?_
      | refine CV.region callees ?_
      | refine CV.cond ?_
      | refine CV.block ?_
      | refine CV.skip ?_
      | refine CV.exit ?_
      | refine CV.ret ?_
      | refine CV.scope ?_
      | refine CV.draw callees ?_
      | refine CH.cons rfl ?_
      | refine CH.nil ?_
      | refine CO.consG rfl ?_
      | refine CH.consG rfl ?_
      | refine ⟨(rfl : plain _ = true), ?_⟩
      | refine ⟨(rfl : nilOk _ = some _), ?_⟩
      | refine ⟨_, ints_len (by assumption), ?_⟩
      | refine ⟨_, ints_addr (by assumption) (by omega) (by omega), ?_⟩
      | refine ⟨_, ints_load (by assumption) (by omega) (by omega), ?_⟩
      | refine ⟨(⟨by omega, by omega⟩ : inI64 _), ?_⟩
      | refine ⟨_, fun tm ha => step1_max rfl (ev_tmp ha rfl) (ev_tmp ha rfl), ?_⟩
      | refine ⟨_, fun tm ha => step1_min rfl (ev_tmp ha rfl) (ev_tmp ha rfl), ?_⟩
      | refine ⟨_, lists_len hRx, ?_⟩
      | refine ⟨_, lists_addr hRx (by omega) (by omega), ?_⟩
      | refine ⟨_, hload _ hRx, ?_⟩
      | (refine ⟨fun _ => ?_, fun _ => ?_⟩ <;> first | (exfalso; omega) | skip)
      | fail
    refine (ints_spec hBx hax (by omega)).mono ?_
    rintro my H11 ⟨hmy, k11⟩
    have hB11 := Nat.le_trans hBx k11.1
    have kk11 := kkx.trans k11
    repeat' first
      | refine CO.cons rfl ?_
      | refine CO.nil ?_
      | refine CV.seq ?_
      | refine CV.region callees ?_
      | refine CV.cond ?_
      | refine CV.block ?_
      | refine CV.skip ?_
      | refine CV.exit ?_
      | refine CV.ret ?_
      | refine CV.scope ?_
      | refine CV.draw callees ?_
      | refine CH.cons rfl ?_
      | refine CH.nil ?_
      | refine CO.consG rfl ?_
      | refine CH.consG rfl ?_
      | refine ⟨(rfl : plain _ = true), ?_⟩
      | refine ⟨(rfl : nilOk _ = some _), ?_⟩
      | refine ⟨_, ints_len (by assumption), ?_⟩
      | refine ⟨_, ints_addr (by assumption) (by omega) (by omega), ?_⟩
      | refine ⟨_, ints_load (by assumption) (by omega) (by omega), ?_⟩
      | refine ⟨(⟨by omega, by omega⟩ : inI64 _), ?_⟩
      | refine ⟨_, fun tm ha => step1_max rfl (ev_tmp ha rfl) (ev_tmp ha rfl), ?_⟩
      | refine ⟨_, fun tm ha => step1_min rfl (ev_tmp ha rfl) (ev_tmp ha rfl), ?_⟩
      | (refine ⟨fun _ => ?_, fun _ => ?_⟩ <;> first | (exfalso; omega) | skip)
      | fail
    refine (rank_spec hB11 (base_keep hBase kk11) hmy.row).mono ?_
    rintro r H12 ⟨rfl, k12⟩
    have hB12 := Nat.le_trans hB11 k12.1
    have kk12 := kk11.trans k12
    have hR12 : Row H12 R vals := Row.keep (Row.keep hRx k11) k12
    have ha12 : Ints H12 a l := Row.keep (Row.keep hax k11) k12
    have hr12 : Ints H12 v1 nl := Row.keep (Row.keep hrx k11) k12
    have hs12 : Ints H12 v2 sl := Row.keep (Row.keep hsx k11) k12
    have hm12 : Ints H12 my l := Row.keep hmy.row k12
    repeat' first
      | refine CO.cons rfl ?_
      | refine CO.nil ?_
      | refine CV.seq ?_
      | refine CV.region callees ?_
      | refine CV.cond ?_
      | refine CV.block ?_
      | refine CV.skip ?_
      | refine CV.exit ?_
      | refine CV.ret ?_
      | refine CV.scope ?_
      | refine CV.draw callees ?_
      | refine CH.cons rfl ?_
      | refine CH.nil ?_
      | refine CO.consG rfl ?_
      | refine CH.consG rfl ?_
      | refine ⟨(rfl : plain _ = true), ?_⟩
      | refine ⟨(rfl : nilOk _ = some _), ?_⟩
      | refine ⟨_, ints_len (by assumption), ?_⟩
      | refine ⟨_, ints_addr (by assumption) (by omega) (by omega), ?_⟩
      | refine ⟨_, ints_load (by assumption) (by omega) (by omega), ?_⟩
      | refine ⟨(⟨by omega, by omega⟩ : inI64 _), ?_⟩
      | refine ⟨_, fun tm ha => step1_max rfl (ev_tmp ha rfl) (ev_tmp ha rfl), ?_⟩
      | refine ⟨_, fun tm ha => step1_min rfl (ev_tmp ha rfl) (ev_tmp ha rfl), ?_⟩
      | refine ⟨_, lists_addr hR12 (by omega) (by omega), ?_⟩
      | refine ⟨_, hload _ hR12, ?_⟩
      | (refine (refRank_spec hB12 ha12).mono ?_; rintro r H' ⟨rfl, rfl⟩)
      | (refine ⟨fun _ => ?_, fun _ => ?_⟩ <;> first | (exfalso; omega) | skip)
      | fail
    refine (unrank_spec hB12 (base_keep hBase kk12) hsIi).mono ?_
    rintro r H13 ⟨⟨u1, rfl, hu1⟩, k13⟩
    have hB13 := Nat.le_trans hB12 k13.1
    have kk13 := kk12.trans k13
    have hR13 : Row H13 R vals := Row.keep hR12 k13
    have ha13 : Ints H13 a l := Row.keep ha12 k13
    have hr13 : Ints H13 v1 nl := Row.keep hr12 k13
    have hs13 : Ints H13 v2 sl := Row.keep hs12 k13
    have hm13 : Ints H13 my l := Row.keep hm12 k13
    repeat' first
      | refine CO.cons rfl ?_
      | refine CO.nil ?_
      | refine CV.seq ?_
      | refine CV.region callees ?_
      | refine CV.cond ?_
      | refine CV.block ?_
      | refine CV.skip ?_
      | refine CV.exit ?_
      | refine CV.ret ?_
      | refine CV.scope ?_
      | refine CV.draw callees ?_
      | refine CH.cons rfl ?_
      | refine CH.nil ?_
      | refine CO.consG rfl ?_
      | refine CH.consG rfl ?_
      | refine ⟨(rfl : plain _ = true), ?_⟩
      | refine ⟨(rfl : nilOk _ = some _), ?_⟩
      | refine ⟨_, ints_len (by assumption), ?_⟩
      | refine ⟨_, ints_addr (by assumption) (by omega) (by omega), ?_⟩
      | refine ⟨_, ints_load (by assumption) (by omega) (by omega), ?_⟩
      | refine ⟨(⟨by omega, by omega⟩ : inI64 _), ?_⟩
      | refine ⟨_, fun tm ha => step1_max rfl (ev_tmp ha rfl) (ev_tmp ha rfl), ?_⟩
      | refine ⟨_, fun tm ha => step1_min rfl (ev_tmp ha rfl) (ev_tmp ha rfl), ?_⟩
      | (refine ⟨fun _ => ?_, fun _ => ?_⟩ <;> first | (exfalso; omega) | skip)
      | fail
    refine (refUnrank_spec hB13 hsIi).mono ?_
    rintro r H14 ⟨⟨u2, rfl, hu2⟩, k14⟩
    have hB14 := Nat.le_trans hB13 k14.1
    have kk14 := kk13.trans k14
    have hR14 : Row H14 R vals := Row.keep hR13 k14
    have ha14 : Ints H14 a l := Row.keep ha13 k14
    have hm14 : Ints H14 my l := Row.keep hm13 k14
    have hu14 : Ints H14 u1 _ := Row.keep hu1 k14
    repeat' first
      | refine CO.cons rfl ?_
      | refine CO.nil ?_
      | refine CV.seq ?_
      | refine CV.region callees ?_
      | refine CV.cond ?_
      | refine CV.block ?_
      | refine CV.skip ?_
      | refine CV.exit ?_
      | refine CV.ret ?_
      | refine CV.scope ?_
      | refine CV.draw callees ?_
      | refine CH.cons rfl ?_
      | refine CH.nil ?_
      | refine CO.consG rfl ?_
      | refine CH.consG rfl ?_
      | refine ⟨(rfl : plain _ = true), ?_⟩
      | refine ⟨(rfl : nilOk _ = some _), ?_⟩
      | refine ⟨_, ints_len (by assumption), ?_⟩
      | refine ⟨_, ints_addr (by assumption) (by omega) (by omega), ?_⟩
      | refine ⟨_, ints_load (by assumption) (by omega) (by omega), ?_⟩
      | refine ⟨(⟨by omega, by omega⟩ : inI64 _), ?_⟩
      | refine ⟨_, fun tm ha => step1_max rfl (ev_tmp ha rfl) (ev_tmp ha rfl), ?_⟩
      | refine ⟨_, fun tm ha => step1_min rfl (ev_tmp ha rfl) (ev_tmp ha rfl), ?_⟩
      | (refine ⟨fun _ => ?_, fun _ => ?_⟩ <;> first | (exfalso; omega) | skip)
      | fail
    refine (next_spec hB14 hm14).mono ?_
    rintro r H15 ⟨⟨u3, rfl, hu3, _⟩, k15⟩
    have hB15 := Nat.le_trans hB14 k15.1
    have hR15 : Row H15 R vals := Row.keep hR14 k15
    have ha15 : Ints H15 a l := Row.keep ha14 k15
    have hm15 : Ints H15 my l := Row.keep hm14 k15
    have hx15 : Ints H15 u1 _ := Row.keep hu14 k15
    have hy15 : Ints H15 u2 _ := Row.keep hu2 k15
    repeat' first
      | refine CO.cons rfl ?_
      | refine CO.nil ?_
      | refine CV.seq ?_
      | refine CV.region callees ?_
      | refine CV.cond ?_
      | refine CV.block ?_
      | refine CV.skip ?_
      | refine CV.exit ?_
      | refine CV.ret ?_
      | refine CV.scope ?_
      | refine CV.draw callees ?_
      | refine CH.cons rfl ?_
      | refine CH.nil ?_
      | refine CO.consG rfl ?_
      | refine CH.consG rfl ?_
      | refine ⟨(rfl : plain _ = true), ?_⟩
      | refine ⟨(rfl : nilOk _ = some _), ?_⟩
      | refine ⟨_, ints_len (by assumption), ?_⟩
      | refine ⟨_, ints_addr (by assumption) (by omega) (by omega), ?_⟩
      | refine ⟨_, ints_load (by assumption) (by omega) (by omega), ?_⟩
      | refine ⟨(⟨by omega, by omega⟩ : inI64 _), ?_⟩
      | refine ⟨_, fun tm ha => step1_max rfl (ev_tmp ha rfl) (ev_tmp ha rfl), ?_⟩
      | refine ⟨_, fun tm ha => step1_min rfl (ev_tmp ha rfl) (ev_tmp ha rfl), ?_⟩
      | refine ⟨_, lists_addr hR15 (by omega) (by omega), ?_⟩
      | refine ⟨_, hload _ hR15, ?_⟩
      | (refine ⟨fun _ => ?_, fun _ => ?_⟩ <;> first | (exfalso; omega) | skip)
      | fail
    refine (refNext_spec hB15 ha15).mono ?_
    rintro r H16 ⟨⟨u4, rfl, hu4⟩, k16⟩
    have hB16 := Nat.le_trans hB15 k16.1
    have kall : Keep H10 H16 := hkx.trans (k11.trans (k12.trans (k13.trans (k14.trans (k15.trans k16)))))
    have hR16 : Row H16 R vals := Row.keep hR15 k16
    have ha16 : Ints H16 a l := Row.keep ha15 k16
    have hm16 : Ints H16 my l := Row.keep hm15 k16
    have hx16 : Ints H16 u1 _ := Row.keep hx15 k16
    have hy16 : Ints H16 u2 _ := Row.keep hy15 k16
    have hu16 : Ints H16 u3 _ := Row.keep hu3 k16
    have l1 := unL_len nl[i.toNat]! sl[i.toNat]!
    have l2 := nxL_len l
    repeat' first
      | refine CO.cons rfl ?_
      | refine CO.nil ?_
      | refine CV.seq ?_
      | refine CV.region callees ?_
      | refine CV.cond ?_
      | refine CV.block ?_
      | refine CV.skip ?_
      | refine CV.exit ?_
      | refine CV.ret ?_
      | refine CV.scope ?_
      | refine CV.draw callees ?_
      | refine CH.cons rfl ?_
      | refine CH.nil ?_
      | refine CO.consG rfl ?_
      | refine CH.consG rfl ?_
      | refine ⟨(rfl : plain _ = true), ?_⟩
      | refine ⟨(rfl : nilOk _ = some _), ?_⟩
      | refine ⟨_, ints_len (by assumption), ?_⟩
      | refine ⟨_, ints_addr (by assumption) (by omega) (by omega), ?_⟩
      | refine ⟨_, ints_load (by assumption) (by omega) (by omega), ?_⟩
      | refine ⟨(⟨by omega, by omega⟩ : inI64 _), ?_⟩
      | refine ⟨_, fun tm ha => step1_max rfl (ev_tmp ha rfl) (ev_tmp ha rfl), ?_⟩
      | refine ⟨_, fun tm ha => step1_min rfl (ev_tmp ha rfl) (ev_tmp ha rfl), ?_⟩
      | (refine (eq_same hB16 hx16 hy16 (by omega)).mono ?_; rintro r H' ⟨rfl, rfl⟩)
      | (refine (eq_same (by assumption) hu16 hu4 (by omega)).mono ?_; rintro r H' ⟨rfl, rfl⟩)
      | (refine (eq_same (by assumption) hm16 ha16 (by omega)).mono ?_; rintro r H' ⟨rfl, rfl⟩)
      | refine ⟨_, lists_addr hR16 (by omega) (by omega), ?_⟩
      | refine ⟨_, hload _ hR16, ?_⟩
      | (refine ⟨fun _ => ?_, fun _ => ?_⟩ <;> first | (exfalso; omega) | skip)
      | fail
    refine ⟨(i + 1), (by repeat' first | exact trivial | refine ⟨rfl, ?_⟩), (by (try dsimp only); omega), ?_⟩
    exact ⟨by omega, by omega, kall⟩
  · have hbz := base_keep hBase kkx
    repeat' first
      | refine CO.cons rfl ?_
      | refine CO.nil ?_
      | refine CV.seq ?_
      | refine CV.region callees ?_
      | refine CV.cond ?_
      | refine CV.block ?_
      | refine CV.skip ?_
      | refine CV.exit ?_
      | refine CV.ret ?_
      | refine CV.scope ?_
      | refine CV.draw callees ?_
      | refine CH.cons rfl ?_
      | refine CH.nil ?_
      | refine CO.consG rfl ?_
      | refine CH.consG rfl ?_
      | refine ⟨(rfl : plain _ = true), ?_⟩
      | refine ⟨(rfl : nilOk _ = some _), ?_⟩
      | refine ⟨_, ints_len (by assumption), ?_⟩
      | refine ⟨_, ints_addr (by assumption) (by omega) (by omega), ?_⟩
      | refine ⟨_, ints_load (by assumption) (by omega) (by omega), ?_⟩
      | refine ⟨(⟨by omega, by omega⟩ : inI64 _), ?_⟩
      | refine ⟨_, fun tm ha => step1_max rfl (ev_tmp ha rfl) (ev_tmp ha rfl), ?_⟩
      | refine ⟨_, fun tm ha => step1_min rfl (ev_tmp ha rfl) (ev_tmp ha rfl), ?_⟩
      | refine ⟨_, lists_len hRx, ?_⟩
      | refine CallB.known rfl hbz hBx ?_
      | (refine ⟨fun _ => ?_, fun _ => ?_⟩ <;> first | (exfalso; omega) | skip)
      | fail
    exact ⟨rfl, rfl⟩
end Go.Proofs.YthjieekbbhhjgaaDoor
