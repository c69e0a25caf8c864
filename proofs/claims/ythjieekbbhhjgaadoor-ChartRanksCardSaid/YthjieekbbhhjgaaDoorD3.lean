/- Partitions of ranks. -/
import Derived.Test.YthjieekbbhhjgaaDoorD2
namespace Go.Proofs.YthjieekbbhhjgaaDoor
open Go.AI
theorem step1_quoI {P : Program} {tm : Tm} {H : Heap} {o : Oper} {t u : TypeId} {x y : Operand} {a b : Int} (ho : o.op = .binOp .quo t x y u) (hx : ev P tm x = some (.int .i64 a)) (hy : ev P tm y = some (.int .i64 b)) (hb : b ≠ 0) (h0 : -9223372036854775808 ≤ a.tdiv b) (h1 : a.tdiv b < 9223372036854775808) : step1 P tm H o = some (.int .i64 (a.tdiv b), H, H.n) := by
  have := step1_quo ho hx hy hb (H := H)
  rw [wrapI h0 h1] at this
  exact this
theorem cnt_bound {n : Int} (h : (cntR n).2 = 0) : 1 ≤ n ∧ n ≤ 9 ∧ 1 ≤ (cntR n).1 ∧ (cntR n).1 ≤ 21147 := by
  unfold cntR at h ⊢
  split at h
  · cases h
  · rename_i hn
    rw [if_neg hn]
    have := beh_at (n := n.toNat) (b := 0) (by omega) (by omega)
    simp only [Int.toNat_zero, Nat.add_zero] at this
    exact ⟨by omega, by omega, by rw [this.2.2]; omega, by rw [this.2.2]; omega⟩
set_option maxHeartbeats 1000000 in
set_option maxRecDepth 100000 in
theorem unrank_spec {B : Nat} {H : Heap} {n k : Int} (hn : B ≤ H.n) (hb : Base H) (hk : inI64 k) :
    CallB Tryd.prog B 37 [.int .i64 n, .int .i64 k] H (fun r H' => (∃ u, r = .tuple #[u, .int .i64 (unE n k)] ∧ Ints H' u (unL n k)) ∧ Keep H H') := by
  obtain ⟨hk0, hk1⟩ := hk
  refine CV.enter callees false rfl Tryd.func37 rfl ok37 (Nat.le_of_ble_eq_true rfl) hn ?_
  repeat' first
    | refine CO.cons rfl ?_
    | refine CO.nil ?_
    | refine CV.seq ?_
    | refine CV.region callees ?_
    | refine CV.cond ?_
    | refine CV.block ?_
    | refine CV.skip ?_
    | refine CV.exit ?_
    | refine CV.ret ?_
    | refine CV.scope ?_
    | refine CV.draw callees ?_
    | refine CH.cons rfl ?_
    | refine CH.nil ?_
    | refine CO.consG rfl ?_
    | refine CH.consG rfl ?_
    | refine ⟨(rfl : plain _ = true), ?_⟩
    | refine ⟨(rfl : nilOk _ = some _), ?_⟩
    | refine ⟨_, ints_len (by assumption), ?_⟩
    | refine ⟨_, ints_addr (by assumption) (by omega) (by omega), ?_⟩
    | refine ⟨_, ints_load (by assumption) (by omega) (by omega), ?_⟩
    | refine ⟨(⟨by omega, by omega⟩ : inI64 _), ?_⟩
    | refine ⟨_, fun tm ha => step1_max rfl (ev_tmp ha rfl) (ev_tmp ha rfl), ?_⟩
    | refine ⟨_, fun tm ha => step1_min rfl (ev_tmp ha rfl) (ev_tmp ha rfl), ?_⟩
    | (refine ⟨fun _ => ?_, fun _ => ?_⟩ <;> first | (exfalso; omega) | skip)
    | fail
  refine (count_spec hn hb).mono ?_
  rintro r H1 ⟨rfl, rfl⟩
  repeat' first
    | refine CO.cons rfl ?_
    | refine CO.nil ?_
    | refine CV.seq ?_
    | refine CV.region callees ?_
    | refine CV.cond ?_
    | refine CV.block ?_
    | refine CV.skip ?_
    | refine CV.exit ?_
    | refine CV.ret ?_
    | refine CV.scope ?_
    | refine CV.draw callees ?_
    | refine CH.cons rfl ?_
    | refine CH.nil ?_
    | refine CO.consG rfl ?_
    | refine CH.consG rfl ?_
    | refine ⟨(rfl : plain _ = true), ?_⟩
    | refine ⟨(rfl : nilOk _ = some _), ?_⟩
    | refine ⟨_, ints_len (by assumption), ?_⟩
    | refine ⟨_, ints_addr (by assumption) (by omega) (by omega), ?_⟩
    | refine ⟨_, ints_load (by assumption) (by omega) (by omega), ?_⟩
    | refine ⟨(⟨by omega, by omega⟩ : inI64 _), ?_⟩
    | refine ⟨_, fun tm ha => step1_max rfl (ev_tmp ha rfl) (ev_tmp ha rfl), ?_⟩
    | refine ⟨_, fun tm ha => step1_min rfl (ev_tmp ha rfl) (ev_tmp ha rfl), ?_⟩
    | (refine ⟨fun _ => ?_, fun _ => ?_⟩ <;> first | (exfalso; omega) | skip)
    | fail
  · have hu : unE n k = (cntR n).2 := by rw [unE, if_pos (by assumption)]
    exact ⟨rfl, ⟨_, by rw [hu], .inl ⟨rfl, by rw [unL, hu, if_neg (by assumption)]; rfl⟩⟩, Keep.refl _⟩
  · have h0 : (cntR n).2 = 0 := Classical.not_not.1 (by assumption)
    have hu : unE n k = 7 := by rw [unE, if_neg (by omega), if_pos (by omega)]
    exact ⟨rfl, ⟨_, by rw [hu], .inl ⟨rfl, by rw [unL, hu, if_neg (by omega)]; rfl⟩⟩, Keep.refl _⟩
  · have h0 : (cntR n).2 = 0 := Classical.not_not.1 (by assumption)
    have hu : unE n k = 7 := by rw [unE, if_neg (by omega), if_pos (by omega)]
    exact ⟨rfl, ⟨_, by rw [hu], .inl ⟨rfl, by rw [unL, hu, if_neg (by omega)]; rfl⟩⟩, Keep.refl _⟩
  have h0 : (cntR n).2 = 0 := Classical.not_not.1 (by assumption)
  have hu : unE n k = 0 := by rw [unE, if_neg (by omega), if_neg (by omega)]
  have hl : unL n k = unM n.toNat k 0 := by rw [unL, if_pos hu]
  have hcb := cnt_bound h0
  have hg : (H1.new (.cells (List.replicate 100 (VI 0)) 79 1)).get H1.n = some (.cells (List.replicate 100 (VI 0)) 79 1) := Heap.get_new_eq _ _
  have k1 : Keep H1 ((H1.new (.cells (List.replicate 100 (VI 0)) 79 1)).set H1.n (.cells (endT.map VI) 79 1)) := (Keep.new _ _).set _ (Nat.le_refl _)
  have hg2 : ((H1.new (.cells (List.replicate 100 (VI 0)) 79 1)).set H1.n (.cells (endT.map VI) 79 1)).get H1.n = some (.cells (endT.map VI) 79 1) := Heap.get_set_eq _ _ _
  have hn2 : H1.n < ((H1.new (.cells (List.replicate 100 (VI 0)) 79 1)).set H1.n (.cells (endT.map VI) 79 1)).n := Nat.lt_succ_self _
  generalize hH2 : (H1.new (.cells (List.replicate 100 (VI 0)) 79 1)).set H1.n (.cells (endT.map VI) 79 1) = H2 at k1 hg2 hn2
  repeat' first
    | refine CO.cons rfl ?_
    | refine CO.nil ?_
    | refine CV.seq ?_
    | refine CV.region callees ?_
    | refine CV.cond ?_
    | refine CV.block ?_
    | refine CV.skip ?_
    | refine CV.exit ?_
    | refine CV.ret ?_
    | refine CV.scope ?_
    | refine CV.draw callees ?_
    | refine CH.cons rfl ?_
    | refine CH.nil ?_
    | refine CO.consG rfl ?_
    | refine CH.consG rfl ?_
    | refine ⟨(rfl : plain _ = true), ?_⟩
    | refine ⟨(rfl : nilOk _ = some _), ?_⟩
    | refine ⟨_, ints_len (by assumption), ?_⟩
    | refine ⟨_, ints_addr (by assumption) (by omega) (by omega), ?_⟩
    | refine ⟨_, ints_load (by assumption) (by omega) (by omega), ?_⟩
    | refine ⟨(⟨by omega, by omega⟩ : inI64 _), ?_⟩
    | refine ⟨_, fun tm ha => step1_max rfl (ev_tmp ha rfl) (ev_tmp ha rfl), ?_⟩
    | refine ⟨_, fun tm ha => step1_min rfl (ev_tmp ha rfl) (ev_tmp ha rfl), ?_⟩
    | refine CallB.known rfl hb hn ?_
    | refine ⟨_, _, alloc79, ?_⟩
    | refine ⟨_, _, store79 endT_len hg (by simp), hn, ?_⟩
    | (refine ⟨fun _ => ?_, fun _ => ?_⟩ <;> first | (exfalso; omega) | skip)
    | fail
  rw [hH2]
  repeat' first
    | refine CO.cons rfl ?_
    | refine CO.nil ?_
    | refine CV.seq ?_
    | refine CV.region callees ?_
    | refine CV.cond ?_
    | refine CV.block ?_
    | refine CV.skip ?_
    | refine CV.exit ?_
    | refine CV.ret ?_
    | refine CV.scope ?_
    | refine CV.draw callees ?_
    | refine CH.cons rfl ?_
    | refine CH.nil ?_
    | refine CO.consG rfl ?_
    | refine CH.consG rfl ?_
    | refine ⟨(rfl : plain _ = true), ?_⟩
    | refine ⟨(rfl : nilOk _ = some _), ?_⟩
    | refine ⟨_, ints_len (by assumption), ?_⟩
    | refine ⟨_, ints_addr (by assumption) (by omega) (by omega), ?_⟩
    | refine ⟨_, ints_load (by assumption) (by omega) (by omega), ?_⟩
    | refine ⟨(⟨by omega, by omega⟩ : inI64 _), ?_⟩
    | refine ⟨_, fun tm ha => step1_max rfl (ev_tmp ha rfl) (ev_tmp ha rfl), ?_⟩
    | refine ⟨_, fun tm ha => step1_min rfl (ev_tmp ha rfl) (ev_tmp ha rfl), ?_⟩
    | (refine ⟨fun _ => ?_, fun _ => ?_⟩ <;> first | (exfalso; omega) | skip)
    | fail
  obtain ⟨m, rfl⟩ : ∃ m : Nat, n = m := ⟨n.toNat, by omega⟩
  refine ⟨_, _, make_row un22 one3 (by omega) m (by omega), ?_⟩
  have hown : Own 3 (H2.new (.cells (List.replicate m (VI 0)) 3 2)) (.slice (some ⟨H2.n, 0, none⟩) m 0) ((List.replicate m (0 : Int)).map VI) H2.n :=
    .inr ⟨H2.n, by simp, Nat.le_refl _, Nat.lt_succ_self _, by rw [Heap.get_new_eq]; simp⟩
  have hg3 : (H2.new (.cells (List.replicate m (VI 0)) 3 2)).get H1.n = some (.cells (endT.map VI) 79 1) := by rw [Heap.get_new_ne _ _ (by omega)]; exact hg2
  have k2 : Keep H1 (H2.new (.cells (List.replicate m (VI 0)) 3 2)) := k1.trans (Keep.new _ _)
  generalize hH3 : H2.new (.cells (List.replicate m (VI 0)) 3 2) = H3 at hown hg3 k2
  generalize hw : Value.slice (some ⟨H2.n, 0, none⟩) m 0 = w at hown
  have hwi : Ints H3 w (List.replicate m 0) := hown.row
  repeat' first
    | refine CO.cons rfl ?_
    | refine CO.nil ?_
    | refine CV.seq ?_
    | refine CV.region callees ?_
    | refine CV.cond ?_
    | refine CV.block ?_
    | refine CV.skip ?_
    | refine CV.exit ?_
    | refine CV.ret ?_
    | refine CV.scope ?_
    | refine CV.draw callees ?_
    | refine CH.cons rfl ?_
    | refine CH.nil ?_
    | refine CO.consG rfl ?_
    | refine CH.consG rfl ?_
    | refine ⟨(rfl : plain _ = true), ?_⟩
    | refine ⟨(rfl : nilOk _ = some _), ?_⟩
    | refine ⟨_, ints_len (by assumption), ?_⟩
    | refine ⟨_, ints_addr (by assumption) (by omega) (by omega), ?_⟩
    | refine ⟨_, ints_load (by assumption) (by omega) (by omega), ?_⟩
    | refine ⟨(⟨by omega, by omega⟩ : inI64 _), ?_⟩
    | refine ⟨_, fun tm ha => step1_max rfl (ev_tmp ha rfl) (ev_tmp ha rfl), ?_⟩
    | refine ⟨_, fun tm ha => step1_min rfl (ev_tmp ha rfl) (ev_tmp ha rfl), ?_⟩
    | (refine ⟨fun _ => ?_, fun _ => ?_⟩ <;> first | (exfalso; omega) | skip)
    | fail
  rw [List.length_replicate]
  refine CV.loopc ?_
  refine WCv.rounds callees false (α := Int × Int × Int × List Int) (fun (i, s, b, out) => [(0, .int .i64 m), (8, .pointer (some ⟨H1.n, 0, none⟩)), (9, w), (10, .int .i64 s), (11, .int .i64 b), (34, .int .i64 m), (35, .int .i64 i)]) (fun (i, s, b, out) Hz => 0 ≤ i ∧ i ≤ m ∧ 0 ≤ b ∧ b ≤ i ∧ 0 ≤ s ∧ s ≤ 21147 ∧ (out.length : Int) = i ∧ Own 3 Hz w ((out ++ List.replicate (m - i.toNat) 0).map VI) H2.n ∧ Keep H1 Hz ∧ H2.n ≤ Hz.n ∧ Hz.get H1.n = some (.cells (endT.map VI) 79 1) ∧ out ++ unM (m - i.toNat) s b = unM m k 0) (fun (i, s, b, out) => m - i.toNat) (0, k, 0, []) (by repeat' first | exact trivial | refine ⟨rfl, ?_⟩) ?_ ?_
  · exact ⟨by omega, by omega, by omega, by omega, by omega, by omega, rfl, by simpa using hown, k2, by rw [← hH3]; exact Nat.le_succ _, hg3, by simp⟩
  rintro ⟨i, s, b, out⟩ Hx ⟨hi0, hi1, hb0, hb1, hs0, hs1, hlo, hwx, hkx, hhx, hgx, hM⟩ hBx
  by_cases hi : i < m
  · obtain ⟨q, hq⟩ : ∃ q, m - i.toNat = q + 1 := ⟨m - i.toNat - 1, by omega⟩
    have hqi : ((m : Int) - 1 - i).toNat = q := by omega
    have be := beh_at (n := q) (b := b) hb0 (by omega)
    rw [hq, unM] at hM
    obtain ⟨e, he⟩ : ∃ e, behM q b = e := ⟨_, rfl⟩
    rw [he] at be hM
    have us := un_step hs0 hs1 be.1 hb0
    obtain ⟨c, hc⟩ : ∃ c, min (s.tdiv e) b = c := ⟨_, rfl⟩
    rw [hc] at us hM
    repeat' first
      | refine CO.cons rfl ?_
      | refine CO.nil ?_
      | refine CV.seq ?_
      | refine CV.region callees ?_
      | refine CV.cond ?_
      | refine CV.block ?_
      | refine CV.skip ?_
      | refine CV.exit ?_
      | refine CV.ret ?_
      | refine CV.scope ?_
      | refine CV.draw callees ?_
      | refine CH.cons rfl ?_
      | refine CH.nil ?_
      | refine CO.consG rfl ?_
      | refine CH.consG rfl ?_
      | refine ⟨(rfl : plain _ = true), ?_⟩
      | refine ⟨(rfl : nilOk _ = some _), ?_⟩
      | refine ⟨_, ints_len (by assumption), ?_⟩
      | refine ⟨_, ints_addr (by assumption) (by omega) (by omega), ?_⟩
      | refine ⟨_, ints_load (by assumption) (by omega) (by omega), ?_⟩
      | refine ⟨(⟨by omega, by omega⟩ : inI64 _), ?_⟩
      | refine ⟨_, fun tm ha => step1_max rfl (ev_tmp ha rfl) (ev_tmp ha rfl), ?_⟩
      | refine ⟨_, fun tm ha => step1_min rfl (ev_tmp ha rfl) (ev_tmp ha rfl), ?_⟩
      | refine ⟨_, tab_addr (by omega) (by omega), ?_⟩
      | refine ⟨_, row_addr (by omega) (by omega), ?_⟩
      | refine ⟨_, tab_load endT_len hgx (by omega) (by omega) (by omega) (by omega), ?_⟩
      | (refine ⟨fun _ => ?_, fun _ => ?_⟩ <;> first | (exfalso; omega) | skip)
      | fail
    rw [hqi, be.2.2]
    have hwi' : Ints Hx w (out ++ List.replicate (m - i.toNat) 0) := hwx.row
    have hlen : (out ++ List.replicate (m - i.toNat) (0 : Int)).length = m := by simp; omega
    repeat' first
      | refine CO.cons rfl ?_
      | refine CO.nil ?_
      | refine CV.seq ?_
      | refine CV.region callees ?_
      | refine CV.cond ?_
      | refine CV.block ?_
      | refine CV.skip ?_
      | refine CV.exit ?_
      | refine CV.ret ?_
      | refine CV.scope ?_
      | refine CV.draw callees ?_
      | refine CH.cons rfl ?_
      | refine CH.nil ?_
      | refine CO.consG rfl ?_
      | refine CH.consG rfl ?_
      | refine ⟨(rfl : plain _ = true), ?_⟩
      | refine ⟨(rfl : nilOk _ = some _), ?_⟩
      | refine ⟨_, ints_len (by assumption), ?_⟩
      | refine ⟨_, ints_addr (by assumption) (by omega) (by omega), ?_⟩
      | refine ⟨_, ints_load (by assumption) (by omega) (by omega), ?_⟩
      | refine ⟨(⟨by omega, by omega⟩ : inI64 _), ?_⟩
      | refine ⟨_, fun tm ha => step1_max rfl (ev_tmp ha rfl) (ev_tmp ha rfl), ?_⟩
      | refine ⟨_, fun tm ha => step1_min rfl (ev_tmp ha rfl) (ev_tmp ha rfl), ?_⟩
      | refine ⟨_, fun tm ha => step1_quoI rfl (ev_tmp ha rfl) (ev_tmp ha rfl) (by omega) (by omega) (by omega), ?_⟩
      | (refine ⟨fun _ => ?_, fun _ => ?_⟩ <;> first | (exfalso; omega) | skip)
      | fail
    rw [hc]
    refine put_ask (i := i.toNat) hwx (by omega) (by omega) ?_
    intro H4 hw4 kb4
    have hset : (out ++ List.replicate (m - i.toNat) (0 : Int)).set i.toNat c = (out ++ [c]) ++ List.replicate (m - (i + 1).toNat) 0 := by
      rw [hq, List.set_append_right _ _ (by omega), show i.toNat - out.length = 0 by omega, List.replicate_succ, List.set_cons_zero, show m - (i + 1).toNat = q by omega, List.append_assoc]
      rfl
    rw [hset] at hw4
    have hlen4 : ((out ++ [c]) ++ List.replicate (m - (i + 1).toNat) (0 : Int)).length = m := by simp; omega
    have hget : ((out ++ [c]) ++ List.replicate (m - (i + 1).toNat) (0 : Int))[i.toNat]! = c := by
      rw [getElem!_pos _ _ (by omega), List.getElem_append_left (by simp; omega), List.getElem_append_right (by omega)]
      simp
    have hw4i : Ints H4 w ((out ++ [c]) ++ List.replicate (m - (i + 1).toNat) 0) := hw4.row
    repeat' first
      | refine CO.cons rfl ?_
      | refine CO.nil ?_
      | refine CV.seq ?_
      | refine CV.region callees ?_
      | refine CV.cond ?_
      | refine CV.block ?_
      | refine CV.skip ?_
      | refine CV.exit ?_
      | refine CV.ret ?_
      | refine CV.scope ?_
      | refine CV.draw callees ?_
      | refine CH.cons rfl ?_
      | refine CH.nil ?_
      | refine CO.consG rfl ?_
      | refine CH.consG rfl ?_
      | refine ⟨(rfl : plain _ = true), ?_⟩
      | refine ⟨(rfl : nilOk _ = some _), ?_⟩
      | refine ⟨_, ints_len (by assumption), ?_⟩
      | refine ⟨_, ints_addr (by assumption) (by omega) (by omega), ?_⟩
      | refine ⟨_, ints_load (by assumption) (by omega) (by omega), ?_⟩
      | refine ⟨(⟨by omega, by omega⟩ : inI64 _), ?_⟩
      | refine ⟨_, fun tm ha => step1_max rfl (ev_tmp ha rfl) (ev_tmp ha rfl), ?_⟩
      | refine ⟨_, fun tm ha => step1_min rfl (ev_tmp ha rfl) (ev_tmp ha rfl), ?_⟩
      | (refine ⟨fun _ => ?_, fun _ => ?_⟩ <;> first | (exfalso; omega) | skip)
      | fail
    rw [hget]
    repeat' first
      | refine CO.cons rfl ?_
      | refine CO.nil ?_
      | refine CV.seq ?_
      | refine CV.region callees ?_
      | refine CV.cond ?_
      | refine CV.block ?_
      | refine CV.skip ?_
      | refine CV.exit ?_
      | refine CV.ret ?_
      | refine CV.scope ?_
      | refine CV.draw callees ?_
      | refine CH.cons rfl ?_
      | refine CH.nil ?_
      | refine CO.consG rfl ?_
      | refine CH.consG rfl ?_
      | refine ⟨(rfl : plain _ = true), ?_⟩
      | refine ⟨(rfl : nilOk _ = some _), ?_⟩
      | refine ⟨_, ints_len (by assumption), ?_⟩
      | refine ⟨_, ints_addr (by assumption) (by omega) (by omega), ?_⟩
      | refine ⟨_, ints_load (by assumption) (by omega) (by omega), ?_⟩
      | refine ⟨(⟨by omega, by omega⟩ : inI64 _), ?_⟩
      | refine ⟨_, fun tm ha => step1_max rfl (ev_tmp ha rfl) (ev_tmp ha rfl), ?_⟩
      | refine ⟨_, fun tm ha => step1_min rfl (ev_tmp ha rfl) (ev_tmp ha rfl), ?_⟩
      | (refine ⟨fun _ => ?_, fun _ => ?_⟩ <;> first | (exfalso; omega) | skip)
      | fail
    rw [hget]
    refine ⟨(i + 1, s - c * e, max b (c + 1), out ++ [c]), (by repeat' first | exact trivial | refine ⟨rfl, ?_⟩), (by (try dsimp only); omega), ?_⟩
    refine ⟨by omega, by omega, by omega, by omega, by omega, by omega, by simp; omega, hw4, kb4.keep hkx (fun z hz => by have := (hwx.lt hz).1; omega), Nat.le_trans hhx kb4.le, ?_, ?_⟩
    · rw [kb4.get _ (Nat.lt_of_lt_of_le hn2 hhx) (fun h => by have := (hwx.lt h).1; omega)]; exact hgx
    · rw [show m - (i + 1).toNat = q by omega, List.append_assoc]; exact hM
  · have hi' : m - i.toNat = 0 := by omega
    rw [hi', unM, List.append_nil] at hM
    rw [hi', List.replicate_zero, List.append_nil, hM] at hwx
    repeat' first
      | refine CO.cons rfl ?_
      | refine CO.nil ?_
      | refine CV.seq ?_
      | refine CV.region callees ?_
      | refine CV.cond ?_
      | refine CV.block ?_
      | refine CV.skip ?_
      | refine CV.exit ?_
      | refine CV.ret ?_
      | refine CV.scope ?_
      | refine CV.draw callees ?_
      | refine CH.cons rfl ?_
      | refine CH.nil ?_
      | refine CO.consG rfl ?_
      | refine CH.consG rfl ?_
      | refine ⟨(rfl : plain _ = true), ?_⟩
      | refine ⟨(rfl : nilOk _ = some _), ?_⟩
      | refine ⟨_, ints_len (by assumption), ?_⟩
      | refine ⟨_, ints_addr (by assumption) (by omega) (by omega), ?_⟩
      | refine ⟨_, ints_load (by assumption) (by omega) (by omega), ?_⟩
      | refine ⟨(⟨by omega, by omega⟩ : inI64 _), ?_⟩
      | refine ⟨_, fun tm ha => step1_max rfl (ev_tmp ha rfl) (ev_tmp ha rfl), ?_⟩
      | refine ⟨_, fun tm ha => step1_min rfl (ev_tmp ha rfl) (ev_tmp ha rfl), ?_⟩
      | (refine ⟨fun _ => ?_, fun _ => ?_⟩ <;> first | (exfalso; omega) | skip)
      | fail
    refine ⟨by simp only [List.all_cons, List.all_nil, hwx.notTuple]; rfl, ⟨w, by rw [hu], ?_⟩, hkx⟩
    rw [hl]
    exact hwx.row
end Go.Proofs.YthjieekbbhhjgaaDoor
