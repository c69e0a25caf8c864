/- Partitions of ranks, by the reference. -/
import Derived.Test.YthjieekbbhhjgaaDoorD3
namespace Go.Proofs.YthjieekbbhhjgaaDoor
open Go.AI
theorem cnt_sum {n : Int} (h1 : 1 ≤ n) (h9 : n ≤ 9) : sumM n.toNat n.toNat = (cntR n).1 ∧ (cntR n).2 = 0 := by
  rw [cntR, if_neg (by omega), cnt_in _ (by omega) (by omega)]; exact ⟨rfl, rfl⟩
set_option maxHeartbeats 1000000 in
set_option maxRecDepth 100000 in
theorem refUnrank_spec {B : Nat} {H : Heap} {n k : Int} (hn : B ≤ H.n) (hk : inI64 k) :
    CallB Tryd.prog B 38 [.int .i64 n, .int .i64 k] H (fun r H' => (∃ u, r = .tuple #[u, .int .i64 (unE n k)] ∧ Ints H' u (unL n k)) ∧ Keep H H') := by
  obtain ⟨hk0, hk1⟩ := hk
  have bad : (n < 1 ∨ 9 < n) → unE n k = 2 := fun h => by
    have : (cntR n).2 = 2 := by rw [cntR, if_pos h]
    rw [unE, if_pos (by omega), this]
  have bad2 : 1 ≤ n → n ≤ 9 → (k < 0 ∨ sumM n.toNat n.toNat ≤ k) → unE n k = 7 := fun h1 h2 h3 => by
    obtain ⟨h4, h5⟩ := cnt_sum h1 h2
    rw [unE, if_neg (by omega), if_pos (by omega)]
  refine CV.enter callees false rfl Tryd.func38 rfl ok38 (Nat.le_of_ble_eq_true rfl) hn ?_
  repeat' first
    | refine CO.cons rfl ?_
    | refine CO.nil ?_
    | refine CV.seq ?_
    | refine CV.region callees ?_
    | refine CV.cond ?_
    | refine CV.block ?_
    | refine CV.skip ?_
    | refine CV.exit ?_
    | refine CV.ret ?_
    | refine CV.scope ?_
    | refine CV.draw callees ?_
    | refine CH.cons rfl ?_
    | refine CH.nil ?_
    | refine CO.consG rfl ?_
    | refine CH.consG rfl ?_
    | refine ⟨(rfl : plain _ = true), ?_⟩
    | refine ⟨(rfl : nilOk _ = some _), ?_⟩
    | refine ⟨_, ints_len (by assumption), ?_⟩
    | refine ⟨_, ints_addr (by assumption) (by omega) (by omega), ?_⟩
    | refine ⟨_, ints_load (by assumption) (by omega) (by omega), ?_⟩
    | refine ⟨(⟨by omega, by omega⟩ : inI64 _), ?_⟩
    | refine ⟨_, fun tm ha => step1_max rfl (ev_tmp ha rfl) (ev_tmp ha rfl), ?_⟩
    | refine ⟨_, fun tm ha => step1_min rfl (ev_tmp ha rfl) (ev_tmp ha rfl), ?_⟩
    | (refine (refcount_spec hn (by omega) (by omega)).mono ?_; rintro r H' ⟨rfl, rfl⟩)
    | (refine ⟨fun _ => ?_, fun _ => ?_⟩ <;> first | (exfalso; omega) | skip)
    | fail
  · have hu := bad (by omega)
    exact ⟨rfl, ⟨_, by rw [hu], .inl ⟨rfl, by rw [unL, hu, if_neg (by omega)]; rfl⟩⟩, Keep.refl _⟩
  · have hu := bad (by omega)
    exact ⟨rfl, ⟨_, by rw [hu], .inl ⟨rfl, by rw [unL, hu, if_neg (by omega)]; rfl⟩⟩, Keep.refl _⟩
  · have hu := bad2 (by omega) (by omega) (by omega)
    exact ⟨rfl, ⟨_, by rw [hu], .inl ⟨rfl, by rw [unL, hu, if_neg (by omega)]; rfl⟩⟩, Keep.refl _⟩
  · have hu := bad2 (by omega) (by omega) (by omega)
    exact ⟨rfl, ⟨_, by rw [hu], .inl ⟨rfl, by rw [unL, hu, if_neg (by omega)]; rfl⟩⟩, Keep.refl _⟩
  clear bad bad2
  obtain ⟨h4, h5⟩ := cnt_sum (n := n) (by omega) (by omega)
  have hcb := cnt_bound h5
  have hu : unE n k = 0 := by rw [unE, if_neg (by omega), if_neg (by omega)]
  have hl : unL n k = unM n.toNat k 0 := by rw [unL, if_pos hu]
  obtain ⟨m, rfl⟩ : ∃ m : Nat, n = (m + 1 : Nat) := ⟨n.toNat - 1, by omega⟩
  refine ⟨_, _, build_one un22 one3 rfl, ?_⟩
  have hown : Own 3 (H'.new (.cells [VI 0] 3 2)) (.slice (some ⟨H'.n, 0, none⟩) 1 0) (([0] : List Int).map VI) H'.n := .inr ⟨H'.n, rfl, Nat.le_refl _, Nat.lt_succ_self _, Heap.get_new_eq _ _⟩
  have k1 := Keep.new H' (.cells [VI 0] 3 2)
  have h00 : [0] ++ unM m k 1 = unM (m + 1) k 0 := by
    have be := beh_at (n := m) (b := 0) (by omega) (by omega)
    have us := un_step (rest := k) (e := behM m 0) (b := 0) (by omega) (by omega) be.1 (by omega)
    have h0 : min (k.tdiv (behM m 0)) 0 = 0 := by omega
    rw [unM, h0]
    simp
    rfl
  repeat' first
    | refine CO.cons rfl ?_
    | refine CO.nil ?_
    | refine CV.seq ?_
    | refine CV.region callees ?_
    | refine CV.cond ?_
    | refine CV.block ?_
    | refine CV.skip ?_
    | refine CV.exit ?_
    | refine CV.ret ?_
    | refine CV.scope ?_
    | refine CV.draw callees ?_
    | refine CH.cons rfl ?_
    | refine CH.nil ?_
    | refine CO.consG rfl ?_
    | refine CH.consG rfl ?_
    | refine ⟨(rfl : plain _ = true), ?_⟩
    | refine ⟨(rfl : nilOk _ = some _), ?_⟩
    | refine ⟨_, ints_len (by assumption), ?_⟩
    | refine ⟨_, ints_addr (by assumption) (by omega) (by omega), ?_⟩
    | refine ⟨_, ints_load (by assumption) (by omega) (by omega), ?_⟩
    | refine ⟨(⟨by omega, by omega⟩ : inI64 _), ?_⟩
    | refine ⟨_, fun tm ha => step1_max rfl (ev_tmp ha rfl) (ev_tmp ha rfl), ?_⟩
    | refine ⟨_, fun tm ha => step1_min rfl (ev_tmp ha rfl) (ev_tmp ha rfl), ?_⟩
    | (refine ⟨fun _ => ?_, fun _ => ?_⟩ <;> first | (exfalso; omega) | skip)
    | fail
  refine CV.loopc ?_
  refine WCv.rounds callees false (α := Value × Int × List Int) (fun (l, s, out) => [(0, .int .i64 (m + 1 : Nat)), (1, .int .i64 s), (6, l)]) (fun (l, s, out) Hz => 1 ≤ out.length ∧ out.length ≤ m + 1 ∧ 0 ≤ s ∧ s ≤ 21147 ∧ (∀ i, i < out.length → 0 ≤ out[i]! ∧ out[i]! < 9) ∧ 0 ≤ blkFrom out 0 ∧ blkFrom out 0 ≤ out.length ∧ Own 3 Hz l (out.map VI) H'.n ∧ Keep H' Hz ∧ out ++ unM (m + 1 - out.length) s (blkFrom out 0) = unM (m + 1) k 0) (fun (l, s, out) => m + 1 - out.length) (_, k, [0]) (by repeat' first | exact trivial | refine ⟨rfl, ?_⟩) ?_ ?_
  · exact ⟨by simp, by simp, by omega, by omega, fun i hi => by simp at hi; subst hi; simp, by decide, by decide, hown, k1, h00⟩
  rintro ⟨l, s, out⟩ Hx ⟨ho1, ho2, hs0, hs1, hbd, hb0, hb1, hlx, hkx, hM⟩ hBx
  have hli : Ints Hx l out := hlx.row
  by_cases hi : out.length < m + 1
  · obtain ⟨q, hq⟩ : ∃ q, m + 1 - out.length = q + 1 := ⟨m + 1 - out.length - 1, by omega⟩
    obtain ⟨b, hb⟩ : ∃ b, blkFrom out 0 = b := ⟨_, rfl⟩
    rw [hb] at hb0 hb1
    have be := beh_at (n := q) (b := b) hb0 (by omega)
    rw [hq, hb, unM] at hM
    obtain ⟨e, he⟩ : ∃ e, behM q b = e := ⟨_, rfl⟩
    rw [he] at be hM
    have us := un_step hs0 hs1 be.1 hb0
    obtain ⟨c, hc⟩ : ∃ c, min (s.tdiv e) b = c := ⟨_, rfl⟩
    rw [hc] at us hM
    have hc' : min b (s.tdiv e) = c := by rw [← hc]; omega
    repeat' first
      | refine CO.cons rfl ?_
      | refine CO.nil ?_
      | refine CV.seq ?_
      | refine CV.region callees ?_
      | refine CV.cond ?_
      | refine CV.block ?_
      | refine CV.skip ?_
      | refine CV.exit ?_
      | refine CV.ret ?_
      | refine CV.scope ?_
      | refine CV.draw callees ?_
      | refine CH.cons rfl ?_
      | refine CH.nil ?_
      | refine CO.consG rfl ?_
      | refine CH.consG rfl ?_
      | refine ⟨(rfl : plain _ = true), ?_⟩
      | refine ⟨(rfl : nilOk _ = some _), ?_⟩
      | refine ⟨_, ints_len (by assumption), ?_⟩
      | refine ⟨_, ints_addr (by assumption) (by omega) (by omega), ?_⟩
      | refine ⟨_, ints_load (by assumption) (by omega) (by omega), ?_⟩
      | refine ⟨(⟨by omega, by omega⟩ : inI64 _), ?_⟩
      | refine ⟨_, fun tm ha => step1_max rfl (ev_tmp ha rfl) (ev_tmp ha rfl), ?_⟩
      | refine ⟨_, fun tm ha => step1_min rfl (ev_tmp ha rfl) (ev_tmp ha rfl), ?_⟩
      | (refine ⟨fun _ => ?_, fun _ => ?_⟩ <;> first | (exfalso; omega) | skip)
      | fail
    refine (refBlocks_spec hBx hli hbd (by omega)).mono ?_
    rintro r H2 ⟨rfl, rfl⟩
    rw [hb]
    repeat' first
      | refine CO.cons rfl ?_
      | refine CO.nil ?_
      | refine CV.seq ?_
      | refine CV.region callees ?_
      | refine CV.cond ?_
      | refine CV.block ?_
      | refine CV.skip ?_
      | refine CV.exit ?_
      | refine CV.ret ?_
      | refine CV.scope ?_
      | refine CV.draw callees ?_
      | refine CH.cons rfl ?_
      | refine CH.nil ?_
      | refine CO.consG rfl ?_
      | refine CH.consG rfl ?_
      | refine ⟨(rfl : plain _ = true), ?_⟩
      | refine ⟨(rfl : nilOk _ = some _), ?_⟩
      | refine ⟨_, ints_len (by assumption), ?_⟩
      | refine ⟨_, ints_addr (by assumption) (by omega) (by omega), ?_⟩
      | refine ⟨_, ints_load (by assumption) (by omega) (by omega), ?_⟩
      | refine ⟨(⟨by omega, by omega⟩ : inI64 _), ?_⟩
      | refine ⟨_, fun tm ha => step1_max rfl (ev_tmp ha rfl) (ev_tmp ha rfl), ?_⟩
      | refine ⟨_, fun tm ha => step1_min rfl (ev_tmp ha rfl) (ev_tmp ha rfl), ?_⟩
      | (refine ⟨fun _ => ?_, fun _ => ?_⟩ <;> first | (exfalso; omega) | skip)
      | fail
    refine (behind_spec q hBx (by omega) hb0 (by omega)).mono ?_
    rintro r H3 ⟨rfl, rfl⟩
    rw [he]
    repeat' first
      | refine CO.cons rfl ?_
      | refine CO.nil ?_
      | refine CV.seq ?_
      | refine CV.region callees ?_
      | refine CV.cond ?_
      | refine CV.block ?_
      | refine CV.skip ?_
      | refine CV.exit ?_
      | refine CV.ret ?_
      | refine CV.scope ?_
      | refine CV.draw callees ?_
      | refine CH.cons rfl ?_
      | refine CH.nil ?_
      | refine CO.consG rfl ?_
      | refine CH.consG rfl ?_
      | refine ⟨(rfl : plain _ = true), ?_⟩
      | refine ⟨(rfl : nilOk _ = some _), ?_⟩
      | refine ⟨_, ints_len (by assumption), ?_⟩
      | refine ⟨_, ints_addr (by assumption) (by omega) (by omega), ?_⟩
      | refine ⟨_, ints_load (by assumption) (by omega) (by omega), ?_⟩
      | refine ⟨(⟨by omega, by omega⟩ : inI64 _), ?_⟩
      | refine ⟨_, fun tm ha => step1_max rfl (ev_tmp ha rfl) (ev_tmp ha rfl), ?_⟩
      | refine ⟨_, fun tm ha => step1_min rfl (ev_tmp ha rfl) (ev_tmp ha rfl), ?_⟩
      | refine ⟨_, fun tm ha => step1_quoI rfl (ev_tmp ha rfl) (ev_tmp ha rfl) (by omega) (by omega) (by omega), ?_⟩
      | (refine ⟨fun _ => ?_, fun _ => ?_⟩ <;> first | (exfalso; omega) | skip)
      | fail
    rw [hc']
    repeat' first
      | refine CO.cons rfl ?_
      | refine CO.nil ?_
      | refine CV.seq ?_
      | refine CV.region callees ?_
      | refine CV.cond ?_
      | refine CV.block ?_
      | refine CV.skip ?_
      | refine CV.exit ?_
      | refine CV.ret ?_
      | refine CV.scope ?_
      | refine CV.draw callees ?_
      | refine CH.cons rfl ?_
      | refine CH.nil ?_
      | refine CO.consG rfl ?_
      | refine CH.consG rfl ?_
      | refine ⟨(rfl : plain _ = true), ?_⟩
      | refine ⟨(rfl : nilOk _ = some _), ?_⟩
      | refine ⟨_, ints_len (by assumption), ?_⟩
      | refine ⟨_, ints_addr (by assumption) (by omega) (by omega), ?_⟩
      | refine ⟨_, ints_load (by assumption) (by omega) (by omega), ?_⟩
      | refine ⟨(⟨by omega, by omega⟩ : inI64 _), ?_⟩
      | refine ⟨_, fun tm ha => step1_max rfl (ev_tmp ha rfl) (ev_tmp ha rfl), ?_⟩
      | refine ⟨_, fun tm ha => step1_min rfl (ev_tmp ha rfl) (ev_tmp ha rfl), ?_⟩
      | refine ⟨_, _, build_one un22 one3 rfl, ?_⟩
      | (refine ⟨fun _ => ?_, fun _ => ?_⟩ <;> first | (exfalso; omega) | skip)
      | fail
    refine push_ask hlx hkx.1 hn (by omega) ?_
    intro l4 H4 hl4 kb4 hf4
    repeat' first
      | refine CO.cons rfl ?_
      | refine CO.nil ?_
      | refine CV.seq ?_
      | refine CV.region callees ?_
      | refine CV.cond ?_
      | refine CV.block ?_
      | refine CV.skip ?_
      | refine CV.exit ?_
      | refine CV.ret ?_
      | refine CV.scope ?_
      | refine CV.draw callees ?_
      | refine CH.cons rfl ?_
      | refine CH.nil ?_
      | refine CO.consG rfl ?_
      | refine CH.consG rfl ?_
      | refine ⟨(rfl : plain _ = true), ?_⟩
      | refine ⟨(rfl : nilOk _ = some _), ?_⟩
      | refine ⟨_, ints_len (by assumption), ?_⟩
      | refine ⟨_, ints_addr (by assumption) (by omega) (by omega), ?_⟩
      | refine ⟨_, ints_load (by assumption) (by omega) (by omega), ?_⟩
      | refine ⟨(⟨by omega, by omega⟩ : inI64 _), ?_⟩
      | refine ⟨_, fun tm ha => step1_max rfl (ev_tmp ha rfl) (ev_tmp ha rfl), ?_⟩
      | refine ⟨_, fun tm ha => step1_min rfl (ev_tmp ha rfl) (ev_tmp ha rfl), ?_⟩
      | (refine ⟨fun _ => ?_, fun _ => ?_⟩ <;> first | (exfalso; omega) | skip)
      | fail
    have hl5 : (out ++ [c]).length = out.length + 1 := by simp
    refine ⟨(l4, s - c * e, out ++ [c]), (by repeat' first | exact trivial | refine ⟨rfl, ?_⟩), (by (try dsimp only); omega), ?_⟩
    refine ⟨by simp, by simp; omega, by omega, by omega, fun i hi => ?_, ?_, ?_, hl4, kb4.keep hkx (fun z hz => (hlx.lt hz).1), ?_⟩
    · by_cases h : i < out.length
      · have := hbd i h
        rw [getElem!_pos (out ++ [c]) i hi, List.getElem_append_left h]
        rwa [getElem!_pos _ i h] at this
      · have : i = out.length := by simp at hi; omega
        subst this
        rw [getElem!_pos (out ++ [c]) _ hi]
        simp
        omega
    · rw [blk_snoc, hb]; omega
    · rw [blk_snoc, hb]; simp; omega
    · rw [blk_snoc, hb, show m + 1 - (out ++ [c]).length = q by simp; omega, List.append_assoc]; exact hM
  · have h0 : m + 1 - out.length = 0 := by omega
    rw [h0, unM, List.append_nil] at hM
    repeat' first
      | refine CO.cons rfl ?_
      | refine CO.nil ?_
      | refine CV.seq ?_
      | refine CV.region callees ?_
      | refine CV.cond ?_
      | refine CV.block ?_
      | refine CV.skip ?_
      | refine CV.exit ?_
      | refine CV.ret ?_
      | refine CV.scope ?_
      | refine CV.draw callees ?_
      | refine CH.cons rfl ?_
      | refine CH.nil ?_
      | refine CO.consG rfl ?_
      | refine CH.consG rfl ?_
      | refine ⟨(rfl : plain _ = true), ?_⟩
      | refine ⟨(rfl : nilOk _ = some _), ?_⟩
      | refine ⟨_, ints_len (by assumption), ?_⟩
      | refine ⟨_, ints_addr (by assumption) (by omega) (by omega), ?_⟩
      | refine ⟨_, ints_load (by assumption) (by omega) (by omega), ?_⟩
      | refine ⟨(⟨by omega, by omega⟩ : inI64 _), ?_⟩
      | refine ⟨_, fun tm ha => step1_max rfl (ev_tmp ha rfl) (ev_tmp ha rfl), ?_⟩
      | refine ⟨_, fun tm ha => step1_min rfl (ev_tmp ha rfl) (ev_tmp ha rfl), ?_⟩
      | (refine ⟨fun _ => ?_, fun _ => ?_⟩ <;> first | (exfalso; omega) | skip)
      | fail
    refine ⟨by simp only [List.all_cons, List.all_nil, hlx.notTuple]; rfl, ⟨l, by rw [hu], ?_⟩, hkx⟩
    rw [hl, Int.toNat_natCast, ← hM]
    exact hlx.row
end Go.Proofs.YthjieekbbhhjgaaDoor
