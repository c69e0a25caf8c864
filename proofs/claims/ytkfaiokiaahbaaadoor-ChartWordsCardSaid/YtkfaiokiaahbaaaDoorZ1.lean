/- Several texts in one. -/
import Derived.Test.YtkfaiokiaahbaaaDoorY9
import Derived.Test.YtkfaiokiaahbaaaDoorY4
import Derived.Test.YtkfaiokiaahbaaaDoorY7
import Derived.Test.YtkfaiokiaahbaaaDoorX4
set_option linter.unusedVariables false
set_option linter.unusedSimpArgs false
/- Words: how a partition is spelt, and read back; the rank of a partition tells it. -/
namespace Go.Proofs.YtkfaiokiaahbaaaDoor
open Go.AI
theorem un5 : Tryd.prog.underlying 5 = some (.int .u8) := by kernel_rfl
theorem wrap8 {n : Int} (h0 : 0 ≤ n) (h1 : n < 256) : IntKind.wrap .u8 n = n := by
  simp only [IntKind.wrap, IntKind.signed, IntKind.bits]
  simp
  omega
/-! ### Ranks -/
theorem beh_pos : ∀ (m : Nat) (b : Int), 0 ≤ b → 1 ≤ behM m b
  | 0, _, _ => by simp [behM]
  | m + 1, b, h => by
    have h1 := beh_pos m b h
    have h2 := beh_pos m (b + 1) (by omega)
    have h3 : 0 ≤ b * behM m b := Int.mul_nonneg h (by omega)
    rw [behM]; omega
theorem rk_lt : ∀ (r : List Int) (b : Int), 0 ≤ b → checkFrom r b = 0 → 0 ≤ rkF r b ∧ rkF r b < behM r.length b
  | [], _, _, _ => by simp [rkF, behM]
  | x :: r, b, hb, h => by
    obtain ⟨h0, _, h2, h3⟩ := from_step h
    obtain ⟨h4, h5⟩ := rk_lt r (max b (x + 1)) (by omega) h3
    have hp := beh_pos r.length b hb
    have hm : 0 ≤ x * behM r.length b := Int.mul_nonneg h0 (by omega)
    rw [rkF, List.length_cons, behM]
    by_cases hx : x < b
    · rw [show max b (x + 1) = b by omega] at h4 h5 ⊢
      have h6 : (x + 1) * behM r.length b ≤ b * behM r.length b := Int.mul_le_mul_of_nonneg_right (by omega) (by omega)
      have h7 := beh_pos r.length (b + 1) (by omega)
      rw [Int.add_mul, Int.one_mul] at h6
      omega
    · have : x = b := by omega
      subst this
      rw [show max x (x + 1) = x + 1 by omega] at h4 h5 ⊢
      omega
theorem un_rk : ∀ (r : List Int) (b : Int), 0 ≤ b → checkFrom r b = 0 → unM r.length (rkF r b) b = r
  | [], _, _, _ => rfl
  | x :: r, b, hb, h => by
    obtain ⟨h0, _, h2, h3⟩ := from_step h
    obtain ⟨h4, h5⟩ := rk_lt r (max b (x + 1)) (by omega) h3
    have hp := beh_pos r.length b hb
    have hm : 0 ≤ x * behM r.length b := Int.mul_nonneg h0 (by omega)
    have hq : min ((x * behM r.length b + rkF r (max b (x + 1))).tdiv (behM r.length b)) b = x := by
      rw [Int.tdiv_eq_ediv_of_nonneg (by omega), Int.add_comm, Int.add_mul_ediv_right _ _ (by omega)]
      by_cases hx : x < b
      · rw [show max b (x + 1) = b by omega] at h4 h5 ⊢
        rw [Int.ediv_eq_zero_of_lt h4 h5]; omega
      · have := Int.ediv_nonneg h4 (show 0 ≤ behM r.length b by omega)
        omega
    rw [rkF, List.length_cons, unM, hq]
    rw [show x * behM r.length b + rkF r (max b (x + 1)) - x * behM r.length b = rkF r (max b (x + 1)) by omega, un_rk r _ (by omega) h3]
theorem cnt_beh {n : Nat} (h0 : 1 ≤ n) (h1 : n ≤ 9) : cntR n = (behM n 0, 0) := by
  have := (beh_at (n := n) (b := 0) (by omega) (by omega)).2.2
  rw [cntR, if_neg (by omega), ← this]
  simp
theorem rank_lt {xs : List Int} (hc : check xs = 0) : 0 ≤ rkF xs 0 ∧ rkF xs 0 < (cntR xs.length).1 := by
  have h1 := check_from hc
  have h2 := check_len hc
  rw [cnt_beh (by omega) (by omega)]
  exact rk_lt xs 0 (Int.le_refl _) h1.1
theorem un_rank {xs : List Int} (hc : check xs = 0) : unE xs.length (rkF xs 0) = 0 ∧ unL xs.length (rkF xs 0) = xs := by
  have h1 := check_from hc
  have h2 := check_len hc
  have h3 := rank_lt hc
  have h4 : unE xs.length (rkF xs 0) = 0 := by
    rw [unE, if_neg (by rw [cnt_beh (by omega) (by omega)]; simp), if_neg (by omega)]
  refine ⟨h4, ?_⟩
  rw [unL, if_pos h4, Int.toNat_natCast]
  exact un_rk xs 0 (Int.le_refl _) h1.1
/-! ### Words -/
def spF (xs : List Int) : List Int := xs.map (· + 65)
def spR (xs : List Int) : List Int := if check xs = 0 then spF xs else []
theorem spR_bytes (xs : List Int) : Bytes (spR xs) := by
  unfold spR
  split
  · rename_i hc
    intro x hx
    obtain ⟨y, hy, rfl⟩ := List.mem_map.1 hx
    obtain ⟨i, hi, rfl⟩ := List.getElem_of_mem hy
    have := check_bound hc hi
    rw [getElem!_pos xs i hi] at this
    omega
  · intro x hx; cases hx
set_option maxHeartbeats 1000000 in
set_option maxRecDepth 100000 in
theorem spell_spec {B : Nat} {v : Value} {H : Heap} {xs : List Int} (hB : B ≤ H.n) (hv : Ints H v xs) :
    CallB Tryd.prog B 59 [v] H (fun r H' => r = .tuple #[VS (spR xs), .int .i64 (check xs)] ∧ Keep H H') := by
  refine CV.enter callees false rfl Tryd.func59 rfl ok59 (Nat.le_of_ble_eq_true rfl) hB ?_
  repeat' first
    | refine CO.cons rfl ?_
    | refine CO.nil ?_
    | refine CV.seq ?_
    | refine CV.region callees ?_
    | refine CV.cond ?_
    | refine CV.block ?_
    | refine CV.skip ?_
    | refine CV.exit ?_
    | refine CV.ret ?_
    | refine CV.scope ?_
    | refine CV.draw callees rfl ?_
    | refine CH.cons rfl ?_
    | refine CH.nil ?_
    | refine CO.consG rfl ?_
    | refine CH.consG rfl ?_
    | refine CG.cons rfl ?_
    | refine CG.nil ?_
    | refine CG.consG rfl ?_
    | refine ⟨(rfl : plain _ = true), ?_⟩
    | refine ⟨(rfl : nilOk _ = some _), ?_⟩
    | refine ⟨_, ints_len (by assumption), ?_⟩
    | refine ⟨_, ints_addr (by assumption) (by omega) (by omega), ?_⟩
    | refine ⟨_, ints_load (by assumption) (by omega) (by omega), ?_⟩
    | refine ⟨(⟨by omega, by omega⟩ : inI64 _), ?_⟩
    | refine ⟨_, fun tm ha => step1_max rfl (ev_tmp ha rfl) (ev_tmp ha rfl), ?_⟩
    | refine ⟨_, fun tm ha => step1_min rfl (ev_tmp ha rfl) (ev_tmp ha rfl), ?_⟩
    | (refine ⟨fun _ => ?_, fun _ => ?_⟩ <;> first | (exfalso; omega) | skip)
    | fail
  refine (check_spec hB hv).mono ?_
  rintro r H1 ⟨rfl, rfl⟩
  repeat' first
    | refine CO.cons rfl ?_
    | refine CO.nil ?_
    | refine CV.seq ?_
    | refine CV.region callees ?_
    | refine CV.cond ?_
    | refine CV.block ?_
    | refine CV.skip ?_
    | refine CV.exit ?_
    | refine CV.ret ?_
    | refine CV.scope ?_
    | refine CV.draw callees rfl ?_
    | refine CH.cons rfl ?_
    | refine CH.nil ?_
    | refine CO.consG rfl ?_
    | refine CH.consG rfl ?_
    | refine CG.cons rfl ?_
    | refine CG.nil ?_
    | refine CG.consG rfl ?_
    | refine ⟨(rfl : plain _ = true), ?_⟩
    | refine ⟨(rfl : nilOk _ = some _), ?_⟩
    | refine ⟨_, ints_len (by assumption), ?_⟩
    | refine ⟨_, ints_addr (by assumption) (by omega) (by omega), ?_⟩
    | refine ⟨_, ints_load (by assumption) (by omega) (by omega), ?_⟩
    | refine ⟨(⟨by omega, by omega⟩ : inI64 _), ?_⟩
    | refine ⟨_, fun tm ha => step1_max rfl (ev_tmp ha rfl) (ev_tmp ha rfl), ?_⟩
    | refine ⟨_, fun tm ha => step1_min rfl (ev_tmp ha rfl) (ev_tmp ha rfl), ?_⟩
    | (refine ⟨fun _ => ?_, fun _ => ?_⟩ <;> first | (exfalso; omega) | skip)
    | fail
  · rename_i h1
    exact ⟨rfl, by rw [spR, if_neg h1]; rfl, Keep.refl _⟩
  have hc : check xs = 0 := Classical.not_not.1 (by assumption)
  have hlx := check_len hc
  refine ⟨_, _, make_row un93 one5 (by omega) xs.length (by omega), ?_⟩
  have hown : Own 5 (H1.new (.cells (List.replicate xs.length (V8 0)) 5 2)) (.slice (some ⟨H1.n, 0, none⟩) xs.length 0) ((List.replicate xs.length (0 : Int)).map V8) H1.n :=
    .inr ⟨H1.n, by simp, Nat.le_refl _, Nat.lt_succ_self _, by rw [Heap.get_new_eq]; simp⟩
  have k1 : Keep H1 (H1.new (.cells (List.replicate xs.length (V8 0)) 5 2)) := Keep.new _ _
  generalize hH2 : H1.new (.cells (List.replicate xs.length (V8 0)) 5 2) = H2 at hown k1
  generalize hw : Value.slice (some ⟨H1.n, 0, none⟩) xs.length 0 = w at hown
  have hv2 : Ints H2 v xs := Row.keep hv k1
  repeat' first
    | refine CO.cons rfl ?_
    | refine CO.nil ?_
    | refine CV.seq ?_
    | refine CV.region callees ?_
    | refine CV.cond ?_
    | refine CV.block ?_
    | refine CV.skip ?_
    | refine CV.exit ?_
    | refine CV.ret ?_
    | refine CV.scope ?_
    | refine CV.draw callees rfl ?_
    | refine CH.cons rfl ?_
    | refine CH.nil ?_
    | refine CO.consG rfl ?_
    | refine CH.consG rfl ?_
    | refine CG.cons rfl ?_
    | refine CG.nil ?_
    | refine CG.consG rfl ?_
    | refine ⟨(rfl : plain _ = true), ?_⟩
    | refine ⟨(rfl : nilOk _ = some _), ?_⟩
    | refine ⟨_, ints_len (by assumption), ?_⟩
    | refine ⟨_, ints_addr (by assumption) (by omega) (by omega), ?_⟩
    | refine ⟨_, ints_load (by assumption) (by omega) (by omega), ?_⟩
    | refine ⟨(⟨by omega, by omega⟩ : inI64 _), ?_⟩
    | refine ⟨_, fun tm ha => step1_max rfl (ev_tmp ha rfl) (ev_tmp ha rfl), ?_⟩
    | refine ⟨_, fun tm ha => step1_min rfl (ev_tmp ha rfl) (ev_tmp ha rfl), ?_⟩
    | (refine ⟨fun _ => ?_, fun _ => ?_⟩ <;> first | (exfalso; omega) | skip)
    | fail
  refine CV.loopc ?_
  refine WCv.rounds callees false (α := Nat) (fun i => [(0, v), (5, w), (16, v), (17, .int .i64 xs.length), (18, .int .i64 i)]) (fun i Hz => i ≤ xs.length ∧ Own 5 Hz w ((spF (xs.take i) ++ List.replicate (xs.length - i) 0).map V8) H1.n ∧ Keep H1 Hz) (fun i => xs.length - i) (0) (by repeat' first | exact trivial | refine ⟨rfl, ?_⟩ | refine ⟨slot_int (by (try simp only [Int.toNat_natCast]); omega), ?_⟩) ?_ ?_
  · exact ⟨by omega, by simpa [spF] using hown, k1⟩
  rintro i Hx ⟨hi, hwx, kx⟩ hBx
  have hvx : Ints Hx v xs := Row.keep hv kx
  by_cases hi2 : i < xs.length
  · have hx := check_bound hc hi2
    have hxi : xs[(i : Int).toNat]! = xs[i]! := rfl
    have hr : Row Hx w ((spF (xs.take i) ++ List.replicate (xs.length - i) 0).map V8) := hwx.row
    have hl : ((spF (xs.take i) ++ List.replicate (xs.length - i) 0).map V8).length = xs.length := by simp [spF]; omega
    repeat' first
      | refine CO.cons rfl ?_
      | refine CO.nil ?_
      | refine CV.seq ?_
      | refine CV.region callees ?_
      | refine CV.cond ?_
      | refine CV.block ?_
      | refine CV.skip ?_
      | refine CV.exit ?_
      | refine CV.ret ?_
      | refine CV.scope ?_
      | refine CV.draw callees rfl ?_
      | refine CH.cons rfl ?_
      | refine CH.nil ?_
      | refine CO.consG rfl ?_
      | refine CH.consG rfl ?_
      | refine CG.cons rfl ?_
      | refine CG.nil ?_
      | refine CG.consG rfl ?_
      | refine ⟨(rfl : plain _ = true), ?_⟩
      | refine ⟨(rfl : nilOk _ = some _), ?_⟩
      | refine ⟨_, ints_len (by assumption), ?_⟩
      | refine ⟨_, ints_addr (by assumption) (by omega) (by omega), ?_⟩
      | refine ⟨_, ints_load (by assumption) (by omega) (by omega), ?_⟩
      | refine ⟨(⟨by omega, by omega⟩ : inI64 _), ?_⟩
      | refine ⟨_, fun tm ha => step1_max rfl (ev_tmp ha rfl) (ev_tmp ha rfl), ?_⟩
      | refine ⟨_, fun tm ha => step1_min rfl (ev_tmp ha rfl) (ev_tmp ha rfl), ?_⟩
      | refine ⟨_, fun tm ha => step1_conv un3 un5 rfl (ev_tmp ha rfl), ?_⟩
      | refine ⟨_, Row.addr hr un93 sz5 (by omega) (by rw [hl]; omega), ?_⟩
      | (intro _ hr0; subst hr0)
      | (refine ⟨fun _ => ?_, fun _ => ?_⟩ <;> first | (exfalso; omega) | skip)
      | fail
    rw [hxi, wrap8 (n := xs[i]!) (by omega) (by omega), wrap8 (by omega) (by omega)]
    refine store_ask (i := i) sz5 hwx (by omega) (by rw [hl]; exact hi2) rfl ?_
    intro H3 hw3 kb3
    repeat' first
      | refine CO.cons rfl ?_
      | refine CO.nil ?_
      | refine CV.seq ?_
      | refine CV.region callees ?_
      | refine CV.cond ?_
      | refine CV.block ?_
      | refine CV.skip ?_
      | refine CV.exit ?_
      | refine CV.ret ?_
      | refine CV.scope ?_
      | refine CV.draw callees rfl ?_
      | refine CH.cons rfl ?_
      | refine CH.nil ?_
      | refine CO.consG rfl ?_
      | refine CH.consG rfl ?_
      | refine CG.cons rfl ?_
      | refine CG.nil ?_
      | refine CG.consG rfl ?_
      | refine ⟨(rfl : plain _ = true), ?_⟩
      | refine ⟨(rfl : nilOk _ = some _), ?_⟩
      | refine ⟨_, ints_len (by assumption), ?_⟩
      | refine ⟨_, ints_addr (by assumption) (by omega) (by omega), ?_⟩
      | refine ⟨_, ints_load (by assumption) (by omega) (by omega), ?_⟩
      | refine ⟨(⟨by omega, by omega⟩ : inI64 _), ?_⟩
      | refine ⟨_, fun tm ha => step1_max rfl (ev_tmp ha rfl) (ev_tmp ha rfl), ?_⟩
      | refine ⟨_, fun tm ha => step1_min rfl (ev_tmp ha rfl) (ev_tmp ha rfl), ?_⟩
      | (refine ⟨fun _ => ?_, fun _ => ?_⟩ <;> first | (exfalso; omega) | skip)
      | fail
    refine ⟨(i + 1), (by repeat' first | exact trivial | refine ⟨rfl, ?_⟩ | refine ⟨slot_int (by (try simp only [Int.toNat_natCast]); omega), ?_⟩), (by (try dsimp only); omega), ?_⟩
    refine ⟨by omega, ?_, kb3.keep kx fun c hc => (hwx.lt hc).1⟩
    have e : ((spF (xs.take i) ++ List.replicate (xs.length - i) 0).map V8).set i (V8 (65 + xs[i]!)) = (spF (xs.take (i + 1)) ++ List.replicate (xs.length - (i + 1)) 0).map V8 := by
      rw [take_snoc hi2]
      have hlt : (spF (xs.take i)).length = i := by simp [spF]; omega
      rw [show xs.length - i = (xs.length - (i + 1)) + 1 by omega, List.replicate_succ, ← List.map_set, List.set_append_right _ _ (by omega), hlt, Nat.sub_self, List.set_cons_zero]
      simp [spF, Int.add_comm]
    rw [← e]; exact hw3
  · have : i = xs.length := by omega
    subst this
    have hne : (spF xs).map V8 ≠ [] := by
      intro e
      have := congrArg List.length e
      rw [List.length_map, spF, List.length_map, List.length_nil] at this
      omega
    rw [List.take_length, Nat.sub_self, List.replicate_zero, List.append_nil] at hwx
    repeat' first
      | refine CO.cons rfl ?_
      | refine CO.nil ?_
      | refine CV.seq ?_
      | refine CV.region callees ?_
      | refine CV.cond ?_
      | refine CV.block ?_
      | refine CV.skip ?_
      | refine CV.exit ?_
      | refine CV.ret ?_
      | refine CV.scope ?_
      | refine CV.draw callees rfl ?_
      | refine CH.cons rfl ?_
      | refine CH.nil ?_
      | refine CO.consG rfl ?_
      | refine CH.consG rfl ?_
      | refine CG.cons rfl ?_
      | refine CG.nil ?_
      | refine CG.consG rfl ?_
      | refine ⟨(rfl : plain _ = true), ?_⟩
      | refine ⟨(rfl : nilOk _ = some _), ?_⟩
      | refine ⟨_, ints_len (by assumption), ?_⟩
      | refine ⟨_, ints_addr (by assumption) (by omega) (by omega), ?_⟩
      | refine ⟨_, ints_load (by assumption) (by omega) (by omega), ?_⟩
      | refine ⟨(⟨by omega, by omega⟩ : inI64 _), ?_⟩
      | refine ⟨_, fun tm ha => step1_max rfl (ev_tmp ha rfl) (ev_tmp ha rfl), ?_⟩
      | refine ⟨_, fun tm ha => step1_min rfl (ev_tmp ha rfl) (ev_tmp ha rfl), ?_⟩
      | refine ⟨_, fun tm ha => step1_convStr rfl (ev_tmp ha rfl) (own_plain hwx hne) (conv_str un93 un9 u8_5 hwx), ?_⟩
      | (refine ⟨fun _ => ?_, fun _ => ?_⟩ <;> first | (exfalso; omega) | skip)
      | fail
    exact ⟨rfl, by rw [spR, if_pos hc, hc], kx⟩
def prF (l : List Int) : List Int := l.map (· - 65)
def prE (l : List Int) : Int := if l.length = 0 then 6 else if 9 < l.length then 8 else if check (prF l) = 0 then 0 else 3
def prL (l : List Int) : List Int := if prE l = 0 then prF l else []
set_option maxHeartbeats 1000000 in
set_option maxRecDepth 100000 in
theorem parse_spec {B : Nat} {H : Heap} {l : List Int} (hB : B ≤ H.n) (hb : Bytes l) :
    CallB Tryd.prog B 60 [VS l] H (fun r H' => (∃ u, r = .tuple #[u, .int .i64 (prE l)] ∧ Ints H' u (prL l) ∧ ∀ c, blkOf u = some c → H.n ≤ c) ∧ Keep H H') := by
  refine CV.enter callees false rfl Tryd.func60 rfl ok60 (Nat.le_of_ble_eq_true rfl) hB ?_
  repeat' first
    | refine CO.cons rfl ?_
    | refine CO.nil ?_
    | refine CV.seq ?_
    | refine CV.region callees ?_
    | refine CV.cond ?_
    | refine CV.block ?_
    | refine CV.skip ?_
    | refine CV.exit ?_
    | refine CV.ret ?_
    | refine CV.scope ?_
    | refine CV.draw callees rfl ?_
    | refine CH.cons rfl ?_
    | refine CH.nil ?_
    | refine CO.consG rfl ?_
    | refine CH.consG rfl ?_
    | refine CG.cons rfl ?_
    | refine CG.nil ?_
    | refine CG.consG rfl ?_
    | refine ⟨(rfl : plain _ = true), ?_⟩
    | refine ⟨(rfl : nilOk _ = some _), ?_⟩
    | refine ⟨_, ints_len (by assumption), ?_⟩
    | refine ⟨_, ints_addr (by assumption) (by omega) (by omega), ?_⟩
    | refine ⟨_, ints_load (by assumption) (by omega) (by omega), ?_⟩
    | refine ⟨(⟨by omega, by omega⟩ : inI64 _), ?_⟩
    | refine ⟨_, fun tm ha => step1_max rfl (ev_tmp ha rfl) (ev_tmp ha rfl), ?_⟩
    | refine ⟨_, fun tm ha => step1_min rfl (ev_tmp ha rfl) (ev_tmp ha rfl), ?_⟩
    | refine ⟨_, str_len un9, ?_⟩
    | (refine ⟨fun _ => ?_, fun _ => ?_⟩ <;> first | (exfalso; omega) | skip)
    | fail
  · have e : prE l = 6 := by rw [prE, if_pos (by omega)]
    exact ⟨rfl, ⟨_, by rw [e], .inl ⟨rfl, by rw [prL, e]; rfl⟩, fun c hc => by cases hc⟩, Keep.refl _⟩
  · have e : prE l = 8 := by rw [prE, if_neg (by omega), if_pos (by omega)]
    exact ⟨rfl, ⟨_, by rw [e], .inl ⟨rfl, by rw [prL, e]; rfl⟩, fun c hc => by cases hc⟩, Keep.refl _⟩
  have e0 : prE l = if check (prF l) = 0 then 0 else 3 := by rw [prE, if_neg (by omega), if_neg (by omega)]
  refine ⟨_, _, make_row un22 one3 (by omega) l.length (by omega), ?_⟩
  have hown : Own 3 (H.new (.cells (List.replicate l.length (VI 0)) 3 2)) (.slice (some ⟨H.n, 0, none⟩) l.length 0) ((List.replicate l.length (0 : Int)).map VI) H.n :=
    .inr ⟨H.n, by simp, Nat.le_refl _, Nat.lt_succ_self _, by rw [Heap.get_new_eq]; simp⟩
  have k1 : Keep H (H.new (.cells (List.replicate l.length (VI 0)) 3 2)) := Keep.new _ _
  generalize hH2 : H.new (.cells (List.replicate l.length (VI 0)) 3 2) = H2 at hown k1
  generalize hw : Value.slice (some ⟨H.n, 0, none⟩) l.length 0 = w at hown
  have hwi : Ints H2 w (List.replicate l.length 0) := hown.row
  repeat' first
    | refine CO.cons rfl ?_
    | refine CO.nil ?_
    | refine CV.seq ?_
    | refine CV.region callees ?_
    | refine CV.cond ?_
    | refine CV.block ?_
    | refine CV.skip ?_
    | refine CV.exit ?_
    | refine CV.ret ?_
    | refine CV.scope ?_
    | refine CV.draw callees rfl ?_
    | refine CH.cons rfl ?_
    | refine CH.nil ?_
    | refine CO.consG rfl ?_
    | refine CH.consG rfl ?_
    | refine CG.cons rfl ?_
    | refine CG.nil ?_
    | refine CG.consG rfl ?_
    | refine ⟨(rfl : plain _ = true), ?_⟩
    | refine ⟨(rfl : nilOk _ = some _), ?_⟩
    | refine ⟨_, ints_len (by assumption), ?_⟩
    | refine ⟨_, ints_addr (by assumption) (by omega) (by omega), ?_⟩
    | refine ⟨_, ints_load (by assumption) (by omega) (by omega), ?_⟩
    | refine ⟨(⟨by omega, by omega⟩ : inI64 _), ?_⟩
    | refine ⟨_, fun tm ha => step1_max rfl (ev_tmp ha rfl) (ev_tmp ha rfl), ?_⟩
    | refine ⟨_, fun tm ha => step1_min rfl (ev_tmp ha rfl) (ev_tmp ha rfl), ?_⟩
    | (refine ⟨fun _ => ?_, fun _ => ?_⟩ <;> first | (exfalso; omega) | skip)
    | fail
  rw [List.length_replicate]
  refine CV.loopc ?_
  refine WCv.rounds callees false (α := Nat) (fun i => [(0, VS l), (4, w), (16, .int .i64 l.length), (17, .int .i64 i)]) (fun i Hz => i ≤ l.length ∧ Own 3 Hz w ((prF (l.take i) ++ List.replicate (l.length - i) 0).map VI) H.n ∧ Keep H Hz) (fun i => l.length - i) (0) (by repeat' first | exact trivial | refine ⟨rfl, ?_⟩ | refine ⟨slot_int (by (try simp only [Int.toNat_natCast]); omega), ?_⟩) ?_ ?_
  · exact ⟨by omega, by simpa [prF] using hown, k1⟩
  rintro i Hx ⟨hi, hwx, kx⟩ hBx
  by_cases hi2 : i < l.length
  · have hx : 0 ≤ l[i]! ∧ l[i]! < 256 := by rw [getElem!_pos l i hi2]; exact hb _ (List.getElem_mem hi2)
    have hxi : l[(i : Int).toNat]! = l[i]! := rfl
    have hr : Ints Hx w (prF (l.take i) ++ List.replicate (l.length - i) 0) := hwx.row
    have hl : (prF (l.take i) ++ List.replicate (l.length - i) 0).length = l.length := by simp [prF]; omega
    repeat' first
      | refine CO.cons rfl ?_
      | refine CO.nil ?_
      | refine CV.seq ?_
      | refine CV.region callees ?_
      | refine CV.cond ?_
      | refine CV.block ?_
      | refine CV.skip ?_
      | refine CV.exit ?_
      | refine CV.ret ?_
      | refine CV.scope ?_
      | refine CV.draw callees rfl ?_
      | refine CH.cons rfl ?_
      | refine CH.nil ?_
      | refine CO.consG rfl ?_
      | refine CH.consG rfl ?_
      | refine CG.cons rfl ?_
      | refine CG.nil ?_
      | refine CG.consG rfl ?_
      | refine ⟨(rfl : plain _ = true), ?_⟩
      | refine ⟨(rfl : nilOk _ = some _), ?_⟩
      | refine ⟨_, ints_len (by assumption), ?_⟩
      | refine ⟨_, ints_addr (by assumption) (by omega) (by omega), ?_⟩
      | refine ⟨_, ints_load (by assumption) (by omega) (by omega), ?_⟩
      | refine ⟨(⟨by omega, by omega⟩ : inI64 _), ?_⟩
      | refine ⟨_, fun tm ha => step1_max rfl (ev_tmp ha rfl) (ev_tmp ha rfl), ?_⟩
      | refine ⟨_, fun tm ha => step1_min rfl (ev_tmp ha rfl) (ev_tmp ha rfl), ?_⟩
      | refine ⟨_, str_index un9 hb (by omega) (by omega), ?_⟩
      | refine ⟨_, fun tm ha => step1_conv un5 un3 rfl (ev_tmp ha rfl), ?_⟩
      | (rw [hxi, wrapI (n := l[i]!) (by omega) (by omega)])
      | (refine ⟨fun _ => ?_, fun _ => ?_⟩ <;> first | (exfalso; omega) | skip)
      | fail
    refine put_ask (i := i) hwx (by omega) (by rw [hl]; exact hi2) ?_
    intro H3 hw3 kb3
    repeat' first
      | refine CO.cons rfl ?_
      | refine CO.nil ?_
      | refine CV.seq ?_
      | refine CV.region callees ?_
      | refine CV.cond ?_
      | refine CV.block ?_
      | refine CV.skip ?_
      | refine CV.exit ?_
      | refine CV.ret ?_
      | refine CV.scope ?_
      | refine CV.draw callees rfl ?_
      | refine CH.cons rfl ?_
      | refine CH.nil ?_
      | refine CO.consG rfl ?_
      | refine CH.consG rfl ?_
      | refine CG.cons rfl ?_
      | refine CG.nil ?_
      | refine CG.consG rfl ?_
      | refine ⟨(rfl : plain _ = true), ?_⟩
      | refine ⟨(rfl : nilOk _ = some _), ?_⟩
      | refine ⟨_, ints_len (by assumption), ?_⟩
      | refine ⟨_, ints_addr (by assumption) (by omega) (by omega), ?_⟩
      | refine ⟨_, ints_load (by assumption) (by omega) (by omega), ?_⟩
      | refine ⟨(⟨by omega, by omega⟩ : inI64 _), ?_⟩
      | refine ⟨_, fun tm ha => step1_max rfl (ev_tmp ha rfl) (ev_tmp ha rfl), ?_⟩
      | refine ⟨_, fun tm ha => step1_min rfl (ev_tmp ha rfl) (ev_tmp ha rfl), ?_⟩
      | (refine ⟨fun _ => ?_, fun _ => ?_⟩ <;> first | (exfalso; omega) | skip)
      | fail
    refine ⟨(i + 1), (by repeat' first | exact trivial | refine ⟨rfl, ?_⟩ | refine ⟨slot_int (by (try simp only [Int.toNat_natCast]); omega), ?_⟩), (by (try dsimp only); omega), ?_⟩
    refine ⟨by omega, ?_, kb3.keep kx fun c hc => (hwx.lt hc).1⟩
    have e : (prF (l.take i) ++ List.replicate (l.length - i) 0).set i (l[i]! - 65) = prF (l.take (i + 1)) ++ List.replicate (l.length - (i + 1)) 0 := by
      rw [take_snoc hi2]
      have hlt : (prF (l.take i)).length = i := by simp [prF]; omega
      rw [show l.length - i = (l.length - (i + 1)) + 1 by omega, List.replicate_succ, List.set_append_right _ _ (by omega), hlt, Nat.sub_self, List.set_cons_zero]
      simp [prF]
    rw [← e]; exact hw3
  · have : i = l.length := by omega
    subst this
    rw [List.take_length, Nat.sub_self, List.replicate_zero, List.append_nil] at hwx
    have hwi' : Ints Hx w (prF l) := hwx.row
    repeat' first
      | refine CO.cons rfl ?_
      | refine CO.nil ?_
      | refine CV.seq ?_
      | refine CV.region callees ?_
      | refine CV.cond ?_
      | refine CV.block ?_
      | refine CV.skip ?_
      | refine CV.exit ?_
      | refine CV.ret ?_
      | refine CV.scope ?_
      | refine CV.draw callees rfl ?_
      | refine CH.cons rfl ?_
      | refine CH.nil ?_
      | refine CO.consG rfl ?_
      | refine CH.consG rfl ?_
      | refine CG.cons rfl ?_
      | refine CG.nil ?_
      | refine CG.consG rfl ?_
      | refine ⟨(rfl : plain _ = true), ?_⟩
      | refine ⟨(rfl : nilOk _ = some _), ?_⟩
      | refine ⟨_, ints_len (by assumption), ?_⟩
      | refine ⟨_, ints_addr (by assumption) (by omega) (by omega), ?_⟩
      | refine ⟨_, ints_load (by assumption) (by omega) (by omega), ?_⟩
      | refine ⟨(⟨by omega, by omega⟩ : inI64 _), ?_⟩
      | refine ⟨_, fun tm ha => step1_max rfl (ev_tmp ha rfl) (ev_tmp ha rfl), ?_⟩
      | refine ⟨_, fun tm ha => step1_min rfl (ev_tmp ha rfl) (ev_tmp ha rfl), ?_⟩
      | (refine ⟨fun _ => ?_, fun _ => ?_⟩ <;> first | (exfalso; omega) | skip)
      | fail
    refine (check_spec (Nat.le_trans hB kx.1) hwi').mono ?_
    rintro r H4 ⟨rfl, rfl⟩
    repeat' first
      | refine CO.cons rfl ?_
      | refine CO.nil ?_
      | refine CV.seq ?_
      | refine CV.region callees ?_
      | refine CV.cond ?_
      | refine CV.block ?_
      | refine CV.skip ?_
      | refine CV.exit ?_
      | refine CV.ret ?_
      | refine CV.scope ?_
      | refine CV.draw callees rfl ?_
      | refine CH.cons rfl ?_
      | refine CH.nil ?_
      | refine CO.consG rfl ?_
      | refine CH.consG rfl ?_
      | refine CG.cons rfl ?_
      | refine CG.nil ?_
      | refine CG.consG rfl ?_
      | refine ⟨(rfl : plain _ = true), ?_⟩
      | refine ⟨(rfl : nilOk _ = some _), ?_⟩
      | refine ⟨_, ints_len (by assumption), ?_⟩
      | refine ⟨_, ints_addr (by assumption) (by omega) (by omega), ?_⟩
      | refine ⟨_, ints_load (by assumption) (by omega) (by omega), ?_⟩
      | refine ⟨(⟨by omega, by omega⟩ : inI64 _), ?_⟩
      | refine ⟨_, fun tm ha => step1_max rfl (ev_tmp ha rfl) (ev_tmp ha rfl), ?_⟩
      | refine ⟨_, fun tm ha => step1_min rfl (ev_tmp ha rfl) (ev_tmp ha rfl), ?_⟩
      | (refine ⟨fun _ => ?_, fun _ => ?_⟩ <;> first | (exfalso; omega) | skip)
      | fail
    · rename_i h1
      have e : prE l = 3 := by rw [e0, if_neg h1]
      exact ⟨rfl, ⟨_, by rw [e], .inl ⟨rfl, by rw [prL, e]; rfl⟩, fun c hc => by cases hc⟩, kx⟩
    · have h1 : check (prF l) = 0 := Classical.not_not.1 (by assumption)
      have e : prE l = 0 := by rw [e0, if_pos h1]
      exact ⟨by simp only [List.all_cons, List.all_nil, hwx.notTuple]; rfl, ⟨_, by rw [e], by rw [prL, if_pos e]; exact hwi', fun c hc => (hwx.lt hc).1⟩, kx⟩
end Go.Proofs.YtkfaiokiaahbaaaDoor


/- Titles: which ones may be, and which partition has one. -/
namespace Go.Proofs.YtkfaiokiaahbaaaDoor
open Go.AI
/-- A row of titles, each of them bytes. -/
def Titles (ls : List (List Int)) : Prop := ∀ l ∈ ls, Bytes l ∧ l.length < 1000000
theorem Titles.at {ls : List (List Int)} (h : Titles ls) {i : Nat} (hi : i < ls.length) : Bytes ls[i]! ∧ ls[i]!.length < 1000000 := by
  rw [getElem!_pos ls i hi]; exact h _ (List.getElem_mem hi)
theorem titles_slice {K : Value → Prop} {H : Heap} {v : Value} {ls : List (List Int)} {i : Int} (hv : Row H v (ls.map VS)) (h0 : 0 ≤ i) (h1 : i ≤ ls.length) (hk : ∀ r, Row H r ((ls.take i.toNat).map VS) → K r) :
    ∃ r, aslice Tryd.prog 50 v none (some (some (.int .i64 i))) = some r ∧ K r := by
  obtain ⟨r, h2, h3⟩ := row_slice (kd := .i64) un50 sz9 hv h0 (by simpa using h1)
  exact ⟨r, h2, hk r (by rw [← List.map_take] at h3; exact h3)⟩
def isT (l : List Int) : Bool := decide (1 ≤ l.length) && decide (l.length ≤ 20) && l.all fun x => decide (97 ≤ x) && decide (x ≤ 122)
theorem isT_no {l : List Int} {i : Nat} (hi : i < l.length) (h : l[i]! < 97 ∨ 122 < l[i]!) : isT l = false := by
  have hm : l[i]! ∈ l := by rw [getElem!_pos l i hi]; exact List.getElem_mem hi
  cases ht : isT l with
  | false => rfl
  | true =>
    simp only [isT, Bool.and_eq_true, List.all_eq_true, decide_eq_true_eq] at ht
    have := ht.2 _ hm
    omega
theorem isT_len {l : List Int} (h : ¬ (1 ≤ l.length ∧ l.length ≤ 20)) : isT l = false := by
  cases ht : isT l with
  | false => rfl
  | true =>
    simp only [isT, Bool.and_eq_true, decide_eq_true_eq] at ht
    exact absurd ⟨ht.1.1, ht.1.2⟩ h
set_option maxRecDepth 100000 in
theorem isTitle_spec {B : Nat} {H : Heap} {l : List Int} (hB : B ≤ H.n) (hb : Bytes l) (hn : l.length < 1000000) :
    CallB Tryd.prog B 119 [VS l, .int .i64 20] H (fun r H' => r = .bool (isT l) ∧ H' = H) := by
  refine CV.enter callees false rfl Tryd.func119 rfl ok119 (Nat.le_of_ble_eq_true rfl) hB ?_
  by_cases h0 : 1 ≤ l.length ∧ l.length ≤ 20
  rotate_left
  · repeat' first
      | refine CO.cons rfl ?_
      | refine CO.nil ?_
      | refine CV.seq ?_
      | refine CV.region callees ?_
      | refine CV.cond ?_
      | refine CV.block ?_
      | refine CV.skip ?_
      | refine CV.exit ?_
      | refine CV.ret ?_
      | refine CV.scope ?_
      | refine CV.draw callees rfl ?_
      | refine CH.cons rfl ?_
      | refine CH.nil ?_
      | refine CO.consG rfl ?_
      | refine CH.consG rfl ?_
      | refine CG.cons rfl ?_
      | refine CG.nil ?_
      | refine CG.consG rfl ?_
      | refine ⟨(rfl : plain _ = true), ?_⟩
      | refine ⟨(rfl : nilOk _ = some _), ?_⟩
      | refine ⟨_, ints_len (by assumption), ?_⟩
      | refine ⟨_, ints_addr (by assumption) (by omega) (by omega), ?_⟩
      | refine ⟨_, ints_load (by assumption) (by omega) (by omega), ?_⟩
      | refine ⟨(⟨by omega, by omega⟩ : inI64 _), ?_⟩
      | refine ⟨_, fun tm ha => step1_max rfl (ev_tmp ha rfl) (ev_tmp ha rfl), ?_⟩
      | refine ⟨_, fun tm ha => step1_min rfl (ev_tmp ha rfl) (ev_tmp ha rfl), ?_⟩
      | refine ⟨_, str_len un9, ?_⟩
      | (refine ⟨fun _ => ?_, fun _ => ?_⟩ <;> first | (exfalso; omega) | skip)
      | fail
    all_goals exact ⟨rfl, by rw [isT_len h0], rfl⟩
  repeat' first
    | refine CO.cons rfl ?_
    | refine CO.nil ?_
    | refine CV.seq ?_
    | refine CV.region callees ?_
    | refine CV.cond ?_
    | refine CV.block ?_
    | refine CV.skip ?_
    | refine CV.exit ?_
    | refine CV.ret ?_
    | refine CV.scope ?_
    | refine CV.draw callees rfl ?_
    | refine CH.cons rfl ?_
    | refine CH.nil ?_
    | refine CO.consG rfl ?_
    | refine CH.consG rfl ?_
    | refine CG.cons rfl ?_
    | refine CG.nil ?_
    | refine CG.consG rfl ?_
    | refine ⟨(rfl : plain _ = true), ?_⟩
    | refine ⟨(rfl : nilOk _ = some _), ?_⟩
    | refine ⟨_, ints_len (by assumption), ?_⟩
    | refine ⟨_, ints_addr (by assumption) (by omega) (by omega), ?_⟩
    | refine ⟨_, ints_load (by assumption) (by omega) (by omega), ?_⟩
    | refine ⟨(⟨by omega, by omega⟩ : inI64 _), ?_⟩
    | refine ⟨_, fun tm ha => step1_max rfl (ev_tmp ha rfl) (ev_tmp ha rfl), ?_⟩
    | refine ⟨_, fun tm ha => step1_min rfl (ev_tmp ha rfl) (ev_tmp ha rfl), ?_⟩
    | refine ⟨_, str_len un9, ?_⟩
    | (refine ⟨fun _ => ?_, fun _ => ?_⟩ <;> first | (exfalso; omega) | skip)
    | fail
  refine CV.loopc ?_
  refine WCv.rounds callees false (α := Nat) (fun i => [(0, VS l), (16, .int .i64 l.length), (17, .int .i64 i)]) (fun i Hz => Hz = H ∧ i ≤ l.length ∧ ∀ j, j < i → 97 ≤ l[j]! ∧ l[j]! ≤ 122) (fun i => l.length - i) (0) (by repeat' first | exact trivial | refine ⟨rfl, ?_⟩ | refine ⟨slot_int (by (try simp only [Int.toNat_natCast]); omega), ?_⟩) ?_ ?_
  · exact ⟨rfl, by omega, fun j hj => by omega⟩
  rintro i Hx ⟨rfl, hi, ha⟩ hBx
  by_cases hi2 : i < l.length
  · have hxi : l[(i : Int).toNat]! = l[i]! := rfl
    repeat' first
      | refine CO.cons rfl ?_
      | refine CO.nil ?_
      | refine CV.seq ?_
      | refine CV.region callees ?_
      | refine CV.cond ?_
      | refine CV.block ?_
      | refine CV.skip ?_
      | refine CV.exit ?_
      | refine CV.ret ?_
      | refine CV.scope ?_
      | refine CV.draw callees rfl ?_
      | refine CH.cons rfl ?_
      | refine CH.nil ?_
      | refine CO.consG rfl ?_
      | refine CH.consG rfl ?_
      | refine CG.cons rfl ?_
      | refine CG.nil ?_
      | refine CG.consG rfl ?_
      | refine ⟨(rfl : plain _ = true), ?_⟩
      | refine ⟨(rfl : nilOk _ = some _), ?_⟩
      | refine ⟨_, ints_len (by assumption), ?_⟩
      | refine ⟨_, ints_addr (by assumption) (by omega) (by omega), ?_⟩
      | refine ⟨_, ints_load (by assumption) (by omega) (by omega), ?_⟩
      | refine ⟨(⟨by omega, by omega⟩ : inI64 _), ?_⟩
      | refine ⟨_, fun tm ha => step1_max rfl (ev_tmp ha rfl) (ev_tmp ha rfl), ?_⟩
      | refine ⟨_, fun tm ha => step1_min rfl (ev_tmp ha rfl) (ev_tmp ha rfl), ?_⟩
      | refine ⟨_, str_index un9 hb (by omega) (by omega), ?_⟩
      | (refine ⟨fun _ => ?_, fun _ => ?_⟩ <;> first | (exfalso; omega) | skip)
      | fail
    · rename_i h1 h2
      rw [hxi] at h2
      exact ⟨rfl, by rw [isT_no hi2 (.inl h2)], rfl⟩
    · rename_i h1 h2 h3
      rw [hxi] at h3
      exact ⟨rfl, by rw [isT_no hi2 (.inr h3)], rfl⟩
    · rename_i h1 h2 h3
      rw [hxi] at h2 h3
      refine ⟨(i + 1), (by repeat' first | exact trivial | refine ⟨rfl, ?_⟩ | refine ⟨slot_int (by (try simp only [Int.toNat_natCast]); omega), ?_⟩), (by (try dsimp only); omega), ?_⟩
      refine ⟨rfl, by omega, fun j hj => ?_⟩
      by_cases hji : j = i
      · subst hji; omega
      · exact ha j (by omega)
  · have hil : i = l.length := by omega
    have hall : (l.all fun x => decide (97 ≤ x) && decide (x ≤ 122)) = true := by
      rw [List.all_eq_true]
      intro x hx
      obtain ⟨j, hj, rfl⟩ := List.getElem_of_mem hx
      have := ha j (by omega)
      rw [getElem!_pos l j hj] at this
      simp; omega
    repeat' first
      | refine CO.cons rfl ?_
      | refine CO.nil ?_
      | refine CV.seq ?_
      | refine CV.region callees ?_
      | refine CV.cond ?_
      | refine CV.block ?_
      | refine CV.skip ?_
      | refine CV.exit ?_
      | refine CV.ret ?_
      | refine CV.scope ?_
      | refine CV.draw callees rfl ?_
      | refine CH.cons rfl ?_
      | refine CH.nil ?_
      | refine CO.consG rfl ?_
      | refine CH.consG rfl ?_
      | refine CG.cons rfl ?_
      | refine CG.nil ?_
      | refine CG.consG rfl ?_
      | refine ⟨(rfl : plain _ = true), ?_⟩
      | refine ⟨(rfl : nilOk _ = some _), ?_⟩
      | refine ⟨_, ints_len (by assumption), ?_⟩
      | refine ⟨_, ints_addr (by assumption) (by omega) (by omega), ?_⟩
      | refine ⟨_, ints_load (by assumption) (by omega) (by omega), ?_⟩
      | refine ⟨(⟨by omega, by omega⟩ : inI64 _), ?_⟩
      | refine ⟨_, fun tm ha => step1_max rfl (ev_tmp ha rfl) (ev_tmp ha rfl), ?_⟩
      | refine ⟨_, fun tm ha => step1_min rfl (ev_tmp ha rfl) (ev_tmp ha rfl), ?_⟩
      | refine ⟨_, str_len un9, ?_⟩
      | (refine ⟨fun _ => ?_, fun _ => ?_⟩ <;> first | (exfalso; omega) | skip)
      | fail
    all_goals
      refine ⟨rfl, ?_, rfl⟩
      rw [isT, hall, Bool.and_true]
      simp
      try omega
set_option maxRecDepth 100000 in
theorem indexS_spec {B : Nat} {H : Heap} {v : Value} {ls : List (List Int)} {t : List Int} (hB : B ≤ H.n) (hv : Row H v (ls.map VS)) (hls : ∀ l ∈ ls, Bytes l) (ht : Bytes t) (hn : ls.length < 1000000) :
    CallB Tryd.prog B 131 [v, VS t] H (fun r H' => r = .int .i64 (if t ∈ ls then (ls.idxOf t : Int) else -1) ∧ H' = H) := by
  refine CV.enter callees false rfl Tryd.func131 rfl ok131 (Nat.le_of_ble_eq_true rfl) hB ?_
  repeat' first
    | refine CO.cons rfl ?_
    | refine CO.nil ?_
    | refine CV.seq ?_
    | refine CV.region callees ?_
    | refine CV.cond ?_
    | refine CV.block ?_
    | refine CV.skip ?_
    | refine CV.exit ?_
    | refine CV.ret ?_
    | refine CV.scope ?_
    | refine CV.draw callees rfl ?_
    | refine CH.cons rfl ?_
    | refine CH.nil ?_
    | refine CO.consG rfl ?_
    | refine CH.consG rfl ?_
    | refine CG.cons rfl ?_
    | refine CG.nil ?_
    | refine CG.consG rfl ?_
    | refine ⟨(rfl : plain _ = true), ?_⟩
    | refine ⟨(rfl : nilOk _ = some _), ?_⟩
    | refine ⟨_, ints_len (by assumption), ?_⟩
    | refine ⟨_, ints_addr (by assumption) (by omega) (by omega), ?_⟩
    | refine ⟨_, ints_load (by assumption) (by omega) (by omega), ?_⟩
    | refine ⟨(⟨by omega, by omega⟩ : inI64 _), ?_⟩
    | refine ⟨_, fun tm ha => step1_max rfl (ev_tmp ha rfl) (ev_tmp ha rfl), ?_⟩
    | refine ⟨_, fun tm ha => step1_min rfl (ev_tmp ha rfl) (ev_tmp ha rfl), ?_⟩
    | refine ⟨_, strs_len hv, ?_⟩
    | (refine ⟨fun _ => ?_, fun _ => ?_⟩ <;> first | (exfalso; omega) | skip)
    | fail
  refine CV.loopc ?_
  refine WCv.rounds callees false (α := Nat) (fun i => [(0, v), (1, VS t), (7, .int .i64 ls.length), (8, .int .i64 i)]) (fun i Hz => Hz = H ∧ i ≤ ls.length ∧ t ∉ ls.take i) (fun i => ls.length - i) (0) (by repeat' first | exact trivial | refine ⟨rfl, ?_⟩ | refine ⟨slot_int (by (try simp only [Int.toNat_natCast]); omega), ?_⟩) ?_ ?_
  · exact ⟨rfl, by omega, by simp⟩
  rintro i Hx ⟨rfl, hi, hno⟩ hBx
  by_cases hi2 : i < ls.length
  · obtain ⟨l, hl⟩ : ∃ l, ls[i]! = l := ⟨_, rfl⟩
    have hm : l ∈ ls := by rw [← hl, getElem!_pos ls i hi2]; exact List.getElem_mem _
    have hld : aload Tryd.prog 9 Hx (elemAt v (i : Int).toNat) = some (VS l) := by rw [← hl]; exact strs_load hv (by omega) (by omega)
    have hsn : ls.take (i + 1) = ls.take i ++ [l] := by rw [List.take_add_one, List.getElem?_eq_getElem hi2, ← hl, getElem!_pos ls i hi2]; rfl
    by_cases he : t = l
    · repeat' first
        | refine CO.cons rfl ?_
        | refine CO.nil ?_
        | refine CV.seq ?_
        | refine CV.region callees ?_
        | refine CV.cond ?_
        | refine CV.block ?_
        | refine CV.skip ?_
        | refine CV.exit ?_
        | refine CV.ret ?_
        | refine CV.scope ?_
        | refine CV.draw callees rfl ?_
        | refine CH.cons rfl ?_
        | refine CH.nil ?_
        | refine CO.consG rfl ?_
        | refine CH.consG rfl ?_
        | refine CG.cons rfl ?_
        | refine CG.nil ?_
        | refine CG.consG rfl ?_
        | refine ⟨(rfl : plain _ = true), ?_⟩
        | refine ⟨(rfl : nilOk _ = some _), ?_⟩
        | refine ⟨_, ints_len (by assumption), ?_⟩
        | refine ⟨_, ints_addr (by assumption) (by omega) (by omega), ?_⟩
        | refine ⟨_, ints_load (by assumption) (by omega) (by omega), ?_⟩
        | refine ⟨(⟨by omega, by omega⟩ : inI64 _), ?_⟩
        | refine ⟨_, fun tm ha => step1_max rfl (ev_tmp ha rfl) (ev_tmp ha rfl), ?_⟩
        | refine ⟨_, fun tm ha => step1_min rfl (ev_tmp ha rfl) (ev_tmp ha rfl), ?_⟩
        | refine ⟨_, strs_addr hv (by omega) (by omega), ?_⟩
        | refine ⟨_, hld, ?_⟩
        | refine ⟨_, fun tm ha => eqS_t rfl (ev_tmp ha rfl) (ev_tmp ha rfl) he, ?_⟩
        | (refine ⟨fun _ => ?_, fun _ => ?_⟩ <;> first | (exfalso; omega) | skip)
        | fail
      refine ⟨rfl, ?_, rfl⟩
      subst he
      rw [if_pos hm]
      have hd : ls = ls.take i ++ ls.drop i := (List.take_append_drop i ls).symm
      have hdd : ls.drop i = t :: ls.drop (i + 1) := by rw [List.drop_eq_getElem_cons hi2, ← hl, getElem!_pos ls i hi2]
      have : ls.idxOf t = i := by
        rw [hd, List.idxOf_append, if_neg hno, hdd, List.idxOf_cons_self, List.length_take]; omega
      rw [this]
    · repeat' first
        | refine CO.cons rfl ?_
        | refine CO.nil ?_
        | refine CV.seq ?_
        | refine CV.region callees ?_
        | refine CV.cond ?_
        | refine CV.block ?_
        | refine CV.skip ?_
        | refine CV.exit ?_
        | refine CV.ret ?_
        | refine CV.scope ?_
        | refine CV.draw callees rfl ?_
        | refine CH.cons rfl ?_
        | refine CH.nil ?_
        | refine CO.consG rfl ?_
        | refine CH.consG rfl ?_
        | refine CG.cons rfl ?_
        | refine CG.nil ?_
        | refine CG.consG rfl ?_
        | refine ⟨(rfl : plain _ = true), ?_⟩
        | refine ⟨(rfl : nilOk _ = some _), ?_⟩
        | refine ⟨_, ints_len (by assumption), ?_⟩
        | refine ⟨_, ints_addr (by assumption) (by omega) (by omega), ?_⟩
        | refine ⟨_, ints_load (by assumption) (by omega) (by omega), ?_⟩
        | refine ⟨(⟨by omega, by omega⟩ : inI64 _), ?_⟩
        | refine ⟨_, fun tm ha => step1_max rfl (ev_tmp ha rfl) (ev_tmp ha rfl), ?_⟩
        | refine ⟨_, fun tm ha => step1_min rfl (ev_tmp ha rfl) (ev_tmp ha rfl), ?_⟩
        | refine ⟨_, strs_addr hv (by omega) (by omega), ?_⟩
        | refine ⟨_, hld, ?_⟩
        | refine ⟨_, fun tm ha => eqS_f rfl (ev_tmp ha rfl) (ev_tmp ha rfl) ht (hls l hm) he, ?_⟩
        | (refine ⟨fun _ => ?_, fun _ => ?_⟩ <;> first | (exfalso; omega) | skip)
        | fail
      refine ⟨(i + 1), (by repeat' first | exact trivial | refine ⟨rfl, ?_⟩ | refine ⟨slot_int (by (try simp only [Int.toNat_natCast]); omega), ?_⟩), (by (try dsimp only); omega), ?_⟩
      refine ⟨rfl, by omega, ?_⟩
      rw [hsn]; simp [hno, he]
  · have : i = ls.length := by omega
    subst this
    rw [List.take_length] at hno
    repeat' first
      | refine CO.cons rfl ?_
      | refine CO.nil ?_
      | refine CV.seq ?_
      | refine CV.region callees ?_
      | refine CV.cond ?_
      | refine CV.block ?_
      | refine CV.skip ?_
      | refine CV.exit ?_
      | refine CV.ret ?_
      | refine CV.scope ?_
      | refine CV.draw callees rfl ?_
      | refine CH.cons rfl ?_
      | refine CH.nil ?_
      | refine CO.consG rfl ?_
      | refine CH.consG rfl ?_
      | refine CG.cons rfl ?_
      | refine CG.nil ?_
      | refine CG.consG rfl ?_
      | refine ⟨(rfl : plain _ = true), ?_⟩
      | refine ⟨(rfl : nilOk _ = some _), ?_⟩
      | refine ⟨_, ints_len (by assumption), ?_⟩
      | refine ⟨_, ints_addr (by assumption) (by omega) (by omega), ?_⟩
      | refine ⟨_, ints_load (by assumption) (by omega) (by omega), ?_⟩
      | refine ⟨(⟨by omega, by omega⟩ : inI64 _), ?_⟩
      | refine ⟨_, fun tm ha => step1_max rfl (ev_tmp ha rfl) (ev_tmp ha rfl), ?_⟩
      | refine ⟨_, fun tm ha => step1_min rfl (ev_tmp ha rfl) (ev_tmp ha rfl), ?_⟩
      | (refine ⟨fun _ => ?_, fun _ => ?_⟩ <;> first | (exfalso; omega) | skip)
      | fail
    exact ⟨rfl, by rw [if_neg hno], rfl⟩
set_option maxRecDepth 100000 in
theorem containsS_spec {B : Nat} {H : Heap} {v : Value} {ls : List (List Int)} {t : List Int} (hB : B ≤ H.n) (hv : Row H v (ls.map VS)) (hls : ∀ l ∈ ls, Bytes l) (ht : Bytes t) (hn : ls.length < 1000000) :
    CallB Tryd.prog B 120 [v, VS t] H (fun r H' => r = .bool (decide (t ∈ ls)) ∧ H' = H) := by
  refine CV.enter callees false rfl Tryd.func120 rfl ok120 (Nat.le_of_ble_eq_true rfl) hB ?_
  repeat' first
    | refine CO.cons rfl ?_
    | refine CO.nil ?_
    | refine CV.seq ?_
    | refine CV.region callees ?_
    | refine CV.cond ?_
    | refine CV.block ?_
    | refine CV.skip ?_
    | refine CV.exit ?_
    | refine CV.ret ?_
    | refine CV.scope ?_
    | refine CV.draw callees rfl ?_
    | refine CH.cons rfl ?_
    | refine CH.nil ?_
    | refine CO.consG rfl ?_
    | refine CH.consG rfl ?_
    | refine CG.cons rfl ?_
    | refine CG.nil ?_
    | refine CG.consG rfl ?_
    | refine ⟨(rfl : plain _ = true), ?_⟩
    | refine ⟨(rfl : nilOk _ = some _), ?_⟩
    | refine ⟨_, ints_len (by assumption), ?_⟩
    | refine ⟨_, ints_addr (by assumption) (by omega) (by omega), ?_⟩
    | refine ⟨_, ints_load (by assumption) (by omega) (by omega), ?_⟩
    | refine ⟨(⟨by omega, by omega⟩ : inI64 _), ?_⟩
    | refine ⟨_, fun tm ha => step1_max rfl (ev_tmp ha rfl) (ev_tmp ha rfl), ?_⟩
    | refine ⟨_, fun tm ha => step1_min rfl (ev_tmp ha rfl) (ev_tmp ha rfl), ?_⟩
    | (refine ⟨fun _ => ?_, fun _ => ?_⟩ <;> first | (exfalso; omega) | skip)
    | fail
  refine (indexS_spec hB hv hls ht hn).mono ?_
  rintro r H1 ⟨rfl, rfl⟩
  by_cases h : t ∈ ls
  · rw [if_pos h]
    repeat' first
      | refine CO.cons rfl ?_
      | refine CO.nil ?_
      | refine CV.seq ?_
      | refine CV.region callees ?_
      | refine CV.cond ?_
      | refine CV.block ?_
      | refine CV.skip ?_
      | refine CV.exit ?_
      | refine CV.ret ?_
      | refine CV.scope ?_
      | refine CV.draw callees rfl ?_
      | refine CH.cons rfl ?_
      | refine CH.nil ?_
      | refine CO.consG rfl ?_
      | refine CH.consG rfl ?_
      | refine CG.cons rfl ?_
      | refine CG.nil ?_
      | refine CG.consG rfl ?_
      | refine ⟨(rfl : plain _ = true), ?_⟩
      | refine ⟨(rfl : nilOk _ = some _), ?_⟩
      | refine ⟨_, ints_len (by assumption), ?_⟩
      | refine ⟨_, ints_addr (by assumption) (by omega) (by omega), ?_⟩
      | refine ⟨_, ints_load (by assumption) (by omega) (by omega), ?_⟩
      | refine ⟨(⟨by omega, by omega⟩ : inI64 _), ?_⟩
      | refine ⟨_, fun tm ha => step1_max rfl (ev_tmp ha rfl) (ev_tmp ha rfl), ?_⟩
      | refine ⟨_, fun tm ha => step1_min rfl (ev_tmp ha rfl) (ev_tmp ha rfl), ?_⟩
      | (refine ⟨fun _ => ?_, fun _ => ?_⟩ <;> first | (exfalso; omega) | skip)
      | fail
    exact ⟨rfl, by simp [h], rfl⟩
  · rw [if_neg h]
    repeat' first
      | refine CO.cons rfl ?_
      | refine CO.nil ?_
      | refine CV.seq ?_
      | refine CV.region callees ?_
      | refine CV.cond ?_
      | refine CV.block ?_
      | refine CV.skip ?_
      | refine CV.exit ?_
      | refine CV.ret ?_
      | refine CV.scope ?_
      | refine CV.draw callees rfl ?_
      | refine CH.cons rfl ?_
      | refine CH.nil ?_
      | refine CO.consG rfl ?_
      | refine CH.consG rfl ?_
      | refine CG.cons rfl ?_
      | refine CG.nil ?_
      | refine CG.consG rfl ?_
      | refine ⟨(rfl : plain _ = true), ?_⟩
      | refine ⟨(rfl : nilOk _ = some _), ?_⟩
      | refine ⟨_, ints_len (by assumption), ?_⟩
      | refine ⟨_, ints_addr (by assumption) (by omega) (by omega), ?_⟩
      | refine ⟨_, ints_load (by assumption) (by omega) (by omega), ?_⟩
      | refine ⟨(⟨by omega, by omega⟩ : inI64 _), ?_⟩
      | refine ⟨_, fun tm ha => step1_max rfl (ev_tmp ha rfl) (ev_tmp ha rfl), ?_⟩
      | refine ⟨_, fun tm ha => step1_min rfl (ev_tmp ha rfl) (ev_tmp ha rfl), ?_⟩
      | (refine ⟨fun _ => ?_, fun _ => ?_⟩ <;> first | (exfalso; omega) | skip)
      | fail
    exact ⟨rfl, by simp [h], rfl⟩
/-- The first error of titles. -/
def ctF (ls : List (List Int)) : Nat → Nat → Int
  | 0, _ => 0
  | k + 1, i => if isT ls[i]! = false then 3 else if ls[i]! ∈ ls.take i then 9 else ctF ls k (i + 1)
def ctE (ls : List (List Int)) (n : Int) : Int := if (cntR n).2 ≠ 0 ∨ (ls.length : Int) ≠ (cntR n).1 then 3 else ctF ls ls.length 0
set_option maxHeartbeats 1000000 in
set_option maxRecDepth 100000 in
theorem checkTitles_spec {B : Nat} {H : Heap} {v : Value} {ls : List (List Int)} {n : Int} (hB : B ≤ H.n) (hBase : Base H) (hv : Row H v (ls.map VS)) (hls : Titles ls) (hn : ls.length < 1000000) :
    CallB Tryd.prog B 104 [v, .int .i64 n] H (fun r H' => r = .int .i64 (ctE ls n) ∧ Keep H H') := by
  refine CV.enter callees false rfl Tryd.func104 rfl ok104 (Nat.le_of_ble_eq_true rfl) hB ?_
  repeat' first
    | refine CO.cons rfl ?_
    | refine CO.nil ?_
    | refine CV.seq ?_
    | refine CV.region callees ?_
    | refine CV.cond ?_
    | refine CV.block ?_
    | refine CV.skip ?_
    | refine CV.exit ?_
    | refine CV.ret ?_
    | refine CV.scope ?_
    | refine CV.draw callees rfl ?_
    | refine CH.cons rfl ?_
    | refine CH.nil ?_
    | refine CO.consG rfl ?_
    | refine CH.consG rfl ?_
    | refine CG.cons rfl ?_
    | refine CG.nil ?_
    | refine CG.consG rfl ?_
    | refine ⟨(rfl : plain _ = true), ?_⟩
    | refine ⟨(rfl : nilOk _ = some _), ?_⟩
    | refine ⟨_, ints_len (by assumption), ?_⟩
    | refine ⟨_, ints_addr (by assumption) (by omega) (by omega), ?_⟩
    | refine ⟨_, ints_load (by assumption) (by omega) (by omega), ?_⟩
    | refine ⟨(⟨by omega, by omega⟩ : inI64 _), ?_⟩
    | refine ⟨_, fun tm ha => step1_max rfl (ev_tmp ha rfl) (ev_tmp ha rfl), ?_⟩
    | refine ⟨_, fun tm ha => step1_min rfl (ev_tmp ha rfl) (ev_tmp ha rfl), ?_⟩
    | (refine ⟨fun _ => ?_, fun _ => ?_⟩ <;> first | (exfalso; omega) | skip)
    | fail
  refine (count_spec hB hBase).mono ?_
  rintro r H1 ⟨rfl, rfl⟩
  repeat' first
    | refine CO.cons rfl ?_
    | refine CO.nil ?_
    | refine CV.seq ?_
    | refine CV.region callees ?_
    | refine CV.cond ?_
    | refine CV.block ?_
    | refine CV.skip ?_
    | refine CV.exit ?_
    | refine CV.ret ?_
    | refine CV.scope ?_
    | refine CV.draw callees rfl ?_
    | refine CH.cons rfl ?_
    | refine CH.nil ?_
    | refine CO.consG rfl ?_
    | refine CH.consG rfl ?_
    | refine CG.cons rfl ?_
    | refine CG.nil ?_
    | refine CG.consG rfl ?_
    | refine ⟨(rfl : plain _ = true), ?_⟩
    | refine ⟨(rfl : nilOk _ = some _), ?_⟩
    | refine ⟨_, ints_len (by assumption), ?_⟩
    | refine ⟨_, ints_addr (by assumption) (by omega) (by omega), ?_⟩
    | refine ⟨_, ints_load (by assumption) (by omega) (by omega), ?_⟩
    | refine ⟨(⟨by omega, by omega⟩ : inI64 _), ?_⟩
    | refine ⟨_, fun tm ha => step1_max rfl (ev_tmp ha rfl) (ev_tmp ha rfl), ?_⟩
    | refine ⟨_, fun tm ha => step1_min rfl (ev_tmp ha rfl) (ev_tmp ha rfl), ?_⟩
    | refine ⟨_, strs_len hv, ?_⟩
    | (refine ⟨fun _ => ?_, fun _ => ?_⟩ <;> first | (exfalso; omega) | skip)
    | fail
  · rename_i h1
    exact ⟨rfl, by rw [ctE, if_pos (.inl h1)], Keep.refl _⟩
  · rename_i h1 h2
    exact ⟨rfl, by rw [ctE, if_pos (.inr h2)], Keep.refl _⟩
  rename_i h1 h2
  have e0 : ctE ls n = ctF ls ls.length 0 := by rw [ctE, if_neg (fun h => h.elim h1 h2)]
  repeat' first
    | refine CO.cons rfl ?_
    | refine CO.nil ?_
    | refine CV.seq ?_
    | refine CV.region callees ?_
    | refine CV.cond ?_
    | refine CV.block ?_
    | refine CV.skip ?_
    | refine CV.exit ?_
    | refine CV.ret ?_
    | refine CV.scope ?_
    | refine CV.draw callees rfl ?_
    | refine CH.cons rfl ?_
    | refine CH.nil ?_
    | refine CO.consG rfl ?_
    | refine CH.consG rfl ?_
    | refine CG.cons rfl ?_
    | refine CG.nil ?_
    | refine CG.consG rfl ?_
    | refine ⟨(rfl : plain _ = true), ?_⟩
    | refine ⟨(rfl : nilOk _ = some _), ?_⟩
    | refine ⟨_, ints_len (by assumption), ?_⟩
    | refine ⟨_, ints_addr (by assumption) (by omega) (by omega), ?_⟩
    | refine ⟨_, ints_load (by assumption) (by omega) (by omega), ?_⟩
    | refine ⟨(⟨by omega, by omega⟩ : inI64 _), ?_⟩
    | refine ⟨_, fun tm ha => step1_max rfl (ev_tmp ha rfl) (ev_tmp ha rfl), ?_⟩
    | refine ⟨_, fun tm ha => step1_min rfl (ev_tmp ha rfl) (ev_tmp ha rfl), ?_⟩
    | refine ⟨_, strs_len hv, ?_⟩
    | (refine ⟨fun _ => ?_, fun _ => ?_⟩ <;> first | (exfalso; omega) | skip)
    | fail
  refine CV.loopc ?_
  refine WCv.rounds callees false (α := Nat) (fun i => [(0, v), (22, v), (23, .int .i64 ls.length), (24, .int .i64 i)]) (fun i Hz => Hz = H1 ∧ i ≤ ls.length ∧ ctE ls n = ctF ls (ls.length - i) i) (fun i => ls.length - i) (0) (by repeat' first | exact trivial | refine ⟨rfl, ?_⟩ | refine ⟨slot_int (by (try simp only [Int.toNat_natCast]); omega), ?_⟩) ?_ ?_
  · exact ⟨rfl, by omega, e0⟩
  rintro i Hx ⟨rfl, hi, hc⟩ hBx
  by_cases hi2 : i < ls.length
  · obtain ⟨k, hk⟩ : ∃ k, ls.length - i = k + 1 := ⟨ls.length - i - 1, by omega⟩
    obtain ⟨l, hl⟩ : ∃ l, ls[i]! = l := ⟨_, rfl⟩
    obtain ⟨hbl, hll⟩ := hl ▸ hls.at hi2
    have hld : aload Tryd.prog 9 Hx (elemAt v (i : Int).toNat) = some (VS l) := by rw [← hl]; exact strs_load hv (by omega) (by omega)
    rw [hk, ctF, hl] at hc
    repeat' first
      | refine CO.cons rfl ?_
      | refine CO.nil ?_
      | refine CV.seq ?_
      | refine CV.region callees ?_
      | refine CV.cond ?_
      | refine CV.block ?_
      | refine CV.skip ?_
      | refine CV.exit ?_
      | refine CV.ret ?_
      | refine CV.scope ?_
      | refine CV.draw callees rfl ?_
      | refine CH.cons rfl ?_
      | refine CH.nil ?_
      | refine CO.consG rfl ?_
      | refine CH.consG rfl ?_
      | refine CG.cons rfl ?_
      | refine CG.nil ?_
      | refine CG.consG rfl ?_
      | refine ⟨(rfl : plain _ = true), ?_⟩
      | refine ⟨(rfl : nilOk _ = some _), ?_⟩
      | refine ⟨_, ints_len (by assumption), ?_⟩
      | refine ⟨_, ints_addr (by assumption) (by omega) (by omega), ?_⟩
      | refine ⟨_, ints_load (by assumption) (by omega) (by omega), ?_⟩
      | refine ⟨(⟨by omega, by omega⟩ : inI64 _), ?_⟩
      | refine ⟨_, fun tm ha => step1_max rfl (ev_tmp ha rfl) (ev_tmp ha rfl), ?_⟩
      | refine ⟨_, fun tm ha => step1_min rfl (ev_tmp ha rfl) (ev_tmp ha rfl), ?_⟩
      | refine ⟨_, strs_addr hv (by omega) (by omega), ?_⟩
      | refine ⟨_, hld, ?_⟩
      | (refine ⟨fun _ => ?_, fun _ => ?_⟩ <;> first | (exfalso; omega) | skip)
      | fail
    refine (isTitle_spec hBx hbl hll).mono ?_
    rintro r H2 ⟨rfl, rfl⟩
    cases ht : isT l with
    | false =>
      rw [if_pos ht] at hc
      repeat' first
        | refine CO.cons rfl ?_
        | refine CO.nil ?_
        | refine CV.seq ?_
        | refine CV.region callees ?_
        | refine CV.cond ?_
        | refine CV.block ?_
        | refine CV.skip ?_
        | refine CV.exit ?_
        | refine CV.ret ?_
        | refine CV.scope ?_
        | refine CV.draw callees rfl ?_
        | refine CH.cons rfl ?_
        | refine CH.nil ?_
        | refine CO.consG rfl ?_
        | refine CH.consG rfl ?_
        | refine CG.cons rfl ?_
        | refine CG.nil ?_
        | refine CG.consG rfl ?_
        | refine ⟨(rfl : plain _ = true), ?_⟩
        | refine ⟨(rfl : nilOk _ = some _), ?_⟩
        | refine ⟨_, ints_len (by assumption), ?_⟩
        | refine ⟨_, ints_addr (by assumption) (by omega) (by omega), ?_⟩
        | refine ⟨_, ints_load (by assumption) (by omega) (by omega), ?_⟩
        | refine ⟨(⟨by omega, by omega⟩ : inI64 _), ?_⟩
        | refine ⟨_, fun tm ha => step1_max rfl (ev_tmp ha rfl) (ev_tmp ha rfl), ?_⟩
        | refine ⟨_, fun tm ha => step1_min rfl (ev_tmp ha rfl) (ev_tmp ha rfl), ?_⟩
        | (refine ⟨fun _ => ?_, fun _ => ?_⟩ <;> first | (exfalso; omega) | skip)
        | fail
      exact ⟨rfl, by rw [hc], Keep.refl _⟩
    | true =>
      rw [if_neg (by rw [ht]; simp)] at hc
      repeat' first
        | refine CO.cons rfl ?_
        | refine CO.nil ?_
        | refine CV.seq ?_
        | refine CV.region callees ?_
        | refine CV.cond ?_
        | refine CV.block ?_
        | refine CV.skip ?_
        | refine CV.exit ?_
        | refine CV.ret ?_
        | refine CV.scope ?_
        | refine CV.draw callees rfl ?_
        | refine CH.cons rfl ?_
        | refine CH.nil ?_
        | refine CO.consG rfl ?_
        | refine CH.consG rfl ?_
        | refine CG.cons rfl ?_
        | refine CG.nil ?_
        | refine CG.consG rfl ?_
        | refine ⟨(rfl : plain _ = true), ?_⟩
        | refine ⟨(rfl : nilOk _ = some _), ?_⟩
        | refine ⟨_, ints_len (by assumption), ?_⟩
        | refine ⟨_, ints_addr (by assumption) (by omega) (by omega), ?_⟩
        | refine ⟨_, ints_load (by assumption) (by omega) (by omega), ?_⟩
        | refine ⟨(⟨by omega, by omega⟩ : inI64 _), ?_⟩
        | refine ⟨_, fun tm ha => step1_max rfl (ev_tmp ha rfl) (ev_tmp ha rfl), ?_⟩
        | refine ⟨_, fun tm ha => step1_min rfl (ev_tmp ha rfl) (ev_tmp ha rfl), ?_⟩
        | refine titles_slice hv (by omega) (by omega) ?_
        | (refine ⟨fun _ => ?_, fun _ => ?_⟩ <;> first | (exfalso; omega) | skip)
        | fail
      intro u hu
      repeat' first
        | refine CO.cons rfl ?_
        | refine CO.nil ?_
        | refine CV.seq ?_
        | refine CV.region callees ?_
        | refine CV.cond ?_
        | refine CV.block ?_
        | refine CV.skip ?_
        | refine CV.exit ?_
        | refine CV.ret ?_
        | refine CV.scope ?_
        | refine CV.draw callees rfl ?_
        | refine CH.cons rfl ?_
        | refine CH.nil ?_
        | refine CO.consG rfl ?_
        | refine CH.consG rfl ?_
        | refine CG.cons rfl ?_
        | refine CG.nil ?_
        | refine CG.consG rfl ?_
        | refine ⟨(rfl : plain _ = true), ?_⟩
        | refine ⟨(rfl : nilOk _ = some _), ?_⟩
        | refine ⟨_, ints_len (by assumption), ?_⟩
        | refine ⟨_, ints_addr (by assumption) (by omega) (by omega), ?_⟩
        | refine ⟨_, ints_load (by assumption) (by omega) (by omega), ?_⟩
        | refine ⟨(⟨by omega, by omega⟩ : inI64 _), ?_⟩
        | refine ⟨_, fun tm ha => step1_max rfl (ev_tmp ha rfl) (ev_tmp ha rfl), ?_⟩
        | refine ⟨_, fun tm ha => step1_min rfl (ev_tmp ha rfl) (ev_tmp ha rfl), ?_⟩
        | (refine ⟨fun _ => ?_, fun _ => ?_⟩ <;> first | (exfalso; omega) | skip)
        | fail
      refine (containsS_spec hBx hu (fun y hy => (hls y (List.mem_of_mem_take hy)).1) hbl (by simp; omega)).mono ?_
      rintro r H3 ⟨rfl, rfl⟩
      rw [show ((i : Int).toNat) = i from rfl]
      by_cases hm : l ∈ ls.take i
      · rw [if_pos hm] at hc
        rw [decide_eq_true hm]
        repeat' first
          | refine CO.cons rfl ?_
          | refine CO.nil ?_
          | refine CV.seq ?_
          | refine CV.region callees ?_
          | refine CV.cond ?_
          | refine CV.block ?_
          | refine CV.skip ?_
          | refine CV.exit ?_
          | refine CV.ret ?_
          | refine CV.scope ?_
          | refine CV.draw callees rfl ?_
          | refine CH.cons rfl ?_
          | refine CH.nil ?_
          | refine CO.consG rfl ?_
          | refine CH.consG rfl ?_
          | refine CG.cons rfl ?_
          | refine CG.nil ?_
          | refine CG.consG rfl ?_
          | refine ⟨(rfl : plain _ = true), ?_⟩
          | refine ⟨(rfl : nilOk _ = some _), ?_⟩
          | refine ⟨_, ints_len (by assumption), ?_⟩
          | refine ⟨_, ints_addr (by assumption) (by omega) (by omega), ?_⟩
          | refine ⟨_, ints_load (by assumption) (by omega) (by omega), ?_⟩
          | refine ⟨(⟨by omega, by omega⟩ : inI64 _), ?_⟩
          | refine ⟨_, fun tm ha => step1_max rfl (ev_tmp ha rfl) (ev_tmp ha rfl), ?_⟩
          | refine ⟨_, fun tm ha => step1_min rfl (ev_tmp ha rfl) (ev_tmp ha rfl), ?_⟩
          | (refine ⟨fun _ => ?_, fun _ => ?_⟩ <;> first | (exfalso; omega) | skip)
          | fail
        exact ⟨rfl, by rw [hc], Keep.refl _⟩
      · rw [if_neg hm] at hc
        rw [decide_eq_false hm]
        repeat' first
          | refine CO.cons rfl ?_
          | refine CO.nil ?_
          | refine CV.seq ?_
          | refine CV.region callees ?_
          | refine CV.cond ?_
          | refine CV.block ?_
          | refine CV.skip ?_
          | refine CV.exit ?_
          | refine CV.ret ?_
          | refine CV.scope ?_
          | refine CV.draw callees rfl ?_
          | refine CH.cons rfl ?_
          | refine CH.nil ?_
          | refine CO.consG rfl ?_
          | refine CH.consG rfl ?_
          | refine CG.cons rfl ?_
          | refine CG.nil ?_
          | refine CG.consG rfl ?_
          | refine ⟨(rfl : plain _ = true), ?_⟩
          | refine ⟨(rfl : nilOk _ = some _), ?_⟩
          | refine ⟨_, ints_len (by assumption), ?_⟩
          | refine ⟨_, ints_addr (by assumption) (by omega) (by omega), ?_⟩
          | refine ⟨_, ints_load (by assumption) (by omega) (by omega), ?_⟩
          | refine ⟨(⟨by omega, by omega⟩ : inI64 _), ?_⟩
          | refine ⟨_, fun tm ha => step1_max rfl (ev_tmp ha rfl) (ev_tmp ha rfl), ?_⟩
          | refine ⟨_, fun tm ha => step1_min rfl (ev_tmp ha rfl) (ev_tmp ha rfl), ?_⟩
          | (refine ⟨fun _ => ?_, fun _ => ?_⟩ <;> first | (exfalso; omega) | skip)
          | fail
        refine ⟨(i + 1), (by repeat' first | exact trivial | refine ⟨rfl, ?_⟩ | refine ⟨slot_int (by (try simp only [Int.toNat_natCast]); omega), ?_⟩), (by (try dsimp only); omega), ?_⟩
        exact ⟨rfl, by omega, by rw [hc]; congr 1; omega⟩
  · have : i = ls.length := by omega
    subst this
    rw [Nat.sub_self, ctF] at hc
    repeat' first
      | refine CO.cons rfl ?_
      | refine CO.nil ?_
      | refine CV.seq ?_
      | refine CV.region callees ?_
      | refine CV.cond ?_
      | refine CV.block ?_
      | refine CV.skip ?_
      | refine CV.exit ?_
      | refine CV.ret ?_
      | refine CV.scope ?_
      | refine CV.draw callees rfl ?_
      | refine CH.cons rfl ?_
      | refine CH.nil ?_
      | refine CO.consG rfl ?_
      | refine CH.consG rfl ?_
      | refine CG.cons rfl ?_
      | refine CG.nil ?_
      | refine CG.consG rfl ?_
      | refine ⟨(rfl : plain _ = true), ?_⟩
      | refine ⟨(rfl : nilOk _ = some _), ?_⟩
      | refine ⟨_, ints_len (by assumption), ?_⟩
      | refine ⟨_, ints_addr (by assumption) (by omega) (by omega), ?_⟩
      | refine ⟨_, ints_load (by assumption) (by omega) (by omega), ?_⟩
      | refine ⟨(⟨by omega, by omega⟩ : inI64 _), ?_⟩
      | refine ⟨_, fun tm ha => step1_max rfl (ev_tmp ha rfl) (ev_tmp ha rfl), ?_⟩
      | refine ⟨_, fun tm ha => step1_min rfl (ev_tmp ha rfl) (ev_tmp ha rfl), ?_⟩
      | (refine ⟨fun _ => ?_, fun _ => ?_⟩ <;> first | (exfalso; omega) | skip)
      | fail
    exact ⟨rfl, by rw [hc], Keep.refl _⟩
def ttE (ls : List (List Int)) (xs : List Int) : Int := if check xs ≠ 0 then check xs else if 5 < xs.length then 8 else ctE ls xs.length
def ttL (ls : List (List Int)) (xs : List Int) : List Int := if ttE ls xs = 0 then ls[(rkF xs 0).toNat]! else []
theorem ctE_len {ls : List (List Int)} {n : Int} (h : ctE ls n = 0) : (ls.length : Int) = (cntR n).1 := by
  unfold ctE at h
  split at h
  · cases h
  · rename_i h1; exact Classical.not_not.1 fun h2 => h1 (.inr h2)
theorem ttL_bytes {ls : List (List Int)} (hls : Titles ls) (xs : List Int) : Bytes (ttL ls xs) := by
  unfold ttL
  split
  · by_cases h : (rkF xs 0).toNat < ls.length
    · exact (hls.at h).1
    · rw [getElem!_neg ls _ h]; intro x hx; cases hx
  · intro x hx; cases hx
set_option maxHeartbeats 1000000 in
set_option maxRecDepth 100000 in
theorem title_spec {B : Nat} {H : Heap} {v u : Value} {ls : List (List Int)} {xs : List Int} (hB : B ≤ H.n) (hBase : Base H) (hv : Row H v (ls.map VS)) (hls : Titles ls) (hn : ls.length < 1000000) (hu : Ints H u xs) :
    CallB Tryd.prog B 62 [v, u] H (fun r H' => r = .tuple #[VS (ttL ls xs), .int .i64 (ttE ls xs)] ∧ Keep H H') := by
  refine CV.enter callees false rfl Tryd.func62 rfl ok62 (Nat.le_of_ble_eq_true rfl) hB ?_
  repeat' first
    | refine CO.cons rfl ?_
    | refine CO.nil ?_
    | refine CV.seq ?_
    | refine CV.region callees ?_
    | refine CV.cond ?_
    | refine CV.block ?_
    | refine CV.skip ?_
    | refine CV.exit ?_
    | refine CV.ret ?_
    | refine CV.scope ?_
    | refine CV.draw callees rfl ?_
    | refine CH.cons rfl ?_
    | refine CH.nil ?_
    | refine CO.consG rfl ?_
    | refine CH.consG rfl ?_
    | refine CG.cons rfl ?_
    | refine CG.nil ?_
    | refine CG.consG rfl ?_
    | refine ⟨(rfl : plain _ = true), ?_⟩
    | refine ⟨(rfl : nilOk _ = some _), ?_⟩
    | refine ⟨_, ints_len (by assumption), ?_⟩
    | refine ⟨_, ints_addr (by assumption) (by omega) (by omega), ?_⟩
    | refine ⟨_, ints_load (by assumption) (by omega) (by omega), ?_⟩
    | refine ⟨(⟨by omega, by omega⟩ : inI64 _), ?_⟩
    | refine ⟨_, fun tm ha => step1_max rfl (ev_tmp ha rfl) (ev_tmp ha rfl), ?_⟩
    | refine ⟨_, fun tm ha => step1_min rfl (ev_tmp ha rfl) (ev_tmp ha rfl), ?_⟩
    | (refine ⟨fun _ => ?_, fun _ => ?_⟩ <;> first | (exfalso; omega) | skip)
    | fail
  refine (rank_spec hB hBase hu).mono ?_
  rintro r H1 ⟨rfl, k1⟩
  have hB1 := Nat.le_trans hB k1.1
  have hu1 : Ints H1 u xs := Row.keep hu k1
  have hv1 : Row H1 v (ls.map VS) := Row.keep hv k1
  by_cases hc : check xs = 0
  · rw [rankR, if_pos hc, pairV]
    have hr := rank_lt hc
    have e0 : ttE ls xs = if 5 < xs.length then 8 else ctE ls xs.length := by rw [ttE, if_neg (by omega)]
    repeat' first
      | refine CO.cons rfl ?_
      | refine CO.nil ?_
      | refine CV.seq ?_
      | refine CV.region callees ?_
      | refine CV.cond ?_
      | refine CV.block ?_
      | refine CV.skip ?_
      | refine CV.exit ?_
      | refine CV.ret ?_
      | refine CV.scope ?_
      | refine CV.draw callees rfl ?_
      | refine CH.cons rfl ?_
      | refine CH.nil ?_
      | refine CO.consG rfl ?_
      | refine CH.consG rfl ?_
      | refine CG.cons rfl ?_
      | refine CG.nil ?_
      | refine CG.consG rfl ?_
      | refine ⟨(rfl : plain _ = true), ?_⟩
      | refine ⟨(rfl : nilOk _ = some _), ?_⟩
      | refine ⟨_, ints_len (by assumption), ?_⟩
      | refine ⟨_, ints_addr (by assumption) (by omega) (by omega), ?_⟩
      | refine ⟨_, ints_load (by assumption) (by omega) (by omega), ?_⟩
      | refine ⟨(⟨by omega, by omega⟩ : inI64 _), ?_⟩
      | refine ⟨_, fun tm ha => step1_max rfl (ev_tmp ha rfl) (ev_tmp ha rfl), ?_⟩
      | refine ⟨_, fun tm ha => step1_min rfl (ev_tmp ha rfl) (ev_tmp ha rfl), ?_⟩
      | (refine ⟨fun _ => ?_, fun _ => ?_⟩ <;> first | (exfalso; omega) | skip)
      | fail
    · have e : ttE ls xs = 8 := by rw [e0, if_pos (by omega)]
      exact ⟨rfl, by rw [ttL, e]; rfl, k1⟩
    have e1 : ttE ls xs = ctE ls xs.length := by rw [e0, if_neg (by omega)]
    refine (checkTitles_spec hB1 (base_keep hBase k1) hv1 hls hn).mono ?_
    rintro r H2 ⟨rfl, k2⟩
    have hv2 : Row H2 v (ls.map VS) := Row.keep hv1 k2
    repeat' first
      | refine CO.cons rfl ?_
      | refine CO.nil ?_
      | refine CV.seq ?_
      | refine CV.region callees ?_
      | refine CV.cond ?_
      | refine CV.block ?_
      | refine CV.skip ?_
      | refine CV.exit ?_
      | refine CV.ret ?_
      | refine CV.scope ?_
      | refine CV.draw callees rfl ?_
      | refine CH.cons rfl ?_
      | refine CH.nil ?_
      | refine CO.consG rfl ?_
      | refine CH.consG rfl ?_
      | refine CG.cons rfl ?_
      | refine CG.nil ?_
      | refine CG.consG rfl ?_
      | refine ⟨(rfl : plain _ = true), ?_⟩
      | refine ⟨(rfl : nilOk _ = some _), ?_⟩
      | refine ⟨_, ints_len (by assumption), ?_⟩
      | refine ⟨_, ints_addr (by assumption) (by omega) (by omega), ?_⟩
      | refine ⟨_, ints_load (by assumption) (by omega) (by omega), ?_⟩
      | refine ⟨(⟨by omega, by omega⟩ : inI64 _), ?_⟩
      | refine ⟨_, fun tm ha => step1_max rfl (ev_tmp ha rfl) (ev_tmp ha rfl), ?_⟩
      | refine ⟨_, fun tm ha => step1_min rfl (ev_tmp ha rfl) (ev_tmp ha rfl), ?_⟩
      | (refine ⟨fun _ => ?_, fun _ => ?_⟩ <;> first | (exfalso; omega) | skip)
      | fail
    · rename_i h1
      exact ⟨rfl, by rw [ttL, e1, if_neg h1]; rfl, k1.trans k2⟩
    · have h1 : ctE ls xs.length = 0 := Classical.not_not.1 (by assumption)
      have hlen := ctE_len h1
      repeat' first
        | refine CO.cons rfl ?_
        | refine CO.nil ?_
        | refine CV.seq ?_
        | refine CV.region callees ?_
        | refine CV.cond ?_
        | refine CV.block ?_
        | refine CV.skip ?_
        | refine CV.exit ?_
        | refine CV.ret ?_
        | refine CV.scope ?_
        | refine CV.draw callees rfl ?_
        | refine CH.cons rfl ?_
        | refine CH.nil ?_
        | refine CO.consG rfl ?_
        | refine CH.consG rfl ?_
        | refine CG.cons rfl ?_
        | refine CG.nil ?_
        | refine CG.consG rfl ?_
        | refine ⟨(rfl : plain _ = true), ?_⟩
        | refine ⟨(rfl : nilOk _ = some _), ?_⟩
        | refine ⟨_, ints_len (by assumption), ?_⟩
        | refine ⟨_, ints_addr (by assumption) (by omega) (by omega), ?_⟩
        | refine ⟨_, ints_load (by assumption) (by omega) (by omega), ?_⟩
        | refine ⟨(⟨by omega, by omega⟩ : inI64 _), ?_⟩
        | refine ⟨_, fun tm ha => step1_max rfl (ev_tmp ha rfl) (ev_tmp ha rfl), ?_⟩
        | refine ⟨_, fun tm ha => step1_min rfl (ev_tmp ha rfl) (ev_tmp ha rfl), ?_⟩
        | refine ⟨_, strs_addr hv2 (by omega) (by omega), ?_⟩
        | refine ⟨_, strs_load hv2 (by omega) (by omega), ?_⟩
        | (refine ⟨fun _ => ?_, fun _ => ?_⟩ <;> first | (exfalso; omega) | skip)
        | fail
      exact ⟨rfl, by rw [ttL, e1, h1]; rfl, k1.trans k2⟩
  · rw [rankR, if_neg hc, pairV]
    repeat' first
      | refine CO.cons rfl ?_
      | refine CO.nil ?_
      | refine CV.seq ?_
      | refine CV.region callees ?_
      | refine CV.cond ?_
      | refine CV.block ?_
      | refine CV.skip ?_
      | refine CV.exit ?_
      | refine CV.ret ?_
      | refine CV.scope ?_
      | refine CV.draw callees rfl ?_
      | refine CH.cons rfl ?_
      | refine CH.nil ?_
      | refine CO.consG rfl ?_
      | refine CH.consG rfl ?_
      | refine CG.cons rfl ?_
      | refine CG.nil ?_
      | refine CG.consG rfl ?_
      | refine ⟨(rfl : plain _ = true), ?_⟩
      | refine ⟨(rfl : nilOk _ = some _), ?_⟩
      | refine ⟨_, ints_len (by assumption), ?_⟩
      | refine ⟨_, ints_addr (by assumption) (by omega) (by omega), ?_⟩
      | refine ⟨_, ints_load (by assumption) (by omega) (by omega), ?_⟩
      | refine ⟨(⟨by omega, by omega⟩ : inI64 _), ?_⟩
      | refine ⟨_, fun tm ha => step1_max rfl (ev_tmp ha rfl) (ev_tmp ha rfl), ?_⟩
      | refine ⟨_, fun tm ha => step1_min rfl (ev_tmp ha rfl) (ev_tmp ha rfl), ?_⟩
      | (refine ⟨fun _ => ?_, fun _ => ?_⟩ <;> first | (exfalso; omega) | skip)
      | fail
    exact ⟨rfl, by rw [ttL, ttE, if_pos hc, if_neg hc]; rfl, k1⟩
end Go.Proofs.YtkfaiokiaahbaaaDoor


/- Partitions handed out in order; the partition that has a title. -/
namespace Go.Proofs.YtkfaiokiaahbaaaDoor
open Go.AI
theorem nx_un : ∀ n : Nat, n < 6 → ∀ k : Nat, k < 52 → (k : Int) < (cntR n).1 → unE n k = 0 ∧ check (unL n k) = 0 ∧ (unL n k).length = n ∧ nxO (unL n k) = (if (k : Int) + 1 < (cntR n).1 then some (unL n (k + 1)) else none) := by decide +kernel
theorem un_first : ∀ n : Nat, n < 6 → 0 < n → unL n 0 = List.replicate n 0 ∧ 0 < (cntR n).1 ∧ (cntR n).1 ≤ 52 ∧ (cntR n).2 = 0 := by decide +kernel
set_option maxRecDepth 100000 in
theorem inOrder_spec {B : Nat} {H : Heap} {n : Int} (hB : B ≤ H.n) :
    CallB Tryd.prog B 106 [.int .i64 n] H (fun r H' => r = .func (.func 121) #[] #[.pointer (some ⟨H.n, 0, none⟩)] ∧ H' = H.new (.cells [.int .i64 n] 3 1)) := by
  refine CV.enter callees false rfl Tryd.func106 rfl ok106 (Nat.le_of_ble_eq_true rfl) hB ?_
  repeat' first
    | refine CO.cons rfl ?_
    | refine CO.nil ?_
    | refine CV.seq ?_
    | refine CV.region callees ?_
    | refine CV.cond ?_
    | refine CV.block ?_
    | refine CV.skip ?_
    | refine CV.exit ?_
    | refine CV.ret ?_
    | refine CV.scope ?_
    | refine CV.draw callees rfl ?_
    | refine CH.cons rfl ?_
    | refine CH.nil ?_
    | refine CO.consG rfl ?_
    | refine CH.consG rfl ?_
    | refine CG.cons rfl ?_
    | refine CG.nil ?_
    | refine CG.consG rfl ?_
    | refine ⟨(rfl : plain _ = true), ?_⟩
    | refine ⟨(rfl : nilOk _ = some _), ?_⟩
    | refine ⟨_, ints_len (by assumption), ?_⟩
    | refine ⟨_, ints_addr (by assumption) (by omega) (by omega), ?_⟩
    | refine ⟨_, ints_load (by assumption) (by omega) (by omega), ?_⟩
    | refine ⟨(⟨by omega, by omega⟩ : inI64 _), ?_⟩
    | refine ⟨_, fun tm ha => step1_max rfl (ev_tmp ha rfl) (ev_tmp ha rfl), ?_⟩
    | refine ⟨_, fun tm ha => step1_min rfl (ev_tmp ha rfl) (ev_tmp ha rfl), ?_⟩
    | refine ⟨(rfl : notTuple (Value.int _ _) = true), ?_⟩
    | refine ⟨(rfl : List.all _ cellLike = true), ?_⟩
    | (refine ⟨fun _ => ?_, fun _ => ?_⟩ <;> first | (exfalso; omega) | skip)
    | fail
  exact ⟨rfl, rfl, rfl⟩
set_option maxHeartbeats 1000000 in
set_option maxRecDepth 100000 in
theorem inOrder1_spec {B l bn n : Nat} {H : Heap} (J : Nat → Heap → Prop) (D : Heap → Prop) (hB : B ≤ H.n) (hl : l < H.n) (hbn : bn ≤ l) (h1 : 0 < n) (h5 : n < 6) (hg : H.get bn = some (.cells [.int .i64 n] 3 1)) (hJ0 : J 0 H)
    (hJs : ∀ (k : Nat) H H', J k H → KeepTo l H H' → J k H')
    (hY : ∀ (k : Nat) v H1, (k : Int) < (cntR n).1 → J k H1 → l < H1.n → B ≤ H1.n → Ints H1 v (unL n k) → (∀ c, blkOf v = some c → l < c) →
      RoundB Tryd.prog B l [.int .i64 (k : Int), v] H1 (fun r H2 => (r = .bool true ∧ J (k + 1) H2 ∨ r = .bool false ∧ D H2) ∧ KeepOver l H1 H2)) :
    CallB Tryd.prog B 121 [.func (.yield l) #[] #[], .pointer (some ⟨bn, 0, none⟩)] H (fun _ H' => J (cntR n).1.toNat H' ∨ D H') := by
  obtain ⟨hu0, hc0, hc1, _⟩ := un_first n h5 h1
  have hld : aload Tryd.prog 3 H (.pointer (some ⟨bn, 0, none⟩)) = some (.int .i64 n) := by simp [aload, hg, ag3]
  refine CV.enter callees false rfl Tryd.func121 rfl ok121 (Nat.le_of_ble_eq_true rfl) hB ?_
  repeat' first
    | refine CO.cons rfl ?_
    | refine CO.nil ?_
    | refine CV.seq ?_
    | refine CV.region callees ?_
    | refine CV.cond ?_
    | refine CV.block ?_
    | refine CV.skip ?_
    | refine CV.exit ?_
    | refine CV.ret ?_
    | refine CV.scope ?_
    | refine CV.draw callees rfl ?_
    | refine CH.cons rfl ?_
    | refine CH.nil ?_
    | refine CO.consG rfl ?_
    | refine CH.consG rfl ?_
    | refine CG.cons rfl ?_
    | refine CG.nil ?_
    | refine CG.consG rfl ?_
    | refine ⟨(rfl : plain _ = true), ?_⟩
    | refine ⟨(rfl : nilOk _ = some _), ?_⟩
    | refine ⟨_, ints_len (by assumption), ?_⟩
    | refine ⟨_, ints_addr (by assumption) (by omega) (by omega), ?_⟩
    | refine ⟨_, ints_load (by assumption) (by omega) (by omega), ?_⟩
    | refine ⟨(⟨by omega, by omega⟩ : inI64 _), ?_⟩
    | refine ⟨_, fun tm ha => step1_max rfl (ev_tmp ha rfl) (ev_tmp ha rfl), ?_⟩
    | refine ⟨_, fun tm ha => step1_min rfl (ev_tmp ha rfl) (ev_tmp ha rfl), ?_⟩
    | refine ⟨_, hld, ?_⟩
    | (refine ⟨fun _ => ?_, fun _ => ?_⟩ <;> first | (exfalso; omega) | skip)
    | fail
  refine ⟨_, _, make_row un22 one3 (by omega) n (by omega), ?_⟩
  have hown : Own 3 (H.new (.cells (List.replicate n (VI 0)) 3 2)) (.slice (some ⟨H.n, 0, none⟩) n 0) ((List.replicate n (0 : Int)).map VI) H.n :=
    .inr ⟨H.n, by simp, Nat.le_refl _, Nat.lt_succ_self _, by rw [Heap.get_new_eq]; simp⟩
  have k1 : Keep H (H.new (.cells (List.replicate n (VI 0)) 3 2)) := Keep.new _ _
  generalize hH2 : H.new (.cells (List.replicate n (VI 0)) 3 2) = H2 at hown k1
  generalize hw : Value.slice (some ⟨H.n, 0, none⟩) n 0 = w at hown
  have hwi : Ints H2 w (List.replicate n 0) := hown.row
  repeat' first
    | refine CO.cons rfl ?_
    | refine CO.nil ?_
    | refine CV.seq ?_
    | refine CV.region callees ?_
    | refine CV.cond ?_
    | refine CV.block ?_
    | refine CV.skip ?_
    | refine CV.exit ?_
    | refine CV.ret ?_
    | refine CV.scope ?_
    | refine CV.draw callees rfl ?_
    | refine CH.cons rfl ?_
    | refine CH.nil ?_
    | refine CO.consG rfl ?_
    | refine CH.consG rfl ?_
    | refine CG.cons rfl ?_
    | refine CG.nil ?_
    | refine CG.consG rfl ?_
    | refine ⟨(rfl : plain _ = true), ?_⟩
    | refine ⟨(rfl : nilOk _ = some _), ?_⟩
    | refine ⟨_, ints_len (by assumption), ?_⟩
    | refine ⟨_, ints_addr (by assumption) (by omega) (by omega), ?_⟩
    | refine ⟨_, ints_load (by assumption) (by omega) (by omega), ?_⟩
    | refine ⟨(⟨by omega, by omega⟩ : inI64 _), ?_⟩
    | refine ⟨_, fun tm ha => step1_max rfl (ev_tmp ha rfl) (ev_tmp ha rfl), ?_⟩
    | refine ⟨_, fun tm ha => step1_min rfl (ev_tmp ha rfl) (ev_tmp ha rfl), ?_⟩
    | (refine ⟨fun _ => ?_, fun _ => ?_⟩ <;> first | (exfalso; omega) | skip)
    | fail
  refine CV.loopc ?_
  refine WCv.rounds callees false (α := Nat × Value × Bool) (fun (k, v, f) => [(0, .func (.yield l) #[] #[]), (3, v), (4, .bool f), (5, .int .i64 k)]) (fun (k, v, f) Hz => f = decide ((k : Int) < (cntR n).1) ∧ (k : Int) ≤ (cntR n).1 ∧ J k Hz ∧ l < Hz.n ∧ ((k : Int) < (cntR n).1 → Ints Hz v (unL n k)) ∧ ∀ c, blkOf v = some c → l < c) (fun (k, v, f) => (cntR n).1.toNat - k) (0, w, true) (by repeat' first | exact trivial | refine ⟨rfl, ?_⟩ | refine ⟨slot_int (by (try simp only [Int.toNat_natCast]); omega), ?_⟩) ?_ ?_
  · exact ⟨by rw [decide_eq_true (by omega)], by omega, hJs 0 H H2 hJ0 (k1.to hl), Nat.lt_of_lt_of_le hl k1.1, fun _ => by rw [show ((0 : Nat) : Int) = 0 from rfl, hu0]; exact hwi, fun c hc => Nat.lt_of_lt_of_le hl (hown.lt hc).1⟩
  rintro ⟨k, v, f⟩ Hx ⟨hf, hk, hJ, hlx, hv, hvl⟩ hBx
  by_cases hk2 : (k : Int) < (cntR n).1
  · rw [decide_eq_true hk2] at hf
    subst hf
    obtain ⟨_, hch, hlen, hnx⟩ := nx_un n h5 k (by omega) hk2
    have hvi := hv hk2
    repeat' first
      | refine CO.cons rfl ?_
      | refine CO.nil ?_
      | refine CV.seq ?_
      | refine CV.region callees ?_
      | refine CV.cond ?_
      | refine CV.block ?_
      | refine CV.skip ?_
      | refine CV.exit ?_
      | refine CV.ret ?_
      | refine CV.scope ?_
      | refine CV.draw callees rfl ?_
      | refine CH.cons rfl ?_
      | refine CH.nil ?_
      | refine CO.consG rfl ?_
      | refine CH.consG rfl ?_
      | refine CG.cons rfl ?_
      | refine CG.nil ?_
      | refine CG.consG rfl ?_
      | refine ⟨(rfl : plain _ = true), ?_⟩
      | refine ⟨(rfl : nilOk _ = some _), ?_⟩
      | refine ⟨_, ints_len (by assumption), ?_⟩
      | refine ⟨_, ints_addr (by assumption) (by omega) (by omega), ?_⟩
      | refine ⟨_, ints_load (by assumption) (by omega) (by omega), ?_⟩
      | refine ⟨(⟨by omega, by omega⟩ : inI64 _), ?_⟩
      | refine ⟨_, fun tm ha => step1_max rfl (ev_tmp ha rfl) (ev_tmp ha rfl), ?_⟩
      | refine ⟨_, fun tm ha => step1_min rfl (ev_tmp ha rfl) (ev_tmp ha rfl), ?_⟩
      | (refine ⟨fun _ => ?_, fun _ => ?_⟩ <;> first | (exfalso; omega) | skip)
      | fail
    refine (hY k v Hx hk2 hJ hlx hBx hvi hvl).mono ?_
    rintro r H3 ⟨(⟨rfl, hJ3⟩ | ⟨rfl, hD⟩), ko⟩
    · have hv3 : Ints H3 v (unL n k) := Row.over hvi ko (by rintro c ⟨i, m, z, rfl⟩; exact hvl c rfl)
      repeat' first
        | refine CO.cons rfl ?_
        | refine CO.nil ?_
        | refine CV.seq ?_
        | refine CV.region callees ?_
        | refine CV.cond ?_
        | refine CV.block ?_
        | refine CV.skip ?_
        | refine CV.exit ?_
        | refine CV.ret ?_
        | refine CV.scope ?_
        | refine CV.draw callees rfl ?_
        | refine CH.cons rfl ?_
        | refine CH.nil ?_
        | refine CO.consG rfl ?_
        | refine CH.consG rfl ?_
        | refine CG.cons rfl ?_
        | refine CG.nil ?_
        | refine CG.consG rfl ?_
        | refine ⟨(rfl : plain _ = true), ?_⟩
        | refine ⟨(rfl : nilOk _ = some _), ?_⟩
        | refine ⟨_, ints_len (by assumption), ?_⟩
        | refine ⟨_, ints_addr (by assumption) (by omega) (by omega), ?_⟩
        | refine ⟨_, ints_load (by assumption) (by omega) (by omega), ?_⟩
        | refine ⟨(⟨by omega, by omega⟩ : inI64 _), ?_⟩
        | refine ⟨_, fun tm ha => step1_max rfl (ev_tmp ha rfl) (ev_tmp ha rfl), ?_⟩
        | refine ⟨_, fun tm ha => step1_min rfl (ev_tmp ha rfl) (ev_tmp ha rfl), ?_⟩
        | (refine ⟨fun _ => ?_, fun _ => ?_⟩ <;> first | (exfalso; omega) | skip)
        | fail
      refine (following_spec (Nat.le_trans hBx ko.le) hv3 (fun i hi => check_bound hch hi) (by omega) (by omega)).mono ?_
      rintro r H4 ⟨⟨u, rfl, hu, hub⟩, k4⟩
      have hl3 : l < H3.n := Nat.lt_of_lt_of_le hlx ko.le
      have e : (nxO (unL n k)).isSome = decide (((k + 1 : Nat) : Int) < (cntR n).1) := by
        rw [hnx]
        by_cases h : (k : Int) + 1 < (cntR n).1
        · rw [if_pos h, decide_eq_true (by omega)]; rfl
        · rw [if_neg h, decide_eq_false (by omega)]; rfl
      repeat' first
        | refine CO.cons rfl ?_
        | refine CO.nil ?_
        | refine CV.seq ?_
        | refine CV.region callees ?_
        | refine CV.cond ?_
        | refine CV.block ?_
        | refine CV.skip ?_
        | refine CV.exit ?_
        | refine CV.ret ?_
        | refine CV.scope ?_
        | refine CV.draw callees rfl ?_
        | refine CH.cons rfl ?_
        | refine CH.nil ?_
        | refine CO.consG rfl ?_
        | refine CH.consG rfl ?_
        | refine CG.cons rfl ?_
        | refine CG.nil ?_
        | refine CG.consG rfl ?_
        | refine ⟨(rfl : plain _ = true), ?_⟩
        | refine ⟨(rfl : nilOk _ = some _), ?_⟩
        | refine ⟨_, ints_len (by assumption), ?_⟩
        | refine ⟨_, ints_addr (by assumption) (by omega) (by omega), ?_⟩
        | refine ⟨_, ints_load (by assumption) (by omega) (by omega), ?_⟩
        | refine ⟨(⟨by omega, by omega⟩ : inI64 _), ?_⟩
        | refine ⟨_, fun tm ha => step1_max rfl (ev_tmp ha rfl) (ev_tmp ha rfl), ?_⟩
        | refine ⟨_, fun tm ha => step1_min rfl (ev_tmp ha rfl) (ev_tmp ha rfl), ?_⟩
        | (refine ⟨fun _ => ?_, fun _ => ?_⟩ <;> first | (exfalso; omega) | skip)
        | fail
      refine ⟨(k + 1, u, (nxO (unL n k)).isSome), (by repeat' first | exact trivial | refine ⟨rfl, ?_⟩ | refine ⟨slot_int (by (try simp only [Int.toNat_natCast]); omega), ?_⟩), (by (try dsimp only); omega), ?_⟩
      refine ⟨e, by omega, hJs _ _ _ hJ3 (k4.to hl3), Nat.lt_of_lt_of_le hl3 k4.1, fun h => ?_, fun c hc => Nat.lt_of_lt_of_le hl3 (hub c hc)⟩
      rw [hnx, if_pos (by omega)] at hu
      exact hu
    · repeat' first
        | refine CO.cons rfl ?_
        | refine CO.nil ?_
        | refine CV.seq ?_
        | refine CV.region callees ?_
        | refine CV.cond ?_
        | refine CV.block ?_
        | refine CV.skip ?_
        | refine CV.exit ?_
        | refine CV.ret ?_
        | refine CV.scope ?_
        | refine CV.draw callees rfl ?_
        | refine CH.cons rfl ?_
        | refine CH.nil ?_
        | refine CO.consG rfl ?_
        | refine CH.consG rfl ?_
        | refine CG.cons rfl ?_
        | refine CG.nil ?_
        | refine CG.consG rfl ?_
        | refine ⟨(rfl : plain _ = true), ?_⟩
        | refine ⟨(rfl : nilOk _ = some _), ?_⟩
        | refine ⟨_, ints_len (by assumption), ?_⟩
        | refine ⟨_, ints_addr (by assumption) (by omega) (by omega), ?_⟩
        | refine ⟨_, ints_load (by assumption) (by omega) (by omega), ?_⟩
        | refine ⟨(⟨by omega, by omega⟩ : inI64 _), ?_⟩
        | refine ⟨_, fun tm ha => step1_max rfl (ev_tmp ha rfl) (ev_tmp ha rfl), ?_⟩
        | refine ⟨_, fun tm ha => step1_min rfl (ev_tmp ha rfl) (ev_tmp ha rfl), ?_⟩
        | (refine ⟨fun _ => ?_, fun _ => ?_⟩ <;> first | (exfalso; omega) | skip)
        | fail
      exact ⟨rfl, .inr hD⟩
  · rw [decide_eq_false hk2] at hf
    subst hf
    have : (cntR n).1.toNat = k := by omega
    rw [this] at *
    repeat' first
      | refine CO.cons rfl ?_
      | refine CO.nil ?_
      | refine CV.seq ?_
      | refine CV.region callees ?_
      | refine CV.cond ?_
      | refine CV.block ?_
      | refine CV.skip ?_
      | refine CV.exit ?_
      | refine CV.ret ?_
      | refine CV.scope ?_
      | refine CV.draw callees rfl ?_
      | refine CH.cons rfl ?_
      | refine CH.nil ?_
      | refine CO.consG rfl ?_
      | refine CH.consG rfl ?_
      | refine CG.cons rfl ?_
      | refine CG.nil ?_
      | refine CG.consG rfl ?_
      | refine ⟨(rfl : plain _ = true), ?_⟩
      | refine ⟨(rfl : nilOk _ = some _), ?_⟩
      | refine ⟨_, ints_len (by assumption), ?_⟩
      | refine ⟨_, ints_addr (by assumption) (by omega) (by omega), ?_⟩
      | refine ⟨_, ints_load (by assumption) (by omega) (by omega), ?_⟩
      | refine ⟨(⟨by omega, by omega⟩ : inI64 _), ?_⟩
      | refine ⟨_, fun tm ha => step1_max rfl (ev_tmp ha rfl) (ev_tmp ha rfl), ?_⟩
      | refine ⟨_, fun tm ha => step1_min rfl (ev_tmp ha rfl) (ev_tmp ha rfl), ?_⟩
      | (refine ⟨fun _ => ?_, fun _ => ?_⟩ <;> first | (exfalso; omega) | skip)
      | fail
    exact ⟨rfl, .inl hJ⟩
def fdE (ls : List (List Int)) (n : Int) (t : List Int) : Int := if n < 1 ∨ 5 < n then 2 else if ctE ls n ≠ 0 then ctE ls n else if t ∈ ls then 0 else 7
def fdL (ls : List (List Int)) (n : Int) (t : List Int) : List Int := if fdE ls n t = 0 then unL n (ls.idxOf t) else []
end Go.Proofs.YtkfaiokiaahbaaaDoor


/- chart.Find. -/
namespace Go.Proofs.YtkfaiokiaahbaaaDoor
open Go.AI
theorem ok64 : codeOk Tryd.f64.ntmps (Tryd.f64.body.getD .skip) = true := by kernel_rfl
theorem sz32 : sizeB Tryd.prog 32 = some 1 := by kernel_rfl
theorem ag32 : isAggB Tryd.prog 32 = some false := by kernel_rfl
theorem ag50 : isAggB Tryd.prog 50 = some false := by kernel_rfl
theorem zero22 : zeroCells Tryd.prog 22 = some [.slice none 0 0] := by kernel_rfl
theorem zero32 : zeroCells Tryd.prog 32 = some [VI 0] := by kernel_rfl
/-- The two results of chart.Find, as variables. -/
theorem two_vars {H Hz : Heap} {u x y : Value} {e : Int} {m : Nat} (hx : Hz.get m = some (.cells [x] 22 1)) (hy : Hz.get (m + 1) = some (.cells [y] 32 1)) (hk : Keep H Hz) (hm : H.n ≤ m) (hu : oneC u = true) :
    ∃ H1 H2, astore Tryd.prog 22 Hz u (.pointer (some ⟨m, 0, none⟩)) = some (H1, m) ∧ astore Tryd.prog 32 H1 (VI e) (.pointer (some ⟨m + 1, 0, none⟩)) = some (H2, m + 1) ∧
      H2.get m = some (.cells [u] 22 1) ∧ H2.get (m + 1) = some (.cells [VI e] 32 1) ∧ Keep H H2 ∧ H2.n = Hz.n ∧ ∀ c, c ≠ m → c ≠ m + 1 → H2.get c = Hz.get c := by
  have hy1 : (Hz.set m (.cells [u] 22 1)).get (m + 1) = some (.cells [y] 32 1) := by rw [Heap.get_set_ne _ _ (by omega)]; exact hy
  refine ⟨_, _, var_store sz22 hx hu, var_store sz32 hy1 rfl, ?_, Heap.get_set_eq _ _ _, (hk.set _ hm).set _ (by omega), rfl, fun c h1 h2 => ?_⟩
  · rw [Heap.get_set_ne _ _ (by omega)]; exact Heap.get_set_eq _ _ _
  · rw [Heap.get_set_ne _ _ (Ne.symm h2), Heap.get_set_ne _ _ (Ne.symm h1)]
theorem row_slc {H : Heap} {v : Value} {vs : List Value} (h : Row H v vs) : ∃ a n c, v = .slice a n c := by
  rcases h with ⟨rfl, _⟩ | ⟨rfl, _⟩ | ⟨_, _, _, _, _, _, rfl, _⟩ <;> exact ⟨_, _, _, rfl⟩
/-- The variables of chart.Find. -/
theorem find_frame (H : Heap) (v s : Value) : ∃ Hd, (((H.new (.cells [v] 50 1)).new (.cells [s] 9 1)).new (.cells [.slice none 0 0] 22 1)).new (.cells [VI 0] 32 1) = Hd ∧ Hd.n = H.n + 4 ∧
    Hd.get H.n = some (.cells [v] 50 1) ∧ Hd.get (H.n + 1) = some (.cells [s] 9 1) ∧ Hd.get (H.n + 2) = some (.cells [.slice none 0 0] 22 1) ∧ Hd.get (H.n + 3) = some (.cells [VI 0] 32 1) ∧ Keep H Hd := by
  obtain ⟨Ha, ha⟩ : ∃ Ha, H.new (.cells [v] 50 1) = Ha := ⟨_, rfl⟩
  obtain ⟨Hb, hb⟩ : ∃ Hb, Ha.new (.cells [s] 9 1) = Hb := ⟨_, rfl⟩
  obtain ⟨Hc, hc⟩ : ∃ Hc, Hb.new (.cells [.slice none 0 0] 22 1) = Hc := ⟨_, rfl⟩
  obtain ⟨Hd, hd⟩ : ∃ Hd, Hc.new (.cells [VI 0] 32 1) = Hd := ⟨_, rfl⟩
  have na := new_n ha
  have nb := new_n hb
  have nc := new_n hc
  have nd := new_n hd
  have kb := new_keep hb
  have kc := new_keep hc
  have kd := new_keep hd
  refine ⟨Hd, by rw [ha, hb, hc, hd], by omega, ?_, ?_, ?_, ?_, (new_keep ha).trans (kb.trans (kc.trans kd))⟩
  · rw [kd.2 _ (by omega), kc.2 _ (by omega), kb.2 _ (by omega)]; exact new_get ha
  · rw [kd.2 _ (by omega), kc.2 _ (by omega), ← na]; exact new_get hb
  · rw [kd.2 _ (by omega), show H.n + 2 = Hb.n by omega]; exact new_get hc
  · rw [show H.n + 3 = Hc.n by omega]; exact new_get hd
set_option maxHeartbeats 4000000 in
set_option maxRecDepth 100000 in
theorem find_spec {B : Nat} {H : Heap} {v : Value} {ls : List (List Int)} {n : Int} {t : List Int} (hB : B ≤ H.n) (hBase : Base H) (hv : Row H v (ls.map VS)) (hls : Titles ls) (hln : ls.length < 1000000) (ht : Bytes t) :
    CallB Tryd.prog B 64 [v, .int .i64 n, VS t] H (fun r H' => (∃ u, r = .tuple #[u, .int .i64 (fdE ls n t)] ∧ Ints H' u (fdL ls n t) ∧ ∀ c, blkOf u = some c → H.n ≤ c) ∧ Keep H H') := by
  obtain ⟨va, vn, vc, rfl⟩ := row_slc hv
  obtain ⟨Hd, hHd, hdn, hd0, hd1, hd2, hd3, kd⟩ := find_frame H (.slice va vn vc) (VS t)
  have hA : sAlloc Tryd.prog (((H.new (.cells [.slice va vn vc] 50 1)).new (.cells [VS t] 9 1)).new (.cells [.slice none 0 0] 22 1)) 32 = some (.pointer (some ⟨H.n + 3, 0, none⟩), Hd, H.n + 3) := by
    rw [← hHd]; exact alloc_of zero32
  clear hHd
  refine CV.enter callees false rfl Tryd.func64 rfl ok64 (Nat.le_of_ble_eq_true rfl) hB ?_
  repeat' first
    | refine CO.cons rfl ?_
    | refine CO.nil ?_
    | refine CV.seq ?_
    | refine CV.region callees ?_
    | refine CV.cond ?_
    | refine CV.block ?_
    | refine CV.skip ?_
    | refine CV.exit ?_
    | refine CV.ret ?_
    | refine CV.scope ?_
    | refine CV.draw callees rfl ?_
    | refine CH.cons rfl ?_
    | refine CH.nil ?_
    | refine CO.consG rfl ?_
    | refine CH.consG rfl ?_
    | refine CG.cons rfl ?_
    | refine CG.nil ?_
    | refine CG.consG rfl ?_
    | refine ⟨(rfl : plain _ = true), ?_⟩
    | refine ⟨(rfl : nilOk _ = some _), ?_⟩
    | refine ⟨_, ints_len (by assumption), ?_⟩
    | refine ⟨_, ints_addr (by assumption) (by omega) (by omega), ?_⟩
    | refine ⟨_, ints_load (by assumption) (by omega) (by omega), ?_⟩
    | refine ⟨(⟨by omega, by omega⟩ : inI64 _), ?_⟩
    | refine ⟨_, fun tm ha => step1_max rfl (ev_tmp ha rfl) (ev_tmp ha rfl), ?_⟩
    | refine ⟨_, fun tm ha => step1_min rfl (ev_tmp ha rfl) (ev_tmp ha rfl), ?_⟩
    | refine ⟨(rfl : notTuple (.slice va vn vc) = true), ?_⟩
    | refine ⟨(rfl : notTuple (VS _) = true), ?_⟩
    | refine ⟨_, _, alloc_of zero22, ?_⟩
    | refine ⟨_, _, hA, ?_⟩
    | (refine ⟨fun _ => ?_, fun _ => ?_⟩ <;> first | (exfalso; omega) | skip)
    | fail
  · obtain ⟨H1, H2, a1, a2, a3, a4, a5, _, _⟩ := two_vars (u := .slice none 0 0) (e := 2) hd2 hd3 kd (by omega) rfl
    repeat' first
      | refine CO.cons rfl ?_
      | refine CO.nil ?_
      | refine CV.seq ?_
      | refine CV.region callees ?_
      | refine CV.cond ?_
      | refine CV.block ?_
      | refine CV.skip ?_
      | refine CV.exit ?_
      | refine CV.ret ?_
      | refine CV.scope ?_
      | refine CV.draw callees rfl ?_
      | refine CH.cons rfl ?_
      | refine CH.nil ?_
      | refine CO.consG rfl ?_
      | refine CH.consG rfl ?_
      | refine CG.cons rfl ?_
      | refine CG.nil ?_
      | refine CG.consG rfl ?_
      | refine ⟨(rfl : plain _ = true), ?_⟩
      | refine ⟨(rfl : nilOk _ = some _), ?_⟩
      | refine ⟨_, ints_len (by assumption), ?_⟩
      | refine ⟨_, ints_addr (by assumption) (by omega) (by omega), ?_⟩
      | refine ⟨_, ints_load (by assumption) (by omega) (by omega), ?_⟩
      | refine ⟨(⟨by omega, by omega⟩ : inI64 _), ?_⟩
      | refine ⟨_, fun tm ha => step1_max rfl (ev_tmp ha rfl) (ev_tmp ha rfl), ?_⟩
      | refine ⟨_, fun tm ha => step1_min rfl (ev_tmp ha rfl) (ev_tmp ha rfl), ?_⟩
      | refine ⟨_, _, a1, by omega, ?_⟩
      | refine ⟨_, _, a2, by omega, ?_⟩
      | refine ⟨_, var_load ag22 a3, ?_⟩
      | refine ⟨_, var_load ag32 a4, ?_⟩
      | (refine ⟨fun _ => ?_, fun _ => ?_⟩ <;> first | (exfalso; omega) | skip)
      | fail
    have e : fdE ls n t = 2 := by rw [fdE, if_pos (by omega)]
    exact ⟨rfl, ⟨_, by rw [e], .inl ⟨rfl, by rw [fdL, e]; rfl⟩, fun c hc => by cases hc⟩, a5⟩
  · obtain ⟨H1, H2, a1, a2, a3, a4, a5, _, _⟩ := two_vars (u := .slice none 0 0) (e := 2) hd2 hd3 kd (by omega) rfl
    repeat' first
      | refine CO.cons rfl ?_
      | refine CO.nil ?_
      | refine CV.seq ?_
      | refine CV.region callees ?_
      | refine CV.cond ?_
      | refine CV.block ?_
      | refine CV.skip ?_
      | refine CV.exit ?_
      | refine CV.ret ?_
      | refine CV.scope ?_
      | refine CV.draw callees rfl ?_
      | refine CH.cons rfl ?_
      | refine CH.nil ?_
      | refine CO.consG rfl ?_
      | refine CH.consG rfl ?_
      | refine CG.cons rfl ?_
      | refine CG.nil ?_
      | refine CG.consG rfl ?_
      | refine ⟨(rfl : plain _ = true), ?_⟩
      | refine ⟨(rfl : nilOk _ = some _), ?_⟩
      | refine ⟨_, ints_len (by assumption), ?_⟩
      | refine ⟨_, ints_addr (by assumption) (by omega) (by omega), ?_⟩
      | refine ⟨_, ints_load (by assumption) (by omega) (by omega), ?_⟩
      | refine ⟨(⟨by omega, by omega⟩ : inI64 _), ?_⟩
      | refine ⟨_, fun tm ha => step1_max rfl (ev_tmp ha rfl) (ev_tmp ha rfl), ?_⟩
      | refine ⟨_, fun tm ha => step1_min rfl (ev_tmp ha rfl) (ev_tmp ha rfl), ?_⟩
      | refine ⟨_, _, a1, by omega, ?_⟩
      | refine ⟨_, _, a2, by omega, ?_⟩
      | refine ⟨_, var_load ag22 a3, ?_⟩
      | refine ⟨_, var_load ag32 a4, ?_⟩
      | (refine ⟨fun _ => ?_, fun _ => ?_⟩ <;> first | (exfalso; omega) | skip)
      | fail
    have e : fdE ls n t = 2 := by rw [fdE, if_pos (by omega)]
    exact ⟨rfl, ⟨_, by rw [e], .inl ⟨rfl, by rw [fdL, e]; rfl⟩, fun c hc => by cases hc⟩, a5⟩
  have e0 : fdE ls n t = if ctE ls n ≠ 0 then ctE ls n else if t ∈ ls then 0 else 7 := by rw [fdE, if_neg (by omega)]
  repeat' first
    | refine CO.cons rfl ?_
    | refine CO.nil ?_
    | refine CV.seq ?_
    | refine CV.region callees ?_
    | refine CV.cond ?_
    | refine CV.block ?_
    | refine CV.skip ?_
    | refine CV.exit ?_
    | refine CV.ret ?_
    | refine CV.scope ?_
    | refine CV.draw callees rfl ?_
    | refine CH.cons rfl ?_
    | refine CH.nil ?_
    | refine CO.consG rfl ?_
    | refine CH.consG rfl ?_
    | refine CG.cons rfl ?_
    | refine CG.nil ?_
    | refine CG.consG rfl ?_
    | refine ⟨(rfl : plain _ = true), ?_⟩
    | refine ⟨(rfl : nilOk _ = some _), ?_⟩
    | refine ⟨_, ints_len (by assumption), ?_⟩
    | refine ⟨_, ints_addr (by assumption) (by omega) (by omega), ?_⟩
    | refine ⟨_, ints_load (by assumption) (by omega) (by omega), ?_⟩
    | refine ⟨(⟨by omega, by omega⟩ : inI64 _), ?_⟩
    | refine ⟨_, fun tm ha => step1_max rfl (ev_tmp ha rfl) (ev_tmp ha rfl), ?_⟩
    | refine ⟨_, fun tm ha => step1_min rfl (ev_tmp ha rfl) (ev_tmp ha rfl), ?_⟩
    | refine ⟨_, var_load ag50 hd0, ?_⟩
    | (refine ⟨fun _ => ?_, fun _ => ?_⟩ <;> first | (exfalso; omega) | skip)
    | fail
  have hvd : Row Hd (.slice va vn vc) (ls.map VS) := hv.keep kd
  refine (checkTitles_spec (Nat.le_trans hB kd.1) (base_keep hBase kd) hvd hls hln).mono ?_
  rintro r He ⟨rfl, ke⟩
  have he0 := (ke.2 H.n (by omega)).trans hd0
  have he1 := (ke.2 (H.n + 1) (by omega)).trans hd1
  have he2 := (ke.2 (H.n + 2) (by omega)).trans hd2
  have he3 := (ke.2 (H.n + 3) (by omega)).trans hd3
  have hen : H.n + 4 ≤ He.n := by have := ke.1; omega
  have kE : Keep H He := kd.trans ke
  repeat' first
    | refine CO.cons rfl ?_
    | refine CO.nil ?_
    | refine CV.seq ?_
    | refine CV.region callees ?_
    | refine CV.cond ?_
    | refine CV.block ?_
    | refine CV.skip ?_
    | refine CV.exit ?_
    | refine CV.ret ?_
    | refine CV.scope ?_
    | refine CV.draw callees rfl ?_
    | refine CH.cons rfl ?_
    | refine CH.nil ?_
    | refine CO.consG rfl ?_
    | refine CH.consG rfl ?_
    | refine CG.cons rfl ?_
    | refine CG.nil ?_
    | refine CG.consG rfl ?_
    | refine ⟨(rfl : plain _ = true), ?_⟩
    | refine ⟨(rfl : nilOk _ = some _), ?_⟩
    | refine ⟨_, ints_len (by assumption), ?_⟩
    | refine ⟨_, ints_addr (by assumption) (by omega) (by omega), ?_⟩
    | refine ⟨_, ints_load (by assumption) (by omega) (by omega), ?_⟩
    | refine ⟨(⟨by omega, by omega⟩ : inI64 _), ?_⟩
    | refine ⟨_, fun tm ha => step1_max rfl (ev_tmp ha rfl) (ev_tmp ha rfl), ?_⟩
    | refine ⟨_, fun tm ha => step1_min rfl (ev_tmp ha rfl) (ev_tmp ha rfl), ?_⟩
    | (refine ⟨fun _ => ?_, fun _ => ?_⟩ <;> first | (exfalso; omega) | skip)
    | fail
  · rename_i h1
    obtain ⟨H1, H2, a1, a2, a3, a4, a5, _, _⟩ := two_vars (u := .slice none 0 0) (e := ctE ls n) he2 he3 kE (by omega) rfl
    repeat' first
      | refine CO.cons rfl ?_
      | refine CO.nil ?_
      | refine CV.seq ?_
      | refine CV.region callees ?_
      | refine CV.cond ?_
      | refine CV.block ?_
      | refine CV.skip ?_
      | refine CV.exit ?_
      | refine CV.ret ?_
      | refine CV.scope ?_
      | refine CV.draw callees rfl ?_
      | refine CH.cons rfl ?_
      | refine CH.nil ?_
      | refine CO.consG rfl ?_
      | refine CH.consG rfl ?_
      | refine CG.cons rfl ?_
      | refine CG.nil ?_
      | refine CG.consG rfl ?_
      | refine ⟨(rfl : plain _ = true), ?_⟩
      | refine ⟨(rfl : nilOk _ = some _), ?_⟩
      | refine ⟨_, ints_len (by assumption), ?_⟩
      | refine ⟨_, ints_addr (by assumption) (by omega) (by omega), ?_⟩
      | refine ⟨_, ints_load (by assumption) (by omega) (by omega), ?_⟩
      | refine ⟨(⟨by omega, by omega⟩ : inI64 _), ?_⟩
      | refine ⟨_, fun tm ha => step1_max rfl (ev_tmp ha rfl) (ev_tmp ha rfl), ?_⟩
      | refine ⟨_, fun tm ha => step1_min rfl (ev_tmp ha rfl) (ev_tmp ha rfl), ?_⟩
      | refine ⟨_, _, a1, by omega, ?_⟩
      | refine ⟨_, _, a2, by omega, ?_⟩
      | refine ⟨_, var_load ag22 a3, ?_⟩
      | refine ⟨_, var_load ag32 a4, ?_⟩
      | (refine ⟨fun _ => ?_, fun _ => ?_⟩ <;> first | (exfalso; omega) | skip)
      | fail
    have e : fdE ls n t = ctE ls n := by rw [e0, if_pos h1]
    exact ⟨rfl, ⟨_, by rw [e], .inl ⟨rfl, by rw [fdL, e, if_neg h1]; rfl⟩, fun c hc => by cases hc⟩, a5⟩
  have hct : ctE ls n = 0 := Classical.not_not.1 (by assumption)
  have hlen := ctE_len hct
  rw [if_neg (by omega)] at e0
  refine (inOrder_spec (Nat.le_trans hB kE.1)).mono ?_
  rintro r Hf ⟨rfl, hf⟩
  obtain ⟨m, rfl⟩ : ∃ m : Nat, n = m := ⟨n.toNat, by omega⟩
  have hfn := new_n hf.symm
  have kf := new_keep hf.symm
  have hfb := new_get hf.symm
  have kF : Keep H Hf := kE.trans kf
  repeat' first
    | refine CO.cons rfl ?_
    | refine CO.nil ?_
    | refine CV.seq ?_
    | refine CV.region callees ?_
    | refine CV.cond ?_
    | refine CV.block ?_
    | refine CV.skip ?_
    | refine CV.exit ?_
    | refine CV.ret ?_
    | refine CV.scope ?_
    | refine CV.draw callees rfl ?_
    | refine CH.cons rfl ?_
    | refine CH.nil ?_
    | refine CO.consG rfl ?_
    | refine CH.consG rfl ?_
    | refine CG.cons rfl ?_
    | refine CG.nil ?_
    | refine CG.consG rfl ?_
    | refine ⟨(rfl : plain _ = true), ?_⟩
    | refine ⟨(rfl : nilOk _ = some _), ?_⟩
    | refine ⟨_, ints_len (by assumption), ?_⟩
    | refine ⟨_, ints_addr (by assumption) (by omega) (by omega), ?_⟩
    | refine ⟨_, ints_load (by assumption) (by omega) (by omega), ?_⟩
    | refine ⟨(⟨by omega, by omega⟩ : inI64 _), ?_⟩
    | refine ⟨_, fun tm ha => step1_max rfl (ev_tmp ha rfl) (ev_tmp ha rfl), ?_⟩
    | refine ⟨_, fun tm ha => step1_min rfl (ev_tmp ha rfl) (ev_tmp ha rfl), ?_⟩
    | (refine ⟨fun _ => ?_, fun _ => ?_⟩ <;> first | (exfalso; omega) | skip)
    | fail
  refine CV.rangeFunc callees ?_
  refine fun tm ha => ?_
  generalize hs : Heap.new _ _ = Hs
  have hsn := new_n hs
  have ksf := new_keep hs
  have hsl := new_get hs
  have hs0 : Hs.get H.n = some (.cells [.slice va vn vc] 50 1) := (ksf.2 _ (by omega)).trans ((kf.2 _ (by omega)).trans he0)
  have hs1 : Hs.get (H.n + 1) = some (.cells [VS t] 9 1) := (ksf.2 _ (by omega)).trans ((kf.2 _ (by omega)).trans he1)
  have hs2 : Hs.get (H.n + 2) = some (.cells [.slice none 0 0] 22 1) := (ksf.2 _ (by omega)).trans ((kf.2 _ (by omega)).trans he2)
  have hs3 : Hs.get (H.n + 3) = some (.cells [VI 0] 32 1) := (ksf.2 _ (by omega)).trans ((kf.2 _ (by omega)).trans he3)
  have hsb : Hs.get He.n = some (.cells [.int .i64 m] 3 1) := (ksf.2 _ (by omega)).trans hfb
  have kS : Keep H Hs := kF.trans ksf
  refine (inOrder1_spec (l := Hf.n) (n := m) (fun k Hx => KeepTo Hf.n Hs Hx ∧ t ∉ ls.take k) (fun Hx => ∃ (k : Nat) (u : Value), (k : Int) < (cntR m).1 ∧ ls[k]! = t ∧ t ∉ ls.take k ∧ (∃ tm' ps x y, Hx.get Hf.n = some (.loop .done (some .ret) tm' ps x y)) ∧ Hx.get (H.n + 2) = some (.cells [u] 22 1) ∧ Hx.get (H.n + 3) = some (.cells [VI 0] 32 1) ∧ Ints Hx u (unL m k) ∧ (∀ c, blkOf u = some c → Hf.n < c) ∧ Keep H Hx) (by omega) (by omega) (by omega) (by omega) (by omega) hsb ⟨KeepTo.refl _ _, by simp⟩ (fun k X Y h k' => ⟨h.1.trans k', h.2⟩) ?_).mono ?_
  · intro k w H1 hk hJ hl1 hB1 hw hwl
    refine RoundB.enter callees false ((hJ.1.get _ (Nat.le_refl _)).trans hsl) ha rfl hB1 (by omega) ?_
    have hk2 : k < ls.length := by omega
    obtain ⟨y, hy⟩ : ∃ y, ls[k]! = y := ⟨_, rfl⟩
    have hby : Bytes y := hy ▸ (hls.at hk2).1
    obtain ⟨ho1, ho2, ho3⟩ := Row.oneC hw
    have g0 := (hJ.1.get H.n (by omega)).trans hs0
    have g1 := (hJ.1.get (H.n + 1) (by omega)).trans hs1
    have g2 := (hJ.1.get (H.n + 2) (by omega)).trans hs2
    have g3 := (hJ.1.get (H.n + 3) (by omega)).trans hs3
    have kH : Keep H H1 := ⟨by omega, fun b hb => (hJ.1.get b (by omega)).trans (kS.2 b hb)⟩
    have hv1 : Row H1 (.slice va vn vc) (ls.map VS) := hv.keep kH
    repeat' first
      | refine CO.cons rfl ?_
      | refine CO.nil ?_
      | refine CV.seq ?_
      | refine CV.region callees ?_
      | refine CV.cond ?_
      | refine CV.block ?_
      | refine CV.skip ?_
      | refine CV.exit ?_
      | refine CV.ret ?_
      | refine CV.scope ?_
      | refine CV.draw callees rfl ?_
      | refine CH.cons rfl ?_
      | refine CH.nil ?_
      | refine CO.consG rfl ?_
      | refine CH.consG rfl ?_
      | refine CG.cons rfl ?_
      | refine CG.nil ?_
      | refine CG.consG rfl ?_
      | refine ⟨(rfl : plain _ = true), ?_⟩
      | refine ⟨(rfl : nilOk _ = some _), ?_⟩
      | refine ⟨_, ints_len (by assumption), ?_⟩
      | refine ⟨_, ints_addr (by assumption) (by omega) (by omega), ?_⟩
      | refine ⟨_, ints_load (by assumption) (by omega) (by omega), ?_⟩
      | refine ⟨(⟨by omega, by omega⟩ : inI64 _), ?_⟩
      | refine ⟨_, fun tm ha => step1_max rfl (ev_tmp ha rfl) (ev_tmp ha rfl), ?_⟩
      | refine ⟨_, fun tm ha => step1_min rfl (ev_tmp ha rfl) (ev_tmp ha rfl), ?_⟩
      | (refine ⟨fun _ => ?_, fun _ => ?_⟩ <;> first | (exfalso; omega) | skip)
      | fail
    refine ⟨_, _, _, _, _, (hJ.1.get _ (Nat.le_refl _)).trans hsl, ?_⟩
    have hl0 := (hJ.1.get _ (Nat.le_refl _)).trans hsl
    generalize hHb : H1.set Hf.n _ = Hb
    have bn := set_n hHb
    have bl := set_old hHb
    have bs := set_get hHb
    have b0 := (bl H.n (by omega)).trans g0
    have b1 := (bl (H.n + 1) (by omega)).trans g1
    have b2 := (bl (H.n + 2) (by omega)).trans g2
    have b3 := (bl (H.n + 3) (by omega)).trans g3
    have kB : Keep H Hb := ⟨by omega, fun b hb => (bl b (by omega)).trans (kH.2 b hb)⟩
    have hvb : Row Hb (.slice va vn vc) (ls.map VS) := hv.keep kB
    have hld : aload Tryd.prog 9 Hb (elemAt (.slice va vn vc) (k : Int).toNat) = some (VS y) := by rw [← hy]; exact strs_load hvb (by omega) (by omega)
    by_cases he : y = t
    · repeat' first
        | refine CO.cons rfl ?_
        | refine CO.nil ?_
        | refine CV.seq ?_
        | refine CV.region callees ?_
        | refine CV.cond ?_
        | refine CV.block ?_
        | refine CV.skip ?_
        | refine CV.exit ?_
        | refine CV.ret ?_
        | refine CV.scope ?_
        | refine CV.draw callees rfl ?_
        | refine CH.cons rfl ?_
        | refine CH.nil ?_
        | refine CO.consG rfl ?_
        | refine CH.consG rfl ?_
        | refine CG.cons rfl ?_
        | refine CG.nil ?_
        | refine CG.consG rfl ?_
        | refine ⟨(rfl : plain _ = true), ?_⟩
        | refine ⟨(rfl : nilOk _ = some _), ?_⟩
        | refine ⟨_, ints_len (by assumption), ?_⟩
        | refine ⟨_, ints_addr (by assumption) (by omega) (by omega), ?_⟩
        | refine ⟨_, ints_load (by assumption) (by omega) (by omega), ?_⟩
        | refine ⟨(⟨by omega, by omega⟩ : inI64 _), ?_⟩
        | refine ⟨_, fun tm ha => step1_max rfl (ev_tmp ha rfl) (ev_tmp ha rfl), ?_⟩
        | refine ⟨_, fun tm ha => step1_min rfl (ev_tmp ha rfl) (ev_tmp ha rfl), ?_⟩
        | refine ⟨_, var_load ag50 b0, ?_⟩
        | refine ⟨_, strs_addr hvb (by omega) (by omega), ?_⟩
        | refine ⟨_, hld, ?_⟩
        | refine ⟨_, var_load ag9 b1, ?_⟩
        | refine ⟨_, fun tm ha => eqS_t rfl (ev_tmp ha rfl) (ev_tmp ha rfl) he, ?_⟩
        | (refine ⟨fun _ => ?_, fun _ => ?_⟩ <;> first | (exfalso; omega) | skip)
        | fail
      obtain ⟨X1, X2, a1, a2, a3, a4, a5, a6, a7⟩ := two_vars (u := w) (e := 0) b2 b3 kB (by omega) ho1
      repeat' first
        | refine CO.cons rfl ?_
        | refine CO.nil ?_
        | refine CV.seq ?_
        | refine CV.region callees ?_
        | refine CV.cond ?_
        | refine CV.block ?_
        | refine CV.skip ?_
        | refine CV.exit ?_
        | refine CV.ret ?_
        | refine CV.scope ?_
        | refine CV.draw callees rfl ?_
        | refine CH.cons rfl ?_
        | refine CH.nil ?_
        | refine CO.consG rfl ?_
        | refine CH.consG rfl ?_
        | refine CG.cons rfl ?_
        | refine CG.nil ?_
        | refine CG.consG rfl ?_
        | refine ⟨(rfl : plain _ = true), ?_⟩
        | refine ⟨(rfl : nilOk _ = some _), ?_⟩
        | refine ⟨_, ints_len (by assumption), ?_⟩
        | refine ⟨_, ints_addr (by assumption) (by omega) (by omega), ?_⟩
        | refine ⟨_, ints_load (by assumption) (by omega) (by omega), ?_⟩
        | refine ⟨(⟨by omega, by omega⟩ : inI64 _), ?_⟩
        | refine ⟨_, fun tm ha => step1_max rfl (ev_tmp ha rfl) (ev_tmp ha rfl), ?_⟩
        | refine ⟨_, fun tm ha => step1_min rfl (ev_tmp ha rfl) (ev_tmp ha rfl), ?_⟩
        | refine ⟨_, _, a1, by omega, ?_⟩
        | refine ⟨_, _, a2, by omega, ?_⟩
        | (refine ⟨fun _ => ?_, fun _ => ?_⟩ <;> first | (exfalso; omega) | skip)
        | fail
      refine ⟨_, _, _, _, _, _, _, (a7 _ (by omega) (by omega)).trans bs, rfl, .inr ⟨rfl, k, w, hk, hy.trans he, hJ.2, ⟨_, _, _, _, Heap.get_set_eq _ _ _⟩, ?_, ?_, ?_, hwl, a5.set _ (by omega)⟩, ?_, ?_⟩
      · rw [Heap.get_set_ne _ _ (by omega)]; exact a3
      · rw [Heap.get_set_ne _ _ (by omega)]; exact a4
      · refine Row.over (l := Hf.n) hw ⟨by show H1.n ≤ X2.n; omega, fun b hb hb2 => ?_⟩ (by rintro c ⟨i, q, z, rfl⟩; exact hwl c rfl)
        rw [Heap.get_set_ne _ _ (by omega), a7 _ (by omega) (by omega), bl _ (by omega)]
      · show H1.n ≤ X2.n; omega
      · intro b hb hb2
        rw [Heap.get_set_ne _ _ (by omega), a7 _ (by omega) (by omega), bl _ (by omega)]
    · repeat' first
        | refine CO.cons rfl ?_
        | refine CO.nil ?_
        | refine CV.seq ?_
        | refine CV.region callees ?_
        | refine CV.cond ?_
        | refine CV.block ?_
        | refine CV.skip ?_
        | refine CV.exit ?_
        | refine CV.ret ?_
        | refine CV.scope ?_
        | refine CV.draw callees rfl ?_
        | refine CH.cons rfl ?_
        | refine CH.nil ?_
        | refine CO.consG rfl ?_
        | refine CH.consG rfl ?_
        | refine CG.cons rfl ?_
        | refine CG.nil ?_
        | refine CG.consG rfl ?_
        | refine ⟨(rfl : plain _ = true), ?_⟩
        | refine ⟨(rfl : nilOk _ = some _), ?_⟩
        | refine ⟨_, ints_len (by assumption), ?_⟩
        | refine ⟨_, ints_addr (by assumption) (by omega) (by omega), ?_⟩
        | refine ⟨_, ints_load (by assumption) (by omega) (by omega), ?_⟩
        | refine ⟨(⟨by omega, by omega⟩ : inI64 _), ?_⟩
        | refine ⟨_, fun tm ha => step1_max rfl (ev_tmp ha rfl) (ev_tmp ha rfl), ?_⟩
        | refine ⟨_, fun tm ha => step1_min rfl (ev_tmp ha rfl) (ev_tmp ha rfl), ?_⟩
        | refine ⟨_, var_load ag50 b0, ?_⟩
        | refine ⟨_, strs_addr hvb (by omega) (by omega), ?_⟩
        | refine ⟨_, hld, ?_⟩
        | refine ⟨_, var_load ag9 b1, ?_⟩
        | refine ⟨_, fun tm ha => eqS_f rfl (ev_tmp ha rfl) (ev_tmp ha rfl) hby ht he, ?_⟩
        | (refine ⟨fun _ => ?_, fun _ => ?_⟩ <;> first | (exfalso; omega) | skip)
        | fail
      refine ⟨_, _, _, _, _, _, _, bs, rfl, .inl ⟨rfl, ⟨?_, ?_⟩, ?_⟩, ?_, ?_⟩
      · show Hs.n ≤ Hb.n; have := hJ.1.le; omega
      · intro b hb
        by_cases hbl : b = Hf.n
        · subst hbl; rw [Heap.get_set_eq]; exact hsl.symm
        · rw [Heap.get_set_ne _ _ (Ne.symm hbl), bl _ hbl]; exact hJ.1.get b hb
      · rw [List.take_add_one, List.getElem?_eq_getElem hk2, ← getElem!_pos ls k hk2, hy]
        simp [hJ.2, Ne.symm he]
      · show H1.n ≤ Hb.n; omega
      · intro b hb hb2
        rw [Heap.get_set_ne _ _ (by omega), bl _ (by omega)]
  · rintro _ Hz (⟨hK, hno⟩ | ⟨k, u, hk, hkt, hno, ⟨tm', ps, x, y, hgl⟩, g2, g3, hu, hub, kz⟩)
    · have hall : t ∉ ls := by rwa [List.take_of_length_le (by omega)] at hno
      refine ⟨_, _, _, _, _, _, _, (hK.get _ (Nat.le_refl _)).trans hsl, rfl, rfl, ?_⟩
      have kZ : Keep H Hz := ⟨by have := hK.le; omega, fun b hb => (hK.get b (by omega)).trans (kS.2 b hb)⟩
      generalize hHb : Hz.set Hf.n _ = Hb
      have bn := set_n hHb
      have bl := set_old hHb
      have b2 := (bl (H.n + 2) (by omega)).trans ((hK.get _ (by omega)).trans hs2)
      have b3 := (bl (H.n + 3) (by omega)).trans ((hK.get _ (by omega)).trans hs3)
      have kB : Keep H Hb := ⟨by have := kZ.1; omega, fun b hb => (bl b (by omega)).trans (kZ.2 b hb)⟩
      obtain ⟨H1, H2, a1, a2, a3, a4, a5, _, _⟩ := two_vars (u := .slice none 0 0) (e := 7) b2 b3 kB (by omega) rfl
      repeat' first
        | refine CO.cons rfl ?_
        | refine CO.nil ?_
        | refine CV.seq ?_
        | refine CV.region callees ?_
        | refine CV.cond ?_
        | refine CV.block ?_
        | refine CV.skip ?_
        | refine CV.exit ?_
        | refine CV.ret ?_
        | refine CV.scope ?_
        | refine CV.draw callees rfl ?_
        | refine CH.cons rfl ?_
        | refine CH.nil ?_
        | refine CO.consG rfl ?_
        | refine CH.consG rfl ?_
        | refine CG.cons rfl ?_
        | refine CG.nil ?_
        | refine CG.consG rfl ?_
        | refine ⟨(rfl : plain _ = true), ?_⟩
        | refine ⟨(rfl : nilOk _ = some _), ?_⟩
        | refine ⟨_, ints_len (by assumption), ?_⟩
        | refine ⟨_, ints_addr (by assumption) (by omega) (by omega), ?_⟩
        | refine ⟨_, ints_load (by assumption) (by omega) (by omega), ?_⟩
        | refine ⟨(⟨by omega, by omega⟩ : inI64 _), ?_⟩
        | refine ⟨_, fun tm ha => step1_max rfl (ev_tmp ha rfl) (ev_tmp ha rfl), ?_⟩
        | refine ⟨_, fun tm ha => step1_min rfl (ev_tmp ha rfl) (ev_tmp ha rfl), ?_⟩
        | refine ⟨_, _, a1, by omega, ?_⟩
        | refine ⟨_, _, a2, by omega, ?_⟩
        | refine ⟨_, var_load ag22 a3, ?_⟩
        | refine ⟨_, var_load ag32 a4, ?_⟩
        | (refine ⟨fun _ => ?_, fun _ => ?_⟩ <;> first | (exfalso; omega) | skip)
        | fail
      have e : fdE ls m t = 7 := by rw [e0, if_neg hall]
      exact ⟨rfl, ⟨_, by rw [e], .inl ⟨rfl, by rw [fdL, e]; rfl⟩, fun c hc => by cases hc⟩, a5⟩
    · have hkl : k < ls.length := by omega
      have hin : t ∈ ls := by rw [← hkt, getElem!_pos ls k hkl]; exact List.getElem_mem hkl
      have hidx : ls.idxOf t = k := by
        have hdd : ls.drop k = t :: ls.drop (k + 1) := by rw [List.drop_eq_getElem_cons hkl, ← hkt, getElem!_pos ls k hkl]
        have hd : ls = ls.take k ++ ls.drop k := (List.take_append_drop k ls).symm
        rw [hd, List.idxOf_append, if_neg hno, hdd, List.idxOf_cons_self, List.length_take]; omega
      have e : fdE ls m t = 0 := by rw [e0, if_pos hin]
      obtain ⟨ho1, ho2, ho3⟩ := Row.oneC hu
      refine ⟨_, _, _, _, _, _, _, hgl, rfl, rfl, ?_⟩
      have c2 : (Hz.set Hf.n (.loop .exhausted (some .ret) tm' ps x y)).get (H.n + 2) = some (.cells [u] 22 1) := by rw [Heap.get_set_ne _ _ (by omega)]; exact g2
      have c3 : (Hz.set Hf.n (.loop .exhausted (some .ret) tm' ps x y)).get (H.n + 3) = some (.cells [VI 0] 32 1) := by rw [Heap.get_set_ne _ _ (by omega)]; exact g3
      repeat' first
        | refine CO.cons rfl ?_
        | refine CO.nil ?_
        | refine CV.seq ?_
        | refine CV.region callees ?_
        | refine CV.cond ?_
        | refine CV.block ?_
        | refine CV.skip ?_
        | refine CV.exit ?_
        | refine CV.ret ?_
        | refine CV.scope ?_
        | refine CV.draw callees rfl ?_
        | refine CH.cons rfl ?_
        | refine CH.nil ?_
        | refine CO.consG rfl ?_
        | refine CH.consG rfl ?_
        | refine CG.cons rfl ?_
        | refine CG.nil ?_
        | refine CG.consG rfl ?_
        | refine ⟨(rfl : plain _ = true), ?_⟩
        | refine ⟨(rfl : nilOk _ = some _), ?_⟩
        | refine ⟨_, ints_len (by assumption), ?_⟩
        | refine ⟨_, ints_addr (by assumption) (by omega) (by omega), ?_⟩
        | refine ⟨_, ints_load (by assumption) (by omega) (by omega), ?_⟩
        | refine ⟨(⟨by omega, by omega⟩ : inI64 _), ?_⟩
        | refine ⟨_, fun tm ha => step1_max rfl (ev_tmp ha rfl) (ev_tmp ha rfl), ?_⟩
        | refine ⟨_, fun tm ha => step1_min rfl (ev_tmp ha rfl) (ev_tmp ha rfl), ?_⟩
        | refine ⟨_, var_load ag22 c2, ?_⟩
        | refine ⟨_, var_load ag32 c3, ?_⟩
        | (refine ⟨fun _ => ?_, fun _ => ?_⟩ <;> first | (exfalso; omega) | skip)
        | fail
      refine ⟨by simp only [List.all_cons, List.all_nil, ho2]; rfl, ⟨u, by rw [e], ?_, fun c hc => by have := hub c hc; omega⟩, kz.set _ (by omega)⟩
      rw [fdL, e, hidx]
      refine Row.over (l := Hf.n) hu ⟨Nat.le_refl _, fun b hb hb2 => Heap.get_set_ne _ _ (by omega)⟩ (by rintro c ⟨i, q, z, rfl⟩; exact hub c rfl)
end Go.Proofs.YtkfaiokiaahbaaaDoor


/- Titles that are made of numbers; ChartNamed: its function answers true. -/
namespace Go.Proofs.YtkfaiokiaahbaaaDoor
open Go.AI
def tOne (by' : Int) (i : Nat) : List Int := [97 + (i : Int).tdiv 26, 97 + (i : Int).tmod 26, 97 + ((i : Int) * by').tmod 26]
def tOf (by' : Int) (k : Nat) : List (List Int) := (List.range k).map (tOne by')
theorem tOf_snoc (by' : Int) (k : Nat) : tOf by' (k + 1) = tOf by' k ++ [tOne by' k] := by simp [tOf, List.range_succ]
theorem tOf_len (by' : Int) (k : Nat) : (tOf by' k).length = k := by simp [tOf]
theorem div26 {x : Int} (h : 0 ≤ x) : x.tdiv 26 = x / 26 ∧ x.tmod 26 = x % 26 := ⟨Int.tdiv_eq_ediv_of_nonneg h, Int.tmod_eq_emod_of_nonneg h⟩
theorem tOne_bytes {by' : Int} {i : Nat} (h0 : 0 ≤ by') (hi : i < 60) : ∀ x ∈ tOne by' i, 97 ≤ x ∧ x ≤ 122 := by
  have d := div26 (x := (i : Int)) (by omega)
  have e := div26 (x := (i : Int) * by') (Int.mul_nonneg (by omega) h0)
  intro x hx
  simp only [tOne, d.1, d.2, e.2, List.mem_cons, List.not_mem_nil, or_false] at hx
  rcases hx with rfl | rfl | rfl <;> omega
theorem tOne_inj {by' : Int} {i j : Nat} (h : tOne by' i = tOne by' j) : i = j := by
  have di := div26 (x := (i : Int)) (by omega)
  have dj := div26 (x := (j : Int)) (by omega)
  simp only [tOne, List.cons.injEq, di.1, di.2, dj.1, dj.2] at h
  omega
theorem isT_tOne {by' : Int} {i : Nat} (h0 : 0 ≤ by') (hi : i < 60) : isT (tOne by' i) = true := by
  have h := tOne_bytes h0 hi
  rw [isT, List.all_eq_true.2 (fun x hx => by have := h x hx; simp; omega)]
  rfl
theorem tOf_at {by' : Int} {k i : Nat} (hi : i < k) : (tOf by' k)[i]! = tOne by' i := by
  rw [getElem!_pos _ i (by rw [tOf_len]; exact hi)]; simp [tOf]
theorem tOf_titles {by' : Int} {k : Nat} (h0 : 0 ≤ by') (hk : k ≤ 60) : Titles (tOf by' k) := by
  intro l hl
  obtain ⟨i, hi, rfl⟩ := List.mem_map.1 hl
  have hi' := List.mem_range.1 hi
  exact ⟨fun x hx => by have := tOne_bytes h0 (by omega) x hx; omega, by simp [tOne]⟩
theorem ct_tOf {by' : Int} {k : Nat} (h0 : 0 ≤ by') (hk : k ≤ 60) : ∀ (m i : Nat), i + m = k → ctF (tOf by' k) m i = 0
  | 0, _, _ => rfl
  | m + 1, i, h => by
    have ha := tOf_at (by' := by') (k := k) (i := i) (by omega)
    rw [ctF, ha, isT_tOne h0 (by omega), if_neg (by simp), if_neg, ct_tOf h0 hk m (i + 1) (by omega)]
    intro hm
    obtain ⟨j, hj, he⟩ := List.getElem_of_mem hm
    rw [List.length_take, tOf_len] at hj
    rw [List.getElem_take] at he
    have hj2 := tOf_at (by' := by') (k := k) (i := j) (by omega)
    rw [getElem!_pos _ j (by rw [tOf_len]; omega), he] at hj2
    have := tOne_inj hj2
    omega
theorem ctE_tOf {by' : Int} {n : Nat} (h0 : 0 ≤ by') (h1 : 0 < n) (h5 : n < 6) : ctE (tOf by' (cntR n).1.toNat) n = 0 := by
  obtain ⟨_, h2, h3, h4⟩ := un_first n h5 h1
  rw [ctE, tOf_len, if_neg (by omega)]
  exact ct_tOf h0 (by omega) _ 0 (by omega)
set_option maxHeartbeats 2000000 in
set_option maxRecDepth 100000 in
theorem titlesOf_spec {B b n : Nat} {H : Heap} (hB : B ≤ b) (hn : B ≤ H.n) (hb : Box b H) (h1 : 0 < n) (h5 : n < 6) :
    CallB Tryd.prog B 56 [bp b, .int .i64 n] H (fun r H' => (∃ y, 0 ≤ y ∧ Own 9 H' r ((tOf y (cntR n).1.toNat).map VS) H.n) ∧ Box b H' ∧ KeepX b H H') := by
  obtain ⟨_, hc0, hc1, hc2⟩ := un_first n h5 h1
  refine CV.enter callees false rfl Tryd.func56 rfl ok56 (Nat.le_of_ble_eq_true rfl) hn ?_
  repeat' first
    | refine CO.cons rfl ?_
    | refine CO.nil ?_
    | refine CV.seq ?_
    | refine CV.region callees ?_
    | refine CV.cond ?_
    | refine CV.block ?_
    | refine CV.skip ?_
    | refine CV.exit ?_
    | refine CV.ret ?_
    | refine CV.scope ?_
    | refine CV.draw callees rfl ?_
    | refine CH.cons rfl ?_
    | refine CH.nil ?_
    | refine CO.consG rfl ?_
    | refine CH.consG rfl ?_
    | refine CG.cons rfl ?_
    | refine CG.nil ?_
    | refine CG.consG rfl ?_
    | refine ⟨(rfl : plain _ = true), ?_⟩
    | refine ⟨(rfl : nilOk _ = some _), ?_⟩
    | refine ⟨_, ints_len (by assumption), ?_⟩
    | refine ⟨_, ints_addr (by assumption) (by omega) (by omega), ?_⟩
    | refine ⟨_, ints_load (by assumption) (by omega) (by omega), ?_⟩
    | refine ⟨(⟨by omega, by omega⟩ : inI64 _), ?_⟩
    | refine ⟨_, fun tm ha => step1_max rfl (ev_tmp ha rfl) (ev_tmp ha rfl), ?_⟩
    | refine ⟨_, fun tm ha => step1_min rfl (ev_tmp ha rfl) (ev_tmp ha rfl), ?_⟩
    | (refine ⟨fun _ => ?_, fun _ => ?_⟩ <;> first | (exfalso; omega) | skip)
    | fail
  refine (refCount_spec hn).mono ?_
  rintro r H1 ⟨rfl, rfl⟩
  repeat' first
    | refine CO.cons rfl ?_
    | refine CO.nil ?_
    | refine CV.seq ?_
    | refine CV.region callees ?_
    | refine CV.cond ?_
    | refine CV.block ?_
    | refine CV.skip ?_
    | refine CV.exit ?_
    | refine CV.ret ?_
    | refine CV.scope ?_
    | refine CV.draw callees rfl ?_
    | refine CH.cons rfl ?_
    | refine CH.nil ?_
    | refine CO.consG rfl ?_
    | refine CH.consG rfl ?_
    | refine CG.cons rfl ?_
    | refine CG.nil ?_
    | refine CG.consG rfl ?_
    | refine ⟨(rfl : plain _ = true), ?_⟩
    | refine ⟨(rfl : nilOk _ = some _), ?_⟩
    | refine ⟨_, ints_len (by assumption), ?_⟩
    | refine ⟨_, ints_addr (by assumption) (by omega) (by omega), ?_⟩
    | refine ⟨_, ints_load (by assumption) (by omega) (by omega), ?_⟩
    | refine ⟨(⟨by omega, by omega⟩ : inI64 _), ?_⟩
    | refine ⟨_, fun tm ha => step1_max rfl (ev_tmp ha rfl) (ev_tmp ha rfl), ?_⟩
    | refine ⟨_, fun tm ha => step1_min rfl (ev_tmp ha rfl) (ev_tmp ha rfl), ?_⟩
    | (refine ⟨fun _ => ?_, fun _ => ?_⟩ <;> first | (exfalso; omega) | skip)
    | fail
  refine (any_spec hB hn hb (by omega) (by omega) (by omega)).mono ?_
  rintro r H2 ⟨⟨y, rfl, hy0, hy1⟩, hb2, k2⟩
  repeat' first
    | refine CO.cons rfl ?_
    | refine CO.nil ?_
    | refine CV.seq ?_
    | refine CV.region callees ?_
    | refine CV.cond ?_
    | refine CV.block ?_
    | refine CV.skip ?_
    | refine CV.exit ?_
    | refine CV.ret ?_
    | refine CV.scope ?_
    | refine CV.draw callees rfl ?_
    | refine CH.cons rfl ?_
    | refine CH.nil ?_
    | refine CO.consG rfl ?_
    | refine CH.consG rfl ?_
    | refine CG.cons rfl ?_
    | refine CG.nil ?_
    | refine CG.consG rfl ?_
    | refine ⟨(rfl : plain _ = true), ?_⟩
    | refine ⟨(rfl : nilOk _ = some _), ?_⟩
    | refine ⟨_, ints_len (by assumption), ?_⟩
    | refine ⟨_, ints_addr (by assumption) (by omega) (by omega), ?_⟩
    | refine ⟨_, ints_load (by assumption) (by omega) (by omega), ?_⟩
    | refine ⟨(⟨by omega, by omega⟩ : inI64 _), ?_⟩
    | refine ⟨_, fun tm ha => step1_max rfl (ev_tmp ha rfl) (ev_tmp ha rfl), ?_⟩
    | refine ⟨_, fun tm ha => step1_min rfl (ev_tmp ha rfl) (ev_tmp ha rfl), ?_⟩
    | (refine ⟨fun _ => ?_, fun _ => ?_⟩ <;> first | (exfalso; omega) | skip)
    | fail
  refine CV.loopc ?_
  refine WCv.rounds callees false (α := Nat × Value) (fun (i, o) => [(5, .int .i64 (cntR n).1), (7, .int .i64 y), (8, o), (9, .int .i64 i)]) (fun (i, o) Hz => (i : Int) ≤ (cntR n).1 ∧ Own 9 Hz o ((tOf y i).map VS) H1.n ∧ Box b Hz ∧ KeepX b H1 Hz) (fun (i, o) => (cntR n).1.toNat - i) (0, .slice none 0 0) (by repeat' first | exact trivial | refine ⟨rfl, ?_⟩ | refine ⟨slot_int (by (try simp only [Int.toNat_natCast]); omega), ?_⟩) ?_ ?_
  · exact ⟨by omega, .inl ⟨rfl, rfl⟩, hb2, k2⟩
  rintro ⟨i, o⟩ Hx ⟨hi, ho, hbx, kx⟩ hBx
  by_cases hi2 : (i : Int) < (cntR n).1
  · have hm : 0 ≤ (i : Int) * y ∧ (i : Int) * y ≤ 52 * 25 := ⟨Int.mul_nonneg (by omega) (by omega), Int.mul_le_mul (by omega) (by omega) (by omega) (by omega)⟩
    obtain ⟨p, hp⟩ : ∃ p, (i : Int) * y = p := ⟨_, rfl⟩
    rw [hp] at hm
    have d1 := div26 (x := (i : Int)) (by omega)
    have d2 := div26 (x := p) hm.1
    have e1 : 0 ≤ (i : Int).tdiv 26 ∧ (i : Int).tdiv 26 ≤ 2 := by rw [d1.1]; omega
    have e2 : 0 ≤ (i : Int).tmod 26 ∧ (i : Int).tmod 26 ≤ 25 := by rw [d1.2]; omega
    have e3 : 0 ≤ p.tmod 26 ∧ p.tmod 26 ≤ 25 := by rw [d2.2]; omega
    have eo : tOne y i = [97 + (i : Int).tdiv 26, 97 + (i : Int).tmod 26, 97 + p.tmod 26] := by rw [tOne, hp]
    obtain ⟨q1, hq1⟩ : ∃ q1, (i : Int).tdiv 26 = q1 := ⟨_, rfl⟩
    obtain ⟨q2, hq2⟩ : ∃ q2, (i : Int).tmod 26 = q2 := ⟨_, rfl⟩
    obtain ⟨q3, hq3⟩ : ∃ q3, p.tmod 26 = q3 := ⟨_, rfl⟩
    rw [hq1, hq2, hq3] at eo
    rw [hq1] at e1
    rw [hq2] at e2
    rw [hq3] at e3
    have hown : Own 5 (Hx.new (.cells [V8 (97 + q1), V8 (97 + q2), V8 (97 + q3)] 5 2)) (.slice (some ⟨Hx.n, 0, none⟩) 3 0) ([97 + q1, 97 + q2, 97 + q3].map V8) Hx.n :=
      .inr ⟨Hx.n, rfl, Nat.le_refl _, Nat.lt_succ_self _, Heap.get_new_eq _ _⟩
    have kn : Keep Hx (Hx.new (.cells [V8 (97 + q1), V8 (97 + q2), V8 (97 + q3)] 5 2)) := Keep.new _ _
    have w1 := wrap8 (n := 97 + q1) (by omega) (by omega)
    have w2 := wrap8 (n := 97 + q2) (by omega) (by omega)
    have w3 := wrap8 (n := 97 + q3) (by omega) (by omega)
    generalize hHy : Hx.new (.cells [V8 (97 + q1), V8 (97 + q2), V8 (97 + q3)] 5 2) = Hy at hown kn
    have hB3 : abuildSlice Tryd.prog Hx 93 3 [(0, V8 (97 + q1)), (1, V8 (97 + q2)), (2, V8 (97 + q3))] = some (.slice (some ⟨Hx.n, 0, none⟩) 3 0, Hy, Hx.n) := by
      rw [← hHy]; exact build_vals [V8 (97 + q1), V8 (97 + q2), V8 (97 + q3)] un93 one5 rfl (by simp)
    repeat' first
      | refine CO.cons rfl ?_
      | refine CO.nil ?_
      | refine CV.seq ?_
      | refine CV.region callees ?_
      | refine CV.cond ?_
      | refine CV.block ?_
      | refine CV.skip ?_
      | refine CV.exit ?_
      | refine CV.ret ?_
      | refine CV.scope ?_
      | refine CV.draw callees rfl ?_
      | refine CH.cons rfl ?_
      | refine CH.nil ?_
      | refine CO.consG rfl ?_
      | refine CH.consG rfl ?_
      | refine CG.cons rfl ?_
      | refine CG.nil ?_
      | refine CG.consG rfl ?_
      | refine ⟨(rfl : plain _ = true), ?_⟩
      | refine ⟨(rfl : nilOk _ = some _), ?_⟩
      | refine ⟨_, ints_len (by assumption), ?_⟩
      | refine ⟨_, ints_addr (by assumption) (by omega) (by omega), ?_⟩
      | refine ⟨_, ints_load (by assumption) (by omega) (by omega), ?_⟩
      | refine ⟨(⟨by omega, by omega⟩ : inI64 _), ?_⟩
      | refine ⟨_, fun tm ha => step1_max rfl (ev_tmp ha rfl) (ev_tmp ha rfl), ?_⟩
      | refine ⟨_, fun tm ha => step1_min rfl (ev_tmp ha rfl) (ev_tmp ha rfl), ?_⟩
      | refine ⟨_, fun tm ha => step1_rem rfl (ev_tmp ha rfl) rfl (by decide), ?_⟩
      | (rw [hp])
      | (rw [hq3])
      | refine ⟨_, fun tm ha => step1_quoI rfl (ev_tmp ha rfl) rfl (by decide) (by omega) (by omega), ?_⟩
      | (rw [hq1])
      | (rw [hq2])
      | refine ⟨_, fun tm ha => step1_conv un3 un5 rfl (ev_tmp ha rfl), ?_⟩
      | (rw [w1])
      | (rw [w2])
      | (rw [w3])
      | refine ⟨_, _, hB3, ?_⟩
      | refine ⟨_, fun tm ha => step1_convStr rfl (ev_tmp ha rfl) rfl (conv_str un93 un9 u8_5 hown), ?_⟩
      | refine ⟨_, _, build_one un50 one9 rfl, ?_⟩
      | (refine ⟨fun _ => ?_, fun _ => ?_⟩ <;> first | (exfalso; omega) | skip)
      | fail
    refine strs_ask (ho.keep kn) (by have := kx.1; have := kn.1; omega) hn (by rw [tOf_len]; omega) ?_
    intro o2 H4 ho2 kb4 hf4
    repeat' first
      | refine CO.cons rfl ?_
      | refine CO.nil ?_
      | refine CV.seq ?_
      | refine CV.region callees ?_
      | refine CV.cond ?_
      | refine CV.block ?_
      | refine CV.skip ?_
      | refine CV.exit ?_
      | refine CV.ret ?_
      | refine CV.scope ?_
      | refine CV.draw callees rfl ?_
      | refine CH.cons rfl ?_
      | refine CH.nil ?_
      | refine CO.consG rfl ?_
      | refine CH.consG rfl ?_
      | refine CG.cons rfl ?_
      | refine CG.nil ?_
      | refine CG.consG rfl ?_
      | refine ⟨(rfl : plain _ = true), ?_⟩
      | refine ⟨(rfl : nilOk _ = some _), ?_⟩
      | refine ⟨_, ints_len (by assumption), ?_⟩
      | refine ⟨_, ints_addr (by assumption) (by omega) (by omega), ?_⟩
      | refine ⟨_, ints_load (by assumption) (by omega) (by omega), ?_⟩
      | refine ⟨(⟨by omega, by omega⟩ : inI64 _), ?_⟩
      | refine ⟨_, fun tm ha => step1_max rfl (ev_tmp ha rfl) (ev_tmp ha rfl), ?_⟩
      | refine ⟨_, fun tm ha => step1_min rfl (ev_tmp ha rfl) (ev_tmp ha rfl), ?_⟩
      | (refine ⟨fun _ => ?_, fun _ => ?_⟩ <;> first | (exfalso; omega) | skip)
      | fail
    refine ⟨(i + 1, o2), (by repeat' first | exact trivial | refine ⟨rfl, ?_⟩ | refine ⟨slot_int (by (try simp only [Int.toNat_natCast]); omega), ?_⟩), (by (try dsimp only); omega), ?_⟩
    refine ⟨by omega, by rw [tOf_snoc, eo]; exact ho2, ?_, ?_⟩
    · exact (hbx.keep kn).keepBut kb4 (own_apartBox (H0 := H1) (ho.keep kn) hb.1)
    · exact kb4.keepX (kx.trans (kn.butX b)) fun c hc => ((ho.keep kn).lt hc).1
  · have : i = (cntR n).1.toNat := by omega
    subst this
    repeat' first
      | refine CO.cons rfl ?_
      | refine CO.nil ?_
      | refine CV.seq ?_
      | refine CV.region callees ?_
      | refine CV.cond ?_
      | refine CV.block ?_
      | refine CV.skip ?_
      | refine CV.exit ?_
      | refine CV.ret ?_
      | refine CV.scope ?_
      | refine CV.draw callees rfl ?_
      | refine CH.cons rfl ?_
      | refine CH.nil ?_
      | refine CO.consG rfl ?_
      | refine CH.consG rfl ?_
      | refine CG.cons rfl ?_
      | refine CG.nil ?_
      | refine CG.consG rfl ?_
      | refine ⟨(rfl : plain _ = true), ?_⟩
      | refine ⟨(rfl : nilOk _ = some _), ?_⟩
      | refine ⟨_, ints_len (by assumption), ?_⟩
      | refine ⟨_, ints_addr (by assumption) (by omega) (by omega), ?_⟩
      | refine ⟨_, ints_load (by assumption) (by omega) (by omega), ?_⟩
      | refine ⟨(⟨by omega, by omega⟩ : inI64 _), ?_⟩
      | refine ⟨_, fun tm ha => step1_max rfl (ev_tmp ha rfl) (ev_tmp ha rfl), ?_⟩
      | refine ⟨_, fun tm ha => step1_min rfl (ev_tmp ha rfl) (ev_tmp ha rfl), ?_⟩
      | (refine ⟨fun _ => ?_, fun _ => ?_⟩ <;> first | (exfalso; omega) | skip)
      | fail
    exact ⟨by simp only [List.all_cons, List.all_nil, ho.notTuple]; rfl, ⟨y, by omega, ho⟩, hbx, kx⟩
end Go.Proofs.YtkfaiokiaahbaaaDoor

