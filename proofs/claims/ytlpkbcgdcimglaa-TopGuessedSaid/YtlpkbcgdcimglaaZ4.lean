/- Several texts in one. -/
import Derived.Test.YtlpkbcgdcimglaaZ3
set_option linter.unusedVariables false
set_option linter.unusedSimpArgs false

/- Picked out of A1.tpl A2.tpl A3.tpl A4.tpl A7.tpl Ma.tpl B0.tpl B1.tpl B2.tpl B3.tpl B4.tpl B5.tpl B6.tpl B8.tpl D1.tpl D2.tpl D3.tpl. -/
namespace Go.Proofs.Ytlpkbcgdcimglaa
open Go.AI

def checkFrom : List Int → Int → Int
  | [], _ => 0
  | x :: r, b => if x < 0 ∨ 9 ≤ x then 2 else if b < x then 11 else checkFrom r (max b (x + 1))
def check (xs : List Int) : Int := if xs.length = 0 then 6 else if 9 < xs.length then 8 else checkFrom xs 0

set_option maxRecDepth 100000 in
theorem chartCheck_spec {B : Nat} {v : Value} {H : Heap} {xs : List Int} (hB : B ≤ H.n) (hv : Ints H v xs) :
    CallB Try.prog B 80 [v] H (fun r H' => r = .int .i64 (check xs) ∧ H' = H) := by
  refine vcF_spec callees (wr := false) rfl Try.func80 rfl ok80 (by simp [Try.ntmps80]) hB ?_
  refine ⟨_, ints_len hv, ?_⟩
  refine ⟨fun h1 => ?_, fun h1 => ?_⟩
  · refine ⟨rfl, ?_, rfl⟩
    have : xs.length = 0 := by simpa using h1
    simp [check, this]
  refine ⟨_, ints_len hv, ?_⟩
  refine ⟨fun h2 => ?_, fun h2 => ?_⟩
  · refine ⟨rfl, ?_, rfl⟩
    have h3 : ¬ xs.length = 0 := by omega
    have h4 : 9 < xs.length := by omega
    simp [check, h3, h4]
  refine ⟨_, ints_len hv, ?_⟩
  have h1' : ¬ xs.length = 0 := by omega
  have h2' : ¬ 9 < xs.length := by omega
  refine WCv.loop callees false (α := Int × Int) (fun a => [(12, v), (13, .int .i64 xs.length), (14, .int .i64 a.1), (3, .int .i64 a.2)]) 
    (fun a Hx => Hx = H ∧ 0 ≤ a.1 ∧ a.1 ≤ xs.length ∧ 0 ≤ a.2 ∧ a.2 ≤ 9 ∧ checkFrom (xs.drop a.1.toNat) a.2 = check xs) (fun a => xs.length - a.1.toNat) (0, 0) ?_ ?_ ?_
  · exact ⟨rfl, rfl, rfl, rfl, trivial⟩
  · exact ⟨rfl, by simp, by simp, by simp, by simp, by simp [check, h1', h2']⟩
  rintro ⟨i, b⟩ Hx ⟨hHx, hi0, hi1, hb0, hb1, hc⟩ _
  subst hHx
  simp only at hi0 hi1 hb0 hb1 hc
  refine ⟨fun h3 => ?_, fun h3 => ?_⟩
  · refine ⟨_, ints_addr hv hi0 h3, ?_⟩
    refine ⟨_, ints_load hv hi0 h3, ?_⟩
    rw [drop_cons (xs := xs) (n := i.toNat) (by omega)] at hc
    generalize xs[i.toNat]! = x at hc ⊢
    rw [checkFrom] at hc
    refine ⟨fun h4 => ?_, fun h4 => ?_⟩
    · refine ⟨rfl, ?_, rfl⟩
      rw [← hc, if_pos (.inl h4)]
    refine ⟨fun h5 => ?_, fun h5 => ?_⟩
    · refine ⟨rfl, ?_, rfl⟩
      rw [← hc, if_pos (.inr h5)]
    rw [if_neg (by omega)] at hc
    refine ⟨fun h6 => ?_, fun h6 => ?_⟩
    · refine ⟨rfl, ?_, rfl⟩
      rw [← hc, if_pos h6]
    rw [if_neg (by omega)] at hc
    refine ⟨⟨by omega, by omega⟩, ?_⟩
    refine ⟨_, fun tm ha => step1_max rfl (ev_tmp ha rfl) (ev_tmp ha rfl), ?_⟩
    refine ⟨⟨by omega, by omega⟩, ?_⟩
    refine ⟨(i + 1, max b (x + 1)), ⟨rfl, rfl, rfl, rfl, trivial⟩, by simp; omega, rfl, by simp; omega, by simp; omega, by simp; omega, by simp; omega, ?_⟩
    simp only
    rw [show (i + 1).toNat = i.toNat + 1 by omega]
    exact hc
  · refine ⟨rfl, ?_, rfl⟩
    rw [← hc, show xs.drop i.toNat = [] by simp; omega]
    rfl

end Go.Proofs.Ytlpkbcgdcimglaa

namespace Go.Proofs.Ytlpkbcgdcimglaa
open Go.AI

end Go.Proofs.Ytlpkbcgdcimglaa

namespace Go.Proofs.Ytlpkbcgdcimglaa
open Go.AI

end Go.Proofs.Ytlpkbcgdcimglaa

namespace Go.Proofs.Ytlpkbcgdcimglaa
open Go.AI

end Go.Proofs.Ytlpkbcgdcimglaa

namespace Go.Proofs.Ytlpkbcgdcimglaa
open Go.AI

end Go.Proofs.Ytlpkbcgdcimglaa

namespace Go.Proofs.Ytlpkbcgdcimglaa
open Go.AI

theorem check_from {xs : List Int} (h : check xs = 0) : checkFrom xs 0 = 0 ∧ 0 < xs.length ∧ xs.length ≤ 9 := by
  unfold check at h
  split at h
  · cases h
  · split at h
    · cases h
    · exact ⟨h, by omega, by omega⟩
end Go.Proofs.Ytlpkbcgdcimglaa

namespace Go.Proofs.Ytlpkbcgdcimglaa
open Go.AI

end Go.Proofs.Ytlpkbcgdcimglaa

namespace Go.Proofs.Ytlpkbcgdcimglaa
open Go.AI
end Go.Proofs.Ytlpkbcgdcimglaa

namespace Go.Proofs.Ytlpkbcgdcimglaa
open Go.AI

end Go.Proofs.Ytlpkbcgdcimglaa

namespace Go.Proofs.Ytlpkbcgdcimglaa
open Go.AI
end Go.Proofs.Ytlpkbcgdcimglaa

namespace Go.Proofs.Ytlpkbcgdcimglaa
open Go.AI
end Go.Proofs.Ytlpkbcgdcimglaa

namespace Go.Proofs.Ytlpkbcgdcimglaa
open Go.AI
end Go.Proofs.Ytlpkbcgdcimglaa

namespace Go.Proofs.Ytlpkbcgdcimglaa
open Go.AI
end Go.Proofs.Ytlpkbcgdcimglaa

namespace Go.Proofs.Ytlpkbcgdcimglaa
open Go.AI
theorem aindex_rows {P : Program} {t e : TypeId} {len s : Nat} (ht : P.underlying t = some (.array len e)) (hs : sizeB P e = some s) (ha : isAggB P e = some true) {l : List Value} {k : Int} {kd : IntKind} (h0 : 0 ≤ k) (h1 : k < len) :
    aindex P t (.agg l.toArray) (.int kd k) = some (.agg ((l.drop (k.toNat * s)).take s).toArray) := by
  simp [aindex, asIdx, ht, hs, h0, h1, apart', ha]
theorem aindex_cell {P : Program} {t e : TypeId} {len : Nat} (ht : P.underlying t = some (.array len e)) (hs : sizeB P e = some 1) (ha : isAggB P e = some false) {l : List Value} {k : Int} {kd : IntKind} {v : Value} (h0 : 0 ≤ k) (h1 : k < len) (hv : l[k.toNat]? = some v) :
    aindex P t (.agg l.toArray) (.int kd k) = some v := by
  simp [aindex, asIdx, ht, hs, h0, h1, apart', ha, hv]
theorem un79 : Try.prog.underlying 128 = some (.array 10 126) := by kernel_rfl
theorem un77 : Try.prog.underlying 126 = some (.array 10 3) := by kernel_rfl
theorem sz77 : sizeB Try.prog 126 = some 10 := by kernel_rfl
theorem ag77 : isAggB Try.prog 126 = some true := by kernel_rfl
theorem tab_row {l : List Int} {n : Int} (h0 : 0 ≤ n) (h1 : n < 10) : aindex Try.prog 128 (tabV l) (.int .i64 n) = some (.agg ((((l.map VI).drop (n.toNat * 10)).take 10).toArray)) :=
  aindex_rows un79 sz77 ag77 h0 (by omega)
theorem tab_cell {l : List Int} {n k : Int} (hl : l.length = 100) (h0 : 0 ≤ n) (h1 : n < 10) (h2 : 0 ≤ k) (h3 : k < 10) : aindex Try.prog 126 (.agg ((((l.map VI).drop (n.toNat * 10)).take 10).toArray)) (.int .i64 k) = some (.int .i64 l[n.toNat * 10 + k.toNat]!) := by
  have hlt : n.toNat * 10 + k.toNat < l.length := by omega
  refine aindex_cell un77 sz3 ag3 h2 (by omega) ?_
  rw [List.getElem?_take_of_lt (by omega), List.getElem?_drop, List.getElem?_map, List.getElem?_eq_getElem hlt, getElem!_pos l _ hlt]
  rfl
theorem endT_len : endT.length = 100 := by decide
def cntR (n : Int) : Int × Int := if n < 1 ∨ 9 < n then (0, 2) else (endT[n.toNat * 10]!, 0)
def pairV (p : Int × Int) : Value := .tuple #[.int .i64 p.1, .int .i64 p.2]

set_option maxRecDepth 100000 in
theorem count_spec {B : Nat} {H : Heap} {n : Int} (hn : B ≤ H.n) (hb : Base H) :
    CallB Try.prog B 61 [.int .i64 n] H (fun r H' => r = pairV (cntR n) ∧ H' = H) := by
  refine CV.enter callees false rfl Try.func61 rfl (by kernel_rfl) (Nat.le_of_ble_eq_true rfl) hn ?_
  repeat' first
    | refine CO.cons rfl ?_
    | refine CO.nil ?_
    | refine CV.seq ?_
    | refine CV.region callees ?_
    | refine CV.cond ?_
    | refine CV.block ?_
    | refine CV.skip ?_
    | refine CV.exit ?_
    | refine CV.ret ?_
    | refine CV.scope ?_
    | refine CV.draw callees (by decide +kernel) ?_
    | refine CH.cons rfl ?_
    | refine CH.nil ?_
    | refine CO.consG rfl ?_
    | refine CH.consG rfl ?_
    | refine CG.cons rfl ?_
    | refine CR.cons ?_
    | refine CR.nil ?_
    | refine CG.nil ?_
    | refine CG.consG rfl ?_
    | refine ⟨(rfl : plain _ = true), ?_⟩
    | refine ⟨(rfl : nilOk _ = some _), ?_⟩
    | refine ⟨_, ints_len (by assumption), ?_⟩
    | refine ⟨_, ints_addr (by assumption) (by omega) (by omega), ?_⟩
    | refine ⟨_, ints_load (by assumption) (by omega) (by omega), ?_⟩
    | refine ⟨(⟨by omega, by omega⟩ : inI64 _), ?_⟩
    | refine ⟨_, fun tm ha => step1_max rfl (ev_tmp ha rfl) (ev_tmp ha rfl), ?_⟩
    | refine ⟨_, fun tm ha => step1_min rfl (ev_tmp ha rfl) (ev_tmp ha rfl), ?_⟩
    | refine CallB.known rfl hb hn ?_
    | refine ⟨_, tab_row (by omega) (by omega), ?_⟩
    | refine ⟨_, tab_cell endT_len (by omega) (by omega) (by omega) (by omega), ?_⟩
    | (refine ⟨fun _ => ?_, fun _ => ?_⟩ <;> first | (exfalso; omega) | skip)
    | fail
  · exact ⟨rfl, by rw [cntR, if_pos (by omega)]; rfl, rfl⟩
  · exact ⟨rfl, by rw [cntR, if_pos (by omega)]; rfl, rfl⟩
  · exact ⟨rfl, by rw [cntR, if_neg (by omega)]; rfl, rfl⟩
end Go.Proofs.Ytlpkbcgdcimglaa

namespace Go.AI
end Go.AI
namespace Go.Proofs.Ytlpkbcgdcimglaa
open Go.AI
theorem zero79 : zeroCells Try.prog 128 = some (List.replicate 100 (VI 0)) := by kernel_rfl
theorem sz79 : sizeB Try.prog 128 = some 100 := by kernel_rfl
theorem alloc79 {H : Heap} : sAlloc Try.prog H 128 = some (.pointer (some ⟨H.n, 0, none⟩), H.new (.cells (List.replicate 100 (VI 0)) 128 1), H.n) := alloc_of zero79
theorem store79 {H : Heap} {b : Nat} {cs : List Value} {T : List Int} (hT : T.length = 100) (hb : H.get b = some (.cells cs 128 1)) (hl : cs.length = 100) :
    astore Try.prog 128 H (tabV T) (.pointer (some ⟨b, 0, none⟩)) = some (H.set b (.cells (T.map VI) 128 1), b) :=
  store_all (vs := T.map VI) hb (by rw [List.length_map, hl, hT]) (by rw [List.length_map, hT]; exact sz79) (by simp [oneC])
theorem tab_addr {b i : Nat} {n : Int} (h0 : 0 ≤ n) (h1 : n < 10) : aindexAddr Try.prog 128 (.pointer (some ⟨b, i, none⟩)) (.int .i64 n) = some (.pointer (some ⟨b, i + n.toNat * 10, none⟩)) := array_addr un79 sz77 h0 (by omega)
theorem row_addr {b i : Nat} {n : Int} (h0 : 0 ≤ n) (h1 : n < 10) : aindexAddr Try.prog 126 (.pointer (some ⟨b, i, none⟩)) (.int .i64 n) = some (.pointer (some ⟨b, i + n.toNat * 1, none⟩)) := array_addr un77 sz3 h0 (by omega)
theorem tab_load {H : Heap} {b : Nat} {T : List Int} {n k : Int} (hT : T.length = 100) (hb : H.get b = some (.cells (T.map VI) 128 1)) (h0 : 0 ≤ n) (h1 : n < 10) (h2 : 0 ≤ k) (h3 : k < 10) :
    aload Try.prog 3 H (.pointer (some ⟨b, 0 + n.toNat * 10 + k.toNat * 1, none⟩)) = some (.int .i64 T[n.toNat * 10 + k.toNat]!) := by
  have hlt : n.toNat * 10 + k.toNat < T.length := by omega
  simp only [aload, hb, ag3]
  rw [show 0 + n.toNat * 10 + k.toNat * 1 = n.toNat * 10 + k.toNat by omega, List.getElem?_map, List.getElem?_eq_getElem hlt, getElem!_pos T _ hlt]
  rfl

/-- How many ways there are to go on. -/
def behM : Nat → Int → Int
  | 0, _ => 1
  | n + 1, b => b * behM n b + behM n (b + 1)
theorem beh_in : ∀ n < 10, ∀ b < 10, n + b ≤ 9 → 1 ≤ behM n (b : Nat) ∧ behM n (b : Nat) ≤ 21147 ∧ endT[n * 10 + b]! = behM n (b : Nat) := by decide +kernel
theorem beh_at {n : Nat} {b : Int} (h0 : 0 ≤ b) (h1 : (n : Int) + b ≤ 9) : 1 ≤ behM n b ∧ behM n b ≤ 21147 ∧ endT[n * 10 + b.toNat]! = behM n b := by
  have := beh_in n (by omega) b.toNat (by omega) (by omega)
  rwa [show ((b.toNat : Nat) : Int) = b by omega] at this
/-- The rank, from a place on. -/
def rkF : List Int → Int → Int
  | [], _ => 0
  | x :: r, b => x * behM r.length b + rkF r (max b (x + 1))
def rankR (xs : List Int) : Int × Int := if check xs = 0 then (rkF xs 0, 0) else (0, check xs)
end Go.Proofs.Ytlpkbcgdcimglaa

namespace Go.Proofs.Ytlpkbcgdcimglaa
open Go.AI
/-- The partition that has a rank, from a place on. -/
def unM : Nat → Int → Int → List Int
  | 0, _, _ => []
  | m + 1, rest, b => min (rest.tdiv (behM m b)) b :: unM m (rest - min (rest.tdiv (behM m b)) b * behM m b) (max b (min (rest.tdiv (behM m b)) b + 1))
def unE (n rank : Int) : Int := if (cntR n).2 ≠ 0 then (cntR n).2 else if rank < 0 ∨ (cntR n).1 ≤ rank then 7 else 0
def unL (n rank : Int) : List Int := if unE n rank = 0 then unM n.toNat rank 0 else []
theorem un_step {rest e b : Int} (h0 : 0 ≤ rest) (h1 : rest ≤ 21147) (he : 1 ≤ e) (hb0 : 0 ≤ b) : 0 ≤ rest.tdiv e ∧ rest.tdiv e ≤ 21147 ∧ 0 ≤ min (rest.tdiv e) b ∧ min (rest.tdiv e) b ≤ b ∧ 0 ≤ min (rest.tdiv e) b * e ∧ min (rest.tdiv e) b * e ≤ rest := by
  have h2 : 0 ≤ rest.tdiv e := Int.tdiv_nonneg h0 (by omega)
  have h3 : rest.tdiv e * e ≤ rest := by
    rw [Int.tdiv_eq_ediv_of_nonneg h0]
    exact Int.ediv_mul_le rest (by omega)
  have h4 : rest.tdiv e ≤ rest := by
    rw [Int.tdiv_eq_ediv_of_nonneg h0]
    exact Int.ediv_le_self e h0
  have h5 : 0 ≤ min (rest.tdiv e) b := by omega
  exact ⟨h2, by omega, h5, by omega, Int.mul_nonneg h5 (by omega), Int.le_trans (Int.mul_le_mul_of_nonneg_right (by omega) (by omega)) h3⟩
end Go.Proofs.Ytlpkbcgdcimglaa

namespace Go.Proofs.Ytlpkbcgdcimglaa
open Go.AI
theorem step1_quoI {P : Program} {tm : Tm} {H : Heap} {o : Oper} {t u : TypeId} {x y : Operand} {a b : Int} (ho : o.op = .binOp .quo t x y u) (hx : ev P tm x = some (.int .i64 a)) (hy : ev P tm y = some (.int .i64 b)) (hb : b ≠ 0) (h0 : -9223372036854775808 ≤ a.tdiv b) (h1 : a.tdiv b < 9223372036854775808) : step1 P tm H o = some (.int .i64 (a.tdiv b), H, H.n) := by
  have := step1_quo ho hx hy hb (H := H)
  rw [wrapI h0 h1] at this
  exact this
theorem cnt_bound {n : Int} (h : (cntR n).2 = 0) : 1 ≤ n ∧ n ≤ 9 ∧ 1 ≤ (cntR n).1 ∧ (cntR n).1 ≤ 21147 := by
  unfold cntR at h ⊢
  split at h
  · cases h
  · rename_i hn
    rw [if_neg hn]
    have := beh_at (n := n.toNat) (b := 0) (by omega) (by omega)
    simp only [Int.toNat_zero, Nat.add_zero] at this
    exact ⟨by omega, by omega, by rw [this.2.2]; omega, by rw [this.2.2]; omega⟩
set_option maxHeartbeats 1000000 in
set_option maxRecDepth 100000 in
theorem unrank_spec {B : Nat} {H : Heap} {n k : Int} (hn : B ≤ H.n) (hb : Base H) (hk : inI64 k) :
    CallB Try.prog B 62 [.int .i64 n, .int .i64 k] H (fun r H' => (∃ u, r = .tuple #[u, .int .i64 (unE n k)] ∧ Ints H' u (unL n k)) ∧ Keep H H') := by
  obtain ⟨hk0, hk1⟩ := hk
  refine CV.enter callees false rfl Try.func62 rfl (by kernel_rfl) (Nat.le_of_ble_eq_true rfl) hn ?_
  repeat' first
    | refine CO.cons rfl ?_
    | refine CO.nil ?_
    | refine CV.seq ?_
    | refine CV.region callees ?_
    | refine CV.cond ?_
    | refine CV.block ?_
    | refine CV.skip ?_
    | refine CV.exit ?_
    | refine CV.ret ?_
    | refine CV.scope ?_
    | refine CV.draw callees (by decide +kernel) ?_
    | refine CH.cons rfl ?_
    | refine CH.nil ?_
    | refine CO.consG rfl ?_
    | refine CH.consG rfl ?_
    | refine CG.cons rfl ?_
    | refine CR.cons ?_
    | refine CR.nil ?_
    | refine CG.nil ?_
    | refine CG.consG rfl ?_
    | refine ⟨(rfl : plain _ = true), ?_⟩
    | refine ⟨(rfl : nilOk _ = some _), ?_⟩
    | refine ⟨_, ints_len (by assumption), ?_⟩
    | refine ⟨_, ints_addr (by assumption) (by omega) (by omega), ?_⟩
    | refine ⟨_, ints_load (by assumption) (by omega) (by omega), ?_⟩
    | refine ⟨(⟨by omega, by omega⟩ : inI64 _), ?_⟩
    | refine ⟨_, fun tm ha => step1_max rfl (ev_tmp ha rfl) (ev_tmp ha rfl), ?_⟩
    | refine ⟨_, fun tm ha => step1_min rfl (ev_tmp ha rfl) (ev_tmp ha rfl), ?_⟩
    | (refine ⟨fun _ => ?_, fun _ => ?_⟩ <;> first | (exfalso; omega) | skip)
    | fail
  refine (count_spec hn hb).mono ?_
  rintro r H1 ⟨rfl, rfl⟩
  repeat' first
    | refine CO.cons rfl ?_
    | refine CO.nil ?_
    | refine CV.seq ?_
    | refine CV.region callees ?_
    | refine CV.cond ?_
    | refine CV.block ?_
    | refine CV.skip ?_
    | refine CV.exit ?_
    | refine CV.ret ?_
    | refine CV.scope ?_
    | refine CV.draw callees (by decide +kernel) ?_
    | refine CH.cons rfl ?_
    | refine CH.nil ?_
    | refine CO.consG rfl ?_
    | refine CH.consG rfl ?_
    | refine CG.cons rfl ?_
    | refine CR.cons ?_
    | refine CR.nil ?_
    | refine CG.nil ?_
    | refine CG.consG rfl ?_
    | refine ⟨(rfl : plain _ = true), ?_⟩
    | refine ⟨(rfl : nilOk _ = some _), ?_⟩
    | refine ⟨_, ints_len (by assumption), ?_⟩
    | refine ⟨_, ints_addr (by assumption) (by omega) (by omega), ?_⟩
    | refine ⟨_, ints_load (by assumption) (by omega) (by omega), ?_⟩
    | refine ⟨(⟨by omega, by omega⟩ : inI64 _), ?_⟩
    | refine ⟨_, fun tm ha => step1_max rfl (ev_tmp ha rfl) (ev_tmp ha rfl), ?_⟩
    | refine ⟨_, fun tm ha => step1_min rfl (ev_tmp ha rfl) (ev_tmp ha rfl), ?_⟩
    | (refine ⟨fun _ => ?_, fun _ => ?_⟩ <;> first | (exfalso; omega) | skip)
    | fail
  · have hu : unE n k = (cntR n).2 := by rw [unE, if_pos (by assumption)]
    exact ⟨rfl, ⟨_, by rw [hu], .inl ⟨rfl, by rw [unL, hu, if_neg (by assumption)]; rfl⟩⟩, Keep.refl _⟩
  · have h0 : (cntR n).2 = 0 := Classical.not_not.1 (by assumption)
    have hu : unE n k = 7 := by rw [unE, if_neg (by omega), if_pos (by omega)]
    exact ⟨rfl, ⟨_, by rw [hu], .inl ⟨rfl, by rw [unL, hu, if_neg (by omega)]; rfl⟩⟩, Keep.refl _⟩
  · have h0 : (cntR n).2 = 0 := Classical.not_not.1 (by assumption)
    have hu : unE n k = 7 := by rw [unE, if_neg (by omega), if_pos (by omega)]
    exact ⟨rfl, ⟨_, by rw [hu], .inl ⟨rfl, by rw [unL, hu, if_neg (by omega)]; rfl⟩⟩, Keep.refl _⟩
  have h0 : (cntR n).2 = 0 := Classical.not_not.1 (by assumption)
  have hu : unE n k = 0 := by rw [unE, if_neg (by omega), if_neg (by omega)]
  have hl : unL n k = unM n.toNat k 0 := by rw [unL, if_pos hu]
  have hcb := cnt_bound h0
  have hg : (H1.new (.cells (List.replicate 100 (VI 0)) 128 1)).get H1.n = some (.cells (List.replicate 100 (VI 0)) 128 1) := Heap.get_new_eq _ _
  have k1 : Keep H1 ((H1.new (.cells (List.replicate 100 (VI 0)) 128 1)).set H1.n (.cells (endT.map VI) 128 1)) := (Keep.new _ _).set _ (Nat.le_refl _)
  have hg2 : ((H1.new (.cells (List.replicate 100 (VI 0)) 128 1)).set H1.n (.cells (endT.map VI) 128 1)).get H1.n = some (.cells (endT.map VI) 128 1) := Heap.get_set_eq _ _ _
  have hn2 : H1.n < ((H1.new (.cells (List.replicate 100 (VI 0)) 128 1)).set H1.n (.cells (endT.map VI) 128 1)).n := Nat.lt_succ_self _
  generalize hH2 : (H1.new (.cells (List.replicate 100 (VI 0)) 128 1)).set H1.n (.cells (endT.map VI) 128 1) = H2 at k1 hg2 hn2
  repeat' first
    | refine CO.cons rfl ?_
    | refine CO.nil ?_
    | refine CV.seq ?_
    | refine CV.region callees ?_
    | refine CV.cond ?_
    | refine CV.block ?_
    | refine CV.skip ?_
    | refine CV.exit ?_
    | refine CV.ret ?_
    | refine CV.scope ?_
    | refine CV.draw callees (by decide +kernel) ?_
    | refine CH.cons rfl ?_
    | refine CH.nil ?_
    | refine CO.consG rfl ?_
    | refine CH.consG rfl ?_
    | refine CG.cons rfl ?_
    | refine CR.cons ?_
    | refine CR.nil ?_
    | refine CG.nil ?_
    | refine CG.consG rfl ?_
    | refine ⟨(rfl : plain _ = true), ?_⟩
    | refine ⟨(rfl : nilOk _ = some _), ?_⟩
    | refine ⟨_, ints_len (by assumption), ?_⟩
    | refine ⟨_, ints_addr (by assumption) (by omega) (by omega), ?_⟩
    | refine ⟨_, ints_load (by assumption) (by omega) (by omega), ?_⟩
    | refine ⟨(⟨by omega, by omega⟩ : inI64 _), ?_⟩
    | refine ⟨_, fun tm ha => step1_max rfl (ev_tmp ha rfl) (ev_tmp ha rfl), ?_⟩
    | refine ⟨_, fun tm ha => step1_min rfl (ev_tmp ha rfl) (ev_tmp ha rfl), ?_⟩
    | refine CallB.known rfl hb hn ?_
    | refine ⟨_, _, alloc79, ?_⟩
    | refine ⟨_, _, store79 endT_len hg (by simp), hn, ?_⟩
    | (refine ⟨fun _ => ?_, fun _ => ?_⟩ <;> first | (exfalso; omega) | skip)
    | fail
  rw [hH2]
  repeat' first
    | refine CO.cons rfl ?_
    | refine CO.nil ?_
    | refine CV.seq ?_
    | refine CV.region callees ?_
    | refine CV.cond ?_
    | refine CV.block ?_
    | refine CV.skip ?_
    | refine CV.exit ?_
    | refine CV.ret ?_
    | refine CV.scope ?_
    | refine CV.draw callees (by decide +kernel) ?_
    | refine CH.cons rfl ?_
    | refine CH.nil ?_
    | refine CO.consG rfl ?_
    | refine CH.consG rfl ?_
    | refine CG.cons rfl ?_
    | refine CR.cons ?_
    | refine CR.nil ?_
    | refine CG.nil ?_
    | refine CG.consG rfl ?_
    | refine ⟨(rfl : plain _ = true), ?_⟩
    | refine ⟨(rfl : nilOk _ = some _), ?_⟩
    | refine ⟨_, ints_len (by assumption), ?_⟩
    | refine ⟨_, ints_addr (by assumption) (by omega) (by omega), ?_⟩
    | refine ⟨_, ints_load (by assumption) (by omega) (by omega), ?_⟩
    | refine ⟨(⟨by omega, by omega⟩ : inI64 _), ?_⟩
    | refine ⟨_, fun tm ha => step1_max rfl (ev_tmp ha rfl) (ev_tmp ha rfl), ?_⟩
    | refine ⟨_, fun tm ha => step1_min rfl (ev_tmp ha rfl) (ev_tmp ha rfl), ?_⟩
    | (refine ⟨fun _ => ?_, fun _ => ?_⟩ <;> first | (exfalso; omega) | skip)
    | fail
  obtain ⟨m, rfl⟩ : ∃ m : Nat, n = m := ⟨n.toNat, by omega⟩
  refine ⟨_, _, make_row un22 one3 (by omega) m (by omega), ?_⟩
  have hown : Own 3 (H2.new (.cells (List.replicate m (VI 0)) 3 2)) (.slice (some ⟨H2.n, 0, none⟩) m 0) ((List.replicate m (0 : Int)).map VI) H2.n :=
    .inr ⟨H2.n, by simp, Nat.le_refl _, Nat.lt_succ_self _, by rw [Heap.get_new_eq]; simp⟩
  have hg3 : (H2.new (.cells (List.replicate m (VI 0)) 3 2)).get H1.n = some (.cells (endT.map VI) 128 1) := by rw [Heap.get_new_ne _ _ (by omega)]; exact hg2
  have k2 : Keep H1 (H2.new (.cells (List.replicate m (VI 0)) 3 2)) := k1.trans (Keep.new _ _)
  generalize hH3 : H2.new (.cells (List.replicate m (VI 0)) 3 2) = H3 at hown hg3 k2
  generalize hw : Value.slice (some ⟨H2.n, 0, none⟩) m 0 = w at hown
  have hwi : Ints H3 w (List.replicate m 0) := hown.row
  repeat' first
    | refine CO.cons rfl ?_
    | refine CO.nil ?_
    | refine CV.seq ?_
    | refine CV.region callees ?_
    | refine CV.cond ?_
    | refine CV.block ?_
    | refine CV.skip ?_
    | refine CV.exit ?_
    | refine CV.ret ?_
    | refine CV.scope ?_
    | refine CV.draw callees (by decide +kernel) ?_
    | refine CH.cons rfl ?_
    | refine CH.nil ?_
    | refine CO.consG rfl ?_
    | refine CH.consG rfl ?_
    | refine CG.cons rfl ?_
    | refine CR.cons ?_
    | refine CR.nil ?_
    | refine CG.nil ?_
    | refine CG.consG rfl ?_
    | refine ⟨(rfl : plain _ = true), ?_⟩
    | refine ⟨(rfl : nilOk _ = some _), ?_⟩
    | refine ⟨_, ints_len (by assumption), ?_⟩
    | refine ⟨_, ints_addr (by assumption) (by omega) (by omega), ?_⟩
    | refine ⟨_, ints_load (by assumption) (by omega) (by omega), ?_⟩
    | refine ⟨(⟨by omega, by omega⟩ : inI64 _), ?_⟩
    | refine ⟨_, fun tm ha => step1_max rfl (ev_tmp ha rfl) (ev_tmp ha rfl), ?_⟩
    | refine ⟨_, fun tm ha => step1_min rfl (ev_tmp ha rfl) (ev_tmp ha rfl), ?_⟩
    | (refine ⟨fun _ => ?_, fun _ => ?_⟩ <;> first | (exfalso; omega) | skip)
    | fail
  rw [List.length_replicate]
  refine CV.loopc ?_
  refine WCv.rounds callees false (α := Int × Int × Int × List Int) (fun (i, s, b, out) => [(0, .int .i64 m), (8, .pointer (some ⟨H1.n, 0, none⟩)), (9, w), (10, .int .i64 s), (11, .int .i64 b), (34, .int .i64 m), (35, .int .i64 i)]) (fun (i, s, b, out) Hz => 0 ≤ i ∧ i ≤ m ∧ 0 ≤ b ∧ b ≤ i ∧ 0 ≤ s ∧ s ≤ 21147 ∧ (out.length : Int) = i ∧ Own 3 Hz w ((out ++ List.replicate (m - i.toNat) 0).map VI) H2.n ∧ Keep H1 Hz ∧ H2.n ≤ Hz.n ∧ Hz.get H1.n = some (.cells (endT.map VI) 128 1) ∧ out ++ unM (m - i.toNat) s b = unM m k 0) (fun (i, s, b, out) => m - i.toNat) (0, k, 0, []) (by repeat' first | exact trivial | refine ⟨rfl, ?_⟩) ?_ ?_
  · exact ⟨by omega, by omega, by omega, by omega, by omega, by omega, rfl, by simpa using hown, k2, by rw [← hH3]; exact Nat.le_succ _, hg3, by simp⟩
  rintro ⟨i, s, b, out⟩ Hx ⟨hi0, hi1, hb0, hb1, hs0, hs1, hlo, hwx, hkx, hhx, hgx, hM⟩ hBx
  by_cases hi : i < m
  · obtain ⟨q, hq⟩ : ∃ q, m - i.toNat = q + 1 := ⟨m - i.toNat - 1, by omega⟩
    have hqi : ((m : Int) - 1 - i).toNat = q := by omega
    have be := beh_at (n := q) (b := b) hb0 (by omega)
    rw [hq, unM] at hM
    obtain ⟨e, he⟩ : ∃ e, behM q b = e := ⟨_, rfl⟩
    rw [he] at be hM
    have us := un_step hs0 hs1 be.1 hb0
    obtain ⟨c, hc⟩ : ∃ c, min (s.tdiv e) b = c := ⟨_, rfl⟩
    rw [hc] at us hM
    repeat' first
      | refine CO.cons rfl ?_
      | refine CO.nil ?_
      | refine CV.seq ?_
      | refine CV.region callees ?_
      | refine CV.cond ?_
      | refine CV.block ?_
      | refine CV.skip ?_
      | refine CV.exit ?_
      | refine CV.ret ?_
      | refine CV.scope ?_
      | refine CV.draw callees (by decide +kernel) ?_
      | refine CH.cons rfl ?_
      | refine CH.nil ?_
      | refine CO.consG rfl ?_
      | refine CH.consG rfl ?_
      | refine CG.cons rfl ?_
      | refine CR.cons ?_
      | refine CR.nil ?_
      | refine CG.nil ?_
      | refine CG.consG rfl ?_
      | refine ⟨(rfl : plain _ = true), ?_⟩
      | refine ⟨(rfl : nilOk _ = some _), ?_⟩
      | refine ⟨_, ints_len (by assumption), ?_⟩
      | refine ⟨_, ints_addr (by assumption) (by omega) (by omega), ?_⟩
      | refine ⟨_, ints_load (by assumption) (by omega) (by omega), ?_⟩
      | refine ⟨(⟨by omega, by omega⟩ : inI64 _), ?_⟩
      | refine ⟨_, fun tm ha => step1_max rfl (ev_tmp ha rfl) (ev_tmp ha rfl), ?_⟩
      | refine ⟨_, fun tm ha => step1_min rfl (ev_tmp ha rfl) (ev_tmp ha rfl), ?_⟩
      | refine ⟨_, tab_addr (by omega) (by omega), ?_⟩
      | refine ⟨_, row_addr (by omega) (by omega), ?_⟩
      | refine ⟨_, tab_load endT_len hgx (by omega) (by omega) (by omega) (by omega), ?_⟩
      | (refine ⟨fun _ => ?_, fun _ => ?_⟩ <;> first | (exfalso; omega) | skip)
      | fail
    rw [hqi, be.2.2]
    have hwi' : Ints Hx w (out ++ List.replicate (m - i.toNat) 0) := hwx.row
    have hlen : (out ++ List.replicate (m - i.toNat) (0 : Int)).length = m := by simp; omega
    repeat' first
      | refine CO.cons rfl ?_
      | refine CO.nil ?_
      | refine CV.seq ?_
      | refine CV.region callees ?_
      | refine CV.cond ?_
      | refine CV.block ?_
      | refine CV.skip ?_
      | refine CV.exit ?_
      | refine CV.ret ?_
      | refine CV.scope ?_
      | refine CV.draw callees (by decide +kernel) ?_
      | refine CH.cons rfl ?_
      | refine CH.nil ?_
      | refine CO.consG rfl ?_
      | refine CH.consG rfl ?_
      | refine CG.cons rfl ?_
      | refine CR.cons ?_
      | refine CR.nil ?_
      | refine CG.nil ?_
      | refine CG.consG rfl ?_
      | refine ⟨(rfl : plain _ = true), ?_⟩
      | refine ⟨(rfl : nilOk _ = some _), ?_⟩
      | refine ⟨_, ints_len (by assumption), ?_⟩
      | refine ⟨_, ints_addr (by assumption) (by omega) (by omega), ?_⟩
      | refine ⟨_, ints_load (by assumption) (by omega) (by omega), ?_⟩
      | refine ⟨(⟨by omega, by omega⟩ : inI64 _), ?_⟩
      | refine ⟨_, fun tm ha => step1_max rfl (ev_tmp ha rfl) (ev_tmp ha rfl), ?_⟩
      | refine ⟨_, fun tm ha => step1_min rfl (ev_tmp ha rfl) (ev_tmp ha rfl), ?_⟩
      | refine ⟨_, fun tm ha => step1_quoI rfl (ev_tmp ha rfl) (ev_tmp ha rfl) (by omega) (by omega) (by omega), ?_⟩
      | (refine ⟨fun _ => ?_, fun _ => ?_⟩ <;> first | (exfalso; omega) | skip)
      | fail
    rw [hc]
    refine put_ask (i := i.toNat) hwx (by omega) (by omega) ?_
    intro H4 hw4 kb4
    have hset : (out ++ List.replicate (m - i.toNat) (0 : Int)).set i.toNat c = (out ++ [c]) ++ List.replicate (m - (i + 1).toNat) 0 := by
      rw [hq, List.set_append_right _ _ (by omega), show i.toNat - out.length = 0 by omega, List.replicate_succ, List.set_cons_zero, show m - (i + 1).toNat = q by omega, List.append_assoc]
      rfl
    rw [hset] at hw4
    have hlen4 : ((out ++ [c]) ++ List.replicate (m - (i + 1).toNat) (0 : Int)).length = m := by simp; omega
    have hget : ((out ++ [c]) ++ List.replicate (m - (i + 1).toNat) (0 : Int))[i.toNat]! = c := by
      rw [getElem!_pos _ _ (by omega), List.getElem_append_left (by simp; omega), List.getElem_append_right (by omega)]
      simp
    have hw4i : Ints H4 w ((out ++ [c]) ++ List.replicate (m - (i + 1).toNat) 0) := hw4.row
    repeat' first
      | refine CO.cons rfl ?_
      | refine CO.nil ?_
      | refine CV.seq ?_
      | refine CV.region callees ?_
      | refine CV.cond ?_
      | refine CV.block ?_
      | refine CV.skip ?_
      | refine CV.exit ?_
      | refine CV.ret ?_
      | refine CV.scope ?_
      | refine CV.draw callees (by decide +kernel) ?_
      | refine CH.cons rfl ?_
      | refine CH.nil ?_
      | refine CO.consG rfl ?_
      | refine CH.consG rfl ?_
      | refine CG.cons rfl ?_
      | refine CR.cons ?_
      | refine CR.nil ?_
      | refine CG.nil ?_
      | refine CG.consG rfl ?_
      | refine ⟨(rfl : plain _ = true), ?_⟩
      | refine ⟨(rfl : nilOk _ = some _), ?_⟩
      | refine ⟨_, ints_len (by assumption), ?_⟩
      | refine ⟨_, ints_addr (by assumption) (by omega) (by omega), ?_⟩
      | refine ⟨_, ints_load (by assumption) (by omega) (by omega), ?_⟩
      | refine ⟨(⟨by omega, by omega⟩ : inI64 _), ?_⟩
      | refine ⟨_, fun tm ha => step1_max rfl (ev_tmp ha rfl) (ev_tmp ha rfl), ?_⟩
      | refine ⟨_, fun tm ha => step1_min rfl (ev_tmp ha rfl) (ev_tmp ha rfl), ?_⟩
      | (refine ⟨fun _ => ?_, fun _ => ?_⟩ <;> first | (exfalso; omega) | skip)
      | fail
    rw [hget]
    repeat' first
      | refine CO.cons rfl ?_
      | refine CO.nil ?_
      | refine CV.seq ?_
      | refine CV.region callees ?_
      | refine CV.cond ?_
      | refine CV.block ?_
      | refine CV.skip ?_
      | refine CV.exit ?_
      | refine CV.ret ?_
      | refine CV.scope ?_
      | refine CV.draw callees (by decide +kernel) ?_
      | refine CH.cons rfl ?_
      | refine CH.nil ?_
      | refine CO.consG rfl ?_
      | refine CH.consG rfl ?_
      | refine CG.cons rfl ?_
      | refine CR.cons ?_
      | refine CR.nil ?_
      | refine CG.nil ?_
      | refine CG.consG rfl ?_
      | refine ⟨(rfl : plain _ = true), ?_⟩
      | refine ⟨(rfl : nilOk _ = some _), ?_⟩
      | refine ⟨_, ints_len (by assumption), ?_⟩
      | refine ⟨_, ints_addr (by assumption) (by omega) (by omega), ?_⟩
      | refine ⟨_, ints_load (by assumption) (by omega) (by omega), ?_⟩
      | refine ⟨(⟨by omega, by omega⟩ : inI64 _), ?_⟩
      | refine ⟨_, fun tm ha => step1_max rfl (ev_tmp ha rfl) (ev_tmp ha rfl), ?_⟩
      | refine ⟨_, fun tm ha => step1_min rfl (ev_tmp ha rfl) (ev_tmp ha rfl), ?_⟩
      | (refine ⟨fun _ => ?_, fun _ => ?_⟩ <;> first | (exfalso; omega) | skip)
      | fail
    rw [hget]
    refine ⟨(i + 1, s - c * e, max b (c + 1), out ++ [c]), (by repeat' first | exact trivial | refine ⟨rfl, ?_⟩), (by (try dsimp only); omega), ?_⟩
    refine ⟨by omega, by omega, by omega, by omega, by omega, by omega, by simp; omega, hw4, kb4.keep hkx (fun z hz => by have := (hwx.lt hz).1; omega), Nat.le_trans hhx kb4.le, ?_, ?_⟩
    · rw [kb4.get _ (Nat.lt_of_lt_of_le hn2 hhx) (fun h => by have := (hwx.lt h).1; omega)]; exact hgx
    · rw [show m - (i + 1).toNat = q by omega, List.append_assoc]; exact hM
  · have hi' : m - i.toNat = 0 := by omega
    rw [hi', unM, List.append_nil] at hM
    rw [hi', List.replicate_zero, List.append_nil, hM] at hwx
    repeat' first
      | refine CO.cons rfl ?_
      | refine CO.nil ?_
      | refine CV.seq ?_
      | refine CV.region callees ?_
      | refine CV.cond ?_
      | refine CV.block ?_
      | refine CV.skip ?_
      | refine CV.exit ?_
      | refine CV.ret ?_
      | refine CV.scope ?_
      | refine CV.draw callees (by decide +kernel) ?_
      | refine CH.cons rfl ?_
      | refine CH.nil ?_
      | refine CO.consG rfl ?_
      | refine CH.consG rfl ?_
      | refine CG.cons rfl ?_
      | refine CR.cons ?_
      | refine CR.nil ?_
      | refine CG.nil ?_
      | refine CG.consG rfl ?_
      | refine ⟨(rfl : plain _ = true), ?_⟩
      | refine ⟨(rfl : nilOk _ = some _), ?_⟩
      | refine ⟨_, ints_len (by assumption), ?_⟩
      | refine ⟨_, ints_addr (by assumption) (by omega) (by omega), ?_⟩
      | refine ⟨_, ints_load (by assumption) (by omega) (by omega), ?_⟩
      | refine ⟨(⟨by omega, by omega⟩ : inI64 _), ?_⟩
      | refine ⟨_, fun tm ha => step1_max rfl (ev_tmp ha rfl) (ev_tmp ha rfl), ?_⟩
      | refine ⟨_, fun tm ha => step1_min rfl (ev_tmp ha rfl) (ev_tmp ha rfl), ?_⟩
      | (refine ⟨fun _ => ?_, fun _ => ?_⟩ <;> first | (exfalso; omega) | skip)
      | fail
    refine ⟨by simp only [List.all_cons, List.all_nil, hwx.notTuple]; rfl, ⟨w, by rw [hu], ?_⟩, hkx⟩
    rw [hl]
    exact hwx.row
end Go.Proofs.Ytlpkbcgdcimglaa




/- Rows of arrays: whole rows stored, new ones made. -/
namespace Go.AI
theorem flat_put {s : Nat} {row : List Value} : ∀ {rs : List (List Value)} {j : Nat}, (∀ r ∈ rs, r.length = s) → j < rs.length → rs.flatten.take (j * s) ++ row ++ rs.flatten.drop (j * s + s) = (rs.set j row).flatten
  | r :: rs, 0, h, _ => by
    have hr := h r (by simp)
    subst hr
    simp
  | r :: rs, j + 1, h, hj => by
    have hr := h r (by simp)
    subst hr
    have ih := flat_put (row := row) (rs := rs) (j := j) (fun q hq => h q (by simp [hq])) (by simpa using hj)
    rw [List.set_cons_succ, List.flatten_cons, List.flatten_cons, ← ih]
    have e1 : (j + 1) * r.length = r.length + j * r.length := by rw [Nat.succ_mul]; omega
    have e2 : (j + 1) * r.length + r.length = r.length + (j * r.length + r.length) := by rw [Nat.succ_mul]; omega
    rw [e2, e1, List.take_length_add_append, List.drop_length_add_append]
    simp [List.append_assoc]
theorem rstore_askS {P : Program} {H : Heap} {e ft : TypeId} {K : Heap → Prop} {B B0 s : Nat} {x : Value} {row : List Value} {rs : List (List Value)} {j : Nat} (hs : sizeB P ft = some s) (hx : OwnS e s H x rs B0) (hB : B ≤ B0) (hj : j < rs.length) (hr : row.length = s) (hw : row.all oneC = true)
    (hk : ∀ H', OwnS e s H' x (rs.set j row) B0 → KeepBut x H H' → K H') :
    ∃ H' b, astore P ft H (.agg row.toArray) (elemS x s j) = some (H', b) ∧ B ≤ b ∧ K H' := by
  rcases hx.2 with ⟨rfl, rfl⟩ | ⟨b0, rfl, h2, h3, h4⟩
  · simp at hj
  · have hm : (j + 1) * s ≤ rs.length * s := Nat.mul_le_mul_right _ hj
    rw [Nat.succ_mul] at hm
    have hst : astore P ft H (.agg row.toArray) (elemS (.slice (some ⟨b0, 0, none⟩) rs.length 0) s j) = some (H.set b0 (.cells (rs.set j row).flatten e 2), b0) := by
      have h1 : (Value.agg row.toArray).cells = row.toArray := rfl
      simp only [astore, elemS, h4, h1, hs, spliceQ_eq, Nat.zero_add]
      rw [if_pos ⟨by simp [hr], by rw [flat_len hx.1]; simp [hr]; omega, rfl, by simpa using hw⟩, splice_all _ _ _ (by rw [flat_len hx.1, hr]; omega), hr, flat_put hx.1 hj]
    refine ⟨_, _, hst, Nat.le_trans hB h2, hk _ ⟨fun q hq => ?_, .inr ⟨b0, by simp, h2, h3, by rw [Heap.get_set_eq]⟩⟩ ⟨Nat.le_refl _, fun c hc hne => Heap.get_set_ne _ _ fun h => hne (by rw [h]; rfl)⟩⟩
    rcases List.mem_or_eq_of_mem_set hq with h | h
    · exact hx.1 q h
    · rw [h]; exact hr
end Go.AI



/- The blocks of all partitions. -/
namespace Go.AI
theorem zeros_rep (z : List Value) (hz : 0 < z.length) : ∀ n, zeros z.toArray (n * z.length) = (List.replicate n z).flatten
  | 0 => by simp [zeros]
  | n + 1 => by
    rw [List.replicate_succ', List.flatten_append, ← zeros_rep z hz n, Nat.succ_mul]
    unfold zeros
    rw [List.range_add, List.map_append]
    congr 1
    apply List.ext_getElem
    · simp
    · intro i h1 h2
      have hi : i < z.length := by simpa using h2
      simp [Nat.mul_add_mod_self_right, Nat.mod_eq_of_lt hi, hi]
theorem make_rows {P : Program} {H : Heap} {t e : TypeId} {z : List Value} {by' : Nat} (ht : P.underlying t = some (.slice e)) (h1 : zeroBB P e = some (z, by')) (hb : by' ≤ 1000) (n : Nat) (hn : n ≤ 1000000) :
    amakeSlice P H t (.int .i64 n) (.int .i64 n) = some (.slice (some ⟨H.n, 0, none⟩) n 0, H.new (.cells (List.replicate n z).flatten e 2), H.n) := by
  obtain ⟨info, zv, hi, hz, hs, h0, hc, hsc, hby⟩ := zeroBB_spec h1
  have hmul : info.bytes * n ≤ 1000 * 1000000 := Nat.mul_le_mul (by omega) hn
  simp only [amakeSlice, ht, hi, hz]
  rw [if_pos (by
    refine ⟨by omega, by omega, by omega, by have h := Int.ofNat_le.2 hmul; rw [Int.natCast_mul] at h; omega, by omega, by rw [hc, hs]; simp, by rw [hc]; simpa using hsc⟩)]
  simp only [anew, Int.toNat_natCast, hs, hc, zeros_rep z h0]
end Go.AI



/- The blocks of all partitions, by the program. -/
namespace Go.Proofs.Ytlpkbcgdcimglaa
open Go.AI
set_option linter.unusedVariables false
set_option linter.unusedSimpArgs false
def okU (n r : Nat) : Bool := decide (unE n r = 0) && decide ((unL n r).length = n) && (unL n r).all (fun x => decide (0 ≤ x) && decide (x < 9)) && decide (rankR (unL n r) = ((r : Int), 0))
theorem okU_all : ((List.range 7).all fun n => Nat.beq n 0 || (List.range (cntR n).1.toNat).all fun r => okU n r) = true := by decide +kernel
theorem un_facts {n r : Nat} (h1 : 1 ≤ n) (h6 : n ≤ 6) (hr : r < (cntR n).1.toNat) : unE n r = 0 ∧ (unL n r).length = n ∧ (∀ i, i < (unL n r).length → 0 ≤ (unL n r)[i]! ∧ (unL n r)[i]! < 9) ∧ rankR (unL n r) = ((r : Int), 0) := by
  have h := List.all_eq_true.1 okU_all n (List.mem_range.2 (by omega))
  rw [Bool.or_eq_true] at h
  rcases h with h | h
  · have := Nat.eq_of_beq_eq_true h; omega
  · have h := List.all_eq_true.1 h r (List.mem_range.2 hr)
    simp only [okU, Bool.and_eq_true, decide_eq_true_eq, List.all_eq_true] at h
    obtain ⟨⟨⟨a, b⟩, c⟩, d⟩ := h
    exact ⟨a, b, fun i hi => by rw [getElem!_pos _ i hi]; exact c _ (List.getElem_mem hi), d⟩
theorem cnt_small {n : Nat} (h1 : 1 ≤ n) (h6 : n ≤ 6) : (cntR n).2 = 0 ∧ 1 ≤ (cntR n).1 ∧ (cntR n).1 ≤ 203 := by
  match n, h1, h6 with
  | 1, _, _ => decide
  | 2, _, _ => decide
  | 3, _, _ => decide
  | 4, _, _ => decide
  | 5, _, _ => decide
  | 6, _, _ => decide
abbrev rowB (p : List Int) : List Value := (blocksN p).map VI
def rowsI (n c i : Nat) : List (List Value) := (List.range c).map fun r => if r < i then rowB (unL n r) else z9.map VI
theorem rowsI_len {n c i : Nat} : (rowsI n c i).length = c := by simp [rowsI]
theorem rowsI_zero {n c : Nat} : rowsI n c 0 = List.replicate c (z9.map VI) := by
  apply List.ext_getElem
  · simp [rowsI]
  · intro i h1 h2; simp [rowsI]
theorem rowsI_set {n c i : Nat} : (rowsI n c i).set i (rowB (unL n i)) = rowsI n c (i + 1) := by
  apply List.ext_getElem
  · simp [rowsI]
  · intro j h1 h2
    simp only [rowsI, List.getElem_set, List.getElem_map, List.getElem_range]
    by_cases e : i = j
    · subst e; rw [if_pos rfl, if_pos (by omega)]
    · rw [if_neg e]
      by_cases h : j < i
      · rw [if_pos h, if_pos (by omega)]
      · rw [if_neg h, if_neg (by omega)]
theorem unB : Try.prog.underlying 101 = some (.slice 96) := by kernel_rfl
theorem zeroB9 : zeroBB Try.prog 96 = some (z9.map VI, 72) := by kernel_rfl
set_option maxRecDepth 100000 in
theorem allBlocks_spec {B : Nat} {H : Heap} {n : Nat} (hB : B ≤ H.n) (h1 : 1 ≤ n) (h6 : n ≤ 6) :
    CallB Try.prog B 89 [.int .i64 (n : Int)] H (fun r H' => OwnS 96 9 H' r (rowsI n (cntR n).1.toNat (cntR n).1.toNat) H.n ∧ Keep H H') := by
  obtain ⟨c0, c1, c2⟩ := cnt_small h1 h6
  have hun := fun (r : Nat) => un_facts (n := n) (r := r) h1 h6
  have hcp : pairV (cntR n) = .tuple #[.int .i64 ((cntR n).1.toNat : Int), .int .i64 0] := by rw [pairV, c0, Int.toNat_of_nonneg (by omega)]
  refine CV.enter callees false rfl Try.func89 rfl (by kernel_rfl) (Nat.le_of_ble_eq_true rfl) hB ?_
  repeat' first
    | refine CO.cons rfl ?_
    | refine CO.nil ?_
    | refine CV.seq ?_
    | refine CV.region callees ?_
    | refine CV.cond ?_
    | refine CV.block ?_
    | refine CV.skip ?_
    | refine CV.exit ?_
    | refine CV.ret ?_
    | refine CV.scope ?_
    | refine CV.draw callees (by decide +kernel) ?_
    | refine CH.cons rfl ?_
    | refine CH.nil ?_
    | refine CO.consG rfl ?_
    | refine CH.consG rfl ?_
    | refine CG.cons rfl ?_
    | refine CR.cons ?_
    | refine CR.nil ?_
    | refine CG.nil ?_
    | refine CG.consG rfl ?_
    | refine ⟨(rfl : plain _ = true), ?_⟩
    | refine ⟨(rfl : nilOk _ = some _), ?_⟩
    | refine ⟨_, ints_len (by assumption), ?_⟩
    | refine ⟨_, ints_addr (by assumption) (by omega) (by omega), ?_⟩
    | refine ⟨_, ints_load (by assumption) (by omega) (by omega), ?_⟩
    | refine ⟨(⟨by omega, by omega⟩ : inI64 _), ?_⟩
    | refine ⟨_, fun tm ha => step1_max rfl (ev_tmp ha rfl) (ev_tmp ha rfl), ?_⟩
    | refine ⟨_, fun tm ha => step1_min rfl (ev_tmp ha rfl) (ev_tmp ha rfl), ?_⟩
    | (refine ⟨fun _ => ?_, fun _ => ?_⟩ <;> first | (exfalso; omega) | skip)
    | fail
  refine (count_spec hB trivial).mono ?_
  rintro r H1 ⟨rfl, rfl⟩
  rw [hcp]
  generalize hcc : (cntR n).1.toNat = c at hun ⊢
  repeat' first
    | refine CO.cons rfl ?_
    | refine CO.nil ?_
    | refine CV.seq ?_
    | refine CV.region callees ?_
    | refine CV.cond ?_
    | refine CV.block ?_
    | refine CV.skip ?_
    | refine CV.exit ?_
    | refine CV.ret ?_
    | refine CV.scope ?_
    | refine CV.draw callees (by decide +kernel) ?_
    | refine CH.cons rfl ?_
    | refine CH.nil ?_
    | refine CO.consG rfl ?_
    | refine CH.consG rfl ?_
    | refine CG.cons rfl ?_
    | refine CR.cons ?_
    | refine CR.nil ?_
    | refine CG.nil ?_
    | refine CG.consG rfl ?_
    | refine ⟨(rfl : plain _ = true), ?_⟩
    | refine ⟨(rfl : nilOk _ = some _), ?_⟩
    | refine ⟨_, ints_len (by assumption), ?_⟩
    | refine ⟨_, ints_addr (by assumption) (by omega) (by omega), ?_⟩
    | refine ⟨_, ints_load (by assumption) (by omega) (by omega), ?_⟩
    | refine ⟨(⟨by omega, by omega⟩ : inI64 _), ?_⟩
    | refine ⟨_, fun tm ha => step1_max rfl (ev_tmp ha rfl) (ev_tmp ha rfl), ?_⟩
    | refine ⟨_, fun tm ha => step1_min rfl (ev_tmp ha rfl) (ev_tmp ha rfl), ?_⟩
    | (refine ⟨fun _ => ?_, fun _ => ?_⟩ <;> first | (exfalso; omega) | skip)
    | fail
  refine ⟨_, _, make_rows unB zeroB9 (by decide) c (by omega), ?_⟩
  generalize hs2 : Heap.new H1 _ = H2
  have g2 := new_get hs2
  have k2 := new_keep hs2
  have n2 := new_n hs2
  obtain ⟨b, hb⟩ : ∃ b, H1.n = b := ⟨_, rfl⟩
  rw [hb] at g2 n2 ⊢
  have ho : OwnS 96 9 H2 (.slice (some ⟨b, 0, none⟩) c 0) (rowsI n c 0) b := by
    rw [rowsI_zero]
    exact ⟨fun r hr => by rw [(List.mem_replicate.1 hr).2]; rfl, .inr ⟨b, by simp, Nat.le_refl _, by omega, g2⟩⟩
  generalize Value.slice (some ⟨b, 0, none⟩) c 0 = sv at ho ⊢
  have lr : ∀ i, (rowsI n c i).length = c := fun i => rowsI_len
  repeat' first
    | refine CO.cons rfl ?_
    | refine CO.nil ?_
    | refine CV.seq ?_
    | refine CV.region callees ?_
    | refine CV.cond ?_
    | refine CV.block ?_
    | refine CV.skip ?_
    | refine CV.exit ?_
    | refine CV.ret ?_
    | refine CV.scope ?_
    | refine CV.draw callees (by decide +kernel) ?_
    | refine CH.cons rfl ?_
    | refine CH.nil ?_
    | refine CO.consG rfl ?_
    | refine CH.consG rfl ?_
    | refine CG.cons rfl ?_
    | refine CR.cons ?_
    | refine CR.nil ?_
    | refine CG.nil ?_
    | refine CG.consG rfl ?_
    | refine ⟨(rfl : plain _ = true), ?_⟩
    | refine ⟨(rfl : nilOk _ = some _), ?_⟩
    | refine ⟨_, ints_len (by assumption), ?_⟩
    | refine ⟨_, ints_addr (by assumption) (by omega) (by omega), ?_⟩
    | refine ⟨_, ints_load (by assumption) (by omega) (by omega), ?_⟩
    | refine ⟨(⟨by omega, by omega⟩ : inI64 _), ?_⟩
    | refine ⟨_, fun tm ha => step1_max rfl (ev_tmp ha rfl) (ev_tmp ha rfl), ?_⟩
    | refine ⟨_, fun tm ha => step1_min rfl (ev_tmp ha rfl) (ev_tmp ha rfl), ?_⟩
    | (refine ⟨_, (by have := ho.row.alen (P := Try.prog) unB; rw [lr] at this; exact this), ?_⟩)
    | (refine ⟨fun _ => ?_, fun _ => ?_⟩ <;> first | (exfalso; omega) | skip)
    | fail
  refine CV.loopc ?_
  refine WCv.rounds callees false (α := Nat) (fun i => [(0, .int .i64 (n : Int)), (5, sv), (17, .int .i64 (c : Int)), (18, .int .i64 (i : Int))]) (fun i Hz => i ≤ c ∧ OwnS 96 9 Hz sv (rowsI n c i) b ∧ Keep H1 Hz) (fun i => c - i) (0) (by repeat' first | exact trivial | refine ⟨rfl, ?_⟩ | refine ⟨slot_int (by (try simp only [Int.toNat_natCast]); omega), ?_⟩) ?_ ?_
  · exact ⟨by omega, ho, k2⟩
  rintro i Hx ⟨hi, hox, kx⟩ hBx
  by_cases hi2 : i < c
  · obtain ⟨u1, u2, u3, u4⟩ := hun i hi2
    repeat' first
      | refine CO.cons rfl ?_
      | refine CO.nil ?_
      | refine CV.seq ?_
      | refine CV.region callees ?_
      | refine CV.cond ?_
      | refine CV.block ?_
      | refine CV.skip ?_
      | refine CV.exit ?_
      | refine CV.ret ?_
      | refine CV.scope ?_
      | refine CV.draw callees (by decide +kernel) ?_
      | refine CH.cons rfl ?_
      | refine CH.nil ?_
      | refine CO.consG rfl ?_
      | refine CH.consG rfl ?_
      | refine CG.cons rfl ?_
      | refine CR.cons ?_
      | refine CR.nil ?_
      | refine CG.nil ?_
      | refine CG.consG rfl ?_
      | refine ⟨(rfl : plain _ = true), ?_⟩
      | refine ⟨(rfl : nilOk _ = some _), ?_⟩
      | refine ⟨_, ints_len (by assumption), ?_⟩
      | refine ⟨_, ints_addr (by assumption) (by omega) (by omega), ?_⟩
      | refine ⟨_, ints_load (by assumption) (by omega) (by omega), ?_⟩
      | refine ⟨(⟨by omega, by omega⟩ : inI64 _), ?_⟩
      | refine ⟨_, fun tm ha => step1_max rfl (ev_tmp ha rfl) (ev_tmp ha rfl), ?_⟩
      | refine ⟨_, fun tm ha => step1_min rfl (ev_tmp ha rfl) (ev_tmp ha rfl), ?_⟩
      | (refine ⟨fun _ => ?_, fun _ => ?_⟩ <;> first | (exfalso; omega) | skip)
      | fail
    refine (unrank_spec (n := n) (k := i) hBx trivial ⟨by omega, by omega⟩).mono ?_
    rintro r H3 ⟨⟨u, rfl, hu⟩, k3⟩
    have l3 := k3.1
    have ho3 := hox.keep k3
    repeat' first
      | refine CO.cons rfl ?_
      | refine CO.nil ?_
      | refine CV.seq ?_
      | refine CV.region callees ?_
      | refine CV.cond ?_
      | refine CV.block ?_
      | refine CV.skip ?_
      | refine CV.exit ?_
      | refine CV.ret ?_
      | refine CV.scope ?_
      | refine CV.draw callees (by decide +kernel) ?_
      | refine CH.cons rfl ?_
      | refine CH.nil ?_
      | refine CO.consG rfl ?_
      | refine CH.consG rfl ?_
      | refine CG.cons rfl ?_
      | refine CR.cons ?_
      | refine CR.nil ?_
      | refine CG.nil ?_
      | refine CG.consG rfl ?_
      | refine ⟨(rfl : plain _ = true), ?_⟩
      | refine ⟨(rfl : nilOk _ = some _), ?_⟩
      | refine ⟨_, ints_len (by assumption), ?_⟩
      | refine ⟨_, ints_addr (by assumption) (by omega) (by omega), ?_⟩
      | refine ⟨_, ints_load (by assumption) (by omega) (by omega), ?_⟩
      | refine ⟨(⟨by omega, by omega⟩ : inI64 _), ?_⟩
      | refine ⟨_, fun tm ha => step1_max rfl (ev_tmp ha rfl) (ev_tmp ha rfl), ?_⟩
      | refine ⟨_, fun tm ha => step1_min rfl (ev_tmp ha rfl) (ev_tmp ha rfl), ?_⟩
      | (refine ⟨fun _ => ?_, fun _ => ?_⟩ <;> first | (exfalso; omega) | skip)
      | fail
    refine (blocksOf_spec (by omega) hu (by omega) u3).mono ?_
    rintro r H4 ⟨rfl, k4⟩
    have l4 := k4.1
    have ho4 := ho3.keep k4
    repeat' first
      | refine CO.cons rfl ?_
      | refine CO.nil ?_
      | refine CV.seq ?_
      | refine CV.region callees ?_
      | refine CV.cond ?_
      | refine CV.block ?_
      | refine CV.skip ?_
      | refine CV.exit ?_
      | refine CV.ret ?_
      | refine CV.scope ?_
      | refine CV.draw callees (by decide +kernel) ?_
      | refine CH.cons rfl ?_
      | refine CH.nil ?_
      | refine CO.consG rfl ?_
      | refine CH.consG rfl ?_
      | refine CG.cons rfl ?_
      | refine CR.cons ?_
      | refine CR.nil ?_
      | refine CG.nil ?_
      | refine CG.consG rfl ?_
      | refine ⟨(rfl : plain _ = true), ?_⟩
      | refine ⟨(rfl : nilOk _ = some _), ?_⟩
      | refine ⟨_, ints_len (by assumption), ?_⟩
      | refine ⟨_, ints_addr (by assumption) (by omega) (by omega), ?_⟩
      | refine ⟨_, ints_load (by assumption) (by omega) (by omega), ?_⟩
      | refine ⟨(⟨by omega, by omega⟩ : inI64 _), ?_⟩
      | refine ⟨_, fun tm ha => step1_max rfl (ev_tmp ha rfl) (ev_tmp ha rfl), ?_⟩
      | refine ⟨_, fun tm ha => step1_min rfl (ev_tmp ha rfl) (ev_tmp ha rfl), ?_⟩
      | (refine ⟨_, ho4.row.addr unB szD (by omega) (by rw [lr]; omega), ?_⟩)
      | (refine ⟨fun _ => ?_, fun _ => ?_⟩ <;> first | (exfalso; omega) | skip)
      | fail
    refine rstore_askS (j := i) szD ho4 (by omega) (by rw [lr]; exact hi2) (by rw [List.length_map]; exact blocks_len _) (by rw [List.all_eq_true]; intro x hx; obtain ⟨y, _, rfl⟩ := List.mem_map.1 hx; rfl) ?_
    intro H5 ho5 kb5
    have ho5 : OwnS 96 9 H5 sv (rowsI n c (i + 1)) b := by rw [← rowsI_set]; exact ho5
    repeat' first
      | refine CO.cons rfl ?_
      | refine CO.nil ?_
      | refine CV.seq ?_
      | refine CV.region callees ?_
      | refine CV.cond ?_
      | refine CV.block ?_
      | refine CV.skip ?_
      | refine CV.exit ?_
      | refine CV.ret ?_
      | refine CV.scope ?_
      | refine CV.draw callees (by decide +kernel) ?_
      | refine CH.cons rfl ?_
      | refine CH.nil ?_
      | refine CO.consG rfl ?_
      | refine CH.consG rfl ?_
      | refine CG.cons rfl ?_
      | refine CR.cons ?_
      | refine CR.nil ?_
      | refine CG.nil ?_
      | refine CG.consG rfl ?_
      | refine ⟨(rfl : plain _ = true), ?_⟩
      | refine ⟨(rfl : nilOk _ = some _), ?_⟩
      | refine ⟨_, ints_len (by assumption), ?_⟩
      | refine ⟨_, ints_addr (by assumption) (by omega) (by omega), ?_⟩
      | refine ⟨_, ints_load (by assumption) (by omega) (by omega), ?_⟩
      | refine ⟨(⟨by omega, by omega⟩ : inI64 _), ?_⟩
      | refine ⟨_, fun tm ha => step1_max rfl (ev_tmp ha rfl) (ev_tmp ha rfl), ?_⟩
      | refine ⟨_, fun tm ha => step1_min rfl (ev_tmp ha rfl) (ev_tmp ha rfl), ?_⟩
      | (refine ⟨fun _ => ?_, fun _ => ?_⟩ <;> first | (exfalso; omega) | skip)
      | fail
    refine ⟨(i + 1), (by repeat' first | exact trivial | refine ⟨rfl, ?_⟩ | refine ⟨slot_int (by (try simp only [Int.toNat_natCast]); omega), ?_⟩), (by (try dsimp only); omega), ?_⟩
    exact ⟨by omega, ho5, kb5.keep ((kx.trans k3).trans k4) fun d hd => by have := (ho4.lt hd).1; omega⟩
  · have hil : i = c := by omega
    subst hil
    repeat' first
      | refine CO.cons rfl ?_
      | refine CO.nil ?_
      | refine CV.seq ?_
      | refine CV.region callees ?_
      | refine CV.cond ?_
      | refine CV.block ?_
      | refine CV.skip ?_
      | refine CV.exit ?_
      | refine CV.ret ?_
      | refine CV.scope ?_
      | refine CV.draw callees (by decide +kernel) ?_
      | refine CH.cons rfl ?_
      | refine CH.nil ?_
      | refine CO.consG rfl ?_
      | refine CH.consG rfl ?_
      | refine CG.cons rfl ?_
      | refine CR.cons ?_
      | refine CR.nil ?_
      | refine CG.nil ?_
      | refine CG.consG rfl ?_
      | refine ⟨(rfl : plain _ = true), ?_⟩
      | refine ⟨(rfl : nilOk _ = some _), ?_⟩
      | refine ⟨_, ints_len (by assumption), ?_⟩
      | refine ⟨_, ints_addr (by assumption) (by omega) (by omega), ?_⟩
      | refine ⟨_, ints_load (by assumption) (by omega) (by omega), ?_⟩
      | refine ⟨(⟨by omega, by omega⟩ : inI64 _), ?_⟩
      | refine ⟨_, fun tm ha => step1_max rfl (ev_tmp ha rfl) (ev_tmp ha rfl), ?_⟩
      | refine ⟨_, fun tm ha => step1_min rfl (ev_tmp ha rfl) (ev_tmp ha rfl), ?_⟩
      | (refine ⟨fun _ => ?_, fun _ => ?_⟩ <;> first | (exfalso; omega) | skip)
      | fail
    exact ⟨by simp only [List.all_cons, List.all_nil, hox.notTuple]; rfl, hox, kx⟩
end Go.Proofs.Ytlpkbcgdcimglaa



/- Which blocks are equal, by the model's equality of arrays. -/
namespace Go.Proofs.Ytlpkbcgdcimglaa
open Go.AI
set_option linter.unusedVariables false
set_option linter.unusedSimpArgs false
/-- The blocks of all partitions of up to six packets, once each. -/
def keysB : List (List Int) := ((List.range 7).flatMap fun (n : Nat) => if Nat.beq n 0 then [] else (List.range (cntR n).1.toNat).map fun (r : Nat) => blocksN (unL n r)).eraseDups
def sameB (P : Program) (t : TypeId) (a b : List Int) : Bool := match pureRun P (Op.equal t (Dv a) (Dv b)) with
  | some x => x == decide (a = b)
  | none => false
def hashB (P : Program) (t : TypeId) (a : List Int) : Bool := (pureRun P (Instr.checkKey false 10000 t (Dv a))).isSome && (pureRun P (Instr.checkKey true 10000 t (Dv a))).isSome
theorem keys_same : (keysB.all fun a => hashB Try.prog 96 a && keysB.all fun b => sameB Try.prog 96 a b) = true := by kernel_rfl
theorem keys_in : ((List.range 7).all fun (n : Nat) => Nat.beq n 0 || (List.range (cntR n).1.toNat).all fun (r : Nat) => keysB.any fun k => k == blocksN (unL n r)) = true := by decide +kernel
end Go.Proofs.Ytlpkbcgdcimglaa



/- The map of ways by blocks. -/
namespace Go.Proofs.Ytlpkbcgdcimglaa
open Go.AI
set_option linter.unusedVariables false
set_option linter.unusedSimpArgs false
theorem keys_eq {a b : List Int} (ha : a ∈ keysB) (hb : b ∈ keysB) : pureRun Try.prog (Op.equal 96 (Dv a) (Dv b)) = some (decide (a = b)) := by
  have h := List.all_eq_true.1 keys_same a ha
  rw [Bool.and_eq_true] at h
  have h := List.all_eq_true.1 h.2 b hb
  unfold sameB at h
  split at h
  · rename_i x hx
    rw [hx, beq_iff_eq.1 h]
  · cases h
theorem keys_hash {a : List Int} (ha : a ∈ keysB) (x : Bool) : (pureRun Try.prog (Instr.checkKey x 10000 96 (Dv a))).isSome = true := by
  have h := List.all_eq_true.1 keys_same a ha
  rw [Bool.and_eq_true] at h
  have h := h.1
  rw [hashB, Bool.and_eq_true] at h
  cases x
  · exact h.1
  · exact h.2
theorem keys_mem {n r : Nat} (h1 : 1 ≤ n) (h6 : n ≤ 6) (hr : r < (cntR n).1.toNat) : blocksN (unL n r) ∈ keysB := by
  have h := List.all_eq_true.1 keys_in n (List.mem_range.2 (by omega))
  rw [Bool.or_eq_true] at h
  rcases h with h | h
  · have := Nat.eq_of_beq_eq_true h; omega
  · have h := List.all_eq_true.1 h r (List.mem_range.2 hr)
    obtain ⟨k, hk, he⟩ := List.any_eq_true.1 h
    rw [← beq_iff_eq.1 he]; exact hk
abbrev entB (W : List Int → Int) (ks : List (List Int)) : List (Value × Value) := ks.map fun k => (Dv k, VI (W k))
theorem find_key {W : List Int → Int} {k : List Int} (hk : k ∈ keysB) : ∀ (ks : List (List Int)) (i : Nat), (∀ x ∈ ks, x ∈ keysB) →
    (k ∈ ks → ∃ j, findQ Try.prog 96 (Dv k) (entB W ks) i = some (some (j, VI (W k)))) ∧ (k ∉ ks → findQ Try.prog 96 (Dv k) (entB W ks) i = some none)
  | [], i, _ => ⟨fun h => (by cases h), fun _ => rfl⟩
  | x :: ks, i, h => by
    have ih := find_key (W := W) hk ks (i + 1) fun y hy => h y (by simp [hy])
    have he := keys_eq hk (h x (by simp))
    have hf : findQ Try.prog 96 (Dv k) (entB W (x :: ks)) i = if k = x then some (some (i, VI (W x))) else findQ Try.prog 96 (Dv k) (entB W ks) (i + 1) := by
      simp only [entB, List.map_cons, findQ, he]
      by_cases hkx : k = x
      · rw [if_pos hkx]; simp only [decide_eq_true hkx]
      · rw [if_neg hkx]; simp only [decide_eq_false hkx]
    refine ⟨fun hm => ?_, fun hm => ?_⟩
    · rw [hf]
      by_cases hkx : k = x
      · subst hkx; rw [if_pos rfl]; exact ⟨i, rfl⟩
      · rw [if_neg hkx]
        exact ih.1 (by simpa [hkx] using hm)
    · rw [hf, if_neg (fun e => hm (by simp [e]))]
      exact ih.2 (fun e => hm (by simp [e]))
theorem findA_none {k x : List Int} {kd : TypeDesc} {v : Value} {es : List (Value × Value)} {i : Nat} (hk : kd = .array 9 3) : findA kd (Dv k) ((Dv x, v) :: es) i = none := by
  subst hk; rfl
theorem unMB : Try.prog.underlying 138 = some (.map 96 3) := by kernel_rfl
theorem zero3 : (Try.prog.info? 3).bind (·.zero) = some (VI 0) := by kernel_rfl
theorem find_both {W : List Int → Int} {k : List Int} (hk : k ∈ keysB) (ks : List (List Int)) (hks : ∀ x ∈ ks, x ∈ keysB) :
    (k ∉ ks → findA (.array 9 3) (Dv k) (entB W ks) 0 = some none ∨ findA (.array 9 3) (Dv k) (entB W ks) 0 = none ∧ findQ Try.prog 96 (Dv k) (entB W ks) 0 = some none) ∧
    (k ∈ ks → findA (.array 9 3) (Dv k) (entB W ks) 0 = none ∧ ∃ j, findQ Try.prog 96 (Dv k) (entB W ks) 0 = some (some (j, VI (W k)))) := by
  have h := find_key (W := W) hk ks 0 hks
  cases ks with
  | nil => exact ⟨fun _ => .inl rfl, fun hm => (by cases hm)⟩
  | cons x ks => exact ⟨fun hm => .inr ⟨findA_none rfl, h.2 hm⟩, fun hm => ⟨findA_none rfl, h.1 hm⟩⟩
theorem lookupB {H : Heap} {r : Nat} {W : List Int → Int} {ks : List (List Int)} {k : List Int} (hk : k ∈ keysB) (hks : ∀ x ∈ ks, x ∈ keysB) (hg : H.get r = some (.map (entB W ks))) :
    (k ∈ ks → alookup Try.prog H 138 (.map (some r)) (Dv k) true = some (.tuple #[VI (W k), .bool true])) ∧ (k ∉ ks → alookup Try.prog H 138 (.map (some r)) (Dv k) true = some (.tuple #[VI 0, .bool false])) := by
  obtain ⟨h1, h2⟩ := find_both (W := W) hk ks hks
  refine ⟨fun hm => ?_, fun hm => ?_⟩
  · obtain ⟨h3, j, h4⟩ := h2 hm
    simp only [alookup, unMB, amap, hg, unD, zero3]
    rw [if_pos ⟨tab_plain k, rfl, rfl, keys_hash hk _⟩, h3, h4]
    rfl
  · simp only [alookup, unMB, amap, hg, unD, zero3]
    rw [if_pos ⟨tab_plain k, rfl, rfl, keys_hash hk _⟩]
    rcases h1 hm with h3 | ⟨h3, h4⟩
    · rw [h3]; rfl
    · rw [h3, h4]; rfl
theorem updateB {H : Heap} {r : Nat} {W : List Int → Int} {ks : List (List Int)} {k : List Int} (hk : k ∈ keysB) (hks : ∀ x ∈ ks, x ∈ keysB) (hg : H.get r = some (.map (entB W ks))) (hm : k ∉ ks) :
    amapUpdate Try.prog H 138 (.map (some r)) (Dv k) (VI (W k)) = some (H.set r (.map (entB W (ks ++ [k]))), r) := by
  obtain ⟨h1, h2⟩ := find_both (W := W) hk ks hks
  have e : entB W (ks ++ [k]) = entB W ks ++ [(Dv k, VI (W k))] := by simp [entB]
  rw [e]
  simp only [amapUpdate, unMB, hg, unD]
  rw [if_pos ⟨tab_plain k, rfl, keys_hash hk _⟩]
  rcases h1 hm with h3 | ⟨h3, h4⟩
  · rw [h3]
  · rw [h3, h4]
end Go.Proofs.Ytlpkbcgdcimglaa



/- How many ways each partition has, by the program. -/
namespace Go.Proofs.Ytlpkbcgdcimglaa
open Go.AI
set_option linter.unusedVariables false
set_option linter.unusedSimpArgs false
theorem own_put {H : Heap} {v : Value} {vs : List Value} {B bm : Nat} {o : AObj} (h : Own 3 H v vs B) (hb : bm < B) : Own 3 (H.set bm o) v vs B := by
  rcases h with h | ⟨b, h1, h2, h3, h4⟩
  · exact .inl h
  · exact .inr ⟨b, h1, h2, h3, by rw [Heap.get_set_ne _ _ (by omega)]; exact h4⟩
def outL (bs : List (List Int)) (W : List Int → Int) (i : Nat) : List Int := (List.range bs.length).map fun r => if r < i then W bs[r]! else 0
theorem outL_len {bs : List (List Int)} {W : List Int → Int} {i : Nat} : (outL bs W i).length = bs.length := by simp [outL]
theorem outL_zero {bs : List (List Int)} {W : List Int → Int} : outL bs W 0 = List.replicate bs.length 0 := by
  apply List.ext_getElem
  · simp [outL]
  · intro i h1 h2; simp [outL]
theorem outL_set {bs : List (List Int)} {W : List Int → Int} {i : Nat} : (outL bs W i).set i (W bs[i]!) = outL bs W (i + 1) := by
  apply List.ext_getElem
  · simp [outL]
  · intro j h1 h2
    simp only [outL, List.getElem_set, List.getElem_map, List.getElem_range]
    by_cases e : i = j
    · subst e; rw [if_pos rfl, if_pos (by omega)]
    · rw [if_neg e]
      by_cases h : j < i
      · rw [if_pos h, if_pos (by omega)]
      · rw [if_neg h, if_neg (by omega)]
set_option maxRecDepth 100000 in
theorem shapes_spec {B : Nat} {H : Heap} {sl : Value} {bs : List (List Int)} {left : List Int} (hB : B ≤ H.n) (hsl : RowS 9 H sl (bs.map fun b => b.map VI)) (hc : bs.length ≤ 30000)
    (hbs : ∀ i, i < bs.length → bs[i]! ∈ keysB ∧ bs[i]!.length = 9 ∧ AllN (fun x => 0 ≤ x ∧ x ≤ 9) bs[i]! ∧ remS bs[i]! 9 ≤ 9) (hl : left.length = 6) (ha : AllN (fun x => 0 ≤ x ∧ x ≤ 9) left) :
    CallB Try.prog B 88 [Pv left, sl] H (fun r H' => Own 3 H' r ((outL bs (fun b => waysN b 9 left) bs.length).map VI) H.n ∧ Keep H H') := by
  obtain ⟨W, hW⟩ : ∃ W, W = fun b => waysN b 9 left := ⟨_, rfl⟩
  have hWb : ∀ b, waysN b 9 left = W b := fun b => by rw [hW]
  rw [← hW]
  clear hW
  have hrl : (bs.map fun b => b.map VI).length = bs.length := by simp
  refine CV.enter callees false rfl Try.func88 rfl (by kernel_rfl) (Nat.le_of_ble_eq_true rfl) hB ?_
  repeat' first
    | refine CO.cons rfl ?_
    | refine CO.nil ?_
    | refine CV.seq ?_
    | refine CV.region callees ?_
    | refine CV.cond ?_
    | refine CV.block ?_
    | refine CV.skip ?_
    | refine CV.exit ?_
    | refine CV.ret ?_
    | refine CV.scope ?_
    | refine CV.draw callees (by decide +kernel) ?_
    | refine CH.cons rfl ?_
    | refine CH.nil ?_
    | refine CO.consG rfl ?_
    | refine CH.consG rfl ?_
    | refine CG.cons rfl ?_
    | refine CR.cons ?_
    | refine CR.nil ?_
    | refine CG.nil ?_
    | refine CG.consG rfl ?_
    | refine ⟨(rfl : plain _ = true), ?_⟩
    | refine ⟨(rfl : nilOk _ = some _), ?_⟩
    | refine ⟨_, ints_len (by assumption), ?_⟩
    | refine ⟨_, ints_addr (by assumption) (by omega) (by omega), ?_⟩
    | refine ⟨_, ints_load (by assumption) (by omega) (by omega), ?_⟩
    | refine ⟨(⟨by omega, by omega⟩ : inI64 _), ?_⟩
    | refine ⟨_, fun tm ha => step1_max rfl (ev_tmp ha rfl) (ev_tmp ha rfl), ?_⟩
    | refine ⟨_, fun tm ha => step1_min rfl (ev_tmp ha rfl) (ev_tmp ha rfl), ?_⟩
    | (refine ⟨fun _ => ?_, fun _ => ?_⟩ <;> first | (exfalso; omega) | skip)
    | fail
  refine ⟨(by simp only [notTuple]), ?_⟩
  rw [alloc_p]
  generalize hs0 : H.new (Pc left) = H0
  have hg2 := new_get hs0
  have k0 := new_keep hs0
  have n0 := new_n hs0
  obtain ⟨b2, hb2⟩ : ∃ b2, H.n = b2 := ⟨_, rfl⟩
  rw [hb2] at hg2 n0 ⊢
  have hsl0 := hsl.keep k0
  repeat' first
    | refine CO.cons rfl ?_
    | refine CO.nil ?_
    | refine CV.seq ?_
    | refine CV.region callees ?_
    | refine CV.cond ?_
    | refine CV.block ?_
    | refine CV.skip ?_
    | refine CV.exit ?_
    | refine CV.ret ?_
    | refine CV.scope ?_
    | refine CV.draw callees (by decide +kernel) ?_
    | refine CH.cons rfl ?_
    | refine CH.nil ?_
    | refine CO.consG rfl ?_
    | refine CH.consG rfl ?_
    | refine CG.cons rfl ?_
    | refine CR.cons ?_
    | refine CR.nil ?_
    | refine CG.nil ?_
    | refine CG.consG rfl ?_
    | refine ⟨(rfl : plain _ = true), ?_⟩
    | refine ⟨(rfl : nilOk _ = some _), ?_⟩
    | refine ⟨_, ints_len (by assumption), ?_⟩
    | refine ⟨_, ints_addr (by assumption) (by omega) (by omega), ?_⟩
    | refine ⟨_, ints_load (by assumption) (by omega) (by omega), ?_⟩
    | refine ⟨(⟨by omega, by omega⟩ : inI64 _), ?_⟩
    | refine ⟨_, fun tm ha => step1_max rfl (ev_tmp ha rfl) (ev_tmp ha rfl), ?_⟩
    | refine ⟨_, fun tm ha => step1_min rfl (ev_tmp ha rfl) (ev_tmp ha rfl), ?_⟩
    | (refine ⟨fun _ => ?_, fun _ => ?_⟩ <;> first | (exfalso; omega) | skip)
    | fail
  generalize hs1 : H0.new (.map []) = H1
  have hg1 := new_get hs1
  have k1 := new_keep hs1
  have n1 := new_n hs1
  obtain ⟨bm, hbm⟩ : ∃ bm, H0.n = bm := ⟨_, rfl⟩
  rw [hbm] at hg1 n1 ⊢
  have hsl1 := hsl0.keep k1
  repeat' first
    | refine CO.cons rfl ?_
    | refine CO.nil ?_
    | refine CV.seq ?_
    | refine CV.region callees ?_
    | refine CV.cond ?_
    | refine CV.block ?_
    | refine CV.skip ?_
    | refine CV.exit ?_
    | refine CV.ret ?_
    | refine CV.scope ?_
    | refine CV.draw callees (by decide +kernel) ?_
    | refine CH.cons rfl ?_
    | refine CH.nil ?_
    | refine CO.consG rfl ?_
    | refine CH.consG rfl ?_
    | refine CG.cons rfl ?_
    | refine CR.cons ?_
    | refine CR.nil ?_
    | refine CG.nil ?_
    | refine CG.consG rfl ?_
    | refine ⟨(rfl : plain _ = true), ?_⟩
    | refine ⟨(rfl : nilOk _ = some _), ?_⟩
    | refine ⟨_, ints_len (by assumption), ?_⟩
    | refine ⟨_, ints_addr (by assumption) (by omega) (by omega), ?_⟩
    | refine ⟨_, ints_load (by assumption) (by omega) (by omega), ?_⟩
    | refine ⟨(⟨by omega, by omega⟩ : inI64 _), ?_⟩
    | refine ⟨_, fun tm ha => step1_max rfl (ev_tmp ha rfl) (ev_tmp ha rfl), ?_⟩
    | refine ⟨_, fun tm ha => step1_min rfl (ev_tmp ha rfl) (ev_tmp ha rfl), ?_⟩
    | (refine ⟨_, (by have := hsl1.alen (P := Try.prog) unB; rw [hrl] at this; exact this), ?_⟩)
    | (refine ⟨fun _ => ?_, fun _ => ?_⟩ <;> first | (exfalso; omega) | skip)
    | fail
  refine ⟨_, _, make_row un22 one3 (by omega) bs.length (by omega), ?_⟩
  generalize hs3 : Heap.new H1 _ = H3
  have hg3 := new_get hs3
  have k3 := new_keep hs3
  have n3 := new_n hs3
  obtain ⟨bo, hbo⟩ : ∃ bo, H1.n = bo := ⟨_, rfl⟩
  rw [hbo] at hg3 n3 ⊢
  have ho : Own 3 H3 (.slice (some ⟨bo, 0, none⟩) bs.length 0) ((outL bs W 0).map VI) bo := by
    rw [outL_zero, List.map_replicate]
    exact .inr ⟨bo, by simp, Nat.le_refl _, by omega, hg3⟩
  generalize Value.slice (some ⟨bo, 0, none⟩) bs.length 0 = out at ho ⊢
  have hsl3 := hsl1.keep k3
  have k03 : Keep H H3 := (k0.trans k1).trans k3
  have hm3 : H3.get bm = some (.map (entB W [])) := by rw [k3.2 bm (by omega)]; exact hg1
  have hp3 : H3.get b2 = some (Pc left) := by rw [k3.2 b2 (by omega), k1.2 b2 (by omega)]; exact hg2
  have lo : ∀ i, (outL bs W i).length = bs.length := fun i => outL_len
  repeat' first
    | refine CO.cons rfl ?_
    | refine CO.nil ?_
    | refine CV.seq ?_
    | refine CV.region callees ?_
    | refine CV.cond ?_
    | refine CV.block ?_
    | refine CV.skip ?_
    | refine CV.exit ?_
    | refine CV.ret ?_
    | refine CV.scope ?_
    | refine CV.draw callees (by decide +kernel) ?_
    | refine CH.cons rfl ?_
    | refine CH.nil ?_
    | refine CO.consG rfl ?_
    | refine CH.consG rfl ?_
    | refine CG.cons rfl ?_
    | refine CR.cons ?_
    | refine CR.nil ?_
    | refine CG.nil ?_
    | refine CG.consG rfl ?_
    | refine ⟨(rfl : plain _ = true), ?_⟩
    | refine ⟨(rfl : nilOk _ = some _), ?_⟩
    | refine ⟨_, ints_len (by assumption), ?_⟩
    | refine ⟨_, ints_addr (by assumption) (by omega) (by omega), ?_⟩
    | refine ⟨_, ints_load (by assumption) (by omega) (by omega), ?_⟩
    | refine ⟨(⟨by omega, by omega⟩ : inI64 _), ?_⟩
    | refine ⟨_, fun tm ha => step1_max rfl (ev_tmp ha rfl) (ev_tmp ha rfl), ?_⟩
    | refine ⟨_, fun tm ha => step1_min rfl (ev_tmp ha rfl) (ev_tmp ha rfl), ?_⟩
    | (refine ⟨_, (by have := hsl3.alen (P := Try.prog) unB; rw [hrl] at this; exact this), ?_⟩)
    | (refine ⟨fun _ => ?_, fun _ => ?_⟩ <;> first | (exfalso; omega) | skip)
    | fail
  refine CV.loopc ?_
  refine WCv.rounds callees false (α := List (List Int) × Nat) (fun (ks, i) => [(2, .pointer (some ⟨b2, 0, none⟩)), (5, .map (some bm)), (6, out), (15, sl), (16, .int .i64 (bs.length : Int)), (17, .int .i64 (i : Int))]) (fun (ks, i) Hz => i ≤ bs.length ∧ (∀ k ∈ ks, k ∈ keysB) ∧ Hz.get bm = some (.map (entB W ks)) ∧ Hz.get b2 = some (Pc left) ∧ Own 3 Hz out ((outL bs W i).map VI) bo ∧ H3.n ≤ Hz.n ∧ (∀ c, c < H.n → Hz.get c = H.get c)) (fun (ks, i) => bs.length - i) ([], 0) (by repeat' first | exact trivial | refine ⟨rfl, ?_⟩ | refine ⟨slot_int (by (try simp only [Int.toNat_natCast]); omega), ?_⟩) ?_ ?_
  · exact ⟨by omega, fun k hk => (by cases hk), hm3, hp3, ho, Nat.le_refl _, fun c hc => k03.2 c hc⟩
  rintro ⟨ks, i⟩ Hx ⟨hi, hks, hmx, hpx, hox, nx, ox⟩ hBx
  have kx : Keep H Hx := ⟨by omega, ox⟩
  have hslx := hsl.keep kx
  by_cases hi2 : i < bs.length
  · obtain ⟨q1, q2, q3, q4⟩ := hbs i hi2
    have hrow : (bs.map fun b => b.map VI)[i]? = some (bs[i]!.map VI) := by rw [List.getElem?_map, List.getElem?_eq_getElem hi2, getElem!_pos bs i hi2]; rfl
    have hset : (outL bs W i).set i (W bs[i]!) = outL bs W (i + 1) := outL_set
    generalize bs[i]! = bl at q1 q2 q3 q4 hrow hset
    repeat' first
      | refine CO.cons rfl ?_
      | refine CO.nil ?_
      | refine CV.seq ?_
      | refine CV.region callees ?_
      | refine CV.cond ?_
      | refine CV.block ?_
      | refine CV.skip ?_
      | refine CV.exit ?_
      | refine CV.ret ?_
      | refine CV.scope ?_
      | refine CV.draw callees (by decide +kernel) ?_
      | refine CH.cons rfl ?_
      | refine CH.nil ?_
      | refine CO.consG rfl ?_
      | refine CH.consG rfl ?_
      | refine CG.cons rfl ?_
      | refine CR.cons ?_
      | refine CR.nil ?_
      | refine CG.nil ?_
      | refine CG.consG rfl ?_
      | refine ⟨(rfl : plain _ = true), ?_⟩
      | refine ⟨(rfl : nilOk _ = some _), ?_⟩
      | refine ⟨_, ints_len (by assumption), ?_⟩
      | refine ⟨_, ints_addr (by assumption) (by omega) (by omega), ?_⟩
      | refine ⟨_, ints_load (by assumption) (by omega) (by omega), ?_⟩
      | refine ⟨(⟨by omega, by omega⟩ : inI64 _), ?_⟩
      | refine ⟨_, fun tm ha => step1_max rfl (ev_tmp ha rfl) (ev_tmp ha rfl), ?_⟩
      | refine ⟨_, fun tm ha => step1_min rfl (ev_tmp ha rfl) (ev_tmp ha rfl), ?_⟩
      | (refine ⟨_, hslx.addr unB szD (by omega) (by rw [hrl]; omega), ?_⟩)
      | (refine ⟨_, hslx.load agD szD hrow, ?_⟩)
      | (refine ⟨_, _, allocD, ?_⟩)
      | (refine ⟨fun _ => ?_, fun _ => ?_⟩ <;> first | (exfalso; omega) | skip)
      | fail
    generalize hs4 : Heap.new Hx _ = H4
    have g4 := new_get hs4
    have k4 := new_keep hs4
    have n4 := new_n hs4
    obtain ⟨bt, hbt⟩ : ∃ bt, Hx.n = bt := ⟨_, rfl⟩
    rw [hbt] at g4 n4 ⊢
    refine ⟨_, _, storeD (l := z9) rfl q2 g4, by omega, ?_⟩
    generalize hs5 : Heap.set H4 bt _ = H5
    have g5 := set_get hs5
    have n5 := set_n hs5
    have o5 := set_old hs5
    have k5 : Keep Hx H5 := keep_put k4 (by omega) o5 n5
    have hm5 : H5.get bm = some (.map (entB W ks)) := by rw [k5.2 bm (by omega)]; exact hmx
    have hp5 : H5.get b2 = some (Pc left) := by rw [k5.2 b2 (by omega)]; exact hpx
    have ho5 := hox.keep k5
    have loi := lo i
    have hio5 : Ints H5 out (outL bs W i) := ho5.row
    by_cases hk : bl ∈ ks
    · have hlk := (lookupB q1 hks hm5).1 hk
      repeat' first
        | refine CO.cons rfl ?_
        | refine CO.nil ?_
        | refine CV.seq ?_
        | refine CV.region callees ?_
        | refine CV.cond ?_
        | refine CV.block ?_
        | refine CV.skip ?_
        | refine CV.exit ?_
        | refine CV.ret ?_
        | refine CV.scope ?_
        | refine CV.draw callees (by decide +kernel) ?_
        | refine CH.cons rfl ?_
        | refine CH.nil ?_
        | refine CO.consG rfl ?_
        | refine CH.consG rfl ?_
        | refine CG.cons rfl ?_
        | refine CR.cons ?_
        | refine CR.nil ?_
        | refine CG.nil ?_
        | refine CG.consG rfl ?_
        | refine ⟨(rfl : plain _ = true), ?_⟩
        | refine ⟨(rfl : nilOk _ = some _), ?_⟩
        | refine ⟨_, ints_len (by assumption), ?_⟩
        | refine ⟨_, ints_addr (by assumption) (by omega) (by omega), ?_⟩
        | refine ⟨_, ints_load (by assumption) (by omega) (by omega), ?_⟩
        | refine ⟨(⟨by omega, by omega⟩ : inI64 _), ?_⟩
        | refine ⟨_, fun tm ha => step1_max rfl (ev_tmp ha rfl) (ev_tmp ha rfl), ?_⟩
        | refine ⟨_, fun tm ha => step1_min rfl (ev_tmp ha rfl) (ev_tmp ha rfl), ?_⟩
        | (refine ⟨_, loadD q2 g5, ?_⟩)
        | (refine ⟨_, hlk, ?_⟩)
        | (refine ⟨fun _ => ?_, fun _ => ?_⟩ <;> first | (exfalso; omega) | skip)
        | fail
      refine put_ask (i := i) ho5 (by omega) (by rw [lo]; exact hi2) ?_
      intro H6 ho6 kb6
      have l6 := kb6.le
      rw [hset] at ho6
      repeat' first
        | refine CO.cons rfl ?_
        | refine CO.nil ?_
        | refine CV.seq ?_
        | refine CV.region callees ?_
        | refine CV.cond ?_
        | refine CV.block ?_
        | refine CV.skip ?_
        | refine CV.exit ?_
        | refine CV.ret ?_
        | refine CV.scope ?_
        | refine CV.draw callees (by decide +kernel) ?_
        | refine CH.cons rfl ?_
        | refine CH.nil ?_
        | refine CO.consG rfl ?_
        | refine CH.consG rfl ?_
        | refine CG.cons rfl ?_
        | refine CR.cons ?_
        | refine CR.nil ?_
        | refine CG.nil ?_
        | refine CG.consG rfl ?_
        | refine ⟨(rfl : plain _ = true), ?_⟩
        | refine ⟨(rfl : nilOk _ = some _), ?_⟩
        | refine ⟨_, ints_len (by assumption), ?_⟩
        | refine ⟨_, ints_addr (by assumption) (by omega) (by omega), ?_⟩
        | refine ⟨_, ints_load (by assumption) (by omega) (by omega), ?_⟩
        | refine ⟨(⟨by omega, by omega⟩ : inI64 _), ?_⟩
        | refine ⟨_, fun tm ha => step1_max rfl (ev_tmp ha rfl) (ev_tmp ha rfl), ?_⟩
        | refine ⟨_, fun tm ha => step1_min rfl (ev_tmp ha rfl) (ev_tmp ha rfl), ?_⟩
        | (refine ⟨fun _ => ?_, fun _ => ?_⟩ <;> first | (exfalso; omega) | skip)
        | fail
      refine ⟨(ks, i + 1), (by repeat' first | exact trivial | refine ⟨rfl, ?_⟩ | refine ⟨slot_int (by (try simp only [Int.toNat_natCast]); omega), ?_⟩), (by (try dsimp only); omega), ?_⟩
      exact ⟨by omega, hks, by rw [kb6.get bm (by omega) (fun h => by have := (ho5.lt h).1; omega)]; exact hm5, by rw [kb6.get b2 (by omega) (fun h => by have := (ho5.lt h).1; omega)]; exact hp5, ho6, by omega, fun c hc => by rw [kb6.get c (by omega) (fun h => by have := (ho5.lt h).1; omega), k5.2 c (by omega), ox c hc]⟩
    · have hlk := (lookupB q1 hks hm5).2 hk
      repeat' first
        | refine CO.cons rfl ?_
        | refine CO.nil ?_
        | refine CV.seq ?_
        | refine CV.region callees ?_
        | refine CV.cond ?_
        | refine CV.block ?_
        | refine CV.skip ?_
        | refine CV.exit ?_
        | refine CV.ret ?_
        | refine CV.scope ?_
        | refine CV.draw callees (by decide +kernel) ?_
        | refine CH.cons rfl ?_
        | refine CH.nil ?_
        | refine CO.consG rfl ?_
        | refine CH.consG rfl ?_
        | refine CG.cons rfl ?_
        | refine CR.cons ?_
        | refine CR.nil ?_
        | refine CG.nil ?_
        | refine CG.consG rfl ?_
        | refine ⟨(rfl : plain _ = true), ?_⟩
        | refine ⟨(rfl : nilOk _ = some _), ?_⟩
        | refine ⟨_, ints_len (by assumption), ?_⟩
        | refine ⟨_, ints_addr (by assumption) (by omega) (by omega), ?_⟩
        | refine ⟨_, ints_load (by assumption) (by omega) (by omega), ?_⟩
        | refine ⟨(⟨by omega, by omega⟩ : inI64 _), ?_⟩
        | refine ⟨_, fun tm ha => step1_max rfl (ev_tmp ha rfl) (ev_tmp ha rfl), ?_⟩
        | refine ⟨_, fun tm ha => step1_min rfl (ev_tmp ha rfl) (ev_tmp ha rfl), ?_⟩
        | (refine ⟨_, loadD q2 g5, ?_⟩)
        | (refine ⟨_, hlk, ?_⟩)
        | (refine ⟨_, loadP hl hp5, ?_⟩)
        | (refine ⟨fun _ => ?_, fun _ => ?_⟩ <;> first | (exfalso; omega) | skip)
        | fail
      refine (ways_spec (by omega) q2 q3 q4 hl ha).mono ?_
      rintro r H6 ⟨rfl, k6⟩
      have l6 := k6.1
      rw [hWb]
      have hm6 : H6.get bm = some (.map (entB W ks)) := by rw [k6.2 bm (by omega)]; exact hm5
      have hp6 : H6.get b2 = some (Pc left) := by rw [k6.2 b2 (by omega)]; exact hp5
      have g6 : H6.get bt = some (Dc bl) := by rw [k6.2 bt (by omega)]; exact g5
      have ho6 := ho5.keep k6
      repeat' first
        | refine CO.cons rfl ?_
        | refine CO.nil ?_
        | refine CV.seq ?_
        | refine CV.region callees ?_
        | refine CV.cond ?_
        | refine CV.block ?_
        | refine CV.skip ?_
        | refine CV.exit ?_
        | refine CV.ret ?_
        | refine CV.scope ?_
        | refine CV.draw callees (by decide +kernel) ?_
        | refine CH.cons rfl ?_
        | refine CH.nil ?_
        | refine CO.consG rfl ?_
        | refine CH.consG rfl ?_
        | refine CG.cons rfl ?_
        | refine CR.cons ?_
        | refine CR.nil ?_
        | refine CG.nil ?_
        | refine CG.consG rfl ?_
        | refine ⟨(rfl : plain _ = true), ?_⟩
        | refine ⟨(rfl : nilOk _ = some _), ?_⟩
        | refine ⟨_, ints_len (by assumption), ?_⟩
        | refine ⟨_, ints_addr (by assumption) (by omega) (by omega), ?_⟩
        | refine ⟨_, ints_load (by assumption) (by omega) (by omega), ?_⟩
        | refine ⟨(⟨by omega, by omega⟩ : inI64 _), ?_⟩
        | refine ⟨_, fun tm ha => step1_max rfl (ev_tmp ha rfl) (ev_tmp ha rfl), ?_⟩
        | refine ⟨_, fun tm ha => step1_min rfl (ev_tmp ha rfl) (ev_tmp ha rfl), ?_⟩
        | (refine ⟨_, loadD q2 g6, ?_⟩)
        | (refine ⟨fun _ => ?_, fun _ => ?_⟩ <;> first | (exfalso; omega) | skip)
        | fail
      refine ⟨_, _, updateB q1 hks hm6 hk, by omega, ?_⟩
      have ho7 := own_put (o := .map (entB W (ks ++ [bl]))) ho6 (show bm < bo by omega)
      generalize hs7 : Heap.set H6 bm _ = H7 at ho7 ⊢
      have g7 := set_get hs7
      have n7 := set_n hs7
      have o7 := set_old hs7
      have hio7 : Ints H7 out (outL bs W i) := ho7.row
      repeat' first
        | refine CO.cons rfl ?_
        | refine CO.nil ?_
        | refine CV.seq ?_
        | refine CV.region callees ?_
        | refine CV.cond ?_
        | refine CV.block ?_
        | refine CV.skip ?_
        | refine CV.exit ?_
        | refine CV.ret ?_
        | refine CV.scope ?_
        | refine CV.draw callees (by decide +kernel) ?_
        | refine CH.cons rfl ?_
        | refine CH.nil ?_
        | refine CO.consG rfl ?_
        | refine CH.consG rfl ?_
        | refine CG.cons rfl ?_
        | refine CR.cons ?_
        | refine CR.nil ?_
        | refine CG.nil ?_
        | refine CG.consG rfl ?_
        | refine ⟨(rfl : plain _ = true), ?_⟩
        | refine ⟨(rfl : nilOk _ = some _), ?_⟩
        | refine ⟨_, ints_len (by assumption), ?_⟩
        | refine ⟨_, ints_addr (by assumption) (by omega) (by omega), ?_⟩
        | refine ⟨_, ints_load (by assumption) (by omega) (by omega), ?_⟩
        | refine ⟨(⟨by omega, by omega⟩ : inI64 _), ?_⟩
        | refine ⟨_, fun tm ha => step1_max rfl (ev_tmp ha rfl) (ev_tmp ha rfl), ?_⟩
        | refine ⟨_, fun tm ha => step1_min rfl (ev_tmp ha rfl) (ev_tmp ha rfl), ?_⟩
        | (refine ⟨fun _ => ?_, fun _ => ?_⟩ <;> first | (exfalso; omega) | skip)
        | fail
      refine put_ask (i := i) ho7 (by omega) (by rw [lo]; exact hi2) ?_
      intro H8 ho8 kb8
      have l8 := kb8.le
      rw [hset] at ho8
      repeat' first
        | refine CO.cons rfl ?_
        | refine CO.nil ?_
        | refine CV.seq ?_
        | refine CV.region callees ?_
        | refine CV.cond ?_
        | refine CV.block ?_
        | refine CV.skip ?_
        | refine CV.exit ?_
        | refine CV.ret ?_
        | refine CV.scope ?_
        | refine CV.draw callees (by decide +kernel) ?_
        | refine CH.cons rfl ?_
        | refine CH.nil ?_
        | refine CO.consG rfl ?_
        | refine CH.consG rfl ?_
        | refine CG.cons rfl ?_
        | refine CR.cons ?_
        | refine CR.nil ?_
        | refine CG.nil ?_
        | refine CG.consG rfl ?_
        | refine ⟨(rfl : plain _ = true), ?_⟩
        | refine ⟨(rfl : nilOk _ = some _), ?_⟩
        | refine ⟨_, ints_len (by assumption), ?_⟩
        | refine ⟨_, ints_addr (by assumption) (by omega) (by omega), ?_⟩
        | refine ⟨_, ints_load (by assumption) (by omega) (by omega), ?_⟩
        | refine ⟨(⟨by omega, by omega⟩ : inI64 _), ?_⟩
        | refine ⟨_, fun tm ha => step1_max rfl (ev_tmp ha rfl) (ev_tmp ha rfl), ?_⟩
        | refine ⟨_, fun tm ha => step1_min rfl (ev_tmp ha rfl) (ev_tmp ha rfl), ?_⟩
        | (refine ⟨fun _ => ?_, fun _ => ?_⟩ <;> first | (exfalso; omega) | skip)
        | fail
      refine ⟨(ks ++ [bl], i + 1), (by repeat' first | exact trivial | refine ⟨rfl, ?_⟩ | refine ⟨slot_int (by (try simp only [Int.toNat_natCast]); omega), ?_⟩), (by (try dsimp only); omega), ?_⟩
      refine ⟨by omega, fun k hk' => ?_, by rw [kb8.get bm (by omega) (fun h => by have := (ho7.lt h).1; omega)]; exact g7, by rw [kb8.get b2 (by omega) (fun h => by have := (ho7.lt h).1; omega), o7 b2 (by omega)]; exact hp6, ho8, by omega, fun c hc => by rw [kb8.get c (by omega) (fun h => by have := (ho7.lt h).1; omega), o7 c (by omega), k6.2 c (by omega), k5.2 c (by omega), ox c hc]⟩
      rw [List.mem_append, List.mem_singleton] at hk'
      rcases hk' with h | rfl
      · exact hks k h
      · exact q1
  · have hil : i = bs.length := by omega
    subst hil
    repeat' first
      | refine CO.cons rfl ?_
      | refine CO.nil ?_
      | refine CV.seq ?_
      | refine CV.region callees ?_
      | refine CV.cond ?_
      | refine CV.block ?_
      | refine CV.skip ?_
      | refine CV.exit ?_
      | refine CV.ret ?_
      | refine CV.scope ?_
      | refine CV.draw callees (by decide +kernel) ?_
      | refine CH.cons rfl ?_
      | refine CH.nil ?_
      | refine CO.consG rfl ?_
      | refine CH.consG rfl ?_
      | refine CG.cons rfl ?_
      | refine CR.cons ?_
      | refine CR.nil ?_
      | refine CG.nil ?_
      | refine CG.consG rfl ?_
      | refine ⟨(rfl : plain _ = true), ?_⟩
      | refine ⟨(rfl : nilOk _ = some _), ?_⟩
      | refine ⟨_, ints_len (by assumption), ?_⟩
      | refine ⟨_, ints_addr (by assumption) (by omega) (by omega), ?_⟩
      | refine ⟨_, ints_load (by assumption) (by omega) (by omega), ?_⟩
      | refine ⟨(⟨by omega, by omega⟩ : inI64 _), ?_⟩
      | refine ⟨_, fun tm ha => step1_max rfl (ev_tmp ha rfl) (ev_tmp ha rfl), ?_⟩
      | refine ⟨_, fun tm ha => step1_min rfl (ev_tmp ha rfl) (ev_tmp ha rfl), ?_⟩
      | (refine ⟨fun _ => ?_, fun _ => ?_⟩ <;> first | (exfalso; omega) | skip)
      | fail
    exact ⟨by simp only [List.all_cons, List.all_nil, hox.notTuple]; rfl, (by rcases hox with h | ⟨b, h1, h2, h3, h4⟩; exact .inl h; exact .inr ⟨b, h1, by omega, h3, h4⟩), kx⟩
end Go.Proofs.Ytlpkbcgdcimglaa



/- How many ways each partition has: Shapes. -/
namespace Go.Proofs.Ytlpkbcgdcimglaa
open Go.AI
set_option linter.unusedVariables false
set_option linter.unusedSimpArgs false
def bsL (n : Nat) : List (List Int) := (List.range (cntR n).1.toNat).map fun (r : Nat) => blocksN (unL n r)
theorem bsL_len {n : Nat} : (bsL n).length = (cntR n).1.toNat := by simp [bsL]
theorem bsL_rows {n : Nat} : (bsL n).map (fun b => b.map VI) = rowsI n (cntR n).1.toNat (cntR n).1.toNat := by
  apply List.ext_getElem
  · simp [bsL, rowsI]
  · intro i h1 h2
    have hi : i < (cntR n).1.toNat := by simpa [bsL] using h1
    simp only [rowsI, bsL, List.getElem_map, List.getElem_range]
    rw [if_pos hi]
theorem bsL_facts {n : Nat} (h1 : 1 ≤ n) (h6 : n ≤ 6) : ∀ i, i < (bsL n).length → (bsL n)[i]! ∈ keysB ∧ (bsL n)[i]!.length = 9 ∧ AllN (fun x => 0 ≤ x ∧ x ≤ 9) (bsL n)[i]! ∧ remS (bsL n)[i]! 9 ≤ 9 := fun i hi => by
  have hi2 : i < (cntR n).1.toNat := by rw [← bsL_len]; exact hi
  have e : (bsL n)[i]! = blocksN (unL n i) := by rw [getElem!_pos _ i hi]; simp [bsL]
  obtain ⟨u1, u2, u3, u4⟩ := un_facts h1 h6 hi2
  have hb := blocks_all (p := unL n i) (by omega)
  have hs := rem_sum (blocks_len (unL n i)) hb
  rw [blocks_sum u3] at hs
  rw [e]
  exact ⟨keys_mem h1 h6 hi2, blocks_len _, hb, by omega⟩
theorem pad_all {xs : List Int} (h6 : xs.length ≤ 6) (h : ∀ i, i < xs.length → 1 ≤ xs[i]! ∧ xs[i]! ≤ 9) : AllN (fun x => 0 ≤ x ∧ x ≤ 9) (pad xs) := fun i hi => by
  rw [pad_len h6] at hi
  by_cases h1 : i < xs.length
  · rw [pad, app_left h1]; have := h i h1; omega
  · rw [pad, app_zero (by omega) (by omega)]; decide
/-- In how many ways each partition comes. -/
def shapesL (xs : List Int) (n : Nat) : List Int := outL (bsL n) (fun b => waysN b 9 (pad xs)) (bsL n).length
set_option maxRecDepth 100000 in
theorem Shapes_spec {B : Nat} {H : Heap} {k : Value} {xs : List Int} {d : Int} (hB : B ≤ H.n) (hv : Ints H k xs) (hS : SV xs d) (h6 : d ≤ 6) :
    CallB Try.prog B 34 [Kv k d] H (fun r H' => (∃ l, r = .tuple #[l, .int .i64 0] ∧ Own 3 H' l ((shapesL xs d.toNat).map VI) H.n) ∧ Keep H H') := by
  obtain ⟨s1, s2, s3, s4, s5, s6⟩ := id hS
  have hdn : d = ((d.toNat : Nat) : Int) := by omega
  refine CV.enter callees false rfl Try.func34 rfl (by kernel_rfl) (Nat.le_of_ble_eq_true rfl) hB ?_
  repeat' first
    | refine CO.cons rfl ?_
    | refine CO.nil ?_
    | refine CV.seq ?_
    | refine CV.region callees ?_
    | refine CV.cond ?_
    | refine CV.block ?_
    | refine CV.skip ?_
    | refine CV.exit ?_
    | refine CV.ret ?_
    | refine CV.scope ?_
    | refine CV.draw callees (by decide +kernel) ?_
    | refine CH.cons rfl ?_
    | refine CH.nil ?_
    | refine CO.consG rfl ?_
    | refine CH.consG rfl ?_
    | refine CG.cons rfl ?_
    | refine CR.cons ?_
    | refine CR.nil ?_
    | refine CG.nil ?_
    | refine CG.consG rfl ?_
    | refine ⟨(rfl : plain _ = true), ?_⟩
    | refine ⟨(rfl : nilOk _ = some _), ?_⟩
    | refine ⟨_, ints_len (by assumption), ?_⟩
    | refine ⟨_, ints_addr (by assumption) (by omega) (by omega), ?_⟩
    | refine ⟨_, ints_load (by assumption) (by omega) (by omega), ?_⟩
    | refine ⟨(⟨by omega, by omega⟩ : inI64 _), ?_⟩
    | refine ⟨_, fun tm ha => step1_max rfl (ev_tmp ha rfl) (ev_tmp ha rfl), ?_⟩
    | refine ⟨_, fun tm ha => step1_min rfl (ev_tmp ha rfl) (ev_tmp ha rfl), ?_⟩
    | (refine ⟨fun _ => ?_, fun _ => ?_⟩ <;> first | (exfalso; omega) | skip)
    | fail
  refine ⟨(by simp only [notTuple]), ?_⟩
  rw [alloc_k (row_one hv)]
  generalize hs0 : H.new (Kc k d) = H0
  have hgk := new_get hs0
  have k0 := new_keep hs0
  have n0 := new_n hs0
  have hv0 : Ints H0 k xs := Row.keep hv k0
  obtain ⟨bk, hbk⟩ : ∃ bk, H.n = bk := ⟨_, rfl⟩
  rw [hbk] at hgk n0 ⊢
  repeat' first
    | refine CO.cons rfl ?_
    | refine CO.nil ?_
    | refine CV.seq ?_
    | refine CV.region callees ?_
    | refine CV.cond ?_
    | refine CV.block ?_
    | refine CV.skip ?_
    | refine CV.exit ?_
    | refine CV.ret ?_
    | refine CV.scope ?_
    | refine CV.draw callees (by decide +kernel) ?_
    | refine CH.cons rfl ?_
    | refine CH.nil ?_
    | refine CO.consG rfl ?_
    | refine CH.consG rfl ?_
    | refine CG.cons rfl ?_
    | refine CR.cons ?_
    | refine CR.nil ?_
    | refine CG.nil ?_
    | refine CG.consG rfl ?_
    | refine ⟨(rfl : plain _ = true), ?_⟩
    | refine ⟨(rfl : nilOk _ = some _), ?_⟩
    | refine ⟨_, ints_len (by assumption), ?_⟩
    | refine ⟨_, ints_addr (by assumption) (by omega) (by omega), ?_⟩
    | refine ⟨_, ints_load (by assumption) (by omega) (by omega), ?_⟩
    | refine ⟨(⟨by omega, by omega⟩ : inI64 _), ?_⟩
    | refine ⟨_, fun tm ha => step1_max rfl (ev_tmp ha rfl) (ev_tmp ha rfl), ?_⟩
    | refine ⟨_, fun tm ha => step1_min rfl (ev_tmp ha rfl) (ev_tmp ha rfl), ?_⟩
    | (refine ⟨_, loadK hgk, ?_⟩)
    | (refine ⟨fun _ => ?_, fun _ => ?_⟩ <;> first | (exfalso; omega) | skip)
    | fail
  refine (check_spec (by omega) hv0 hS).mono ?_
  rintro r H1 ⟨rfl, k1⟩
  have l1 := k1.1
  have hg1 : H1.get bk = some (Kc k d) := by rw [k1.2 bk (by omega)]; exact hgk
  have hv1 : Ints H1 k xs := Row.keep hv0 k1
  repeat' first
    | refine CO.cons rfl ?_
    | refine CO.nil ?_
    | refine CV.seq ?_
    | refine CV.region callees ?_
    | refine CV.cond ?_
    | refine CV.block ?_
    | refine CV.skip ?_
    | refine CV.exit ?_
    | refine CV.ret ?_
    | refine CV.scope ?_
    | refine CV.draw callees (by decide +kernel) ?_
    | refine CH.cons rfl ?_
    | refine CH.nil ?_
    | refine CO.consG rfl ?_
    | refine CH.consG rfl ?_
    | refine CG.cons rfl ?_
    | refine CR.cons ?_
    | refine CR.nil ?_
    | refine CG.nil ?_
    | refine CG.consG rfl ?_
    | refine ⟨(rfl : plain _ = true), ?_⟩
    | refine ⟨(rfl : nilOk _ = some _), ?_⟩
    | refine ⟨_, ints_len (by assumption), ?_⟩
    | refine ⟨_, ints_addr (by assumption) (by omega) (by omega), ?_⟩
    | refine ⟨_, ints_load (by assumption) (by omega) (by omega), ?_⟩
    | refine ⟨(⟨by omega, by omega⟩ : inI64 _), ?_⟩
    | refine ⟨_, fun tm ha => step1_max rfl (ev_tmp ha rfl) (ev_tmp ha rfl), ?_⟩
    | refine ⟨_, fun tm ha => step1_min rfl (ev_tmp ha rfl) (ev_tmp ha rfl), ?_⟩
    | refine CV.wideR callees (by decide +kernel) [(0, []), (1, []), (3, []), (4, []), (2, [4]), (5, []), (6, []), (7, []), (8, [])] (by kernel_rfl) ?_
    | (refine ⟨_, addrK0, ?_⟩)
    | (refine ⟨_, addrK1, ?_⟩)
    | (refine ⟨Value.int .i64 d, cell_load ag3 hg1 rfl, ?_⟩)
    | (refine ⟨_, cell_load ag22 hg1 rfl, ?_⟩)
    | (refine ⟨fun _ => ?_, fun _ => ?_⟩ <;> first | (exfalso; omega) | skip)
    | fail
  refine (mixed_spec (by omega) hv1 s2).mono ?_
  rintro r H2 ⟨rfl, k2⟩
  have l2 := k2.1
  have hg2 : H2.get bk = some (Kc k d) := by rw [k2.2 bk (by omega)]; exact hg1
  repeat' first
    | refine CO.cons rfl ?_
    | refine CO.nil ?_
    | refine CV.seq ?_
    | refine CV.region callees ?_
    | refine CV.cond ?_
    | refine CV.block ?_
    | refine CV.skip ?_
    | refine CV.exit ?_
    | refine CV.ret ?_
    | refine CV.scope ?_
    | refine CV.draw callees (by decide +kernel) ?_
    | refine CH.cons rfl ?_
    | refine CH.nil ?_
    | refine CO.consG rfl ?_
    | refine CH.consG rfl ?_
    | refine CG.cons rfl ?_
    | refine CR.cons ?_
    | refine CR.nil ?_
    | refine CG.nil ?_
    | refine CG.consG rfl ?_
    | refine ⟨(rfl : plain _ = true), ?_⟩
    | refine ⟨(rfl : nilOk _ = some _), ?_⟩
    | refine ⟨_, ints_len (by assumption), ?_⟩
    | refine ⟨_, ints_addr (by assumption) (by omega) (by omega), ?_⟩
    | refine ⟨_, ints_load (by assumption) (by omega) (by omega), ?_⟩
    | refine ⟨(⟨by omega, by omega⟩ : inI64 _), ?_⟩
    | refine ⟨_, fun tm ha => step1_max rfl (ev_tmp ha rfl) (ev_tmp ha rfl), ?_⟩
    | refine ⟨_, fun tm ha => step1_min rfl (ev_tmp ha rfl) (ev_tmp ha rfl), ?_⟩
    | (refine ⟨(rfl : _ = Value.int _ _), ?_⟩)
    | (refine ⟨same_int, ?_⟩)
    | (refine ⟨Value.int .i64 d, cell_load ag3 hg2 rfl, ?_⟩)
    | (refine ⟨fun _ => ?_, fun _ => ?_⟩ <;> first | (exfalso; omega) | skip)
    | fail
  have hab := allBlocks_spec (B := B) (H := H2) (n := d.toNat) (by omega) (by omega) (by omega)
  rw [← hdn] at hab
  refine hab.mono ?_
  rintro sl H3 ⟨hsl, k3⟩
  have l3 := k3.1
  have hsl := hsl.row
  rw [show rowsI d.toNat (cntR d).1.toNat (cntR d).1.toNat = (bsL d.toNat).map (fun b => b.map VI) by rw [bsL_rows, ← hdn]] at hsl
  have hcs := cnt_small (n := d.toNat) (by omega) (by omega)
  have hbl := bsL_len (n := d.toNat)
  repeat' first
    | refine CO.cons rfl ?_
    | refine CO.nil ?_
    | refine CV.seq ?_
    | refine CV.region callees ?_
    | refine CV.cond ?_
    | refine CV.block ?_
    | refine CV.skip ?_
    | refine CV.exit ?_
    | refine CV.ret ?_
    | refine CV.scope ?_
    | refine CV.draw callees (by decide +kernel) ?_
    | refine CH.cons rfl ?_
    | refine CH.nil ?_
    | refine CO.consG rfl ?_
    | refine CH.consG rfl ?_
    | refine CG.cons rfl ?_
    | refine CR.cons ?_
    | refine CR.nil ?_
    | refine CG.nil ?_
    | refine CG.consG rfl ?_
    | refine ⟨(rfl : plain _ = true), ?_⟩
    | refine ⟨(rfl : nilOk _ = some _), ?_⟩
    | refine ⟨_, ints_len (by assumption), ?_⟩
    | refine ⟨_, ints_addr (by assumption) (by omega) (by omega), ?_⟩
    | refine ⟨_, ints_load (by assumption) (by omega) (by omega), ?_⟩
    | refine ⟨(⟨by omega, by omega⟩ : inI64 _), ?_⟩
    | refine ⟨_, fun tm ha => step1_max rfl (ev_tmp ha rfl) (ev_tmp ha rfl), ?_⟩
    | refine ⟨_, fun tm ha => step1_min rfl (ev_tmp ha rfl) (ev_tmp ha rfl), ?_⟩
    | (refine ⟨fun _ => ?_, fun _ => ?_⟩ <;> first | (exfalso; omega) | skip)
    | fail
  refine (shapes_spec (by omega) hsl (by omega) (bsL_facts (by omega) (by omega)) (pad_len s2) (pad_all s2 s3)).mono ?_
  rintro l H4 ⟨hl, k4⟩
  have l4 := k4.1
  repeat' first
    | refine CO.cons rfl ?_
    | refine CO.nil ?_
    | refine CV.seq ?_
    | refine CV.region callees ?_
    | refine CV.cond ?_
    | refine CV.block ?_
    | refine CV.skip ?_
    | refine CV.exit ?_
    | refine CV.ret ?_
    | refine CV.scope ?_
    | refine CV.draw callees (by decide +kernel) ?_
    | refine CH.cons rfl ?_
    | refine CH.nil ?_
    | refine CO.consG rfl ?_
    | refine CH.consG rfl ?_
    | refine CG.cons rfl ?_
    | refine CR.cons ?_
    | refine CR.nil ?_
    | refine CG.nil ?_
    | refine CG.consG rfl ?_
    | refine ⟨(rfl : plain _ = true), ?_⟩
    | refine ⟨(rfl : nilOk _ = some _), ?_⟩
    | refine ⟨_, ints_len (by assumption), ?_⟩
    | refine ⟨_, ints_addr (by assumption) (by omega) (by omega), ?_⟩
    | refine ⟨_, ints_load (by assumption) (by omega) (by omega), ?_⟩
    | refine ⟨(⟨by omega, by omega⟩ : inI64 _), ?_⟩
    | refine ⟨_, fun tm ha => step1_max rfl (ev_tmp ha rfl) (ev_tmp ha rfl), ?_⟩
    | refine ⟨_, fun tm ha => step1_min rfl (ev_tmp ha rfl) (ev_tmp ha rfl), ?_⟩
    | (refine ⟨fun _ => ?_, fun _ => ?_⟩ <;> first | (exfalso; omega) | skip)
    | fail
  exact ⟨by simp only [List.all_cons, List.all_nil, hl.notTuple]; rfl, ⟨l, rfl, (by rcases hl with h | ⟨b, h1, h2, h3, h4⟩; exact .inl h; exact .inr ⟨b, h1, by omega, h3, h4⟩)⟩, k0.trans (k1.trans (k2.trans (k3.trans k4)))⟩
end Go.Proofs.Ytlpkbcgdcimglaa



/- The best guess. -/
namespace Go.Proofs.Ytlpkbcgdcimglaa
open Go.AI
set_option linter.unusedVariables false
set_option linter.unusedSimpArgs false
set_option maxRecDepth 100000 in
theorem index_spec {B : Nat} {H : Heap} {v : Value} {xs : List Int} {t : Int} (hB : B ≤ H.n) (hv : Ints H v xs) (hn : xs.length < 1000000) :
    CallB Try.prog B 93 [v, .int .i64 t] H (fun r H' => r = .int .i64 (if t ∈ xs then (xs.idxOf t : Int) else -1) ∧ H' = H) := by
  refine CV.enter callees false rfl Try.func93 rfl (by kernel_rfl) (Nat.le_of_ble_eq_true rfl) hB ?_
  repeat' first
    | refine CO.cons rfl ?_
    | refine CO.nil ?_
    | refine CV.seq ?_
    | refine CV.region callees ?_
    | refine CV.cond ?_
    | refine CV.block ?_
    | refine CV.skip ?_
    | refine CV.exit ?_
    | refine CV.ret ?_
    | refine CV.scope ?_
    | refine CV.draw callees (by decide +kernel) ?_
    | refine CH.cons rfl ?_
    | refine CH.nil ?_
    | refine CO.consG rfl ?_
    | refine CH.consG rfl ?_
    | refine CG.cons rfl ?_
    | refine CR.cons ?_
    | refine CR.nil ?_
    | refine CG.nil ?_
    | refine CG.consG rfl ?_
    | refine ⟨(rfl : plain _ = true), ?_⟩
    | refine ⟨(rfl : nilOk _ = some _), ?_⟩
    | refine ⟨_, ints_len (by assumption), ?_⟩
    | refine ⟨_, ints_addr (by assumption) (by omega) (by omega), ?_⟩
    | refine ⟨_, ints_load (by assumption) (by omega) (by omega), ?_⟩
    | refine ⟨(⟨by omega, by omega⟩ : inI64 _), ?_⟩
    | refine ⟨_, fun tm ha => step1_max rfl (ev_tmp ha rfl) (ev_tmp ha rfl), ?_⟩
    | refine ⟨_, fun tm ha => step1_min rfl (ev_tmp ha rfl) (ev_tmp ha rfl), ?_⟩
    | (refine ⟨fun _ => ?_, fun _ => ?_⟩ <;> first | (exfalso; omega) | skip)
    | fail
  refine CV.loopc ?_
  refine WCv.rounds callees false (α := Nat) (fun i => [(0, v), (1, .int .i64 t), (7, .int .i64 xs.length), (8, .int .i64 i)]) (fun i Hz => Hz = H ∧ i ≤ xs.length ∧ t ∉ xs.take i) (fun i => xs.length - i) (0) (by repeat' first | exact trivial | refine ⟨rfl, ?_⟩ | refine ⟨slot_int (by (try simp only [Int.toNat_natCast]); omega), ?_⟩) ?_ ?_
  · exact ⟨rfl, by omega, by simp⟩
  rintro i Hx ⟨rfl, hi, hno⟩ hBx
  by_cases hi2 : i < xs.length
  · have hm : xs[i]! ∈ xs := by rw [getElem!_pos xs i hi2]; exact List.getElem_mem _
    have hsn : xs.take (i + 1) = xs.take i ++ [xs[i]!] := by rw [List.take_add_one, List.getElem?_eq_getElem hi2, getElem!_pos xs i hi2]; rfl
    have hxi : xs[(i : Int).toNat]! = xs[i]! := rfl
    repeat' first
      | refine CO.cons rfl ?_
      | refine CO.nil ?_
      | refine CV.seq ?_
      | refine CV.region callees ?_
      | refine CV.cond ?_
      | refine CV.block ?_
      | refine CV.skip ?_
      | refine CV.exit ?_
      | refine CV.ret ?_
      | refine CV.scope ?_
      | refine CV.draw callees (by decide +kernel) ?_
      | refine CH.cons rfl ?_
      | refine CH.nil ?_
      | refine CO.consG rfl ?_
      | refine CH.consG rfl ?_
      | refine CG.cons rfl ?_
      | refine CR.cons ?_
      | refine CR.nil ?_
      | refine CG.nil ?_
      | refine CG.consG rfl ?_
      | refine ⟨(rfl : plain _ = true), ?_⟩
      | refine ⟨(rfl : nilOk _ = some _), ?_⟩
      | refine ⟨_, ints_len (by assumption), ?_⟩
      | refine ⟨_, ints_addr (by assumption) (by omega) (by omega), ?_⟩
      | refine ⟨_, ints_load (by assumption) (by omega) (by omega), ?_⟩
      | refine ⟨(⟨by omega, by omega⟩ : inI64 _), ?_⟩
      | refine ⟨_, fun tm ha => step1_max rfl (ev_tmp ha rfl) (ev_tmp ha rfl), ?_⟩
      | refine ⟨_, fun tm ha => step1_min rfl (ev_tmp ha rfl) (ev_tmp ha rfl), ?_⟩
      | (refine ⟨fun _ => ?_, fun _ => ?_⟩ <;> first | (exfalso; omega) | skip)
      | fail
    · rename_i h1
      have h1 : t = xs[i]! := by first | exact h1 | omega
      refine ⟨rfl, ?_, rfl⟩
      rw [if_pos (by rw [h1]; exact hm)]
      have hd : xs = xs.take i ++ xs.drop i := (List.take_append_drop i xs).symm
      have hdd : xs.drop i = t :: xs.drop (i + 1) := by rw [List.drop_eq_getElem_cons hi2, h1, getElem!_pos xs i hi2]
      have : xs.idxOf t = i := by
        rw [hd, List.idxOf_append, if_neg hno, hdd, List.idxOf_cons_self, List.length_take]; omega
      rw [this]
    · rename_i h1
      have h1 : ¬ t = xs[i]! := by first | exact h1 | omega
      refine ⟨(i + 1), (by repeat' first | exact trivial | refine ⟨rfl, ?_⟩ | refine ⟨slot_int (by (try simp only [Int.toNat_natCast]); omega), ?_⟩), (by (try dsimp only); omega), ?_⟩
      refine ⟨rfl, by omega, ?_⟩
      rw [hsn, List.mem_append, List.mem_singleton]
      exact fun h => h.elim hno h1
  · have : i = xs.length := by omega
    subst this
    rw [List.take_length] at hno
    repeat' first
      | refine CO.cons rfl ?_
      | refine CO.nil ?_
      | refine CV.seq ?_
      | refine CV.region callees ?_
      | refine CV.cond ?_
      | refine CV.block ?_
      | refine CV.skip ?_
      | refine CV.exit ?_
      | refine CV.ret ?_
      | refine CV.scope ?_
      | refine CV.draw callees (by decide +kernel) ?_
      | refine CH.cons rfl ?_
      | refine CH.nil ?_
      | refine CO.consG rfl ?_
      | refine CH.consG rfl ?_
      | refine CG.cons rfl ?_
      | refine CR.cons ?_
      | refine CR.nil ?_
      | refine CG.nil ?_
      | refine CG.consG rfl ?_
      | refine ⟨(rfl : plain _ = true), ?_⟩
      | refine ⟨(rfl : nilOk _ = some _), ?_⟩
      | refine ⟨_, ints_len (by assumption), ?_⟩
      | refine ⟨_, ints_addr (by assumption) (by omega) (by omega), ?_⟩
      | refine ⟨_, ints_load (by assumption) (by omega) (by omega), ?_⟩
      | refine ⟨(⟨by omega, by omega⟩ : inI64 _), ?_⟩
      | refine ⟨_, fun tm ha => step1_max rfl (ev_tmp ha rfl) (ev_tmp ha rfl), ?_⟩
      | refine ⟨_, fun tm ha => step1_min rfl (ev_tmp ha rfl) (ev_tmp ha rfl), ?_⟩
      | (refine ⟨fun _ => ?_, fun _ => ?_⟩ <;> first | (exfalso; omega) | skip)
      | fail
    exact ⟨rfl, by rw [if_neg hno], rfl⟩

theorem shapes_len {xs : List Int} {n : Nat} : (shapesL xs n).length = (cntR n).1.toNat := by rw [shapesL, outL_len, bsL_len]
theorem max_mem {l : List Int} {m : Int} (h : IsMax l m) : m ∈ l := by
  obtain ⟨⟨k, hk, rfl⟩, _⟩ := h
  exact mem_at.2 ⟨k, hk, rfl⟩
set_option maxRecDepth 100000 in
theorem Guess_spec {B : Nat} {H : Heap} {k : Value} {xs : List Int} {d : Int} (hB : B ≤ H.n) (hv : Ints H k xs) (hS : SV xs d) (h6 : d ≤ 6) :
    CallB Try.prog B 36 [Kv k d] H (fun r H' => (∃ p m, r = .tuple #[p, .int .i64 m, .int .i64 0] ∧ IsMax (shapesL xs d.toNat) m ∧ Ints H' p (unL d ((shapesL xs d.toNat).idxOf m))) ∧ Keep H H') := by
  obtain ⟨s1, s2, s3, s4, s5, s6⟩ := id hS
  have hdn : d = ((d.toNat : Nat) : Int) := by omega
  have hlen := shapes_len (xs := xs) (n := d.toNat)
  obtain ⟨c0, c1, c2⟩ := cnt_small (n := d.toNat) (by omega) (by omega)
  refine CV.enter callees false rfl Try.func36 rfl (by kernel_rfl) (Nat.le_of_ble_eq_true rfl) hB ?_
  repeat' first
    | refine CO.cons rfl ?_
    | refine CO.nil ?_
    | refine CV.seq ?_
    | refine CV.region callees ?_
    | refine CV.cond ?_
    | refine CV.block ?_
    | refine CV.skip ?_
    | refine CV.exit ?_
    | refine CV.ret ?_
    | refine CV.scope ?_
    | refine CV.draw callees (by decide +kernel) ?_
    | refine CH.cons rfl ?_
    | refine CH.nil ?_
    | refine CO.consG rfl ?_
    | refine CH.consG rfl ?_
    | refine CG.cons rfl ?_
    | refine CR.cons ?_
    | refine CR.nil ?_
    | refine CG.nil ?_
    | refine CG.consG rfl ?_
    | refine ⟨(rfl : plain _ = true), ?_⟩
    | refine ⟨(rfl : nilOk _ = some _), ?_⟩
    | refine ⟨_, ints_len (by assumption), ?_⟩
    | refine ⟨_, ints_addr (by assumption) (by omega) (by omega), ?_⟩
    | refine ⟨_, ints_load (by assumption) (by omega) (by omega), ?_⟩
    | refine ⟨(⟨by omega, by omega⟩ : inI64 _), ?_⟩
    | refine ⟨_, fun tm ha => step1_max rfl (ev_tmp ha rfl) (ev_tmp ha rfl), ?_⟩
    | refine ⟨_, fun tm ha => step1_min rfl (ev_tmp ha rfl) (ev_tmp ha rfl), ?_⟩
    | (refine ⟨fun _ => ?_, fun _ => ?_⟩ <;> first | (exfalso; omega) | skip)
    | fail
  refine ⟨(by simp only [notTuple]), ?_⟩
  rw [alloc_k (row_one hv)]
  generalize hs0 : H.new (Kc k d) = H0
  have hgk := new_get hs0
  have k0 := new_keep hs0
  have n0 := new_n hs0
  have hv0 : Ints H0 k xs := Row.keep hv k0
  obtain ⟨bk, hbk⟩ : ∃ bk, H.n = bk := ⟨_, rfl⟩
  rw [hbk] at hgk n0 ⊢
  repeat' first
    | refine CO.cons rfl ?_
    | refine CO.nil ?_
    | refine CV.seq ?_
    | refine CV.region callees ?_
    | refine CV.cond ?_
    | refine CV.block ?_
    | refine CV.skip ?_
    | refine CV.exit ?_
    | refine CV.ret ?_
    | refine CV.scope ?_
    | refine CV.draw callees (by decide +kernel) ?_
    | refine CH.cons rfl ?_
    | refine CH.nil ?_
    | refine CO.consG rfl ?_
    | refine CH.consG rfl ?_
    | refine CG.cons rfl ?_
    | refine CR.cons ?_
    | refine CR.nil ?_
    | refine CG.nil ?_
    | refine CG.consG rfl ?_
    | refine ⟨(rfl : plain _ = true), ?_⟩
    | refine ⟨(rfl : nilOk _ = some _), ?_⟩
    | refine ⟨_, ints_len (by assumption), ?_⟩
    | refine ⟨_, ints_addr (by assumption) (by omega) (by omega), ?_⟩
    | refine ⟨_, ints_load (by assumption) (by omega) (by omega), ?_⟩
    | refine ⟨(⟨by omega, by omega⟩ : inI64 _), ?_⟩
    | refine ⟨_, fun tm ha => step1_max rfl (ev_tmp ha rfl) (ev_tmp ha rfl), ?_⟩
    | refine ⟨_, fun tm ha => step1_min rfl (ev_tmp ha rfl) (ev_tmp ha rfl), ?_⟩
    | (refine ⟨_, loadK hgk, ?_⟩)
    | (refine ⟨fun _ => ?_, fun _ => ?_⟩ <;> first | (exfalso; omega) | skip)
    | fail
  refine (Shapes_spec (by omega) hv0 hS h6).mono ?_
  rintro r H1 ⟨⟨l, rfl, hl⟩, k1⟩
  have l1 := k1.1
  have hg1 : H1.get bk = some (Kc k d) := by rw [k1.2 bk (by omega)]; exact hgk
  have hl1 : Ints H1 l (shapesL xs d.toNat) := hl.row
  have hun := fun (r : Nat) => un_facts (n := d.toNat) (r := r) (by omega) (by omega)
  generalize shapesL xs d.toNat = L at hlen hl1 ⊢
  repeat' first
    | refine CO.cons rfl ?_
    | refine CO.nil ?_
    | refine CV.seq ?_
    | refine CV.region callees ?_
    | refine CV.cond ?_
    | refine CV.block ?_
    | refine CV.skip ?_
    | refine CV.exit ?_
    | refine CV.ret ?_
    | refine CV.scope ?_
    | refine CV.draw callees (by decide +kernel) ?_
    | refine CH.cons rfl ?_
    | refine CH.nil ?_
    | refine CO.consG rfl ?_
    | refine CH.consG rfl ?_
    | refine CG.cons rfl ?_
    | refine CR.cons ?_
    | refine CR.nil ?_
    | refine CG.nil ?_
    | refine CG.consG rfl ?_
    | refine ⟨(rfl : plain _ = true), ?_⟩
    | refine ⟨(rfl : nilOk _ = some _), ?_⟩
    | refine ⟨_, ints_len (by assumption), ?_⟩
    | refine ⟨_, ints_addr (by assumption) (by omega) (by omega), ?_⟩
    | refine ⟨_, ints_load (by assumption) (by omega) (by omega), ?_⟩
    | refine ⟨(⟨by omega, by omega⟩ : inI64 _), ?_⟩
    | refine ⟨_, fun tm ha => step1_max rfl (ev_tmp ha rfl) (ev_tmp ha rfl), ?_⟩
    | refine ⟨_, fun tm ha => step1_min rfl (ev_tmp ha rfl) (ev_tmp ha rfl), ?_⟩
    | (refine ⟨fun _ => ?_, fun _ => ?_⟩ <;> first | (exfalso; omega) | skip)
    | fail
  refine (max_spec (by omega) hl1 (by omega) (by omega)).mono ?_
  rintro r H2 ⟨⟨m, rfl, hm⟩, rfl⟩
  repeat' first
    | refine CO.cons rfl ?_
    | refine CO.nil ?_
    | refine CV.seq ?_
    | refine CV.region callees ?_
    | refine CV.cond ?_
    | refine CV.block ?_
    | refine CV.skip ?_
    | refine CV.exit ?_
    | refine CV.ret ?_
    | refine CV.scope ?_
    | refine CV.draw callees (by decide +kernel) ?_
    | refine CH.cons rfl ?_
    | refine CH.nil ?_
    | refine CO.consG rfl ?_
    | refine CH.consG rfl ?_
    | refine CG.cons rfl ?_
    | refine CR.cons ?_
    | refine CR.nil ?_
    | refine CG.nil ?_
    | refine CG.consG rfl ?_
    | refine ⟨(rfl : plain _ = true), ?_⟩
    | refine ⟨(rfl : nilOk _ = some _), ?_⟩
    | refine ⟨_, ints_len (by assumption), ?_⟩
    | refine ⟨_, ints_addr (by assumption) (by omega) (by omega), ?_⟩
    | refine ⟨_, ints_load (by assumption) (by omega) (by omega), ?_⟩
    | refine ⟨(⟨by omega, by omega⟩ : inI64 _), ?_⟩
    | refine ⟨_, fun tm ha => step1_max rfl (ev_tmp ha rfl) (ev_tmp ha rfl), ?_⟩
    | refine ⟨_, fun tm ha => step1_min rfl (ev_tmp ha rfl) (ev_tmp ha rfl), ?_⟩
    | (refine ⟨_, addrK1, ?_⟩)
    | (refine ⟨Value.int .i64 d, cell_load ag3 hg1 rfl, ?_⟩)
    | (refine ⟨fun _ => ?_, fun _ => ?_⟩ <;> first | (exfalso; omega) | skip)
    | fail
  refine CV.wideR callees (by decide +kernel) [(0, []), (1, []), (2, []), (3, []), (4, [1]), (5, []), (6, []), (7, []), (8, []), (9, []), (10, [])] (by kernel_rfl) ?_
  repeat' first
    | refine CO.cons rfl ?_
    | refine CO.nil ?_
    | refine CV.seq ?_
    | refine CV.region callees ?_
    | refine CV.cond ?_
    | refine CV.block ?_
    | refine CV.skip ?_
    | refine CV.exit ?_
    | refine CV.ret ?_
    | refine CV.scope ?_
    | refine CV.draw callees (by decide +kernel) ?_
    | refine CH.cons rfl ?_
    | refine CH.nil ?_
    | refine CO.consG rfl ?_
    | refine CH.consG rfl ?_
    | refine CG.cons rfl ?_
    | refine CR.cons ?_
    | refine CR.nil ?_
    | refine CG.nil ?_
    | refine CG.consG rfl ?_
    | refine ⟨(rfl : plain _ = true), ?_⟩
    | refine ⟨(rfl : nilOk _ = some _), ?_⟩
    | refine ⟨_, ints_len (by assumption), ?_⟩
    | refine ⟨_, ints_addr (by assumption) (by omega) (by omega), ?_⟩
    | refine ⟨_, ints_load (by assumption) (by omega) (by omega), ?_⟩
    | refine ⟨(⟨by omega, by omega⟩ : inI64 _), ?_⟩
    | refine ⟨_, fun tm ha => step1_max rfl (ev_tmp ha rfl) (ev_tmp ha rfl), ?_⟩
    | refine ⟨_, fun tm ha => step1_min rfl (ev_tmp ha rfl) (ev_tmp ha rfl), ?_⟩
    | (refine ⟨_, addrK1, ?_⟩)
    | (refine ⟨Value.int .i64 d, cell_load ag3 hg1 rfl, ?_⟩)
    | (refine ⟨fun _ => ?_, fun _ => ?_⟩ <;> first | (exfalso; omega) | skip)
    | fail
  refine (index_spec (by omega) hl1 (by omega)).mono ?_
  rintro r H3 ⟨rfl, rfl⟩
  rw [if_pos (max_mem hm)]
  have hix := List.idxOf_lt_length_iff.2 (max_mem hm)
  obtain ⟨u1, _, _, _⟩ := hun (L.idxOf m) (by omega)
  rw [← hdn] at u1
  repeat' first
    | refine CO.cons rfl ?_
    | refine CO.nil ?_
    | refine CV.seq ?_
    | refine CV.region callees ?_
    | refine CV.cond ?_
    | refine CV.block ?_
    | refine CV.skip ?_
    | refine CV.exit ?_
    | refine CV.ret ?_
    | refine CV.scope ?_
    | refine CV.draw callees (by decide +kernel) ?_
    | refine CH.cons rfl ?_
    | refine CH.nil ?_
    | refine CO.consG rfl ?_
    | refine CH.consG rfl ?_
    | refine CG.cons rfl ?_
    | refine CR.cons ?_
    | refine CR.nil ?_
    | refine CG.nil ?_
    | refine CG.consG rfl ?_
    | refine ⟨(rfl : plain _ = true), ?_⟩
    | refine ⟨(rfl : nilOk _ = some _), ?_⟩
    | refine ⟨_, ints_len (by assumption), ?_⟩
    | refine ⟨_, ints_addr (by assumption) (by omega) (by omega), ?_⟩
    | refine ⟨_, ints_load (by assumption) (by omega) (by omega), ?_⟩
    | refine ⟨(⟨by omega, by omega⟩ : inI64 _), ?_⟩
    | refine ⟨_, fun tm ha => step1_max rfl (ev_tmp ha rfl) (ev_tmp ha rfl), ?_⟩
    | refine ⟨_, fun tm ha => step1_min rfl (ev_tmp ha rfl) (ev_tmp ha rfl), ?_⟩
    | (refine ⟨(rfl : _ = Value.int _ _), ?_⟩)
    | (refine ⟨same_int, ?_⟩)
    | (refine ⟨_, addrK1, ?_⟩)
    | (refine ⟨Value.int .i64 d, cell_load ag3 hg1 rfl, ?_⟩)
    | (refine ⟨fun _ => ?_, fun _ => ?_⟩ <;> first | (exfalso; omega) | skip)
    | fail
  refine (unrank_spec (n := d) (k := (L.idxOf m : Int)) (by omega) trivial ⟨by omega, by omega⟩).mono ?_
  rintro r H4 ⟨⟨u, rfl, hu⟩, k4⟩
  have l4 := k4.1
  rw [u1]
  repeat' first
    | refine CO.cons rfl ?_
    | refine CO.nil ?_
    | refine CV.seq ?_
    | refine CV.region callees ?_
    | refine CV.cond ?_
    | refine CV.block ?_
    | refine CV.skip ?_
    | refine CV.exit ?_
    | refine CV.ret ?_
    | refine CV.scope ?_
    | refine CV.draw callees (by decide +kernel) ?_
    | refine CH.cons rfl ?_
    | refine CH.nil ?_
    | refine CO.consG rfl ?_
    | refine CH.consG rfl ?_
    | refine CG.cons rfl ?_
    | refine CR.cons ?_
    | refine CR.nil ?_
    | refine CG.nil ?_
    | refine CG.consG rfl ?_
    | refine ⟨(rfl : plain _ = true), ?_⟩
    | refine ⟨(rfl : nilOk _ = some _), ?_⟩
    | refine ⟨_, ints_len (by assumption), ?_⟩
    | refine ⟨_, ints_addr (by assumption) (by omega) (by omega), ?_⟩
    | refine ⟨_, ints_load (by assumption) (by omega) (by omega), ?_⟩
    | refine ⟨(⟨by omega, by omega⟩ : inI64 _), ?_⟩
    | refine ⟨_, fun tm ha => step1_max rfl (ev_tmp ha rfl) (ev_tmp ha rfl), ?_⟩
    | refine ⟨_, fun tm ha => step1_min rfl (ev_tmp ha rfl) (ev_tmp ha rfl), ?_⟩
    | (refine ⟨fun _ => ?_, fun _ => ?_⟩ <;> first | (exfalso; omega) | skip)
    | fail
  exact ⟨by simp only [List.all_cons, List.all_nil, oneC_notTuple hu.oneC.1]; rfl, ⟨u, m, rfl, hm, hu⟩, k0.trans (k1.trans k4)⟩
end Go.Proofs.Ytlpkbcgdcimglaa



/- Stocks made of numbers, of any bounds. -/
namespace Go.Proofs.Ytlpkbcgdcimglaa
open Go.AI
set_option linter.unusedVariables false
set_option linter.unusedSimpArgs false
theorem own_low {e : TypeId} {H : Heap} {v : Value} {vs : List Value} {B B' : Nat} (h : Own e H v vs B) (hB : B' ≤ B) : Own e H v vs B' := by
  rcases h with h | ⟨b, h1, h2, h3, h4⟩
  · exact .inl h
  · exact .inr ⟨b, h1, Nat.le_trans hB h2, h3, h4⟩
set_option maxRecDepth 100000 in
theorem stockOfG_spec {B b : Nat} {H : Heap} {kn ct dr : Int} (hkn : 1 ≤ kn ∧ kn ≤ 6) (hct : 1 ≤ ct ∧ ct ≤ 9) (hdr : 1 ≤ dr ∧ dr ≤ 9) (hB : B ≤ b) (hn : B ≤ H.n) (hb : Box b H) :
    CallB Try.prog B 20 [bp b, .int .i64 kn, .int .i64 ct, .int .i64 dr] H (fun r H' => (∃ kv xs d, r = Kv kv d ∧ Own 3 H' kv (xs.map VI) H.n ∧ SV xs d ∧ d ≤ dr ∧ (xs.length : Int) ≤ kn ∧ ∀ i, i < xs.length → xs[i]! ≤ ct) ∧ Box b H' ∧ KeepX b H H') := by
  refine CV.enter callees false rfl Try.func20 rfl (by kernel_rfl) (Nat.le_of_ble_eq_true rfl) hn ?_
  have hbn := hb.1
  repeat' first
    | refine CO.cons rfl ?_
    | refine CO.nil ?_
    | refine CV.seq ?_
    | refine CV.region callees ?_
    | refine CV.cond ?_
    | refine CV.block ?_
    | refine CV.skip ?_
    | refine CV.exit ?_
    | refine CV.ret ?_
    | refine CV.scope ?_
    | refine CV.draw callees (by decide +kernel) ?_
    | refine CH.cons rfl ?_
    | refine CH.nil ?_
    | refine CO.consG rfl ?_
    | refine CH.consG rfl ?_
    | refine CG.cons rfl ?_
    | refine CR.cons ?_
    | refine CR.nil ?_
    | refine CG.nil ?_
    | refine CG.consG rfl ?_
    | refine ⟨(rfl : plain _ = true), ?_⟩
    | refine ⟨(rfl : nilOk _ = some _), ?_⟩
    | refine ⟨_, ints_len (by assumption), ?_⟩
    | refine ⟨_, ints_addr (by assumption) (by omega) (by omega), ?_⟩
    | refine ⟨_, ints_load (by assumption) (by omega) (by omega), ?_⟩
    | refine ⟨(⟨by omega, by omega⟩ : inI64 _), ?_⟩
    | refine ⟨_, fun tm ha => step1_max rfl (ev_tmp ha rfl) (ev_tmp ha rfl), ?_⟩
    | refine ⟨_, fun tm ha => step1_min rfl (ev_tmp ha rfl) (ev_tmp ha rfl), ?_⟩
    | (refine ⟨_, _, allocK, ?_⟩)
    | (refine ⟨fun _ => ?_, fun _ => ?_⟩ <;> first | (exfalso; omega) | skip)
    | fail
  generalize hs8 : H.new (Kc (.slice none 0 0) 0) = H8
  have hg8 := new_get hs8
  have k8 := new_keep hs8
  have n8 := new_n hs8
  obtain ⟨b8, hb8⟩ : ∃ b8, H.n = b8 := ⟨_, rfl⟩
  rw [hb8] at hg8 n8 ⊢
  generalize hs9 : H8.new (Kc (.slice none 0 0) 0) = H9
  have hg9 := new_get hs9
  have k9 := new_keep hs9
  have n9 := new_n hs9
  obtain ⟨b9, hb9⟩ : ∃ b9, H8.n = b9 := ⟨_, rfl⟩
  rw [hb9] at hg9 n9 ⊢
  have k89 := k8.trans k9
  have hg89 : H9.get b8 = some (Kc (.slice none 0 0) 0) := by rw [k9.2 b8 (by omega)]; exact hg8
  have hbx9 := hb.keep k89
  refine (any_spec (l := 1) (h := kn) hB (by omega) hbx9 (by omega) (by omega) (by omega)).mono ?_
  rintro r H1 ⟨⟨n, rfl, h1, h2⟩, hbx1, x1⟩
  have l1 := x1.1
  have hg81 : H1.get b8 = some (Kc (.slice none 0 0) 0) := by rw [x1.2 b8 (by omega) (by omega)]; exact hg89
  have hg91 : H1.get b9 = some (Kc (.slice none 0 0) 0) := by rw [x1.2 b9 (by omega) (by omega)]; exact hg9
  have xH1 := (k89.butX b).trans x1
  have ln0 : ([] : List Int).length = 0 := rfl
  repeat' first
    | refine CO.cons rfl ?_
    | refine CO.nil ?_
    | refine CV.seq ?_
    | refine CV.region callees ?_
    | refine CV.cond ?_
    | refine CV.block ?_
    | refine CV.skip ?_
    | refine CV.exit ?_
    | refine CV.ret ?_
    | refine CV.scope ?_
    | refine CV.draw callees (by decide +kernel) ?_
    | refine CH.cons rfl ?_
    | refine CH.nil ?_
    | refine CO.consG rfl ?_
    | refine CH.consG rfl ?_
    | refine CG.cons rfl ?_
    | refine CR.cons ?_
    | refine CR.nil ?_
    | refine CG.nil ?_
    | refine CG.consG rfl ?_
    | refine ⟨(rfl : plain _ = true), ?_⟩
    | refine ⟨(rfl : nilOk _ = some _), ?_⟩
    | refine ⟨_, ints_len (by assumption), ?_⟩
    | refine ⟨_, ints_addr (by assumption) (by omega) (by omega), ?_⟩
    | refine ⟨_, ints_load (by assumption) (by omega) (by omega), ?_⟩
    | refine ⟨(⟨by omega, by omega⟩ : inI64 _), ?_⟩
    | refine ⟨_, fun tm ha => step1_max rfl (ev_tmp ha rfl) (ev_tmp ha rfl), ?_⟩
    | refine ⟨_, fun tm ha => step1_min rfl (ev_tmp ha rfl) (ev_tmp ha rfl), ?_⟩
    | (refine ⟨fun _ => ?_, fun _ => ?_⟩ <;> first | (exfalso; omega) | skip)
    | fail
  refine CV.loopc ?_
  refine WCv.rounds callees false (α := Value × List Int) (fun (k, l) => [(0, bp b), (2, .int .i64 ct), (3, .int .i64 dr), (8, .pointer (some ⟨b8, 0, none⟩)), (9, .pointer (some ⟨b9, 0, none⟩)), (10, .int .i64 (sumL l)), (11, .int .i64 (n - l.length))]) (fun (k, l) Hz => l.length ≤ n ∧ (∀ i, i < l.length → 1 ≤ l[i]! ∧ l[i]! ≤ ct) ∧ Hz.get b8 = some (Kc (.slice none 0 0) 0) ∧ Hz.get b9 = some (Kc k 0) ∧ Own 3 Hz k (l.map VI) (b9 + 1) ∧ Box b Hz ∧ KeepX b H Hz ∧ H1.n ≤ Hz.n) (fun (k, l) => (n - l.length).toNat) (.slice none 0 0, []) (by repeat' first | exact trivial | refine ⟨rfl, ?_⟩ | refine ⟨slot_int (by (try simp only [Int.toNat_natCast]); omega), ?_⟩) ?_ ?_
  · exact ⟨by simp; omega, fun i hi => by simp at hi, hg81, hg91, .inl ⟨rfl, rfl⟩, hbx1, xH1, Nat.le_refl _⟩
  rintro ⟨k, l⟩ Hx ⟨hlen, hel, hg8x, hg9x, hk, hbx, xx, lx⟩ hBx
  have hsb := sumL_bound l fun i hi => by have := (hel i hi).2; omega
  have hs0 := sumL_nn l fun i hi => by have := (hel i hi).1; omega
  by_cases hi : (l.length : Int) < n
  · repeat' first
      | refine CO.cons rfl ?_
      | refine CO.nil ?_
      | refine CV.seq ?_
      | refine CV.region callees ?_
      | refine CV.cond ?_
      | refine CV.block ?_
      | refine CV.skip ?_
      | refine CV.exit ?_
      | refine CV.ret ?_
      | refine CV.scope ?_
      | refine CV.draw callees (by decide +kernel) ?_
      | refine CH.cons rfl ?_
      | refine CH.nil ?_
      | refine CO.consG rfl ?_
      | refine CH.consG rfl ?_
      | refine CG.cons rfl ?_
      | refine CR.cons ?_
      | refine CR.nil ?_
      | refine CG.nil ?_
      | refine CG.consG rfl ?_
      | refine ⟨(rfl : plain _ = true), ?_⟩
      | refine ⟨(rfl : nilOk _ = some _), ?_⟩
      | refine ⟨_, ints_len (by assumption), ?_⟩
      | refine ⟨_, ints_addr (by assumption) (by omega) (by omega), ?_⟩
      | refine ⟨_, ints_load (by assumption) (by omega) (by omega), ?_⟩
      | refine ⟨(⟨by omega, by omega⟩ : inI64 _), ?_⟩
      | refine ⟨_, fun tm ha => step1_max rfl (ev_tmp ha rfl) (ev_tmp ha rfl), ?_⟩
      | refine ⟨_, fun tm ha => step1_min rfl (ev_tmp ha rfl) (ev_tmp ha rfl), ?_⟩
      | refine CV.wideR callees (by decide +kernel) [(0, []), (1, []), (2, []), (3, []), (4, [1]), (5, [1]), (6, []), (7, []), (8, [])] (by kernel_rfl) ?_
      | (refine ⟨_, addrK0, ?_⟩)
      | (refine ⟨_, cell_load ag22 hg9x rfl, ?_⟩)
      | (refine ⟨fun _ => ?_, fun _ => ?_⟩ <;> first | (exfalso; omega) | skip)
      | fail
    refine (any_spec (l := 1) (h := ct) hB hBx hbx (by omega) (by omega) (by omega)).mono ?_
    rintro r H2 ⟨⟨y, rfl, y1, y2⟩, hb2, x2⟩
    have l2 := x2.1
    have hg82 : H2.get b8 = some (Kc (.slice none 0 0) 0) := by rw [x2.2 b8 (by omega) (by omega)]; exact hg8x
    have hg92 : H2.get b9 = some (Kc k 0) := by rw [x2.2 b9 (by omega) (by omega)]; exact hg9x
    have hk2 := own_box hk x2 hbx
    have xx2 := xx.trans x2
    repeat' first
      | refine CO.cons rfl ?_
      | refine CO.nil ?_
      | refine CV.seq ?_
      | refine CV.region callees ?_
      | refine CV.cond ?_
      | refine CV.block ?_
      | refine CV.skip ?_
      | refine CV.exit ?_
      | refine CV.ret ?_
      | refine CV.scope ?_
      | refine CV.draw callees (by decide +kernel) ?_
      | refine CH.cons rfl ?_
      | refine CH.nil ?_
      | refine CO.consG rfl ?_
      | refine CH.consG rfl ?_
      | refine CG.cons rfl ?_
      | refine CR.cons ?_
      | refine CR.nil ?_
      | refine CG.nil ?_
      | refine CG.consG rfl ?_
      | refine ⟨(rfl : plain _ = true), ?_⟩
      | refine ⟨(rfl : nilOk _ = some _), ?_⟩
      | refine ⟨_, ints_len (by assumption), ?_⟩
      | refine ⟨_, ints_addr (by assumption) (by omega) (by omega), ?_⟩
      | refine ⟨_, ints_load (by assumption) (by omega) (by omega), ?_⟩
      | refine ⟨(⟨by omega, by omega⟩ : inI64 _), ?_⟩
      | refine ⟨_, fun tm ha => step1_max rfl (ev_tmp ha rfl) (ev_tmp ha rfl), ?_⟩
      | refine ⟨_, fun tm ha => step1_min rfl (ev_tmp ha rfl) (ev_tmp ha rfl), ?_⟩
      | (refine ⟨_, addrK0, ?_⟩)
      | (refine ⟨_, cell_load ag22 hg92 rfl, ?_⟩)
      | (refine ⟨(rfl : _ = k), ?_⟩)
      | (refine ⟨hk2.same, ?_⟩)
      | (refine ⟨_, _, build_one un22 one3 rfl, ?_⟩)
      | (refine ⟨fun _ => ?_, fun _ => ?_⟩ <;> first | (exfalso; omega) | skip)
      | fail
    refine push_ask hk2 (by omega) (by omega) (by omega) ?_
    intro r3 H3 hr3 kb3 hf3
    have ly : (l ++ [y]).length = l.length + 1 := by simp
    have sy := sumL_snoc l y
    have ey : ∀ i, i < (l ++ [y]).length → 1 ≤ (l ++ [y])[i]! ∧ (l ++ [y])[i]! ≤ ct := fun i hi => by
      by_cases h : i < l.length
      · rw [app_left h]; exact hel i h
      · have : i = l.length := by omega
        subst this
        rw [at_snoc, if_neg (by omega), if_pos rfl]; exact ⟨y1, y2⟩
    have hly : (l ++ [y])[l.length]! = y := by rw [at_snoc, if_neg (by omega), if_pos rfl]
    generalize l ++ [y] = m at hr3 ly sy ey hly
    have hg83 : H3.get b8 = some (Kc (.slice none 0 0) 0) := by rw [kb3.get b8 (by omega) (fun h => by have := (hk2.lt h).1; omega)]; exact hg82
    have hg93 : H3.get b9 = some (Kc k 0) := by rw [kb3.get b9 (by omega) (fun h => by have := (hk2.lt h).1; omega)]; exact hg92
    have hb3 := hb2.keepBut kb3 (fun h => by have := (hk2.lt h).1; omega)
    have l3 := kb3.le
    have xx3 := kb3.keepX xx2 fun c hc => by have := (hk2.lt hc).1; omega
    repeat' first
      | refine CO.cons rfl ?_
      | refine CO.nil ?_
      | refine CV.seq ?_
      | refine CV.region callees ?_
      | refine CV.cond ?_
      | refine CV.block ?_
      | refine CV.skip ?_
      | refine CV.exit ?_
      | refine CV.ret ?_
      | refine CV.scope ?_
      | refine CV.draw callees (by decide +kernel) ?_
      | refine CH.cons rfl ?_
      | refine CH.nil ?_
      | refine CO.consG rfl ?_
      | refine CH.consG rfl ?_
      | refine CG.cons rfl ?_
      | refine CR.cons ?_
      | refine CR.nil ?_
      | refine CG.nil ?_
      | refine CG.consG rfl ?_
      | refine ⟨(rfl : plain _ = true), ?_⟩
      | refine ⟨(rfl : nilOk _ = some _), ?_⟩
      | refine ⟨_, ints_len (by assumption), ?_⟩
      | refine ⟨_, ints_addr (by assumption) (by omega) (by omega), ?_⟩
      | refine ⟨_, ints_load (by assumption) (by omega) (by omega), ?_⟩
      | refine ⟨(⟨by omega, by omega⟩ : inI64 _), ?_⟩
      | refine ⟨_, fun tm ha => step1_max rfl (ev_tmp ha rfl) (ev_tmp ha rfl), ?_⟩
      | refine ⟨_, fun tm ha => step1_min rfl (ev_tmp ha rfl) (ev_tmp ha rfl), ?_⟩
      | (refine ⟨_, addrK0, ?_⟩)
      | (refine ⟨fun _ => ?_, fun _ => ?_⟩ <;> first | (exfalso; omega) | skip)
      | fail
    refine ⟨_, _, cell_store (i := 0) sz22 hg93 (show 0 < 2 by decide) hr3.row.oneC.1, by omega, ?_⟩
    generalize hs4 : Heap.set H3 b9 _ = H4
    have hg4 : H4.get b9 = some (Kc r3 0) := set_get hs4
    have n4 := set_n hs4
    have x4 : KeepX b9 H3 H4 := by rw [← hs4]; exact KeepX.set _ _
    have hr4 := hr3.keepX x4 hg93
    have hri4 : Ints H4 r3 m := hr4.row
    have hg84 : H4.get b8 = some (Kc (.slice none 0 0) 0) := by rw [set_old hs4 b8 (by omega)]; exact hg83
    have hb4 := box_put hb3 (by omega) (set_old hs4) n4
    have xx4 := keepX_put xx3 (by omega) (set_old hs4) n4
    have hmi : m[(((m.length : Nat) : Int) - 1).toNat]! = y := by rw [show (((m.length : Nat) : Int) - 1).toNat = l.length by omega]; exact hly
    repeat' first
      | refine CO.cons rfl ?_
      | refine CO.nil ?_
      | refine CV.seq ?_
      | refine CV.region callees ?_
      | refine CV.cond ?_
      | refine CV.block ?_
      | refine CV.skip ?_
      | refine CV.exit ?_
      | refine CV.ret ?_
      | refine CV.scope ?_
      | refine CV.draw callees (by decide +kernel) ?_
      | refine CH.cons rfl ?_
      | refine CH.nil ?_
      | refine CO.consG rfl ?_
      | refine CH.consG rfl ?_
      | refine CG.cons rfl ?_
      | refine CR.cons ?_
      | refine CR.nil ?_
      | refine CG.nil ?_
      | refine CG.consG rfl ?_
      | refine ⟨(rfl : plain _ = true), ?_⟩
      | refine ⟨(rfl : nilOk _ = some _), ?_⟩
      | refine ⟨_, ints_len (by assumption), ?_⟩
      | refine ⟨_, ints_addr (by assumption) (by omega) (by omega), ?_⟩
      | refine ⟨_, ints_load (by assumption) (by omega) (by omega), ?_⟩
      | refine ⟨(⟨by omega, by omega⟩ : inI64 _), ?_⟩
      | refine ⟨_, fun tm ha => step1_max rfl (ev_tmp ha rfl) (ev_tmp ha rfl), ?_⟩
      | refine ⟨_, fun tm ha => step1_min rfl (ev_tmp ha rfl) (ev_tmp ha rfl), ?_⟩
      | (refine ⟨_, addrK0, ?_⟩)
      | (refine ⟨_, cell_load ag22 hg4 rfl, ?_⟩)
      | (refine ⟨fun _ => ?_, fun _ => ?_⟩ <;> first | (exfalso; omega) | skip)
      | fail
    rw [hmi]
    repeat' first
      | refine CO.cons rfl ?_
      | refine CO.nil ?_
      | refine CV.seq ?_
      | refine CV.region callees ?_
      | refine CV.cond ?_
      | refine CV.block ?_
      | refine CV.skip ?_
      | refine CV.exit ?_
      | refine CV.ret ?_
      | refine CV.scope ?_
      | refine CV.draw callees (by decide +kernel) ?_
      | refine CH.cons rfl ?_
      | refine CH.nil ?_
      | refine CO.consG rfl ?_
      | refine CH.consG rfl ?_
      | refine CG.cons rfl ?_
      | refine CR.cons ?_
      | refine CR.nil ?_
      | refine CG.nil ?_
      | refine CG.consG rfl ?_
      | refine ⟨(rfl : plain _ = true), ?_⟩
      | refine ⟨(rfl : nilOk _ = some _), ?_⟩
      | refine ⟨_, ints_len (by assumption), ?_⟩
      | refine ⟨_, ints_addr (by assumption) (by omega) (by omega), ?_⟩
      | refine ⟨_, ints_load (by assumption) (by omega) (by omega), ?_⟩
      | refine ⟨(⟨by omega, by omega⟩ : inI64 _), ?_⟩
      | refine ⟨_, fun tm ha => step1_max rfl (ev_tmp ha rfl) (ev_tmp ha rfl), ?_⟩
      | refine ⟨_, fun tm ha => step1_min rfl (ev_tmp ha rfl) (ev_tmp ha rfl), ?_⟩
      | (refine ⟨fun _ => ?_, fun _ => ?_⟩ <;> first | (exfalso; omega) | skip)
      | fail
    refine ⟨(r3, m), (by repeat' first | exact trivial | refine ⟨rfl, ?_⟩ | refine ⟨slot_int (by (try simp only [Int.toNat_natCast]); omega), ?_⟩), (by (try dsimp only); omega), ?_⟩
    exact ⟨by omega, ey, hg84, hg4, hr4, hb4, xx4, by omega⟩
  · have hln : (l.length : Int) = n := by omega
    have hs1 : 1 ≤ sumL l := by
      have := sumL_le l 0 (fun i hi => by have := (hel i hi).1; omega) (by omega)
      have := (hel 0 (by omega)).1
      omega
    repeat' first
      | refine CO.cons rfl ?_
      | refine CO.nil ?_
      | refine CV.seq ?_
      | refine CV.region callees ?_
      | refine CV.cond ?_
      | refine CV.block ?_
      | refine CV.skip ?_
      | refine CV.exit ?_
      | refine CV.ret ?_
      | refine CV.scope ?_
      | refine CV.draw callees (by decide +kernel) ?_
      | refine CH.cons rfl ?_
      | refine CH.nil ?_
      | refine CO.consG rfl ?_
      | refine CH.consG rfl ?_
      | refine CG.cons rfl ?_
      | refine CR.cons ?_
      | refine CR.nil ?_
      | refine CG.nil ?_
      | refine CG.consG rfl ?_
      | refine ⟨(rfl : plain _ = true), ?_⟩
      | refine ⟨(rfl : nilOk _ = some _), ?_⟩
      | refine ⟨_, ints_len (by assumption), ?_⟩
      | refine ⟨_, ints_addr (by assumption) (by omega) (by omega), ?_⟩
      | refine ⟨_, ints_load (by assumption) (by omega) (by omega), ?_⟩
      | refine ⟨(⟨by omega, by omega⟩ : inI64 _), ?_⟩
      | refine ⟨_, fun tm ha => step1_max rfl (ev_tmp ha rfl) (ev_tmp ha rfl), ?_⟩
      | refine ⟨_, fun tm ha => step1_min rfl (ev_tmp ha rfl) (ev_tmp ha rfl), ?_⟩
      | (refine ⟨fun _ => ?_, fun _ => ?_⟩ <;> first | (exfalso; omega) | skip)
      | fail
    refine (any_spec (l := 1) hB hBx hbx (by omega) (by omega) (by omega)).mono ?_
    rintro r H2 ⟨⟨y, rfl, y1, y2⟩, hb2, x2⟩
    have l2 := x2.1
    have hg82 : H2.get b8 = some (Kc (.slice none 0 0) 0) := by rw [x2.2 b8 (by omega) (by omega)]; exact hg8x
    have hg92 : H2.get b9 = some (Kc k 0) := by rw [x2.2 b9 (by omega) (by omega)]; exact hg9x
    have hk2 := own_box hk x2 hbx
    have xx2 := xx.trans x2
    repeat' first
      | refine CO.cons rfl ?_
      | refine CO.nil ?_
      | refine CV.seq ?_
      | refine CV.region callees ?_
      | refine CV.cond ?_
      | refine CV.block ?_
      | refine CV.skip ?_
      | refine CV.exit ?_
      | refine CV.ret ?_
      | refine CV.scope ?_
      | refine CV.draw callees (by decide +kernel) ?_
      | refine CH.cons rfl ?_
      | refine CH.nil ?_
      | refine CO.consG rfl ?_
      | refine CH.consG rfl ?_
      | refine CG.cons rfl ?_
      | refine CR.cons ?_
      | refine CR.nil ?_
      | refine CG.nil ?_
      | refine CG.consG rfl ?_
      | refine ⟨(rfl : plain _ = true), ?_⟩
      | refine ⟨(rfl : nilOk _ = some _), ?_⟩
      | refine ⟨_, ints_len (by assumption), ?_⟩
      | refine ⟨_, ints_addr (by assumption) (by omega) (by omega), ?_⟩
      | refine ⟨_, ints_load (by assumption) (by omega) (by omega), ?_⟩
      | refine ⟨(⟨by omega, by omega⟩ : inI64 _), ?_⟩
      | refine ⟨_, fun tm ha => step1_max rfl (ev_tmp ha rfl) (ev_tmp ha rfl), ?_⟩
      | refine ⟨_, fun tm ha => step1_min rfl (ev_tmp ha rfl) (ev_tmp ha rfl), ?_⟩
      | (refine ⟨_, addrK1, ?_⟩)
      | (refine ⟨fun _ => ?_, fun _ => ?_⟩ <;> first | (exfalso; omega) | skip)
      | fail
    refine ⟨_, _, cell_store (i := 1) sz3 hg92 (show 1 < 2 by decide) rfl, by omega, ?_⟩
    generalize hs4 : Heap.set H2 b9 _ = H4
    have hg4 : H4.get b9 = some (Kc k y) := set_get hs4
    have n4 := set_n hs4
    have x4 : KeepX b9 H2 H4 := by rw [← hs4]; exact KeepX.set _ _
    have hk4 := hk2.keepX x4 hg92
    have hg84 : H4.get b8 = some (Kc (.slice none 0 0) 0) := by rw [set_old hs4 b8 (by omega)]; exact hg82
    have hb4 := box_put hb2 (by omega) (set_old hs4) n4
    have xx4 := keepX_put xx2 (by omega) (set_old hs4) n4
    repeat' first
      | refine CO.cons rfl ?_
      | refine CO.nil ?_
      | refine CV.seq ?_
      | refine CV.region callees ?_
      | refine CV.cond ?_
      | refine CV.block ?_
      | refine CV.skip ?_
      | refine CV.exit ?_
      | refine CV.ret ?_
      | refine CV.scope ?_
      | refine CV.draw callees (by decide +kernel) ?_
      | refine CH.cons rfl ?_
      | refine CH.nil ?_
      | refine CO.consG rfl ?_
      | refine CH.consG rfl ?_
      | refine CG.cons rfl ?_
      | refine CR.cons ?_
      | refine CR.nil ?_
      | refine CG.nil ?_
      | refine CG.consG rfl ?_
      | refine ⟨(rfl : plain _ = true), ?_⟩
      | refine ⟨(rfl : nilOk _ = some _), ?_⟩
      | refine ⟨_, ints_len (by assumption), ?_⟩
      | refine ⟨_, ints_addr (by assumption) (by omega) (by omega), ?_⟩
      | refine ⟨_, ints_load (by assumption) (by omega) (by omega), ?_⟩
      | refine ⟨(⟨by omega, by omega⟩ : inI64 _), ?_⟩
      | refine ⟨_, fun tm ha => step1_max rfl (ev_tmp ha rfl) (ev_tmp ha rfl), ?_⟩
      | refine ⟨_, fun tm ha => step1_min rfl (ev_tmp ha rfl) (ev_tmp ha rfl), ?_⟩
      | (refine ⟨_, loadK hg4, ?_⟩)
      | (refine ⟨fun _ => ?_, fun _ => ?_⟩ <;> first | (exfalso; omega) | skip)
      | fail
    refine ⟨_, _, storeK hk4.row.oneC.1 hg84, by omega, ?_⟩
    generalize hs5 : Heap.set H4 b8 _ = H5
    have hg5 := set_get hs5
    have n5 := set_n hs5
    have x5 : KeepX b8 H4 H5 := by rw [← hs5]; exact KeepX.set _ _
    have hk5 := hk4.keepX x5 hg84
    have hb5 := box_put hb4 (by omega) (set_old hs5) n5
    have xx5 := keepX_put xx4 (by omega) (set_old hs5) n5
    repeat' first
      | refine CO.cons rfl ?_
      | refine CO.nil ?_
      | refine CV.seq ?_
      | refine CV.region callees ?_
      | refine CV.cond ?_
      | refine CV.block ?_
      | refine CV.skip ?_
      | refine CV.exit ?_
      | refine CV.ret ?_
      | refine CV.scope ?_
      | refine CV.draw callees (by decide +kernel) ?_
      | refine CH.cons rfl ?_
      | refine CH.nil ?_
      | refine CO.consG rfl ?_
      | refine CH.consG rfl ?_
      | refine CG.cons rfl ?_
      | refine CR.cons ?_
      | refine CR.nil ?_
      | refine CG.nil ?_
      | refine CG.consG rfl ?_
      | refine ⟨(rfl : plain _ = true), ?_⟩
      | refine ⟨(rfl : nilOk _ = some _), ?_⟩
      | refine ⟨_, ints_len (by assumption), ?_⟩
      | refine ⟨_, ints_addr (by assumption) (by omega) (by omega), ?_⟩
      | refine ⟨_, ints_load (by assumption) (by omega) (by omega), ?_⟩
      | refine ⟨(⟨by omega, by omega⟩ : inI64 _), ?_⟩
      | refine ⟨_, fun tm ha => step1_max rfl (ev_tmp ha rfl) (ev_tmp ha rfl), ?_⟩
      | refine ⟨_, fun tm ha => step1_min rfl (ev_tmp ha rfl) (ev_tmp ha rfl), ?_⟩
      | (refine ⟨fun _ => ?_, fun _ => ?_⟩ <;> first | (exfalso; omega) | skip)
      | fail
    exact ⟨_, loadK hg5, rfl, ⟨k, l, y, rfl, own_low hk5 (by omega), ⟨by omega, by omega, fun i hi => by have := hel i hi; omega, by omega, by omega, by omega⟩, by omega, by omega, fun i hi => (hel i hi).2⟩, hb5, xx5⟩
end Go.Proofs.Ytlpkbcgdcimglaa

