
/- Picked out of A1.tpl A2.tpl A3.tpl A4.tpl A7.tpl Ma.tpl B0.tpl B1.tpl B2.tpl B3.tpl B4.tpl B5.tpl B6.tpl B8.tpl D1.tpl D2.tpl D3.tpl. -/
import Derived.Test.YtlpkbcgdcimglaaR6d
set_option linter.unusedVariables false
set_option linter.unusedSimpArgs false
namespace Go.Proofs.Ytlpkbcgdcimglaa
open Go.AI

def checkFrom : List Int → Int → Int
  | [], _ => 0
  | x :: r, b => if x < 0 ∨ 9 ≤ x then 2 else if b < x then 11 else checkFrom r (max b (x + 1))
def check (xs : List Int) : Int := if xs.length = 0 then 6 else if 9 < xs.length then 8 else checkFrom xs 0

set_option maxRecDepth 100000 in
theorem chartCheck_spec {B : Nat} {v : Value} {H : Heap} {xs : List Int} (hB : B ≤ H.n) (hv : Ints H v xs) :
    CallB Try.prog B 80 [v] H (fun r H' => r = .int .i64 (check xs) ∧ H' = H) := by
  refine vcF_spec callees (wr := false) rfl Try.func80 rfl ok80 (by simp [Try.ntmps80]) hB ?_
  refine ⟨_, ints_len hv, ?_⟩
  refine ⟨fun h1 => ?_, fun h1 => ?_⟩
  · refine ⟨rfl, ?_, rfl⟩
    have : xs.length = 0 := by simpa using h1
    simp [check, this]
  refine ⟨_, ints_len hv, ?_⟩
  refine ⟨fun h2 => ?_, fun h2 => ?_⟩
  · refine ⟨rfl, ?_, rfl⟩
    have h3 : ¬ xs.length = 0 := by omega
    have h4 : 9 < xs.length := by omega
    simp [check, h3, h4]
  refine ⟨_, ints_len hv, ?_⟩
  have h1' : ¬ xs.length = 0 := by omega
  have h2' : ¬ 9 < xs.length := by omega
  refine WCv.loop callees false (α := Int × Int) (fun a => [(12, v), (13, .int .i64 xs.length), (14, .int .i64 a.1), (3, .int .i64 a.2)]) 
    (fun a Hx => Hx = H ∧ 0 ≤ a.1 ∧ a.1 ≤ xs.length ∧ 0 ≤ a.2 ∧ a.2 ≤ 9 ∧ checkFrom (xs.drop a.1.toNat) a.2 = check xs) (fun a => xs.length - a.1.toNat) (0, 0) ?_ ?_ ?_
  · exact ⟨rfl, rfl, rfl, rfl, trivial⟩
  · exact ⟨rfl, by simp, by simp, by simp, by simp, by simp [check, h1', h2']⟩
  rintro ⟨i, b⟩ Hx ⟨hHx, hi0, hi1, hb0, hb1, hc⟩ _
  subst hHx
  simp only at hi0 hi1 hb0 hb1 hc
  refine ⟨fun h3 => ?_, fun h3 => ?_⟩
  · refine ⟨_, ints_addr hv hi0 h3, ?_⟩
    refine ⟨_, ints_load hv hi0 h3, ?_⟩
    rw [drop_cons (xs := xs) (n := i.toNat) (by omega)] at hc
    generalize xs[i.toNat]! = x at hc ⊢
    rw [checkFrom] at hc
    refine ⟨fun h4 => ?_, fun h4 => ?_⟩
    · refine ⟨rfl, ?_, rfl⟩
      rw [← hc, if_pos (.inl h4)]
    refine ⟨fun h5 => ?_, fun h5 => ?_⟩
    · refine ⟨rfl, ?_, rfl⟩
      rw [← hc, if_pos (.inr h5)]
    rw [if_neg (by omega)] at hc
    refine ⟨fun h6 => ?_, fun h6 => ?_⟩
    · refine ⟨rfl, ?_, rfl⟩
      rw [← hc, if_pos h6]
    rw [if_neg (by omega)] at hc
    refine ⟨⟨by omega, by omega⟩, ?_⟩
    refine ⟨_, fun tm ha => step1_max rfl (ev_tmp ha rfl) (ev_tmp ha rfl), ?_⟩
    refine ⟨⟨by omega, by omega⟩, ?_⟩
    refine ⟨(i + 1, max b (x + 1)), ⟨rfl, rfl, rfl, rfl, trivial⟩, by simp; omega, rfl, by simp; omega, by simp; omega, by simp; omega, by simp; omega, ?_⟩
    simp only
    rw [show (i + 1).toNat = i.toNat + 1 by omega]
    exact hc
  · refine ⟨rfl, ?_, rfl⟩
    rw [← hc, show xs.drop i.toNat = [] by simp; omega]
    rfl

end Go.Proofs.Ytlpkbcgdcimglaa

namespace Go.Proofs.Ytlpkbcgdcimglaa
open Go.AI

end Go.Proofs.Ytlpkbcgdcimglaa

namespace Go.Proofs.Ytlpkbcgdcimglaa
open Go.AI

end Go.Proofs.Ytlpkbcgdcimglaa

namespace Go.Proofs.Ytlpkbcgdcimglaa
open Go.AI

end Go.Proofs.Ytlpkbcgdcimglaa

namespace Go.Proofs.Ytlpkbcgdcimglaa
open Go.AI

end Go.Proofs.Ytlpkbcgdcimglaa

namespace Go.Proofs.Ytlpkbcgdcimglaa
open Go.AI

theorem check_from {xs : List Int} (h : check xs = 0) : checkFrom xs 0 = 0 ∧ 0 < xs.length ∧ xs.length ≤ 9 := by
  unfold check at h
  split at h
  · cases h
  · split at h
    · cases h
    · exact ⟨h, by omega, by omega⟩
end Go.Proofs.Ytlpkbcgdcimglaa

namespace Go.Proofs.Ytlpkbcgdcimglaa
open Go.AI

end Go.Proofs.Ytlpkbcgdcimglaa

namespace Go.Proofs.Ytlpkbcgdcimglaa
open Go.AI
end Go.Proofs.Ytlpkbcgdcimglaa

namespace Go.Proofs.Ytlpkbcgdcimglaa
open Go.AI

end Go.Proofs.Ytlpkbcgdcimglaa

namespace Go.Proofs.Ytlpkbcgdcimglaa
open Go.AI
end Go.Proofs.Ytlpkbcgdcimglaa

namespace Go.Proofs.Ytlpkbcgdcimglaa
open Go.AI
end Go.Proofs.Ytlpkbcgdcimglaa

namespace Go.Proofs.Ytlpkbcgdcimglaa
open Go.AI
end Go.Proofs.Ytlpkbcgdcimglaa

namespace Go.Proofs.Ytlpkbcgdcimglaa
open Go.AI
end Go.Proofs.Ytlpkbcgdcimglaa

namespace Go.Proofs.Ytlpkbcgdcimglaa
open Go.AI
theorem aindex_rows {P : Program} {t e : TypeId} {len s : Nat} (ht : P.underlying t = some (.array len e)) (hs : sizeB P e = some s) (ha : isAggB P e = some true) {l : List Value} {k : Int} {kd : IntKind} (h0 : 0 ≤ k) (h1 : k < len) :
    aindex P t (.agg l.toArray) (.int kd k) = some (.agg ((l.drop (k.toNat * s)).take s).toArray) := by
  simp [aindex, asIdx, ht, hs, h0, h1, apart', ha]
theorem aindex_cell {P : Program} {t e : TypeId} {len : Nat} (ht : P.underlying t = some (.array len e)) (hs : sizeB P e = some 1) (ha : isAggB P e = some false) {l : List Value} {k : Int} {kd : IntKind} {v : Value} (h0 : 0 ≤ k) (h1 : k < len) (hv : l[k.toNat]? = some v) :
    aindex P t (.agg l.toArray) (.int kd k) = some v := by
  simp [aindex, asIdx, ht, hs, h0, h1, apart', ha, hv]
theorem un79 : Try.prog.underlying 128 = some (.array 10 126) := by kernel_rfl
theorem un77 : Try.prog.underlying 126 = some (.array 10 3) := by kernel_rfl
theorem sz77 : sizeB Try.prog 126 = some 10 := by kernel_rfl
theorem ag77 : isAggB Try.prog 126 = some true := by kernel_rfl
theorem tab_row {l : List Int} {n : Int} (h0 : 0 ≤ n) (h1 : n < 10) : aindex Try.prog 128 (tabV l) (.int .i64 n) = some (.agg ((((l.map VI).drop (n.toNat * 10)).take 10).toArray)) :=
  aindex_rows un79 sz77 ag77 h0 (by omega)
theorem tab_cell {l : List Int} {n k : Int} (hl : l.length = 100) (h0 : 0 ≤ n) (h1 : n < 10) (h2 : 0 ≤ k) (h3 : k < 10) : aindex Try.prog 126 (.agg ((((l.map VI).drop (n.toNat * 10)).take 10).toArray)) (.int .i64 k) = some (.int .i64 l[n.toNat * 10 + k.toNat]!) := by
  have hlt : n.toNat * 10 + k.toNat < l.length := by omega
  refine aindex_cell un77 sz3 ag3 h2 (by omega) ?_
  rw [List.getElem?_take_of_lt (by omega), List.getElem?_drop, List.getElem?_map, List.getElem?_eq_getElem hlt, getElem!_pos l _ hlt]
  rfl
theorem endT_len : endT.length = 100 := by decide
def cntR (n : Int) : Int × Int := if n < 1 ∨ 9 < n then (0, 2) else (endT[n.toNat * 10]!, 0)
def pairV (p : Int × Int) : Value := .tuple #[.int .i64 p.1, .int .i64 p.2]

set_option maxRecDepth 100000 in
theorem count_spec {B : Nat} {H : Heap} {n : Int} (hn : B ≤ H.n) (hb : Base H) :
    CallB Try.prog B 61 [.int .i64 n] H (fun r H' => r = pairV (cntR n) ∧ H' = H) := by
  refine CV.enter callees false rfl Try.func61 rfl (by kernel_rfl) (Nat.le_of_ble_eq_true rfl) hn ?_
  repeat' first
    | refine CO.cons rfl ?_
    | refine CO.nil ?_
    | refine CV.seq ?_
    | refine CV.region callees ?_
    | refine CV.cond ?_
    | refine CV.block ?_
    | refine CV.skip ?_
    | refine CV.exit ?_
    | refine CV.ret ?_
    | refine CV.scope ?_
    | refine CV.draw callees (by decide +kernel) ?_
    | refine CH.cons rfl ?_
    | refine CH.nil ?_
    | refine CO.consG rfl ?_
    | refine CH.consG rfl ?_
    | refine CG.cons rfl ?_
    | refine CR.cons ?_
    | refine CR.nil ?_
    | refine CG.nil ?_
    | refine CG.consG rfl ?_
    | refine ⟨(rfl : plain _ = true), ?_⟩
    | refine ⟨(rfl : nilOk _ = some _), ?_⟩
    | refine ⟨_, ints_len (by assumption), ?_⟩
    | refine ⟨_, ints_addr (by assumption) (by omega) (by omega), ?_⟩
    | refine ⟨_, ints_load (by assumption) (by omega) (by omega), ?_⟩
    | refine ⟨(⟨by omega, by omega⟩ : inI64 _), ?_⟩
    | refine ⟨_, fun tm ha => step1_max rfl (ev_tmp ha rfl) (ev_tmp ha rfl), ?_⟩
    | refine ⟨_, fun tm ha => step1_min rfl (ev_tmp ha rfl) (ev_tmp ha rfl), ?_⟩
    | refine CallB.known rfl hb hn ?_
    | refine ⟨_, tab_row (by omega) (by omega), ?_⟩
    | refine ⟨_, tab_cell endT_len (by omega) (by omega) (by omega) (by omega), ?_⟩
    | (refine ⟨fun _ => ?_, fun _ => ?_⟩ <;> first | (exfalso; omega) | skip)
    | fail
  · exact ⟨rfl, by rw [cntR, if_pos (by omega)]; rfl, rfl⟩
  · exact ⟨rfl, by rw [cntR, if_pos (by omega)]; rfl, rfl⟩
  · exact ⟨rfl, by rw [cntR, if_neg (by omega)]; rfl, rfl⟩
end Go.Proofs.Ytlpkbcgdcimglaa

namespace Go.AI
end Go.AI
namespace Go.Proofs.Ytlpkbcgdcimglaa
open Go.AI
theorem zero79 : zeroCells Try.prog 128 = some (List.replicate 100 (VI 0)) := by kernel_rfl
theorem sz79 : sizeB Try.prog 128 = some 100 := by kernel_rfl
theorem alloc79 {H : Heap} : sAlloc Try.prog H 128 = some (.pointer (some ⟨H.n, 0, none⟩), H.new (.cells (List.replicate 100 (VI 0)) 128 1), H.n) := alloc_of zero79
theorem store79 {H : Heap} {b : Nat} {cs : List Value} {T : List Int} (hT : T.length = 100) (hb : H.get b = some (.cells cs 128 1)) (hl : cs.length = 100) :
    astore Try.prog 128 H (tabV T) (.pointer (some ⟨b, 0, none⟩)) = some (H.set b (.cells (T.map VI) 128 1), b) :=
  store_all (vs := T.map VI) hb (by rw [List.length_map, hl, hT]) (by rw [List.length_map, hT]; exact sz79) (by simp [oneC])
theorem tab_addr {b i : Nat} {n : Int} (h0 : 0 ≤ n) (h1 : n < 10) : aindexAddr Try.prog 128 (.pointer (some ⟨b, i, none⟩)) (.int .i64 n) = some (.pointer (some ⟨b, i + n.toNat * 10, none⟩)) := array_addr un79 sz77 h0 (by omega)
theorem row_addr {b i : Nat} {n : Int} (h0 : 0 ≤ n) (h1 : n < 10) : aindexAddr Try.prog 126 (.pointer (some ⟨b, i, none⟩)) (.int .i64 n) = some (.pointer (some ⟨b, i + n.toNat * 1, none⟩)) := array_addr un77 sz3 h0 (by omega)
theorem tab_load {H : Heap} {b : Nat} {T : List Int} {n k : Int} (hT : T.length = 100) (hb : H.get b = some (.cells (T.map VI) 128 1)) (h0 : 0 ≤ n) (h1 : n < 10) (h2 : 0 ≤ k) (h3 : k < 10) :
    aload Try.prog 3 H (.pointer (some ⟨b, 0 + n.toNat * 10 + k.toNat * 1, none⟩)) = some (.int .i64 T[n.toNat * 10 + k.toNat]!) := by
  have hlt : n.toNat * 10 + k.toNat < T.length := by omega
  simp only [aload, hb, ag3]
  rw [show 0 + n.toNat * 10 + k.toNat * 1 = n.toNat * 10 + k.toNat by omega, List.getElem?_map, List.getElem?_eq_getElem hlt, getElem!_pos T _ hlt]
  rfl

/-- How many ways there are to go on. -/
def behM : Nat → Int → Int
  | 0, _ => 1
  | n + 1, b => b * behM n b + behM n (b + 1)
theorem beh_in : ∀ n < 10, ∀ b < 10, n + b ≤ 9 → 1 ≤ behM n (b : Nat) ∧ behM n (b : Nat) ≤ 21147 ∧ endT[n * 10 + b]! = behM n (b : Nat) := by decide +kernel
theorem beh_at {n : Nat} {b : Int} (h0 : 0 ≤ b) (h1 : (n : Int) + b ≤ 9) : 1 ≤ behM n b ∧ behM n b ≤ 21147 ∧ endT[n * 10 + b.toNat]! = behM n b := by
  have := beh_in n (by omega) b.toNat (by omega) (by omega)
  rwa [show ((b.toNat : Nat) : Int) = b by omega] at this
/-- The rank, from a place on. -/
def rkF : List Int → Int → Int
  | [], _ => 0
  | x :: r, b => x * behM r.length b + rkF r (max b (x + 1))
theorem mul_bound {x y : Int} (h0 : 0 ≤ x) (h1 : x ≤ 8) (h2 : 1 ≤ y) (h3 : y ≤ 21147) : 0 ≤ x * y ∧ x * y ≤ 8 * 21147 := ⟨Int.mul_nonneg h0 (by omega), Int.mul_le_mul h1 h3 (by omega) (by decide)⟩
def rankR (xs : List Int) : Int × Int := if check xs = 0 then (rkF xs 0, 0) else (0, check xs)
theorem from_step {x b : Int} {r : List Int} (h : checkFrom (x :: r) b = 0) : 0 ≤ x ∧ x ≤ 8 ∧ x ≤ b ∧ checkFrom r (max b (x + 1)) = 0 := by
  rw [checkFrom] at h
  split at h
  · cases h
  split at h
  · cases h
  exact ⟨by omega, by omega, by omega, h⟩

set_option maxRecDepth 100000 in
theorem rank_spec {B : Nat} {v : Value} {H : Heap} {xs : List Int} (hn : B ≤ H.n) (hb : Base H) (hv : Ints H v xs) :
    CallB Try.prog B 65 [v] H (fun r H' => r = pairV (rankR xs) ∧ Keep H H') := by
  refine CV.enter callees false rfl Try.func65 rfl (by kernel_rfl) (Nat.le_of_ble_eq_true rfl) hn ?_
  repeat' first
    | refine CO.cons rfl ?_
    | refine CO.nil ?_
    | refine CV.seq ?_
    | refine CV.region callees ?_
    | refine CV.cond ?_
    | refine CV.block ?_
    | refine CV.skip ?_
    | refine CV.exit ?_
    | refine CV.ret ?_
    | refine CV.scope ?_
    | refine CV.draw callees (by decide +kernel) ?_
    | refine CH.cons rfl ?_
    | refine CH.nil ?_
    | refine CO.consG rfl ?_
    | refine CH.consG rfl ?_
    | refine CG.cons rfl ?_
    | refine CR.cons ?_
    | refine CR.nil ?_
    | refine CG.nil ?_
    | refine CG.consG rfl ?_
    | refine ⟨(rfl : plain _ = true), ?_⟩
    | refine ⟨(rfl : nilOk _ = some _), ?_⟩
    | refine ⟨_, ints_len (by assumption), ?_⟩
    | refine ⟨_, ints_addr (by assumption) (by omega) (by omega), ?_⟩
    | refine ⟨_, ints_load (by assumption) (by omega) (by omega), ?_⟩
    | refine ⟨(⟨by omega, by omega⟩ : inI64 _), ?_⟩
    | refine ⟨_, fun tm ha => step1_max rfl (ev_tmp ha rfl) (ev_tmp ha rfl), ?_⟩
    | refine ⟨_, fun tm ha => step1_min rfl (ev_tmp ha rfl) (ev_tmp ha rfl), ?_⟩
    | (refine ⟨fun _ => ?_, fun _ => ?_⟩ <;> first | (exfalso; omega) | skip)
    | fail
  refine (chartCheck_spec hn hv).mono ?_
  rintro r H1 ⟨rfl, rfl⟩
  repeat' first
    | refine CO.cons rfl ?_
    | refine CO.nil ?_
    | refine CV.seq ?_
    | refine CV.region callees ?_
    | refine CV.cond ?_
    | refine CV.block ?_
    | refine CV.skip ?_
    | refine CV.exit ?_
    | refine CV.ret ?_
    | refine CV.scope ?_
    | refine CV.draw callees (by decide +kernel) ?_
    | refine CH.cons rfl ?_
    | refine CH.nil ?_
    | refine CO.consG rfl ?_
    | refine CH.consG rfl ?_
    | refine CG.cons rfl ?_
    | refine CR.cons ?_
    | refine CR.nil ?_
    | refine CG.nil ?_
    | refine CG.consG rfl ?_
    | refine ⟨(rfl : plain _ = true), ?_⟩
    | refine ⟨(rfl : nilOk _ = some _), ?_⟩
    | refine ⟨_, ints_len (by assumption), ?_⟩
    | refine ⟨_, ints_addr (by assumption) (by omega) (by omega), ?_⟩
    | refine ⟨_, ints_load (by assumption) (by omega) (by omega), ?_⟩
    | refine ⟨(⟨by omega, by omega⟩ : inI64 _), ?_⟩
    | refine ⟨_, fun tm ha => step1_max rfl (ev_tmp ha rfl) (ev_tmp ha rfl), ?_⟩
    | refine ⟨_, fun tm ha => step1_min rfl (ev_tmp ha rfl) (ev_tmp ha rfl), ?_⟩
    | (refine ⟨fun _ => ?_, fun _ => ?_⟩ <;> first | (exfalso; omega) | skip)
    | fail
  · exact ⟨rfl, by rw [rankR, if_neg (by assumption)]; rfl, Keep.refl _⟩
  have h0 : check xs = 0 := Classical.not_not.1 (by assumption)
  have hlx := check_from h0
  have hg : (H1.new (.cells (List.replicate 100 (VI 0)) 128 1)).get H1.n = some (.cells (List.replicate 100 (VI 0)) 128 1) := Heap.get_new_eq _ _
  have k1 : Keep H1 ((H1.new (.cells (List.replicate 100 (VI 0)) 128 1)).set H1.n (.cells (endT.map VI) 128 1)) := (Keep.new _ _).set _ (Nat.le_refl _)
  have hg2 : ((H1.new (.cells (List.replicate 100 (VI 0)) 128 1)).set H1.n (.cells (endT.map VI) 128 1)).get H1.n = some (.cells (endT.map VI) 128 1) := Heap.get_set_eq _ _ _
  have hv2 : Ints _ v xs := Row.keep hv k1
  generalize hH2 : (H1.new (.cells (List.replicate 100 (VI 0)) 128 1)).set H1.n (.cells (endT.map VI) 128 1) = H2 at k1 hg2 hv2
  repeat' first
    | refine CO.cons rfl ?_
    | refine CO.nil ?_
    | refine CV.seq ?_
    | refine CV.region callees ?_
    | refine CV.cond ?_
    | refine CV.block ?_
    | refine CV.skip ?_
    | refine CV.exit ?_
    | refine CV.ret ?_
    | refine CV.scope ?_
    | refine CV.draw callees (by decide +kernel) ?_
    | refine CH.cons rfl ?_
    | refine CH.nil ?_
    | refine CO.consG rfl ?_
    | refine CH.consG rfl ?_
    | refine CG.cons rfl ?_
    | refine CR.cons ?_
    | refine CR.nil ?_
    | refine CG.nil ?_
    | refine CG.consG rfl ?_
    | refine ⟨(rfl : plain _ = true), ?_⟩
    | refine ⟨(rfl : nilOk _ = some _), ?_⟩
    | refine ⟨_, ints_len (by assumption), ?_⟩
    | refine ⟨_, ints_addr (by assumption) (by omega) (by omega), ?_⟩
    | refine ⟨_, ints_load (by assumption) (by omega) (by omega), ?_⟩
    | refine ⟨(⟨by omega, by omega⟩ : inI64 _), ?_⟩
    | refine ⟨_, fun tm ha => step1_max rfl (ev_tmp ha rfl) (ev_tmp ha rfl), ?_⟩
    | refine ⟨_, fun tm ha => step1_min rfl (ev_tmp ha rfl) (ev_tmp ha rfl), ?_⟩
    | refine CallB.known rfl hb hn ?_
    | refine ⟨_, _, alloc79, ?_⟩
    | refine ⟨_, _, store79 endT_len hg (by simp), hn, ?_⟩
    | (refine ⟨fun _ => ?_, fun _ => ?_⟩ <;> first | (exfalso; omega) | skip)
    | fail
  rw [hH2]
  repeat' first
    | refine CO.cons rfl ?_
    | refine CO.nil ?_
    | refine CV.seq ?_
    | refine CV.region callees ?_
    | refine CV.cond ?_
    | refine CV.block ?_
    | refine CV.skip ?_
    | refine CV.exit ?_
    | refine CV.ret ?_
    | refine CV.scope ?_
    | refine CV.draw callees (by decide +kernel) ?_
    | refine CH.cons rfl ?_
    | refine CH.nil ?_
    | refine CO.consG rfl ?_
    | refine CH.consG rfl ?_
    | refine CG.cons rfl ?_
    | refine CR.cons ?_
    | refine CR.nil ?_
    | refine CG.nil ?_
    | refine CG.consG rfl ?_
    | refine ⟨(rfl : plain _ = true), ?_⟩
    | refine ⟨(rfl : nilOk _ = some _), ?_⟩
    | refine ⟨_, ints_len (by assumption), ?_⟩
    | refine ⟨_, ints_addr (by assumption) (by omega) (by omega), ?_⟩
    | refine ⟨_, ints_load (by assumption) (by omega) (by omega), ?_⟩
    | refine ⟨(⟨by omega, by omega⟩ : inI64 _), ?_⟩
    | refine ⟨_, fun tm ha => step1_max rfl (ev_tmp ha rfl) (ev_tmp ha rfl), ?_⟩
    | refine ⟨_, fun tm ha => step1_min rfl (ev_tmp ha rfl) (ev_tmp ha rfl), ?_⟩
    | (refine ⟨fun _ => ?_, fun _ => ?_⟩ <;> first | (exfalso; omega) | skip)
    | fail
  refine CV.loopc ?_
  refine WCv.rounds callees false (α := Int × Int × Int) (fun (i, s, m) => [(0, v), (5, .pointer (some ⟨H1.n, 0, none⟩)), (6, .int .i64 s), (7, .int .i64 m), (16, v), (17, .int .i64 xs.length), (18, .int .i64 i)]) (fun (i, s, m) Hz => Hz = H2 ∧ 0 ≤ i ∧ i ≤ xs.length ∧ 0 ≤ m ∧ m ≤ i ∧ 0 ≤ s ∧ s ≤ i * 200000 ∧ checkFrom (xs.drop i.toNat) m = 0 ∧ s + rkF (xs.drop i.toNat) m = rkF xs 0) (fun (i, s, m) => xs.length - i.toNat) (0, 0, 0) (by repeat' first | exact trivial | refine ⟨rfl, ?_⟩) ?_ ?_
  · exact ⟨rfl, by omega, by omega, by omega, by omega, by omega, by omega, hlx.1, by simp⟩
  rintro ⟨i, s, m⟩ Hx ⟨rfl, hi0, hi1, hm0, hm1, hs0, hs1, hc, hr⟩ _
  by_cases hi : i < xs.length
  · have hdl : (xs.drop (i.toNat + 1)).length = ((xs.length : Int) - 1 - i).toNat := by simp; omega
    rw [drop_cons (xs := xs) (n := i.toNat) (by omega)] at hc hr
    obtain ⟨hx0, hx8, hxm, hc'⟩ := from_step hc
    have be := beh_at (n := ((xs.length : Int) - 1 - i).toNat) (b := m) hm0 (by omega)
    rw [rkF, hdl] at hr
    rw [← be.2.2] at hr
    have mb := mul_bound (x := xs[i.toNat]!) (y := endT[((xs.length : Int) - 1 - i).toNat * 10 + m.toNat]!) hx0 hx8 (by omega) (by omega)
    repeat' first
      | refine CO.cons rfl ?_
      | refine CO.nil ?_
      | refine CV.seq ?_
      | refine CV.region callees ?_
      | refine CV.cond ?_
      | refine CV.block ?_
      | refine CV.skip ?_
      | refine CV.exit ?_
      | refine CV.ret ?_
      | refine CV.scope ?_
      | refine CV.draw callees (by decide +kernel) ?_
      | refine CH.cons rfl ?_
      | refine CH.nil ?_
      | refine CO.consG rfl ?_
      | refine CH.consG rfl ?_
      | refine CG.cons rfl ?_
      | refine CR.cons ?_
      | refine CR.nil ?_
      | refine CG.nil ?_
      | refine CG.consG rfl ?_
      | refine ⟨(rfl : plain _ = true), ?_⟩
      | refine ⟨(rfl : nilOk _ = some _), ?_⟩
      | refine ⟨_, ints_len (by assumption), ?_⟩
      | refine ⟨_, ints_addr (by assumption) (by omega) (by omega), ?_⟩
      | refine ⟨_, ints_load (by assumption) (by omega) (by omega), ?_⟩
      | refine ⟨(⟨by omega, by omega⟩ : inI64 _), ?_⟩
      | refine ⟨_, fun tm ha => step1_max rfl (ev_tmp ha rfl) (ev_tmp ha rfl), ?_⟩
      | refine ⟨_, fun tm ha => step1_min rfl (ev_tmp ha rfl) (ev_tmp ha rfl), ?_⟩
      | refine ⟨_, tab_addr (by omega) (by omega), ?_⟩
      | refine ⟨_, row_addr (by omega) (by omega), ?_⟩
      | refine ⟨_, tab_load endT_len hg2 (by omega) (by omega) (by omega) (by omega), ?_⟩
      | (refine ⟨fun _ => ?_, fun _ => ?_⟩ <;> first | (exfalso; omega) | skip)
      | fail
    refine ⟨(i + 1, s + xs[i.toNat]! * endT[((xs.length : Int) - 1 - i).toNat * 10 + m.toNat]!, max m (xs[i.toNat]! + 1)), (by repeat' first | exact trivial | refine ⟨rfl, ?_⟩), (by (try dsimp only); omega), ?_⟩
    have e : (i + 1).toNat = i.toNat + 1 := by omega
    refine ⟨rfl, by omega, by omega, by omega, by omega, by omega, by omega, by rw [e]; exact hc', by rw [e]; omega⟩
  · rw [show xs.drop i.toNat = [] by simp; omega, rkF] at hr
    repeat' first
      | refine CO.cons rfl ?_
      | refine CO.nil ?_
      | refine CV.seq ?_
      | refine CV.region callees ?_
      | refine CV.cond ?_
      | refine CV.block ?_
      | refine CV.skip ?_
      | refine CV.exit ?_
      | refine CV.ret ?_
      | refine CV.scope ?_
      | refine CV.draw callees (by decide +kernel) ?_
      | refine CH.cons rfl ?_
      | refine CH.nil ?_
      | refine CO.consG rfl ?_
      | refine CH.consG rfl ?_
      | refine CG.cons rfl ?_
      | refine CR.cons ?_
      | refine CR.nil ?_
      | refine CG.nil ?_
      | refine CG.consG rfl ?_
      | refine ⟨(rfl : plain _ = true), ?_⟩
      | refine ⟨(rfl : nilOk _ = some _), ?_⟩
      | refine ⟨_, ints_len (by assumption), ?_⟩
      | refine ⟨_, ints_addr (by assumption) (by omega) (by omega), ?_⟩
      | refine ⟨_, ints_load (by assumption) (by omega) (by omega), ?_⟩
      | refine ⟨(⟨by omega, by omega⟩ : inI64 _), ?_⟩
      | refine ⟨_, fun tm ha => step1_max rfl (ev_tmp ha rfl) (ev_tmp ha rfl), ?_⟩
      | refine ⟨_, fun tm ha => step1_min rfl (ev_tmp ha rfl) (ev_tmp ha rfl), ?_⟩
      | (refine ⟨fun _ => ?_, fun _ => ?_⟩ <;> first | (exfalso; omega) | skip)
      | fail
    exact ⟨rfl, by rw [rankR, if_pos h0, ← hr]; simp [pairV], k1⟩
end Go.Proofs.Ytlpkbcgdcimglaa

namespace Go.Proofs.Ytlpkbcgdcimglaa
open Go.AI
/-- The partition that has a rank, from a place on. -/
def unM : Nat → Int → Int → List Int
  | 0, _, _ => []
  | m + 1, rest, b => min (rest.tdiv (behM m b)) b :: unM m (rest - min (rest.tdiv (behM m b)) b * behM m b) (max b (min (rest.tdiv (behM m b)) b + 1))
def unE (n rank : Int) : Int := if (cntR n).2 ≠ 0 then (cntR n).2 else if rank < 0 ∨ (cntR n).1 ≤ rank then 7 else 0
def unL (n rank : Int) : List Int := if unE n rank = 0 then unM n.toNat rank 0 else []
theorem un_step {rest e b : Int} (h0 : 0 ≤ rest) (h1 : rest ≤ 21147) (he : 1 ≤ e) (hb0 : 0 ≤ b) : 0 ≤ rest.tdiv e ∧ rest.tdiv e ≤ 21147 ∧ 0 ≤ min (rest.tdiv e) b ∧ min (rest.tdiv e) b ≤ b ∧ 0 ≤ min (rest.tdiv e) b * e ∧ min (rest.tdiv e) b * e ≤ rest := by
  have h2 : 0 ≤ rest.tdiv e := Int.tdiv_nonneg h0 (by omega)
  have h3 : rest.tdiv e * e ≤ rest := by
    rw [Int.tdiv_eq_ediv_of_nonneg h0]
    exact Int.ediv_mul_le rest (by omega)
  have h4 : rest.tdiv e ≤ rest := by
    rw [Int.tdiv_eq_ediv_of_nonneg h0]
    exact Int.ediv_le_self e h0
  have h5 : 0 ≤ min (rest.tdiv e) b := by omega
  exact ⟨h2, by omega, h5, by omega, Int.mul_nonneg h5 (by omega), Int.le_trans (Int.mul_le_mul_of_nonneg_right (by omega) (by omega)) h3⟩
end Go.Proofs.Ytlpkbcgdcimglaa

namespace Go.Proofs.Ytlpkbcgdcimglaa
open Go.AI
theorem step1_quoI {P : Program} {tm : Tm} {H : Heap} {o : Oper} {t u : TypeId} {x y : Operand} {a b : Int} (ho : o.op = .binOp .quo t x y u) (hx : ev P tm x = some (.int .i64 a)) (hy : ev P tm y = some (.int .i64 b)) (hb : b ≠ 0) (h0 : -9223372036854775808 ≤ a.tdiv b) (h1 : a.tdiv b < 9223372036854775808) : step1 P tm H o = some (.int .i64 (a.tdiv b), H, H.n) := by
  have := step1_quo ho hx hy hb (H := H)
  rw [wrapI h0 h1] at this
  exact this
theorem cnt_bound {n : Int} (h : (cntR n).2 = 0) : 1 ≤ n ∧ n ≤ 9 ∧ 1 ≤ (cntR n).1 ∧ (cntR n).1 ≤ 21147 := by
  unfold cntR at h ⊢
  split at h
  · cases h
  · rename_i hn
    rw [if_neg hn]
    have := beh_at (n := n.toNat) (b := 0) (by omega) (by omega)
    simp only [Int.toNat_zero, Nat.add_zero] at this
    exact ⟨by omega, by omega, by rw [this.2.2]; omega, by rw [this.2.2]; omega⟩
set_option maxHeartbeats 1000000 in
set_option maxRecDepth 100000 in
theorem unrank_spec {B : Nat} {H : Heap} {n k : Int} (hn : B ≤ H.n) (hb : Base H) (hk : inI64 k) :
    CallB Try.prog B 62 [.int .i64 n, .int .i64 k] H (fun r H' => (∃ u, r = .tuple #[u, .int .i64 (unE n k)] ∧ Ints H' u (unL n k)) ∧ Keep H H') := by
  obtain ⟨hk0, hk1⟩ := hk
  refine CV.enter callees false rfl Try.func62 rfl (by kernel_rfl) (Nat.le_of_ble_eq_true rfl) hn ?_
  repeat' first
    | refine CO.cons rfl ?_
    | refine CO.nil ?_
    | refine CV.seq ?_
    | refine CV.region callees ?_
    | refine CV.cond ?_
    | refine CV.block ?_
    | refine CV.skip ?_
    | refine CV.exit ?_
    | refine CV.ret ?_
    | refine CV.scope ?_
    | refine CV.draw callees (by decide +kernel) ?_
    | refine CH.cons rfl ?_
    | refine CH.nil ?_
    | refine CO.consG rfl ?_
    | refine CH.consG rfl ?_
    | refine CG.cons rfl ?_
    | refine CR.cons ?_
    | refine CR.nil ?_
    | refine CG.nil ?_
    | refine CG.consG rfl ?_
    | refine ⟨(rfl : plain _ = true), ?_⟩
    | refine ⟨(rfl : nilOk _ = some _), ?_⟩
    | refine ⟨_, ints_len (by assumption), ?_⟩
    | refine ⟨_, ints_addr (by assumption) (by omega) (by omega), ?_⟩
    | refine ⟨_, ints_load (by assumption) (by omega) (by omega), ?_⟩
    | refine ⟨(⟨by omega, by omega⟩ : inI64 _), ?_⟩
    | refine ⟨_, fun tm ha => step1_max rfl (ev_tmp ha rfl) (ev_tmp ha rfl), ?_⟩
    | refine ⟨_, fun tm ha => step1_min rfl (ev_tmp ha rfl) (ev_tmp ha rfl), ?_⟩
    | (refine ⟨fun _ => ?_, fun _ => ?_⟩ <;> first | (exfalso; omega) | skip)
    | fail
  refine (count_spec hn hb).mono ?_
  rintro r H1 ⟨rfl, rfl⟩
  repeat' first
    | refine CO.cons rfl ?_
    | refine CO.nil ?_
    | refine CV.seq ?_
    | refine CV.region callees ?_
    | refine CV.cond ?_
    | refine CV.block ?_
    | refine CV.skip ?_
    | refine CV.exit ?_
    | refine CV.ret ?_
    | refine CV.scope ?_
    | refine CV.draw callees (by decide +kernel) ?_
    | refine CH.cons rfl ?_
    | refine CH.nil ?_
    | refine CO.consG rfl ?_
    | refine CH.consG rfl ?_
    | refine CG.cons rfl ?_
    | refine CR.cons ?_
    | refine CR.nil ?_
    | refine CG.nil ?_
    | refine CG.consG rfl ?_
    | refine ⟨(rfl : plain _ = true), ?_⟩
    | refine ⟨(rfl : nilOk _ = some _), ?_⟩
    | refine ⟨_, ints_len (by assumption), ?_⟩
    | refine ⟨_, ints_addr (by assumption) (by omega) (by omega), ?_⟩
    | refine ⟨_, ints_load (by assumption) (by omega) (by omega), ?_⟩
    | refine ⟨(⟨by omega, by omega⟩ : inI64 _), ?_⟩
    | refine ⟨_, fun tm ha => step1_max rfl (ev_tmp ha rfl) (ev_tmp ha rfl), ?_⟩
    | refine ⟨_, fun tm ha => step1_min rfl (ev_tmp ha rfl) (ev_tmp ha rfl), ?_⟩
    | (refine ⟨fun _ => ?_, fun _ => ?_⟩ <;> first | (exfalso; omega) | skip)
    | fail
  · have hu : unE n k = (cntR n).2 := by rw [unE, if_pos (by assumption)]
    exact ⟨rfl, ⟨_, by rw [hu], .inl ⟨rfl, by rw [unL, hu, if_neg (by assumption)]; rfl⟩⟩, Keep.refl _⟩
  · have h0 : (cntR n).2 = 0 := Classical.not_not.1 (by assumption)
    have hu : unE n k = 7 := by rw [unE, if_neg (by omega), if_pos (by omega)]
    exact ⟨rfl, ⟨_, by rw [hu], .inl ⟨rfl, by rw [unL, hu, if_neg (by omega)]; rfl⟩⟩, Keep.refl _⟩
  · have h0 : (cntR n).2 = 0 := Classical.not_not.1 (by assumption)
    have hu : unE n k = 7 := by rw [unE, if_neg (by omega), if_pos (by omega)]
    exact ⟨rfl, ⟨_, by rw [hu], .inl ⟨rfl, by rw [unL, hu, if_neg (by omega)]; rfl⟩⟩, Keep.refl _⟩
  have h0 : (cntR n).2 = 0 := Classical.not_not.1 (by assumption)
  have hu : unE n k = 0 := by rw [unE, if_neg (by omega), if_neg (by omega)]
  have hl : unL n k = unM n.toNat k 0 := by rw [unL, if_pos hu]
  have hcb := cnt_bound h0
  have hg : (H1.new (.cells (List.replicate 100 (VI 0)) 128 1)).get H1.n = some (.cells (List.replicate 100 (VI 0)) 128 1) := Heap.get_new_eq _ _
  have k1 : Keep H1 ((H1.new (.cells (List.replicate 100 (VI 0)) 128 1)).set H1.n (.cells (endT.map VI) 128 1)) := (Keep.new _ _).set _ (Nat.le_refl _)
  have hg2 : ((H1.new (.cells (List.replicate 100 (VI 0)) 128 1)).set H1.n (.cells (endT.map VI) 128 1)).get H1.n = some (.cells (endT.map VI) 128 1) := Heap.get_set_eq _ _ _
  have hn2 : H1.n < ((H1.new (.cells (List.replicate 100 (VI 0)) 128 1)).set H1.n (.cells (endT.map VI) 128 1)).n := Nat.lt_succ_self _
  generalize hH2 : (H1.new (.cells (List.replicate 100 (VI 0)) 128 1)).set H1.n (.cells (endT.map VI) 128 1) = H2 at k1 hg2 hn2
  repeat' first
    | refine CO.cons rfl ?_
    | refine CO.nil ?_
    | refine CV.seq ?_
    | refine CV.region callees ?_
    | refine CV.cond ?_
    | refine CV.block ?_
    | refine CV.skip ?_
    | refine CV.exit ?_
    | refine CV.ret ?_
    | refine CV.scope ?_
    | refine CV.draw callees (by decide +kernel) ?_
    | refine CH.cons rfl ?_
    | refine CH.nil ?_
    | refine CO.consG rfl ?_
    | refine CH.consG rfl ?_
    | refine CG.cons rfl ?_
    | refine CR.cons ?_
    | refine CR.nil ?_
    | refine CG.nil ?_
    | refine CG.consG rfl ?_
    | refine ⟨(rfl : plain _ = true), ?_⟩
    | refine ⟨(rfl : nilOk _ = some _), ?_⟩
    | refine ⟨_, ints_len (by assumption), ?_⟩
    | refine ⟨_, ints_addr (by assumption) (by omega) (by omega), ?_⟩
    | refine ⟨_, ints_load (by assumption) (by omega) (by omega), ?_⟩
    | refine ⟨(⟨by omega, by omega⟩ : inI64 _), ?_⟩
    | refine ⟨_, fun tm ha => step1_max rfl (ev_tmp ha rfl) (ev_tmp ha rfl), ?_⟩
    | refine ⟨_, fun tm ha => step1_min rfl (ev_tmp ha rfl) (ev_tmp ha rfl), ?_⟩
    | refine CallB.known rfl hb hn ?_
    | refine ⟨_, _, alloc79, ?_⟩
    | refine ⟨_, _, store79 endT_len hg (by simp), hn, ?_⟩
    | (refine ⟨fun _ => ?_, fun _ => ?_⟩ <;> first | (exfalso; omega) | skip)
    | fail
  rw [hH2]
  repeat' first
    | refine CO.cons rfl ?_
    | refine CO.nil ?_
    | refine CV.seq ?_
    | refine CV.region callees ?_
    | refine CV.cond ?_
    | refine CV.block ?_
    | refine CV.skip ?_
    | refine CV.exit ?_
    | refine CV.ret ?_
    | refine CV.scope ?_
    | refine CV.draw callees (by decide +kernel) ?_
    | refine CH.cons rfl ?_
    | refine CH.nil ?_
    | refine CO.consG rfl ?_
    | refine CH.consG rfl ?_
    | refine CG.cons rfl ?_
    | refine CR.cons ?_
    | refine CR.nil ?_
    | refine CG.nil ?_
    | refine CG.consG rfl ?_
    | refine ⟨(rfl : plain _ = true), ?_⟩
    | refine ⟨(rfl : nilOk _ = some _), ?_⟩
    | refine ⟨_, ints_len (by assumption), ?_⟩
    | refine ⟨_, ints_addr (by assumption) (by omega) (by omega), ?_⟩
    | refine ⟨_, ints_load (by assumption) (by omega) (by omega), ?_⟩
    | refine ⟨(⟨by omega, by omega⟩ : inI64 _), ?_⟩
    | refine ⟨_, fun tm ha => step1_max rfl (ev_tmp ha rfl) (ev_tmp ha rfl), ?_⟩
    | refine ⟨_, fun tm ha => step1_min rfl (ev_tmp ha rfl) (ev_tmp ha rfl), ?_⟩
    | (refine ⟨fun _ => ?_, fun _ => ?_⟩ <;> first | (exfalso; omega) | skip)
    | fail
  obtain ⟨m, rfl⟩ : ∃ m : Nat, n = m := ⟨n.toNat, by omega⟩
  refine ⟨_, _, make_row un22 one3 (by omega) m (by omega), ?_⟩
  have hown : Own 3 (H2.new (.cells (List.replicate m (VI 0)) 3 2)) (.slice (some ⟨H2.n, 0, none⟩) m 0) ((List.replicate m (0 : Int)).map VI) H2.n :=
    .inr ⟨H2.n, by simp, Nat.le_refl _, Nat.lt_succ_self _, by rw [Heap.get_new_eq]; simp⟩
  have hg3 : (H2.new (.cells (List.replicate m (VI 0)) 3 2)).get H1.n = some (.cells (endT.map VI) 128 1) := by rw [Heap.get_new_ne _ _ (by omega)]; exact hg2
  have k2 : Keep H1 (H2.new (.cells (List.replicate m (VI 0)) 3 2)) := k1.trans (Keep.new _ _)
  generalize hH3 : H2.new (.cells (List.replicate m (VI 0)) 3 2) = H3 at hown hg3 k2
  generalize hw : Value.slice (some ⟨H2.n, 0, none⟩) m 0 = w at hown
  have hwi : Ints H3 w (List.replicate m 0) := hown.row
  repeat' first
    | refine CO.cons rfl ?_
    | refine CO.nil ?_
    | refine CV.seq ?_
    | refine CV.region callees ?_
    | refine CV.cond ?_
    | refine CV.block ?_
    | refine CV.skip ?_
    | refine CV.exit ?_
    | refine CV.ret ?_
    | refine CV.scope ?_
    | refine CV.draw callees (by decide +kernel) ?_
    | refine CH.cons rfl ?_
    | refine CH.nil ?_
    | refine CO.consG rfl ?_
    | refine CH.consG rfl ?_
    | refine CG.cons rfl ?_
    | refine CR.cons ?_
    | refine CR.nil ?_
    | refine CG.nil ?_
    | refine CG.consG rfl ?_
    | refine ⟨(rfl : plain _ = true), ?_⟩
    | refine ⟨(rfl : nilOk _ = some _), ?_⟩
    | refine ⟨_, ints_len (by assumption), ?_⟩
    | refine ⟨_, ints_addr (by assumption) (by omega) (by omega), ?_⟩
    | refine ⟨_, ints_load (by assumption) (by omega) (by omega), ?_⟩
    | refine ⟨(⟨by omega, by omega⟩ : inI64 _), ?_⟩
    | refine ⟨_, fun tm ha => step1_max rfl (ev_tmp ha rfl) (ev_tmp ha rfl), ?_⟩
    | refine ⟨_, fun tm ha => step1_min rfl (ev_tmp ha rfl) (ev_tmp ha rfl), ?_⟩
    | (refine ⟨fun _ => ?_, fun _ => ?_⟩ <;> first | (exfalso; omega) | skip)
    | fail
  rw [List.length_replicate]
  refine CV.loopc ?_
  refine WCv.rounds callees false (α := Int × Int × Int × List Int) (fun (i, s, b, out) => [(0, .int .i64 m), (8, .pointer (some ⟨H1.n, 0, none⟩)), (9, w), (10, .int .i64 s), (11, .int .i64 b), (34, .int .i64 m), (35, .int .i64 i)]) (fun (i, s, b, out) Hz => 0 ≤ i ∧ i ≤ m ∧ 0 ≤ b ∧ b ≤ i ∧ 0 ≤ s ∧ s ≤ 21147 ∧ (out.length : Int) = i ∧ Own 3 Hz w ((out ++ List.replicate (m - i.toNat) 0).map VI) H2.n ∧ Keep H1 Hz ∧ H2.n ≤ Hz.n ∧ Hz.get H1.n = some (.cells (endT.map VI) 128 1) ∧ out ++ unM (m - i.toNat) s b = unM m k 0) (fun (i, s, b, out) => m - i.toNat) (0, k, 0, []) (by repeat' first | exact trivial | refine ⟨rfl, ?_⟩) ?_ ?_
  · exact ⟨by omega, by omega, by omega, by omega, by omega, by omega, rfl, by simpa using hown, k2, by rw [← hH3]; exact Nat.le_succ _, hg3, by simp⟩
  rintro ⟨i, s, b, out⟩ Hx ⟨hi0, hi1, hb0, hb1, hs0, hs1, hlo, hwx, hkx, hhx, hgx, hM⟩ hBx
  by_cases hi : i < m
  · obtain ⟨q, hq⟩ : ∃ q, m - i.toNat = q + 1 := ⟨m - i.toNat - 1, by omega⟩
    have hqi : ((m : Int) - 1 - i).toNat = q := by omega
    have be := beh_at (n := q) (b := b) hb0 (by omega)
    rw [hq, unM] at hM
    obtain ⟨e, he⟩ : ∃ e, behM q b = e := ⟨_, rfl⟩
    rw [he] at be hM
    have us := un_step hs0 hs1 be.1 hb0
    obtain ⟨c, hc⟩ : ∃ c, min (s.tdiv e) b = c := ⟨_, rfl⟩
    rw [hc] at us hM
    repeat' first
      | refine CO.cons rfl ?_
      | refine CO.nil ?_
      | refine CV.seq ?_
      | refine CV.region callees ?_
      | refine CV.cond ?_
      | refine CV.block ?_
      | refine CV.skip ?_
      | refine CV.exit ?_
      | refine CV.ret ?_
      | refine CV.scope ?_
      | refine CV.draw callees (by decide +kernel) ?_
      | refine CH.cons rfl ?_
      | refine CH.nil ?_
      | refine CO.consG rfl ?_
      | refine CH.consG rfl ?_
      | refine CG.cons rfl ?_
      | refine CR.cons ?_
      | refine CR.nil ?_
      | refine CG.nil ?_
      | refine CG.consG rfl ?_
      | refine ⟨(rfl : plain _ = true), ?_⟩
      | refine ⟨(rfl : nilOk _ = some _), ?_⟩
      | refine ⟨_, ints_len (by assumption), ?_⟩
      | refine ⟨_, ints_addr (by assumption) (by omega) (by omega), ?_⟩
      | refine ⟨_, ints_load (by assumption) (by omega) (by omega), ?_⟩
      | refine ⟨(⟨by omega, by omega⟩ : inI64 _), ?_⟩
      | refine ⟨_, fun tm ha => step1_max rfl (ev_tmp ha rfl) (ev_tmp ha rfl), ?_⟩
      | refine ⟨_, fun tm ha => step1_min rfl (ev_tmp ha rfl) (ev_tmp ha rfl), ?_⟩
      | refine ⟨_, tab_addr (by omega) (by omega), ?_⟩
      | refine ⟨_, row_addr (by omega) (by omega), ?_⟩
      | refine ⟨_, tab_load endT_len hgx (by omega) (by omega) (by omega) (by omega), ?_⟩
      | (refine ⟨fun _ => ?_, fun _ => ?_⟩ <;> first | (exfalso; omega) | skip)
      | fail
    rw [hqi, be.2.2]
    have hwi' : Ints Hx w (out ++ List.replicate (m - i.toNat) 0) := hwx.row
    have hlen : (out ++ List.replicate (m - i.toNat) (0 : Int)).length = m := by simp; omega
    repeat' first
      | refine CO.cons rfl ?_
      | refine CO.nil ?_
      | refine CV.seq ?_
      | refine CV.region callees ?_
      | refine CV.cond ?_
      | refine CV.block ?_
      | refine CV.skip ?_
      | refine CV.exit ?_
      | refine CV.ret ?_
      | refine CV.scope ?_
      | refine CV.draw callees (by decide +kernel) ?_
      | refine CH.cons rfl ?_
      | refine CH.nil ?_
      | refine CO.consG rfl ?_
      | refine CH.consG rfl ?_
      | refine CG.cons rfl ?_
      | refine CR.cons ?_
      | refine CR.nil ?_
      | refine CG.nil ?_
      | refine CG.consG rfl ?_
      | refine ⟨(rfl : plain _ = true), ?_⟩
      | refine ⟨(rfl : nilOk _ = some _), ?_⟩
      | refine ⟨_, ints_len (by assumption), ?_⟩
      | refine ⟨_, ints_addr (by assumption) (by omega) (by omega), ?_⟩
      | refine ⟨_, ints_load (by assumption) (by omega) (by omega), ?_⟩
      | refine ⟨(⟨by omega, by omega⟩ : inI64 _), ?_⟩
      | refine ⟨_, fun tm ha => step1_max rfl (ev_tmp ha rfl) (ev_tmp ha rfl), ?_⟩
      | refine ⟨_, fun tm ha => step1_min rfl (ev_tmp ha rfl) (ev_tmp ha rfl), ?_⟩
      | refine ⟨_, fun tm ha => step1_quoI rfl (ev_tmp ha rfl) (ev_tmp ha rfl) (by omega) (by omega) (by omega), ?_⟩
      | (refine ⟨fun _ => ?_, fun _ => ?_⟩ <;> first | (exfalso; omega) | skip)
      | fail
    rw [hc]
    refine put_ask (i := i.toNat) hwx (by omega) (by omega) ?_
    intro H4 hw4 kb4
    have hset : (out ++ List.replicate (m - i.toNat) (0 : Int)).set i.toNat c = (out ++ [c]) ++ List.replicate (m - (i + 1).toNat) 0 := by
      rw [hq, List.set_append_right _ _ (by omega), show i.toNat - out.length = 0 by omega, List.replicate_succ, List.set_cons_zero, show m - (i + 1).toNat = q by omega, List.append_assoc]
      rfl
    rw [hset] at hw4
    have hlen4 : ((out ++ [c]) ++ List.replicate (m - (i + 1).toNat) (0 : Int)).length = m := by simp; omega
    have hget : ((out ++ [c]) ++ List.replicate (m - (i + 1).toNat) (0 : Int))[i.toNat]! = c := by
      rw [getElem!_pos _ _ (by omega), List.getElem_append_left (by simp; omega), List.getElem_append_right (by omega)]
      simp
    have hw4i : Ints H4 w ((out ++ [c]) ++ List.replicate (m - (i + 1).toNat) 0) := hw4.row
    repeat' first
      | refine CO.cons rfl ?_
      | refine CO.nil ?_
      | refine CV.seq ?_
      | refine CV.region callees ?_
      | refine CV.cond ?_
      | refine CV.block ?_
      | refine CV.skip ?_
      | refine CV.exit ?_
      | refine CV.ret ?_
      | refine CV.scope ?_
      | refine CV.draw callees (by decide +kernel) ?_
      | refine CH.cons rfl ?_
      | refine CH.nil ?_
      | refine CO.consG rfl ?_
      | refine CH.consG rfl ?_
      | refine CG.cons rfl ?_
      | refine CR.cons ?_
      | refine CR.nil ?_
      | refine CG.nil ?_
      | refine CG.consG rfl ?_
      | refine ⟨(rfl : plain _ = true), ?_⟩
      | refine ⟨(rfl : nilOk _ = some _), ?_⟩
      | refine ⟨_, ints_len (by assumption), ?_⟩
      | refine ⟨_, ints_addr (by assumption) (by omega) (by omega), ?_⟩
      | refine ⟨_, ints_load (by assumption) (by omega) (by omega), ?_⟩
      | refine ⟨(⟨by omega, by omega⟩ : inI64 _), ?_⟩
      | refine ⟨_, fun tm ha => step1_max rfl (ev_tmp ha rfl) (ev_tmp ha rfl), ?_⟩
      | refine ⟨_, fun tm ha => step1_min rfl (ev_tmp ha rfl) (ev_tmp ha rfl), ?_⟩
      | (refine ⟨fun _ => ?_, fun _ => ?_⟩ <;> first | (exfalso; omega) | skip)
      | fail
    rw [hget]
    repeat' first
      | refine CO.cons rfl ?_
      | refine CO.nil ?_
      | refine CV.seq ?_
      | refine CV.region callees ?_
      | refine CV.cond ?_
      | refine CV.block ?_
      | refine CV.skip ?_
      | refine CV.exit ?_
      | refine CV.ret ?_
      | refine CV.scope ?_
      | refine CV.draw callees (by decide +kernel) ?_
      | refine CH.cons rfl ?_
      | refine CH.nil ?_
      | refine CO.consG rfl ?_
      | refine CH.consG rfl ?_
      | refine CG.cons rfl ?_
      | refine CR.cons ?_
      | refine CR.nil ?_
      | refine CG.nil ?_
      | refine CG.consG rfl ?_
      | refine ⟨(rfl : plain _ = true), ?_⟩
      | refine ⟨(rfl : nilOk _ = some _), ?_⟩
      | refine ⟨_, ints_len (by assumption), ?_⟩
      | refine ⟨_, ints_addr (by assumption) (by omega) (by omega), ?_⟩
      | refine ⟨_, ints_load (by assumption) (by omega) (by omega), ?_⟩
      | refine ⟨(⟨by omega, by omega⟩ : inI64 _), ?_⟩
      | refine ⟨_, fun tm ha => step1_max rfl (ev_tmp ha rfl) (ev_tmp ha rfl), ?_⟩
      | refine ⟨_, fun tm ha => step1_min rfl (ev_tmp ha rfl) (ev_tmp ha rfl), ?_⟩
      | (refine ⟨fun _ => ?_, fun _ => ?_⟩ <;> first | (exfalso; omega) | skip)
      | fail
    rw [hget]
    refine ⟨(i + 1, s - c * e, max b (c + 1), out ++ [c]), (by repeat' first | exact trivial | refine ⟨rfl, ?_⟩), (by (try dsimp only); omega), ?_⟩
    refine ⟨by omega, by omega, by omega, by omega, by omega, by omega, by simp; omega, hw4, kb4.keep hkx (fun z hz => by have := (hwx.lt hz).1; omega), Nat.le_trans hhx kb4.le, ?_, ?_⟩
    · rw [kb4.get _ (Nat.lt_of_lt_of_le hn2 hhx) (fun h => by have := (hwx.lt h).1; omega)]; exact hgx
    · rw [show m - (i + 1).toNat = q by omega, List.append_assoc]; exact hM
  · have hi' : m - i.toNat = 0 := by omega
    rw [hi', unM, List.append_nil] at hM
    rw [hi', List.replicate_zero, List.append_nil, hM] at hwx
    repeat' first
      | refine CO.cons rfl ?_
      | refine CO.nil ?_
      | refine CV.seq ?_
      | refine CV.region callees ?_
      | refine CV.cond ?_
      | refine CV.block ?_
      | refine CV.skip ?_
      | refine CV.exit ?_
      | refine CV.ret ?_
      | refine CV.scope ?_
      | refine CV.draw callees (by decide +kernel) ?_
      | refine CH.cons rfl ?_
      | refine CH.nil ?_
      | refine CO.consG rfl ?_
      | refine CH.consG rfl ?_
      | refine CG.cons rfl ?_
      | refine CR.cons ?_
      | refine CR.nil ?_
      | refine CG.nil ?_
      | refine CG.consG rfl ?_
      | refine ⟨(rfl : plain _ = true), ?_⟩
      | refine ⟨(rfl : nilOk _ = some _), ?_⟩
      | refine ⟨_, ints_len (by assumption), ?_⟩
      | refine ⟨_, ints_addr (by assumption) (by omega) (by omega), ?_⟩
      | refine ⟨_, ints_load (by assumption) (by omega) (by omega), ?_⟩
      | refine ⟨(⟨by omega, by omega⟩ : inI64 _), ?_⟩
      | refine ⟨_, fun tm ha => step1_max rfl (ev_tmp ha rfl) (ev_tmp ha rfl), ?_⟩
      | refine ⟨_, fun tm ha => step1_min rfl (ev_tmp ha rfl) (ev_tmp ha rfl), ?_⟩
      | (refine ⟨fun _ => ?_, fun _ => ?_⟩ <;> first | (exfalso; omega) | skip)
      | fail
    refine ⟨by simp only [List.all_cons, List.all_nil, hwx.notTuple]; rfl, ⟨w, by rw [hu], ?_⟩, hkx⟩
    rw [hl]
    exact hwx.row
end Go.Proofs.Ytlpkbcgdcimglaa

