
/- StoreLoans. -/
import Derived.Test.Ytjjmnfgnlcbfhaad7o
set_option linter.unusedVariables false
set_option linter.unusedSimpArgs false
namespace Go.Proofs.Ytjjmnfgnlcbfhaa
open Go.AI
theorem unLL : Try.prog.underlying 61 = some (.slice 59) := by kernel_rfl
theorem oneLL : oneBB Try.prog 59 = some (.slice none 0 0, 24) := by kernel_rfl
theorem szLL : sizeB Try.prog 59 = some 1 := by kernel_rfl
theorem agLL : isAggB Try.prog 59 = some false := by kernel_rfl
theorem RowS.oneC {s : Nat} {H : Heap} {v : Value} {rs : List (List Value)} (h : RowS s H v rs) : AI.oneC v = true ∧ AI.notTuple v = true := by
  rcases h.2 with ⟨rfl, _⟩ | ⟨rfl, _⟩ | ⟨b, i, c, cs, e, k, rfl, _⟩
  · exact ⟨rfl, rfl⟩
  · exact ⟨rfl, rfl⟩
  · exact ⟨rfl, rfl⟩
theorem build_loans {H : Heap} {a b : Value} (ha : oneC a = true) (hb : oneC b = true) : abuildSlice Try.prog H 61 2 [(0, a), (1, b)] = some (.slice (some ⟨H.n, 0, none⟩) 2 0, H.new (.cells [a, b] 59 2), H.n) :=
  build_vals [a, b] unLL oneLL (by simp [ha, hb]) (by simp)
set_option maxHeartbeats 16000000 in
set_option maxRecDepth 100000 in
theorem loans_spec {v w : Value} {H : Heap} {l0 : List Lo} {nums : List Int} (hl : RowS 4 H v (l0.map Lol)) (hv : Ints H w nums) (hx : nums.length ≤ 9223372036854775807) :
    CallB Try.prog H.n 5 [v, w] H (fun r _ => r = .bool true) := by
  have hn : H.n ≤ H.n := Nat.le_refl _
  refine CV.enter callees false rfl Try.func5 rfl (by kernel_rfl) (Nat.le_of_ble_eq_true rfl) hn ?_
  by_cases hmany : 20 < l0.length
  · repeat' first
      | refine CO.cons rfl ?_
      | refine CO.nil ?_
      | refine CV.seq ?_
      | refine CV.region callees ?_
      | refine CV.cond ?_
      | (refine ⟨_, lo_len hl, ?_⟩)
      | (refine ⟨fun _ => ?_, fun _ => ?_⟩ <;> first | (exfalso; omega) | skip)
      | fail
    refine (awake_spec (by omega)).mono ?_
    rintro r H1 ⟨rfl, k1⟩
    repeat' first
      | refine CO.cons rfl ?_
      | refine CO.nil ?_
      | refine CV.ret ?_
      | fail
    exact ⟨rfl, rfl⟩
  repeat' first
    | refine CO.cons rfl ?_
    | refine CO.nil ?_
    | refine CV.seq ?_
    | refine CV.region callees ?_
    | refine CV.cond ?_
    | refine CV.skip ?_
    | (refine ⟨_, lo_len hl, ?_⟩)
    | (refine ⟨fun _ => ?_, fun _ => ?_⟩ <;> first | (exfalso; omega) | skip)
    | fail
  refine (boxOf_spec hn hv hx).mono ?_
  rintro r H1 ⟨⟨b, rfl, hb, hbox⟩, k1⟩
  have l1 := k1.1
  have hbn := hbox.1
  repeat' first
    | refine CO.cons rfl ?_
    | fail
  refine (loansOf_spec (most := 10) hb l1 hbox (by omega)).mono ?_
  rintro lv H2 ⟨⟨l, hl2, hln, hlo⟩, hb2, x2⟩
  have l2 := x2.1
  have hl1 : RowS 4 H1 v (l0.map Lol) := hl.keep k1
  have hla : RowS 4 H2 v (l0.map Lol) := by obtain ⟨_, cs, hc⟩ := hbox; exact hl1.keepX x2 hc
  have oa := (RowS.oneC hla).1
  have ob := (RowS.oneC hl2.row).1
  repeat' first
    | refine CO.cons rfl ?_
    | refine CO.nil ?_
    | refine CV.seq ?_
    | refine CV.region callees ?_
    | refine CV.block ?_
    | (refine ⟨_, _, build_loans oa ob, ?_⟩)
    | fail
  generalize hs3 : Heap.new H2 _ = H3
  have hL : Row H3 (.slice (some ⟨H2.n, 0, none⟩) 2 0) [v, lv] := by rw [← hs3]; exact new_row rfl
  have k3 := new_keep hs3
  have l3 := k3.1
  generalize Value.slice (some ⟨H2.n, 0, none⟩) 2 0 = L at hL
  have hla3 := hla.keep k3
  have hlb3 : RowS 4 H3 lv (l.map Lol) := hl2.row.keep k3
  have hall : ∀ i : Nat, i < 2 → ∃ (x : Value) (ls : List Lo), [v, lv][i]? = some x ∧ RowS 4 H3 x (ls.map Lol) ∧ ls.length ≤ 20 := fun i hi => by
    rcases (by omega : i = 0 ∨ i = 1) with rfl | rfl
    · exact ⟨v, l0, rfl, hla3, by omega⟩
    · exact ⟨lv, l, rfl, hlb3, by omega⟩
  clear hla3 hlb3 hla hl1 hl2 hb2 hbox
  repeat' first
    | fail
  refine CV.loopc ?_
  refine WCv.rounds callees false (α := Nat) (fun i => [(5, L), (6, VI i)]) (fun i Hz => i ≤ 2 ∧ Keep H3 Hz) (fun i => 2 - i) (0) (by repeat' first | exact trivial | refine ⟨rfl, ?_⟩ | refine ⟨slot_int (by (try simp only [Int.toNat_natCast]); omega), ?_⟩) ?_ ?_
  · exact ⟨by omega, Keep.refl _⟩
  rintro i Hx ⟨hi, kx⟩ hBx
  have lx := kx.1
  have hLx := Row.keep hL kx
  have hlen : alen Try.prog Hx 61 L = some (.int .i64 2) := hLx.alen unLL
  by_cases hi2 : i < 2
  · obtain ⟨x, ls, hxi, hr3, hls⟩ := hall i hi2
    have hr := hr3.keep kx
    have hadr : aindexAddr Try.prog 61 L (VI i) = some (elemAt L i) := hLx.addr unLL szLL (by omega) (by show (i : Int) < (2 : Nat); omega)
    have hld : aload Try.prog 59 Hx (elemAt L i) = some x := hLx.load agLL hxi
    repeat' first
      | refine CO.cons rfl ?_
      | refine CO.nil ?_
      | refine CV.seq ?_
      | refine CV.region callees ?_
      | refine CV.cond ?_
      | refine CV.block ?_
      | refine CV.skip ?_
      | (refine ⟨_, hlen, ?_⟩)
      | (refine ⟨_, hadr, ?_⟩)
      | (refine ⟨_, hld, ?_⟩)
      | (refine ⟨fun _ => ?_, fun _ => ?_⟩ <;> first | (exfalso; omega) | skip)
      | fail
    refine (ownLoans_spec (by omega) hr (by omega)).mono ?_
    rintro m H4 ⟨hm, k4⟩
    have l4 := k4.1
    repeat' first
      | refine CO.cons rfl ?_
      | refine CO.nil ?_
      | refine CV.seq ?_
      | refine CV.region callees ?_
      | fail
    refine (lend_spec (by omega) hm.row).mono ?_
    rintro r H5 ⟨hcase, k5⟩
    have l5 := k5.1
    have hL5 := (hLx.keep k4).keep k5
    have hr5 := (hr.keep k4).keep k5
    have hld5 : aload Try.prog 59 H5 (elemAt L i) = some x := hL5.load agLL hxi
    obtain ⟨q, W, e, xs, rfl, hq, hxs, hsame⟩ : ∃ (q : Value) (W e : Int) (xs : List Int), r = Value.tuple #[q, VI W, VI e] ∧ Ints H5 q xs ∧ xs.length < 1000000 ∧
        ∀ (r' : Value) (H6 : Heap), ((lonE ls ≠ 0 ∧ r' = Value.tuple #[nilS, VI 0, VI (lonE ls)]) ∨ (lonE ls = 0 ∧ ∃ q best, r' = Value.tuple #[q, VI (wsum (memL ls (valB best))), VI 0] ∧ Own 3 H6 q ((selB 0 best).map VI) H5.n ∧ BestL ls best)) → ∃ q', r' = Value.tuple #[q', VI W, VI e] ∧ Ints H6 q' xs := by
      rcases hcase with ⟨hne, rfl⟩ | ⟨h0, q, best, rfl, hq, hbest⟩
      · refine ⟨nilS, 0, lonE ls, [], rfl, .inl ⟨rfl, rfl⟩, by simp, ?_⟩
        rintro r' H6 (⟨_, rfl⟩ | ⟨h0, _⟩)
        · exact ⟨nilS, rfl, .inl ⟨rfl, rfl⟩⟩
        · exact absurd h0 hne
      · refine ⟨q, wsum (memL ls best), 0, selB 0 (bitsB best ls.length), rfl, hq.row, ?_, ?_⟩
        · rw [← memL_sel hbest.list.n]
          have := memL_len (l := ls) (c := valB (bitsB best ls.length))
          omega
        · rintro r' H6 (⟨hne, _⟩ | ⟨_, q', best', rfl, hq', hbest'⟩)
          · exact absurd h0 hne
          · obtain rfl := BestL.one hbest' hbest.list
            rw [bits_back hbest.1]
            exact ⟨q', rfl, hq'.row⟩
    clear hcase hld
    repeat' first
      | refine CO.cons rfl ?_
      | refine CO.nil ?_
      | refine CV.seq ?_
      | refine CV.region callees ?_
      | (refine ⟨_, hadr, ?_⟩)
      | (refine ⟨_, hld5, ?_⟩)
      | fail
    refine (lendR_spec (by omega) hr5).mono ?_
    rintro r H6 ⟨hcase, k6⟩
    have l6 := k6.1
    obtain ⟨q', rfl, hq'⟩ := hsame _ _ hcase
    clear hcase hsame hld5
    have hq6 : Ints H6 q xs := Row.keep hq k6
    repeat' first
      | refine CO.cons rfl ?_
      | refine CO.nil ?_
      | refine CV.seq ?_
      | refine CV.region callees ?_
      | refine CO.consG rfl ?_
      | (refine ⟨fun _ => ?_, fun _ => ?_⟩ <;> first | (exfalso; omega) | skip)
      | fail
    refine (eqInts_spec (by omega) hq6 hq' hxs).mono ?_
    rw [decide_eq_true rfl]
    rintro r H7 ⟨rfl, k7⟩
    have l7 := k7.1
    have hr7 := (hr5.keep k6).keep k7
    have hm7 : RowS 4 H7 m (ls.map Lol) := ((hm.row.keep k5).keep k6).keep k7
    have hld7 : aload Try.prog 59 H7 (elemAt L i) = some x := ((hL5.keep k6).keep k7).load agLL hxi
    repeat' first
      | refine CO.cons rfl ?_
      | refine CO.consG rfl ?_
      | (refine ⟨_, hadr, ?_⟩)
      | (refine ⟨_, hld7, ?_⟩)
      | fail
    refine (eqLoans_spec (by omega) hm7 hr7 (by omega)).mono ?_
    rintro r H8 ⟨rfl, k8⟩
    have l8 := k8.1
    repeat' first
      | refine CO.cons rfl ?_
      | refine CO.nil ?_
      | refine CV.region callees ?_
      | refine CV.cond ?_
      | refine CV.skip ?_
      | refine CO.consG rfl ?_
      | refine ⟨(⟨by omega, by omega⟩ : inI64 _), ?_⟩
      | fail
    refine ⟨(i + 1), (by repeat' first | exact trivial | refine ⟨rfl, ?_⟩ | refine ⟨slot_int (by (try simp only [Int.toNat_natCast]); omega), ?_⟩), (by (try dsimp only); omega), ?_⟩
    exact ⟨by omega, ((((kx.trans k4).trans k5).trans k6).trans k7).trans k8⟩
  obtain rfl : i = 2 := by omega
  repeat' first
    | refine CO.cons rfl ?_
    | refine CO.nil ?_
    | refine CV.seq ?_
    | refine CV.region callees ?_
    | refine CV.cond ?_
    | refine CV.exit ?_
    | (refine ⟨_, hlen, ?_⟩)
    | (refine ⟨fun _ => ?_, fun _ => ?_⟩ <;> first | (exfalso; omega) | skip)
    | fail
  refine (awake_spec (by omega)).mono ?_
  rintro r I5 ⟨rfl, j5⟩
  repeat' first
    | refine CO.cons rfl ?_
    | refine CO.nil ?_
    | refine CV.ret ?_
    | fail
  exact ⟨rfl, rfl⟩
end Go.Proofs.Ytjjmnfgnlcbfhaa
