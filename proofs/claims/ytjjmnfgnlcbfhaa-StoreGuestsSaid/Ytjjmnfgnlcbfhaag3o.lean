
/- StoreGuests. -/
import Derived.Test.Ytjjmnfgnlcbfhaacbo
import Derived.Test.Ytjjmnfgnlcbfhaag2o
set_option linter.unusedVariables false
set_option linter.unusedSimpArgs false
namespace Go.Proofs.Ytjjmnfgnlcbfhaa
open Go.AI
theorem Gri.box {H H' : Heap} {v : Value} {vs : List Value} {gs : List (List Int)} {b : Nat} (h : Gri H v vs gs) (k : KeepX b H H') (hb : Box b H) : Gri H' v vs gs := ⟨row_box h.row k hb, h.len, fun i hi => row_box (h.ints i hi) k hb⟩
theorem plE_of {m : Int} : ∀ {l : List Int}, (∀ x ∈ l, 0 ≤ x ∧ x ≤ m) → plE m l = 0
  | [], _ => rfl
  | p :: t, h => by
    have h1 := h p (by simp)
    simp only [plE]
    rw [show inB p 0 m = true by simp [inB]; omega, cond_true]
    exact plE_of fun x hx => h x (by simp [hx])
theorem comeG_bd {gs : List (List Int)} {g : Int} : ∀ {n : Nat}, 0 ≤ comeG gs g n ∧ comeG gs g n ≤ n
  | 0 => ⟨Int.le_refl _, Int.le_refl _⟩
  | n + 1 => by
    have := comeG_bd (gs := gs) (g := g) (n := n)
    rw [comeG]
    split <;> omega
set_option maxHeartbeats 16000000 in
set_option maxRecDepth 100000 in
theorem guests_spec {v : Value} {H : Heap} {nums : List Int} (hv : Ints H v nums) (hx : nums.length ≤ 9223372036854775807) :
    CallB Try.prog H.n 14 [v] H (fun r _ => r = .bool true) := by
  have hn : H.n ≤ H.n := Nat.le_refl _
  refine CV.enter callees false rfl Try.func14 rfl (by kernel_rfl) (Nat.le_of_ble_eq_true rfl) hn ?_
  repeat' first
    | refine CO.cons rfl ?_
    | refine CO.nil ?_
    | refine CV.seq ?_
    | refine CV.region callees ?_
    | fail
  refine (boxOf_spec hn hv hx).mono ?_
  rintro r H1 ⟨⟨b, rfl, hb, hbox⟩, k1⟩
  have l1 := k1.1
  have hbn := hbox.1
  repeat' first
    | refine CO.cons rfl ?_
    | refine CO.nil ?_
    | refine CV.seq ?_
    | refine CV.region callees ?_
    | fail
  refine (seasonOf_spec (most := 9) hb l1 hbox (by omega)).mono ?_
  rintro r H2 ⟨⟨s, g, gv, st, gs, rfl, hse, hgl, hst3, hstn⟩, hb2, x2⟩
  have l2 := x2.1
  repeat' first
    | refine CO.cons rfl ?_
    | (refine ⟨_, _, alSe, ?_⟩)
    | fail
  generalize hs3 : Heap.new H2 _ = H3
  have hg3 := new_get hs3
  have k3 := new_keep hs3
  have n3 := new_n hs3
  obtain ⟨b3, hbn3⟩ : ∃ b, Heap.n H2 = b := ⟨_, rfl⟩
  rw [hbn3] at hg3 n3 ⊢
  repeat' first
    | fail
  refine ⟨_, _, stSe (Row.oneC (hse.s.keep k3).row).1 (Row.oneC (hse.g.keep k3).row).1 hg3, by omega, ?_⟩
  generalize hs4 : Heap.set H3 b3 _ = H4
  have hg4 : H4.get b3 = some (.cells ([s, g]) 68 1) := set_get hs4
  have n4 := set_n hs4
  have o4 := set_old hs4
  have k24 : Keep H2 H4 := keep_put k3 (by omega) o4 n4
  have l4 := k24.1
  have hok := hse.so
  have hc := hok.all
  have hseok : seaE st gs = 0 := hse.ok hgl
  have hgo := gsOk_of hseok
  have hb4 := hb2.keep k24
  have hs4 : Ints H4 s st := (hse.s.keep k24).row
  have hg4x : Gri H4 g gv gs := hse.gri.keep k24
  have hglen : ∀ i, i < gs.length → gs[i]!.length < 1000000 := fun i hi => by have := (hse.go i hi).m; omega
  have hgmem : ∀ x ∈ gs, x.length < 1000000 := fun x hx => by
    obtain ⟨i, hi, rfl⟩ := List.getElem_of_mem hx
    have := hglen i hi
    rwa [getElem!_pos gs i hi] at this
  clear hse hb2 hg3
  repeat' first
    | refine CO.cons rfl ?_
    | refine CO.nil ?_
    | refine CV.seq ?_
    | refine CV.region callees ?_
    | (refine ⟨_, ldSe hg4, ?_⟩)
    | fail
  refine (combosR_spec (by omega) hs4 hok).mono ?_
  rintro r H5 ⟨rfl, k5⟩
  have l5 := k5.1
  obtain ⟨K, hK⟩ : ∃ K : Nat, combos st = (K : Int) := ⟨(combos st).toNat, by omega⟩
  have hS5 := (k5.2 b3 (by omega)).trans hg4
  have hb5 := hb4.keep k5
  have hs5 : Ints H5 s st := hs4.keep k5
  have hg5 := hg4x.keep k5
  repeat' first
    | refine CO.cons rfl ?_
    | refine CO.nil ?_
    | refine CV.seq ?_
    | refine CV.region callees ?_
    | refine CV.block ?_
    | fail
  refine CV.loopc ?_
  refine WCv.rounds callees false (α := Nat × Value) (fun (i, q) => [(3, bp b), (4, .pointer (some ⟨b3, 0, none⟩)), (5, VI (combos st)), (6, q), (7, VI i)]) (fun (i, q) Hz => i ≤ K ∧ (i = 0 ∨ Ints Hz q (comboL st ((i : Int) - 1))) ∧ Keep H5 Hz) (fun (i, q) => K - i) (0, nilS) (by repeat' first | exact trivial | refine ⟨rfl, ?_⟩ | refine ⟨slot_int (by (try simp only [Int.toNat_natCast]); omega), ?_⟩) ?_ ?_
  · exact ⟨by omega, .inl rfl, Keep.refl _⟩
  rintro ⟨i, q⟩ Hx ⟨hi, hq, kx⟩ hBx
  have lx := kx.1
  have hSx := (kx.2 b3 (by omega)).trans hS5
  have hsx : Ints Hx s st := hs5.keep kx
  by_cases hi2 : i < K
  · have hin : inB (i : Int) 0 (combos st - 1) = true := by simp only [inB, Bool.and_eq_true, decide_eq_true_eq]; omega
    repeat' first
      | refine CO.cons rfl ?_
      | refine CO.nil ?_
      | refine CV.seq ?_
      | refine CV.region callees ?_
      | refine CV.cond ?_
      | refine CV.block ?_
      | refine CV.skip ?_
      | (refine ⟨_, ldSe hSx, ?_⟩)
      | (refine ⟨fun _ => ?_, fun _ => ?_⟩ <;> first | (exfalso; omega) | skip)
      | fail
    refine (combination_spec (n := (i : Int)) (by omega) hsx (hg5.keep kx) (by omega) (by omega) hgmem).mono ?_
    rintro r H6 ⟨hr, k6⟩
    have l6 := k6.1
    obtain ⟨q', rfl, hq'⟩ : ∃ q', r = .tuple #[q', VI 0] ∧ Ints H6 q' (comboL st (i : Int)) := by
      rcases hr with ⟨h1, _⟩ | ⟨_, h2, _⟩ | ⟨_, _, q', h3, h4⟩
      · exact absurd hseok h1
      · rw [hin] at h2; cases h2
      · exact ⟨q', h3, h4.row⟩
    have hcl := comboL_len (st := st) (n := (i : Int))
    have hS6 := (k6.2 b3 (by omega)).trans hSx
    have hs6 : Ints H6 s st := hsx.keep k6
    by_cases hi0 : i = 0
    · have kc := kx.trans k6
      have hqc := hq'
      have hSc := hS6
      repeat' first
        | refine CO.cons rfl ?_
        | refine CO.nil ?_
        | refine CV.seq ?_
        | refine CV.region callees ?_
        | refine CV.cond ?_
        | refine CV.block ?_
        | refine CV.skip ?_
        | refine CO.consG rfl ?_
        | refine ⟨_, ints_len (by assumption), ?_⟩
        | (refine ⟨_, fS fe0 (by decide), ?_⟩)
        | (refine ⟨_, cell_load agN hS6 rfl, ?_⟩)
        | (refine ⟨fun _ => ?_, fun _ => ?_⟩ <;> first | (exfalso; omega) | skip)
        | fail
      refine CV.loopc ?_
      refine WCv.rounds callees false (α := Nat) (fun k => [(3, bp b), (4, .pointer (some ⟨b3, 0, none⟩)), (5, VI (combos st)), (7, VI i), (8, q'), (10, VI k)]) (fun k Hz => k ≤ st.length ∧ Keep H5 Hz ∧ Ints Hz q' (comboL st (i : Int)) ∧ Hz.get b3 = some (.cells [s, g] 68 1)) (fun k => st.length - k) (0) (by repeat' first | exact trivial | refine ⟨rfl, ?_⟩ | refine ⟨slot_int (by (try simp only [Int.toNat_natCast]); omega), ?_⟩) ?_ ?_
      · exact ⟨by omega, kc, hqc, hSc⟩
      clear kc hqc hSc
      rintro k Hk ⟨hk, kc, hqc, hSc⟩ hBk
      have hsc : Ints Hk s st := hs5.keep kc
      by_cases hk2 : k < st.length
      · have hlt := comboL_lt (n := (i : Int)) (k := k) hok (by omega) hk2
        have ha : (comboL st (i : Int))[(k : Int).toNat]! = (comboL st (i : Int))[k]! := rfl
        have hb' : st[(k : Int).toNat]! = st[k]! := rfl
        repeat' first
          | refine CO.cons rfl ?_
          | refine CO.nil ?_
          | refine CV.seq ?_
          | refine CV.region callees ?_
          | refine CV.cond ?_
          | refine CV.block ?_
          | refine CV.skip ?_
          | refine CV.draw callees (by decide +kernel) ?_
          | refine CH.cons rfl ?_
          | refine CH.nil ?_
          | refine CH.consG rfl ?_
          | refine ⟨_, ints_len (by assumption), ?_⟩
          | refine ⟨_, ints_addr (by assumption) (by omega) (by omega), ?_⟩
          | refine ⟨_, ints_load (by assumption) (by omega) (by omega), ?_⟩
          | refine ⟨(⟨by omega, by omega⟩ : inI64 _), ?_⟩
          | (refine ⟨_, fS fe0 (by decide), ?_⟩)
          | (refine ⟨_, cell_load agN hSc rfl, ?_⟩)
          | (refine ⟨fun _ => ?_, fun _ => ?_⟩ <;> first | (exfalso; omega) | skip)
          | fail
        refine ⟨(k + 1), (by repeat' first | exact trivial | refine ⟨rfl, ?_⟩ | refine ⟨slot_int (by (try simp only [Int.toNat_natCast]); omega), ?_⟩), (by (try dsimp only); omega), ?_⟩
        exact ⟨by omega, kc, hqc, hSc⟩
      obtain rfl : k = st.length := by omega
      repeat' first
        | refine CO.cons rfl ?_
        | refine CO.nil ?_
        | refine CV.seq ?_
        | refine CV.region callees ?_
        | refine CV.cond ?_
        | refine CV.exit ?_
        | refine ⟨_, ints_len (by assumption), ?_⟩
        | refine ⟨(⟨by omega, by omega⟩ : inI64 _), ?_⟩
        | (refine ⟨fun _ => ?_, fun _ => ?_⟩ <;> first | (exfalso; omega) | skip)
        | fail
      refine ⟨(i + 1, q'), (by repeat' first | exact trivial | refine ⟨rfl, ?_⟩ | refine ⟨slot_int (by (try simp only [Int.toNat_natCast]); omega), ?_⟩), (by (try dsimp only); omega), ?_⟩
      exact ⟨by omega, .inr (by rw [show ((i + 1 : Nat) : Int) - 1 = (i : Int) by omega]; exact hqc), kc⟩
    · have hql : Ints H6 q (comboL st ((i : Int) - 1)) := by
        rcases hq with h | h
        · exact absurd h hi0
        · exact Row.keep h k6
      have hcl2 := comboL_len (st := st) (n := (i : Int) - 1)
      repeat' first
        | refine CO.cons rfl ?_
        | refine CO.nil ?_
        | refine CV.seq ?_
        | refine CV.region callees ?_
        | refine CO.consG rfl ?_
        | refine ⟨_, ints_len (by assumption), ?_⟩
        | (refine ⟨_, fS fe0 (by decide), ?_⟩)
        | (refine ⟨_, cell_load agN hS6 rfl, ?_⟩)
        | (refine ⟨fun _ => ?_, fun _ => ?_⟩ <;> first | (exfalso; omega) | skip)
        | fail
      refine (before_spec (by omega) hql hq' (by omega) (by omega)).mono ?_
      rw [comboL_bef hok (by omega) (by omega) (by omega)]
      rintro r H7 ⟨rfl, k7⟩
      have kc := (kx.trans k6).trans k7
      have hqc : Ints H7 q' (comboL st (i : Int)) := Row.keep hq' k7
      have hSc := (k7.2 b3 (by omega)).trans hS6
      have l7 := k7.1
      repeat' first
        | refine CO.cons rfl ?_
        | refine CO.nil ?_
        | refine CV.seq ?_
        | refine CV.region callees ?_
        | refine CV.cond ?_
        | refine CV.block ?_
        | refine CV.skip ?_
        | refine CO.consG rfl ?_
        | fail
      refine CV.loopc ?_
      refine WCv.rounds callees false (α := Nat) (fun k => [(3, bp b), (4, .pointer (some ⟨b3, 0, none⟩)), (5, VI (combos st)), (7, VI i), (8, q'), (10, VI k)]) (fun k Hz => k ≤ st.length ∧ Keep H5 Hz ∧ Ints Hz q' (comboL st (i : Int)) ∧ Hz.get b3 = some (.cells [s, g] 68 1)) (fun k => st.length - k) (0) (by repeat' first | exact trivial | refine ⟨rfl, ?_⟩ | refine ⟨slot_int (by (try simp only [Int.toNat_natCast]); omega), ?_⟩) ?_ ?_
      · exact ⟨by omega, kc, hqc, hSc⟩
      clear kc hqc hSc
      rintro k Hk ⟨hk, kc, hqc, hSc⟩ hBk
      have hsc : Ints Hk s st := hs5.keep kc
      by_cases hk2 : k < st.length
      · have hlt := comboL_lt (n := (i : Int)) (k := k) hok (by omega) hk2
        have ha : (comboL st (i : Int))[(k : Int).toNat]! = (comboL st (i : Int))[k]! := rfl
        have hb' : st[(k : Int).toNat]! = st[k]! := rfl
        repeat' first
          | refine CO.cons rfl ?_
          | refine CO.nil ?_
          | refine CV.seq ?_
          | refine CV.region callees ?_
          | refine CV.cond ?_
          | refine CV.block ?_
          | refine CV.skip ?_
          | refine CV.draw callees (by decide +kernel) ?_
          | refine CH.cons rfl ?_
          | refine CH.nil ?_
          | refine CH.consG rfl ?_
          | refine ⟨_, ints_len (by assumption), ?_⟩
          | refine ⟨_, ints_addr (by assumption) (by omega) (by omega), ?_⟩
          | refine ⟨_, ints_load (by assumption) (by omega) (by omega), ?_⟩
          | refine ⟨(⟨by omega, by omega⟩ : inI64 _), ?_⟩
          | (refine ⟨_, fS fe0 (by decide), ?_⟩)
          | (refine ⟨_, cell_load agN hSc rfl, ?_⟩)
          | (refine ⟨fun _ => ?_, fun _ => ?_⟩ <;> first | (exfalso; omega) | skip)
          | fail
        refine ⟨(k + 1), (by repeat' first | exact trivial | refine ⟨rfl, ?_⟩ | refine ⟨slot_int (by (try simp only [Int.toNat_natCast]); omega), ?_⟩), (by (try dsimp only); omega), ?_⟩
        exact ⟨by omega, kc, hqc, hSc⟩
      obtain rfl : k = st.length := by omega
      repeat' first
        | refine CO.cons rfl ?_
        | refine CO.nil ?_
        | refine CV.seq ?_
        | refine CV.region callees ?_
        | refine CV.cond ?_
        | refine CV.exit ?_
        | refine ⟨_, ints_len (by assumption), ?_⟩
        | refine ⟨(⟨by omega, by omega⟩ : inI64 _), ?_⟩
        | (refine ⟨fun _ => ?_, fun _ => ?_⟩ <;> first | (exfalso; omega) | skip)
        | fail
      refine ⟨(i + 1, q'), (by repeat' first | exact trivial | refine ⟨rfl, ?_⟩ | refine ⟨slot_int (by (try simp only [Int.toNat_natCast]); omega), ?_⟩), (by (try dsimp only); omega), ?_⟩
      exact ⟨by omega, .inr (by rw [show ((i + 1 : Nat) : Int) - 1 = (i : Int) by omega]; exact hqc), kc⟩
  obtain rfl : i = K := by omega
  clear hq
  have hin : inB (combos st) 0 (combos st - 1) = false := by
    simp only [inB, Bool.and_eq_false_iff, decide_eq_false_iff_not]; omega
  repeat' first
    | refine CO.cons rfl ?_
    | refine CO.nil ?_
    | refine CV.seq ?_
    | refine CV.region callees ?_
    | refine CV.cond ?_
    | refine CV.exit ?_
    | (refine ⟨_, ldSe hSx, ?_⟩)
    | (refine ⟨fun _ => ?_, fun _ => ?_⟩ <;> first | (exfalso; omega) | skip)
    | fail
  refine (combination_spec (n := combos st) (by omega) hsx (hg5.keep kx) (by omega) (by omega) hgmem).mono ?_
  rintro r H6 ⟨hr, k6⟩
  have l6 := k6.1
  obtain rfl : r = .tuple #[nilS, VI 7] := by
    rcases hr with ⟨h1, _⟩ | ⟨_, _, h3⟩ | ⟨_, h2, _⟩
    · exact absurd hseok h1
    · exact h3
    · rw [hin] at h2; cases h2
  clear hr
  have k56 := kx.trans k6
  have hS6 := (k6.2 b3 (by omega)).trans hSx
  have hb6 := hb5.keep k56
  have hs6 : Ints H6 s st := hs5.keep k56
  have hg6 := hg5.keep k56
  repeat' first
    | refine CO.cons rfl ?_
    | refine CO.nil ?_
    | refine CV.seq ?_
    | refine CV.region callees ?_
    | refine CV.block ?_
    | fail
  refine CV.loopc ?_
  refine WCv.rounds callees false (α := Nat × Value × List Int) (fun (j, q, pl) => [(3, bp b), (4, .pointer (some ⟨b3, 0, none⟩)), (5, VI (combos st)), (12, VI 7), (13, q), (14, VI j)]) (fun (j, q, pl) Hz => j ≤ gs.length ∧ pl.length = j ∧ (∀ x ∈ pl, 0 ≤ x ∧ x ≤ combos st - 1) ∧ Own 3 Hz q (pl.map VI) H6.n ∧ Box b Hz ∧ KeepX b H6 Hz) (fun (j, q, pl) => gs.length - j) (0, nilS, []) (by repeat' first | exact trivial | refine ⟨rfl, ?_⟩ | refine ⟨slot_int (by (try simp only [Int.toNat_natCast]); omega), ?_⟩) ?_ ?_
  · exact ⟨by omega, rfl, (fun x h => by cases h), .inl ⟨rfl, rfl⟩, hb6, KeepX.refl _ _⟩
  rintro ⟨j, q, pl⟩ Hy ⟨hi, hpl, hpr, hq, hby, ky⟩ hBy
  have ly := ky.1
  have hgy := hg6.box ky hb6
  have hsy : Ints Hy s st := row_box hs6 ky hb6
  have hSy := (ky.2 b3 (by omega) (by omega)).trans hS6
  have hqa : ∀ c, blkOf q = some c → H6.n ≤ c := fun c hc => (hq.lt hc).1
  by_cases hi2 : j < gs.length
  · repeat' first
      | refine CO.cons rfl ?_
      | refine CO.nil ?_
      | refine CV.seq ?_
      | refine CV.region callees ?_
      | refine CV.cond ?_
      | refine CV.block ?_
      | refine CV.skip ?_
      | (refine ⟨_, fS fe1 (by decide), ?_⟩)
      | (refine ⟨_, cell_load agGr hSy rfl, ?_⟩)
      | (refine ⟨_, hgy.alen, ?_⟩)
      | (refine ⟨fun _ => ?_, fun _ => ?_⟩ <;> first | (exfalso; omega) | skip)
      | fail
    refine (up_spec hb (by omega) hby (by omega)).mono ?_
    rintro r H7 ⟨⟨x, rfl, hx0, hx1⟩, hb7, x7⟩
    have l7 := x7.1
    have hq7 := own_box hq x7 hby
    have hbyn := hby.1
    repeat' first
      | refine CO.cons rfl ?_
      | (refine ⟨_, _, build_one un22 one3 rfl, ?_⟩)
      | fail
    refine push_ask (y := x) hq7 (by omega) (by omega) (by omega) ?_
    intro q9 H9 hq9 kb9 hf9
    have l9 := kb9.le
    repeat' first
      | refine CO.cons rfl ?_
      | refine CO.nil ?_
      | refine CV.region callees ?_
      | refine ⟨(⟨by omega, by omega⟩ : inI64 _), ?_⟩
      | fail
    refine ⟨(j + 1, q9, pl ++ [x]), (by repeat' first | exact trivial | refine ⟨rfl, ?_⟩ | refine ⟨slot_int (by (try simp only [Int.toNat_natCast]); omega), ?_⟩), (by (try dsimp only); omega), ?_⟩
    refine ⟨by omega, by simp [hpl], fun y hy => ?_, hq9, hb7.keepBut kb9 (fun h => by have := hqa _ h; have := hb6.1; omega), kb9.keepX (ky.trans x7) hqa⟩
    rcases List.mem_append.1 hy with h | h
    · exact hpr y h
    · rw [List.mem_singleton] at h; omega
  obtain rfl : j = gs.length := by omega
  have hpe : planE st gs pl = 0 := by
    unfold planE
    rw [if_pos hseok, if_neg (by omega)]
    exact plE_of hpr
  have hrv : repV st gs pl = .tuple #[VI (repS gs pl pl.length).1, VI (repS gs pl pl.length).2.1, VI (repS gs pl pl.length).2.2, VI 0] := by unfold repV; rw [if_pos hpe]
  have hqy : Ints Hy q pl := hq.row
  repeat' first
    | refine CO.cons rfl ?_
    | refine CO.nil ?_
    | refine CV.seq ?_
    | refine CV.region callees ?_
    | refine CV.cond ?_
    | refine CV.exit ?_
    | (refine ⟨_, fS fe1 (by decide), ?_⟩)
    | (refine ⟨_, cell_load agGr hSy rfl, ?_⟩)
    | (refine ⟨_, hgy.alen, ?_⟩)
    | (refine ⟨_, ldSe hSy, ?_⟩)
    | (refine ⟨fun _ => ?_, fun _ => ?_⟩ <;> first | (exfalso; omega) | skip)
    | fail
  refine (repeats_spec (by omega) hsy hgy hqy (by omega) (by omega) hgmem (by omega)).mono ?_
  rintro r H7 ⟨rfl, k7⟩
  rw [hrv]
  have l7 := k7.1
  have hS7 := (k7.2 b3 (by omega)).trans hSy
  have hg7 := hgy.keep k7
  have hq7 : Ints H7 q pl := Row.keep hqy k7
  obtain ⟨m0, m1, m2⟩ := rep_guest (plan := pl) hgo (n := pl.length) (by omega)
  have hall := repT_all (plan := pl) hgo (n := pl.length) (by omega)
  have hcome := fun g => come_le (gs := gs) (plan := pl) (g := g) (K := i) (n := pl.length) (fun j hj => by
    have := hpr pl[j]! (by rw [getElem!_pos pl j hj]; exact List.getElem_mem _)
    omega)
  generalize (repS gs pl pl.length).2.2 = many at m0 m1 m2 hall hcome
  generalize (repS gs pl pl.length).2.1 = guest at m1 m2
  generalize (repS gs pl pl.length).1 = gath
  repeat' first
    | refine CO.cons rfl ?_
    | refine CO.nil ?_
    | refine CV.seq ?_
    | refine CV.region callees ?_
    | refine CO.consG rfl ?_
    | (refine ⟨_, ldSe hS7, ?_⟩)
    | (refine ⟨fun _ => ?_, fun _ => ?_⟩ <;> first | (exfalso; omega) | skip)
    | fail
  refine (repeatsL_spec (by omega) hg7 hq7 (by omega) hgl hglen).mono ?_
  rw [hall]
  rintro r H8 ⟨rfl, k8⟩
  have l8 := k8.1
  by_cases hm : many = 0
  · have hgm := m1 hm
    repeat' first
      | refine CO.cons rfl ?_
      | refine CO.nil ?_
      | refine CV.seq ?_
      | refine CV.region callees ?_
      | refine CV.cond ?_
      | refine CV.block ?_
      | refine CV.skip ?_
      | refine CO.consG rfl ?_
      | (refine ⟨_, fun tm ha => step1_boolNeq un4 rfl (ev_tmp ha rfl) (ev_tmp ha rfl), ?_⟩)
      | (refine ⟨fun _ => ?_, fun _ => ?_⟩ <;> first | (exfalso; omega) | skip)
      | fail
    refine CV.loopc ?_
    refine WCv.rounds callees false (α := Nat) (fun k => [(4, .pointer (some ⟨b3, 0, none⟩)), (5, VI (combos st)), (17, VI many), (19, VI k)]) (fun k Hz => k ≤ 12 ∧ Keep H8 Hz) (fun k => 12 - k) (0) (by repeat' first | exact trivial | refine ⟨rfl, ?_⟩ | refine ⟨slot_int (by (try simp only [Int.toNat_natCast]); omega), ?_⟩) ?_ ?_
    · exact ⟨by omega, Keep.refl _⟩
    rintro k Hu ⟨hk, ku⟩ hBu
    have lu := ku.1
    have hSu := (ku.2 b3 (by omega)).trans ((k8.2 b3 (by omega)).trans hS7)
    have hgu := (hg7.keep k8).keep ku
    by_cases hk2 : k < 12
    · have hc0 : comeG gs (k : Int) 0 = 0 := rfl
      repeat' first
        | refine CO.cons rfl ?_
        | refine CO.nil ?_
        | refine CV.seq ?_
        | refine CV.region callees ?_
        | refine CV.cond ?_
        | refine CV.block ?_
        | refine CV.skip ?_
        | (refine ⟨fun _ => ?_, fun _ => ?_⟩ <;> first | (exfalso; omega) | skip)
        | fail
      refine CV.loopc ?_
      refine WCv.rounds callees false (α := Nat) (fun j => [(4, .pointer (some ⟨b3, 0, none⟩)), (5, VI (combos st)), (17, VI many), (19, VI k), (20, VI (comeG gs (k : Int) j)), (21, VI j)]) (fun j Hz => j ≤ gs.length ∧ Hz = Hu) (fun j => gs.length - j) (0) (by repeat' first | exact trivial | refine ⟨rfl, ?_⟩ | refine ⟨slot_int (by (try simp only [Int.toNat_natCast]); omega), ?_⟩) ?_ ?_
      · exact ⟨by omega, rfl⟩
      rintro j Hw ⟨hj, rfl⟩ hBw
      have hcb := comeG_bd (gs := gs) (g := (k : Int)) (n := j)
      by_cases hj2 : j < gs.length
      · have had := hgu.addr hj2
        have hld := hgu.load hj2
        repeat' first
          | refine CO.cons rfl ?_
          | refine CO.nil ?_
          | refine CV.seq ?_
          | refine CV.region callees ?_
          | refine CV.cond ?_
          | refine CV.block ?_
          | refine CV.skip ?_
          | (refine ⟨_, fS fe1 (by decide), ?_⟩)
          | (refine ⟨_, cell_load agGr hSu rfl, ?_⟩)
          | (refine ⟨_, hgu.alen, ?_⟩)
          | (refine ⟨_, had, ?_⟩)
          | (refine ⟨_, hld, ?_⟩)
          | (refine ⟨fun _ => ?_, fun _ => ?_⟩ <;> first | (exfalso; omega) | skip)
          | fail
        refine (has_spec (t := (k : Int)) (by omega) (hgu.ints j hj2) (hglen j hj2)).mono ?_
        by_cases c1 : (k : Int) ∈ gs[j]!
        · rw [decide_eq_true c1]
          have e1 : comeG gs (k : Int) (j + 1) = comeG gs (k : Int) j + 1 := by rw [comeG, if_pos c1]
          rintro r Hv ⟨rfl, rfl⟩
          repeat' first
            | refine CO.cons rfl ?_
            | refine CO.nil ?_
            | refine CV.region callees ?_
            | refine CV.cond ?_
            | refine ⟨(⟨by omega, by omega⟩ : inI64 _), ?_⟩
            | fail
          refine ⟨(j + 1), (by repeat' first | exact trivial | refine ⟨rfl, ?_⟩ | refine ⟨slot_int (by (try simp only [Int.toNat_natCast]); omega), ?_⟩), (by (try dsimp only); omega), ?_⟩
          exact ⟨by omega, rfl⟩
        · rw [decide_eq_false c1]
          have e1 : comeG gs (k : Int) (j + 1) = comeG gs (k : Int) j := by rw [comeG, if_neg c1, Int.add_zero]
          rintro r Hv ⟨rfl, rfl⟩
          repeat' first
            | refine CO.cons rfl ?_
            | refine CO.nil ?_
            | refine CV.region callees ?_
            | refine CV.cond ?_
            | refine CV.skip ?_
            | refine ⟨(⟨by omega, by omega⟩ : inI64 _), ?_⟩
            | fail
          refine ⟨(j + 1), (by repeat' first | exact trivial | refine ⟨rfl, ?_⟩ | refine ⟨slot_int (by (try simp only [Int.toNat_natCast]); omega), ?_⟩), (by (try dsimp only); omega), ?_⟩
          exact ⟨by omega, rfl⟩
      obtain rfl : j = gs.length := by omega
      have hcm := hcome (k : Int)
      rw [hpl] at hcm
      by_cases c2 : combos st < comeG gs (k : Int) gs.length
      · have c3 : ¬ many = 0 := fun h => by have := hcm h; omega
        repeat' first
          | refine CO.cons rfl ?_
          | refine CV.seq ?_
          | refine CV.region callees ?_
          | (refine ⟨_, fS fe1 (by decide), ?_⟩)
          | (refine ⟨_, cell_load agGr hSu rfl, ?_⟩)
          | (refine ⟨_, hgu.alen, ?_⟩)
          | (refine ⟨fun _ => ?_, fun _ => ?_⟩ <;> first | (exfalso; omega) | skip)
          | fail
        all_goals (refine ⟨(k + 1), (by repeat' first | exact trivial | refine ⟨rfl, ?_⟩ | refine ⟨slot_int (by (try simp only [Int.toNat_natCast]); omega), ?_⟩), (by (try dsimp only); omega), ?_⟩ ; exact ⟨by omega, ku⟩)
      · repeat' first
          | refine CO.cons rfl ?_
          | refine CO.nil ?_
          | refine CV.seq ?_
          | refine CV.region callees ?_
          | refine CV.cond ?_
          | refine CV.skip ?_
          | refine CV.exit ?_
          | refine CO.consG rfl ?_
          | refine ⟨(⟨by omega, by omega⟩ : inI64 _), ?_⟩
          | (refine ⟨_, fS fe1 (by decide), ?_⟩)
          | (refine ⟨_, cell_load agGr hSu rfl, ?_⟩)
          | (refine ⟨_, hgu.alen, ?_⟩)
          | (refine ⟨fun _ => ?_, fun _ => ?_⟩ <;> first | (exfalso; omega) | skip)
          | fail
        refine ⟨(k + 1), (by repeat' first | exact trivial | refine ⟨rfl, ?_⟩ | refine ⟨slot_int (by (try simp only [Int.toNat_natCast]); omega), ?_⟩), (by (try dsimp only); omega), ?_⟩
        exact ⟨by omega, ku⟩
    obtain rfl : k = 12 := by omega
    repeat' first
      | refine CO.cons rfl ?_
      | refine CO.nil ?_
      | refine CV.seq ?_
      | refine CV.region callees ?_
      | refine CV.cond ?_
      | refine CV.exit ?_
      | (refine ⟨fun _ => ?_, fun _ => ?_⟩ <;> first | (exfalso; omega) | skip)
      | fail
    refine (awake_spec (by omega)).mono ?_
    rintro r I5 ⟨rfl, j5⟩
    repeat' first
      | refine CO.cons rfl ?_
      | refine CO.nil ?_
      | refine CV.ret ?_
      | fail
    exact ⟨rfl, rfl⟩
  · have hgm := m2 hm
    repeat' first
      | refine CO.cons rfl ?_
      | refine CO.nil ?_
      | refine CV.seq ?_
      | refine CV.region callees ?_
      | refine CV.cond ?_
      | refine CV.block ?_
      | refine CV.skip ?_
      | refine CO.consG rfl ?_
      | (refine ⟨_, fun tm ha => step1_boolNeq un4 rfl (ev_tmp ha rfl) (ev_tmp ha rfl), ?_⟩)
      | (refine ⟨fun _ => ?_, fun _ => ?_⟩ <;> first | (exfalso; omega) | skip)
      | fail
    refine CV.loopc ?_
    refine WCv.rounds callees false (α := Nat) (fun k => [(4, .pointer (some ⟨b3, 0, none⟩)), (5, VI (combos st)), (17, VI many), (19, VI k)]) (fun k Hz => k ≤ 12 ∧ Keep H8 Hz) (fun k => 12 - k) (0) (by repeat' first | exact trivial | refine ⟨rfl, ?_⟩ | refine ⟨slot_int (by (try simp only [Int.toNat_natCast]); omega), ?_⟩) ?_ ?_
    · exact ⟨by omega, Keep.refl _⟩
    rintro k Hu ⟨hk, ku⟩ hBu
    have lu := ku.1
    have hSu := (ku.2 b3 (by omega)).trans ((k8.2 b3 (by omega)).trans hS7)
    have hgu := (hg7.keep k8).keep ku
    by_cases hk2 : k < 12
    · have hc0 : comeG gs (k : Int) 0 = 0 := rfl
      repeat' first
        | refine CO.cons rfl ?_
        | refine CO.nil ?_
        | refine CV.seq ?_
        | refine CV.region callees ?_
        | refine CV.cond ?_
        | refine CV.block ?_
        | refine CV.skip ?_
        | (refine ⟨fun _ => ?_, fun _ => ?_⟩ <;> first | (exfalso; omega) | skip)
        | fail
      refine CV.loopc ?_
      refine WCv.rounds callees false (α := Nat) (fun j => [(4, .pointer (some ⟨b3, 0, none⟩)), (5, VI (combos st)), (17, VI many), (19, VI k), (20, VI (comeG gs (k : Int) j)), (21, VI j)]) (fun j Hz => j ≤ gs.length ∧ Hz = Hu) (fun j => gs.length - j) (0) (by repeat' first | exact trivial | refine ⟨rfl, ?_⟩ | refine ⟨slot_int (by (try simp only [Int.toNat_natCast]); omega), ?_⟩) ?_ ?_
      · exact ⟨by omega, rfl⟩
      rintro j Hw ⟨hj, rfl⟩ hBw
      have hcb := comeG_bd (gs := gs) (g := (k : Int)) (n := j)
      by_cases hj2 : j < gs.length
      · have had := hgu.addr hj2
        have hld := hgu.load hj2
        repeat' first
          | refine CO.cons rfl ?_
          | refine CO.nil ?_
          | refine CV.seq ?_
          | refine CV.region callees ?_
          | refine CV.cond ?_
          | refine CV.block ?_
          | refine CV.skip ?_
          | (refine ⟨_, fS fe1 (by decide), ?_⟩)
          | (refine ⟨_, cell_load agGr hSu rfl, ?_⟩)
          | (refine ⟨_, hgu.alen, ?_⟩)
          | (refine ⟨_, had, ?_⟩)
          | (refine ⟨_, hld, ?_⟩)
          | (refine ⟨fun _ => ?_, fun _ => ?_⟩ <;> first | (exfalso; omega) | skip)
          | fail
        refine (has_spec (t := (k : Int)) (by omega) (hgu.ints j hj2) (hglen j hj2)).mono ?_
        by_cases c1 : (k : Int) ∈ gs[j]!
        · rw [decide_eq_true c1]
          have e1 : comeG gs (k : Int) (j + 1) = comeG gs (k : Int) j + 1 := by rw [comeG, if_pos c1]
          rintro r Hv ⟨rfl, rfl⟩
          repeat' first
            | refine CO.cons rfl ?_
            | refine CO.nil ?_
            | refine CV.region callees ?_
            | refine CV.cond ?_
            | refine ⟨(⟨by omega, by omega⟩ : inI64 _), ?_⟩
            | fail
          refine ⟨(j + 1), (by repeat' first | exact trivial | refine ⟨rfl, ?_⟩ | refine ⟨slot_int (by (try simp only [Int.toNat_natCast]); omega), ?_⟩), (by (try dsimp only); omega), ?_⟩
          exact ⟨by omega, rfl⟩
        · rw [decide_eq_false c1]
          have e1 : comeG gs (k : Int) (j + 1) = comeG gs (k : Int) j := by rw [comeG, if_neg c1, Int.add_zero]
          rintro r Hv ⟨rfl, rfl⟩
          repeat' first
            | refine CO.cons rfl ?_
            | refine CO.nil ?_
            | refine CV.region callees ?_
            | refine CV.cond ?_
            | refine CV.skip ?_
            | refine ⟨(⟨by omega, by omega⟩ : inI64 _), ?_⟩
            | fail
          refine ⟨(j + 1), (by repeat' first | exact trivial | refine ⟨rfl, ?_⟩ | refine ⟨slot_int (by (try simp only [Int.toNat_natCast]); omega), ?_⟩), (by (try dsimp only); omega), ?_⟩
          exact ⟨by omega, rfl⟩
      obtain rfl : j = gs.length := by omega
      have hcm := hcome (k : Int)
      rw [hpl] at hcm
      by_cases c2 : combos st < comeG gs (k : Int) gs.length
      · have c3 : ¬ many = 0 := fun h => by have := hcm h; omega
        repeat' first
          | refine CO.cons rfl ?_
          | refine CO.nil ?_
          | refine CV.seq ?_
          | refine CV.region callees ?_
          | refine CV.cond ?_
          | refine CV.skip ?_
          | refine CV.exit ?_
          | refine CO.consG rfl ?_
          | refine ⟨(⟨by omega, by omega⟩ : inI64 _), ?_⟩
          | (refine ⟨_, fS fe1 (by decide), ?_⟩)
          | (refine ⟨_, cell_load agGr hSu rfl, ?_⟩)
          | (refine ⟨_, hgu.alen, ?_⟩)
          | (refine ⟨fun _ => ?_, fun _ => ?_⟩ <;> first | (exfalso; omega) | skip)
          | fail
        all_goals (refine ⟨(k + 1), (by repeat' first | exact trivial | refine ⟨rfl, ?_⟩ | refine ⟨slot_int (by (try simp only [Int.toNat_natCast]); omega), ?_⟩), (by (try dsimp only); omega), ?_⟩ ; exact ⟨by omega, ku⟩)
      · repeat' first
          | refine CO.cons rfl ?_
          | refine CO.nil ?_
          | refine CV.seq ?_
          | refine CV.region callees ?_
          | refine CV.cond ?_
          | refine CV.skip ?_
          | refine CV.exit ?_
          | refine CO.consG rfl ?_
          | refine ⟨(⟨by omega, by omega⟩ : inI64 _), ?_⟩
          | (refine ⟨_, fS fe1 (by decide), ?_⟩)
          | (refine ⟨_, cell_load agGr hSu rfl, ?_⟩)
          | (refine ⟨_, hgu.alen, ?_⟩)
          | (refine ⟨fun _ => ?_, fun _ => ?_⟩ <;> first | (exfalso; omega) | skip)
          | fail
        refine ⟨(k + 1), (by repeat' first | exact trivial | refine ⟨rfl, ?_⟩ | refine ⟨slot_int (by (try simp only [Int.toNat_natCast]); omega), ?_⟩), (by (try dsimp only); omega), ?_⟩
        exact ⟨by omega, ku⟩
    obtain rfl : k = 12 := by omega
    repeat' first
      | refine CO.cons rfl ?_
      | refine CO.nil ?_
      | refine CV.seq ?_
      | refine CV.region callees ?_
      | refine CV.cond ?_
      | refine CV.exit ?_
      | (refine ⟨fun _ => ?_, fun _ => ?_⟩ <;> first | (exfalso; omega) | skip)
      | fail
    refine (awake_spec (by omega)).mono ?_
    rintro r I5 ⟨rfl, j5⟩
    repeat' first
      | refine CO.cons rfl ?_
      | refine CO.nil ?_
      | refine CV.ret ?_
      | fail
    exact ⟨rfl, rfl⟩
end Go.Proofs.Ytjjmnfgnlcbfhaa
