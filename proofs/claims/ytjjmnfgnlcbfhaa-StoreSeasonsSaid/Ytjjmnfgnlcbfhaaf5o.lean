
/- Repeats of a plan, by the reference. -/
import Derived.Test.Ytjjmnfgnlcbfhaaf4o
set_option linter.unusedVariables false
set_option linter.unusedSimpArgs false
namespace Go.Proofs.Ytjjmnfgnlcbfhaa
open Go.AI
set_option maxHeartbeats 16000000 in
set_option maxRecDepth 100000 in
theorem met_spec [Orc] {B : Nat} {H : Heap} {s g v : Value} {gv : List Value} {plan : List Int} {gs : List (List Int)} {x c : Int} {n : Nat} (hB : B ≤ H.n) (hg : Gri H g gv gs) (hv : Ints H v plan) (hn1 : n ≤ gs.length) (hn2 : n ≤ plan.length) (hgn : gs.length < 1000000) (hgl : ∀ i, i < gs.length → gs[i]!.length < 1000000) :
    CallB Try.prog B 132 [Sev s g, v, VI x, VI c, VI n] H (fun r H' => r = .bool (decide (0 < cntF gs plan n x c)) ∧ Keep H H') := by
  refine CV.enter callees false (Orc.hv rfl rfl) Try.func132 rfl (by kernel_rfl) (Nat.le_of_ble_eq_true rfl) hB ?_ (Orc.hw rfl rfl)
  repeat' first
    | refine CO.cons rfl ?_
    | refine CV.seq ?_
    | refine CV.region callees ?_
    | fail
  refine ⟨(by simp only [notTuple]), ?_⟩
  rw [boxSe]
  generalize hs0 : Heap.new H _ = H0
  have hg0 := new_get hs0
  have k0 := new_keep hs0
  have n0 := new_n hs0
  obtain ⟨b0, hbn0⟩ : ∃ b, Heap.n H = b := ⟨_, rfl⟩
  rw [hbn0] at hg0 n0 ⊢
  have hgr := hg.keep k0
  have hv0 : Ints H0 v plan := hv.keep k0
  repeat' first
    | refine CO.cons rfl ?_
    | refine CO.nil ?_
    | refine CV.seq ?_
    | refine CV.region callees ?_
    | refine CV.block ?_
    | fail
  refine CV.loopc ?_
  refine WCv.rounds callees false (α := Nat) (fun i => [(1, v), (2, VI x), (3, VI c), (4, VI n), (5, .pointer (some ⟨b0, 0, none⟩)), (11, VI i)]) (fun i Hz => i ≤ n ∧ ¬ 0 < cntF gs plan i x c ∧ Hz = H0) (fun i => n - i) (0) (by repeat' first | exact trivial | refine ⟨rfl, ?_⟩ | refine ⟨slot_int (by (try simp only [Int.toNat_natCast]); omega), ?_⟩) ?_ ?_
  · exact ⟨by omega, by simp [cntF], rfl⟩
  rintro i Hx ⟨hi, hw, rfl⟩ hBx
  by_cases hi2 : i < n
  · have hig : i < gs.length := by omega
    have had := hgr.addr hig
    have hld := hgr.load hig
    have hl := hgr.ints i hig
    have hll := hgl i hig
    have hps := cntF_pos (gs := gs) (plan := plan) (i := i) (g := x) (c := c)
    have hmo := cntF_mono (gs := gs) (plan := plan) (i := i + 1) (j := n) (g := x) (c := c) (by omega)
    generalize gs[i]! = l at hl hll hps
    generalize gv[i]! = w at hl hld
    have hpi : plan[(i : Int).toNat]! = plan[i]! := rfl
    repeat' first
      | refine CO.cons rfl ?_
      | refine CO.nil ?_
      | refine CV.seq ?_
      | refine CV.region callees ?_
      | refine CV.cond ?_
      | refine CV.block ?_
      | refine CV.skip ?_
      | (refine ⟨fun _ => ?_, fun _ => ?_⟩ <;> first | (exfalso; omega) | skip)
      | fail
    refine CV.loopc ?_
    refine WCv.rounds callees false (α := Nat) (fun k => [(1, v), (2, VI x), (3, VI c), (4, VI n), (5, .pointer (some ⟨b0, 0, none⟩)), (11, VI i), (12, VI k)]) (fun k Hz => k ≤ l.length ∧ ¬ (c = plan[i]! ∧ x ∈ l.take k) ∧ Hz = Hx) (fun k => l.length - k) (0) (by repeat' first | exact trivial | refine ⟨rfl, ?_⟩ | refine ⟨slot_int (by (try simp only [Int.toNat_natCast]); omega), ?_⟩) ?_ ?_
    · exact ⟨by omega, by simp, rfl⟩
    rintro k Hy ⟨hk, hnm, rfl⟩ hBy
    by_cases hk2 : k < l.length
    · have hlk : l[(k : Int).toNat]! = l[k]! := rfl
      by_cases c1 : l[k]! = x
      · by_cases c2 : plan[i]! = c
        · have hin : x ∈ l := by rw [← c1, getElem!_pos l k hk2]; exact List.getElem_mem _
          have hres : 0 < cntF gs plan n x c := hmo (hps.2 (.inr ⟨c2.symm, hin⟩))
          repeat' first
            | refine CO.cons rfl ?_
            | refine CO.nil ?_
            | refine CV.seq ?_
            | refine CV.region callees ?_
            | refine CV.cond ?_
            | refine CV.block ?_
            | refine CV.skip ?_
            | refine CV.ret ?_
            | refine CO.consG rfl ?_
            | refine ⟨_, ints_len (by assumption), ?_⟩
            | refine ⟨_, ints_addr (by assumption) (by omega) (by omega), ?_⟩
            | refine ⟨_, ints_load (by assumption) (by omega) (by omega), ?_⟩
            | (refine ⟨_, fS fe1 (by decide), ?_⟩)
            | (refine ⟨_, cell_load agGr hg0 rfl, ?_⟩)
            | (refine ⟨_, had, ?_⟩)
            | (refine ⟨_, hld, ?_⟩)
            | (refine ⟨fun _ => ?_, fun _ => ?_⟩ <;> first | (exfalso; omega) | skip)
            | fail
          exact ⟨rfl, by rw [decide_eq_true hres], k0⟩
        · repeat' first
            | refine CO.cons rfl ?_
            | refine CO.nil ?_
            | refine CV.seq ?_
            | refine CV.region callees ?_
            | refine CV.cond ?_
            | refine CV.block ?_
            | refine CV.skip ?_
            | refine CO.consG rfl ?_
            | refine ⟨_, ints_len (by assumption), ?_⟩
            | refine ⟨_, ints_addr (by assumption) (by omega) (by omega), ?_⟩
            | refine ⟨_, ints_load (by assumption) (by omega) (by omega), ?_⟩
            | refine ⟨(⟨by omega, by omega⟩ : inI64 _), ?_⟩
            | (refine ⟨_, fS fe1 (by decide), ?_⟩)
            | (refine ⟨_, cell_load agGr hg0 rfl, ?_⟩)
            | (refine ⟨_, had, ?_⟩)
            | (refine ⟨_, hld, ?_⟩)
            | (refine ⟨fun _ => ?_, fun _ => ?_⟩ <;> first | (exfalso; omega) | skip)
            | fail
          refine ⟨(k + 1), (by repeat' first | exact trivial | refine ⟨rfl, ?_⟩ | refine ⟨slot_int (by (try simp only [Int.toNat_natCast]); omega), ?_⟩), (by (try dsimp only); omega), ?_⟩
          exact ⟨by omega, fun h => c2 h.1.symm, rfl⟩
      · repeat' first
          | refine CO.cons rfl ?_
          | refine CO.nil ?_
          | refine CV.seq ?_
          | refine CV.region callees ?_
          | refine CV.cond ?_
          | refine CV.block ?_
          | refine CV.skip ?_
          | refine CO.consG rfl ?_
          | refine ⟨_, ints_len (by assumption), ?_⟩
          | refine ⟨_, ints_addr (by assumption) (by omega) (by omega), ?_⟩
          | refine ⟨_, ints_load (by assumption) (by omega) (by omega), ?_⟩
          | refine ⟨(⟨by omega, by omega⟩ : inI64 _), ?_⟩
          | (refine ⟨_, fS fe1 (by decide), ?_⟩)
          | (refine ⟨_, cell_load agGr hg0 rfl, ?_⟩)
          | (refine ⟨_, had, ?_⟩)
          | (refine ⟨_, hld, ?_⟩)
          | (refine ⟨fun _ => ?_, fun _ => ?_⟩ <;> first | (exfalso; omega) | skip)
          | fail
        refine ⟨(k + 1), (by repeat' first | exact trivial | refine ⟨rfl, ?_⟩ | refine ⟨slot_int (by (try simp only [Int.toNat_natCast]); omega), ?_⟩), (by (try dsimp only); omega), ?_⟩
        refine ⟨by omega, fun h => ?_, rfl⟩
        obtain ⟨h1, h2⟩ := h
        rw [tk_at hk2, List.mem_append, List.mem_singleton] at h2
        rcases h2 with h2 | h2
        · exact hnm ⟨h1, h2⟩
        · exact c1 h2.symm
    obtain rfl : k = l.length := by omega
    rw [List.take_length] at hnm
    repeat' first
      | refine CO.cons rfl ?_
      | refine CO.nil ?_
      | refine CV.seq ?_
      | refine CV.region callees ?_
      | refine CV.cond ?_
      | refine CV.exit ?_
      | refine ⟨_, ints_len (by assumption), ?_⟩
      | refine ⟨(⟨by omega, by omega⟩ : inI64 _), ?_⟩
      | (refine ⟨_, fS fe1 (by decide), ?_⟩)
      | (refine ⟨_, cell_load agGr hg0 rfl, ?_⟩)
      | (refine ⟨_, had, ?_⟩)
      | (refine ⟨_, hld, ?_⟩)
      | (refine ⟨fun _ => ?_, fun _ => ?_⟩ <;> first | (exfalso; omega) | skip)
      | fail
    refine ⟨(i + 1), (by repeat' first | exact trivial | refine ⟨rfl, ?_⟩ | refine ⟨slot_int (by (try simp only [Int.toNat_natCast]); omega), ?_⟩), (by (try dsimp only); omega), ?_⟩
    exact ⟨by omega, fun h => (hps.1 h).elim hw hnm, rfl⟩
  obtain rfl : i = n := by omega
  repeat' first
    | refine CO.cons rfl ?_
    | refine CO.nil ?_
    | refine CV.seq ?_
    | refine CV.region callees ?_
    | refine CV.cond ?_
    | refine CV.exit ?_
    | refine CV.ret ?_
    | (refine ⟨fun _ => ?_, fun _ => ?_⟩ <;> first | (exfalso; omega) | skip)
    | fail
  exact ⟨rfl, by rw [decide_eq_false hw], k0⟩
theorem foldl_min_nonneg : ∀ {t : List Int} {x : Int}, 0 ≤ x → (∀ y ∈ t, 0 ≤ y) → 0 ≤ t.foldl min x
  | [], _, h, _ => h
  | y :: t, x, h, ht => by
    rw [List.foldl_cons]
    have := ht y (by simp)
    exact foldl_min_nonneg (by omega) fun z hz => ht z (by simp [hz])
theorem minL_nonneg {l : List Int} (h : l ≠ []) (hl : ∀ y ∈ l, 0 ≤ y) : 0 ≤ minL l := by
  cases l with
  | nil => exact absurd rfl h
  | cons x t => exact foldl_min_nonneg (hl x (by simp)) fun y hy => hl y (by simp [hy])
set_option maxHeartbeats 16000000 in
set_option maxRecDepth 100000 in
theorem repeated_spec [Orc] {B n : Nat} {H : Heap} {s g v : Value} {gv : List Value} {plan : List Int} {gs : List (List Int)} (hB : B ≤ H.n) (hg : Gri H g gv gs) (hv : Ints H v plan) (hn1 : n < gs.length) (hn2 : n < plan.length) (hgn : gs.length < 1000000) (hgl : ∀ i, i < gs.length → gs[i]!.length < 1000000) (hpos : ∀ y ∈ gs[n]!, 0 ≤ y) :
    CallB Try.prog B 109 [Sev s g, v, VI n] H (fun r H' => r = .tuple #[VI (againL gs plan n).length, VI (minL (againL gs plan n))] ∧ Keep H H') := by
  refine CV.enter callees false (Orc.hv rfl rfl) Try.func109 rfl (by kernel_rfl) (Nat.le_of_ble_eq_true rfl) hB ?_ (Orc.hw rfl rfl)
  repeat' first
    | refine CO.cons rfl ?_
    | refine CV.seq ?_
    | refine CV.region callees ?_
    | fail
  refine ⟨(by simp only [notTuple]), ?_⟩
  rw [boxSe]
  generalize hs0 : Heap.new H _ = H0
  have hg0 := new_get hs0
  have k0 := new_keep hs0
  have n0 := new_n hs0
  obtain ⟨b0, hbn0⟩ : ∃ b, Heap.n H = b := ⟨_, rfl⟩
  rw [hbn0] at hg0 n0 ⊢
  have hgr0 := hg.keep k0
  have hv0 : Ints H0 v plan := hv.keep k0
  have hll := hgl n hn1
  obtain ⟨l, hl⟩ : ∃ l, gs[n]! = l := ⟨_, rfl⟩
  rw [hl] at hpos hll
  have hal : againL gs plan n = l.filter fun g => decide (0 < cntF gs plan n g plan[n]!) := by rw [← hl]; rfl
  repeat' first
    | refine CO.cons rfl ?_
    | refine CO.nil ?_
    | refine CV.seq ?_
    | refine CV.region callees ?_
    | refine CV.block ?_
    | fail
  refine CV.loopc ?_
  refine WCv.rounds callees false (α := Nat) (fun k => [(1, v), (2, VI n), (3, .pointer (some ⟨b0, 0, none⟩)), (8, VI ((l.take k).filter fun g => decide (0 < cntF gs plan n g plan[n]!)).length), (9, VI (minL ((l.take k).filter fun g => decide (0 < cntF gs plan n g plan[n]!)))), (10, VI k)]) (fun k Hz => k ≤ l.length ∧ Keep H0 Hz) (fun k => l.length - k) (0) (by repeat' first | exact trivial | refine ⟨rfl, ?_⟩ | refine ⟨slot_int (by (try simp only [Int.toNat_natCast]); omega), ?_⟩) ?_ ?_
  · exact ⟨by omega, Keep.refl _⟩
  rintro k Hx ⟨hk, kx⟩ hBx
  have lx := kx.1
  have hgr := hgr0.keep kx
  have hvx : Ints Hx v plan := hv0.keep kx
  have had := hgr.addr hn1
  have hld := hgr.load hn1
  have hli : Ints Hx gv[n]! l := by rw [← hl]; exact hgr.ints n hn1
  have hS := (kx.2 b0 (by omega)).trans hg0
  by_cases hk2 : k < l.length
  · have hpn : plan[(n : Int).toNat]! = plan[n]! := rfl
    have hlk : l[(k : Int).toNat]! = l[k]! := rfl
    have hy := hpos l[k]! (by rw [getElem!_pos l k hk2]; exact List.getElem_mem _)
    have hfm : ∀ y ∈ (l.take k).filter (fun g => decide (0 < cntF gs plan n g plan[n]!)), 0 ≤ y := fun y h => hpos y (List.mem_of_mem_take (List.mem_filter.1 h).1)
    have hfl : ((l.take k).filter fun g => decide (0 < cntF gs plan n g plan[n]!)).length ≤ k := Nat.le_trans (List.length_filter_le _ _) (by rw [List.length_take]; omega)
    have hsn : (l.take (k + 1)).filter (fun g => decide (0 < cntF gs plan n g plan[n]!)) = (l.take k).filter (fun g => decide (0 < cntF gs plan n g plan[n]!)) ++ (if 0 < cntF gs plan n l[k]! plan[n]! then [l[k]!] else []) := by
      rw [tk_at hk2, List.filter_append]
      congr 1
      by_cases h : 0 < cntF gs plan n l[k]! plan[n]!
      · rw [if_pos h, List.filter_cons_of_pos (by rw [decide_eq_true_eq]; exact h), List.filter_nil]
      · rw [if_neg h, List.filter_cons_of_neg (by rw [decide_eq_true_eq]; exact h), List.filter_nil]
    obtain ⟨fl, hfl0⟩ : ∃ fl, (l.take k).filter (fun g => decide (0 < cntF gs plan n g plan[n]!)) = fl := ⟨_, rfl⟩
    rw [hfl0] at hfm hfl hsn ⊢
    obtain ⟨fl', hfl1⟩ : ∃ fl', (l.take (k + 1)).filter (fun g => decide (0 < cntF gs plan n g plan[n]!)) = fl' := ⟨_, rfl⟩
    rw [hfl1] at hsn
    repeat' first
      | refine CO.cons rfl ?_
      | refine CO.nil ?_
      | refine CV.seq ?_
      | refine CV.region callees ?_
      | refine CV.cond ?_
      | refine CV.block ?_
      | refine CV.skip ?_
      | refine CV.draw callees (by decide +kernel) ?_
      | refine CH.cons rfl ?_
      | refine CH.nil ?_
      | refine ⟨_, ints_len (by assumption), ?_⟩
      | refine ⟨_, ints_addr (by assumption) (by omega) (by omega), ?_⟩
      | refine ⟨_, ints_load (by assumption) (by omega) (by omega), ?_⟩
      | (refine ⟨_, fS fe1 (by decide), ?_⟩)
      | (refine ⟨_, cell_load agGr hS rfl, ?_⟩)
      | (refine ⟨_, had, ?_⟩)
      | (refine ⟨_, hld, ?_⟩)
      | (refine ⟨_, ldSe hS, ?_⟩)
      | (refine ⟨fun _ => ?_, fun _ => ?_⟩ <;> first | (exfalso; omega) | skip)
      | fail
    refine (met_spec (x := l[k]!) (c := plan[n]!) (n := n) (by omega) hgr hvx (by omega) (by omega) hgn hgl).mono ?_
    by_cases hm : 0 < cntF gs plan n l[k]! plan[n]!
    · rw [decide_eq_true hm]
      rw [if_pos hm] at hsn
      rintro r H2 ⟨rfl, k2⟩
      have e1 : (fl'.length : Int) = fl.length + 1 := by rw [hsn, List.length_append, List.length_singleton]; omega
      by_cases h0 : fl = []
      · have e2 : minL fl' = l[k]! := by rw [hsn, h0]; rfl
        have e3 : minL fl = -1 := by rw [h0]; rfl
        repeat' first
          | refine CO.cons rfl ?_
          | refine CO.nil ?_
          | refine CV.seq ?_
          | refine CV.region callees ?_
          | refine CV.cond ?_
          | refine CV.skip ?_
          | refine CH.cons rfl ?_
          | refine CH.nil ?_
          | refine CO.consG rfl ?_
          | refine ⟨(⟨by omega, by omega⟩ : inI64 _), ?_⟩
          | (refine ⟨fun _ => ?_, fun _ => ?_⟩ <;> first | (exfalso; omega) | skip)
          | fail
        subst hfl1
        refine ⟨(k + 1), (by repeat' first | exact trivial | refine ⟨rfl, ?_⟩ | refine ⟨slot_int (by (try simp only [Int.toNat_natCast]); omega), ?_⟩), (by (try dsimp only); omega), ?_⟩
        exact ⟨by omega, kx.trans k2⟩
      · have e2 : minL fl' = min (minL fl) l[k]! := by rw [hsn]; exact minL_snoc h0
        have e3 := minL_nonneg h0 hfm
        by_cases h3 : l[k]! < minL fl
        · have e4 : minL fl' = l[k]! := by omega
          repeat' first
            | refine CO.cons rfl ?_
            | refine CO.nil ?_
            | refine CV.seq ?_
            | refine CV.region callees ?_
            | refine CV.cond ?_
            | refine CV.skip ?_
            | refine CH.cons rfl ?_
            | refine CH.nil ?_
            | refine CO.consG rfl ?_
            | refine ⟨(⟨by omega, by omega⟩ : inI64 _), ?_⟩
            | (refine ⟨fun _ => ?_, fun _ => ?_⟩ <;> first | (exfalso; omega) | skip)
            | fail
          subst hfl1
          refine ⟨(k + 1), (by repeat' first | exact trivial | refine ⟨rfl, ?_⟩ | refine ⟨slot_int (by (try simp only [Int.toNat_natCast]); omega), ?_⟩), (by (try dsimp only); omega), ?_⟩
          exact ⟨by omega, kx.trans k2⟩
        · have e4 : minL fl' = minL fl := by omega
          repeat' first
            | refine CO.cons rfl ?_
            | refine CO.nil ?_
            | refine CV.seq ?_
            | refine CV.region callees ?_
            | refine CV.cond ?_
            | refine CV.skip ?_
            | refine CH.cons rfl ?_
            | refine CH.nil ?_
            | refine CO.consG rfl ?_
            | refine ⟨(⟨by omega, by omega⟩ : inI64 _), ?_⟩
            | (refine ⟨fun _ => ?_, fun _ => ?_⟩ <;> first | (exfalso; omega) | skip)
            | fail
          subst hfl1
          refine ⟨(k + 1), (by repeat' first | exact trivial | refine ⟨rfl, ?_⟩ | refine ⟨slot_int (by (try simp only [Int.toNat_natCast]); omega), ?_⟩), (by (try dsimp only); omega), ?_⟩
          exact ⟨by omega, kx.trans k2⟩
    · rw [decide_eq_false hm]
      rw [if_neg hm, List.append_nil] at hsn
      rintro r H2 ⟨rfl, k2⟩
      have e1 : (fl'.length : Int) = fl.length := by rw [hsn]
      have e2 : minL fl' = minL fl := by rw [hsn]
      repeat' first
        | refine CO.cons rfl ?_
        | refine CO.nil ?_
        | refine CV.region callees ?_
        | refine CV.cond ?_
        | refine CV.exit ?_
        | refine CH.cons rfl ?_
        | refine CH.nil ?_
        | refine ⟨(⟨by omega, by omega⟩ : inI64 _), ?_⟩
        | fail
      subst hfl1
      refine ⟨(k + 1), (by repeat' first | exact trivial | refine ⟨rfl, ?_⟩ | refine ⟨slot_int (by (try simp only [Int.toNat_natCast]); omega), ?_⟩), (by (try dsimp only); omega), ?_⟩
      exact ⟨by omega, kx.trans k2⟩
  obtain rfl : k = l.length := by omega
  rw [List.take_length, ← hal]
  repeat' first
    | refine CO.cons rfl ?_
    | refine CO.nil ?_
    | refine CV.seq ?_
    | refine CV.region callees ?_
    | refine CV.cond ?_
    | refine CV.exit ?_
    | refine CV.ret ?_
    | refine ⟨_, ints_len (by assumption), ?_⟩
    | (refine ⟨_, fS fe1 (by decide), ?_⟩)
    | (refine ⟨_, cell_load agGr hS rfl, ?_⟩)
    | (refine ⟨_, had, ?_⟩)
    | (refine ⟨_, hld, ?_⟩)
    | (refine ⟨fun _ => ?_, fun _ => ?_⟩ <;> first | (exfalso; omega) | skip)
    | fail
  exact ⟨rfl, rfl, k0.trans kx⟩
set_option maxHeartbeats 16000000 in
set_option maxRecDepth 100000 in
theorem repeatsR_spec [Orc] {B : Nat} {H : Heap} {s g v : Value} {gv : List Value} {st plan : List Int} {gs : List (List Int)} (hB : B ≤ H.n) (hs : Ints H s st) (hg : Gri H g gv gs) (hv : Ints H v plan) (hsn : st.length < 1000000) (hgn : gs.length < 1000000) (hgg : ∀ x ∈ gs, x.length < 1000000) (hpn : plan.length < 1000000) :
    CallB Try.prog B 51 [Sev s g, v] H (fun r H' => r = repV st gs plan ∧ Keep H H') := by
  refine CV.enter callees false (Orc.hv rfl rfl) Try.func51 rfl (by kernel_rfl) (Nat.le_of_ble_eq_true rfl) hB ?_ (Orc.hw rfl rfl)
  repeat' first
    | refine CO.cons rfl ?_
    | refine CV.seq ?_
    | refine CV.region callees ?_
    | fail
  refine ⟨(by simp only [notTuple]), ?_⟩
  rw [boxSe]
  generalize hs0 : Heap.new H _ = H0
  have hg0 := new_get hs0
  have k0 := new_keep hs0
  have n0 := new_n hs0
  obtain ⟨b0, hbn0⟩ : ∃ b, Heap.n H = b := ⟨_, rfl⟩
  rw [hbn0] at hg0 n0 ⊢
  have hs0 : Ints H0 s st := hs.keep k0
  have hgr0 := hg.keep k0
  repeat' first
    | refine CO.cons rfl ?_
    | refine CO.nil ?_
    | refine CV.seq ?_
    | refine CV.region callees ?_
    | (refine ⟨_, ldSe hg0, ?_⟩)
    | fail
  refine (checkSeasonR_spec (by omega) hs0 hgr0 hsn hgn hgg).mono ?_
  rintro r H1 ⟨rfl, k1⟩
  have l1 := k1.1
  have k01 := k0.trans k1
  by_cases he : seaE st gs = 0
  rotate_left
  · have e1 : planE st gs plan = seaE st gs := by unfold planE; rw [if_neg he]
    have e : repV st gs plan = .tuple #[VI 0, VI 0, VI 0, VI (seaE st gs)] := by unfold repV; rw [if_neg (by rw [e1]; exact he), e1]
    repeat' first
      | refine CO.cons rfl ?_
      | refine CO.nil ?_
      | refine CV.seq ?_
      | refine CV.region callees ?_
      | refine CV.cond ?_
      | refine CV.ret ?_
      | (refine ⟨fun _ => ?_, fun _ => ?_⟩ <;> first | (exfalso; omega) | skip)
      | fail
    exact ⟨rfl, by rw [e], k01⟩
  obtain ⟨hok, h9, _⟩ := seaE_ok he
  have hgo := gsOk_of he
  have hglen : ∀ i, i < gs.length → gs[i]!.length < 1000000 := fun i hi => hgg _ (by rw [getElem!_pos gs i hi]; exact List.getElem_mem _)
  have hc := hok.all
  have hS1 := (k1.2 b0 (by omega)).trans hg0
  have hgr1 := hg.keep k01
  have hv1 : Ints H1 v plan := hv.keep k01
  by_cases hlen : gs.length < plan.length
  · have e1 : planE st gs plan = 8 := by unfold planE; rw [if_pos he, if_pos hlen]
    have e : repV st gs plan = .tuple #[VI 0, VI 0, VI 0, VI 8] := by unfold repV; rw [if_neg (by rw [e1]; decide), e1]
    repeat' first
      | refine CO.cons rfl ?_
      | refine CO.nil ?_
      | refine CV.seq ?_
      | refine CV.region callees ?_
      | refine CV.cond ?_
      | refine CV.skip ?_
      | refine CV.ret ?_
      | refine ⟨_, ints_len (by assumption), ?_⟩
      | (refine ⟨_, fS fe1 (by decide), ?_⟩)
      | (refine ⟨_, cell_load agGr hS1 rfl, ?_⟩)
      | (refine ⟨_, hgr1.alen, ?_⟩)
      | (refine ⟨fun _ => ?_, fun _ => ?_⟩ <;> first | (exfalso; omega) | skip)
      | fail
    exact ⟨rfl, by rw [e], k01⟩
  have ep : planE st gs plan = plE (combos st - 1) plan := by unfold planE; rw [if_pos he, if_neg hlen]
  repeat' first
    | refine CO.cons rfl ?_
    | refine CO.nil ?_
    | refine CV.seq ?_
    | refine CV.region callees ?_
    | refine CV.cond ?_
    | refine CV.block ?_
    | refine CV.skip ?_
    | refine ⟨_, ints_len (by assumption), ?_⟩
    | (refine ⟨_, fS fe1 (by decide), ?_⟩)
    | (refine ⟨_, cell_load agGr hS1 rfl, ?_⟩)
    | (refine ⟨_, hgr1.alen, ?_⟩)
    | (refine ⟨fun _ => ?_, fun _ => ?_⟩ <;> first | (exfalso; omega) | skip)
    | fail
  refine CV.loopc ?_
  refine WCv.rounds callees false (α := Nat) (fun i => [(1, v), (2, .pointer (some ⟨b0, 0, none⟩)), (9, VI i)]) (fun i Hz => i ≤ plan.length ∧ plE (combos st - 1) (plan.drop i) = planE st gs plan ∧ Keep H1 Hz) (fun i => plan.length - i) (0) (by repeat' first | exact trivial | refine ⟨rfl, ?_⟩ | refine ⟨slot_int (by (try simp only [Int.toNat_natCast]); omega), ?_⟩) ?_ ?_
  · exact ⟨by omega, ep.symm, Keep.refl _⟩
  rintro i Hx ⟨hi, hw, kx⟩ hBx
  have lx := kx.1
  have hvx : Ints Hx v plan := hv1.keep kx
  by_cases hi2 : i < plan.length
  · rw [dr_at hi2] at hw
    simp only [plE] at hw
    have hSx := (kx.2 b0 (by omega)).trans hS1
    have hsx : Ints Hx s st := hs.keep (k01.trans kx)
    repeat' first
      | refine CO.cons rfl ?_
      | refine CO.nil ?_
      | refine CV.seq ?_
      | refine CV.region callees ?_
      | refine CV.cond ?_
      | refine CV.block ?_
      | refine CV.skip ?_
      | refine CG.cons rfl ?_
      | refine ⟨_, ints_len (by assumption), ?_⟩
      | refine ⟨_, ints_addr (by assumption) (by omega) (by omega), ?_⟩
      | refine ⟨_, ints_load (by assumption) (by omega) (by omega), ?_⟩
      | refine CV.wide callees (by decide +kernel) [0, 1, 2, 3, 4, 5, 6, 7, 8] (by kernel_rfl) ?_
      | (refine ⟨_, ldSe hSx, ?_⟩)
      | (refine ⟨fun _ => ?_, fun _ => ?_⟩ <;> first | (exfalso; omega) | skip)
      | fail
    refine (combosR_spec (Nat.le_refl _) hsx hok).mono ?_
    rintro r H2 ⟨rfl, k2⟩
    have l2 := k2.1
    repeat' first
      | refine CG.cons rfl ?_
      | refine ⟨(⟨by omega, by omega⟩ : inI64 _), ?_⟩
      | fail
    refine (withinR_spec (n := plan[i]!) (by omega)).mono ?_
    cases c1 : inB plan[i]! 0 (combos st - 1)
    · rintro r H3 ⟨rfl, rfl⟩
      rw [c1, cond_false] at hw
      have e : repV st gs plan = .tuple #[VI 0, VI 0, VI 0, VI 7] := by unfold repV; rw [if_neg (by rw [← hw]; decide), ← hw]
      repeat' first
        | refine CO.cons rfl ?_
        | refine CO.nil ?_
        | refine CV.seq ?_
        | refine CV.region callees ?_
        | refine CV.cond ?_
        | refine CV.ret ?_
        | refine CG.cons rfl ?_
        | refine CG.nil ?_
        | fail
      exact ⟨rfl, by rw [e], (k01.trans kx).trans k2⟩
    rintro r H3 ⟨rfl, rfl⟩
    rw [c1, cond_true] at hw
    repeat' first
      | refine CO.cons rfl ?_
      | refine CO.nil ?_
      | refine CV.region callees ?_
      | refine CV.cond ?_
      | refine CV.skip ?_
      | refine CG.cons rfl ?_
      | refine CG.nil ?_
      | refine ⟨(⟨by omega, by omega⟩ : inI64 _), ?_⟩
      | fail
    refine ⟨(i + 1), (by repeat' first | exact trivial | refine ⟨rfl, ?_⟩ | refine ⟨slot_int (by (try simp only [Int.toNat_natCast]); omega), ?_⟩), (by (try dsimp only); omega), ?_⟩
    exact ⟨by omega, hw, kx.trans k2⟩
  obtain rfl : i = plan.length := by omega
  rw [List.drop_length] at hw
  have hp0 : planE st gs plan = 0 := hw.symm
  have e : repV st gs plan = .tuple #[VI (repS gs plan plan.length).1, VI (repS gs plan plan.length).2.1, VI (repS gs plan plan.length).2.2, VI 0] := by unfold repV; rw [if_pos hp0]
  clear hw
  repeat' first
    | refine CO.cons rfl ?_
    | refine CO.nil ?_
    | refine CV.seq ?_
    | refine CV.region callees ?_
    | refine CV.cond ?_
    | refine CV.block ?_
    | refine CV.exit ?_
    | refine ⟨_, ints_len (by assumption), ?_⟩
    | (refine ⟨fun _ => ?_, fun _ => ?_⟩ <;> first | (exfalso; omega) | skip)
    | fail
  refine CV.loopc ?_
  refine WCv.rounds callees false (α := Nat) (fun i => [(1, v), (2, .pointer (some ⟨b0, 0, none⟩)), (10, VI (repS gs plan i).1), (11, VI (repS gs plan i).2.1), (12, VI (repS gs plan i).2.2), (13, VI i)]) (fun i Hz => i ≤ plan.length ∧ Keep H1 Hz) (fun i => plan.length - i) (0) (by repeat' first | exact trivial | refine ⟨rfl, ?_⟩ | refine ⟨slot_int (by (try simp only [Int.toNat_natCast]); omega), ?_⟩) ?_ ?_
  · exact ⟨by omega, kx⟩
  clear hvx hBx lx kx
  rintro i Hy ⟨hi, kx⟩ hBx
  have lx := kx.1
  have hvx : Ints Hy v plan := hv1.keep kx
  by_cases hi2 : i < plan.length
  · have hSx := (kx.2 b0 (by omega)).trans hS1
    have hbd := repS_bd (plan := plan) hglen (i := i) (by omega)
    have hig : i < gs.length := by omega
    have hal : (againL gs plan i).length ≤ gs[i]!.length := List.length_filter_le _ _
    have hgl := hglen i hig
    repeat' first
      | refine CO.cons rfl ?_
      | refine CO.nil ?_
      | refine CV.seq ?_
      | refine CV.region callees ?_
      | refine CV.cond ?_
      | refine CV.block ?_
      | refine CV.skip ?_
      | refine ⟨_, ints_len (by assumption), ?_⟩
      | (refine ⟨_, ldSe hSx, ?_⟩)
      | (refine ⟨fun _ => ?_, fun _ => ?_⟩ <;> first | (exfalso; omega) | skip)
      | fail
    refine (repeated_spec (by omega) (hgr1.keep kx) hvx hig hi2 hgn hglen (fun y hy => (hgo.r i hig y hy).1)).mono ?_
    rintro r H2 ⟨rfl, k2⟩
    have l2 := k2.1
    have e3 : (repS gs plan (i + 1)).2.2 = (repS gs plan i).2.2 + (againL gs plan i).length := rfl
    by_cases hz : (repS gs plan i).2.2 = 0 ∧ 0 < (againL gs plan i).length
    · obtain ⟨hz1, hz2⟩ := hz
      have e1 : (repS gs plan (i + 1)).1 = (i : Int) := by simp only [repS]; rw [if_pos ⟨hz1, hz2⟩]
      have e2 : (repS gs plan (i + 1)).2.1 = minL (againL gs plan i) := by simp only [repS]; rw [if_pos ⟨hz1, hz2⟩]
      repeat' first
        | refine CO.cons rfl ?_
        | refine CO.nil ?_
        | refine CV.seq ?_
        | refine CV.region callees ?_
        | refine CV.cond ?_
        | refine CO.consG rfl ?_
        | refine ⟨(⟨by omega, by omega⟩ : inI64 _), ?_⟩
        | (refine ⟨fun _ => ?_, fun _ => ?_⟩ <;> first | (exfalso; omega) | skip)
        | fail
      refine ⟨(i + 1), (by repeat' first | exact trivial | refine ⟨rfl, ?_⟩ | refine ⟨slot_int (by (try simp only [Int.toNat_natCast]); omega), ?_⟩), (by (try dsimp only); omega), ?_⟩
      exact ⟨by omega, kx.trans k2⟩
    · have e1 : (repS gs plan (i + 1)).1 = (repS gs plan i).1 := by simp only [repS]; rw [if_neg hz]
      have e2 : (repS gs plan (i + 1)).2.1 = (repS gs plan i).2.1 := by simp only [repS]; rw [if_neg hz]
      by_cases hz1 : 0 < (againL gs plan i).length
      · have hz2 : ¬ (repS gs plan i).2.2 = 0 := fun h => hz ⟨h, hz1⟩
        repeat' first
          | refine CO.cons rfl ?_
          | refine CO.nil ?_
          | refine CV.seq ?_
          | refine CV.region callees ?_
          | refine CV.cond ?_
          | refine CV.skip ?_
          | refine CO.consG rfl ?_
          | refine ⟨(⟨by omega, by omega⟩ : inI64 _), ?_⟩
          | (refine ⟨fun _ => ?_, fun _ => ?_⟩ <;> first | (exfalso; omega) | skip)
          | fail
        refine ⟨(i + 1), (by repeat' first | exact trivial | refine ⟨rfl, ?_⟩ | refine ⟨slot_int (by (try simp only [Int.toNat_natCast]); omega), ?_⟩), (by (try dsimp only); omega), ?_⟩
        exact ⟨by omega, kx.trans k2⟩
      · repeat' first
          | refine CO.cons rfl ?_
          | refine CO.nil ?_
          | refine CV.seq ?_
          | refine CV.region callees ?_
          | refine CV.cond ?_
          | refine CV.skip ?_
          | refine CO.consG rfl ?_
          | refine ⟨(⟨by omega, by omega⟩ : inI64 _), ?_⟩
          | (refine ⟨fun _ => ?_, fun _ => ?_⟩ <;> first | (exfalso; omega) | skip)
          | fail
        refine ⟨(i + 1), (by repeat' first | exact trivial | refine ⟨rfl, ?_⟩ | refine ⟨slot_int (by (try simp only [Int.toNat_natCast]); omega), ?_⟩), (by (try dsimp only); omega), ?_⟩
        exact ⟨by omega, kx.trans k2⟩
  obtain rfl : i = plan.length := by omega
  repeat' first
    | refine CO.cons rfl ?_
    | refine CO.nil ?_
    | refine CV.seq ?_
    | refine CV.region callees ?_
    | refine CV.cond ?_
    | refine CV.exit ?_
    | refine CV.ret ?_
    | refine ⟨_, ints_len (by assumption), ?_⟩
    | (refine ⟨fun _ => ?_, fun _ => ?_⟩ <;> first | (exfalso; omega) | skip)
    | fail
  exact ⟨rfl, e.symm, k01.trans kx⟩
end Go.Proofs.Ytjjmnfgnlcbfhaa
