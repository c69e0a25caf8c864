
/- Seasons: the reference's check; how many combinations. -/
import Derived.Test.Ytjjmnfgnlcbfhaaf0o
import Derived.Test.Ytjjmnfgnlcbfhaad3o
set_option linter.unusedVariables false
set_option linter.unusedSimpArgs false
namespace Go.Proofs.Ytjjmnfgnlcbfhaa
open Go.AI
set_option maxHeartbeats 16000000 in
set_option maxRecDepth 100000 in
theorem checkSeasonR_spec [Orc] {B : Nat} {H : Heap} {s g : Value} {gv : List Value} {st : List Int} {gs : List (List Int)} (hB : B ≤ H.n) (hs : Ints H s st) (hg : Gri H g gv gs) (hsn : st.length < 1000000) (hgn : gs.length < 1000000) (hgg : ∀ x ∈ gs, x.length < 1000000) :
    CallB Try.prog B 53 [Sev s g] H (fun r H' => r = VI (seaE st gs) ∧ Keep H H') := by
  refine CV.enter callees false (Orc.hv rfl rfl) Try.func53 rfl (by kernel_rfl) (Nat.le_of_ble_eq_true rfl) hB ?_ (Orc.hw rfl rfl)
  repeat' first
    | refine CO.cons rfl ?_
    | refine CV.seq ?_
    | refine CV.region callees ?_
    | fail
  refine ⟨(by simp only [notTuple]), ?_⟩
  rw [boxSe]
  generalize hs0 : Heap.new H _ = H0
  have hg0 := new_get hs0
  have k0 := new_keep hs0
  have n0 := new_n hs0
  obtain ⟨b0, hbn0⟩ : ∃ b, Heap.n H = b := ⟨_, rfl⟩
  rw [hbn0] at hg0 n0 ⊢
  have hs0 : Ints H0 s st := hs.keep k0
  have hgr := hg.keep k0
  have l0 := k0.1
  by_cases h0 : st.length = 0
  · have e : seaE st gs = 6 := by unfold seaE; rw [if_pos h0]
    repeat' first
      | refine CO.cons rfl ?_
      | refine CO.nil ?_
      | refine CV.seq ?_
      | refine CV.region callees ?_
      | refine CV.cond ?_
      | refine CV.ret ?_
      | refine ⟨_, ints_len (by assumption), ?_⟩
      | (refine ⟨_, fS fe0 (by decide), ?_⟩)
      | (refine ⟨_, cell_load agN hg0 rfl, ?_⟩)
      | (refine ⟨fun _ => ?_, fun _ => ?_⟩ <;> first | (exfalso; omega) | skip)
      | fail
    exact ⟨rfl, by rw [e], k0⟩
  by_cases h4 : 4 < st.length
  · have e : seaE st gs = 8 := by unfold seaE; rw [if_neg h0, if_pos h4]
    repeat' first
      | refine CO.cons rfl ?_
      | refine CO.nil ?_
      | refine CV.seq ?_
      | refine CV.region callees ?_
      | refine CV.cond ?_
      | refine CV.skip ?_
      | refine CV.ret ?_
      | refine ⟨_, ints_len (by assumption), ?_⟩
      | (refine ⟨_, fS fe0 (by decide), ?_⟩)
      | (refine ⟨_, cell_load agN hg0 rfl, ?_⟩)
      | (refine ⟨fun _ => ?_, fun _ => ?_⟩ <;> first | (exfalso; omega) | skip)
      | fail
    exact ⟨rfl, by rw [e], k0⟩
  repeat' first
    | refine CO.cons rfl ?_
    | refine CO.nil ?_
    | refine CV.seq ?_
    | refine CV.region callees ?_
    | refine CV.cond ?_
    | refine CV.block ?_
    | refine CV.skip ?_
    | refine ⟨_, ints_len (by assumption), ?_⟩
    | (refine ⟨_, fS fe0 (by decide), ?_⟩)
    | (refine ⟨_, cell_load agN hg0 rfl, ?_⟩)
    | (refine ⟨fun _ => ?_, fun _ => ?_⟩ <;> first | (exfalso; omega) | skip)
    | fail
  refine CV.loopc ?_
  refine WCv.rounds callees false (α := Nat) (fun i => [(1, .pointer (some ⟨b0, 0, none⟩)), (3, VI i)]) (fun i Hz => i ≤ st.length ∧ soE (st.drop i) = soE st ∧ Hz = H0) (fun i => st.length - i) (0) (by repeat' first | exact trivial | refine ⟨rfl, ?_⟩ | refine ⟨slot_int (by (try simp only [Int.toNat_natCast]); omega), ?_⟩) ?_ ?_
  · exact ⟨by omega, rfl, rfl⟩
  rintro i Hx ⟨hi, hw, rfl⟩ hBx
  by_cases hi2 : i < st.length
  · rw [dr_at hi2] at hw
    simp only [soE] at hw
    repeat' first
      | refine CO.cons rfl ?_
      | refine CO.nil ?_
      | refine CV.seq ?_
      | refine CV.region callees ?_
      | refine CV.cond ?_
      | refine CV.block ?_
      | refine CV.skip ?_
      | refine ⟨_, ints_len (by assumption), ?_⟩
      | refine ⟨_, ints_addr (by assumption) (by omega) (by omega), ?_⟩
      | refine ⟨_, ints_load (by assumption) (by omega) (by omega), ?_⟩
      | (refine ⟨_, fS fe0 (by decide), ?_⟩)
      | (refine ⟨_, cell_load agN hg0 rfl, ?_⟩)
      | (refine ⟨fun _ => ?_, fun _ => ?_⟩ <;> first | (exfalso; omega) | skip)
      | fail
    refine (withinR_spec (n := st[i]!) (by omega)).mono ?_
    cases c1 : inB st[i]! 1 6
    · rintro r H1 ⟨rfl, rfl⟩
      rw [c1, cond_false] at hw
      have e : seaE st gs = 2 := by unfold seaE; rw [if_neg h0, if_neg h4, if_neg (by rw [← hw]; decide)]
      repeat' first
        | refine CO.cons rfl ?_
        | refine CO.nil ?_
        | refine CV.seq ?_
        | refine CV.region callees ?_
        | refine CV.cond ?_
        | refine CV.ret ?_
        | fail
      exact ⟨rfl, by rw [e], k0⟩
    rintro r H1 ⟨rfl, rfl⟩
    rw [c1, cond_true] at hw
    repeat' first
      | refine CO.cons rfl ?_
      | refine CO.nil ?_
      | refine CV.region callees ?_
      | refine CV.cond ?_
      | refine CV.skip ?_
      | refine ⟨(⟨by omega, by omega⟩ : inI64 _), ?_⟩
      | fail
    refine ⟨(i + 1), (by repeat' first | exact trivial | refine ⟨rfl, ?_⟩ | refine ⟨slot_int (by (try simp only [Int.toNat_natCast]); omega), ?_⟩), (by (try dsimp only); omega), ?_⟩
    exact ⟨by omega, hw, rfl⟩
  obtain rfl : i = st.length := by omega
  rw [List.drop_length] at hw
  have hso : soE st = 0 := hw.symm
  clear hw
  by_cases h9 : 9 < gs.length
  · have e : seaE st gs = 8 := by unfold seaE; rw [if_neg h0, if_neg h4, if_pos hso, if_pos h9]
    repeat' first
      | refine CO.cons rfl ?_
      | refine CO.nil ?_
      | refine CV.seq ?_
      | refine CV.region callees ?_
      | refine CV.cond ?_
      | refine CV.exit ?_
      | refine CV.ret ?_
      | refine ⟨_, ints_len (by assumption), ?_⟩
      | (refine ⟨_, fS fe1 (by decide), ?_⟩)
      | (refine ⟨_, cell_load agGr hg0 rfl, ?_⟩)
      | (refine ⟨_, hgr.alen, ?_⟩)
      | (refine ⟨_, fS fe0 (by decide), ?_⟩)
      | (refine ⟨fun _ => ?_, fun _ => ?_⟩ <;> first | (exfalso; omega) | skip)
      | fail
    exact ⟨rfl, by rw [e], k0⟩
  have e : seaE st gs = gsE gs := by unfold seaE; rw [if_neg h0, if_neg h4, if_pos hso, if_neg h9]
  repeat' first
    | refine CO.cons rfl ?_
    | refine CO.nil ?_
    | refine CV.seq ?_
    | refine CV.region callees ?_
    | refine CV.cond ?_
    | refine CV.block ?_
    | refine CV.skip ?_
    | refine CV.exit ?_
    | refine ⟨_, ints_len (by assumption), ?_⟩
    | (refine ⟨_, fS fe1 (by decide), ?_⟩)
    | (refine ⟨_, cell_load agGr hg0 rfl, ?_⟩)
    | (refine ⟨_, hgr.alen, ?_⟩)
    | (refine ⟨_, fS fe0 (by decide), ?_⟩)
    | (refine ⟨fun _ => ?_, fun _ => ?_⟩ <;> first | (exfalso; omega) | skip)
    | fail
  refine CV.loopc ?_
  refine WCv.rounds callees false (α := Nat) (fun i => [(1, .pointer (some ⟨b0, 0, none⟩)), (4, VI i)]) (fun i Hz => i ≤ gs.length ∧ gsE (gs.drop i) = seaE st gs ∧ Hz = Hx) (fun i => gs.length - i) (0) (by repeat' first | exact trivial | refine ⟨rfl, ?_⟩ | refine ⟨slot_int (by (try simp only [Int.toNat_natCast]); omega), ?_⟩) ?_ ?_
  · exact ⟨by omega, e.symm, rfl⟩
  rintro i Hy ⟨hi, hw, rfl⟩ hBy
  by_cases hi2 : i < gs.length
  · rw [dr_at hi2] at hw
    simp only [gsE] at hw
    have hln : gs[i]!.length < 1000000 := hgg _ (by rw [getElem!_pos gs i hi2]; exact List.getElem_mem _)
    have hl : Ints Hy gv[i]! gs[i]! := hgr.ints i hi2
    have hld := hgr.load hi2
    have had := hgr.addr hi2
    generalize gs[i]! = l at hw hln hl
    generalize gv[i]! = w at hl hld
    by_cases hl0 : l.length = 0
    · have e : guestsE l = 6 := by unfold guestsE; rw [if_pos hl0]
      rw [e, if_neg (by decide)] at hw
      repeat' first
        | refine CO.cons rfl ?_
        | refine CO.nil ?_
        | refine CV.seq ?_
        | refine CV.region callees ?_
        | refine CV.cond ?_
        | refine CV.block ?_
        | refine CV.skip ?_
        | refine CV.ret ?_
        | refine ⟨_, ints_len (by assumption), ?_⟩
        | (refine ⟨_, fS fe1 (by decide), ?_⟩)
        | (refine ⟨_, cell_load agGr hg0 rfl, ?_⟩)
        | (refine ⟨_, hgr.alen, ?_⟩)
        | (refine ⟨_, had, ?_⟩)
        | (refine ⟨_, hld, ?_⟩)
        | (refine ⟨fun _ => ?_, fun _ => ?_⟩ <;> first | (exfalso; omega) | skip)
        | fail
      exact ⟨rfl, by rw [← hw], k0⟩
    have eg : guestsE l = guE [] l := by unfold guestsE; rw [if_neg hl0]
    rw [eg] at hw
    repeat' first
      | refine CO.cons rfl ?_
      | refine CO.nil ?_
      | refine CV.seq ?_
      | refine CV.region callees ?_
      | refine CV.cond ?_
      | refine CV.block ?_
      | refine CV.skip ?_
      | refine ⟨_, ints_len (by assumption), ?_⟩
      | (refine ⟨_, fS fe1 (by decide), ?_⟩)
      | (refine ⟨_, cell_load agGr hg0 rfl, ?_⟩)
      | (refine ⟨_, hgr.alen, ?_⟩)
      | (refine ⟨_, had, ?_⟩)
      | (refine ⟨_, hld, ?_⟩)
      | (refine ⟨fun _ => ?_, fun _ => ?_⟩ <;> first | (exfalso; omega) | skip)
      | fail
    refine CV.loopc ?_
    refine WCv.rounds callees false (α := Nat) (fun k => [(1, .pointer (some ⟨b0, 0, none⟩)), (4, VI i), (5, w), (6, VI k)]) (fun k Hz => k ≤ l.length ∧ guE (l.take k) (l.drop k) = guE [] l ∧ Hz = Hy) (fun k => l.length - k) (0) (by repeat' first | exact trivial | refine ⟨rfl, ?_⟩ | refine ⟨slot_int (by (try simp only [Int.toNat_natCast]); omega), ?_⟩) ?_ ?_
    · exact ⟨by omega, rfl, rfl⟩
    rintro k H5 ⟨hk, hwk, rfl⟩ hB5
    by_cases hk2 : k < l.length
    · rw [dr_at hk2] at hwk
      simp only [guE] at hwk
      repeat' first
        | refine CO.cons rfl ?_
        | refine CO.nil ?_
        | refine CV.seq ?_
        | refine CV.region callees ?_
        | refine CV.cond ?_
        | refine CV.block ?_
        | refine CV.skip ?_
        | refine ⟨_, ints_len (by assumption), ?_⟩
        | refine ⟨_, ints_addr (by assumption) (by omega) (by omega), ?_⟩
        | refine ⟨_, ints_load (by assumption) (by omega) (by omega), ?_⟩
        | (refine ⟨fun _ => ?_, fun _ => ?_⟩ <;> first | (exfalso; omega) | skip)
        | fail
      refine (withinR_spec (n := l[k]!) (by omega)).mono ?_
      cases c1 : inB l[k]! 0 11
      · rintro r H6 ⟨rfl, rfl⟩
        rw [c1, cond_false] at hwk
        rw [← hwk, if_neg (by decide)] at hw
        repeat' first
          | refine CO.cons rfl ?_
          | refine CO.nil ?_
          | refine CV.seq ?_
          | refine CV.region callees ?_
          | refine CV.cond ?_
          | refine CV.ret ?_
          | fail
        exact ⟨rfl, by rw [← hw], k0⟩
      rintro r H6 ⟨rfl, rfl⟩
      rw [c1, cond_true] at hwk
      repeat' first
        | refine CO.cons rfl ?_
        | refine CO.nil ?_
        | refine CV.seq ?_
        | refine CV.region callees ?_
        | refine CV.cond ?_
        | refine CV.block ?_
        | refine CV.skip ?_
        | fail
      refine CV.loopc ?_
      refine WCv.rounds callees false (α := Nat) (fun j => [(1, .pointer (some ⟨b0, 0, none⟩)), (4, VI i), (5, w), (6, VI k), (7, VI j)]) (fun j Hz => j ≤ k ∧ l[k]! ∉ l.take j ∧ Hz = H6) (fun j => k - j) (0) (by repeat' first | exact trivial | refine ⟨rfl, ?_⟩ | refine ⟨slot_int (by (try simp only [Int.toNat_natCast]); omega), ?_⟩) ?_ ?_
      · exact ⟨by omega, by simp, rfl⟩
      rintro j H7 ⟨hj, hnm, rfl⟩ hB7
      by_cases hj2 : j < k
      · have hx1 : l[(j : Int).toNat]! = l[j]! := rfl
        have hx2 : l[(k : Int).toNat]! = l[k]! := rfl
        by_cases c3 : l[j]! = l[k]!
        · have hm : l[k]! ∈ l.take k := by rw [← c3, getElem!_pos l j (by omega)]; exact List.mem_take_iff_getElem.2 ⟨j, by omega, rfl⟩
          rw [if_pos hm] at hwk
          rw [← hwk, if_neg (by decide)] at hw
          repeat' first
            | refine CO.cons rfl ?_
            | refine CO.nil ?_
            | refine CV.seq ?_
            | refine CV.region callees ?_
            | refine CV.cond ?_
            | refine CV.block ?_
            | refine CV.skip ?_
            | refine CV.ret ?_
            | refine CV.draw callees (by decide +kernel) ?_
            | refine CH.cons rfl ?_
            | refine CH.nil ?_
            | refine ⟨_, ints_addr (by assumption) (by omega) (by omega), ?_⟩
            | refine ⟨_, ints_load (by assumption) (by omega) (by omega), ?_⟩
            | (refine ⟨fun _ => ?_, fun _ => ?_⟩ <;> first | (exfalso; omega) | skip)
            | fail
          exact ⟨rfl, by rw [← hw], k0⟩
        · repeat' first
            | refine CO.cons rfl ?_
            | refine CO.nil ?_
            | refine CV.seq ?_
            | refine CV.region callees ?_
            | refine CV.cond ?_
            | refine CV.block ?_
            | refine CV.skip ?_
            | refine CV.draw callees (by decide +kernel) ?_
            | refine CH.cons rfl ?_
            | refine CH.nil ?_
            | refine ⟨_, ints_addr (by assumption) (by omega) (by omega), ?_⟩
            | refine ⟨_, ints_load (by assumption) (by omega) (by omega), ?_⟩
            | refine ⟨(⟨by omega, by omega⟩ : inI64 _), ?_⟩
            | (refine ⟨fun _ => ?_, fun _ => ?_⟩ <;> first | (exfalso; omega) | skip)
            | fail
          refine ⟨(j + 1), (by repeat' first | exact trivial | refine ⟨rfl, ?_⟩ | refine ⟨slot_int (by (try simp only [Int.toNat_natCast]); omega), ?_⟩), (by (try dsimp only); omega), ?_⟩
          refine ⟨by omega, ?_, rfl⟩
          rw [tk_at (by omega), List.mem_append, List.mem_singleton]
          rintro (h | h)
          · exact hnm h
          · exact c3 h.symm
      obtain rfl : j = k := by omega
      rw [if_neg hnm, ← tk_at hk2] at hwk
      repeat' first
        | refine CO.cons rfl ?_
        | refine CO.nil ?_
        | refine CV.seq ?_
        | refine CV.region callees ?_
        | refine CV.cond ?_
        | refine CV.exit ?_
        | refine ⟨(⟨by omega, by omega⟩ : inI64 _), ?_⟩
        | (refine ⟨fun _ => ?_, fun _ => ?_⟩ <;> first | (exfalso; omega) | skip)
        | fail
      refine ⟨(j + 1), (by repeat' first | exact trivial | refine ⟨rfl, ?_⟩ | refine ⟨slot_int (by (try simp only [Int.toNat_natCast]); omega), ?_⟩), (by (try dsimp only); omega), ?_⟩
      exact ⟨by omega, hwk, rfl⟩
    obtain rfl : k = l.length := by omega
    rw [List.drop_length] at hwk
    rw [← hwk] at hw
    have hw : gsE (gs.drop (i + 1)) = seaE st gs := hw
    repeat' first
      | refine CO.cons rfl ?_
      | refine CO.nil ?_
      | refine CV.seq ?_
      | refine CV.region callees ?_
      | refine CV.cond ?_
      | refine CV.exit ?_
      | refine ⟨_, ints_len (by assumption), ?_⟩
      | refine ⟨(⟨by omega, by omega⟩ : inI64 _), ?_⟩
      | (refine ⟨fun _ => ?_, fun _ => ?_⟩ <;> first | (exfalso; omega) | skip)
      | fail
    refine ⟨(i + 1), (by repeat' first | exact trivial | refine ⟨rfl, ?_⟩ | refine ⟨slot_int (by (try simp only [Int.toNat_natCast]); omega), ?_⟩), (by (try dsimp only); omega), ?_⟩
    exact ⟨by omega, hw, rfl⟩
  obtain rfl : i = gs.length := by omega
  rw [List.drop_length] at hw
  repeat' first
    | refine CO.cons rfl ?_
    | refine CO.nil ?_
    | refine CV.seq ?_
    | refine CV.region callees ?_
    | refine CV.cond ?_
    | refine CV.exit ?_
    | refine CV.ret ?_
    | (refine ⟨_, fS fe1 (by decide), ?_⟩)
    | (refine ⟨_, cell_load agGr hg0 rfl, ?_⟩)
    | (refine ⟨_, hgr.alen, ?_⟩)
    | (refine ⟨fun _ => ?_, fun _ => ?_⟩ <;> first | (exfalso; omega) | skip)
    | fail
  exact ⟨rfl, by rw [← hw]; rfl, k0⟩
theorem combos_snoc {x : Int} : ∀ {l : List Int}, combos (l ++ [x]) = combos l * x
  | [] => by simp [combos]
  | s :: t => by
    simp only [List.cons_append, combos]
    rw [combos_snoc, Int.mul_assoc]
theorem soE_mem : ∀ {l : List Int}, soE l = 0 → ∀ x ∈ l, 1 ≤ x ∧ x ≤ 6
  | s :: t, h, x, hx => by
    simp only [soE] at h
    cases c : inB s 1 6 with
    | false => rw [c, cond_false] at h; cases h
    | true =>
      rw [c, cond_true] at h
      simp only [inB, Bool.and_eq_true, decide_eq_true_eq] at c
      rcases List.mem_cons.1 hx with rfl | hx
      · exact c
      · exact soE_mem h x hx
theorem combos_bd : ∀ {l : List Int}, (∀ x ∈ l, 1 ≤ x ∧ x ≤ 6) → 1 ≤ combos l ∧ combos l ≤ 6 ^ l.length
  | [], _ => by simp [combos]
  | s :: t, h => by
    have h1 := h s (by simp)
    have h2 := combos_bd (l := t) fun x hx => h x (by simp [hx])
    have h3 : s * combos t ≤ 6 * 6 ^ t.length := Int.mul_le_mul h1.2 h2.2 (by omega) (by omega)
    have h4 : 1 * 1 ≤ s * combos t := Int.mul_le_mul h1.1 h2.1 (by omega) (by omega)
    simp only [combos, List.length_cons]
    rw [Int.pow_succ]
    omega
structure SoOk (st : List Int) : Prop where
  n : st.length ≤ 4
  p : 0 < st.length
  m : ∀ x ∈ st, 1 ≤ x ∧ x ≤ 6
theorem SoOk.bd {st : List Int} (h : SoOk st) (i : Nat) : 1 ≤ combos (st.take i) ∧ combos (st.take i) ≤ 1296 := by
  have h1 := combos_bd (l := st.take i) fun x hx => h.m x (List.mem_of_mem_take hx)
  have h2 : (st.take i).length ≤ 4 := by rw [List.length_take]; have := h.n; omega
  refine ⟨h1.1, ?_⟩
  have h3 : (6 : Int) ^ (st.take i).length ≤ 1296 := by
    generalize (st.take i).length = n at h2
    rcases (by omega : n = 0 ∨ n = 1 ∨ n = 2 ∨ n = 3 ∨ n = 4) with rfl | rfl | rfl | rfl | rfl <;> decide
  omega
theorem SoOk.all {st : List Int} (h : SoOk st) : 1 ≤ combos st ∧ combos st ≤ 1296 := by
  have := h.bd st.length
  rwa [List.take_length] at this
theorem seaE_ok {st : List Int} {gs : List (List Int)} (h : seaE st gs = 0) : SoOk st ∧ gs.length ≤ 9 ∧ gsE gs = 0 := by
  unfold seaE at h
  by_cases h0 : st.length = 0
  · rw [if_pos h0] at h; cases h
  rw [if_neg h0] at h
  by_cases h4 : 4 < st.length
  · rw [if_pos h4] at h; cases h
  rw [if_neg h4] at h
  by_cases h5 : soE st = 0
  · rw [if_pos h5] at h
    by_cases h9 : 9 < gs.length
    · rw [if_pos h9] at h; cases h
    · rw [if_neg h9] at h
      exact ⟨⟨by omega, by omega, soE_mem h5⟩, by omega, h⟩
  · rw [if_neg h5] at h; cases h
set_option maxRecDepth 100000 in
theorem combos_spec [Orc] {B : Nat} {H : Heap} {s g : Value} {st : List Int} (hB : B ≤ H.n) (hs : Ints H s st) (hok : SoOk st) :
    CallB Try.prog B 130 [Sev s g] H (fun r H' => r = VI (combos st) ∧ Keep H H') := by
  have hn := hok.n
  refine CV.enter callees false (Orc.hv rfl rfl) Try.func130 rfl (by kernel_rfl) (Nat.le_of_ble_eq_true rfl) hB ?_ (Orc.hw rfl rfl)
  repeat' first
    | refine CO.cons rfl ?_
    | refine CV.seq ?_
    | refine CV.region callees ?_
    | fail
  refine ⟨(by simp only [notTuple]), ?_⟩
  rw [boxSe]
  generalize hs0 : Heap.new H _ = H0
  have hg0 := new_get hs0
  have k0 := new_keep hs0
  have n0 := new_n hs0
  obtain ⟨b0, hbn0⟩ : ∃ b, Heap.n H = b := ⟨_, rfl⟩
  rw [hbn0] at hg0 n0 ⊢
  have hs0 : Ints H0 s st := hs.keep k0
  have l0 := k0.1
  repeat' first
    | refine CO.cons rfl ?_
    | refine CO.nil ?_
    | refine CV.seq ?_
    | refine CV.region callees ?_
    | refine CV.block ?_
    | refine ⟨_, ints_len (by assumption), ?_⟩
    | (refine ⟨_, fS fe0 (by decide), ?_⟩)
    | (refine ⟨_, cell_load agN hg0 rfl, ?_⟩)
    | fail
  refine CV.loopc ?_
  refine WCv.rounds callees false (α := Nat) (fun i => [(3, VI (combos (st.take i))), (7, s), (8, VI st.length), (9, VI i)]) (fun i Hz => i ≤ st.length ∧ Hz = H0) (fun i => st.length - i) (0) (by repeat' first | exact trivial | refine ⟨rfl, ?_⟩ | refine ⟨slot_int (by (try simp only [Int.toNat_natCast]); omega), ?_⟩) ?_ ?_
  · exact ⟨by omega, rfl⟩
  rintro i Hx ⟨hi, rfl⟩ hBx
  by_cases hi2 : i < st.length
  · have hb := hok.bd (i + 1)
    have hm : combos (st.take i) * st[i]! = combos (st.take (i + 1)) := by rw [tk_at hi2, combos_snoc]
    have hm' : combos (st.take i) * st[(i : Int).toNat]! = combos (st.take (i + 1)) := hm
    repeat' first
      | refine CO.cons rfl ?_
      | refine CO.nil ?_
      | refine CV.seq ?_
      | refine CV.region callees ?_
      | refine CV.cond ?_
      | refine CV.block ?_
      | refine CV.skip ?_
      | refine ⟨_, ints_addr (by assumption) (by omega) (by omega), ?_⟩
      | refine ⟨_, ints_load (by assumption) (by omega) (by omega), ?_⟩
      | refine ⟨(⟨by omega, by omega⟩ : inI64 _), ?_⟩
      | (refine ⟨fun _ => ?_, fun _ => ?_⟩ <;> first | (exfalso; omega) | skip)
      | fail
    refine ⟨(i + 1), (by repeat' first | exact trivial | refine ⟨rfl, ?_⟩ | refine ⟨slot_int (by (try simp only [Int.toNat_natCast]); omega), ?_⟩), (by (try dsimp only); omega), ?_⟩
    exact ⟨by omega, rfl⟩
  obtain rfl : i = st.length := by omega
  rw [List.take_length]
  repeat' first
    | refine CO.cons rfl ?_
    | refine CO.nil ?_
    | refine CV.seq ?_
    | refine CV.region callees ?_
    | refine CV.cond ?_
    | refine CV.exit ?_
    | refine CV.ret ?_
    | (refine ⟨fun _ => ?_, fun _ => ?_⟩ <;> first | (exfalso; omega) | skip)
    | fail
  exact ⟨rfl, rfl, k0⟩
set_option maxRecDepth 100000 in
theorem combosR_spec [Orc] {B : Nat} {H : Heap} {s g : Value} {st : List Int} (hB : B ≤ H.n) (hs : Ints H s st) (hok : SoOk st) :
    CallB Try.prog B 45 [Sev s g] H (fun r H' => r = VI (combos st) ∧ Keep H H') := by
  have hn := hok.n
  refine CV.enter callees false (Orc.hv rfl rfl) Try.func45 rfl (by kernel_rfl) (Nat.le_of_ble_eq_true rfl) hB ?_ (Orc.hw rfl rfl)
  repeat' first
    | refine CO.cons rfl ?_
    | refine CV.seq ?_
    | refine CV.region callees ?_
    | fail
  refine ⟨(by simp only [notTuple]), ?_⟩
  rw [boxSe]
  generalize hs0 : Heap.new H _ = H0
  have hg0 := new_get hs0
  have k0 := new_keep hs0
  have n0 := new_n hs0
  obtain ⟨b0, hbn0⟩ : ∃ b, Heap.n H = b := ⟨_, rfl⟩
  rw [hbn0] at hg0 n0 ⊢
  have hs0 : Ints H0 s st := hs.keep k0
  have l0 := k0.1
  repeat' first
    | refine CO.cons rfl ?_
    | refine CO.nil ?_
    | refine CV.seq ?_
    | refine CV.region callees ?_
    | refine CV.block ?_
    | fail
  refine CV.loopc ?_
  refine WCv.rounds callees false (α := Nat) (fun i => [(1, .pointer (some ⟨b0, 0, none⟩)), (3, VI (combos (st.take i))), (4, VI i)]) (fun i Hz => i ≤ st.length ∧ Hz = H0) (fun i => st.length - i) (0) (by repeat' first | exact trivial | refine ⟨rfl, ?_⟩ | refine ⟨slot_int (by (try simp only [Int.toNat_natCast]); omega), ?_⟩) ?_ ?_
  · exact ⟨by omega, rfl⟩
  rintro i Hx ⟨hi, rfl⟩ hBx
  by_cases hi2 : i < st.length
  · have hb := hok.bd (i + 1)
    have hm : combos (st.take i) * st[i]! = combos (st.take (i + 1)) := by rw [tk_at hi2, combos_snoc]
    have hm' : combos (st.take i) * st[(i : Int).toNat]! = combos (st.take (i + 1)) := hm
    repeat' first
      | refine CO.cons rfl ?_
      | refine CO.nil ?_
      | refine CV.seq ?_
      | refine CV.region callees ?_
      | refine CV.cond ?_
      | refine CV.block ?_
      | refine CV.skip ?_
      | refine ⟨_, ints_len (by assumption), ?_⟩
      | refine ⟨_, ints_addr (by assumption) (by omega) (by omega), ?_⟩
      | refine ⟨_, ints_load (by assumption) (by omega) (by omega), ?_⟩
      | refine ⟨(⟨by omega, by omega⟩ : inI64 _), ?_⟩
      | (refine ⟨_, fS fe0 (by decide), ?_⟩)
      | (refine ⟨_, cell_load agN hg0 rfl, ?_⟩)
      | (refine ⟨fun _ => ?_, fun _ => ?_⟩ <;> first | (exfalso; omega) | skip)
      | fail
    refine ⟨(i + 1), (by repeat' first | exact trivial | refine ⟨rfl, ?_⟩ | refine ⟨slot_int (by (try simp only [Int.toNat_natCast]); omega), ?_⟩), (by (try dsimp only); omega), ?_⟩
    exact ⟨by omega, rfl⟩
  obtain rfl : i = st.length := by omega
  rw [List.take_length]
  repeat' first
    | refine CO.cons rfl ?_
    | refine CO.nil ?_
    | refine CV.seq ?_
    | refine CV.region callees ?_
    | refine CV.cond ?_
    | refine CV.exit ?_
    | refine CV.ret ?_
    | refine ⟨_, ints_len (by assumption), ?_⟩
    | (refine ⟨_, fS fe0 (by decide), ?_⟩)
    | (refine ⟨_, cell_load agN hg0 rfl, ?_⟩)
    | (refine ⟨fun _ => ?_, fun _ => ?_⟩ <;> first | (exfalso; omega) | skip)
    | fail
  exact ⟨rfl, rfl, k0⟩
set_option maxRecDepth 100000 in
theorem isCombo_spec [Orc] {B : Nat} {H : Heap} {s g : Value} {st : List Int} {n : Int} (hB : B ≤ H.n) (hs : Ints H s st) (hok : SoOk st) :
    CallB Try.prog B 103 [Sev s g, VI n] H (fun r H' => r = .bool (inB n 0 (combos st - 1)) ∧ Keep H H') := by
  have hc := hok.all
  refine CV.enter callees false (Orc.hv rfl rfl) Try.func103 rfl (by kernel_rfl) (Nat.le_of_ble_eq_true rfl) hB ?_ (Orc.hw rfl rfl)
  repeat' first
    | refine CO.cons rfl ?_
    | refine CV.seq ?_
    | refine CV.region callees ?_
    | fail
  refine ⟨(by simp only [notTuple]), ?_⟩
  rw [boxSe]
  generalize hs0 : Heap.new H _ = H0
  have hg0 := new_get hs0
  have k0 := new_keep hs0
  have n0 := new_n hs0
  obtain ⟨b0, hbn0⟩ : ∃ b, Heap.n H = b := ⟨_, rfl⟩
  rw [hbn0] at hg0 n0 ⊢
  have hs0 : Ints H0 s st := hs.keep k0
  have l0 := k0.1
  repeat' first
    | refine CO.cons rfl ?_
    | refine CO.nil ?_
    | refine CV.seq ?_
    | refine CV.region callees ?_
    | (refine ⟨_, ldSe hg0, ?_⟩)
    | fail
  refine (combos_spec (by omega) hs0 hok).mono ?_
  rintro r H1 ⟨rfl, k1⟩
  have l1 := k1.1
  repeat' first
    | refine CO.cons rfl ?_
    | refine ⟨(⟨by omega, by omega⟩ : inI64 _), ?_⟩
    | fail
  refine (within_spec (by omega)).mono ?_
  rintro r H2 ⟨rfl, rfl⟩
  repeat' first
    | refine CO.cons rfl ?_
    | refine CO.nil ?_
    | refine CV.ret ?_
    | fail
  exact ⟨rfl, rfl, k0.trans k1⟩
end Go.Proofs.Ytjjmnfgnlcbfhaa
