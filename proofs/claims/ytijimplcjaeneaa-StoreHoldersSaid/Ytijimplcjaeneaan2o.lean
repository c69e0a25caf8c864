
/- The reference's Holders and Owned. -/
import Derived.Test.Ytijimplcjaeneaan1o
import Derived.Test.Ytijimplcjaeneaai2o
set_option linter.unusedVariables false
set_option linter.unusedSimpArgs false
namespace Go.Proofs.Ytijimplcjaeneaa
open Go.AI
theorem ran_succ {p : Nat → Bool} {i : Nat} : ((List.range (i + 1)).filter p).map (fun k => ((k : Nat) : Int) - 1) = ((List.range i).filter p).map (fun k => ((k : Nat) : Int) - 1) ++ if p i then [(i : Int) - 1] else [] := by
  rw [List.range_succ, List.filter_append, List.map_append]
  congr 1
  cases h : p i <;> simp [h]
theorem ran_len {p : Nat → Bool} {i : Nat} : (((List.range i).filter p).map (fun k => ((k : Nat) : Int) - 1)).length ≤ i := by
  rw [List.length_map]
  exact Nat.le_trans (List.length_filter_le _ _) (by simp)
theorem tab_len {H : Heap} {tv : Value} {M : List Int} (h : Row H tv (TV M)) : alen Try.prog H 88 tv = some (VI 21) := by
  have := h.alen unBs
  rwa [TV_len] at this
theorem tab_addrR {H : Heap} {tv : Value} {M : List Int} (h : Row H tv (TV M)) {n : Int} (h0 : 0 ≤ n) (h1 : n < 21) : aindexAddr Try.prog 88 tv (.int .i64 n) = some (elemAt tv n.toNat) := h.addr unBs szBo h0 (by rw [TV_len]; exact h1)
set_option maxHeartbeats 16000000 in
set_option maxRecDepth 100000 in
theorem holdersR_spec {B : Nat} {H : Heap} {mk lo hh d : Int} {sv : Value} {ls : List Lk} (hB : B ≤ H.n) (hr : RowS 4 H sv (ls.map Lkl)) :
    CallB Try.prog B 32 [Chv mk lo hh sv, VI d] H (fun v H' => (∃ q, v = .tuple #[q, VI (hoE mk lo hh ls d)] ∧ Own 3 H' q ((hoX mk lo hh ls d).map VI) H.n) ∧ Keep H H') := by
  refine CV.enter callees false rfl Try.func32 rfl (by kernel_rfl) (Nat.le_of_ble_eq_true rfl) hB ?_
  repeat' first
    | refine CO.cons rfl ?_
    | refine CV.seq ?_
    | refine CV.region callees ?_
    | fail
  refine ⟨(by simp only [notTuple]), ?_⟩
  rw [boxCh hr.cells.1]
  generalize hs0 : Heap.new H _ = H0
  have hg0 := new_get hs0
  have k0 := new_keep hs0
  have n0 := new_n hs0
  obtain ⟨b0, hbn0⟩ : ∃ b, Heap.n H = b := ⟨_, rfl⟩
  rw [hbn0] at hg0 n0 ⊢
  repeat' first
    | refine CO.cons rfl ?_
    | refine CO.nil ?_
    | refine CV.seq ?_
    | refine CV.region callees ?_
    | (refine ⟨_, ldCh hg0, ?_⟩)
    | fail
  refine (checkChainR_spec (by omega) (hr.keep k0)).mono ?_
  rintro v H2 ⟨rfl, k2⟩
  have l2 := k2.1
  by_cases hc : chkC mk lo hh ls = 0
  rotate_left
  · repeat' first
      | refine CO.cons rfl ?_
      | refine CO.nil ?_
      | refine CV.seq ?_
      | refine CV.region callees ?_
      | refine CV.cond ?_
      | refine CV.ret ?_
      | (refine ⟨fun _ => ?_, fun _ => ?_⟩ <;> first | (exfalso; omega) | skip)
      | fail
    unfold hoE hoX
    rw [if_neg hc, if_neg hc]
    exact ⟨rfl, ⟨nilS, rfl, .inl ⟨rfl, rfl⟩⟩, k0.trans k2⟩
  rw [hc]
  have k02 := k0.trans k2
  have hc2 := (k2.2 b0 (by omega)).trans hg0
  repeat' first
    | refine CO.cons rfl ?_
    | refine CO.nil ?_
    | refine CV.seq ?_
    | refine CV.region callees ?_
    | refine CV.cond ?_
    | refine CV.skip ?_
    | (refine ⟨fun _ => ?_, fun _ => ?_⟩ <;> first | (exfalso; omega) | skip)
    | fail
  refine (withinR_spec (by omega)).mono ?_
  rintro v H3 ⟨rfl, rfl⟩
  unfold hoE hoX
  rw [if_pos hc, if_pos hc]
  cases hd : inB d 0 100000 with
  | false =>
    repeat' first
      | refine CO.cons rfl ?_
      | refine CO.nil ?_
      | refine CV.seq ?_
      | refine CV.region callees ?_
      | refine CV.cond ?_
      | refine CV.ret ?_
      | fail
    rw [cond_false, cond_false]
    exact ⟨rfl, ⟨nilS, rfl, .inl ⟨rfl, rfl⟩⟩, k02⟩
  | true =>
    rw [cond_true, cond_true]
    repeat' first
      | refine CO.cons rfl ?_
      | refine CO.nil ?_
      | refine CV.seq ?_
      | refine CV.region callees ?_
      | refine CV.cond ?_
      | refine CV.skip ?_
      | (refine ⟨_, ldCh hc2, ?_⟩)
      | fail
    refine (holdR_spec (by omega) (hr.keep k02) (chOk_of hc)).mono ?_
    rintro tv H4 ⟨hT, k4⟩
    have l4 := k4.1
    rw [← tab_list]
    generalize markS mk lo hh ls d (ordersL mk lo ls) = M at *
    obtain ⟨T, hT0⟩ : ∃ T, tabM M = T := ⟨_, rfl⟩
    repeat' first
      | refine CO.cons rfl ?_
      | refine CO.nil ?_
      | refine CV.seq ?_
      | refine CV.region callees ?_
      | refine CV.block ?_
      | fail
    refine CV.loopc ?_
    refine WCv.rounds callees false (α := Nat × Value) (fun (i, q) => [(7, q), (8, tv), (9, VI i)]) (fun (i, q) Hz => i ≤ 21 ∧ Own 3 Hz q ((((List.range i).filter fun k => T[k]!).map fun k => ((k : Nat) : Int) - 1).map VI) H4.n ∧ Keep H4 Hz) (fun (i, q) => 21 - i) (0, nilS) (by repeat' first | exact trivial | refine ⟨rfl, ?_⟩ | refine ⟨slot_int (by (try simp only [Int.toNat_natCast]); omega), ?_⟩) ?_ ?_
    · exact ⟨by omega, .inl ⟨rfl, rfl⟩, Keep.refl _⟩
    rintro ⟨i, q⟩ Hx ⟨hi, hq, kx⟩ hBx
    have lx := kx.1
    have hTx := Row.keep hT kx
    have hl := ran_len (p := fun k => T[k]!) (i := i)
    by_cases hi2 : i < 21
    · have ld := tab_load hTx hi2
      rw [hT0] at ld
      have hs := ran_succ (p := fun k => T[k]!) (i := i)
      cases hb : T[i]! with
      | false =>
        rw [hb] at ld
        repeat' first
          | refine CO.cons rfl ?_
          | refine CO.nil ?_
          | refine CV.seq ?_
          | refine CV.region callees ?_
          | refine CV.cond ?_
          | refine CV.block ?_
          | refine CV.skip ?_
          | refine ⟨(⟨by omega, by omega⟩ : inI64 _), ?_⟩
          | (refine ⟨_, tab_len hTx, ?_⟩)
          | (refine ⟨_, tab_addrR hTx (by omega) (by omega), ?_⟩)
          | (refine ⟨_, ld, ?_⟩)
          | (refine ⟨fun _ => ?_, fun _ => ?_⟩ <;> first | (exfalso; omega) | skip)
          | fail
        refine ⟨(i + 1, q), (by repeat' first | exact trivial | refine ⟨rfl, ?_⟩ | refine ⟨slot_int (by (try simp only [Int.toNat_natCast]); omega), ?_⟩), (by (try dsimp only); omega), ?_⟩
        refine ⟨by omega, ?_, kx⟩
        rw [hs]
        simpa [hb] using hq
      | true =>
        rw [hb] at ld
        repeat' first
          | refine CO.cons rfl ?_
          | refine CO.nil ?_
          | refine CV.seq ?_
          | refine CV.region callees ?_
          | refine CV.cond ?_
          | refine CV.block ?_
          | refine CV.skip ?_
          | refine ⟨(⟨by omega, by omega⟩ : inI64 _), ?_⟩
          | (refine ⟨_, tab_len hTx, ?_⟩)
          | (refine ⟨_, tab_addrR hTx (by omega) (by omega), ?_⟩)
          | (refine ⟨_, ld, ?_⟩)
          | (refine ⟨_, _, build_one un22 one3 rfl, ?_⟩)
          | (refine ⟨fun _ => ?_, fun _ => ?_⟩ <;> first | (exfalso; omega) | skip)
          | fail
        refine push_ask hq (by omega) (by omega) (by omega) ?_
        intro q' H8 hq8 kb8 hf8
        have hqa : ∀ c, blkOf q = some c → H4.n ≤ c := fun c hc => (hq.lt hc).1
        repeat' first
          | refine CO.cons rfl ?_
          | refine CO.nil ?_
          | refine CV.region callees ?_
          | refine ⟨(⟨by omega, by omega⟩ : inI64 _), ?_⟩
          | fail
        refine ⟨(i + 1, q'), (by repeat' first | exact trivial | refine ⟨rfl, ?_⟩ | refine ⟨slot_int (by (try simp only [Int.toNat_natCast]); omega), ?_⟩), (by (try dsimp only); omega), ?_⟩
        refine ⟨by omega, ?_, kb8.keep kx hqa⟩
        rw [hs]
        simp only [hb, if_true]
        exact hq8
    obtain rfl : i = 21 := by omega
    repeat' first
      | refine CO.cons rfl ?_
      | refine CO.nil ?_
      | refine CV.seq ?_
      | refine CV.region callees ?_
      | refine CV.cond ?_
      | refine CV.exit ?_
      | refine CV.ret ?_
      | (refine ⟨_, tab_len hTx, ?_⟩)
      | (refine ⟨fun _ => ?_, fun _ => ?_⟩ <;> first | (exfalso; omega) | skip)
      | fail
    rw [hT0]
    exact ⟨by simp only [List.all_cons, List.all_nil, Own.notTuple hq]; rfl, ⟨q, rfl, Own.lower hq (by have := k02.1; omega)⟩, (k02.trans k4).trans kx⟩
set_option maxHeartbeats 4000000 in
set_option maxRecDepth 100000 in
theorem ownedR_spec {B : Nat} {H : Heap} {mk lo hh o d : Int} {sv : Value} {ls : List Lk} (hB : B ≤ H.n) (hr : RowS 4 H sv (ls.map Lkl)) :
    CallB Try.prog B 34 [Chv mk lo hh sv, VI o, VI d] H (fun v H' => v = .tuple #[VI (owV mk lo hh ls o d), VI (owE mk lo hh ls o d)] ∧ Keep H H') := by
  refine CV.enter callees false rfl Try.func34 rfl (by kernel_rfl) (Nat.le_of_ble_eq_true rfl) hB ?_
  repeat' first
    | refine CO.cons rfl ?_
    | refine CV.seq ?_
    | refine CV.region callees ?_
    | fail
  refine ⟨(by simp only [notTuple]), ?_⟩
  rw [boxCh hr.cells.1]
  generalize hs0 : Heap.new H _ = H0
  have hg0 := new_get hs0
  have k0 := new_keep hs0
  have n0 := new_n hs0
  obtain ⟨b0, hbn0⟩ : ∃ b, Heap.n H = b := ⟨_, rfl⟩
  rw [hbn0] at hg0 n0 ⊢
  repeat' first
    | refine CO.cons rfl ?_
    | refine CO.nil ?_
    | refine CV.seq ?_
    | refine CV.region callees ?_
    | (refine ⟨_, ldCh hg0, ?_⟩)
    | fail
  refine (holdersR_spec (by omega) (hr.keep k0)).mono ?_
  rintro v H2 ⟨⟨q, rfl, hq⟩, k2⟩
  have l2 := k2.1
  have hxl := hoX_len (mk := mk) (lo := lo) (hh := hh) (ls := ls) (d := d)
  unfold owV owE
  by_cases he : hoE mk lo hh ls d = 0
  rotate_left
  · repeat' first
      | refine CO.cons rfl ?_
      | refine CO.nil ?_
      | refine CV.seq ?_
      | refine CV.region callees ?_
      | refine CV.cond ?_
      | refine CV.ret ?_
      | (refine ⟨fun _ => ?_, fun _ => ?_⟩ <;> first | (exfalso; omega) | skip)
      | fail
    rw [if_neg he, if_neg he]
    exact ⟨rfl, rfl, k0.trans k2⟩
  rw [if_pos he, he]
  repeat' first
    | refine CO.cons rfl ?_
    | refine CO.nil ?_
    | refine CV.seq ?_
    | refine CV.region callees ?_
    | refine CV.cond ?_
    | refine CV.skip ?_
    | (refine ⟨fun _ => ?_, fun _ => ?_⟩ <;> first | (exfalso; omega) | skip)
    | fail
  refine (withinR_spec (by omega)).mono ?_
  cases ho : inB o 0 19 with
  | false =>
    rintro v H3 ⟨rfl, rfl⟩
    repeat' first
      | refine CO.cons rfl ?_
      | refine CO.nil ?_
      | refine CV.seq ?_
      | refine CV.region callees ?_
      | refine CV.cond ?_
      | refine CV.ret ?_
      | fail
    exact ⟨rfl, rfl, k0.trans k2⟩
  | true =>
    rintro v H3 ⟨rfl, rfl⟩
    have hqr : Ints H3 q (hoX mk lo hh ls d) := hq.row
    have k03 := k0.trans k2
    rw [cond_true, if_pos rfl]
    generalize hoX mk lo hh ls d = X at *
    repeat' first
      | refine CO.cons rfl ?_
      | refine CO.nil ?_
      | refine CV.seq ?_
      | refine CV.region callees ?_
      | refine CV.cond ?_
      | refine CV.block ?_
      | refine CV.skip ?_
      | fail
    refine CV.loopc ?_
    refine WCv.rounds callees false (α := Nat) (fun i => [(1, VI o), (8, q), (10, VI i)]) (fun i Hz => i ≤ X.length ∧ Hz = H3 ∧ ∀ j, j < i → X[j]! ≠ o) (fun i => X.length - i) (0) (by repeat' first | exact trivial | refine ⟨rfl, ?_⟩ | refine ⟨slot_int (by (try simp only [Int.toNat_natCast]); omega), ?_⟩) ?_ ?_
    · exact ⟨by omega, rfl, fun j hj => absurd hj (by omega)⟩
    rintro i Hx ⟨hi, rfl, hno⟩ hBx
    by_cases hi2 : i < X.length
    · have hxi : X[(i : Int).toNat]! = X[i]! := rfl
      by_cases hx : X[i]! = o
      · have hm : o ∈ X := by rw [← hx, getElem!_pos X i hi2]; exact List.getElem_mem _
        by_cases h1 : X.length = 1
        · repeat' first
            | refine CO.cons rfl ?_
            | refine CO.nil ?_
            | refine CV.seq ?_
            | refine CV.region callees ?_
            | refine CV.cond ?_
            | refine CV.block ?_
            | refine CV.skip ?_
            | refine CV.ret ?_
            | refine CO.consG rfl ?_
            | refine ⟨_, ints_len (by assumption), ?_⟩
            | refine ⟨_, ints_addr (by assumption) (by omega) (by omega), ?_⟩
            | refine ⟨_, ints_load (by assumption) (by omega) (by omega), ?_⟩
            | (refine ⟨fun _ => ?_, fun _ => ?_⟩ <;> first | (exfalso; omega) | skip)
            | fail
          rw [if_pos hm, if_pos h1]
          exact ⟨rfl, rfl, k03⟩
        · repeat' first
            | refine CO.cons rfl ?_
            | refine CO.nil ?_
            | refine CV.seq ?_
            | refine CV.region callees ?_
            | refine CV.cond ?_
            | refine CV.block ?_
            | refine CV.skip ?_
            | refine CV.ret ?_
            | refine CO.consG rfl ?_
            | refine ⟨_, ints_len (by assumption), ?_⟩
            | refine ⟨_, ints_addr (by assumption) (by omega) (by omega), ?_⟩
            | refine ⟨_, ints_load (by assumption) (by omega) (by omega), ?_⟩
            | (refine ⟨fun _ => ?_, fun _ => ?_⟩ <;> first | (exfalso; omega) | skip)
            | fail
          rw [if_pos hm, if_neg h1]
          exact ⟨rfl, rfl, k03⟩
      · repeat' first
          | refine CO.cons rfl ?_
          | refine CO.nil ?_
          | refine CV.seq ?_
          | refine CV.region callees ?_
          | refine CV.cond ?_
          | refine CV.block ?_
          | refine CV.skip ?_
          | refine CO.consG rfl ?_
          | refine ⟨_, ints_len (by assumption), ?_⟩
          | refine ⟨_, ints_addr (by assumption) (by omega) (by omega), ?_⟩
          | refine ⟨_, ints_load (by assumption) (by omega) (by omega), ?_⟩
          | refine ⟨(⟨by omega, by omega⟩ : inI64 _), ?_⟩
          | (refine ⟨fun _ => ?_, fun _ => ?_⟩ <;> first | (exfalso; omega) | skip)
          | fail
        refine ⟨(i + 1), (by repeat' first | exact trivial | refine ⟨rfl, ?_⟩ | refine ⟨slot_int (by (try simp only [Int.toNat_natCast]); omega), ?_⟩), (by (try dsimp only); omega), ?_⟩
        refine ⟨by omega, rfl, fun j hj => ?_⟩
        by_cases hji : j = i
        · subst hji; exact hx
        · exact hno j (by omega)
    have hm : o ∉ X := fun h => by
      obtain ⟨j, hj, hjo⟩ := List.getElem_of_mem h
      have := hno j (by omega)
      rw [getElem!_pos X j hj] at this
      exact this hjo
    repeat' first
      | refine CO.cons rfl ?_
      | refine CO.nil ?_
      | refine CV.seq ?_
      | refine CV.region callees ?_
      | refine CV.cond ?_
      | refine CV.exit ?_
      | refine CV.ret ?_
      | refine ⟨_, ints_len (by assumption), ?_⟩
      | (refine ⟨fun _ => ?_, fun _ => ?_⟩ <;> first | (exfalso; omega) | skip)
      | fail
    rw [if_neg hm]
    exact ⟨rfl, rfl, k03⟩
end Go.Proofs.Ytijimplcjaeneaa
