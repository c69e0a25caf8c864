
/- The reference's stories: the walk. -/
import Derived.Test.Ytijimplcjaeneaal3o
set_option linter.unusedVariables false
set_option linter.unusedSimpArgs false
namespace Go.Proofs.Ytijimplcjaeneaa
open Go.AI
set_option maxHeartbeats 32000000 in
set_option maxRecDepth 100000 in
theorem stories_spec {B B0 : Nat} {mk lo hh : Int} {sv : Value} {ls : List Lk} (hls : LsOk ls) (h0 : 0 ≤ lo) (h1 : lo ≤ 100000) (h2 : 0 ≤ hh) (h3 : hh ≤ 100000) (hBB : B ≤ B0) (hsv : ∀ c, blkOf sv = some c → c < B0) :
    ∀ (r : Nat) (pre : List Int) (h : Int) (S : List (List Int)) (rs : List V3) (ov outv : Value) (X : Heap), pre.length + r = ls.length → (∀ k ∈ pre, 0 ≤ k ∧ k < ls.length) → S.length + 7 ^ r ≤ 900000 → RowS 4 X sv (ls.map Lkl) → Own 3 X ov (pre.map VI) B0 → StoRow mk lo hh ls X outv rs S B0 → B0 ≤ X.n →
    CallB Try.prog B 124 [Chv mk lo hh sv, ov, VI h, outv] X (fun v X' => (∃ rs', StoRow mk lo hh ls X' v rs' (S ++ growR ls (fun o => okE (evsL mk lo hh ls o)) r pre h) B0) ∧ KeepBut outv X X' ∧ ∀ c, blkOf v = some c → blkOf outv = some c ∨ X.n ≤ c) := by
  intro r
  induction r with
  | zero =>
    intro pre h S rs ov outv X hpl hpm hSn hr hov hst hBX
    have hBX2 : B ≤ X.n := by omega
    have hov1 : Ints X ov pre := hov.row
    have hn7 := hls.n
    refine CV.enter callees false rfl Try.func124 rfl (by kernel_rfl) (Nat.le_of_ble_eq_true rfl) hBX2 ?_
    repeat' first
      | refine CO.cons rfl ?_
      | refine CV.seq ?_
      | refine CV.region callees ?_
      | fail
    refine ⟨(by simp only [notTuple]), ?_⟩
    rw [boxCh hr.cells.1]
    generalize hs0 : Heap.new X _ = H0
    have hg0 := new_get hs0
    have k0 := new_keep hs0
    have n0 := new_n hs0
    obtain ⟨b0, hbn0⟩ : ∃ b, Heap.n X = b := ⟨_, rfl⟩
    rw [hbn0] at hg0 n0 ⊢
    have hr0 := hr.keep k0
    have hov0 : Ints H0 ov pre := hov1.keep k0
    have hst0 := hst.keep k0
    repeat' first
      | refine CO.cons rfl ?_
      | refine CO.nil ?_
      | refine CV.seq ?_
      | refine CV.region callees ?_
      | refine CV.cond ?_
      | refine ⟨_, ints_len (by assumption), ?_⟩
      | (refine ⟨_, fS foC2 (by decide), ?_⟩)
      | (refine ⟨_, cell_load agLs hg0 rfl, ?_⟩)
      | (refine ⟨_, ls_len hr0, ?_⟩)
      | (refine ⟨_, ldCh hg0, ?_⟩)
      | (refine ⟨fun _ => ?_, fun _ => ?_⟩ <;> first | (exfalso; omega) | skip)
      | fail
    refine (dated_spec (by omega) hr0 hls hov0 (by omega) hpm h0 h1 h2 h3).mono ?_
    rintro v H1 ⟨⟨x, y, rfl, ht, hf⟩, k1⟩
    have l1 := k1.1
    have hst1 := hst0.keep k1
    have hov2 := (hov.keep k0).keep k1
    unfold growR
    cases hok : okE (evsL mk lo hh ls pre) with
    | false =>
      obtain ⟨rfl, rfl⟩ := hf hok
      repeat' first
        | refine CO.cons rfl ?_
        | (refine ⟨_, _, alSt, ?_⟩)
        | fail
      generalize hs4 : Heap.new H1 _ = H4
      have hg4 := new_get hs4
      have k4 := new_keep hs4
      have n4 := new_n hs4
      obtain ⟨b4, hbn4⟩ : ∃ b, Heap.n H1 = b := ⟨_, rfl⟩
      rw [hbn4] at hg4 n4 ⊢
      repeat' first
        | fail
      refine ⟨_, _, stSt hg4 rfl rfl rfl, by omega, ?_⟩
      generalize hs5 : Heap.set H4 b4 _ = H5
      have hg5 : H5.get b4 = some (.cells (Stl nilS nilS nilS) yS 1) := set_get hs5
      have n5 := set_n hs5
      have o5 := set_old hs5
      have k15 : Keep H1 H5 := keep_put k4 (by omega) o5 n5
      repeat' first
        | refine CO.cons rfl ?_
        | refine CO.nil ?_
        | refine CV.seq ?_
        | refine CV.region callees ?_
        | refine CV.cond ?_
        | refine CV.skip ?_
        | refine CV.ret ?_
        | fail
      refine ⟨by simp only [List.all_cons, List.all_nil, OwnS.notTuple hst1.o]; rfl, ⟨rs, ?_⟩, (((k0.trans k1).trans k15).but _), fun c hc => .inl hc⟩
      rw [if_neg (by simp), List.append_nil]
      exact hst1.keep k15
    | true =>
      obtain ⟨hx, hy⟩ := ht hok
      have hxo := (Row.oneC hx.row).1
      have hyo := (Row.oneC hy.row).1
      have hoo := (Row.oneC hov2.row).1
      rw [hok] at *
      repeat' first
        | refine CO.cons rfl ?_
        | (refine ⟨_, _, alSt, ?_⟩)
        | fail
      generalize hs4 : Heap.new H1 _ = H4
      have hg4 := new_get hs4
      have k4 := new_keep hs4
      have n4 := new_n hs4
      obtain ⟨b4, hbn4⟩ : ∃ b, Heap.n H1 = b := ⟨_, rfl⟩
      rw [hbn4] at hg4 n4 ⊢
      repeat' first
        | fail
      refine ⟨_, _, stSt hg4 hoo hxo hyo, by omega, ?_⟩
      generalize hs5 : Heap.set H4 b4 _ = H5
      have hg5 : H5.get b4 = some (.cells (Stl ov x y) yS 1) := set_get hs5
      have n5 := set_n hs5
      have o5 := set_old hs5
      have k15 : Keep H1 H5 := keep_put k4 (by omega) o5 n5
      have l15 := k15.1
      repeat' first
        | refine CO.cons rfl ?_
        | refine CO.nil ?_
        | refine CV.seq ?_
        | refine CV.region callees ?_
        | refine CV.cond ?_
        | (refine ⟨_, ldSt hg5, ?_⟩)
        | (refine ⟨_, _, buStR hoo hxo hyo, ?_⟩)
        | fail
      refine (hst1.keep k15).push (o := pre) (hov2.keep k15) (Own.lower (hx.keep k15) (by omega)) (Own.lower (hy.keep k15) (by omega)) (by omega) hBB (by omega) ?_
      intro w H6 hst6 kb6 hf6
      repeat' first
        | refine CO.cons rfl ?_
        | refine CO.nil ?_
        | refine CV.seq ?_
        | refine CV.region callees ?_
        | refine CV.ret ?_
        | fail
      refine ⟨by simp only [List.all_cons, List.all_nil, OwnS.notTuple hst6.o]; rfl, ⟨rs ++ [(ov, x, y)], ?_⟩, KeepBut.via (((k0.trans k1).trans k15).but _) kb6 (fun c hc => .inl hc), fun c hc => .inr (by have := hf6 c hc; omega)⟩
      rw [if_pos rfl]
      exact hst6
  | succ r ih =>
    intro pre h S rs ov outv X hpl hpm hSn hr hov hst hBX
    have hBX2 : B ≤ X.n := by omega
    have hov1 : Ints X ov pre := hov.row
    have hn7 := hls.n
    have hgr : growR ls (fun o => okE (evsL mk lo hh ls o)) (r + 1) pre h = growRP ls (fun o => okE (evsL mk lo hh ls o)) r pre h ls.length := rfl
    rw [hgr]
    refine CV.enter callees false rfl Try.func124 rfl (by kernel_rfl) (Nat.le_of_ble_eq_true rfl) hBX2 ?_
    repeat' first
      | refine CO.cons rfl ?_
      | refine CV.seq ?_
      | refine CV.region callees ?_
      | fail
    refine ⟨(by simp only [notTuple]), ?_⟩
    rw [boxCh hr.cells.1]
    generalize hs0 : Heap.new X _ = H0
    have hg0 := new_get hs0
    have k0 := new_keep hs0
    have n0 := new_n hs0
    obtain ⟨b0, hbn0⟩ : ∃ b, Heap.n X = b := ⟨_, rfl⟩
    rw [hbn0] at hg0 n0 ⊢
    have hr0 := hr.keep k0
    have hov0 : Ints H0 ov pre := hov1.keep k0
    repeat' first
      | refine CO.cons rfl ?_
      | refine CO.nil ?_
      | refine CV.seq ?_
      | refine CV.region callees ?_
      | refine CV.cond ?_
      | refine CV.block ?_
      | refine CV.skip ?_
      | refine ⟨_, ints_len (by assumption), ?_⟩
      | (refine ⟨_, fS foC2 (by decide), ?_⟩)
      | (refine ⟨_, cell_load agLs hg0 rfl, ?_⟩)
      | (refine ⟨_, ls_len hr0, ?_⟩)
      | (refine ⟨fun _ => ?_, fun _ => ?_⟩ <;> first | (exfalso; omega) | skip)
      | fail
    refine CV.loopc ?_
    refine WCv.rounds callees false (α := Nat × Value × List V3) (fun (i, w, rs) => [(1, ov), (2, VI h), (3, w), (4, .pointer (some ⟨b0, 0, none⟩)), (11, VI i)]) (fun (i, w, rs) Hz => i ≤ ls.length ∧ StoRow mk lo hh ls Hz w rs (S ++ growRP ls (fun o => okE (evsL mk lo hh ls o)) r pre h i) B0 ∧ Hz.get b0 = some (.cells (Chl mk lo hh sv) 26 1) ∧ KeepBut outv H0 Hz ∧ (∀ c, blkOf w = some c → blkOf outv = some c ∨ X.n ≤ c ∧ c ≠ b0) ∧ b0 < Hz.n) (fun (i, w, rs) => ls.length - i) (0, outv, rs) (by repeat' first | exact trivial | refine ⟨rfl, ?_⟩ | refine ⟨slot_int (by (try simp only [Int.toNat_natCast]); omega), ?_⟩) ?_ ?_
    · exact ⟨by omega, by simpa [growRP] using hst.keep k0, hg0, KeepBut.refl _ _, fun c hc => .inl hc, by omega⟩
    have houtb : ∀ c, blkOf outv = some c → B0 ≤ c ∧ c < X.n := fun c hc => hst.o.lt hc
    have hovo : ∀ c, blkOf ov = some c → blkOf outv ≠ some c := ownS_ne (by decide) hov hst.o
    clear hst rs
    rintro ⟨i, w, rs⟩ Hx ⟨hi, hst, hgx, kx, hwb, lx⟩ hBx
    have hlx := kx.le
    have hovx : Own 3 Hx ov (pre.map VI) B0 := own_keepF (hov.keep k0) hlx fun c hc => kx.get c (by have := (hov.lt hc).2; omega) (hovo c hc)
    have hovi : Ints Hx ov pre := hovx.row
    have hrx : RowS 4 Hx sv (ls.map Lkl) := rowS_but hr0 kx fun c hc e => by have := houtb c e; have := hsv c hc; omega
    have hgl := growRP_len (ls := ls) (ok := fun o => okE (evsL mk lo hh ls o)) hn7 (r := r) (pre := pre) (o := h) i
    by_cases hi2 : i < ls.length
    · have hsn : growRP ls (fun o => okE (evsL mk lo hh ls o)) r pre h (i + 1) = growRP ls (fun o => okE (evsL mk lo hh ls o)) r pre h i ++ (if (decide (ls[i]!.f = h) && !decide ((i : Int) ∈ pre)) = true then growR ls (fun o => okE (evsL mk lo hh ls o)) r (pre ++ [(i : Int)]) ls[i]!.t else []) := growRP_succ
      repeat' first
        | refine CO.cons rfl ?_
        | refine CO.nil ?_
        | refine CV.seq ?_
        | refine CV.region callees ?_
        | refine CV.cond ?_
        | refine CV.block ?_
        | refine CV.skip ?_
        | (refine ⟨_, fS foC2 (by decide), ?_⟩)
        | (refine ⟨_, cell_load agLs hgx rfl, ?_⟩)
        | (refine ⟨_, ls_len hrx, ?_⟩)
        | (refine ⟨fun _ => ?_, fun _ => ?_⟩ <;> first | (exfalso; omega) | skip)
        | fail
      refine CV.loopc ?_
      refine WCv.rounds callees false (α := Nat × Bool) (fun (k, u) => [(1, ov), (2, VI h), (3, w), (4, .pointer (some ⟨b0, 0, none⟩)), (11, VI i), (12, .bool u), (13, VI k)]) (fun (k, u) Hz => k ≤ pre.length ∧ u = decide ((i : Int) ∈ pre.take k) ∧ Hz = Hx) (fun (k, u) => pre.length - k) (0, false) (by repeat' first | exact trivial | refine ⟨rfl, ?_⟩ | refine ⟨slot_int (by (try simp only [Int.toNat_natCast]); omega), ?_⟩) ?_ ?_
      · exact ⟨by omega, by simp, rfl⟩
      rintro ⟨k, u⟩ Hy ⟨hk, hu, rfl⟩ hBy
      by_cases hk2 : k < pre.length
      · have htk : pre.take (k + 1) = pre.take k ++ [pre[k]!] := one_at hk2
        have hnx : decide ((i : Int) ∈ pre.take (k + 1)) = (u || decide (pre[k]! = (i : Int))) := by
          rw [htk, hu]
          by_cases h1 : (i : Int) ∈ pre.take k <;> by_cases h2 : pre[k]! = (i : Int) <;> simp [h1, h2]
          · exact eq_comm
        have hxk : pre[(k : Int).toNat]! = pre[k]! := rfl
        cases u with
        | true =>
          repeat' first
            | refine CO.cons rfl ?_
            | refine CO.nil ?_
            | refine CV.seq ?_
            | refine CV.region callees ?_
            | refine CV.cond ?_
            | refine CV.block ?_
            | refine CV.skip ?_
            | refine CO.consG rfl ?_
            | refine ⟨_, ints_len (by assumption), ?_⟩
            | refine ⟨(⟨by omega, by omega⟩ : inI64 _), ?_⟩
            | (refine ⟨fun _ => ?_, fun _ => ?_⟩ <;> first | (exfalso; omega) | skip)
            | fail
          refine ⟨(k + 1, true), (by repeat' first | exact trivial | refine ⟨rfl, ?_⟩ | refine ⟨slot_int (by (try simp only [Int.toNat_natCast]); omega), ?_⟩), (by (try dsimp only); omega), ?_⟩
          exact ⟨by omega, by rw [hnx]; rfl, rfl⟩
        | false =>
          by_cases he : pre[k]! = (i : Int)
          · repeat' first
              | refine CO.cons rfl ?_
              | refine CO.nil ?_
              | refine CV.seq ?_
              | refine CV.region callees ?_
              | refine CV.cond ?_
              | refine CV.block ?_
              | refine CV.skip ?_
              | refine CO.consG rfl ?_
              | refine ⟨_, ints_len (by assumption), ?_⟩
              | refine ⟨_, ints_addr (by assumption) (by omega) (by omega), ?_⟩
              | refine ⟨_, ints_load (by assumption) (by omega) (by omega), ?_⟩
              | refine ⟨(⟨by omega, by omega⟩ : inI64 _), ?_⟩
              | (refine ⟨fun _ => ?_, fun _ => ?_⟩ <;> first | (exfalso; omega) | skip)
              | fail
            refine ⟨(k + 1, true), (by repeat' first | exact trivial | refine ⟨rfl, ?_⟩ | refine ⟨slot_int (by (try simp only [Int.toNat_natCast]); omega), ?_⟩), (by (try dsimp only); omega), ?_⟩
            exact ⟨by omega, by rw [hnx, decide_eq_true he]; rfl, rfl⟩
          · repeat' first
              | refine CO.cons rfl ?_
              | refine CO.nil ?_
              | refine CV.seq ?_
              | refine CV.region callees ?_
              | refine CV.cond ?_
              | refine CV.block ?_
              | refine CV.skip ?_
              | refine CO.consG rfl ?_
              | refine ⟨_, ints_len (by assumption), ?_⟩
              | refine ⟨_, ints_addr (by assumption) (by omega) (by omega), ?_⟩
              | refine ⟨_, ints_load (by assumption) (by omega) (by omega), ?_⟩
              | refine ⟨(⟨by omega, by omega⟩ : inI64 _), ?_⟩
              | (refine ⟨fun _ => ?_, fun _ => ?_⟩ <;> first | (exfalso; omega) | skip)
              | fail
            refine ⟨(k + 1, false), (by repeat' first | exact trivial | refine ⟨rfl, ?_⟩ | refine ⟨slot_int (by (try simp only [Int.toNat_natCast]); omega), ?_⟩), (by (try dsimp only); omega), ?_⟩
            exact ⟨by omega, by rw [hnx, decide_eq_false he]; rfl, rfl⟩
      have hu2 : u = decide ((i : Int) ∈ pre) := by rw [hu, show k = pre.length by omega, List.take_length]
      have hadr : aindexAddr Try.prog 24 sv (VI i) = some (elemS sv 4 i) := ls_addr hrx (by omega) (by omega)
      have hf0 := lk_f0 hrx hi2
      have hf1 := lk_f1r hrx hi2
      cases u with
      | true =>
        repeat' first
          | refine CO.cons rfl ?_
          | refine CO.nil ?_
          | refine CV.seq ?_
          | refine CV.region callees ?_
          | refine CV.cond ?_
          | refine CV.skip ?_
          | refine CV.exit ?_
          | refine CO.consG rfl ?_
          | refine ⟨_, ints_len (by assumption), ?_⟩
          | refine ⟨(⟨by omega, by omega⟩ : inI64 _), ?_⟩
          | (refine ⟨fun _ => ?_, fun _ => ?_⟩ <;> first | (exfalso; omega) | skip)
          | fail
        rw [← hu2] at hsn
        simp only [Bool.not_true, Bool.and_false, Bool.false_eq_true, if_false, List.append_nil] at hsn
        refine ⟨(i + 1, w, rs), (by repeat' first | exact trivial | refine ⟨rfl, ?_⟩ | refine ⟨slot_int (by (try simp only [Int.toNat_natCast]); omega), ?_⟩), (by (try dsimp only); omega), ?_⟩
        exact ⟨by omega, by rw [hsn]; exact hst, hgx, kx, hwb, lx⟩
      | false =>
        by_cases hfh : ls[i]!.f = h
        rotate_left
        · repeat' first
            | refine CO.cons rfl ?_
            | refine CO.nil ?_
            | refine CV.seq ?_
            | refine CV.region callees ?_
            | refine CV.cond ?_
            | refine CV.skip ?_
            | refine CV.exit ?_
            | refine CO.consG rfl ?_
            | refine ⟨_, ints_len (by assumption), ?_⟩
            | refine ⟨(⟨by omega, by omega⟩ : inI64 _), ?_⟩
            | (refine ⟨_, fS foC2 (by decide), ?_⟩)
            | (refine ⟨_, cell_load agLs hgx rfl, ?_⟩)
            | (refine ⟨_, hadr, ?_⟩)
            | (refine ⟨_, hf0.1, ?_⟩)
            | (refine ⟨_, hf0.2, ?_⟩)
            | (refine ⟨fun _ => ?_, fun _ => ?_⟩ <;> first | (exfalso; omega) | skip)
            | fail
          rw [decide_eq_false hfh] at hsn
          simp only [Bool.false_and, Bool.false_eq_true, if_false, List.append_nil] at hsn
          refine ⟨(i + 1, w, rs), (by repeat' first | exact trivial | refine ⟨rfl, ?_⟩ | refine ⟨slot_int (by (try simp only [Int.toNat_natCast]); omega), ?_⟩), (by (try dsimp only); omega), ?_⟩
          exact ⟨by omega, by rw [hsn]; exact hst, hgx, kx, hwb, lx⟩
        rw [← hu2, decide_eq_true hfh] at hsn
        simp only [Bool.not_false, Bool.and_self, if_true] at hsn
        repeat' first
          | refine CO.cons rfl ?_
          | refine CO.nil ?_
          | refine CV.seq ?_
          | refine CV.region callees ?_
          | refine CV.cond ?_
          | refine CV.exit ?_
          | refine CO.consG rfl ?_
          | refine ⟨_, ints_len (by assumption), ?_⟩
          | (refine ⟨_, fS foC2 (by decide), ?_⟩)
          | (refine ⟨_, cell_load agLs hgx rfl, ?_⟩)
          | (refine ⟨_, hadr, ?_⟩)
          | (refine ⟨_, hf0.1, ?_⟩)
          | (refine ⟨_, hf0.2, ?_⟩)
          | (refine ⟨fun _ => ?_, fun _ => ?_⟩ <;> first | (exfalso; omega) | skip)
          | fail
        have hgN : (Hy.new (.cells [] 3 2)).get b0 = some (.cells (Chl mk lo hh sv) 26 1) := by rw [Heap.get_new_ne _ _ (by omega)]; exact hgx
        refine CV.mX callees (by decide +kernel) [(0, []), (2, []), (4, []), (7, []), (8, []), (9, []), (10, []), (11, []), (12, []), (13, []), (1, [12, 8, 0]), (3, [12, 8, 0]), (5, [12, 8, 0]), (6, [12, 8, 0]), (14, []), (15, [])] (by kernel_rfl) ?_
        repeat' first
          | refine CR.cons ?_
          | refine ⟨_, ldCh hgx, ?_⟩
          | refine ⟨_, fS foC2 (by decide), ?_⟩
          | refine ⟨_, cell_load agLs hgx rfl, ?_⟩
          | refine ⟨_, hadr, ?_⟩
          | refine ⟨_, hf1.1, ?_⟩
          | refine ⟨_, hf1.2, ?_⟩
          | fail
        refine ⟨_, _, build_none un22 one3, ?_⟩
        refine CR.opL Hy.n (by omega) (by show Hy.n ≤ Hy.n + 1; omega) ?_
        refine copy_ask (B := Hy.n) un22 one3 (by omega) hovi (Nat.le_refl _) (by rw [List.length_map]; omega) ?_
        intro q H4 hq4 k4
        have l4 := k4.1
        have hr4 := hrx.keep k4
        have hf14 := lk_f1r hr4 hi2
        refine .inl ⟨_, hf14.2, rfl, same_int, ?_⟩
        refine .inr ⟨by omega, _, cell_load agLs hgN rfl, ?_⟩
        refine .inr ⟨by omega, _, ldCh hgN, ?_⟩
        refine CR.cons ?_
        refine ⟨_, _, build_one un22 one3 rfl, ?_⟩
        refine CR.opL Hy.n (by omega) (by show Hy.n ≤ H4.n + 1; omega) ?_
        refine push_ask (B := Hy.n) hq4 l4 (Nat.le_refl _) (by omega) ?_
        intro q' H6 hq6 kb6 hf6
        have l6 := kb6.le
        have hqb : ∀ c, blkOf q = some c → Hy.n ≤ c := fun c hc => (hq4.lt hc).1
        have k6 : Keep Hy H6 := kb6.keep k4 hqb
        have hr6 := hrx.keep k6
        have hf16 := lk_f1r hr6 hi2
        have hg4 := (k4.2 b0 (by omega)).trans hgx
        have hgM : (H4.new (.cells [VI i] 3 2)).get b0 = some (.cells (Chl mk lo hh sv) 26 1) := by rw [Heap.get_new_ne _ _ (by omega)]; exact hg4
        refine .inl ⟨_, hf16.2, rfl, same_int, ?_⟩
        refine .inr ⟨by omega, _, cell_load agLs hgM rfl, ?_⟩
        refine .inr ⟨by omega, _, ldCh hgM, ?_⟩
        refine CR.cons ?_
        have hpow : 7 ^ (r + 1) = 7 * 7 ^ r := by rw [Nat.pow_succ, Nat.mul_comm]
        have hmul : i * 7 ^ r + 7 ^ r ≤ 7 * 7 ^ r := by rw [← Nat.succ_mul]; exact Nat.mul_le_mul_right _ (by omega)
        refine (ih (pre ++ [(i : Int)]) ls[i]!.t (S ++ growRP ls (fun o => okE (evsL mk lo hh ls o)) r pre h i) rs q' w H6 (by rw [List.length_append, List.length_singleton]; omega) (fun k hk => ?_) (by rw [List.length_append]; omega) hr6 (Own.lower hq6 (by omega)) (hst.keep k6) (by omega)).mono ?_
        · rcases List.mem_append.1 hk with hk | hk
          · exact hpm k hk
          · rw [List.mem_singleton] at hk; subst hk; omega
        rintro v H8 ⟨⟨rs', hst8⟩, kb8, hf8⟩
        have l8 := kb8.le
        have hwne : ∀ c, blkOf w = some c → c ≠ b0 := fun c hc e => by
          rcases hwb c hc with h1 | ⟨h1, h2⟩
          · have := houtb c h1; omega
          · exact h2 e
        have hkk : KeepBut outv H0 H8 := KeepBut.via (KeepBut.via kx (k6.but outv) fun c hc => .inl hc) kb8 fun c hc => by
          have := hwne c hc
          rcases hwb c hc with h1 | ⟨h1, h2⟩
          · exact .inl h1
          · exact .inr (by omega)
        repeat' first
          | refine CO.cons rfl ?_
          | refine CO.nil ?_
          | refine CV.region callees ?_
          | refine CR.cons ?_
          | refine CR.nil ?_
          | refine ⟨(⟨by omega, by omega⟩ : inI64 _), ?_⟩
          | fail
        refine ⟨(i + 1, v, rs'), (by repeat' first | exact trivial | refine ⟨rfl, ?_⟩ | refine ⟨slot_int (by (try simp only [Int.toNat_natCast]); omega), ?_⟩), (by (try dsimp only); omega), ?_⟩
        refine ⟨by omega, ?_, (kb8.get b0 (by omega) (fun e => hwne _ e rfl)).trans ((k6.2 b0 (by omega)).trans hgx), hkk, fun c hc => ?_, by omega⟩
        · rw [hsn, ← List.append_assoc]; exact hst8
        · rcases hf8 c hc with h1 | h1
          · exact hwb c h1
          · exact .inr ⟨by omega, by omega⟩
    obtain rfl : i = ls.length := by omega
    repeat' first
      | refine CO.cons rfl ?_
      | refine CO.nil ?_
      | refine CV.seq ?_
      | refine CV.region callees ?_
      | refine CV.cond ?_
      | refine CV.exit ?_
      | refine CV.ret ?_
      | (refine ⟨_, fS foC2 (by decide), ?_⟩)
      | (refine ⟨_, cell_load agLs hgx rfl, ?_⟩)
      | (refine ⟨_, ls_len hrx, ?_⟩)
      | (refine ⟨fun _ => ?_, fun _ => ?_⟩ <;> first | (exfalso; omega) | skip)
      | fail
    exact ⟨by simp only [List.all_cons, List.all_nil, OwnS.notTuple hst.o]; rfl, ⟨rs, hst⟩, KeepBut.via (k0.but outv) kx (fun c hc => .inl hc), fun c hc => by
      rcases hwb c hc with h1 | ⟨h1, _⟩
      · exact .inl h1
      · exact .inr (by omega)⟩
set_option maxRecDepth 100000 in
theorem storiesR_spec {B : Nat} {H : Heap} {mk lo hh : Int} {sv : Value} {ls : List Lk} (hB : B ≤ H.n) (hr : RowS 4 H sv (ls.map Lkl)) (hls : LsOk ls) (h0 : 0 ≤ lo) (h1 : lo ≤ hh) (h3 : hh ≤ 100000) :
    CallB Try.prog B 79 [Chv mk lo hh sv] H (fun v H' => (∃ rs, StoRow mk lo hh ls H' v rs (ordersL mk lo ls) H.n) ∧ Keep H H') := by
  have hn7 := hls.n
  have hp7 : 7 ^ ls.length ≤ 823543 := Nat.le_trans (Nat.pow_le_pow_right (by decide) hn7) (by decide)
  have hsb : ∀ c, blkOf sv = some c → c < H.n + 1 := fun c hc => by
    rcases hr.2 with ⟨h, _⟩ | ⟨h, _⟩ | ⟨b, i, n, cs, e, k, h, h2, _⟩
    · rw [h] at hc; cases hc
    · rw [h] at hc; cases hc; omega
    · rw [h] at hc; cases hc; omega
  refine CV.enter callees false rfl Try.func79 rfl (by kernel_rfl) (Nat.le_of_ble_eq_true rfl) hB ?_
  repeat' first
    | refine CO.cons rfl ?_
    | refine CV.seq ?_
    | refine CV.region callees ?_
    | fail
  refine ⟨(by simp only [notTuple]), ?_⟩
  rw [boxCh hr.cells.1]
  generalize hs0 : Heap.new H _ = H0
  have hg0 := new_get hs0
  have k0 := new_keep hs0
  have n0 := new_n hs0
  obtain ⟨b0, hbn0⟩ : ∃ b, Heap.n H = b := ⟨_, rfl⟩
  rw [hbn0] at hg0 n0 ⊢
  repeat' first
    | refine CO.cons rfl ?_
    | refine CO.nil ?_
    | refine CV.seq ?_
    | refine CV.region callees ?_
    | (refine ⟨_, ldCh hg0, ?_⟩)
    | (refine ⟨_, fS foC0 (by decide), ?_⟩)
    | (refine ⟨_, cell_load ag3 hg0 rfl, ?_⟩)
    | fail
  refine (stories_spec (B0 := b0 + 1) hls h0 (by omega) (by omega) h3 (by omega) (fun c hc => by have := hsb c hc; omega) ls.length [] mk [] [] nilS nilS H0 (by simp) (by simp) (by simp; omega) (hr.keep k0) (.inl ⟨rfl, rfl⟩) StoRow.nil (by omega)).mono ?_
  rintro v H1 ⟨⟨rs, hst⟩, kb, hf⟩
  rw [List.nil_append, stories_eq h1] at hst
  have k1 : Keep H0 H1 := ⟨kb.le, fun c hc => kb.get c hc (by simp [blkOf])⟩
  repeat' first
    | refine CO.cons rfl ?_
    | refine CO.nil ?_
    | refine CV.ret ?_
    | fail
  exact ⟨by simp only [List.all_cons, List.all_nil, OwnS.notTuple hst.o]; rfl, ⟨rs, hst.low (by omega)⟩, k0.trans k1⟩
end Go.Proofs.Ytijimplcjaeneaa

