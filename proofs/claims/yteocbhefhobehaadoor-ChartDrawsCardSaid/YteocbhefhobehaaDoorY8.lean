/- Several texts in one. -/
import Derived.Test.YteocbhefhobehaaDoorY7
set_option linter.unusedVariables false
set_option linter.unusedSimpArgs false
/- The chart that the reference draws. -/
namespace Go.Proofs.YteocbhefhobehaaDoor
open Go.AI
set_option maxRecDepth 100000 in
theorem first_spec {B : Nat} {v : Value} {H : Heap} {xs : List Int} {b : Int} (hB : B ≤ H.n) (hv : Ints H v xs) (h9 : xs.length ≤ 9) (hs : Span xs b) :
    CallB Tryd.prog B 112 [v, .int .i64 b] H (fun r H' => r = VI (fst xs b) ∧ H' = H) := by
  have s1 := hs.f0; have s2 := hs.fl; have s3 := hs.ln
  refine CV.enter callees false rfl Tryd.func112 rfl ok112 (Nat.le_of_ble_eq_true rfl) hB ?_
  repeat' first
    | refine CO.cons rfl ?_
    | refine CO.nil ?_
    | refine CV.seq ?_
    | refine CV.region callees ?_
    | refine CV.cond ?_
    | refine CV.block ?_
    | refine CV.skip ?_
    | refine CV.exit ?_
    | refine CV.ret ?_
    | refine CV.scope ?_
    | refine CV.draw callees rfl ?_
    | refine CH.cons rfl ?_
    | refine CH.nil ?_
    | refine CO.consG rfl ?_
    | refine CH.consG rfl ?_
    | refine CG.cons rfl ?_
    | refine CG.nil ?_
    | refine CG.consG rfl ?_
    | refine ⟨(rfl : plain _ = true), ?_⟩
    | refine ⟨(rfl : nilOk _ = some _), ?_⟩
    | refine ⟨_, ints_len (by assumption), ?_⟩
    | refine ⟨_, ints_addr (by assumption) (by omega) (by omega), ?_⟩
    | refine ⟨_, ints_load (by assumption) (by omega) (by omega), ?_⟩
    | refine ⟨(⟨by omega, by omega⟩ : inI64 _), ?_⟩
    | refine ⟨_, fun tm ha => step1_max rfl (ev_tmp ha rfl) (ev_tmp ha rfl), ?_⟩
    | refine ⟨_, fun tm ha => step1_min rfl (ev_tmp ha rfl) (ev_tmp ha rfl), ?_⟩
    | (refine ⟨fun _ => ?_, fun _ => ?_⟩ <;> first | (exfalso; omega) | skip)
    | fail
  refine CV.loopc ?_
  refine WCv.rounds callees false (α := Nat) (fun i => [(0, v), (1, .int .i64 b), (5, .int .i64 i)]) (fun i Hz => Hz = H ∧ (i : Int) ≤ fst xs b) (fun i => (fst xs b).toNat - i) (0) (by repeat' first | exact trivial | refine ⟨rfl, ?_⟩ | refine ⟨slot_int (by (try simp only [Int.toNat_natCast]); omega), ?_⟩) ?_ ?_
  · exact ⟨rfl, by omega⟩
  rintro i Hx ⟨rfl, hi⟩ hBx
  repeat' first
    | refine CO.cons rfl ?_
    | refine CO.nil ?_
    | refine CV.seq ?_
    | refine CV.region callees ?_
    | refine CV.cond ?_
    | refine CV.block ?_
    | refine CV.skip ?_
    | refine CV.exit ?_
    | refine CV.ret ?_
    | refine CV.scope ?_
    | refine CV.draw callees rfl ?_
    | refine CH.cons rfl ?_
    | refine CH.nil ?_
    | refine CO.consG rfl ?_
    | refine CH.consG rfl ?_
    | refine CG.cons rfl ?_
    | refine CG.nil ?_
    | refine CG.consG rfl ?_
    | refine ⟨(rfl : plain _ = true), ?_⟩
    | refine ⟨(rfl : nilOk _ = some _), ?_⟩
    | refine ⟨_, ints_len (by assumption), ?_⟩
    | refine ⟨_, ints_addr (by assumption) (by omega) (by omega), ?_⟩
    | refine ⟨_, ints_load (by assumption) (by omega) (by omega), ?_⟩
    | refine ⟨(⟨by omega, by omega⟩ : inI64 _), ?_⟩
    | refine ⟨_, fun tm ha => step1_max rfl (ev_tmp ha rfl) (ev_tmp ha rfl), ?_⟩
    | refine ⟨_, fun tm ha => step1_min rfl (ev_tmp ha rfl) (ev_tmp ha rfl), ?_⟩
    | (refine ⟨fun _ => ?_, fun _ => ?_⟩ <;> first | (exfalso; omega) | skip)
    | fail
  · rename_i h
    rw [Int.toNat_natCast] at h
    have : (i : Int) ≠ fst xs b := fun e => h (by have := hs.fa; rw [← e, Int.toNat_natCast] at this; exact this)
    refine ⟨(i + 1), (by repeat' first | exact trivial | refine ⟨rfl, ?_⟩ | refine ⟨slot_int (by (try simp only [Int.toNat_natCast]); omega), ?_⟩), (by (try dsimp only); omega), ?_⟩
    exact ⟨rfl, by omega⟩
  · rename_i h
    rw [Int.toNat_natCast] at h
    have := (hs.of i (by omega) (Classical.not_not.1 h)).1
    exact ⟨rfl, by rw [show (i : Int) = fst xs b by omega], rfl⟩
set_option maxRecDepth 100000 in
theorem last_spec {B : Nat} {v : Value} {H : Heap} {xs : List Int} {b : Int} (hB : B ≤ H.n) (hv : Ints H v xs) (h9 : xs.length ≤ 9) (hs : Span xs b) :
    CallB Tryd.prog B 111 [v, .int .i64 b] H (fun r H' => r = VI (lst xs b) ∧ H' = H) := by
  have s1 := hs.f0; have s2 := hs.fl; have s3 := hs.ln
  refine CV.enter callees false rfl Tryd.func111 rfl ok111 (Nat.le_of_ble_eq_true rfl) hB ?_
  repeat' first
    | refine CO.cons rfl ?_
    | refine CO.nil ?_
    | refine CV.seq ?_
    | refine CV.region callees ?_
    | refine CV.cond ?_
    | refine CV.block ?_
    | refine CV.skip ?_
    | refine CV.exit ?_
    | refine CV.ret ?_
    | refine CV.scope ?_
    | refine CV.draw callees rfl ?_
    | refine CH.cons rfl ?_
    | refine CH.nil ?_
    | refine CO.consG rfl ?_
    | refine CH.consG rfl ?_
    | refine CG.cons rfl ?_
    | refine CG.nil ?_
    | refine CG.consG rfl ?_
    | refine ⟨(rfl : plain _ = true), ?_⟩
    | refine ⟨(rfl : nilOk _ = some _), ?_⟩
    | refine ⟨_, ints_len (by assumption), ?_⟩
    | refine ⟨_, ints_addr (by assumption) (by omega) (by omega), ?_⟩
    | refine ⟨_, ints_load (by assumption) (by omega) (by omega), ?_⟩
    | refine ⟨(⟨by omega, by omega⟩ : inI64 _), ?_⟩
    | refine ⟨_, fun tm ha => step1_max rfl (ev_tmp ha rfl) (ev_tmp ha rfl), ?_⟩
    | refine ⟨_, fun tm ha => step1_min rfl (ev_tmp ha rfl) (ev_tmp ha rfl), ?_⟩
    | (refine ⟨fun _ => ?_, fun _ => ?_⟩ <;> first | (exfalso; omega) | skip)
    | fail
  refine CV.loopc ?_
  refine WCv.rounds callees false (α := Int) (fun i => [(0, v), (1, .int .i64 b), (5, .int .i64 i)]) (fun i Hz => Hz = H ∧ lst xs b ≤ i ∧ i < xs.length) (fun i => (i - lst xs b).toNat) ((xs.length : Int) - 1) (by repeat' first | exact trivial | refine ⟨rfl, ?_⟩ | refine ⟨slot_int (by (try simp only [Int.toNat_natCast]); omega), ?_⟩) ?_ ?_
  · exact ⟨rfl, by omega, by omega⟩
  rintro i Hx ⟨rfl, hi, hi2⟩ hBx
  repeat' first
    | refine CO.cons rfl ?_
    | refine CO.nil ?_
    | refine CV.seq ?_
    | refine CV.region callees ?_
    | refine CV.cond ?_
    | refine CV.block ?_
    | refine CV.skip ?_
    | refine CV.exit ?_
    | refine CV.ret ?_
    | refine CV.scope ?_
    | refine CV.draw callees rfl ?_
    | refine CH.cons rfl ?_
    | refine CH.nil ?_
    | refine CO.consG rfl ?_
    | refine CH.consG rfl ?_
    | refine CG.cons rfl ?_
    | refine CG.nil ?_
    | refine CG.consG rfl ?_
    | refine ⟨(rfl : plain _ = true), ?_⟩
    | refine ⟨(rfl : nilOk _ = some _), ?_⟩
    | refine ⟨_, ints_len (by assumption), ?_⟩
    | refine ⟨_, ints_addr (by assumption) (by omega) (by omega), ?_⟩
    | refine ⟨_, ints_load (by assumption) (by omega) (by omega), ?_⟩
    | refine ⟨(⟨by omega, by omega⟩ : inI64 _), ?_⟩
    | refine ⟨_, fun tm ha => step1_max rfl (ev_tmp ha rfl) (ev_tmp ha rfl), ?_⟩
    | refine ⟨_, fun tm ha => step1_min rfl (ev_tmp ha rfl) (ev_tmp ha rfl), ?_⟩
    | (refine ⟨fun _ => ?_, fun _ => ?_⟩ <;> first | (exfalso; omega) | skip)
    | fail
  · rename_i h
    have : i ≠ lst xs b := fun e => h (by have := hs.la; rw [← e] at this; exact this)
    refine ⟨(i - 1), (by repeat' first | exact trivial | refine ⟨rfl, ?_⟩ | refine ⟨slot_int (by (try simp only [Int.toNat_natCast]); omega), ?_⟩), (by (try dsimp only); omega), ?_⟩
    exact ⟨rfl, by omega, by omega⟩
  · rename_i h
    have := (hs.of i.toNat (by omega) (Classical.not_not.1 h)).2
    exact ⟨rfl, by rw [show i = lst xs b by omega], rfl⟩
theorem levs_ge (xs : List Int) {k a : Nat} (h : a < k) : (levs xs k)[a]! = lev xs a := levs_at xs h
set_option maxHeartbeats 2000000 in
set_option maxRecDepth 100000 in
theorem reflevels_spec {B : Nat} {v : Value} {H : Heap} {xs : List Int} (hB : B ≤ H.n) (hv : Ints H v xs) (hc : check xs = 0) :
    CallB Tryd.prog B 97 [v] H (fun r H' => Own 3 H' r ((levs xs (bk xs)).map VI) H.n ∧ Keep H H') := by
  have hlx := check_len hc
  have hk9 := bk_le9 hc
  have hbc := bk_cast xs
  have hbx : ∀ i, i < xs.length → 0 ≤ xs[i]! ∧ xs[i]! < 9 := fun i hi => check_bound hc hi
  refine CV.enter callees false rfl Tryd.func97 rfl ok97 (Nat.le_of_ble_eq_true rfl) hB ?_
  repeat' first
    | refine CO.cons rfl ?_
    | refine CO.nil ?_
    | refine CV.seq ?_
    | refine CV.region callees ?_
    | refine CV.cond ?_
    | refine CV.block ?_
    | refine CV.skip ?_
    | refine CV.exit ?_
    | refine CV.ret ?_
    | refine CV.scope ?_
    | refine CV.draw callees rfl ?_
    | refine CH.cons rfl ?_
    | refine CH.nil ?_
    | refine CO.consG rfl ?_
    | refine CH.consG rfl ?_
    | refine CG.cons rfl ?_
    | refine CG.nil ?_
    | refine CG.consG rfl ?_
    | refine ⟨(rfl : plain _ = true), ?_⟩
    | refine ⟨(rfl : nilOk _ = some _), ?_⟩
    | refine ⟨_, ints_len (by assumption), ?_⟩
    | refine ⟨_, ints_addr (by assumption) (by omega) (by omega), ?_⟩
    | refine ⟨_, ints_load (by assumption) (by omega) (by omega), ?_⟩
    | refine ⟨(⟨by omega, by omega⟩ : inI64 _), ?_⟩
    | refine ⟨_, fun tm ha => step1_max rfl (ev_tmp ha rfl) (ev_tmp ha rfl), ?_⟩
    | refine ⟨_, fun tm ha => step1_min rfl (ev_tmp ha rfl) (ev_tmp ha rfl), ?_⟩
    | (refine ⟨fun _ => ?_, fun _ => ?_⟩ <;> first | (exfalso; omega) | skip)
    | fail
  refine CV.loopc ?_
  refine WCv.rounds callees false (α := Value × Nat) (fun (o, i) => [(0, v), (3, o), (4, .int .i64 i)]) (fun (o, i) Hz => i ≤ bk xs ∧ Keep H Hz ∧ Own 3 Hz o ((levs xs i).map VI) H.n) (fun (o, i) => bk xs - i) (.slice none 0 0, 0) (by repeat' first | exact trivial | refine ⟨rfl, ?_⟩ | refine ⟨slot_int (by (try simp only [Int.toNat_natCast]); omega), ?_⟩) ?_ ?_
  · exact ⟨by omega, Keep.refl _, .inl ⟨rfl, rfl⟩⟩
  rintro ⟨o, i⟩ Hx ⟨hi, hk, ho⟩ hBx
  have hvx := hv.keep hk
  have hol := levs_length xs i
  repeat' first
    | refine CO.cons rfl ?_
    | refine CO.nil ?_
    | refine CV.seq ?_
    | refine CV.region callees ?_
    | refine CV.cond ?_
    | refine CV.block ?_
    | refine CV.skip ?_
    | refine CV.exit ?_
    | refine CV.ret ?_
    | refine CV.scope ?_
    | refine CV.draw callees rfl ?_
    | refine CH.cons rfl ?_
    | refine CH.nil ?_
    | refine CO.consG rfl ?_
    | refine CH.consG rfl ?_
    | refine CG.cons rfl ?_
    | refine CG.nil ?_
    | refine CG.consG rfl ?_
    | refine ⟨(rfl : plain _ = true), ?_⟩
    | refine ⟨(rfl : nilOk _ = some _), ?_⟩
    | refine ⟨_, ints_len (by assumption), ?_⟩
    | refine ⟨_, ints_addr (by assumption) (by omega) (by omega), ?_⟩
    | refine ⟨_, ints_load (by assumption) (by omega) (by omega), ?_⟩
    | refine ⟨(⟨by omega, by omega⟩ : inI64 _), ?_⟩
    | refine ⟨_, fun tm ha => step1_max rfl (ev_tmp ha rfl) (ev_tmp ha rfl), ?_⟩
    | refine ⟨_, fun tm ha => step1_min rfl (ev_tmp ha rfl) (ev_tmp ha rfl), ?_⟩
    | (refine (refBlocks_spec hBx hvx hbx (by omega)).mono ?_; rintro r H' ⟨rfl, rfl⟩; rw [← hbc])
    | (refine ⟨fun _ => ?_, fun _ => ?_⟩ <;> first | (exfalso; omega) | skip)
    | fail
  · refine CV.loopc ?_
    refine WCv.rounds callees false (α := Nat) (fun j => [(0, v), (3, o), (4, .int .i64 i), (5, .int .i64 (levA xs (levs xs i) i j)), (6, .int .i64 j)]) (fun j Hz => Hz = H' ∧ j ≤ i) (fun j => i - j) (0) (by repeat' first | exact trivial | refine ⟨rfl, ?_⟩ | refine ⟨slot_int (by (try simp only [Int.toNat_natCast]); omega), ?_⟩) ?_ ?_
    · exact ⟨rfl, by omega⟩
    rintro j Hy ⟨rfl, hj⟩ hBy
    have hoy : Ints Hy o (levs xs i) := ho.row
    by_cases hj2 : j < i
    · have hsi := span_blk hc (b := i) (by omega)
      have hsj := span_blk hc (b := j) (by omega)
      have hlj := lev_le xs j
      have hljp := lev_pos xs j
      have hlA : levA xs (levs xs i) i j ≤ 9 := by
        have := levA_le xs (levs xs i) i i j (fun q hq => by rw [levs_at xs (by omega)]; have := lev_le xs q; omega) (by omega)
        omega
      have hlAp := levA_pos xs (levs xs i) i j
      have hat : (levs xs i)[(j : Int).toNat]! = lev xs j := levs_at xs hj2
      have hsucc : levA xs (levs xs i) i (j + 1) = if fst xs i < lst xs j then max (levA xs (levs xs i) i j) (lev xs j + 1) else levA xs (levs xs i) i j := by
        rw [levA, levs_at xs hj2]
      repeat' first
        | refine CO.cons rfl ?_
        | refine CO.nil ?_
        | refine CV.seq ?_
        | refine CV.region callees ?_
        | refine CV.cond ?_
        | refine CV.block ?_
        | refine CV.skip ?_
        | refine CV.exit ?_
        | refine CV.ret ?_
        | refine CV.scope ?_
        | refine CV.draw callees rfl ?_
        | refine CH.cons rfl ?_
        | refine CH.nil ?_
        | refine CO.consG rfl ?_
        | refine CH.consG rfl ?_
        | refine CG.cons rfl ?_
        | refine CG.nil ?_
        | refine CG.consG rfl ?_
        | refine ⟨(rfl : plain _ = true), ?_⟩
        | refine ⟨(rfl : nilOk _ = some _), ?_⟩
        | refine ⟨_, ints_len (by assumption), ?_⟩
        | refine ⟨_, ints_addr (by assumption) (by omega) (by omega), ?_⟩
        | refine ⟨_, ints_load (by assumption) (by omega) (by omega), ?_⟩
        | refine ⟨(⟨by omega, by omega⟩ : inI64 _), ?_⟩
        | refine ⟨_, fun tm ha => step1_max rfl (ev_tmp ha rfl) (ev_tmp ha rfl), ?_⟩
        | refine ⟨_, fun tm ha => step1_min rfl (ev_tmp ha rfl) (ev_tmp ha rfl), ?_⟩
        | (refine (last_spec hBy hvx (by omega) hsj).mono ?_; rintro r H' ⟨rfl, rfl⟩)
        | (refine (first_spec (by assumption) hvx (by omega) hsi).mono ?_; rintro r H' ⟨rfl, rfl⟩)
        | (refine ⟨fun _ => ?_, fun _ => ?_⟩ <;> first | (exfalso; omega) | skip)
        | fail
      · rw [if_pos (by omega)] at hsucc
        refine ⟨j + 1, ⟨rfl, rfl, rfl, (by rw [hat, hsucc]; exact rfl), rfl, trivial⟩, by (try dsimp only); omega, rfl, by omega⟩
      · rw [if_neg (by omega)] at hsucc
        refine ⟨j + 1, ⟨rfl, rfl, rfl, (by rw [hsucc]; exact rfl), rfl, trivial⟩, by (try dsimp only); omega, rfl, by omega⟩
    · have : j = i := by omega
      subst this
      repeat' first
        | refine CO.cons rfl ?_
        | refine CO.nil ?_
        | refine CV.seq ?_
        | refine CV.region callees ?_
        | refine CV.cond ?_
        | refine CV.block ?_
        | refine CV.skip ?_
        | refine CV.exit ?_
        | refine CV.ret ?_
        | refine CV.scope ?_
        | refine CV.draw callees rfl ?_
        | refine CH.cons rfl ?_
        | refine CH.nil ?_
        | refine CO.consG rfl ?_
        | refine CH.consG rfl ?_
        | refine CG.cons rfl ?_
        | refine CG.nil ?_
        | refine CG.consG rfl ?_
        | refine ⟨(rfl : plain _ = true), ?_⟩
        | refine ⟨(rfl : nilOk _ = some _), ?_⟩
        | refine ⟨_, ints_len (by assumption), ?_⟩
        | refine ⟨_, ints_addr (by assumption) (by omega) (by omega), ?_⟩
        | refine ⟨_, ints_load (by assumption) (by omega) (by omega), ?_⟩
        | refine ⟨(⟨by omega, by omega⟩ : inI64 _), ?_⟩
        | refine ⟨_, fun tm ha => step1_max rfl (ev_tmp ha rfl) (ev_tmp ha rfl), ?_⟩
        | refine ⟨_, fun tm ha => step1_min rfl (ev_tmp ha rfl) (ev_tmp ha rfl), ?_⟩
        | refine ⟨_, _, build_one un22 one3 rfl, ?_⟩
        | (refine ⟨fun _ => ?_, fun _ => ?_⟩ <;> first | (exfalso; omega) | skip)
        | fail
      refine push_ask ho hk.1 hB (by omega) ?_
      intro o2 H4 ho4 kb4 hf4
      have k5 := kb4.keep hk fun c hc => (ho.lt hc).1
      repeat' first
        | refine CO.cons rfl ?_
        | refine CO.nil ?_
        | refine CV.seq ?_
        | refine CV.region callees ?_
        | refine CV.cond ?_
        | refine CV.block ?_
        | refine CV.skip ?_
        | refine CV.exit ?_
        | refine CV.ret ?_
        | refine CV.scope ?_
        | refine CV.draw callees rfl ?_
        | refine CH.cons rfl ?_
        | refine CH.nil ?_
        | refine CO.consG rfl ?_
        | refine CH.consG rfl ?_
        | refine CG.cons rfl ?_
        | refine CG.nil ?_
        | refine CG.consG rfl ?_
        | refine ⟨(rfl : plain _ = true), ?_⟩
        | refine ⟨(rfl : nilOk _ = some _), ?_⟩
        | refine ⟨_, ints_len (by assumption), ?_⟩
        | refine ⟨_, ints_addr (by assumption) (by omega) (by omega), ?_⟩
        | refine ⟨_, ints_load (by assumption) (by omega) (by omega), ?_⟩
        | refine ⟨(⟨by omega, by omega⟩ : inI64 _), ?_⟩
        | refine ⟨_, fun tm ha => step1_max rfl (ev_tmp ha rfl) (ev_tmp ha rfl), ?_⟩
        | refine ⟨_, fun tm ha => step1_min rfl (ev_tmp ha rfl) (ev_tmp ha rfl), ?_⟩
        | (refine ⟨fun _ => ?_, fun _ => ?_⟩ <;> first | (exfalso; omega) | skip)
        | fail
      refine ⟨(o2, j + 1), (by repeat' first | exact trivial | refine ⟨rfl, ?_⟩ | refine ⟨slot_int (by (try simp only [Int.toNat_natCast]); omega), ?_⟩), (by (try dsimp only); omega), ?_⟩
      exact ⟨by omega, k5, ho4⟩
  · refine ⟨by simp only [List.all_cons, List.all_nil, ho.notTuple]; rfl, ?_, hk⟩
    rw [show bk xs = i by omega]; exact ho
set_option maxRecDepth 100000 in
theorem refLevels_spec {B : Nat} {v : Value} {H : Heap} {xs : List Int} (hB : B ≤ H.n) (hv : Ints H v xs) :
    CallB Tryd.prog B 50 [v] H (fun r H' => (∃ u, r = .tuple #[u, .int .i64 (check xs)] ∧ Ints H' u (if check xs = 0 then levs xs (bk xs) else [])) ∧ Keep H H') := by
  refine CV.enter callees false rfl Tryd.func50 rfl ok50 (Nat.le_of_ble_eq_true rfl) hB ?_
  repeat' first
    | refine CO.cons rfl ?_
    | refine CO.nil ?_
    | refine CV.seq ?_
    | refine CV.region callees ?_
    | refine CV.cond ?_
    | refine CV.block ?_
    | refine CV.skip ?_
    | refine CV.exit ?_
    | refine CV.ret ?_
    | refine CV.scope ?_
    | refine CV.draw callees rfl ?_
    | refine CH.cons rfl ?_
    | refine CH.nil ?_
    | refine CO.consG rfl ?_
    | refine CH.consG rfl ?_
    | refine CG.cons rfl ?_
    | refine CG.nil ?_
    | refine CG.consG rfl ?_
    | refine ⟨(rfl : plain _ = true), ?_⟩
    | refine ⟨(rfl : nilOk _ = some _), ?_⟩
    | refine ⟨_, ints_len (by assumption), ?_⟩
    | refine ⟨_, ints_addr (by assumption) (by omega) (by omega), ?_⟩
    | refine ⟨_, ints_load (by assumption) (by omega) (by omega), ?_⟩
    | refine ⟨(⟨by omega, by omega⟩ : inI64 _), ?_⟩
    | refine ⟨_, fun tm ha => step1_max rfl (ev_tmp ha rfl) (ev_tmp ha rfl), ?_⟩
    | refine ⟨_, fun tm ha => step1_min rfl (ev_tmp ha rfl) (ev_tmp ha rfl), ?_⟩
    | (refine ⟨fun _ => ?_, fun _ => ?_⟩ <;> first | (exfalso; omega) | skip)
    | fail
  refine (refCheck_spec hB hv).mono ?_
  rintro r H1 ⟨rfl, rfl⟩
  repeat' first
    | refine CO.cons rfl ?_
    | refine CO.nil ?_
    | refine CV.seq ?_
    | refine CV.region callees ?_
    | refine CV.cond ?_
    | refine CV.block ?_
    | refine CV.skip ?_
    | refine CV.exit ?_
    | refine CV.ret ?_
    | refine CV.scope ?_
    | refine CV.draw callees rfl ?_
    | refine CH.cons rfl ?_
    | refine CH.nil ?_
    | refine CO.consG rfl ?_
    | refine CH.consG rfl ?_
    | refine CG.cons rfl ?_
    | refine CG.nil ?_
    | refine CG.consG rfl ?_
    | refine ⟨(rfl : plain _ = true), ?_⟩
    | refine ⟨(rfl : nilOk _ = some _), ?_⟩
    | refine ⟨_, ints_len (by assumption), ?_⟩
    | refine ⟨_, ints_addr (by assumption) (by omega) (by omega), ?_⟩
    | refine ⟨_, ints_load (by assumption) (by omega) (by omega), ?_⟩
    | refine ⟨(⟨by omega, by omega⟩ : inI64 _), ?_⟩
    | refine ⟨_, fun tm ha => step1_max rfl (ev_tmp ha rfl) (ev_tmp ha rfl), ?_⟩
    | refine ⟨_, fun tm ha => step1_min rfl (ev_tmp ha rfl) (ev_tmp ha rfl), ?_⟩
    | (refine ⟨fun _ => ?_, fun _ => ?_⟩ <;> first | (exfalso; omega) | skip)
    | fail
  · exact ⟨rfl, ⟨_, rfl, .inl ⟨rfl, by rw [if_neg (by assumption)]; rfl⟩⟩, Keep.refl _⟩
  have hc : check xs = 0 := Classical.not_not.1 (by assumption)
  refine (reflevels_spec hB hv hc).mono ?_
  rintro o H2 ⟨ho, k2⟩
  repeat' first
    | refine CO.cons rfl ?_
    | refine CO.nil ?_
    | refine CV.seq ?_
    | refine CV.region callees ?_
    | refine CV.cond ?_
    | refine CV.block ?_
    | refine CV.skip ?_
    | refine CV.exit ?_
    | refine CV.ret ?_
    | refine CV.scope ?_
    | refine CV.draw callees rfl ?_
    | refine CH.cons rfl ?_
    | refine CH.nil ?_
    | refine CO.consG rfl ?_
    | refine CH.consG rfl ?_
    | refine CG.cons rfl ?_
    | refine CG.nil ?_
    | refine CG.consG rfl ?_
    | refine ⟨(rfl : plain _ = true), ?_⟩
    | refine ⟨(rfl : nilOk _ = some _), ?_⟩
    | refine ⟨_, ints_len (by assumption), ?_⟩
    | refine ⟨_, ints_addr (by assumption) (by omega) (by omega), ?_⟩
    | refine ⟨_, ints_load (by assumption) (by omega) (by omega), ?_⟩
    | refine ⟨(⟨by omega, by omega⟩ : inI64 _), ?_⟩
    | refine ⟨_, fun tm ha => step1_max rfl (ev_tmp ha rfl) (ev_tmp ha rfl), ?_⟩
    | refine ⟨_, fun tm ha => step1_min rfl (ev_tmp ha rfl) (ev_tmp ha rfl), ?_⟩
    | (refine ⟨fun _ => ?_, fun _ => ?_⟩ <;> first | (exfalso; omega) | skip)
    | fail
  exact ⟨by simp only [List.all_cons, List.all_nil, ho.notTuple]; rfl, ⟨o, by rw [hc], by rw [if_pos hc]; exact ho.row⟩, k2⟩
theorem ovr_mono {xs : List Int} {row a b : Int} {k m : Nat} (h : ovr xs row a b k = true) (hk : k ≤ m) : ovr xs row a b m = true := by
  rw [ovr_iff] at h ⊢
  obtain ⟨q, h1, h2⟩ := h
  exact ⟨q, by omega, h2⟩
set_option maxHeartbeats 1000000 in
set_option maxRecDepth 100000 in
theorem over_spec {B : Nat} {v u : Value} {H : Heap} {xs : List Int} {row a b : Int} (hB : B ≤ H.n) (hv : Ints H v xs) (hc : check xs = 0) (hu : Ints H u (levs xs (bk xs))) :
    CallB Tryd.prog B 115 [v, u, .int .i64 row, .int .i64 a, .int .i64 b] H (fun r H' => r = .bool (ovr xs row a b (bk xs)) ∧ H' = H) := by
  have hlx := check_len hc
  have hk9 := bk_le9 hc
  have hul := levs_length xs (bk xs)
  refine CV.enter callees false rfl Tryd.func115 rfl ok115 (Nat.le_of_ble_eq_true rfl) hB ?_
  repeat' first
    | refine CO.cons rfl ?_
    | refine CO.nil ?_
    | refine CV.seq ?_
    | refine CV.region callees ?_
    | refine CV.cond ?_
    | refine CV.block ?_
    | refine CV.skip ?_
    | refine CV.exit ?_
    | refine CV.ret ?_
    | refine CV.scope ?_
    | refine CV.draw callees rfl ?_
    | refine CH.cons rfl ?_
    | refine CH.nil ?_
    | refine CO.consG rfl ?_
    | refine CH.consG rfl ?_
    | refine CG.cons rfl ?_
    | refine CG.nil ?_
    | refine CG.consG rfl ?_
    | refine ⟨(rfl : plain _ = true), ?_⟩
    | refine ⟨(rfl : nilOk _ = some _), ?_⟩
    | refine ⟨_, ints_len (by assumption), ?_⟩
    | refine ⟨_, ints_addr (by assumption) (by omega) (by omega), ?_⟩
    | refine ⟨_, ints_load (by assumption) (by omega) (by omega), ?_⟩
    | refine ⟨(⟨by omega, by omega⟩ : inI64 _), ?_⟩
    | refine ⟨_, fun tm ha => step1_max rfl (ev_tmp ha rfl) (ev_tmp ha rfl), ?_⟩
    | refine ⟨_, fun tm ha => step1_min rfl (ev_tmp ha rfl) (ev_tmp ha rfl), ?_⟩
    | (refine ⟨fun _ => ?_, fun _ => ?_⟩ <;> first | (exfalso; omega) | skip)
    | fail
  refine CV.loopc ?_
  refine WCv.rounds callees false (α := Nat) (fun i => [(0, v), (1, u), (2, .int .i64 row), (3, .int .i64 a), (4, .int .i64 b), (11, .int .i64 i)]) (fun i Hz => Hz = H ∧ i ≤ bk xs ∧ ovr xs row a b i = false) (fun i => bk xs - i) (0) (by repeat' first | exact trivial | refine ⟨rfl, ?_⟩ | refine ⟨slot_int (by (try simp only [Int.toNat_natCast]); omega), ?_⟩) ?_ ?_
  · exact ⟨rfl, by omega, rfl⟩
  rintro i Hx ⟨rfl, hi, hov⟩ hBx
  by_cases hi2 : i < bk xs
  · have hs := span_blk hc hi2
    have hat : (levs xs (bk xs))[(i : Int).toNat]! = lev xs i := levs_at xs hi2
    have hsucc : ovr xs row a b (i + 1) = (lev xs i == row && decide (fst xs i ≤ a) && decide (b ≤ lst xs i)) := by rw [ovr, hov]; rfl
    repeat' first
      | refine CO.cons rfl ?_
      | refine CO.nil ?_
      | refine CV.seq ?_
      | refine CV.region callees ?_
      | refine CV.cond ?_
      | refine CV.block ?_
      | refine CV.skip ?_
      | refine CV.exit ?_
      | refine CV.ret ?_
      | refine CV.scope ?_
      | refine CV.draw callees rfl ?_
      | refine CH.cons rfl ?_
      | refine CH.nil ?_
      | refine CO.consG rfl ?_
      | refine CH.consG rfl ?_
      | refine CG.cons rfl ?_
      | refine CG.nil ?_
      | refine CG.consG rfl ?_
      | refine ⟨(rfl : plain _ = true), ?_⟩
      | refine ⟨(rfl : nilOk _ = some _), ?_⟩
      | refine ⟨_, ints_len (by assumption), ?_⟩
      | refine ⟨_, ints_addr (by assumption) (by omega) (by omega), ?_⟩
      | refine ⟨_, ints_load (by assumption) (by omega) (by omega), ?_⟩
      | refine ⟨(⟨by omega, by omega⟩ : inI64 _), ?_⟩
      | refine ⟨_, fun tm ha => step1_max rfl (ev_tmp ha rfl) (ev_tmp ha rfl), ?_⟩
      | refine ⟨_, fun tm ha => step1_min rfl (ev_tmp ha rfl) (ev_tmp ha rfl), ?_⟩
      | (refine (first_spec (by assumption) hv (by omega) hs).mono ?_; rintro r H' ⟨rfl, rfl⟩)
      | (refine (last_spec (by assumption) hv (by omega) hs).mono ?_; rintro r H' ⟨rfl, rfl⟩)
      | (refine ⟨fun _ => ?_, fun _ => ?_⟩ <;> first | (exfalso; omega) | skip)
      | fail
    · refine ⟨rfl, ?_, rfl⟩
      rw [ovr_mono (k := i + 1) (by rw [hsucc]; simp only [Bool.and_eq_true, beq_iff_eq, decide_eq_true_eq]; rename_i h1 h2 h3 h4; rw [hat] at h2; exact ⟨⟨h2, h3⟩, h4⟩) (by omega)]
    · refine ⟨(i + 1), (by repeat' first | exact trivial | refine ⟨rfl, ?_⟩ | refine ⟨slot_int (by (try simp only [Int.toNat_natCast]); omega), ?_⟩), (by (try dsimp only); omega), ?_⟩
      refine ⟨rfl, by omega, ?_⟩
      rw [hsucc]; rename_i h1 h2 h3 h4; simp only [Bool.and_eq_false_iff, decide_eq_false_iff_not]; exact .inr h4
    · refine ⟨(i + 1), (by repeat' first | exact trivial | refine ⟨rfl, ?_⟩ | refine ⟨slot_int (by (try simp only [Int.toNat_natCast]); omega), ?_⟩), (by (try dsimp only); omega), ?_⟩
      refine ⟨rfl, by omega, ?_⟩
      rw [hsucc]; rename_i h1 h2 h3; simp only [Bool.and_eq_false_iff, decide_eq_false_iff_not]; exact .inl (.inr h3)
    · refine ⟨(i + 1), (by repeat' first | exact trivial | refine ⟨rfl, ?_⟩ | refine ⟨slot_int (by (try simp only [Int.toNat_natCast]); omega), ?_⟩), (by (try dsimp only); omega), ?_⟩
      refine ⟨rfl, by omega, ?_⟩
      rw [hsucc]; rename_i h1 h2; rw [hat] at h2; simp only [Bool.and_eq_false_iff, beq_eq_false_iff_ne]; exact .inl (.inl h2)
  · have : i = bk xs := by omega
    subst this
    repeat' first
      | refine CO.cons rfl ?_
      | refine CO.nil ?_
      | refine CV.seq ?_
      | refine CV.region callees ?_
      | refine CV.cond ?_
      | refine CV.block ?_
      | refine CV.skip ?_
      | refine CV.exit ?_
      | refine CV.ret ?_
      | refine CV.scope ?_
      | refine CV.draw callees rfl ?_
      | refine CH.cons rfl ?_
      | refine CH.nil ?_
      | refine CO.consG rfl ?_
      | refine CH.consG rfl ?_
      | refine CG.cons rfl ?_
      | refine CG.nil ?_
      | refine CG.consG rfl ?_
      | refine ⟨(rfl : plain _ = true), ?_⟩
      | refine ⟨(rfl : nilOk _ = some _), ?_⟩
      | refine ⟨_, ints_len (by assumption), ?_⟩
      | refine ⟨_, ints_addr (by assumption) (by omega) (by omega), ?_⟩
      | refine ⟨_, ints_load (by assumption) (by omega) (by omega), ?_⟩
      | refine ⟨(⟨by omega, by omega⟩ : inI64 _), ?_⟩
      | refine ⟨_, fun tm ha => step1_max rfl (ev_tmp ha rfl) (ev_tmp ha rfl), ?_⟩
      | refine ⟨_, fun tm ha => step1_min rfl (ev_tmp ha rfl) (ev_tmp ha rfl), ?_⟩
      | (refine ⟨fun _ => ?_, fun _ => ?_⟩ <;> first | (exfalso; omega) | skip)
      | fail
    exact ⟨rfl, by rw [hov], rfl⟩
set_option maxHeartbeats 2000000 in
set_option maxRecDepth 100000 in
theorem bar_spec {B : Nat} {v u : Value} {H : Heap} {xs : List Int} {row : Int} {i : Nat} (hB : B ≤ H.n) (hv : Ints H v xs) (hc : check xs = 0) (hu : Ints H u (levs xs (bk xs))) (hi : i < xs.length) (hr : -1000 ≤ row ∧ row ≤ 1000) :
    CallB Tryd.prog B 114 [v, u, .int .i64 i, .int .i64 row] H (fun r H' => r = .int .u8 (ch xs row (2 * (i : Int))) ∧ H' = H) := by
  have hlx := check_len hc
  have hk9 := bk_le9 hc
  have hul := levs_length xs (bk xs)
  obtain ⟨b0, b1, b2⟩ := blk_of hc hi
  have hs := span_at hc hi
  rw [b2] at hs
  have hch := ch_even hc hi (row := row)
  have hat : (levs xs (bk xs))[xs[(i : Int).toNat]!.toNat]! = lev xs xs[i]!.toNat := levs_at xs b1
  have hxi : xs[(i : Int).toNat]! = xs[i]! := rfl
  have hll := lev_le xs xs[i]!.toNat
  have hlp := lev_pos xs xs[i]!.toNat
  have hT : ovr xs row ((i : Int) - 1) (i + 1) (bk xs) = true → ch xs row (2 * (i : Int)) = if row < lev xs xs[i]!.toNat then 45 else if row = lev xs xs[i]!.toNat ∧ fst xs xs[i]! < lst xs xs[i]! then 111 else if lev xs xs[i]!.toNat < row then 120 else 124 := fun h => by
    rw [hch, h]
    by_cases h1 : row < lev xs xs[i]!.toNat
    · rw [if_pos ⟨h1, rfl⟩, if_pos h1]
    · rw [if_neg (fun e => h1 e.1), if_neg h1, if_neg h1]
      by_cases h2 : lev xs xs[i]!.toNat < row
      · rw [if_pos (⟨h2, rfl⟩ : lev xs xs[i]!.toNat < row ∧ true = true), if_pos h2]
      · rw [if_neg (fun e : lev xs xs[i]!.toNat < row ∧ true = true => h2 e.1), if_neg h2]
  have hF : ovr xs row ((i : Int) - 1) (i + 1) (bk xs) = false → ch xs row (2 * (i : Int)) = if row < lev xs xs[i]!.toNat then 32 else if row = lev xs xs[i]!.toNat ∧ fst xs xs[i]! < lst xs xs[i]! then 111 else 124 := fun h => by
    rw [hch, h]
    rw [if_neg (fun e : row < lev xs xs[i]!.toNat ∧ false = true => by cases e.2), if_neg (fun e : lev xs xs[i]!.toNat < row ∧ false = true => by cases e.2)]
  clear hch
  refine CV.enter callees false rfl Tryd.func114 rfl ok114 (Nat.le_of_ble_eq_true rfl) hB ?_
  repeat' first
    | refine CO.cons rfl ?_
    | refine CO.nil ?_
    | refine CV.seq ?_
    | refine CV.region callees ?_
    | refine CV.cond ?_
    | refine CV.block ?_
    | refine CV.skip ?_
    | refine CV.exit ?_
    | refine CV.ret ?_
    | refine CV.scope ?_
    | refine CV.draw callees rfl ?_
    | refine CH.cons rfl ?_
    | refine CH.nil ?_
    | refine CO.consG rfl ?_
    | refine CH.consG rfl ?_
    | refine CG.cons rfl ?_
    | refine CG.nil ?_
    | refine CG.consG rfl ?_
    | refine ⟨(rfl : plain _ = true), ?_⟩
    | refine ⟨(rfl : nilOk _ = some _), ?_⟩
    | refine ⟨_, ints_len (by assumption), ?_⟩
    | refine ⟨_, ints_addr (by assumption) (by omega) (by omega), ?_⟩
    | refine ⟨_, ints_load (by assumption) (by omega) (by omega), ?_⟩
    | refine ⟨(⟨by omega, by omega⟩ : inI64 _), ?_⟩
    | refine ⟨_, fun tm ha => step1_max rfl (ev_tmp ha rfl) (ev_tmp ha rfl), ?_⟩
    | refine ⟨_, fun tm ha => step1_min rfl (ev_tmp ha rfl) (ev_tmp ha rfl), ?_⟩
    | (refine ⟨fun _ => ?_, fun _ => ?_⟩ <;> first | (exfalso; omega) | skip)
    | fail
  refine (over_spec hB hv hc hu).mono ?_
  rintro r H1 ⟨rfl, rfl⟩
  generalize hO : ovr xs row ((i : Int) - 1) (i + 1) (bk xs) = O at hT hF
  cases O with
  | true =>
    have hT := hT rfl
    repeat' first
      | refine CO.cons rfl ?_
      | refine CO.nil ?_
      | refine CV.seq ?_
      | refine CV.region callees ?_
      | refine CV.cond ?_
      | refine CV.block ?_
      | refine CV.skip ?_
      | refine CV.exit ?_
      | refine CV.ret ?_
      | refine CV.scope ?_
      | refine CV.draw callees rfl ?_
      | refine CH.cons rfl ?_
      | refine CH.nil ?_
      | refine CO.consG rfl ?_
      | refine CH.consG rfl ?_
      | refine CG.cons rfl ?_
      | refine CG.nil ?_
      | refine CG.consG rfl ?_
      | refine ⟨(rfl : plain _ = true), ?_⟩
      | refine ⟨(rfl : nilOk _ = some _), ?_⟩
      | refine ⟨_, ints_len (by assumption), ?_⟩
      | refine ⟨_, ints_addr (by assumption) (by omega) (by omega), ?_⟩
      | refine ⟨_, ints_load (by assumption) (by omega) (by omega), ?_⟩
      | refine ⟨(⟨by omega, by omega⟩ : inI64 _), ?_⟩
      | refine ⟨_, fun tm ha => step1_max rfl (ev_tmp ha rfl) (ev_tmp ha rfl), ?_⟩
      | refine ⟨_, fun tm ha => step1_min rfl (ev_tmp ha rfl) (ev_tmp ha rfl), ?_⟩
      | refine CV.wide callees rfl [0, 1, 2, 3, 4, 5, 6, 7, 8, 10, 11, 12, 13, 14, 9, 15, 16, 17, 18] (by kernel_rfl) ?_
      | (refine (first_spec (by first | exact Nat.le_refl _ | assumption) hv (by omega) hs).mono ?_; rintro r H' ⟨rfl, rfl⟩)
      | (refine (last_spec (by first | exact Nat.le_refl _ | assumption) hv (by omega) hs).mono ?_; rintro r H' ⟨rfl, rfl⟩)
      | (refine ⟨fun _ => ?_, fun _ => ?_⟩ <;> first | (exfalso; omega) | skip)
      | fail
    all_goals (refine ⟨rfl, ?_, rfl⟩; rw [hT]; first | rw [if_pos (show row < lev xs xs[i]!.toNat by omega)] | rw [if_neg (show ¬ row < lev xs xs[i]!.toNat by omega), if_pos (⟨by omega, by omega⟩ : row = lev xs xs[i]!.toNat ∧ fst xs xs[i]! < lst xs xs[i]!)] | rw [if_neg (show ¬ row < lev xs xs[i]!.toNat by omega), if_neg (show ¬ (row = lev xs xs[i]!.toNat ∧ fst xs xs[i]! < lst xs xs[i]!) by omega), if_pos (show lev xs xs[i]!.toNat < row by omega)] | rw [if_neg (show ¬ row < lev xs xs[i]!.toNat by omega), if_neg (show ¬ (row = lev xs xs[i]!.toNat ∧ fst xs xs[i]! < lst xs xs[i]!) by omega), if_neg (show ¬ lev xs xs[i]!.toNat < row by omega)] | rw [if_neg (show ¬ row < lev xs xs[i]!.toNat by omega), if_neg (show ¬ (row = lev xs xs[i]!.toNat ∧ fst xs xs[i]! < lst xs xs[i]!) by omega)])
  | false =>
    have hF := hF rfl
    repeat' first
      | refine CO.cons rfl ?_
      | refine CO.nil ?_
      | refine CV.seq ?_
      | refine CV.region callees ?_
      | refine CV.cond ?_
      | refine CV.block ?_
      | refine CV.skip ?_
      | refine CV.exit ?_
      | refine CV.ret ?_
      | refine CV.scope ?_
      | refine CV.draw callees rfl ?_
      | refine CH.cons rfl ?_
      | refine CH.nil ?_
      | refine CO.consG rfl ?_
      | refine CH.consG rfl ?_
      | refine CG.cons rfl ?_
      | refine CG.nil ?_
      | refine CG.consG rfl ?_
      | refine ⟨(rfl : plain _ = true), ?_⟩
      | refine ⟨(rfl : nilOk _ = some _), ?_⟩
      | refine ⟨_, ints_len (by assumption), ?_⟩
      | refine ⟨_, ints_addr (by assumption) (by omega) (by omega), ?_⟩
      | refine ⟨_, ints_load (by assumption) (by omega) (by omega), ?_⟩
      | refine ⟨(⟨by omega, by omega⟩ : inI64 _), ?_⟩
      | refine ⟨_, fun tm ha => step1_max rfl (ev_tmp ha rfl) (ev_tmp ha rfl), ?_⟩
      | refine ⟨_, fun tm ha => step1_min rfl (ev_tmp ha rfl) (ev_tmp ha rfl), ?_⟩
      | refine CV.wide callees rfl [0, 1, 2, 3, 4, 5, 6, 7, 8, 10, 11, 12, 13, 14, 9, 15, 16, 17, 18] (by kernel_rfl) ?_
      | (refine (first_spec (by first | exact Nat.le_refl _ | assumption) hv (by omega) hs).mono ?_; rintro r H' ⟨rfl, rfl⟩)
      | (refine (last_spec (by first | exact Nat.le_refl _ | assumption) hv (by omega) hs).mono ?_; rintro r H' ⟨rfl, rfl⟩)
      | (refine ⟨fun _ => ?_, fun _ => ?_⟩ <;> first | (exfalso; omega) | skip)
      | fail
    all_goals (refine ⟨rfl, ?_, rfl⟩; rw [hF]; first | rw [if_pos (show row < lev xs xs[i]!.toNat by omega)] | rw [if_neg (show ¬ row < lev xs xs[i]!.toNat by omega), if_pos (⟨by omega, by omega⟩ : row = lev xs xs[i]!.toNat ∧ fst xs xs[i]! < lst xs xs[i]!)] | rw [if_neg (show ¬ row < lev xs xs[i]!.toNat by omega), if_neg (show ¬ (row = lev xs xs[i]!.toNat ∧ fst xs xs[i]! < lst xs xs[i]!) by omega), if_pos (show lev xs xs[i]!.toNat < row by omega)] | rw [if_neg (show ¬ row < lev xs xs[i]!.toNat by omega), if_neg (show ¬ (row = lev xs xs[i]!.toNat ∧ fst xs xs[i]! < lst xs xs[i]!) by omega), if_neg (show ¬ lev xs xs[i]!.toNat < row by omega)] | rw [if_neg (show ¬ row < lev xs xs[i]!.toNat by omega), if_neg (show ¬ (row = lev xs xs[i]!.toNat ∧ fst xs xs[i]! < lst xs xs[i]!) by omega)])
end Go.Proofs.YteocbhefhobehaaDoor

/- The reference's drawing. -/
namespace Go.Proofs.YteocbhefhobehaaDoor
open Go.AI
theorem deepN_at (xs : List Int) {k : Nat} : deepN xs (k + 1) = max (deepN xs k) (lev xs k) := rfl
/-- The text in a row, when some packets have been drawn. -/
def txN (xs : List Int) (r i : Nat) : List Int := if i < xs.length then drwN xs r ++ (rowL xs ((r : Int) + 1)).take (2 * i) else drwN xs (r + 1)
set_option maxHeartbeats 4000000 in
set_option maxRecDepth 100000 in
theorem refdraw_spec {B : Nat} {v : Value} {H : Heap} {xs : List Int} (hB : B ≤ H.n) (hv : Ints H v xs) (hc : check xs = 0) :
    CallB Tryd.prog B 99 [v] H (fun r H' => r = .string (strOf (drw xs)) ∧ Keep H H') := by
  have hlx := check_len hc
  have hk9 := bk_le9 hc
  have hul := levs_length xs (bk xs)
  refine CV.enter callees false rfl Tryd.func99 rfl ok99 (Nat.le_of_ble_eq_true rfl) hB ?_
  repeat' first
    | refine CO.cons rfl ?_
    | refine CO.nil ?_
    | refine CV.seq ?_
    | refine CV.region callees ?_
    | refine CV.cond ?_
    | refine CV.block ?_
    | refine CV.skip ?_
    | refine CV.exit ?_
    | refine CV.ret ?_
    | refine CV.scope ?_
    | refine CV.draw callees rfl ?_
    | refine CH.cons rfl ?_
    | refine CH.nil ?_
    | refine CO.consG rfl ?_
    | refine CH.consG rfl ?_
    | refine CG.cons rfl ?_
    | refine CG.nil ?_
    | refine CG.consG rfl ?_
    | refine ⟨(rfl : plain _ = true), ?_⟩
    | refine ⟨(rfl : nilOk _ = some _), ?_⟩
    | refine ⟨_, ints_len (by assumption), ?_⟩
    | refine ⟨_, ints_addr (by assumption) (by omega) (by omega), ?_⟩
    | refine ⟨_, ints_load (by assumption) (by omega) (by omega), ?_⟩
    | refine ⟨(⟨by omega, by omega⟩ : inI64 _), ?_⟩
    | refine ⟨_, fun tm ha => step1_max rfl (ev_tmp ha rfl) (ev_tmp ha rfl), ?_⟩
    | refine ⟨_, fun tm ha => step1_min rfl (ev_tmp ha rfl) (ev_tmp ha rfl), ?_⟩
    | (refine ⟨fun _ => ?_, fun _ => ?_⟩ <;> first | (exfalso; omega) | skip)
    | fail
  refine (reflevels_spec hB hv hc).mono ?_
  rintro l H2 ⟨hlo, k2⟩
  have hl : Ints H2 l (levs xs (bk xs)) := hlo.row
  have hB2 := Nat.le_trans hB k2.1
  have hv2 := hv.keep k2
  repeat' first
    | refine CO.cons rfl ?_
    | refine CO.nil ?_
    | refine CV.seq ?_
    | refine CV.region callees ?_
    | refine CV.cond ?_
    | refine CV.block ?_
    | refine CV.skip ?_
    | refine CV.exit ?_
    | refine CV.ret ?_
    | refine CV.scope ?_
    | refine CV.draw callees rfl ?_
    | refine CH.cons rfl ?_
    | refine CH.nil ?_
    | refine CO.consG rfl ?_
    | refine CH.consG rfl ?_
    | refine CG.cons rfl ?_
    | refine CG.nil ?_
    | refine CG.consG rfl ?_
    | refine ⟨(rfl : plain _ = true), ?_⟩
    | refine ⟨(rfl : nilOk _ = some _), ?_⟩
    | refine ⟨_, ints_len (by assumption), ?_⟩
    | refine ⟨_, ints_addr (by assumption) (by omega) (by omega), ?_⟩
    | refine ⟨_, ints_load (by assumption) (by omega) (by omega), ?_⟩
    | refine ⟨(⟨by omega, by omega⟩ : inI64 _), ?_⟩
    | refine ⟨_, fun tm ha => step1_max rfl (ev_tmp ha rfl) (ev_tmp ha rfl), ?_⟩
    | refine ⟨_, fun tm ha => step1_min rfl (ev_tmp ha rfl) (ev_tmp ha rfl), ?_⟩
    | (refine ⟨fun _ => ?_, fun _ => ?_⟩ <;> first | (exfalso; omega) | skip)
    | fail
  refine CV.loopc ?_
  refine WCv.rounds callees false (α := Nat) (fun i => [(0, v), (3, l), (4, .int .i64 (deepN xs i)), (5, .int .i64 i)]) (fun i Hz => Hz = H2 ∧ i ≤ bk xs) (fun i => bk xs - i) (0) (by repeat' first | exact trivial | refine ⟨rfl, ?_⟩ | refine ⟨slot_int (by (try simp only [Int.toNat_natCast]); omega), ?_⟩) ?_ ?_
  · exact ⟨rfl, by omega⟩
  rintro i Hx ⟨rfl, hi⟩ hBx
  have hdb := deepN_le xs i
  by_cases hi2 : i < bk xs
  · have hat : (levs xs (bk xs))[(i : Int).toNat]! = lev xs i := levs_at xs hi2
    repeat' first
      | refine CO.cons rfl ?_
      | refine CO.nil ?_
      | refine CV.seq ?_
      | refine CV.region callees ?_
      | refine CV.cond ?_
      | refine CV.block ?_
      | refine CV.skip ?_
      | refine CV.exit ?_
      | refine CV.ret ?_
      | refine CV.scope ?_
      | refine CV.draw callees rfl ?_
      | refine CH.cons rfl ?_
      | refine CH.nil ?_
      | refine CO.consG rfl ?_
      | refine CH.consG rfl ?_
      | refine CG.cons rfl ?_
      | refine CG.nil ?_
      | refine CG.consG rfl ?_
      | refine ⟨(rfl : plain _ = true), ?_⟩
      | refine ⟨(rfl : nilOk _ = some _), ?_⟩
      | refine ⟨_, ints_len (by assumption), ?_⟩
      | refine ⟨_, ints_addr (by assumption) (by omega) (by omega), ?_⟩
      | refine ⟨_, ints_load (by assumption) (by omega) (by omega), ?_⟩
      | refine ⟨(⟨by omega, by omega⟩ : inI64 _), ?_⟩
      | refine ⟨_, fun tm ha => step1_max rfl (ev_tmp ha rfl) (ev_tmp ha rfl), ?_⟩
      | refine ⟨_, fun tm ha => step1_min rfl (ev_tmp ha rfl) (ev_tmp ha rfl), ?_⟩
      | (refine ⟨fun _ => ?_, fun _ => ?_⟩ <;> first | (exfalso; omega) | skip)
      | fail
    refine ⟨i + 1, ⟨rfl, rfl, (by rw [hat, deepN_at]; exact rfl), rfl, trivial⟩, by (try dsimp only); omega, rfl, by omega⟩
  · have hib : i = bk xs := by omega
    subst hib
    obtain ⟨d, hd⟩ : ∃ d : Nat, deepN xs (bk xs) = d := ⟨(deepN xs (bk xs)).toNat, by omega⟩
    rw [hd]
    repeat' first
      | refine CO.cons rfl ?_
      | refine CO.nil ?_
      | refine CV.seq ?_
      | refine CV.region callees ?_
      | refine CV.cond ?_
      | refine CV.block ?_
      | refine CV.skip ?_
      | refine CV.exit ?_
      | refine CV.ret ?_
      | refine CV.scope ?_
      | refine CV.draw callees rfl ?_
      | refine CH.cons rfl ?_
      | refine CH.nil ?_
      | refine CO.consG rfl ?_
      | refine CH.consG rfl ?_
      | refine CG.cons rfl ?_
      | refine CG.nil ?_
      | refine CG.consG rfl ?_
      | refine ⟨(rfl : plain _ = true), ?_⟩
      | refine ⟨(rfl : nilOk _ = some _), ?_⟩
      | refine ⟨_, ints_len (by assumption), ?_⟩
      | refine ⟨_, ints_addr (by assumption) (by omega) (by omega), ?_⟩
      | refine ⟨_, ints_load (by assumption) (by omega) (by omega), ?_⟩
      | refine ⟨(⟨by omega, by omega⟩ : inI64 _), ?_⟩
      | refine ⟨_, fun tm ha => step1_max rfl (ev_tmp ha rfl) (ev_tmp ha rfl), ?_⟩
      | refine ⟨_, fun tm ha => step1_min rfl (ev_tmp ha rfl) (ev_tmp ha rfl), ?_⟩
      | (refine ⟨fun _ => ?_, fun _ => ?_⟩ <;> first | (exfalso; omega) | skip)
      | fail
    refine CV.loopc ?_
    refine WCv.rounds callees false (α := Value × Nat) (fun (t, r) => [(0, v), (3, l), (4, .int .i64 d), (6, t), (7, .int .i64 ((r : Int) + 1))]) (fun (t, r) Hz => r ≤ d + 1 ∧ Keep Hx Hz ∧ Own 5 Hz t ((drwN xs r).map V8) Hx.n) (fun (t, r) => d + 1 - r) (.slice none 0 0, 0) (by repeat' first | exact trivial | refine ⟨rfl, ?_⟩ | refine ⟨slot_int (by (try simp only [Int.toNat_natCast]); omega), ?_⟩) ?_ ?_
    · exact ⟨by omega, Keep.refl _, .inl ⟨rfl, rfl⟩⟩
    rintro ⟨t, r⟩ Hy ⟨hr, hky, hty⟩ hBy
    have hll := drwN_len xs r
    have hmul : r * (2 * xs.length - 1 + 1) ≤ 10 * 18 := Nat.mul_le_mul (by omega) (by omega)
    have hrl := rowL_len xs ((r : Int) + 1)
    by_cases hr2 : r < d + 1
    · repeat' first
        | refine CO.cons rfl ?_
        | refine CO.nil ?_
        | refine CV.seq ?_
        | refine CV.region callees ?_
        | refine CV.cond ?_
        | refine CV.block ?_
        | refine CV.skip ?_
        | refine CV.exit ?_
        | refine CV.ret ?_
        | refine CV.scope ?_
        | refine CV.draw callees rfl ?_
        | refine CH.cons rfl ?_
        | refine CH.nil ?_
        | refine CO.consG rfl ?_
        | refine CH.consG rfl ?_
        | refine CG.cons rfl ?_
        | refine CG.nil ?_
        | refine CG.consG rfl ?_
        | refine ⟨(rfl : plain _ = true), ?_⟩
        | refine ⟨(rfl : nilOk _ = some _), ?_⟩
        | refine ⟨_, ints_len (by assumption), ?_⟩
        | refine ⟨_, ints_addr (by assumption) (by omega) (by omega), ?_⟩
        | refine ⟨_, ints_load (by assumption) (by omega) (by omega), ?_⟩
        | refine ⟨(⟨by omega, by omega⟩ : inI64 _), ?_⟩
        | refine ⟨_, fun tm ha => step1_max rfl (ev_tmp ha rfl) (ev_tmp ha rfl), ?_⟩
        | refine ⟨_, fun tm ha => step1_min rfl (ev_tmp ha rfl) (ev_tmp ha rfl), ?_⟩
        | (refine ⟨fun _ => ?_, fun _ => ?_⟩ <;> first | (exfalso; omega) | skip)
        | fail
      refine CV.loopc ?_
      refine WCv.rounds callees false (α := Value × Nat) (fun (t, i) => [(0, v), (3, l), (4, .int .i64 d), (6, t), (7, .int .i64 ((r : Int) + 1)), (8, .int .i64 i)]) (fun (t, i) Hz => i ≤ xs.length ∧ Keep Hx Hz ∧ Own 5 Hz t ((txN xs r i).map V8) Hx.n) (fun (t, i) => xs.length - i) (t, 0) (by repeat' first | exact trivial | refine ⟨rfl, ?_⟩ | refine ⟨slot_int (by (try simp only [Int.toNat_natCast]); omega), ?_⟩) ?_ ?_
      · exact ⟨by omega, hky, by
          show Own 5 Hy t ((txN xs r 0).map V8) Hx.n
          rw [txN, if_pos (by omega)]; simpa using hty⟩
      rintro ⟨t, i⟩ Hz ⟨hin, hkz, htz⟩ hBz
      have hvz := hv2.keep hkz
      have hlz := hl.keep hkz
      by_cases hi3 : i < xs.length
      · rw [txN, if_pos hi3] at htz
        repeat' first
          | refine CO.cons rfl ?_
          | refine CO.nil ?_
          | refine CV.seq ?_
          | refine CV.region callees ?_
          | refine CV.cond ?_
          | refine CV.block ?_
          | refine CV.skip ?_
          | refine CV.exit ?_
          | refine CV.ret ?_
          | refine CV.scope ?_
          | refine CV.draw callees rfl ?_
          | refine CH.cons rfl ?_
          | refine CH.nil ?_
          | refine CO.consG rfl ?_
          | refine CH.consG rfl ?_
          | refine CG.cons rfl ?_
          | refine CG.nil ?_
          | refine CG.consG rfl ?_
          | refine ⟨(rfl : plain _ = true), ?_⟩
          | refine ⟨(rfl : nilOk _ = some _), ?_⟩
          | refine ⟨_, ints_len (by assumption), ?_⟩
          | refine ⟨_, ints_addr (by assumption) (by omega) (by omega), ?_⟩
          | refine ⟨_, ints_load (by assumption) (by omega) (by omega), ?_⟩
          | refine ⟨(⟨by omega, by omega⟩ : inI64 _), ?_⟩
          | refine ⟨_, fun tm ha => step1_max rfl (ev_tmp ha rfl) (ev_tmp ha rfl), ?_⟩
          | refine ⟨_, fun tm ha => step1_min rfl (ev_tmp ha rfl) (ev_tmp ha rfl), ?_⟩
          | (refine ⟨fun _ => ?_, fun _ => ?_⟩ <;> first | (exfalso; omega) | skip)
          | fail
        refine (bar_spec hBz hvz hc hlz hi3 (by omega)).mono ?_
        rintro q H5 ⟨rfl, rfl⟩
        repeat' first
          | refine CO.cons rfl ?_
          | refine CO.nil ?_
          | refine CV.seq ?_
          | refine CV.region callees ?_
          | refine CV.cond ?_
          | refine CV.block ?_
          | refine CV.skip ?_
          | refine CV.exit ?_
          | refine CV.ret ?_
          | refine CV.scope ?_
          | refine CV.draw callees rfl ?_
          | refine CH.cons rfl ?_
          | refine CH.nil ?_
          | refine CO.consG rfl ?_
          | refine CH.consG rfl ?_
          | refine CG.cons rfl ?_
          | refine CG.nil ?_
          | refine CG.consG rfl ?_
          | refine ⟨(rfl : plain _ = true), ?_⟩
          | refine ⟨(rfl : nilOk _ = some _), ?_⟩
          | refine ⟨_, ints_len (by assumption), ?_⟩
          | refine ⟨_, ints_addr (by assumption) (by omega) (by omega), ?_⟩
          | refine ⟨_, ints_load (by assumption) (by omega) (by omega), ?_⟩
          | refine ⟨(⟨by omega, by omega⟩ : inI64 _), ?_⟩
          | refine ⟨_, fun tm ha => step1_max rfl (ev_tmp ha rfl) (ev_tmp ha rfl), ?_⟩
          | refine ⟨_, fun tm ha => step1_min rfl (ev_tmp ha rfl) (ev_tmp ha rfl), ?_⟩
          | refine ⟨_, _, build_one un93 one5 rfl, ?_⟩
          | (refine ⟨fun _ => ?_, fun _ => ?_⟩ <;> first | (exfalso; omega) | skip)
          | fail
        refine bytes_ask htz hkz.1 hBx (by simp; omega) ?_
        intro t2 H6 ht6 kb6 hf6
        have k6 := kb6.keep hkz fun c hc => (htz.lt hc).1
        have hv6 := hv2.keep k6
        have hl6 := hl.keep k6
        have e1 : (rowL xs ((r : Int) + 1)).take (2 * i + 1) = (rowL xs ((r : Int) + 1)).take (2 * i) ++ [ch xs ((r : Int) + 1) (2 * (i : Int))] := by
          rw [rowL_take (by omega)]; rfl
        rw [List.append_assoc, ← e1] at ht6
        repeat' first
          | refine CO.cons rfl ?_
          | refine CO.nil ?_
          | refine CV.seq ?_
          | refine CV.region callees ?_
          | refine CV.cond ?_
          | refine CV.block ?_
          | refine CV.skip ?_
          | refine CV.exit ?_
          | refine CV.ret ?_
          | refine CV.scope ?_
          | refine CV.draw callees rfl ?_
          | refine CH.cons rfl ?_
          | refine CH.nil ?_
          | refine CO.consG rfl ?_
          | refine CH.consG rfl ?_
          | refine CG.cons rfl ?_
          | refine CG.nil ?_
          | refine CG.consG rfl ?_
          | refine ⟨(rfl : plain _ = true), ?_⟩
          | refine ⟨(rfl : nilOk _ = some _), ?_⟩
          | refine ⟨_, ints_len (by assumption), ?_⟩
          | refine ⟨_, ints_addr (by assumption) (by omega) (by omega), ?_⟩
          | refine ⟨_, ints_load (by assumption) (by omega) (by omega), ?_⟩
          | refine ⟨(⟨by omega, by omega⟩ : inI64 _), ?_⟩
          | refine ⟨_, fun tm ha => step1_max rfl (ev_tmp ha rfl) (ev_tmp ha rfl), ?_⟩
          | refine ⟨_, fun tm ha => step1_min rfl (ev_tmp ha rfl) (ev_tmp ha rfl), ?_⟩
          | (refine ⟨fun _ => ?_, fun _ => ?_⟩ <;> first | (exfalso; omega) | skip)
          | fail
        · rename_i h1 h2
          repeat' first
            | refine CO.cons rfl ?_
            | refine CO.nil ?_
            | refine CV.seq ?_
            | refine CV.region callees ?_
            | refine CV.cond ?_
            | refine CV.block ?_
            | refine CV.skip ?_
            | refine CV.exit ?_
            | refine CV.ret ?_
            | refine CV.scope ?_
            | refine CV.draw callees rfl ?_
            | refine CH.cons rfl ?_
            | refine CH.nil ?_
            | refine CO.consG rfl ?_
            | refine CH.consG rfl ?_
            | refine CG.cons rfl ?_
            | refine CG.nil ?_
            | refine CG.consG rfl ?_
            | refine ⟨(rfl : plain _ = true), ?_⟩
            | refine ⟨(rfl : nilOk _ = some _), ?_⟩
            | refine ⟨_, ints_len (by assumption), ?_⟩
            | refine ⟨_, ints_addr (by assumption) (by omega) (by omega), ?_⟩
            | refine ⟨_, ints_load (by assumption) (by omega) (by omega), ?_⟩
            | refine ⟨(⟨by omega, by omega⟩ : inI64 _), ?_⟩
            | refine ⟨_, fun tm ha => step1_max rfl (ev_tmp ha rfl) (ev_tmp ha rfl), ?_⟩
            | refine ⟨_, fun tm ha => step1_min rfl (ev_tmp ha rfl) (ev_tmp ha rfl), ?_⟩
            | refine ⟨_, _, build_one un93 one5 rfl, ?_⟩
            | (refine ⟨fun _ => ?_, fun _ => ?_⟩ <;> first | (exfalso; omega) | skip)
            | fail
          refine bytes_ask ht6 k6.1 hBx (by simp; omega) ?_
          intro t3 H7 ht7 kb7 hf7
          have k7 := kb7.keep k6 fun c hc => (ht6.lt hc).1
          repeat' first
            | refine CO.cons rfl ?_
            | refine CO.nil ?_
            | refine CV.seq ?_
            | refine CV.region callees ?_
            | refine CV.cond ?_
            | refine CV.block ?_
            | refine CV.skip ?_
            | refine CV.exit ?_
            | refine CV.ret ?_
            | refine CV.scope ?_
            | refine CV.draw callees rfl ?_
            | refine CH.cons rfl ?_
            | refine CH.nil ?_
            | refine CO.consG rfl ?_
            | refine CH.consG rfl ?_
            | refine CG.cons rfl ?_
            | refine CG.nil ?_
            | refine CG.consG rfl ?_
            | refine ⟨(rfl : plain _ = true), ?_⟩
            | refine ⟨(rfl : nilOk _ = some _), ?_⟩
            | refine ⟨_, ints_len (by assumption), ?_⟩
            | refine ⟨_, ints_addr (by assumption) (by omega) (by omega), ?_⟩
            | refine ⟨_, ints_load (by assumption) (by omega) (by omega), ?_⟩
            | refine ⟨(⟨by omega, by omega⟩ : inI64 _), ?_⟩
            | refine ⟨_, fun tm ha => step1_max rfl (ev_tmp ha rfl) (ev_tmp ha rfl), ?_⟩
            | refine ⟨_, fun tm ha => step1_min rfl (ev_tmp ha rfl) (ev_tmp ha rfl), ?_⟩
            | (refine ⟨fun _ => ?_, fun _ => ?_⟩ <;> first | (exfalso; omega) | skip)
            | fail
          refine ⟨(t3, i + 1), (by repeat' first | exact trivial | refine ⟨rfl, ?_⟩ | refine ⟨slot_int (by (try simp only [Int.toNat_natCast]); omega), ?_⟩), (by (try dsimp only); omega), ?_⟩
          refine ⟨by omega, k7, ?_⟩
          rw [txN, if_neg (by omega), drwN]
          rw [List.take_of_length_le (by omega), List.append_assoc] at ht7
          exact ht7
        · rename_i h1 h2
          have hodd := ch_odd (xs := xs) (row := (r : Int) + 1) (i := i)
          have e2 : (rowL xs ((r : Int) + 1)).take (2 * (i + 1)) = (rowL xs ((r : Int) + 1)).take (2 * i + 1) ++ [ch xs ((r : Int) + 1) (2 * (i : Int) + 1)] := by
            rw [show 2 * (i + 1) = 2 * i + 1 + 1 by omega, rowL_take (by omega)]; rfl
          refine (over_spec (Nat.le_trans hBx k6.1) hv6 hc hl6).mono ?_
          rintro q H8 ⟨rfl, rfl⟩
          cases hO : ovr xs ((r : Int) + 1) i (i + 1) (bk xs) with
          | true =>
            rw [hO, if_pos rfl] at hodd
            repeat' first
              | refine CO.cons rfl ?_
              | refine CO.nil ?_
              | refine CV.seq ?_
              | refine CV.region callees ?_
              | refine CV.cond ?_
              | refine CV.block ?_
              | refine CV.skip ?_
              | refine CV.exit ?_
              | refine CV.ret ?_
              | refine CV.scope ?_
              | refine CV.draw callees rfl ?_
              | refine CH.cons rfl ?_
              | refine CH.nil ?_
              | refine CO.consG rfl ?_
              | refine CH.consG rfl ?_
              | refine CG.cons rfl ?_
              | refine CG.nil ?_
              | refine CG.consG rfl ?_
              | refine ⟨(rfl : plain _ = true), ?_⟩
              | refine ⟨(rfl : nilOk _ = some _), ?_⟩
              | refine ⟨_, ints_len (by assumption), ?_⟩
              | refine ⟨_, ints_addr (by assumption) (by omega) (by omega), ?_⟩
              | refine ⟨_, ints_load (by assumption) (by omega) (by omega), ?_⟩
              | refine ⟨(⟨by omega, by omega⟩ : inI64 _), ?_⟩
              | refine ⟨_, fun tm ha => step1_max rfl (ev_tmp ha rfl) (ev_tmp ha rfl), ?_⟩
              | refine ⟨_, fun tm ha => step1_min rfl (ev_tmp ha rfl) (ev_tmp ha rfl), ?_⟩
              | refine ⟨_, _, build_one un93 one5 rfl, ?_⟩
              | (refine ⟨fun _ => ?_, fun _ => ?_⟩ <;> first | (exfalso; omega) | skip)
              | fail
            refine bytes_ask ht6 k6.1 hBx (by simp; omega) ?_
            intro t3 H7 ht7 kb7 hf7
            have k7 := kb7.keep k6 fun c hc => (ht6.lt hc).1
            repeat' first
              | refine CO.cons rfl ?_
              | refine CO.nil ?_
              | refine CV.seq ?_
              | refine CV.region callees ?_
              | refine CV.cond ?_
              | refine CV.block ?_
              | refine CV.skip ?_
              | refine CV.exit ?_
              | refine CV.ret ?_
              | refine CV.scope ?_
              | refine CV.draw callees rfl ?_
              | refine CH.cons rfl ?_
              | refine CH.nil ?_
              | refine CO.consG rfl ?_
              | refine CH.consG rfl ?_
              | refine CG.cons rfl ?_
              | refine CG.nil ?_
              | refine CG.consG rfl ?_
              | refine ⟨(rfl : plain _ = true), ?_⟩
              | refine ⟨(rfl : nilOk _ = some _), ?_⟩
              | refine ⟨_, ints_len (by assumption), ?_⟩
              | refine ⟨_, ints_addr (by assumption) (by omega) (by omega), ?_⟩
              | refine ⟨_, ints_load (by assumption) (by omega) (by omega), ?_⟩
              | refine ⟨(⟨by omega, by omega⟩ : inI64 _), ?_⟩
              | refine ⟨_, fun tm ha => step1_max rfl (ev_tmp ha rfl) (ev_tmp ha rfl), ?_⟩
              | refine ⟨_, fun tm ha => step1_min rfl (ev_tmp ha rfl) (ev_tmp ha rfl), ?_⟩
              | (refine ⟨fun _ => ?_, fun _ => ?_⟩ <;> first | (exfalso; omega) | skip)
              | fail
            refine ⟨(t3, i + 1), (by repeat' first | exact trivial | refine ⟨rfl, ?_⟩ | refine ⟨slot_int (by (try simp only [Int.toNat_natCast]); omega), ?_⟩), (by (try dsimp only); omega), ?_⟩
            refine ⟨by omega, k7, ?_⟩
            rw [txN, if_pos (by omega), e2, hodd, ← List.append_assoc]
            exact ht7
          | false =>
            rw [hO, if_neg (by decide)] at hodd
            repeat' first
              | refine CO.cons rfl ?_
              | refine CO.nil ?_
              | refine CV.seq ?_
              | refine CV.region callees ?_
              | refine CV.cond ?_
              | refine CV.block ?_
              | refine CV.skip ?_
              | refine CV.exit ?_
              | refine CV.ret ?_
              | refine CV.scope ?_
              | refine CV.draw callees rfl ?_
              | refine CH.cons rfl ?_
              | refine CH.nil ?_
              | refine CO.consG rfl ?_
              | refine CH.consG rfl ?_
              | refine CG.cons rfl ?_
              | refine CG.nil ?_
              | refine CG.consG rfl ?_
              | refine ⟨(rfl : plain _ = true), ?_⟩
              | refine ⟨(rfl : nilOk _ = some _), ?_⟩
              | refine ⟨_, ints_len (by assumption), ?_⟩
              | refine ⟨_, ints_addr (by assumption) (by omega) (by omega), ?_⟩
              | refine ⟨_, ints_load (by assumption) (by omega) (by omega), ?_⟩
              | refine ⟨(⟨by omega, by omega⟩ : inI64 _), ?_⟩
              | refine ⟨_, fun tm ha => step1_max rfl (ev_tmp ha rfl) (ev_tmp ha rfl), ?_⟩
              | refine ⟨_, fun tm ha => step1_min rfl (ev_tmp ha rfl) (ev_tmp ha rfl), ?_⟩
              | refine ⟨_, _, build_one un93 one5 rfl, ?_⟩
              | (refine ⟨fun _ => ?_, fun _ => ?_⟩ <;> first | (exfalso; omega) | skip)
              | fail
            refine bytes_ask ht6 k6.1 hBx (by simp; omega) ?_
            intro t3 H7 ht7 kb7 hf7
            have k7 := kb7.keep k6 fun c hc => (ht6.lt hc).1
            repeat' first
              | refine CO.cons rfl ?_
              | refine CO.nil ?_
              | refine CV.seq ?_
              | refine CV.region callees ?_
              | refine CV.cond ?_
              | refine CV.block ?_
              | refine CV.skip ?_
              | refine CV.exit ?_
              | refine CV.ret ?_
              | refine CV.scope ?_
              | refine CV.draw callees rfl ?_
              | refine CH.cons rfl ?_
              | refine CH.nil ?_
              | refine CO.consG rfl ?_
              | refine CH.consG rfl ?_
              | refine CG.cons rfl ?_
              | refine CG.nil ?_
              | refine CG.consG rfl ?_
              | refine ⟨(rfl : plain _ = true), ?_⟩
              | refine ⟨(rfl : nilOk _ = some _), ?_⟩
              | refine ⟨_, ints_len (by assumption), ?_⟩
              | refine ⟨_, ints_addr (by assumption) (by omega) (by omega), ?_⟩
              | refine ⟨_, ints_load (by assumption) (by omega) (by omega), ?_⟩
              | refine ⟨(⟨by omega, by omega⟩ : inI64 _), ?_⟩
              | refine ⟨_, fun tm ha => step1_max rfl (ev_tmp ha rfl) (ev_tmp ha rfl), ?_⟩
              | refine ⟨_, fun tm ha => step1_min rfl (ev_tmp ha rfl) (ev_tmp ha rfl), ?_⟩
              | (refine ⟨fun _ => ?_, fun _ => ?_⟩ <;> first | (exfalso; omega) | skip)
              | fail
            refine ⟨(t3, i + 1), (by repeat' first | exact trivial | refine ⟨rfl, ?_⟩ | refine ⟨slot_int (by (try simp only [Int.toNat_natCast]); omega), ?_⟩), (by (try dsimp only); omega), ?_⟩
            refine ⟨by omega, k7, ?_⟩
            rw [txN, if_pos (by omega), e2, hodd, ← List.append_assoc]
            exact ht7
      · rw [txN, if_neg hi3] at htz
        repeat' first
          | refine CO.cons rfl ?_
          | refine CO.nil ?_
          | refine CV.seq ?_
          | refine CV.region callees ?_
          | refine CV.cond ?_
          | refine CV.block ?_
          | refine CV.skip ?_
          | refine CV.exit ?_
          | refine CV.ret ?_
          | refine CV.scope ?_
          | refine CV.draw callees rfl ?_
          | refine CH.cons rfl ?_
          | refine CH.nil ?_
          | refine CO.consG rfl ?_
          | refine CH.consG rfl ?_
          | refine CG.cons rfl ?_
          | refine CG.nil ?_
          | refine CG.consG rfl ?_
          | refine ⟨(rfl : plain _ = true), ?_⟩
          | refine ⟨(rfl : nilOk _ = some _), ?_⟩
          | refine ⟨_, ints_len (by assumption), ?_⟩
          | refine ⟨_, ints_addr (by assumption) (by omega) (by omega), ?_⟩
          | refine ⟨_, ints_load (by assumption) (by omega) (by omega), ?_⟩
          | refine ⟨(⟨by omega, by omega⟩ : inI64 _), ?_⟩
          | refine ⟨_, fun tm ha => step1_max rfl (ev_tmp ha rfl) (ev_tmp ha rfl), ?_⟩
          | refine ⟨_, fun tm ha => step1_min rfl (ev_tmp ha rfl) (ev_tmp ha rfl), ?_⟩
          | (refine ⟨fun _ => ?_, fun _ => ?_⟩ <;> first | (exfalso; omega) | skip)
          | fail
        refine ⟨(t, r + 1), (by repeat' first | exact trivial | refine ⟨rfl, ?_⟩ | refine ⟨slot_int (by (try simp only [Int.toNat_natCast]); omega), ?_⟩), (by (try dsimp only); omega), ?_⟩
        exact ⟨by omega, hkz, htz⟩
    · have hne : (drwN xs r).map V8 ≠ [] := fun h => by
        have h2 := congrArg List.length h
        rw [List.length_map, hll] at h2
        have h3 : 1 * 1 ≤ r * (2 * xs.length - 1 + 1) := Nat.mul_le_mul (by omega) (by omega)
        simp at h2; omega
      repeat' first
        | refine CO.cons rfl ?_
        | refine CO.nil ?_
        | refine CV.seq ?_
        | refine CV.region callees ?_
        | refine CV.cond ?_
        | refine CV.block ?_
        | refine CV.skip ?_
        | refine CV.exit ?_
        | refine CV.ret ?_
        | refine CV.scope ?_
        | refine CV.draw callees rfl ?_
        | refine CH.cons rfl ?_
        | refine CH.nil ?_
        | refine CO.consG rfl ?_
        | refine CH.consG rfl ?_
        | refine CG.cons rfl ?_
        | refine CG.nil ?_
        | refine CG.consG rfl ?_
        | refine ⟨(rfl : plain _ = true), ?_⟩
        | refine ⟨(rfl : nilOk _ = some _), ?_⟩
        | refine ⟨_, ints_len (by assumption), ?_⟩
        | refine ⟨_, ints_addr (by assumption) (by omega) (by omega), ?_⟩
        | refine ⟨_, ints_load (by assumption) (by omega) (by omega), ?_⟩
        | refine ⟨(⟨by omega, by omega⟩ : inI64 _), ?_⟩
        | refine ⟨_, fun tm ha => step1_max rfl (ev_tmp ha rfl) (ev_tmp ha rfl), ?_⟩
        | refine ⟨_, fun tm ha => step1_min rfl (ev_tmp ha rfl) (ev_tmp ha rfl), ?_⟩
        | refine ⟨_, fun tm ha => step1_convStr rfl (ev_tmp ha rfl) (own_plain hty hne) (conv_str un93 un9 u8_5 hty), ?_⟩
        | (refine ⟨fun _ => ?_, fun _ => ?_⟩ <;> first | (exfalso; omega) | skip)
        | fail
      refine ⟨rfl, ?_, k2.trans hky⟩
      unfold drw
      rw [hd, show r = d + 1 by omega]
      rfl
set_option maxRecDepth 100000 in
theorem refDraw_spec {B : Nat} {v : Value} {H : Heap} {xs : List Int} (hB : B ≤ H.n) (hv : Ints H v xs) :
    CallB Tryd.prog B 52 [v] H (fun r H' => r = .tuple #[.string (strOf (if check xs = 0 then drw xs else [])), .int .i64 (check xs)] ∧ Keep H H') := by
  refine CV.enter callees false rfl Tryd.func52 rfl ok52 (Nat.le_of_ble_eq_true rfl) hB ?_
  repeat' first
    | refine CO.cons rfl ?_
    | refine CO.nil ?_
    | refine CV.seq ?_
    | refine CV.region callees ?_
    | refine CV.cond ?_
    | refine CV.block ?_
    | refine CV.skip ?_
    | refine CV.exit ?_
    | refine CV.ret ?_
    | refine CV.scope ?_
    | refine CV.draw callees rfl ?_
    | refine CH.cons rfl ?_
    | refine CH.nil ?_
    | refine CO.consG rfl ?_
    | refine CH.consG rfl ?_
    | refine CG.cons rfl ?_
    | refine CG.nil ?_
    | refine CG.consG rfl ?_
    | refine ⟨(rfl : plain _ = true), ?_⟩
    | refine ⟨(rfl : nilOk _ = some _), ?_⟩
    | refine ⟨_, ints_len (by assumption), ?_⟩
    | refine ⟨_, ints_addr (by assumption) (by omega) (by omega), ?_⟩
    | refine ⟨_, ints_load (by assumption) (by omega) (by omega), ?_⟩
    | refine ⟨(⟨by omega, by omega⟩ : inI64 _), ?_⟩
    | refine ⟨_, fun tm ha => step1_max rfl (ev_tmp ha rfl) (ev_tmp ha rfl), ?_⟩
    | refine ⟨_, fun tm ha => step1_min rfl (ev_tmp ha rfl) (ev_tmp ha rfl), ?_⟩
    | (refine ⟨fun _ => ?_, fun _ => ?_⟩ <;> first | (exfalso; omega) | skip)
    | fail
  refine (refCheck_spec hB hv).mono ?_
  rintro r H1 ⟨rfl, rfl⟩
  repeat' first
    | refine CO.cons rfl ?_
    | refine CO.nil ?_
    | refine CV.seq ?_
    | refine CV.region callees ?_
    | refine CV.cond ?_
    | refine CV.block ?_
    | refine CV.skip ?_
    | refine CV.exit ?_
    | refine CV.ret ?_
    | refine CV.scope ?_
    | refine CV.draw callees rfl ?_
    | refine CH.cons rfl ?_
    | refine CH.nil ?_
    | refine CO.consG rfl ?_
    | refine CH.consG rfl ?_
    | refine CG.cons rfl ?_
    | refine CG.nil ?_
    | refine CG.consG rfl ?_
    | refine ⟨(rfl : plain _ = true), ?_⟩
    | refine ⟨(rfl : nilOk _ = some _), ?_⟩
    | refine ⟨_, ints_len (by assumption), ?_⟩
    | refine ⟨_, ints_addr (by assumption) (by omega) (by omega), ?_⟩
    | refine ⟨_, ints_load (by assumption) (by omega) (by omega), ?_⟩
    | refine ⟨(⟨by omega, by omega⟩ : inI64 _), ?_⟩
    | refine ⟨_, fun tm ha => step1_max rfl (ev_tmp ha rfl) (ev_tmp ha rfl), ?_⟩
    | refine ⟨_, fun tm ha => step1_min rfl (ev_tmp ha rfl) (ev_tmp ha rfl), ?_⟩
    | (refine ⟨fun _ => ?_, fun _ => ?_⟩ <;> first | (exfalso; omega) | skip)
    | fail
  · exact ⟨rfl, by rw [if_neg (by assumption)]; rfl, Keep.refl _⟩
  have hc : check xs = 0 := Classical.not_not.1 (by assumption)
  refine (refdraw_spec hB hv hc).mono ?_
  rintro r H2 ⟨rfl, k2⟩
  repeat' first
    | refine CO.cons rfl ?_
    | refine CO.nil ?_
    | refine CV.seq ?_
    | refine CV.region callees ?_
    | refine CV.cond ?_
    | refine CV.block ?_
    | refine CV.skip ?_
    | refine CV.exit ?_
    | refine CV.ret ?_
    | refine CV.scope ?_
    | refine CV.draw callees rfl ?_
    | refine CH.cons rfl ?_
    | refine CH.nil ?_
    | refine CO.consG rfl ?_
    | refine CH.consG rfl ?_
    | refine CG.cons rfl ?_
    | refine CG.nil ?_
    | refine CG.consG rfl ?_
    | refine ⟨(rfl : plain _ = true), ?_⟩
    | refine ⟨(rfl : nilOk _ = some _), ?_⟩
    | refine ⟨_, ints_len (by assumption), ?_⟩
    | refine ⟨_, ints_addr (by assumption) (by omega) (by omega), ?_⟩
    | refine ⟨_, ints_load (by assumption) (by omega) (by omega), ?_⟩
    | refine ⟨(⟨by omega, by omega⟩ : inI64 _), ?_⟩
    | refine ⟨_, fun tm ha => step1_max rfl (ev_tmp ha rfl) (ev_tmp ha rfl), ?_⟩
    | refine ⟨_, fun tm ha => step1_min rfl (ev_tmp ha rfl) (ev_tmp ha rfl), ?_⟩
    | (refine ⟨fun _ => ?_, fun _ => ?_⟩ <;> first | (exfalso; omega) | skip)
    | fail
  exact ⟨rfl, by rw [if_pos hc, hc], k2⟩
end Go.Proofs.YteocbhefhobehaaDoor

/- Strings as lists of bytes; rows of a text. -/
namespace Go.AI
theorem strOf_size (l : List Int) : (strOf l).size = l.length := by simp [strOf, ByteArray.size]
theorem strOf_extract (l : List Int) (a b : Nat) : (strOf l).extract a b = strOf ((l.take b).drop a) := by
  apply ByteArray.ext
  rw [ByteArray.data_extract]
  apply Array.ext'
  simp only [strOf, Array.toList_extract, List.map_drop, List.map_take]
  rw [List.drop_take]
theorem strOf_append (a b : List Int) : strOf a ++ strOf b = strOf (a ++ b) := by
  apply ByteArray.ext
  simp [strOf]
section
variable {P : Program} {H : Heap} {t : TypeId} {l : List Int}
theorem str_len (ht : P.underlying t = some .string) : alen P H t (.string (strOf l)) = some (.int .i64 l.length) := by
  simp [alen, ht, strOf_size]
theorem str_index (ht : P.underlying t = some .string) (hb : ∀ x ∈ l, 0 ≤ x ∧ x < 256) {i : Int} {k : IntKind} (h0 : 0 ≤ i) (h1 : i < l.length) : aindex P t (.string (strOf l)) (.int k i) = some (.int .u8 l[i.toNat]!) := by
  have hlt : i.toNat < l.length := by omega
  have hm := hb l[i.toNat] (List.getElem_mem hlt)
  have e : (strOf l)[i.toNat]? = some (UInt8.ofNat (l[i.toNat]).toNat) := by
    rw [getElem?_pos _ _ (by rw [strOf_size]; exact hlt)]
    simp [strOf, ByteArray.getElem_eq_getElem_data]
  simp only [aindex, asIdx, ht, e]
  rw [if_pos h0, getElem!_pos l _ hlt]
  congr 2
  simp only [UInt8.toNat_ofNat']
  omega
theorem str_slice (ht : P.underlying t = some .string) {a b : Int} {k j : IntKind} (h0 : 0 ≤ a) (h1 : a ≤ b) (h2 : b ≤ l.length) : aslice P t (.string (strOf l)) (some (some (.int k a))) (some (some (.int j b))) = some (.string (strOf ((l.take b.toNat).drop a.toNat))) := by
  simp only [aslice, ht, bound, strOf_size]
  rw [if_pos ⟨h0, h1, h2⟩, strOf_extract]
theorem str_slice_lo (ht : P.underlying t = some .string) {a : Int} {k : IntKind} (h0 : 0 ≤ a) (h1 : a ≤ l.length) : aslice P t (.string (strOf l)) (some (some (.int k a))) none = some (.string (strOf (l.drop a.toNat))) := by
  simp only [aslice, ht, bound, strOf_size]
  rw [if_pos ⟨h0, h1, Int.le_refl _⟩, strOf_extract, Int.toNat_natCast, List.take_length]
theorem str_slice_hi (ht : P.underlying t = some .string) {b : Int} {j : IntKind} (h1 : 0 ≤ b) (h2 : b ≤ l.length) : aslice P t (.string (strOf l)) none (some (some (.int j b))) = some (.string (strOf (l.take b.toNat))) := by
  simp only [aslice, ht, bound, strOf_size]
  rw [if_pos ⟨by omega, h1, h2⟩, strOf_extract]
  rfl
end
end Go.AI
namespace Go.Proofs.YteocbhefhobehaaDoor
open Go.AI
abbrev VS (l : List Int) : Value := .string (strOf l)
theorem un50 : Tryd.prog.underlying 50 = some (.slice 9) := by kernel_rfl
theorem one9 : oneBB Tryd.prog 9 = some (.string .empty, 16) := by kernel_rfl
theorem sz9 : sizeB Tryd.prog 9 = some 1 := by kernel_rfl
theorem ag9 : isAggB Tryd.prog 9 = some false := by kernel_rfl
theorem strs_len {H : Heap} {v : Value} {ls : List (List Int)} (h : Row H v (ls.map VS)) : alen Tryd.prog H 50 v = some (.int .i64 ls.length) := by
  have := Row.alen h un50; simpa using this
theorem strs_addr {H : Heap} {v : Value} {ls : List (List Int)} (h : Row H v (ls.map VS)) {i : Int} (h0 : 0 ≤ i) (h1 : i < ls.length) : aindexAddr Tryd.prog 50 v (.int .i64 i) = some (elemAt v i.toNat) := Row.addr h un50 sz9 h0 (by simpa using h1)
theorem strs_load {H : Heap} {v : Value} {ls : List (List Int)} (h : Row H v (ls.map VS)) {i : Int} (h0 : 0 ≤ i) (h1 : i < ls.length) : aload Tryd.prog 9 H (elemAt v i.toNat) = some (VS ls[i.toNat]!) := by
  have : i.toNat < ls.length := by omega
  exact Row.load h ag9 (by simp [List.getElem?_map, List.getElem?_eq_getElem this, getElem!_pos, this])
theorem strs_ask {H : Heap} {K : Value → Heap → Prop} {B B0 : Nat} {x : Value} {y : List Int} {l : List (List Int)} (hx : Own 9 H x (l.map VS) B0) (hB0 : B0 ≤ H.n) (hB : B ≤ B0) (hn : l.length < 1000000)
    (hk : ∀ r H', Own 9 H' r ((l ++ [y]).map VS) B0 → KeepBut x H H' → (∀ c, blkOf r = some c → H.n ≤ c) → K r H') :
    ∃ v H' b, aappend Tryd.prog (H.new (.cells [.string (strOf y)] 9 2)) #[50, 50] x (.slice (some ⟨H.n, 0, none⟩) 1 0) = some (v, H', b) ∧ B ≤ b ∧ K v H' :=
  append_ask un50 one9 (by omega) hx hB0 hB (by simpa using hn) fun r H' h => hk r H' (by simpa using h)
/-- The rows of a text that end with a line feed. -/
def rowsF : List Int → List Int → List (List Int)
  | [], _ => []
  | x :: r, cur => if x = 10 then cur :: rowsF r [] else rowsF r (cur ++ [x])
theorem rowsF_len : ∀ (l cur : List Int), (rowsF l cur).length ≤ l.length
  | [], _ => by simp [rowsF]
  | x :: r, cur => by
    rw [rowsF]
    split
    · have := rowsF_len r []; simp; omega
    · have := rowsF_len r (cur ++ [x]); simp; omega
theorem rowsF_one : ∀ (a cur rest : List Int), (∀ x ∈ a, x ≠ 10) → rowsF (a ++ 10 :: rest) cur = (cur ++ a) :: rowsF rest []
  | [], cur, rest, _ => by simp [rowsF]
  | x :: a, cur, rest, h => by
    rw [List.cons_append, rowsF, if_neg (h x (by simp)), rowsF_one a _ rest fun y hy => h y (by simp [hy])]
    simp
theorem rowsF_append : ∀ (a : List Int) (cur b : List Int), (∃ c, a = c ++ [10]) → rowsF (a ++ b) cur = rowsF a cur ++ rowsF b []
  | [], _, _, ⟨c, hc⟩ => by simp at hc
  | x :: a, cur, b, ⟨c, hc⟩ => by
    rw [List.cons_append, rowsF, rowsF]
    by_cases ha : a = []
    · subst ha
      have : x = 10 := by
        cases c with
        | nil => simpa using hc
        | cons y c => simp at hc
      rw [if_pos this, if_pos this]
      simp [rowsF]
    · have hc' : ∃ c, a = c ++ [10] := by
        cases c with
        | nil => simp at hc; exact absurd hc.2 ha
        | cons y c => simp at hc; exact ⟨c, hc.2⟩
      split
      · rw [rowsF_append a [] b hc', List.cons_append]
      · exact rowsF_append a _ b hc'
theorem ch_no10 (xs : List Int) (row c : Int) : ch xs row c ≠ 10 := by
  unfold ch
  split
  · split <;> decide
  · split
    · split <;> decide
    · split
      · split <;> decide
      · split <;> decide
theorem rowsF_drwN (xs : List Int) : ∀ r, rowsF (drwN xs r) [] = (List.range r).map fun (q : Nat) => rowL xs ((q : Int) + 1)
  | 0 => rfl
  | r + 1 => by
    have hno : ∀ x ∈ rowL xs ((r : Int) + 1), x ≠ 10 := fun x hx => by
      simp only [rowL, List.mem_map] at hx
      obtain ⟨c, _, rfl⟩ := hx
      exact ch_no10 _ _ _
    have h1 : rowsF (rowL xs ((r : Int) + 1) ++ [10]) [] = [rowL xs ((r : Int) + 1)] := by
      have := rowsF_one (rowL xs ((r : Int) + 1)) [] [] hno
      simpa [rowsF] using this
    rw [drwN, List.range_succ, List.map_append]
    by_cases hr : r = 0
    · subst hr
      simpa [drwN] using h1
    · obtain ⟨q, rfl⟩ : ∃ q, r = q + 1 := ⟨r - 1, by omega⟩
      rw [rowsF_append _ _ _ ⟨drwN xs q ++ rowL xs ((q : Int) + 1), by rw [drwN]; simp⟩, rowsF_drwN xs (q + 1), h1]
      rfl
theorem drwN_bytes (xs : List Int) : ∀ r, ∀ x ∈ drwN xs r, 0 ≤ x ∧ x < 256
  | 0, x, h => by simp [drwN] at h
  | r + 1, x, h => by
    simp only [drwN, List.mem_append, List.mem_singleton] at h
    rcases h with h | h | h
    · exact drwN_bytes xs r x h
    · simp only [rowL, List.mem_map] at h
      obtain ⟨c, _, rfl⟩ := h
      have := ch_bytes xs ((r : Int) + 1) c
      omega
    · omega
theorem rowL_bytes (xs : List Int) (row : Int) : ∀ x ∈ rowL xs row, 0 ≤ x ∧ x < 256 := fun x h => by
  simp only [rowL, List.mem_map] at h
  obtain ⟨c, _, rfl⟩ := h
  have := ch_bytes xs row c
  omega
set_option maxHeartbeats 1000000 in
set_option maxRecDepth 100000 in
theorem rows_spec {B : Nat} {H : Heap} {l : List Int} (hB : B ≤ H.n) (hb : ∀ x ∈ l, 0 ≤ x ∧ x < 256) (hn : l.length < 100000) :
    CallB Tryd.prog B 78 [VS l] H (fun r H' => Own 9 H' r ((rowsF l []).map VS) H.n ∧ Keep H H') := by
  refine CV.enter callees false rfl Tryd.func78 rfl ok78 (Nat.le_of_ble_eq_true rfl) hB ?_
  repeat' first
    | refine CO.cons rfl ?_
    | refine CO.nil ?_
    | refine CV.seq ?_
    | refine CV.region callees ?_
    | refine CV.cond ?_
    | refine CV.block ?_
    | refine CV.skip ?_
    | refine CV.exit ?_
    | refine CV.ret ?_
    | refine CV.scope ?_
    | refine CV.draw callees rfl ?_
    | refine CH.cons rfl ?_
    | refine CH.nil ?_
    | refine CO.consG rfl ?_
    | refine CH.consG rfl ?_
    | refine CG.cons rfl ?_
    | refine CG.nil ?_
    | refine CG.consG rfl ?_
    | refine ⟨(rfl : plain _ = true), ?_⟩
    | refine ⟨(rfl : nilOk _ = some _), ?_⟩
    | refine ⟨_, ints_len (by assumption), ?_⟩
    | refine ⟨_, ints_addr (by assumption) (by omega) (by omega), ?_⟩
    | refine ⟨_, ints_load (by assumption) (by omega) (by omega), ?_⟩
    | refine ⟨(⟨by omega, by omega⟩ : inI64 _), ?_⟩
    | refine ⟨_, fun tm ha => step1_max rfl (ev_tmp ha rfl) (ev_tmp ha rfl), ?_⟩
    | refine ⟨_, fun tm ha => step1_min rfl (ev_tmp ha rfl) (ev_tmp ha rfl), ?_⟩
    | (refine ⟨fun _ => ?_, fun _ => ?_⟩ <;> first | (exfalso; omega) | skip)
    | fail
  refine CV.loopc ?_
  refine WCv.rounds callees false (α := Value × Nat × Nat × List (List Int)) (fun (o, f, i, rs) => [(0, VS l), (3, o), (4, .int .i64 f), (5, .int .i64 i)]) (fun (o, f, i, rs) Hz => f ≤ i ∧ i ≤ l.length ∧ rs.length ≤ i ∧ Keep H Hz ∧ Own 9 Hz o (rs.map VS) H.n ∧ rowsF l [] = rs ++ rowsF (l.drop i) ((l.take i).drop f)) (fun (o, f, i, rs) => l.length - i) (.slice none 0 0, 0, 0, []) (by repeat' first | exact trivial | refine ⟨rfl, ?_⟩ | refine ⟨slot_int (by (try simp only [Int.toNat_natCast]); omega), ?_⟩) ?_ ?_
  · exact ⟨by omega, by omega, by simp, Keep.refl _, .inl ⟨rfl, rfl⟩, by simp⟩
  rintro ⟨o, f, i, rs⟩ Hx ⟨hf, hi, hrl, hk, ho, hrs⟩ hBx
  by_cases hi2 : i < l.length
  · have hd : l.drop i = l[i]! :: l.drop (i + 1) := by rw [getElem!_pos l i hi2]; exact List.drop_eq_getElem_cons hi2
    rw [hd, rowsF] at hrs
    have hxi : l[(i : Int).toNat]! = l[i]! := rfl
    repeat' first
      | refine CO.cons rfl ?_
      | refine CO.nil ?_
      | refine CV.seq ?_
      | refine CV.region callees ?_
      | refine CV.cond ?_
      | refine CV.block ?_
      | refine CV.skip ?_
      | refine CV.exit ?_
      | refine CV.ret ?_
      | refine CV.scope ?_
      | refine CV.draw callees rfl ?_
      | refine CH.cons rfl ?_
      | refine CH.nil ?_
      | refine CO.consG rfl ?_
      | refine CH.consG rfl ?_
      | refine CG.cons rfl ?_
      | refine CG.nil ?_
      | refine CG.consG rfl ?_
      | refine ⟨(rfl : plain _ = true), ?_⟩
      | refine ⟨(rfl : nilOk _ = some _), ?_⟩
      | refine ⟨_, ints_len (by assumption), ?_⟩
      | refine ⟨_, ints_addr (by assumption) (by omega) (by omega), ?_⟩
      | refine ⟨_, ints_load (by assumption) (by omega) (by omega), ?_⟩
      | refine ⟨(⟨by omega, by omega⟩ : inI64 _), ?_⟩
      | refine ⟨_, fun tm ha => step1_max rfl (ev_tmp ha rfl) (ev_tmp ha rfl), ?_⟩
      | refine ⟨_, fun tm ha => step1_min rfl (ev_tmp ha rfl) (ev_tmp ha rfl), ?_⟩
      | refine ⟨_, str_len un9, ?_⟩
      | refine ⟨_, str_index un9 hb (by omega) (by omega), ?_⟩
      | (refine ⟨fun _ => ?_, fun _ => ?_⟩ <;> first | (exfalso; omega) | skip)
      | fail
    · rename_i h1 h2
      rw [hxi] at h2
      rw [if_pos h2] at hrs
      repeat' first
        | refine CO.cons rfl ?_
        | refine CO.nil ?_
        | refine CV.seq ?_
        | refine CV.region callees ?_
        | refine CV.cond ?_
        | refine CV.block ?_
        | refine CV.skip ?_
        | refine CV.exit ?_
        | refine CV.ret ?_
        | refine CV.scope ?_
        | refine CV.draw callees rfl ?_
        | refine CH.cons rfl ?_
        | refine CH.nil ?_
        | refine CO.consG rfl ?_
        | refine CH.consG rfl ?_
        | refine CG.cons rfl ?_
        | refine CG.nil ?_
        | refine CG.consG rfl ?_
        | refine ⟨(rfl : plain _ = true), ?_⟩
        | refine ⟨(rfl : nilOk _ = some _), ?_⟩
        | refine ⟨_, ints_len (by assumption), ?_⟩
        | refine ⟨_, ints_addr (by assumption) (by omega) (by omega), ?_⟩
        | refine ⟨_, ints_load (by assumption) (by omega) (by omega), ?_⟩
        | refine ⟨(⟨by omega, by omega⟩ : inI64 _), ?_⟩
        | refine ⟨_, fun tm ha => step1_max rfl (ev_tmp ha rfl) (ev_tmp ha rfl), ?_⟩
        | refine ⟨_, fun tm ha => step1_min rfl (ev_tmp ha rfl) (ev_tmp ha rfl), ?_⟩
        | refine ⟨_, str_slice un9 (by omega) (by omega) (by omega), ?_⟩
        | refine ⟨_, _, build_one un50 one9 rfl, ?_⟩
        | (refine ⟨fun _ => ?_, fun _ => ?_⟩ <;> first | (exfalso; omega) | skip)
        | fail
      rw [Int.toNat_natCast, Int.toNat_natCast]
      refine strs_ask ho hk.1 hB (by omega) ?_
      intro o2 H2 ho2 kb2 hf2
      have k2 := kb2.keep hk fun c hc => (ho.lt hc).1
      repeat' first
        | refine CO.cons rfl ?_
        | refine CO.nil ?_
        | refine CV.seq ?_
        | refine CV.region callees ?_
        | refine CV.cond ?_
        | refine CV.block ?_
        | refine CV.skip ?_
        | refine CV.exit ?_
        | refine CV.ret ?_
        | refine CV.scope ?_
        | refine CV.draw callees rfl ?_
        | refine CH.cons rfl ?_
        | refine CH.nil ?_
        | refine CO.consG rfl ?_
        | refine CH.consG rfl ?_
        | refine CG.cons rfl ?_
        | refine CG.nil ?_
        | refine CG.consG rfl ?_
        | refine ⟨(rfl : plain _ = true), ?_⟩
        | refine ⟨(rfl : nilOk _ = some _), ?_⟩
        | refine ⟨_, ints_len (by assumption), ?_⟩
        | refine ⟨_, ints_addr (by assumption) (by omega) (by omega), ?_⟩
        | refine ⟨_, ints_load (by assumption) (by omega) (by omega), ?_⟩
        | refine ⟨(⟨by omega, by omega⟩ : inI64 _), ?_⟩
        | refine ⟨_, fun tm ha => step1_max rfl (ev_tmp ha rfl) (ev_tmp ha rfl), ?_⟩
        | refine ⟨_, fun tm ha => step1_min rfl (ev_tmp ha rfl) (ev_tmp ha rfl), ?_⟩
        | (refine ⟨fun _ => ?_, fun _ => ?_⟩ <;> first | (exfalso; omega) | skip)
        | fail
      refine ⟨(o2, i + 1, i + 1, rs ++ [(l.take i).drop f]), (by repeat' first | exact trivial | refine ⟨rfl, ?_⟩ | refine ⟨slot_int (by (try simp only [Int.toNat_natCast]); omega), ?_⟩), (by (try dsimp only); omega), ?_⟩
      refine ⟨by omega, by omega, by simp; omega, k2, ho2, ?_⟩
      rw [hrs, List.append_assoc, List.drop_of_length_le (l := l.take (i + 1)) (by simp; omega)]
      rfl
    · rename_i h1 h2
      rw [hxi] at h2
      rw [if_neg h2] at hrs
      refine ⟨(o, f, i + 1, rs), (by repeat' first | exact trivial | refine ⟨rfl, ?_⟩ | refine ⟨slot_int (by (try simp only [Int.toNat_natCast]); omega), ?_⟩), (by (try dsimp only); omega), ?_⟩
      refine ⟨by omega, by omega, by omega, hk, ho, ?_⟩
      rw [hrs]
      congr 2
      rw [List.take_add_one, List.getElem?_eq_getElem hi2, getElem!_pos l i hi2]
      simp only [Option.toList_some]
      rw [List.drop_append_of_le_length (by simp; omega)]
  · have : i = l.length := by omega
    subst this
    rw [List.drop_length, rowsF, List.append_nil] at hrs
    repeat' first
      | refine CO.cons rfl ?_
      | refine CO.nil ?_
      | refine CV.seq ?_
      | refine CV.region callees ?_
      | refine CV.cond ?_
      | refine CV.block ?_
      | refine CV.skip ?_
      | refine CV.exit ?_
      | refine CV.ret ?_
      | refine CV.scope ?_
      | refine CV.draw callees rfl ?_
      | refine CH.cons rfl ?_
      | refine CH.nil ?_
      | refine CO.consG rfl ?_
      | refine CH.consG rfl ?_
      | refine CG.cons rfl ?_
      | refine CG.nil ?_
      | refine CG.consG rfl ?_
      | refine ⟨(rfl : plain _ = true), ?_⟩
      | refine ⟨(rfl : nilOk _ = some _), ?_⟩
      | refine ⟨_, ints_len (by assumption), ?_⟩
      | refine ⟨_, ints_addr (by assumption) (by omega) (by omega), ?_⟩
      | refine ⟨_, ints_load (by assumption) (by omega) (by omega), ?_⟩
      | refine ⟨(⟨by omega, by omega⟩ : inI64 _), ?_⟩
      | refine ⟨_, fun tm ha => step1_max rfl (ev_tmp ha rfl) (ev_tmp ha rfl), ?_⟩
      | refine ⟨_, fun tm ha => step1_min rfl (ev_tmp ha rfl) (ev_tmp ha rfl), ?_⟩
      | refine ⟨_, str_len un9, ?_⟩
      | (refine ⟨fun _ => ?_, fun _ => ?_⟩ <;> first | (exfalso; omega) | skip)
      | fail
    refine ⟨by simp only [List.all_cons, List.all_nil, ho.notTuple]; rfl, ?_, hk⟩
    rw [hrs]; exact ho
end Go.Proofs.YteocbhefhobehaaDoor
