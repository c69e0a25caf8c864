/- The chart that the reference draws. -/
import Derived.Test.YthcchjmjblegdaaDoorI4
namespace Go.Proofs.YthcchjmjblegdaaDoor
open Go.AI
set_option maxRecDepth 100000 in
theorem first_spec {B : Nat} {v : Value} {H : Heap} {xs : List Int} {b : Int} (hB : B ≤ H.n) (hv : Ints H v xs) (h9 : xs.length ≤ 9) (hs : Span xs b) :
    CallB Tryd.prog B 112 [v, .int .i64 b] H (fun r H' => r = VI (fst xs b) ∧ H' = H) := by
  have s1 := hs.f0; have s2 := hs.fl; have s3 := hs.ln
  refine CV.enter callees false rfl Tryd.func112 rfl ok112 (Nat.le_of_ble_eq_true rfl) hB ?_
  repeat' first
    | refine CO.cons rfl ?_
    | refine CO.nil ?_
    | refine CV.seq ?_
    | refine CV.region callees ?_
    | refine CV.cond ?_
    | refine CV.block ?_
    | refine CV.skip ?_
    | refine CV.exit ?_
    | refine CV.ret ?_
    | refine CV.scope ?_
    | refine CV.draw callees rfl ?_
    | refine CH.cons rfl ?_
    | refine CH.nil ?_
    | refine CO.consG rfl ?_
    | refine CH.consG rfl ?_
    | refine CG.cons rfl ?_
    | refine CG.nil ?_
    | refine CG.consG rfl ?_
    | refine ⟨(rfl : plain _ = true), ?_⟩
    | refine ⟨(rfl : nilOk _ = some _), ?_⟩
    | refine ⟨_, ints_len (by assumption), ?_⟩
    | refine ⟨_, ints_addr (by assumption) (by omega) (by omega), ?_⟩
    | refine ⟨_, ints_load (by assumption) (by omega) (by omega), ?_⟩
    | refine ⟨(⟨by omega, by omega⟩ : inI64 _), ?_⟩
    | refine ⟨_, fun tm ha => step1_max rfl (ev_tmp ha rfl) (ev_tmp ha rfl), ?_⟩
    | refine ⟨_, fun tm ha => step1_min rfl (ev_tmp ha rfl) (ev_tmp ha rfl), ?_⟩
    | (refine ⟨fun _ => ?_, fun _ => ?_⟩ <;> first | (exfalso; omega) | skip)
    | fail
  refine CV.loopc ?_
  refine WCv.rounds callees false (α := Nat) (fun i => [(0, v), (1, .int .i64 b), (5, .int .i64 i)]) (fun i Hz => Hz = H ∧ (i : Int) ≤ fst xs b) (fun i => (fst xs b).toNat - i) (0) (by repeat' first | exact trivial | refine ⟨rfl, ?_⟩ | refine ⟨slot_int (by (try simp only [Int.toNat_natCast]); omega), ?_⟩) ?_ ?_
  · exact ⟨rfl, by omega⟩
  rintro i Hx ⟨rfl, hi⟩ hBx
  repeat' first
    | refine CO.cons rfl ?_
    | refine CO.nil ?_
    | refine CV.seq ?_
    | refine CV.region callees ?_
    | refine CV.cond ?_
    | refine CV.block ?_
    | refine CV.skip ?_
    | refine CV.exit ?_
    | refine CV.ret ?_
    | refine CV.scope ?_
    | refine CV.draw callees rfl ?_
    | refine CH.cons rfl ?_
    | refine CH.nil ?_
    | refine CO.consG rfl ?_
    | refine CH.consG rfl ?_
    | refine CG.cons rfl ?_
    | refine CG.nil ?_
    | refine CG.consG rfl ?_
    | refine ⟨(rfl : plain _ = true), ?_⟩
    | refine ⟨(rfl : nilOk _ = some _), ?_⟩
    | refine ⟨_, ints_len (by assumption), ?_⟩
    | refine ⟨_, ints_addr (by assumption) (by omega) (by omega), ?_⟩
    | refine ⟨_, ints_load (by assumption) (by omega) (by omega), ?_⟩
    | refine ⟨(⟨by omega, by omega⟩ : inI64 _), ?_⟩
    | refine ⟨_, fun tm ha => step1_max rfl (ev_tmp ha rfl) (ev_tmp ha rfl), ?_⟩
    | refine ⟨_, fun tm ha => step1_min rfl (ev_tmp ha rfl) (ev_tmp ha rfl), ?_⟩
    | (refine ⟨fun _ => ?_, fun _ => ?_⟩ <;> first | (exfalso; omega) | skip)
    | fail
  · rename_i h
    rw [Int.toNat_natCast] at h
    have : (i : Int) ≠ fst xs b := fun e => h (by have := hs.fa; rw [← e, Int.toNat_natCast] at this; exact this)
    refine ⟨(i + 1), (by repeat' first | exact trivial | refine ⟨rfl, ?_⟩ | refine ⟨slot_int (by (try simp only [Int.toNat_natCast]); omega), ?_⟩), (by (try dsimp only); omega), ?_⟩
    exact ⟨rfl, by omega⟩
  · rename_i h
    rw [Int.toNat_natCast] at h
    have := (hs.of i (by omega) (Classical.not_not.1 h)).1
    exact ⟨rfl, by rw [show (i : Int) = fst xs b by omega], rfl⟩
set_option maxRecDepth 100000 in
theorem last_spec {B : Nat} {v : Value} {H : Heap} {xs : List Int} {b : Int} (hB : B ≤ H.n) (hv : Ints H v xs) (h9 : xs.length ≤ 9) (hs : Span xs b) :
    CallB Tryd.prog B 111 [v, .int .i64 b] H (fun r H' => r = VI (lst xs b) ∧ H' = H) := by
  have s1 := hs.f0; have s2 := hs.fl; have s3 := hs.ln
  refine CV.enter callees false rfl Tryd.func111 rfl ok111 (Nat.le_of_ble_eq_true rfl) hB ?_
  repeat' first
    | refine CO.cons rfl ?_
    | refine CO.nil ?_
    | refine CV.seq ?_
    | refine CV.region callees ?_
    | refine CV.cond ?_
    | refine CV.block ?_
    | refine CV.skip ?_
    | refine CV.exit ?_
    | refine CV.ret ?_
    | refine CV.scope ?_
    | refine CV.draw callees rfl ?_
    | refine CH.cons rfl ?_
    | refine CH.nil ?_
    | refine CO.consG rfl ?_
    | refine CH.consG rfl ?_
    | refine CG.cons rfl ?_
    | refine CG.nil ?_
    | refine CG.consG rfl ?_
    | refine ⟨(rfl : plain _ = true), ?_⟩
    | refine ⟨(rfl : nilOk _ = some _), ?_⟩
    | refine ⟨_, ints_len (by assumption), ?_⟩
    | refine ⟨_, ints_addr (by assumption) (by omega) (by omega), ?_⟩
    | refine ⟨_, ints_load (by assumption) (by omega) (by omega), ?_⟩
    | refine ⟨(⟨by omega, by omega⟩ : inI64 _), ?_⟩
    | refine ⟨_, fun tm ha => step1_max rfl (ev_tmp ha rfl) (ev_tmp ha rfl), ?_⟩
    | refine ⟨_, fun tm ha => step1_min rfl (ev_tmp ha rfl) (ev_tmp ha rfl), ?_⟩
    | (refine ⟨fun _ => ?_, fun _ => ?_⟩ <;> first | (exfalso; omega) | skip)
    | fail
  refine CV.loopc ?_
  refine WCv.rounds callees false (α := Int) (fun i => [(0, v), (1, .int .i64 b), (5, .int .i64 i)]) (fun i Hz => Hz = H ∧ lst xs b ≤ i ∧ i < xs.length) (fun i => (i - lst xs b).toNat) ((xs.length : Int) - 1) (by repeat' first | exact trivial | refine ⟨rfl, ?_⟩ | refine ⟨slot_int (by (try simp only [Int.toNat_natCast]); omega), ?_⟩) ?_ ?_
  · exact ⟨rfl, by omega, by omega⟩
  rintro i Hx ⟨rfl, hi, hi2⟩ hBx
  repeat' first
    | refine CO.cons rfl ?_
    | refine CO.nil ?_
    | refine CV.seq ?_
    | refine CV.region callees ?_
    | refine CV.cond ?_
    | refine CV.block ?_
    | refine CV.skip ?_
    | refine CV.exit ?_
    | refine CV.ret ?_
    | refine CV.scope ?_
    | refine CV.draw callees rfl ?_
    | refine CH.cons rfl ?_
    | refine CH.nil ?_
    | refine CO.consG rfl ?_
    | refine CH.consG rfl ?_
    | refine CG.cons rfl ?_
    | refine CG.nil ?_
    | refine CG.consG rfl ?_
    | refine ⟨(rfl : plain _ = true), ?_⟩
    | refine ⟨(rfl : nilOk _ = some _), ?_⟩
    | refine ⟨_, ints_len (by assumption), ?_⟩
    | refine ⟨_, ints_addr (by assumption) (by omega) (by omega), ?_⟩
    | refine ⟨_, ints_load (by assumption) (by omega) (by omega), ?_⟩
    | refine ⟨(⟨by omega, by omega⟩ : inI64 _), ?_⟩
    | refine ⟨_, fun tm ha => step1_max rfl (ev_tmp ha rfl) (ev_tmp ha rfl), ?_⟩
    | refine ⟨_, fun tm ha => step1_min rfl (ev_tmp ha rfl) (ev_tmp ha rfl), ?_⟩
    | (refine ⟨fun _ => ?_, fun _ => ?_⟩ <;> first | (exfalso; omega) | skip)
    | fail
  · rename_i h
    have : i ≠ lst xs b := fun e => h (by have := hs.la; rw [← e] at this; exact this)
    refine ⟨(i - 1), (by repeat' first | exact trivial | refine ⟨rfl, ?_⟩ | refine ⟨slot_int (by (try simp only [Int.toNat_natCast]); omega), ?_⟩), (by (try dsimp only); omega), ?_⟩
    exact ⟨rfl, by omega, by omega⟩
  · rename_i h
    have := (hs.of i.toNat (by omega) (Classical.not_not.1 h)).2
    exact ⟨rfl, by rw [show i = lst xs b by omega], rfl⟩
theorem levs_ge (xs : List Int) {k a : Nat} (h : a < k) : (levs xs k)[a]! = lev xs a := levs_at xs h
set_option maxHeartbeats 2000000 in
set_option maxRecDepth 100000 in
theorem reflevels_spec {B : Nat} {v : Value} {H : Heap} {xs : List Int} (hB : B ≤ H.n) (hv : Ints H v xs) (hc : check xs = 0) :
    CallB Tryd.prog B 97 [v] H (fun r H' => Own 3 H' r ((levs xs (bk xs)).map VI) H.n ∧ Keep H H') := by
  have hlx := check_len hc
  have hk9 := bk_le9 hc
  have hbc := bk_cast xs
  have hbx : ∀ i, i < xs.length → 0 ≤ xs[i]! ∧ xs[i]! < 9 := fun i hi => check_bound hc hi
  refine CV.enter callees false rfl Tryd.func97 rfl ok97 (Nat.le_of_ble_eq_true rfl) hB ?_
  repeat' first
    | refine CO.cons rfl ?_
    | refine CO.nil ?_
    | refine CV.seq ?_
    | refine CV.region callees ?_
    | refine CV.cond ?_
    | refine CV.block ?_
    | refine CV.skip ?_
    | refine CV.exit ?_
    | refine CV.ret ?_
    | refine CV.scope ?_
    | refine CV.draw callees rfl ?_
    | refine CH.cons rfl ?_
    | refine CH.nil ?_
    | refine CO.consG rfl ?_
    | refine CH.consG rfl ?_
    | refine CG.cons rfl ?_
    | refine CG.nil ?_
    | refine CG.consG rfl ?_
    | refine ⟨(rfl : plain _ = true), ?_⟩
    | refine ⟨(rfl : nilOk _ = some _), ?_⟩
    | refine ⟨_, ints_len (by assumption), ?_⟩
    | refine ⟨_, ints_addr (by assumption) (by omega) (by omega), ?_⟩
    | refine ⟨_, ints_load (by assumption) (by omega) (by omega), ?_⟩
    | refine ⟨(⟨by omega, by omega⟩ : inI64 _), ?_⟩
    | refine ⟨_, fun tm ha => step1_max rfl (ev_tmp ha rfl) (ev_tmp ha rfl), ?_⟩
    | refine ⟨_, fun tm ha => step1_min rfl (ev_tmp ha rfl) (ev_tmp ha rfl), ?_⟩
    | (refine ⟨fun _ => ?_, fun _ => ?_⟩ <;> first | (exfalso; omega) | skip)
    | fail
  refine CV.loopc ?_
  refine WCv.rounds callees false (α := Value × Nat) (fun (o, i) => [(0, v), (3, o), (4, .int .i64 i)]) (fun (o, i) Hz => i ≤ bk xs ∧ Keep H Hz ∧ Own 3 Hz o ((levs xs i).map VI) H.n) (fun (o, i) => bk xs - i) (.slice none 0 0, 0) (by repeat' first | exact trivial | refine ⟨rfl, ?_⟩ | refine ⟨slot_int (by (try simp only [Int.toNat_natCast]); omega), ?_⟩) ?_ ?_
  · exact ⟨by omega, Keep.refl _, .inl ⟨rfl, rfl⟩⟩
  rintro ⟨o, i⟩ Hx ⟨hi, hk, ho⟩ hBx
  have hvx := hv.keep hk
  have hol := levs_length xs i
  repeat' first
    | refine CO.cons rfl ?_
    | refine CO.nil ?_
    | refine CV.seq ?_
    | refine CV.region callees ?_
    | refine CV.cond ?_
    | refine CV.block ?_
    | refine CV.skip ?_
    | refine CV.exit ?_
    | refine CV.ret ?_
    | refine CV.scope ?_
    | refine CV.draw callees rfl ?_
    | refine CH.cons rfl ?_
    | refine CH.nil ?_
    | refine CO.consG rfl ?_
    | refine CH.consG rfl ?_
    | refine CG.cons rfl ?_
    | refine CG.nil ?_
    | refine CG.consG rfl ?_
    | refine ⟨(rfl : plain _ = true), ?_⟩
    | refine ⟨(rfl : nilOk _ = some _), ?_⟩
    | refine ⟨_, ints_len (by assumption), ?_⟩
    | refine ⟨_, ints_addr (by assumption) (by omega) (by omega), ?_⟩
    | refine ⟨_, ints_load (by assumption) (by omega) (by omega), ?_⟩
    | refine ⟨(⟨by omega, by omega⟩ : inI64 _), ?_⟩
    | refine ⟨_, fun tm ha => step1_max rfl (ev_tmp ha rfl) (ev_tmp ha rfl), ?_⟩
    | refine ⟨_, fun tm ha => step1_min rfl (ev_tmp ha rfl) (ev_tmp ha rfl), ?_⟩
    | (refine (refBlocks_spec hBx hvx hbx (by omega)).mono ?_; rintro r H' ⟨rfl, rfl⟩; rw [← hbc])
    | (refine ⟨fun _ => ?_, fun _ => ?_⟩ <;> first | (exfalso; omega) | skip)
    | fail
  · refine CV.loopc ?_
    refine WCv.rounds callees false (α := Nat) (fun j => [(0, v), (3, o), (4, .int .i64 i), (5, .int .i64 (levA xs (levs xs i) i j)), (6, .int .i64 j)]) (fun j Hz => Hz = H' ∧ j ≤ i) (fun j => i - j) (0) (by repeat' first | exact trivial | refine ⟨rfl, ?_⟩ | refine ⟨slot_int (by (try simp only [Int.toNat_natCast]); omega), ?_⟩) ?_ ?_
    · exact ⟨rfl, by omega⟩
    rintro j Hy ⟨rfl, hj⟩ hBy
    have hoy : Ints Hy o (levs xs i) := ho.row
    by_cases hj2 : j < i
    · have hsi := span_blk hc (b := i) (by omega)
      have hsj := span_blk hc (b := j) (by omega)
      have hlj := lev_le xs j
      have hljp := lev_pos xs j
      have hlA : levA xs (levs xs i) i j ≤ 9 := by
        have := levA_le xs (levs xs i) i i j (fun q hq => by rw [levs_at xs (by omega)]; have := lev_le xs q; omega) (by omega)
        omega
      have hlAp := levA_pos xs (levs xs i) i j
      have hat : (levs xs i)[(j : Int).toNat]! = lev xs j := levs_at xs hj2
      have hsucc : levA xs (levs xs i) i (j + 1) = if fst xs i < lst xs j then max (levA xs (levs xs i) i j) (lev xs j + 1) else levA xs (levs xs i) i j := by
        rw [levA, levs_at xs hj2]
      repeat' first
        | refine CO.cons rfl ?_
        | refine CO.nil ?_
        | refine CV.seq ?_
        | refine CV.region callees ?_
        | refine CV.cond ?_
        | refine CV.block ?_
        | refine CV.skip ?_
        | refine CV.exit ?_
        | refine CV.ret ?_
        | refine CV.scope ?_
        | refine CV.draw callees rfl ?_
        | refine CH.cons rfl ?_
        | refine CH.nil ?_
        | refine CO.consG rfl ?_
        | refine CH.consG rfl ?_
        | refine CG.cons rfl ?_
        | refine CG.nil ?_
        | refine CG.consG rfl ?_
        | refine ⟨(rfl : plain _ = true), ?_⟩
        | refine ⟨(rfl : nilOk _ = some _), ?_⟩
        | refine ⟨_, ints_len (by assumption), ?_⟩
        | refine ⟨_, ints_addr (by assumption) (by omega) (by omega), ?_⟩
        | refine ⟨_, ints_load (by assumption) (by omega) (by omega), ?_⟩
        | refine ⟨(⟨by omega, by omega⟩ : inI64 _), ?_⟩
        | refine ⟨_, fun tm ha => step1_max rfl (ev_tmp ha rfl) (ev_tmp ha rfl), ?_⟩
        | refine ⟨_, fun tm ha => step1_min rfl (ev_tmp ha rfl) (ev_tmp ha rfl), ?_⟩
        | (refine (last_spec hBy hvx (by omega) hsj).mono ?_; rintro r H' ⟨rfl, rfl⟩)
        | (refine (first_spec (by assumption) hvx (by omega) hsi).mono ?_; rintro r H' ⟨rfl, rfl⟩)
        | (refine ⟨fun _ => ?_, fun _ => ?_⟩ <;> first | (exfalso; omega) | skip)
        | fail
      · rw [if_pos (by omega)] at hsucc
        refine ⟨j + 1, ⟨rfl, rfl, rfl, (by rw [hat, hsucc]; exact rfl), rfl, trivial⟩, by (try dsimp only); omega, rfl, by omega⟩
      · rw [if_neg (by omega)] at hsucc
        refine ⟨j + 1, ⟨rfl, rfl, rfl, (by rw [hsucc]; exact rfl), rfl, trivial⟩, by (try dsimp only); omega, rfl, by omega⟩
    · have : j = i := by omega
      subst this
      repeat' first
        | refine CO.cons rfl ?_
        | refine CO.nil ?_
        | refine CV.seq ?_
        | refine CV.region callees ?_
        | refine CV.cond ?_
        | refine CV.block ?_
        | refine CV.skip ?_
        | refine CV.exit ?_
        | refine CV.ret ?_
        | refine CV.scope ?_
        | refine CV.draw callees rfl ?_
        | refine CH.cons rfl ?_
        | refine CH.nil ?_
        | refine CO.consG rfl ?_
        | refine CH.consG rfl ?_
        | refine CG.cons rfl ?_
        | refine CG.nil ?_
        | refine CG.consG rfl ?_
        | refine ⟨(rfl : plain _ = true), ?_⟩
        | refine ⟨(rfl : nilOk _ = some _), ?_⟩
        | refine ⟨_, ints_len (by assumption), ?_⟩
        | refine ⟨_, ints_addr (by assumption) (by omega) (by omega), ?_⟩
        | refine ⟨_, ints_load (by assumption) (by omega) (by omega), ?_⟩
        | refine ⟨(⟨by omega, by omega⟩ : inI64 _), ?_⟩
        | refine ⟨_, fun tm ha => step1_max rfl (ev_tmp ha rfl) (ev_tmp ha rfl), ?_⟩
        | refine ⟨_, fun tm ha => step1_min rfl (ev_tmp ha rfl) (ev_tmp ha rfl), ?_⟩
        | refine ⟨_, _, build_one un22 one3 rfl, ?_⟩
        | (refine ⟨fun _ => ?_, fun _ => ?_⟩ <;> first | (exfalso; omega) | skip)
        | fail
      refine push_ask ho hk.1 hB (by omega) ?_
      intro o2 H4 ho4 kb4 hf4
      have k5 := kb4.keep hk fun c hc => (ho.lt hc).1
      repeat' first
        | refine CO.cons rfl ?_
        | refine CO.nil ?_
        | refine CV.seq ?_
        | refine CV.region callees ?_
        | refine CV.cond ?_
        | refine CV.block ?_
        | refine CV.skip ?_
        | refine CV.exit ?_
        | refine CV.ret ?_
        | refine CV.scope ?_
        | refine CV.draw callees rfl ?_
        | refine CH.cons rfl ?_
        | refine CH.nil ?_
        | refine CO.consG rfl ?_
        | refine CH.consG rfl ?_
        | refine CG.cons rfl ?_
        | refine CG.nil ?_
        | refine CG.consG rfl ?_
        | refine ⟨(rfl : plain _ = true), ?_⟩
        | refine ⟨(rfl : nilOk _ = some _), ?_⟩
        | refine ⟨_, ints_len (by assumption), ?_⟩
        | refine ⟨_, ints_addr (by assumption) (by omega) (by omega), ?_⟩
        | refine ⟨_, ints_load (by assumption) (by omega) (by omega), ?_⟩
        | refine ⟨(⟨by omega, by omega⟩ : inI64 _), ?_⟩
        | refine ⟨_, fun tm ha => step1_max rfl (ev_tmp ha rfl) (ev_tmp ha rfl), ?_⟩
        | refine ⟨_, fun tm ha => step1_min rfl (ev_tmp ha rfl) (ev_tmp ha rfl), ?_⟩
        | (refine ⟨fun _ => ?_, fun _ => ?_⟩ <;> first | (exfalso; omega) | skip)
        | fail
      refine ⟨(o2, j + 1), (by repeat' first | exact trivial | refine ⟨rfl, ?_⟩ | refine ⟨slot_int (by (try simp only [Int.toNat_natCast]); omega), ?_⟩), (by (try dsimp only); omega), ?_⟩
      exact ⟨by omega, k5, ho4⟩
  · refine ⟨by simp only [List.all_cons, List.all_nil, ho.notTuple]; rfl, ?_, hk⟩
    rw [show bk xs = i by omega]; exact ho
set_option maxRecDepth 100000 in
theorem refLevels_spec {B : Nat} {v : Value} {H : Heap} {xs : List Int} (hB : B ≤ H.n) (hv : Ints H v xs) :
    CallB Tryd.prog B 50 [v] H (fun r H' => (∃ u, r = .tuple #[u, .int .i64 (check xs)] ∧ Ints H' u (if check xs = 0 then levs xs (bk xs) else [])) ∧ Keep H H') := by
  refine CV.enter callees false rfl Tryd.func50 rfl ok50 (Nat.le_of_ble_eq_true rfl) hB ?_
  repeat' first
    | refine CO.cons rfl ?_
    | refine CO.nil ?_
    | refine CV.seq ?_
    | refine CV.region callees ?_
    | refine CV.cond ?_
    | refine CV.block ?_
    | refine CV.skip ?_
    | refine CV.exit ?_
    | refine CV.ret ?_
    | refine CV.scope ?_
    | refine CV.draw callees rfl ?_
    | refine CH.cons rfl ?_
    | refine CH.nil ?_
    | refine CO.consG rfl ?_
    | refine CH.consG rfl ?_
    | refine CG.cons rfl ?_
    | refine CG.nil ?_
    | refine CG.consG rfl ?_
    | refine ⟨(rfl : plain _ = true), ?_⟩
    | refine ⟨(rfl : nilOk _ = some _), ?_⟩
    | refine ⟨_, ints_len (by assumption), ?_⟩
    | refine ⟨_, ints_addr (by assumption) (by omega) (by omega), ?_⟩
    | refine ⟨_, ints_load (by assumption) (by omega) (by omega), ?_⟩
    | refine ⟨(⟨by omega, by omega⟩ : inI64 _), ?_⟩
    | refine ⟨_, fun tm ha => step1_max rfl (ev_tmp ha rfl) (ev_tmp ha rfl), ?_⟩
    | refine ⟨_, fun tm ha => step1_min rfl (ev_tmp ha rfl) (ev_tmp ha rfl), ?_⟩
    | (refine ⟨fun _ => ?_, fun _ => ?_⟩ <;> first | (exfalso; omega) | skip)
    | fail
  refine (refCheck_spec hB hv).mono ?_
  rintro r H1 ⟨rfl, rfl⟩
  repeat' first
    | refine CO.cons rfl ?_
    | refine CO.nil ?_
    | refine CV.seq ?_
    | refine CV.region callees ?_
    | refine CV.cond ?_
    | refine CV.block ?_
    | refine CV.skip ?_
    | refine CV.exit ?_
    | refine CV.ret ?_
    | refine CV.scope ?_
    | refine CV.draw callees rfl ?_
    | refine CH.cons rfl ?_
    | refine CH.nil ?_
    | refine CO.consG rfl ?_
    | refine CH.consG rfl ?_
    | refine CG.cons rfl ?_
    | refine CG.nil ?_
    | refine CG.consG rfl ?_
    | refine ⟨(rfl : plain _ = true), ?_⟩
    | refine ⟨(rfl : nilOk _ = some _), ?_⟩
    | refine ⟨_, ints_len (by assumption), ?_⟩
    | refine ⟨_, ints_addr (by assumption) (by omega) (by omega), ?_⟩
    | refine ⟨_, ints_load (by assumption) (by omega) (by omega), ?_⟩
    | refine ⟨(⟨by omega, by omega⟩ : inI64 _), ?_⟩
    | refine ⟨_, fun tm ha => step1_max rfl (ev_tmp ha rfl) (ev_tmp ha rfl), ?_⟩
    | refine ⟨_, fun tm ha => step1_min rfl (ev_tmp ha rfl) (ev_tmp ha rfl), ?_⟩
    | (refine ⟨fun _ => ?_, fun _ => ?_⟩ <;> first | (exfalso; omega) | skip)
    | fail
  · exact ⟨rfl, ⟨_, rfl, .inl ⟨rfl, by rw [if_neg (by assumption)]; rfl⟩⟩, Keep.refl _⟩
  have hc : check xs = 0 := Classical.not_not.1 (by assumption)
  refine (reflevels_spec hB hv hc).mono ?_
  rintro o H2 ⟨ho, k2⟩
  repeat' first
    | refine CO.cons rfl ?_
    | refine CO.nil ?_
    | refine CV.seq ?_
    | refine CV.region callees ?_
    | refine CV.cond ?_
    | refine CV.block ?_
    | refine CV.skip ?_
    | refine CV.exit ?_
    | refine CV.ret ?_
    | refine CV.scope ?_
    | refine CV.draw callees rfl ?_
    | refine CH.cons rfl ?_
    | refine CH.nil ?_
    | refine CO.consG rfl ?_
    | refine CH.consG rfl ?_
    | refine CG.cons rfl ?_
    | refine CG.nil ?_
    | refine CG.consG rfl ?_
    | refine ⟨(rfl : plain _ = true), ?_⟩
    | refine ⟨(rfl : nilOk _ = some _), ?_⟩
    | refine ⟨_, ints_len (by assumption), ?_⟩
    | refine ⟨_, ints_addr (by assumption) (by omega) (by omega), ?_⟩
    | refine ⟨_, ints_load (by assumption) (by omega) (by omega), ?_⟩
    | refine ⟨(⟨by omega, by omega⟩ : inI64 _), ?_⟩
    | refine ⟨_, fun tm ha => step1_max rfl (ev_tmp ha rfl) (ev_tmp ha rfl), ?_⟩
    | refine ⟨_, fun tm ha => step1_min rfl (ev_tmp ha rfl) (ev_tmp ha rfl), ?_⟩
    | (refine ⟨fun _ => ?_, fun _ => ?_⟩ <;> first | (exfalso; omega) | skip)
    | fail
  exact ⟨by simp only [List.all_cons, List.all_nil, ho.notTuple]; rfl, ⟨o, by rw [hc], by rw [if_pos hc]; exact ho.row⟩, k2⟩
theorem ovr_mono {xs : List Int} {row a b : Int} {k m : Nat} (h : ovr xs row a b k = true) (hk : k ≤ m) : ovr xs row a b m = true := by
  rw [ovr_iff] at h ⊢
  obtain ⟨q, h1, h2⟩ := h
  exact ⟨q, by omega, h2⟩
set_option maxHeartbeats 1000000 in
set_option maxRecDepth 100000 in
theorem over_spec {B : Nat} {v u : Value} {H : Heap} {xs : List Int} {row a b : Int} (hB : B ≤ H.n) (hv : Ints H v xs) (hc : check xs = 0) (hu : Ints H u (levs xs (bk xs))) :
    CallB Tryd.prog B 115 [v, u, .int .i64 row, .int .i64 a, .int .i64 b] H (fun r H' => r = .bool (ovr xs row a b (bk xs)) ∧ H' = H) := by
  have hlx := check_len hc
  have hk9 := bk_le9 hc
  have hul := levs_length xs (bk xs)
  refine CV.enter callees false rfl Tryd.func115 rfl ok115 (Nat.le_of_ble_eq_true rfl) hB ?_
  repeat' first
    | refine CO.cons rfl ?_
    | refine CO.nil ?_
    | refine CV.seq ?_
    | refine CV.region callees ?_
    | refine CV.cond ?_
    | refine CV.block ?_
    | refine CV.skip ?_
    | refine CV.exit ?_
    | refine CV.ret ?_
    | refine CV.scope ?_
    | refine CV.draw callees rfl ?_
    | refine CH.cons rfl ?_
    | refine CH.nil ?_
    | refine CO.consG rfl ?_
    | refine CH.consG rfl ?_
    | refine CG.cons rfl ?_
    | refine CG.nil ?_
    | refine CG.consG rfl ?_
    | refine ⟨(rfl : plain _ = true), ?_⟩
    | refine ⟨(rfl : nilOk _ = some _), ?_⟩
    | refine ⟨_, ints_len (by assumption), ?_⟩
    | refine ⟨_, ints_addr (by assumption) (by omega) (by omega), ?_⟩
    | refine ⟨_, ints_load (by assumption) (by omega) (by omega), ?_⟩
    | refine ⟨(⟨by omega, by omega⟩ : inI64 _), ?_⟩
    | refine ⟨_, fun tm ha => step1_max rfl (ev_tmp ha rfl) (ev_tmp ha rfl), ?_⟩
    | refine ⟨_, fun tm ha => step1_min rfl (ev_tmp ha rfl) (ev_tmp ha rfl), ?_⟩
    | (refine ⟨fun _ => ?_, fun _ => ?_⟩ <;> first | (exfalso; omega) | skip)
    | fail
  refine CV.loopc ?_
  refine WCv.rounds callees false (α := Nat) (fun i => [(0, v), (1, u), (2, .int .i64 row), (3, .int .i64 a), (4, .int .i64 b), (11, .int .i64 i)]) (fun i Hz => Hz = H ∧ i ≤ bk xs ∧ ovr xs row a b i = false) (fun i => bk xs - i) (0) (by repeat' first | exact trivial | refine ⟨rfl, ?_⟩ | refine ⟨slot_int (by (try simp only [Int.toNat_natCast]); omega), ?_⟩) ?_ ?_
  · exact ⟨rfl, by omega, rfl⟩
  rintro i Hx ⟨rfl, hi, hov⟩ hBx
  by_cases hi2 : i < bk xs
  · have hs := span_blk hc hi2
    have hat : (levs xs (bk xs))[(i : Int).toNat]! = lev xs i := levs_at xs hi2
    have hsucc : ovr xs row a b (i + 1) = (lev xs i == row && decide (fst xs i ≤ a) && decide (b ≤ lst xs i)) := by rw [ovr, hov]; rfl
    repeat' first
      | refine CO.cons rfl ?_
      | refine CO.nil ?_
      | refine CV.seq ?_
      | refine CV.region callees ?_
      | refine CV.cond ?_
      | refine CV.block ?_
      | refine CV.skip ?_
      | refine CV.exit ?_
      | refine CV.ret ?_
      | refine CV.scope ?_
      | refine CV.draw callees rfl ?_
      | refine CH.cons rfl ?_
      | refine CH.nil ?_
      | refine CO.consG rfl ?_
      | refine CH.consG rfl ?_
      | refine CG.cons rfl ?_
      | refine CG.nil ?_
      | refine CG.consG rfl ?_
      | refine ⟨(rfl : plain _ = true), ?_⟩
      | refine ⟨(rfl : nilOk _ = some _), ?_⟩
      | refine ⟨_, ints_len (by assumption), ?_⟩
      | refine ⟨_, ints_addr (by assumption) (by omega) (by omega), ?_⟩
      | refine ⟨_, ints_load (by assumption) (by omega) (by omega), ?_⟩
      | refine ⟨(⟨by omega, by omega⟩ : inI64 _), ?_⟩
      | refine ⟨_, fun tm ha => step1_max rfl (ev_tmp ha rfl) (ev_tmp ha rfl), ?_⟩
      | refine ⟨_, fun tm ha => step1_min rfl (ev_tmp ha rfl) (ev_tmp ha rfl), ?_⟩
      | (refine (first_spec (by assumption) hv (by omega) hs).mono ?_; rintro r H' ⟨rfl, rfl⟩)
      | (refine (last_spec (by assumption) hv (by omega) hs).mono ?_; rintro r H' ⟨rfl, rfl⟩)
      | (refine ⟨fun _ => ?_, fun _ => ?_⟩ <;> first | (exfalso; omega) | skip)
      | fail
    · refine ⟨rfl, ?_, rfl⟩
      rw [ovr_mono (k := i + 1) (by rw [hsucc]; simp only [Bool.and_eq_true, beq_iff_eq, decide_eq_true_eq]; rename_i h1 h2 h3 h4; rw [hat] at h2; exact ⟨⟨h2, h3⟩, h4⟩) (by omega)]
    · refine ⟨(i + 1), (by repeat' first | exact trivial | refine ⟨rfl, ?_⟩ | refine ⟨slot_int (by (try simp only [Int.toNat_natCast]); omega), ?_⟩), (by (try dsimp only); omega), ?_⟩
      refine ⟨rfl, by omega, ?_⟩
      rw [hsucc]; rename_i h1 h2 h3 h4; simp only [Bool.and_eq_false_iff, decide_eq_false_iff_not]; exact .inr h4
    · refine ⟨(i + 1), (by repeat' first | exact trivial | refine ⟨rfl, ?_⟩ | refine ⟨slot_int (by (try simp only [Int.toNat_natCast]); omega), ?_⟩), (by (try dsimp only); omega), ?_⟩
      refine ⟨rfl, by omega, ?_⟩
      rw [hsucc]; rename_i h1 h2 h3; simp only [Bool.and_eq_false_iff, decide_eq_false_iff_not]; exact .inl (.inr h3)
    · refine ⟨(i + 1), (by repeat' first | exact trivial | refine ⟨rfl, ?_⟩ | refine ⟨slot_int (by (try simp only [Int.toNat_natCast]); omega), ?_⟩), (by (try dsimp only); omega), ?_⟩
      refine ⟨rfl, by omega, ?_⟩
      rw [hsucc]; rename_i h1 h2; rw [hat] at h2; simp only [Bool.and_eq_false_iff, beq_eq_false_iff_ne]; exact .inl (.inl h2)
  · have : i = bk xs := by omega
    subst this
    repeat' first
      | refine CO.cons rfl ?_
      | refine CO.nil ?_
      | refine CV.seq ?_
      | refine CV.region callees ?_
      | refine CV.cond ?_
      | refine CV.block ?_
      | refine CV.skip ?_
      | refine CV.exit ?_
      | refine CV.ret ?_
      | refine CV.scope ?_
      | refine CV.draw callees rfl ?_
      | refine CH.cons rfl ?_
      | refine CH.nil ?_
      | refine CO.consG rfl ?_
      | refine CH.consG rfl ?_
      | refine CG.cons rfl ?_
      | refine CG.nil ?_
      | refine CG.consG rfl ?_
      | refine ⟨(rfl : plain _ = true), ?_⟩
      | refine ⟨(rfl : nilOk _ = some _), ?_⟩
      | refine ⟨_, ints_len (by assumption), ?_⟩
      | refine ⟨_, ints_addr (by assumption) (by omega) (by omega), ?_⟩
      | refine ⟨_, ints_load (by assumption) (by omega) (by omega), ?_⟩
      | refine ⟨(⟨by omega, by omega⟩ : inI64 _), ?_⟩
      | refine ⟨_, fun tm ha => step1_max rfl (ev_tmp ha rfl) (ev_tmp ha rfl), ?_⟩
      | refine ⟨_, fun tm ha => step1_min rfl (ev_tmp ha rfl) (ev_tmp ha rfl), ?_⟩
      | (refine ⟨fun _ => ?_, fun _ => ?_⟩ <;> first | (exfalso; omega) | skip)
      | fail
    exact ⟨rfl, by rw [hov], rfl⟩
set_option maxHeartbeats 2000000 in
set_option maxRecDepth 100000 in
theorem bar_spec {B : Nat} {v u : Value} {H : Heap} {xs : List Int} {row : Int} {i : Nat} (hB : B ≤ H.n) (hv : Ints H v xs) (hc : check xs = 0) (hu : Ints H u (levs xs (bk xs))) (hi : i < xs.length) (hr : -1000 ≤ row ∧ row ≤ 1000) :
    CallB Tryd.prog B 114 [v, u, .int .i64 i, .int .i64 row] H (fun r H' => r = .int .u8 (ch xs row (2 * (i : Int))) ∧ H' = H) := by
  have hlx := check_len hc
  have hk9 := bk_le9 hc
  have hul := levs_length xs (bk xs)
  obtain ⟨b0, b1, b2⟩ := blk_of hc hi
  have hs := span_at hc hi
  rw [b2] at hs
  have hch := ch_even hc hi (row := row)
  have hat : (levs xs (bk xs))[xs[(i : Int).toNat]!.toNat]! = lev xs xs[i]!.toNat := levs_at xs b1
  have hxi : xs[(i : Int).toNat]! = xs[i]! := rfl
  have hll := lev_le xs xs[i]!.toNat
  have hlp := lev_pos xs xs[i]!.toNat
  have hT : ovr xs row ((i : Int) - 1) (i + 1) (bk xs) = true → ch xs row (2 * (i : Int)) = if row < lev xs xs[i]!.toNat then 45 else if row = lev xs xs[i]!.toNat ∧ fst xs xs[i]! < lst xs xs[i]! then 111 else if lev xs xs[i]!.toNat < row then 120 else 124 := fun h => by
    rw [hch, h]
    by_cases h1 : row < lev xs xs[i]!.toNat
    · rw [if_pos ⟨h1, rfl⟩, if_pos h1]
    · rw [if_neg (fun e => h1 e.1), if_neg h1, if_neg h1]
      by_cases h2 : lev xs xs[i]!.toNat < row
      · rw [if_pos (⟨h2, rfl⟩ : lev xs xs[i]!.toNat < row ∧ true = true), if_pos h2]
      · rw [if_neg (fun e : lev xs xs[i]!.toNat < row ∧ true = true => h2 e.1), if_neg h2]
  have hF : ovr xs row ((i : Int) - 1) (i + 1) (bk xs) = false → ch xs row (2 * (i : Int)) = if row < lev xs xs[i]!.toNat then 32 else if row = lev xs xs[i]!.toNat ∧ fst xs xs[i]! < lst xs xs[i]! then 111 else 124 := fun h => by
    rw [hch, h]
    rw [if_neg (fun e : row < lev xs xs[i]!.toNat ∧ false = true => by cases e.2), if_neg (fun e : lev xs xs[i]!.toNat < row ∧ false = true => by cases e.2)]
  clear hch
  refine CV.enter callees false rfl Tryd.func114 rfl ok114 (Nat.le_of_ble_eq_true rfl) hB ?_
  repeat' first
    | refine CO.cons rfl ?_
    | refine CO.nil ?_
    | refine CV.seq ?_
    | refine CV.region callees ?_
    | refine CV.cond ?_
    | refine CV.block ?_
    | refine CV.skip ?_
    | refine CV.exit ?_
    | refine CV.ret ?_
    | refine CV.scope ?_
    | refine CV.draw callees rfl ?_
    | refine CH.cons rfl ?_
    | refine CH.nil ?_
    | refine CO.consG rfl ?_
    | refine CH.consG rfl ?_
    | refine CG.cons rfl ?_
    | refine CG.nil ?_
    | refine CG.consG rfl ?_
    | refine ⟨(rfl : plain _ = true), ?_⟩
    | refine ⟨(rfl : nilOk _ = some _), ?_⟩
    | refine ⟨_, ints_len (by assumption), ?_⟩
    | refine ⟨_, ints_addr (by assumption) (by omega) (by omega), ?_⟩
    | refine ⟨_, ints_load (by assumption) (by omega) (by omega), ?_⟩
    | refine ⟨(⟨by omega, by omega⟩ : inI64 _), ?_⟩
    | refine ⟨_, fun tm ha => step1_max rfl (ev_tmp ha rfl) (ev_tmp ha rfl), ?_⟩
    | refine ⟨_, fun tm ha => step1_min rfl (ev_tmp ha rfl) (ev_tmp ha rfl), ?_⟩
    | (refine ⟨fun _ => ?_, fun _ => ?_⟩ <;> first | (exfalso; omega) | skip)
    | fail
  refine (over_spec hB hv hc hu).mono ?_
  rintro r H1 ⟨rfl, rfl⟩
  generalize hO : ovr xs row ((i : Int) - 1) (i + 1) (bk xs) = O at hT hF
  cases O with
  | true =>
    have hT := hT rfl
    repeat' first
      | refine CO.cons rfl ?_
      | refine CO.nil ?_
      | refine CV.seq ?_
      | refine CV.region callees ?_
      | refine CV.cond ?_
      | refine CV.block ?_
      | refine CV.skip ?_
      | refine CV.exit ?_
      | refine CV.ret ?_
      | refine CV.scope ?_
      | refine CV.draw callees rfl ?_
      | refine CH.cons rfl ?_
      | refine CH.nil ?_
      | refine CO.consG rfl ?_
      | refine CH.consG rfl ?_
      | refine CG.cons rfl ?_
      | refine CG.nil ?_
      | refine CG.consG rfl ?_
      | refine ⟨(rfl : plain _ = true), ?_⟩
      | refine ⟨(rfl : nilOk _ = some _), ?_⟩
      | refine ⟨_, ints_len (by assumption), ?_⟩
      | refine ⟨_, ints_addr (by assumption) (by omega) (by omega), ?_⟩
      | refine ⟨_, ints_load (by assumption) (by omega) (by omega), ?_⟩
      | refine ⟨(⟨by omega, by omega⟩ : inI64 _), ?_⟩
      | refine ⟨_, fun tm ha => step1_max rfl (ev_tmp ha rfl) (ev_tmp ha rfl), ?_⟩
      | refine ⟨_, fun tm ha => step1_min rfl (ev_tmp ha rfl) (ev_tmp ha rfl), ?_⟩
      | refine CV.wide callees rfl [0, 1, 2, 3, 4, 5, 6, 7, 8, 10, 11, 12, 13, 14, 9, 15, 16, 17, 18] (by kernel_rfl) ?_
      | (refine (first_spec (by first | exact Nat.le_refl _ | assumption) hv (by omega) hs).mono ?_; rintro r H' ⟨rfl, rfl⟩)
      | (refine (last_spec (by first | exact Nat.le_refl _ | assumption) hv (by omega) hs).mono ?_; rintro r H' ⟨rfl, rfl⟩)
      | (refine ⟨fun _ => ?_, fun _ => ?_⟩ <;> first | (exfalso; omega) | skip)
      | fail
    all_goals (refine ⟨rfl, ?_, rfl⟩; rw [hT]; first | rw [if_pos (show row < lev xs xs[i]!.toNat by omega)] | rw [if_neg (show ¬ row < lev xs xs[i]!.toNat by omega), if_pos (⟨by omega, by omega⟩ : row = lev xs xs[i]!.toNat ∧ fst xs xs[i]! < lst xs xs[i]!)] | rw [if_neg (show ¬ row < lev xs xs[i]!.toNat by omega), if_neg (show ¬ (row = lev xs xs[i]!.toNat ∧ fst xs xs[i]! < lst xs xs[i]!) by omega), if_pos (show lev xs xs[i]!.toNat < row by omega)] | rw [if_neg (show ¬ row < lev xs xs[i]!.toNat by omega), if_neg (show ¬ (row = lev xs xs[i]!.toNat ∧ fst xs xs[i]! < lst xs xs[i]!) by omega), if_neg (show ¬ lev xs xs[i]!.toNat < row by omega)] | rw [if_neg (show ¬ row < lev xs xs[i]!.toNat by omega), if_neg (show ¬ (row = lev xs xs[i]!.toNat ∧ fst xs xs[i]! < lst xs xs[i]!) by omega)])
  | false =>
    have hF := hF rfl
    repeat' first
      | refine CO.cons rfl ?_
      | refine CO.nil ?_
      | refine CV.seq ?_
      | refine CV.region callees ?_
      | refine CV.cond ?_
      | refine CV.block ?_
      | refine CV.skip ?_
      | refine CV.exit ?_
      | refine CV.ret ?_
      | refine CV.scope ?_
      | refine CV.draw callees rfl ?_
      | refine CH.cons rfl ?_
      | refine CH.nil ?_
      | refine CO.consG rfl ?_
      | refine CH.consG rfl ?_
      | refine CG.cons rfl ?_
      | refine CG.nil ?_
      | refine CG.consG rfl ?_
      | refine ⟨(rfl : plain _ = true), ?_⟩
      | refine ⟨(rfl : nilOk _ = some _), ?_⟩
      | refine ⟨_, ints_len (by assumption), ?_⟩
      | refine ⟨_, ints_addr (by assumption) (by omega) (by omega), ?_⟩
      | refine ⟨_, ints_load (by assumption) (by omega) (by omega), ?_⟩
      | refine ⟨(⟨by omega, by omega⟩ : inI64 _), ?_⟩
      | refine ⟨_, fun tm ha => step1_max rfl (ev_tmp ha rfl) (ev_tmp ha rfl), ?_⟩
      | refine ⟨_, fun tm ha => step1_min rfl (ev_tmp ha rfl) (ev_tmp ha rfl), ?_⟩
      | refine CV.wide callees rfl [0, 1, 2, 3, 4, 5, 6, 7, 8, 10, 11, 12, 13, 14, 9, 15, 16, 17, 18] (by kernel_rfl) ?_
      | (refine (first_spec (by first | exact Nat.le_refl _ | assumption) hv (by omega) hs).mono ?_; rintro r H' ⟨rfl, rfl⟩)
      | (refine (last_spec (by first | exact Nat.le_refl _ | assumption) hv (by omega) hs).mono ?_; rintro r H' ⟨rfl, rfl⟩)
      | (refine ⟨fun _ => ?_, fun _ => ?_⟩ <;> first | (exfalso; omega) | skip)
      | fail
    all_goals (refine ⟨rfl, ?_, rfl⟩; rw [hF]; first | rw [if_pos (show row < lev xs xs[i]!.toNat by omega)] | rw [if_neg (show ¬ row < lev xs xs[i]!.toNat by omega), if_pos (⟨by omega, by omega⟩ : row = lev xs xs[i]!.toNat ∧ fst xs xs[i]! < lst xs xs[i]!)] | rw [if_neg (show ¬ row < lev xs xs[i]!.toNat by omega), if_neg (show ¬ (row = lev xs xs[i]!.toNat ∧ fst xs xs[i]! < lst xs xs[i]!) by omega), if_pos (show lev xs xs[i]!.toNat < row by omega)] | rw [if_neg (show ¬ row < lev xs xs[i]!.toNat by omega), if_neg (show ¬ (row = lev xs xs[i]!.toNat ∧ fst xs xs[i]! < lst xs xs[i]!) by omega), if_neg (show ¬ lev xs xs[i]!.toNat < row by omega)] | rw [if_neg (show ¬ row < lev xs xs[i]!.toNat by omega), if_neg (show ¬ (row = lev xs xs[i]!.toNat ∧ fst xs xs[i]! < lst xs xs[i]!) by omega)])
end Go.Proofs.YthcchjmjblegdaaDoor
