/- Moves: the reference, and both held against each other. -/
import Derived.Test.YthcchjmjblegdaaDoorG1
import Derived.Test.YthcchjmjblegdaaDoorY4
namespace Go.Proofs.YthcchjmjblegdaaDoor
open Go.AI
abbrev VB (b : Bool) : Value := .bool b
theorem un87 : Tryd.prog.underlying 87 = some (.slice 4) := by kernel_rfl
theorem one4 : oneBB Tryd.prog 4 = some (.bool false, 1) := by kernel_rfl
theorem sz4 : sizeB Tryd.prog 4 = some 1 := by kernel_rfl
theorem ag4 : isAggB Tryd.prog 4 = some false := by kernel_rfl
set_option maxRecDepth 100000 in
theorem refCheckBoth_spec {B : Nat} {v u : Value} {H : Heap} {xs ys : List Int} (hB : B ≤ H.n) (hv : Ints H v xs) (hu : Ints H u ys) :
    CallB Tryd.prog B 91 [v, u] H (fun r H' => r = .int .i64 (chk2 xs ys) ∧ H' = H) := by
  refine CV.enter callees false rfl Tryd.func91 rfl ok91 (Nat.le_of_ble_eq_true rfl) hB ?_
  repeat' first
    | refine CO.cons rfl ?_
    | refine CO.nil ?_
    | refine CV.seq ?_
    | refine CV.region callees ?_
    | refine CV.cond ?_
    | refine CV.block ?_
    | refine CV.skip ?_
    | refine CV.exit ?_
    | refine CV.ret ?_
    | refine CV.scope ?_
    | refine CV.draw callees rfl ?_
    | refine CH.cons rfl ?_
    | refine CH.nil ?_
    | refine CO.consG rfl ?_
    | refine CH.consG rfl ?_
    | refine CG.cons rfl ?_
    | refine CG.nil ?_
    | refine CG.consG rfl ?_
    | refine ⟨(rfl : plain _ = true), ?_⟩
    | refine ⟨(rfl : nilOk _ = some _), ?_⟩
    | refine ⟨_, ints_len (by assumption), ?_⟩
    | refine ⟨_, ints_addr (by assumption) (by omega) (by omega), ?_⟩
    | refine ⟨_, ints_load (by assumption) (by omega) (by omega), ?_⟩
    | refine ⟨(⟨by omega, by omega⟩ : inI64 _), ?_⟩
    | refine ⟨_, fun tm ha => step1_max rfl (ev_tmp ha rfl) (ev_tmp ha rfl), ?_⟩
    | refine ⟨_, fun tm ha => step1_min rfl (ev_tmp ha rfl) (ev_tmp ha rfl), ?_⟩
    | (refine ⟨fun _ => ?_, fun _ => ?_⟩ <;> first | (exfalso; omega) | skip)
    | fail
  refine (refCheck_spec hB hv).mono ?_
  rintro r H' ⟨rfl, rfl⟩
  repeat' first
    | refine CO.cons rfl ?_
    | refine CO.nil ?_
    | refine CV.seq ?_
    | refine CV.region callees ?_
    | refine CV.cond ?_
    | refine CV.block ?_
    | refine CV.skip ?_
    | refine CV.exit ?_
    | refine CV.ret ?_
    | refine CV.scope ?_
    | refine CV.draw callees rfl ?_
    | refine CH.cons rfl ?_
    | refine CH.nil ?_
    | refine CO.consG rfl ?_
    | refine CH.consG rfl ?_
    | refine CG.cons rfl ?_
    | refine CG.nil ?_
    | refine CG.consG rfl ?_
    | refine ⟨(rfl : plain _ = true), ?_⟩
    | refine ⟨(rfl : nilOk _ = some _), ?_⟩
    | refine ⟨_, ints_len (by assumption), ?_⟩
    | refine ⟨_, ints_addr (by assumption) (by omega) (by omega), ?_⟩
    | refine ⟨_, ints_load (by assumption) (by omega) (by omega), ?_⟩
    | refine ⟨(⟨by omega, by omega⟩ : inI64 _), ?_⟩
    | refine ⟨_, fun tm ha => step1_max rfl (ev_tmp ha rfl) (ev_tmp ha rfl), ?_⟩
    | refine ⟨_, fun tm ha => step1_min rfl (ev_tmp ha rfl) (ev_tmp ha rfl), ?_⟩
    | (refine ⟨fun _ => ?_, fun _ => ?_⟩ <;> first | (exfalso; omega) | skip)
    | fail
  · exact ⟨rfl, by rw [chk2, if_neg (by assumption)], rfl⟩
  have h1 : check xs = 0 := Classical.not_not.1 (by assumption)
  refine (refCheck_spec hB hu).mono ?_
  rintro r H' ⟨rfl, rfl⟩
  repeat' first
    | refine CO.cons rfl ?_
    | refine CO.nil ?_
    | refine CV.seq ?_
    | refine CV.region callees ?_
    | refine CV.cond ?_
    | refine CV.block ?_
    | refine CV.skip ?_
    | refine CV.exit ?_
    | refine CV.ret ?_
    | refine CV.scope ?_
    | refine CV.draw callees rfl ?_
    | refine CH.cons rfl ?_
    | refine CH.nil ?_
    | refine CO.consG rfl ?_
    | refine CH.consG rfl ?_
    | refine CG.cons rfl ?_
    | refine CG.nil ?_
    | refine CG.consG rfl ?_
    | refine ⟨(rfl : plain _ = true), ?_⟩
    | refine ⟨(rfl : nilOk _ = some _), ?_⟩
    | refine ⟨_, ints_len (by assumption), ?_⟩
    | refine ⟨_, ints_addr (by assumption) (by omega) (by omega), ?_⟩
    | refine ⟨_, ints_load (by assumption) (by omega) (by omega), ?_⟩
    | refine ⟨(⟨by omega, by omega⟩ : inI64 _), ?_⟩
    | refine ⟨_, fun tm ha => step1_max rfl (ev_tmp ha rfl) (ev_tmp ha rfl), ?_⟩
    | refine ⟨_, fun tm ha => step1_min rfl (ev_tmp ha rfl) (ev_tmp ha rfl), ?_⟩
    | (refine ⟨fun _ => ?_, fun _ => ?_⟩ <;> first | (exfalso; omega) | skip)
    | fail
  · exact ⟨rfl, by rw [chk2, if_pos h1, if_neg (by assumption)], rfl⟩
  · have h2 : check ys = 0 := Classical.not_not.1 (by assumption)
    exact ⟨rfl, by rw [chk2, if_pos h1, if_pos h2, if_neg (by omega)], rfl⟩
  · have h2 : check ys = 0 := Classical.not_not.1 (by assumption)
    exact ⟨rfl, by rw [chk2, if_pos h1, if_pos h2, if_pos (by omega)], rfl⟩
theorem cnt_succ (p : Nat → Bool) (n : Nat) : cnt p (n + 1) = cnt p n + if p n then 1 else 0 := by
  unfold cnt
  rw [List.range_succ, List.filter_append, List.length_append]
  cases h : p n <;> simp [h]
set_option maxHeartbeats 1000000 in
set_option maxRecDepth 100000 in
theorem common_spec {B : Nat} {v u : Value} {H : Heap} {xs ys : List Int} {x y : Int} (hB : B ≤ H.n) (hv : Ints H v xs) (hu : Ints H u ys) (hl : xs.length = ys.length) (h9 : xs.length ≤ 9) :
    CallB Tryd.prog B 110 [v, u, .int .i64 x, .int .i64 y] H (fun r H' => r = .int .i64 (common xs ys x y) ∧ H' = H) := by
  refine CV.enter callees false rfl Tryd.func110 rfl ok110 (Nat.le_of_ble_eq_true rfl) hB ?_
  repeat' first
    | refine CO.cons rfl ?_
    | refine CO.nil ?_
    | refine CV.seq ?_
    | refine CV.region callees ?_
    | refine CV.cond ?_
    | refine CV.block ?_
    | refine CV.skip ?_
    | refine CV.exit ?_
    | refine CV.ret ?_
    | refine CV.scope ?_
    | refine CV.draw callees rfl ?_
    | refine CH.cons rfl ?_
    | refine CH.nil ?_
    | refine CO.consG rfl ?_
    | refine CH.consG rfl ?_
    | refine CG.cons rfl ?_
    | refine CG.nil ?_
    | refine CG.consG rfl ?_
    | refine ⟨(rfl : plain _ = true), ?_⟩
    | refine ⟨(rfl : nilOk _ = some _), ?_⟩
    | refine ⟨_, ints_len (by assumption), ?_⟩
    | refine ⟨_, ints_addr (by assumption) (by omega) (by omega), ?_⟩
    | refine ⟨_, ints_load (by assumption) (by omega) (by omega), ?_⟩
    | refine ⟨(⟨by omega, by omega⟩ : inI64 _), ?_⟩
    | refine ⟨_, fun tm ha => step1_max rfl (ev_tmp ha rfl) (ev_tmp ha rfl), ?_⟩
    | refine ⟨_, fun tm ha => step1_min rfl (ev_tmp ha rfl) (ev_tmp ha rfl), ?_⟩
    | (refine ⟨fun _ => ?_, fun _ => ?_⟩ <;> first | (exfalso; omega) | skip)
    | fail
  refine CV.loopc ?_
  refine WCv.rounds callees false (α := Nat) (fun i => [(0, v), (1, u), (2, .int .i64 x), (3, .int .i64 y), (9, .int .i64 (cnt (both xs ys x y) i)), (10, .int .i64 i)]) (fun i Hz => Hz = H ∧ i ≤ xs.length) (fun i => xs.length - i) (0) (by repeat' first | exact trivial | refine ⟨rfl, ?_⟩ | refine ⟨slot_int (by (try simp only [Int.toNat_natCast]); omega), ?_⟩) ?_ ?_
  · exact ⟨rfl, by omega⟩
  rintro i Hx ⟨rfl, hi0⟩ hBx
  have hc := cnt_leN (both xs ys x y) i
  have hs := cnt_succ (both xs ys x y) i
  repeat' first
    | refine CO.cons rfl ?_
    | refine CO.nil ?_
    | refine CV.seq ?_
    | refine CV.region callees ?_
    | refine CV.cond ?_
    | refine CV.block ?_
    | refine CV.skip ?_
    | refine CV.exit ?_
    | refine CV.ret ?_
    | refine CV.scope ?_
    | refine CV.draw callees rfl ?_
    | refine CH.cons rfl ?_
    | refine CH.nil ?_
    | refine CO.consG rfl ?_
    | refine CH.consG rfl ?_
    | refine CG.cons rfl ?_
    | refine CG.nil ?_
    | refine CG.consG rfl ?_
    | refine ⟨(rfl : plain _ = true), ?_⟩
    | refine ⟨(rfl : nilOk _ = some _), ?_⟩
    | refine ⟨_, ints_len (by assumption), ?_⟩
    | refine ⟨_, ints_addr (by assumption) (by omega) (by omega), ?_⟩
    | refine ⟨_, ints_load (by assumption) (by omega) (by omega), ?_⟩
    | refine ⟨(⟨by omega, by omega⟩ : inI64 _), ?_⟩
    | refine ⟨_, fun tm ha => step1_max rfl (ev_tmp ha rfl) (ev_tmp ha rfl), ?_⟩
    | refine ⟨_, fun tm ha => step1_min rfl (ev_tmp ha rfl) (ev_tmp ha rfl), ?_⟩
    | (refine ⟨fun _ => ?_, fun _ => ?_⟩ <;> first | (exfalso; omega) | skip)
    | fail
  · rename_i h1 h2 h3
    rw [Int.toNat_natCast] at h2 h3
    rw [both_iff.2 ⟨h2, h3⟩, if_pos rfl] at hs
    refine ⟨(i + 1), (by repeat' first | exact trivial | refine ⟨rfl, ?_⟩ | refine ⟨slot_int (by (try simp only [Int.toNat_natCast]); omega), ?_⟩), (by (try dsimp only); omega), ?_⟩
    exact ⟨rfl, by omega⟩
  · rename_i h1 h2 h3
    rw [Int.toNat_natCast] at h2 h3
    have h4 : both xs ys x y i = false := by
      cases h5 : both xs ys x y i with
      | false => rfl
      | true => exact absurd (both_iff.1 h5).2 h3
    rw [h4, if_neg (by decide)] at hs
    refine ⟨(i + 1), (by repeat' first | exact trivial | refine ⟨rfl, ?_⟩ | refine ⟨slot_int (by (try simp only [Int.toNat_natCast]); omega), ?_⟩), (by (try dsimp only); omega), ?_⟩
    exact ⟨rfl, by omega⟩
  · rename_i h1 h2
    rw [Int.toNat_natCast] at h2
    have h4 : both xs ys x y i = false := by
      cases h5 : both xs ys x y i with
      | false => rfl
      | true => exact absurd (both_iff.1 h5).1 h2
    rw [h4, if_neg (by decide)] at hs
    refine ⟨(i + 1), (by repeat' first | exact trivial | refine ⟨rfl, ?_⟩ | refine ⟨slot_int (by (try simp only [Int.toNat_natCast]); omega), ?_⟩), (by (try dsimp only); omega), ?_⟩
    exact ⟨rfl, by omega⟩
  · exact ⟨rfl, by rw [show i = xs.length by omega]; rfl, rfl⟩
theorem bools_len {H : Heap} {v : Value} {l : List Bool} (h : Row H v (l.map VB)) : alen Tryd.prog H 87 v = some (.int .i64 l.length) := by
  have := Row.alen h un87; simpa using this
theorem bools_addr {H : Heap} {v : Value} {l : List Bool} (h : Row H v (l.map VB)) {i : Int} (h0 : 0 ≤ i) (h1 : i < l.length) : aindexAddr Tryd.prog 87 v (.int .i64 i) = some (elemAt v i.toNat) := Row.addr h un87 sz4 h0 (by simpa using h1)
theorem bools_load {H : Heap} {v : Value} {l : List Bool} (h : Row H v (l.map VB)) {i : Int} (h0 : 0 ≤ i) (h1 : i < l.length) : aload Tryd.prog 4 H (elemAt v i.toNat) = some (VB l[i.toNat]!) := by
  have : i.toNat < l.length := by omega
  exact Row.load h ag4 (by simp [List.getElem?_map, List.getElem?_eq_getElem this, getElem!_pos, this])
theorem bput_ask {H : Heap} {K : Heap → Prop} {B B0 : Nat} {x : Value} {y : Bool} {l : List Bool} {i : Nat} (hx : Own 4 H x (l.map VB) B0) (hB : B ≤ B0) (hi : i < l.length)
    (hk : ∀ H', Own 4 H' x ((l.set i y).map VB) B0 → KeepBut x H H' → K H') :
    ∃ H' b, astore Tryd.prog 4 H (.bool y) (elemAt x i) = some (H', b) ∧ B ≤ b ∧ K H' :=
  store_ask sz4 hx hB (by simpa using hi) rfl fun H' h => hk H' (by rw [List.map_set]; exact h)
set_option maxHeartbeats 2000000 in
set_option maxRecDepth 100000 in
theorem stay_spec {xs ys : List Int} (hcx : check xs = 0) (hcy : check ys = 0) (hl : xs.length = ys.length) : ∀ (d : Nat) {B : Nat} {v u t : Value} {H0 H : Heap} {x : Int} {tk : List Bool}, B ≤ H0.n → Ints H0 v xs → Ints H0 u ys → Keep H0 H → Own 4 H t (tk.map VB) H0.n → tk.length ≤ 9 → 0 ≤ x → x + d = blkFrom xs 0 →
    CallB Tryd.prog B 95 [v, u, .int .i64 x, t] H (fun r H' => (∃ m : Nat, r = .int .i64 m ∧ m ≤ 9 ∧ Best xs ys x tk m) ∧ Own 4 H' t (tk.map VB) H0.n ∧ Keep H0 H')
  | d, B, v, u, t, H0, H, x, tk, hB0, hv0, hu0, k0, ht, htl, hx0, hd => by
    have hB : B ≤ H.n := Nat.le_trans hB0 k0.1
    have hlx := check_len hcx
    have hbx : ∀ i, i < xs.length → 0 ≤ xs[i]! ∧ xs[i]! < 9 := fun i hi => check_bound hcx hi
    have hby : ∀ i, i < xs.length → 0 ≤ ys[i]! := fun i hi => (check_bound hcy (by omega)).1
    have hb9 := blk_le9 xs 0 (by omega) fun i hi => (hbx i hi).2
    have hv : Ints H v xs := hv0.keep k0
    refine CV.enter callees false rfl Tryd.func95 rfl ok95 (Nat.le_of_ble_eq_true rfl) hB ?_
    repeat' first
      | refine CO.cons rfl ?_
      | refine CO.nil ?_
      | refine CV.seq ?_
      | refine CV.region callees ?_
      | refine CV.cond ?_
      | refine CV.block ?_
      | refine CV.skip ?_
      | refine CV.exit ?_
      | refine CV.ret ?_
      | refine CV.scope ?_
      | refine CV.draw callees rfl ?_
      | refine CH.cons rfl ?_
      | refine CH.nil ?_
      | refine CO.consG rfl ?_
      | refine CH.consG rfl ?_
      | refine CG.cons rfl ?_
      | refine CG.nil ?_
      | refine CG.consG rfl ?_
      | refine ⟨(rfl : plain _ = true), ?_⟩
      | refine ⟨(rfl : nilOk _ = some _), ?_⟩
      | refine ⟨_, ints_len (by assumption), ?_⟩
      | refine ⟨_, ints_addr (by assumption) (by omega) (by omega), ?_⟩
      | refine ⟨_, ints_load (by assumption) (by omega) (by omega), ?_⟩
      | refine ⟨(⟨by omega, by omega⟩ : inI64 _), ?_⟩
      | refine ⟨_, fun tm ha => step1_max rfl (ev_tmp ha rfl) (ev_tmp ha rfl), ?_⟩
      | refine ⟨_, fun tm ha => step1_min rfl (ev_tmp ha rfl) (ev_tmp ha rfl), ?_⟩
      | (refine ⟨fun _ => ?_, fun _ => ?_⟩ <;> first | (exfalso; omega) | skip)
      | fail
    refine (refBlocks_spec hB hv hbx (by omega)).mono ?_
    rintro r H1 ⟨rfl, rfl⟩
    cases d with
    | zero =>
      repeat' first
        | refine CO.cons rfl ?_
        | refine CO.nil ?_
        | refine CV.seq ?_
        | refine CV.region callees ?_
        | refine CV.cond ?_
        | refine CV.block ?_
        | refine CV.skip ?_
        | refine CV.exit ?_
        | refine CV.ret ?_
        | refine CV.scope ?_
        | refine CV.draw callees rfl ?_
        | refine CH.cons rfl ?_
        | refine CH.nil ?_
        | refine CO.consG rfl ?_
        | refine CH.consG rfl ?_
        | refine CG.cons rfl ?_
        | refine CG.nil ?_
        | refine CG.consG rfl ?_
        | refine ⟨(rfl : plain _ = true), ?_⟩
        | refine ⟨(rfl : nilOk _ = some _), ?_⟩
        | refine ⟨_, ints_len (by assumption), ?_⟩
        | refine ⟨_, ints_addr (by assumption) (by omega) (by omega), ?_⟩
        | refine ⟨_, ints_load (by assumption) (by omega) (by omega), ?_⟩
        | refine ⟨(⟨by omega, by omega⟩ : inI64 _), ?_⟩
        | refine ⟨_, fun tm ha => step1_max rfl (ev_tmp ha rfl) (ev_tmp ha rfl), ?_⟩
        | refine ⟨_, fun tm ha => step1_min rfl (ev_tmp ha rfl) (ev_tmp ha rfl), ?_⟩
        | (refine ⟨fun _ => ?_, fun _ => ?_⟩ <;> first | (exfalso; omega) | skip)
        | fail
      exact ⟨rfl, ⟨0, rfl, by omega, Best.end' fun i hi => by have := blk_gt xs 0 i hi; omega⟩, ht, k0⟩
    | succ d =>
      repeat' first
        | refine CO.cons rfl ?_
        | refine CO.nil ?_
        | refine CV.seq ?_
        | refine CV.region callees ?_
        | refine CV.cond ?_
        | refine CV.block ?_
        | refine CV.skip ?_
        | refine CV.exit ?_
        | refine CV.ret ?_
        | refine CV.scope ?_
        | refine CV.draw callees rfl ?_
        | refine CH.cons rfl ?_
        | refine CH.nil ?_
        | refine CO.consG rfl ?_
        | refine CH.consG rfl ?_
        | refine CG.cons rfl ?_
        | refine CG.nil ?_
        | refine CG.consG rfl ?_
        | refine ⟨(rfl : plain _ = true), ?_⟩
        | refine ⟨(rfl : nilOk _ = some _), ?_⟩
        | refine ⟨_, ints_len (by assumption), ?_⟩
        | refine ⟨_, ints_addr (by assumption) (by omega) (by omega), ?_⟩
        | refine ⟨_, ints_load (by assumption) (by omega) (by omega), ?_⟩
        | refine ⟨(⟨by omega, by omega⟩ : inI64 _), ?_⟩
        | refine ⟨_, fun tm ha => step1_max rfl (ev_tmp ha rfl) (ev_tmp ha rfl), ?_⟩
        | refine ⟨_, fun tm ha => step1_min rfl (ev_tmp ha rfl) (ev_tmp ha rfl), ?_⟩
        | (refine ⟨fun _ => ?_, fun _ => ?_⟩ <;> first | (exfalso; omega) | skip)
        | fail
      refine (stay_spec hcx hcy hl d hB0 hv0 hu0 k0 ht htl (by omega) (by omega)).mono ?_
      rintro r H2 ⟨⟨m0, rfl, hm0, hM0⟩, ht2, k2⟩
      repeat' first
        | refine CO.cons rfl ?_
        | refine CO.nil ?_
        | refine CV.seq ?_
        | refine CV.region callees ?_
        | refine CV.cond ?_
        | refine CV.block ?_
        | refine CV.skip ?_
        | refine CV.exit ?_
        | refine CV.ret ?_
        | refine CV.scope ?_
        | refine CV.draw callees rfl ?_
        | refine CH.cons rfl ?_
        | refine CH.nil ?_
        | refine CO.consG rfl ?_
        | refine CH.consG rfl ?_
        | refine CG.cons rfl ?_
        | refine CG.nil ?_
        | refine CG.consG rfl ?_
        | refine ⟨(rfl : plain _ = true), ?_⟩
        | refine ⟨(rfl : nilOk _ = some _), ?_⟩
        | refine ⟨_, ints_len (by assumption), ?_⟩
        | refine ⟨_, ints_addr (by assumption) (by omega) (by omega), ?_⟩
        | refine ⟨_, ints_load (by assumption) (by omega) (by omega), ?_⟩
        | refine ⟨(⟨by omega, by omega⟩ : inI64 _), ?_⟩
        | refine ⟨_, fun tm ha => step1_max rfl (ev_tmp ha rfl) (ev_tmp ha rfl), ?_⟩
        | refine ⟨_, fun tm ha => step1_min rfl (ev_tmp ha rfl) (ev_tmp ha rfl), ?_⟩
        | (refine ⟨fun _ => ?_, fun _ => ?_⟩ <;> first | (exfalso; omega) | skip)
        | fail
      refine CV.loopc ?_
      refine WCv.rounds callees false (α := Nat × Nat) (fun (j, m) => [(0, v), (1, u), (2, .int .i64 x), (3, t), (9, .int .i64 m), (10, .int .i64 j)]) (fun (j, m) Hz => j ≤ tk.length ∧ m ≤ 9 ∧ Own 4 Hz t (tk.map VB) H0.n ∧ Keep H0 Hz ∧ Try xs ys x tk j m) (fun (j, m) => tk.length - j) (0, m0) (by repeat' first | exact trivial | refine ⟨rfl, ?_⟩ | refine ⟨slot_int (by (try simp only [Int.toNat_natCast]); omega), ?_⟩) ?_ ?_
      · exact ⟨by omega, hm0, ht2, k2, hM0.start hby⟩
      rintro ⟨j, m⟩ Hx ⟨hj, hm, htx, kx, hT⟩ hBx
      have hvx : Ints Hx v xs := hv0.keep kx
      have hux : Ints Hx u ys := hu0.keep kx
      have htr := htx.row
      repeat' first
        | refine CO.cons rfl ?_
        | refine CO.nil ?_
        | refine CV.seq ?_
        | refine CV.region callees ?_
        | refine CV.cond ?_
        | refine CV.block ?_
        | refine CV.skip ?_
        | refine CV.exit ?_
        | refine CV.ret ?_
        | refine CV.scope ?_
        | refine CV.draw callees rfl ?_
        | refine CH.cons rfl ?_
        | refine CH.nil ?_
        | refine CO.consG rfl ?_
        | refine CH.consG rfl ?_
        | refine CG.cons rfl ?_
        | refine CG.nil ?_
        | refine CG.consG rfl ?_
        | refine ⟨(rfl : plain _ = true), ?_⟩
        | refine ⟨(rfl : nilOk _ = some _), ?_⟩
        | refine ⟨_, ints_len (by assumption), ?_⟩
        | refine ⟨_, ints_addr (by assumption) (by omega) (by omega), ?_⟩
        | refine ⟨_, ints_load (by assumption) (by omega) (by omega), ?_⟩
        | refine ⟨(⟨by omega, by omega⟩ : inI64 _), ?_⟩
        | refine ⟨_, fun tm ha => step1_max rfl (ev_tmp ha rfl) (ev_tmp ha rfl), ?_⟩
        | refine ⟨_, fun tm ha => step1_min rfl (ev_tmp ha rfl) (ev_tmp ha rfl), ?_⟩
        | refine ⟨_, bools_len htr, ?_⟩
        | (refine ⟨fun _ => ?_, fun _ => ?_⟩ <;> first | (exfalso; omega) | skip)
        | fail
      · refine (common_spec hBx hvx hux hl hlx.2).mono ?_
        rintro r H3 ⟨rfl, rfl⟩
        have hcn : common xs ys x j ≤ 9 := Nat.le_trans (cnt_leN _ _) hlx.2
        obtain ⟨f, hf⟩ : ∃ f, tk[(j : Int).toNat]! = f := ⟨_, rfl⟩
        have hf2 : tk[j]? = some f := by
          rw [Int.toNat_natCast] at hf
          rw [List.getElem?_eq_getElem (by omega), ← hf, getElem!_pos tk j (by omega)]
        have hld := bools_load htr (i := (j : Int)) (by omega) (by omega)
        rw [hf] at hld
        have hskip : (common xs ys x j = 0 ∨ f = true) → Try xs ys x tk ((j + 1 : Nat) : Int) m := fun h => by
          rw [show ((j + 1 : Nat) : Int) = (j : Int) + 1 by omega]
          refine hT.skip (by omega) (h.imp id fun h => ?_)
          rw [Int.toNat_natCast, hf2, h]; simp
        cases f with
        | true =>
          repeat' first
            | refine CO.cons rfl ?_
            | refine CO.nil ?_
            | refine CV.seq ?_
            | refine CV.region callees ?_
            | refine CV.cond ?_
            | refine CV.block ?_
            | refine CV.skip ?_
            | refine CV.exit ?_
            | refine CV.ret ?_
            | refine CV.scope ?_
            | refine CV.draw callees rfl ?_
            | refine CH.cons rfl ?_
            | refine CH.nil ?_
            | refine CO.consG rfl ?_
            | refine CH.consG rfl ?_
            | refine CG.cons rfl ?_
            | refine CG.nil ?_
            | refine CG.consG rfl ?_
            | refine ⟨(rfl : plain _ = true), ?_⟩
            | refine ⟨(rfl : nilOk _ = some _), ?_⟩
            | refine ⟨_, ints_len (by assumption), ?_⟩
            | refine ⟨_, ints_addr (by assumption) (by omega) (by omega), ?_⟩
            | refine ⟨_, ints_load (by assumption) (by omega) (by omega), ?_⟩
            | refine ⟨(⟨by omega, by omega⟩ : inI64 _), ?_⟩
            | refine ⟨_, fun tm ha => step1_max rfl (ev_tmp ha rfl) (ev_tmp ha rfl), ?_⟩
            | refine ⟨_, fun tm ha => step1_min rfl (ev_tmp ha rfl) (ev_tmp ha rfl), ?_⟩
            | refine ⟨_, bools_addr htr (by omega) (by omega), ?_⟩
            | refine ⟨_, hld, ?_⟩
            | (refine ⟨fun _ => ?_, fun _ => ?_⟩ <;> first | (exfalso; omega) | skip)
            | fail
          · refine ⟨(j + 1, m), (by repeat' first | exact trivial | refine ⟨rfl, ?_⟩ | refine ⟨slot_int (by (try simp only [Int.toNat_natCast]); omega), ?_⟩), (by (try dsimp only); omega), ?_⟩
            exact ⟨by omega, hm, htx, kx, hskip (.inr rfl)⟩
          · refine ⟨(j + 1, m), (by repeat' first | exact trivial | refine ⟨rfl, ?_⟩ | refine ⟨slot_int (by (try simp only [Int.toNat_natCast]); omega), ?_⟩), (by (try dsimp only); omega), ?_⟩
            exact ⟨by omega, hm, htx, kx, hskip (.inr rfl)⟩
        | false =>
          repeat' first
            | refine CO.cons rfl ?_
            | refine CO.nil ?_
            | refine CV.seq ?_
            | refine CV.region callees ?_
            | refine CV.cond ?_
            | refine CV.block ?_
            | refine CV.skip ?_
            | refine CV.exit ?_
            | refine CV.ret ?_
            | refine CV.scope ?_
            | refine CV.draw callees rfl ?_
            | refine CH.cons rfl ?_
            | refine CH.nil ?_
            | refine CO.consG rfl ?_
            | refine CH.consG rfl ?_
            | refine CG.cons rfl ?_
            | refine CG.nil ?_
            | refine CG.consG rfl ?_
            | refine ⟨(rfl : plain _ = true), ?_⟩
            | refine ⟨(rfl : nilOk _ = some _), ?_⟩
            | refine ⟨_, ints_len (by assumption), ?_⟩
            | refine ⟨_, ints_addr (by assumption) (by omega) (by omega), ?_⟩
            | refine ⟨_, ints_load (by assumption) (by omega) (by omega), ?_⟩
            | refine ⟨(⟨by omega, by omega⟩ : inI64 _), ?_⟩
            | refine ⟨_, fun tm ha => step1_max rfl (ev_tmp ha rfl) (ev_tmp ha rfl), ?_⟩
            | refine ⟨_, fun tm ha => step1_min rfl (ev_tmp ha rfl) (ev_tmp ha rfl), ?_⟩
            | refine ⟨_, bools_addr htr (by omega) (by omega), ?_⟩
            | refine ⟨_, hld, ?_⟩
            | (refine ⟨fun _ => ?_, fun _ => ?_⟩ <;> first | (exfalso; omega) | skip)
            | fail
          · refine bput_ask (i := (j : Int).toNat) htx hB0 (by omega) ?_
            rw [Int.toNat_natCast]
            intro H4 ht4 kb4
            have k4 := kb4.keep kx fun c hc => (htx.lt hc).1
            repeat' first
              | refine CO.cons rfl ?_
              | refine CO.nil ?_
              | refine CV.seq ?_
              | refine CV.region callees ?_
              | refine CV.cond ?_
              | refine CV.block ?_
              | refine CV.skip ?_
              | refine CV.exit ?_
              | refine CV.ret ?_
              | refine CV.scope ?_
              | refine CV.draw callees rfl ?_
              | refine CH.cons rfl ?_
              | refine CH.nil ?_
              | refine CO.consG rfl ?_
              | refine CH.consG rfl ?_
              | refine CG.cons rfl ?_
              | refine CG.nil ?_
              | refine CG.consG rfl ?_
              | refine ⟨(rfl : plain _ = true), ?_⟩
              | refine ⟨(rfl : nilOk _ = some _), ?_⟩
              | refine ⟨_, ints_len (by assumption), ?_⟩
              | refine ⟨_, ints_addr (by assumption) (by omega) (by omega), ?_⟩
              | refine ⟨_, ints_load (by assumption) (by omega) (by omega), ?_⟩
              | refine ⟨(⟨by omega, by omega⟩ : inI64 _), ?_⟩
              | refine ⟨_, fun tm ha => step1_max rfl (ev_tmp ha rfl) (ev_tmp ha rfl), ?_⟩
              | refine ⟨_, fun tm ha => step1_min rfl (ev_tmp ha rfl) (ev_tmp ha rfl), ?_⟩
              | (refine ⟨fun _ => ?_, fun _ => ?_⟩ <;> first | (exfalso; omega) | skip)
              | fail
            refine (stay_spec hcx hcy hl d hB0 hv0 hu0 k4 ht4 (by rw [List.length_set]; exact htl) (by omega) (by omega)).mono ?_
            rintro r H5 ⟨⟨m1, rfl, hm1, hM1⟩, ht5, k5⟩
            repeat' first
              | refine CO.cons rfl ?_
              | refine CO.nil ?_
              | refine CV.seq ?_
              | refine CV.region callees ?_
              | refine CV.cond ?_
              | refine CV.block ?_
              | refine CV.skip ?_
              | refine CV.exit ?_
              | refine CV.ret ?_
              | refine CV.scope ?_
              | refine CV.draw callees rfl ?_
              | refine CH.cons rfl ?_
              | refine CH.nil ?_
              | refine CO.consG rfl ?_
              | refine CH.consG rfl ?_
              | refine CG.cons rfl ?_
              | refine CG.nil ?_
              | refine CG.consG rfl ?_
              | refine ⟨(rfl : plain _ = true), ?_⟩
              | refine ⟨(rfl : nilOk _ = some _), ?_⟩
              | refine ⟨_, ints_len (by assumption), ?_⟩
              | refine ⟨_, ints_addr (by assumption) (by omega) (by omega), ?_⟩
              | refine ⟨_, ints_load (by assumption) (by omega) (by omega), ?_⟩
              | refine ⟨(⟨by omega, by omega⟩ : inI64 _), ?_⟩
              | refine ⟨_, fun tm ha => step1_max rfl (ev_tmp ha rfl) (ev_tmp ha rfl), ?_⟩
              | refine ⟨_, fun tm ha => step1_min rfl (ev_tmp ha rfl) (ev_tmp ha rfl), ?_⟩
              | refine ⟨_, bools_addr ht5.row (by omega) (by rw [List.length_set]; omega), ?_⟩
              | (refine ⟨fun _ => ?_, fun _ => ?_⟩ <;> first | (exfalso; omega) | skip)
              | fail
            refine bput_ask (i := (j : Int).toNat) ht5 hB0 (by rw [List.length_set]; omega) ?_
            rw [Int.toNat_natCast]
            intro H6 ht6 kb6
            have k6 := kb6.keep k5 fun c hc => (ht5.lt hc).1
            have e6 : (tk.set j true).set j false = tk := by
              rw [List.set_set]
              apply List.ext_getElem?
              intro q
              rw [List.getElem?_set]
              split
              · rename_i hq
                subst hq
                rw [if_pos (by omega), hf2]
              · rfl
            rw [e6] at ht6
            have hT' := hT.put (by omega) hby (by rw [Int.toNat_natCast]; exact hf2) (by rw [Int.toNat_natCast]; exact hM1)
            obtain ⟨p, _, hp⟩ := hT'.has
            have hp9 := cnt_leN p xs.length
            repeat' first
              | refine CO.cons rfl ?_
              | refine CO.nil ?_
              | refine CV.seq ?_
              | refine CV.region callees ?_
              | refine CV.cond ?_
              | refine CV.block ?_
              | refine CV.skip ?_
              | refine CV.exit ?_
              | refine CV.ret ?_
              | refine CV.scope ?_
              | refine CV.draw callees rfl ?_
              | refine CH.cons rfl ?_
              | refine CH.nil ?_
              | refine CO.consG rfl ?_
              | refine CH.consG rfl ?_
              | refine CG.cons rfl ?_
              | refine CG.nil ?_
              | refine CG.consG rfl ?_
              | refine ⟨(rfl : plain _ = true), ?_⟩
              | refine ⟨(rfl : nilOk _ = some _), ?_⟩
              | refine ⟨_, ints_len (by assumption), ?_⟩
              | refine ⟨_, ints_addr (by assumption) (by omega) (by omega), ?_⟩
              | refine ⟨_, ints_load (by assumption) (by omega) (by omega), ?_⟩
              | refine ⟨(⟨by omega, by omega⟩ : inI64 _), ?_⟩
              | refine ⟨_, fun tm ha => step1_max rfl (ev_tmp ha rfl) (ev_tmp ha rfl), ?_⟩
              | refine ⟨_, fun tm ha => step1_min rfl (ev_tmp ha rfl) (ev_tmp ha rfl), ?_⟩
              | (refine ⟨fun _ => ?_, fun _ => ?_⟩ <;> first | (exfalso; omega) | skip)
              | fail
            refine ⟨(j + 1, max m (common xs ys x j + m1)), (by repeat' first | exact trivial | refine ⟨rfl, ?_⟩ | refine ⟨slot_int (by (try simp only [Int.toNat_natCast]); omega), ?_⟩), (by (try dsimp only); omega), ?_⟩
            exact ⟨by omega, by omega, ht6, k6, by rw [show ((j + 1 : Nat) : Int) = (j : Int) + 1 by omega]; exact hT'⟩
          · refine ⟨(j + 1, m), (by repeat' first | exact trivial | refine ⟨rfl, ?_⟩ | refine ⟨slot_int (by (try simp only [Int.toNat_natCast]); omega), ?_⟩), (by (try dsimp only); omega), ?_⟩
            exact ⟨by omega, hm, htx, kx, hskip (.inl (by omega))⟩
      · exact ⟨rfl, ⟨m, rfl, hm, hT.done (by omega) hby⟩, htx, kx⟩

set_option maxHeartbeats 1000000 in
set_option maxRecDepth 100000 in
theorem refMoves_spec {B : Nat} {v u : Value} {H : Heap} {xs ys : List Int} (hB : B ≤ H.n) (hv : Ints H v xs) (hu : Ints H u ys) :
    CallB Tryd.prog B 48 [v, u] H (fun r H' => (∃ m : Int, r = .tuple #[.int .i64 m, .int .i64 (chk2 xs ys)] ∧ (chk2 xs ys = 0 → ∃ k : Nat, m = xs.length - k ∧ Stay xs ys k) ∧ (chk2 xs ys ≠ 0 → m = 0)) ∧ Keep H H') := by
  refine CV.enter callees false rfl Tryd.func48 rfl ok48 (Nat.le_of_ble_eq_true rfl) hB ?_
  repeat' first
    | refine CO.cons rfl ?_
    | refine CO.nil ?_
    | refine CV.seq ?_
    | refine CV.region callees ?_
    | refine CV.cond ?_
    | refine CV.block ?_
    | refine CV.skip ?_
    | refine CV.exit ?_
    | refine CV.ret ?_
    | refine CV.scope ?_
    | refine CV.draw callees rfl ?_
    | refine CH.cons rfl ?_
    | refine CH.nil ?_
    | refine CO.consG rfl ?_
    | refine CH.consG rfl ?_
    | refine CG.cons rfl ?_
    | refine CG.nil ?_
    | refine CG.consG rfl ?_
    | refine ⟨(rfl : plain _ = true), ?_⟩
    | refine ⟨(rfl : nilOk _ = some _), ?_⟩
    | refine ⟨_, ints_len (by assumption), ?_⟩
    | refine ⟨_, ints_addr (by assumption) (by omega) (by omega), ?_⟩
    | refine ⟨_, ints_load (by assumption) (by omega) (by omega), ?_⟩
    | refine ⟨(⟨by omega, by omega⟩ : inI64 _), ?_⟩
    | refine ⟨_, fun tm ha => step1_max rfl (ev_tmp ha rfl) (ev_tmp ha rfl), ?_⟩
    | refine ⟨_, fun tm ha => step1_min rfl (ev_tmp ha rfl) (ev_tmp ha rfl), ?_⟩
    | (refine ⟨fun _ => ?_, fun _ => ?_⟩ <;> first | (exfalso; omega) | skip)
    | fail
  refine (refCheckBoth_spec hB hv hu).mono ?_
  rintro r H1 ⟨rfl, rfl⟩
  repeat' first
    | refine CO.cons rfl ?_
    | refine CO.nil ?_
    | refine CV.seq ?_
    | refine CV.region callees ?_
    | refine CV.cond ?_
    | refine CV.block ?_
    | refine CV.skip ?_
    | refine CV.exit ?_
    | refine CV.ret ?_
    | refine CV.scope ?_
    | refine CV.draw callees rfl ?_
    | refine CH.cons rfl ?_
    | refine CH.nil ?_
    | refine CO.consG rfl ?_
    | refine CH.consG rfl ?_
    | refine CG.cons rfl ?_
    | refine CG.nil ?_
    | refine CG.consG rfl ?_
    | refine ⟨(rfl : plain _ = true), ?_⟩
    | refine ⟨(rfl : nilOk _ = some _), ?_⟩
    | refine ⟨_, ints_len (by assumption), ?_⟩
    | refine ⟨_, ints_addr (by assumption) (by omega) (by omega), ?_⟩
    | refine ⟨_, ints_load (by assumption) (by omega) (by omega), ?_⟩
    | refine ⟨(⟨by omega, by omega⟩ : inI64 _), ?_⟩
    | refine ⟨_, fun tm ha => step1_max rfl (ev_tmp ha rfl) (ev_tmp ha rfl), ?_⟩
    | refine ⟨_, fun tm ha => step1_min rfl (ev_tmp ha rfl) (ev_tmp ha rfl), ?_⟩
    | (refine ⟨fun _ => ?_, fun _ => ?_⟩ <;> first | (exfalso; omega) | skip)
    | fail
  · exact ⟨rfl, ⟨0, rfl, fun h => absurd h (by assumption), fun _ => rfl⟩, Keep.refl _⟩
  have h0 : chk2 xs ys = 0 := Classical.not_not.1 (by assumption)
  obtain ⟨hcx, hcy, hl⟩ := chk2_zero h0
  have hlx := check_len hcx
  have hby : ∀ i, i < ys.length → 0 ≤ ys[i]! ∧ ys[i]! < 9 := fun i hi => check_bound hcy hi
  refine (refBlocks_spec hB hu hby (by omega)).mono ?_
  rintro r H2 ⟨rfl, rfl⟩
  have hb9 := blk_le9 ys 0 (by omega) fun i hi => (hby i hi).2
  have hb0 := blk_from_ge ys 0
  obtain ⟨n, hn⟩ : ∃ n : Nat, blkFrom ys 0 = n := ⟨(blkFrom ys 0).toNat, by omega⟩
  have hx9 := blk_le9 xs 0 (by omega) fun i hi => (check_bound hcx hi).2
  have hx0 := blk_from_ge xs 0
  rw [hn]
  refine ⟨_, _, make_row un87 one4 (by omega) n (by omega), ?_⟩
  repeat' first
    | refine CO.cons rfl ?_
    | refine CO.nil ?_
    | refine CV.seq ?_
    | refine CV.region callees ?_
    | refine CV.cond ?_
    | refine CV.block ?_
    | refine CV.skip ?_
    | refine CV.exit ?_
    | refine CV.ret ?_
    | refine CV.scope ?_
    | refine CV.draw callees rfl ?_
    | refine CH.cons rfl ?_
    | refine CH.nil ?_
    | refine CO.consG rfl ?_
    | refine CH.consG rfl ?_
    | refine CG.cons rfl ?_
    | refine CG.nil ?_
    | refine CG.consG rfl ?_
    | refine ⟨(rfl : plain _ = true), ?_⟩
    | refine ⟨(rfl : nilOk _ = some _), ?_⟩
    | refine ⟨_, ints_len (by assumption), ?_⟩
    | refine ⟨_, ints_addr (by assumption) (by omega) (by omega), ?_⟩
    | refine ⟨_, ints_load (by assumption) (by omega) (by omega), ?_⟩
    | refine ⟨(⟨by omega, by omega⟩ : inI64 _), ?_⟩
    | refine ⟨_, fun tm ha => step1_max rfl (ev_tmp ha rfl) (ev_tmp ha rfl), ?_⟩
    | refine ⟨_, fun tm ha => step1_min rfl (ev_tmp ha rfl) (ev_tmp ha rfl), ?_⟩
    | (refine ⟨fun _ => ?_, fun _ => ?_⟩ <;> first | (exfalso; omega) | skip)
    | fail
  refine (stay_spec hcx hcy hl (blkFrom xs 0).toNat (tk := List.replicate n false) hB hv hu (Keep.new _ _) (.inr ⟨H2.n, by simp, Nat.le_refl _, Nat.lt_succ_self _, by rw [Heap.get_new_eq]; simp⟩) (by simp; omega) (by omega) (by omega)).mono ?_
  rintro r H3 ⟨⟨m, rfl, hm, hM⟩, _, k3⟩
  repeat' first
    | refine CO.cons rfl ?_
    | refine CO.nil ?_
    | refine CV.seq ?_
    | refine CV.region callees ?_
    | refine CV.cond ?_
    | refine CV.block ?_
    | refine CV.skip ?_
    | refine CV.exit ?_
    | refine CV.ret ?_
    | refine CV.scope ?_
    | refine CV.draw callees rfl ?_
    | refine CH.cons rfl ?_
    | refine CH.nil ?_
    | refine CO.consG rfl ?_
    | refine CH.consG rfl ?_
    | refine CG.cons rfl ?_
    | refine CG.nil ?_
    | refine CG.consG rfl ?_
    | refine ⟨(rfl : plain _ = true), ?_⟩
    | refine ⟨(rfl : nilOk _ = some _), ?_⟩
    | refine ⟨_, ints_len (by assumption), ?_⟩
    | refine ⟨_, ints_addr (by assumption) (by omega) (by omega), ?_⟩
    | refine ⟨_, ints_load (by assumption) (by omega) (by omega), ?_⟩
    | refine ⟨(⟨by omega, by omega⟩ : inI64 _), ?_⟩
    | refine ⟨_, fun tm ha => step1_max rfl (ev_tmp ha rfl) (ev_tmp ha rfl), ?_⟩
    | refine ⟨_, fun tm ha => step1_min rfl (ev_tmp ha rfl) (ev_tmp ha rfl), ?_⟩
    | (refine ⟨fun _ => ?_, fun _ => ?_⟩ <;> first | (exfalso; omega) | skip)
    | fail
  refine ⟨rfl, ⟨_, by rw [h0], fun _ => ⟨m, rfl, hM.stay hlx.2 (fun i hi => (check_bound hcx hi).1) fun i hi => ?_⟩, fun h => absurd h0 h⟩, k3⟩
  have h1 := hby i (by omega)
  have h2 := blk_gt ys 0 i (by omega)
  rw [List.getElem?_replicate, if_pos (by omega)]

set_option maxRecDepth 100000 in
theorem movesAll_spec {B : Nat} {v u : Value} {H : Heap} {xs ys : List Int} (hB : B ≤ H.n) (hv : Ints H v xs) (hu : Ints H u ys) :
    CallB Tryd.prog B 47 [v, u] H (fun r H' => (∃ m : Int, r = .tuple #[.int .i64 m, .int .i64 (chk2 xs ys)] ∧ (chk2 xs ys = 0 → ∃ k : Nat, m = xs.length - k ∧ Stay xs ys k) ∧ (chk2 xs ys ≠ 0 → m = 0)) ∧ Keep H H') := by
  by_cases h0 : chk2 xs ys = 0
  · obtain ⟨hcx, hcy, hl⟩ := chk2_zero h0
    refine (moves_spec hB hv hu hcx hcy hl).mono ?_
    rintro r H1 ⟨⟨m, rfl, hm⟩, k⟩
    rw [h0]
    exact ⟨⟨_, rfl, fun _ => ⟨m, rfl, hm.stay⟩, fun h => absurd rfl h⟩, k⟩
  · refine CV.enter callees false rfl Tryd.func47 rfl ok47 (Nat.le_of_ble_eq_true rfl) hB ?_
    repeat' first
      | refine CO.cons rfl ?_
      | refine CO.nil ?_
      | refine CV.seq ?_
      | refine CV.region callees ?_
      | refine CV.cond ?_
      | refine CV.block ?_
      | refine CV.skip ?_
      | refine CV.exit ?_
      | refine CV.ret ?_
      | refine CV.scope ?_
      | refine CV.draw callees rfl ?_
      | refine CH.cons rfl ?_
      | refine CH.nil ?_
      | refine CO.consG rfl ?_
      | refine CH.consG rfl ?_
      | refine CG.cons rfl ?_
      | refine CG.nil ?_
      | refine CG.consG rfl ?_
      | refine ⟨(rfl : plain _ = true), ?_⟩
      | refine ⟨(rfl : nilOk _ = some _), ?_⟩
      | refine ⟨_, ints_len (by assumption), ?_⟩
      | refine ⟨_, ints_addr (by assumption) (by omega) (by omega), ?_⟩
      | refine ⟨_, ints_load (by assumption) (by omega) (by omega), ?_⟩
      | refine ⟨(⟨by omega, by omega⟩ : inI64 _), ?_⟩
      | refine ⟨_, fun tm ha => step1_max rfl (ev_tmp ha rfl) (ev_tmp ha rfl), ?_⟩
      | refine ⟨_, fun tm ha => step1_min rfl (ev_tmp ha rfl) (ev_tmp ha rfl), ?_⟩
      | (refine ⟨fun _ => ?_, fun _ => ?_⟩ <;> first | (exfalso; omega) | skip)
      | fail
    refine (checkBoth_spec hB hv hu).mono ?_
    rintro r H1 ⟨rfl, rfl⟩
    repeat' first
      | refine CO.cons rfl ?_
      | refine CO.nil ?_
      | refine CV.seq ?_
      | refine CV.region callees ?_
      | refine CV.cond ?_
      | refine CV.block ?_
      | refine CV.skip ?_
      | refine CV.exit ?_
      | refine CV.ret ?_
      | refine CV.scope ?_
      | refine CV.draw callees rfl ?_
      | refine CH.cons rfl ?_
      | refine CH.nil ?_
      | refine CO.consG rfl ?_
      | refine CH.consG rfl ?_
      | refine CG.cons rfl ?_
      | refine CG.nil ?_
      | refine CG.consG rfl ?_
      | refine ⟨(rfl : plain _ = true), ?_⟩
      | refine ⟨(rfl : nilOk _ = some _), ?_⟩
      | refine ⟨_, ints_len (by assumption), ?_⟩
      | refine ⟨_, ints_addr (by assumption) (by omega) (by omega), ?_⟩
      | refine ⟨_, ints_load (by assumption) (by omega) (by omega), ?_⟩
      | refine ⟨(⟨by omega, by omega⟩ : inI64 _), ?_⟩
      | refine ⟨_, fun tm ha => step1_max rfl (ev_tmp ha rfl) (ev_tmp ha rfl), ?_⟩
      | refine ⟨_, fun tm ha => step1_min rfl (ev_tmp ha rfl) (ev_tmp ha rfl), ?_⟩
      | (refine ⟨fun _ => ?_, fun _ => ?_⟩ <;> first | (exfalso; omega) | skip)
      | fail
    exact ⟨rfl, ⟨0, rfl, fun h => absurd h h0, fun _ => rfl⟩, Keep.refl _⟩
end Go.Proofs.YthcchjmjblegdaaDoor
