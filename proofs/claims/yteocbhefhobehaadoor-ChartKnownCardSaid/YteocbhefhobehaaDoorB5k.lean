/- Joins; three partitions. -/
import Derived.Test.YteocbhefhobehaaDoorB4k
set_option linter.unusedVariables false
set_option linter.unusedSimpArgs false
namespace Go.Proofs.YteocbhefhobehaaDoor
open Go.AI
theorem rel_step_eq {l : List Int} {a b : Int} {i : Nat} (h : i < l.length) (he : l[i]! = a) : (upTo (fun j => (rel l a b)[j]!) l i).set i b = upTo (fun j => (rel l a b)[j]!) l (i + 1) := by
  have := upTo_set (f := fun j => (rel l a b)[j]!) h
  simp only [rel_at h, if_pos he] at this
  exact this
theorem rel_step_ne {l : List Int} {a b : Int} {i : Nat} (h : i < l.length) (he : ¬ l[i]! = a) : upTo (fun j => (rel l a b)[j]!) l i = upTo (fun j => (rel l a b)[j]!) l (i + 1) := by
  have := upTo_set (f := fun j => (rel l a b)[j]!) h
  rw [← this]
  simp only [rel_at h, if_neg he]
  apply List.ext_getElem
  · simp
  · intro j h1 h2
    rw [List.getElem_set]
    split
    · rename_i hj
      subst hj
      rw [← upTo_get (f := fun j => (rel l a b)[j]!) h, getElem!_pos (upTo (fun j => (rel l a b)[j]!) l i) i h1]
    · rfl

set_option maxRecDepth 100000 in
theorem relabel_spec {B B0 : Nat} {v : Value} {H : Heap} {l : List Int} {a b : Int} (hB : B ≤ H.n) (hB0 : B ≤ B0) (hv : Own 3 H v (l.map VI) B0) (hn : l.length < 1000000) :
    CallB Tryd.prog B 93 [v, .int .i64 a, .int .i64 b] H (fun r H' => Own 3 H' v ((rel l a b).map VI) B0 ∧ KeepBut v H H') := by
  refine CV.enter callees false rfl Tryd.func93 rfl ok93 (Nat.le_of_ble_eq_true rfl) hB ?_
  have hv0 : Ints H v l := hv.row
  repeat' first
    | refine CO.cons rfl ?_
    | refine CO.nil ?_
    | refine CV.seq ?_
    | refine CV.region callees ?_
    | refine CV.cond ?_
    | refine CV.block ?_
    | refine CV.skip ?_
    | refine CV.exit ?_
    | refine CV.ret ?_
    | refine CV.scope ?_
    | refine CV.draw callees rfl ?_
    | refine CH.cons rfl ?_
    | refine CH.nil ?_
    | refine CO.consG rfl ?_
    | refine CH.consG rfl ?_
    | refine CG.cons rfl ?_
    | refine CG.nil ?_
    | refine CG.consG rfl ?_
    | refine ⟨(rfl : plain _ = true), ?_⟩
    | refine ⟨(rfl : nilOk _ = some _), ?_⟩
    | refine ⟨_, ints_len (by assumption), ?_⟩
    | refine ⟨_, ints_addr (by assumption) (by omega) (by omega), ?_⟩
    | refine ⟨_, ints_load (by assumption) (by omega) (by omega), ?_⟩
    | refine ⟨(⟨by omega, by omega⟩ : inI64 _), ?_⟩
    | refine ⟨_, fun tm ha => step1_max rfl (ev_tmp ha rfl) (ev_tmp ha rfl), ?_⟩
    | refine ⟨_, fun tm ha => step1_min rfl (ev_tmp ha rfl) (ev_tmp ha rfl), ?_⟩
    | (refine ⟨fun _ => ?_, fun _ => ?_⟩ <;> first | (exfalso; omega) | skip)
    | fail
  refine CV.loopc ?_
  refine WCv.rounds callees false (α := Int) (fun i => [(0, v), (1, .int .i64 a), (2, .int .i64 b), (8, v), (9, .int .i64 l.length), (10, .int .i64 i)]) (fun i Hz => 0 ≤ i ∧ i ≤ l.length ∧ KeepBut v H Hz ∧ Own 3 Hz v ((upTo (fun j => (rel l a b)[j]!) l i.toNat).map VI) B0) (fun i => l.length - i.toNat) (0) (by repeat' first | exact trivial | refine ⟨rfl, ?_⟩) ?_ ?_
  · exact ⟨by omega, by omega, KeepBut.refl _ _, hv⟩
  rintro i Hx ⟨hi0, hi1, hk, hw⟩ hBx
  by_cases hi : i < l.length
  · have hwi : Ints Hx v _ := hw.row
    have hlen : (upTo (fun j => (rel l a b)[j]!) l i.toNat).length = l.length := by rw [upTo_length]; omega
    have hget : (upTo (fun j => (rel l a b)[j]!) l i.toNat)[i.toNat]! = l[i.toNat]! := upTo_get (by omega)
    repeat' first
      | refine CO.cons rfl ?_
      | refine CO.nil ?_
      | refine CV.seq ?_
      | refine CV.region callees ?_
      | refine CV.cond ?_
      | refine CV.block ?_
      | refine CV.skip ?_
      | refine CV.exit ?_
      | refine CV.ret ?_
      | refine CV.scope ?_
      | refine CV.draw callees rfl ?_
      | refine CH.cons rfl ?_
      | refine CH.nil ?_
      | refine CO.consG rfl ?_
      | refine CH.consG rfl ?_
      | refine CG.cons rfl ?_
      | refine CG.nil ?_
      | refine CG.consG rfl ?_
      | refine ⟨(rfl : plain _ = true), ?_⟩
      | refine ⟨(rfl : nilOk _ = some _), ?_⟩
      | refine ⟨_, ints_len (by assumption), ?_⟩
      | refine ⟨_, ints_addr (by assumption) (by omega) (by omega), ?_⟩
      | refine ⟨_, ints_load (by assumption) (by omega) (by omega), ?_⟩
      | refine ⟨(⟨by omega, by omega⟩ : inI64 _), ?_⟩
      | refine ⟨_, fun tm ha => step1_max rfl (ev_tmp ha rfl) (ev_tmp ha rfl), ?_⟩
      | refine ⟨_, fun tm ha => step1_min rfl (ev_tmp ha rfl) (ev_tmp ha rfl), ?_⟩
      | (refine ⟨fun _ => ?_, fun _ => ?_⟩ <;> first | (exfalso; omega) | skip)
      | fail
    · refine put_ask (i := i.toNat) hw hB0 (by omega) ?_
      intro H2 hw2 kb2
      repeat' first
        | refine CO.cons rfl ?_
        | refine CO.nil ?_
        | refine CV.seq ?_
        | refine CV.region callees ?_
        | refine CV.cond ?_
        | refine CV.block ?_
        | refine CV.skip ?_
        | refine CV.exit ?_
        | refine CV.ret ?_
        | refine CV.scope ?_
        | refine CV.draw callees rfl ?_
        | refine CH.cons rfl ?_
        | refine CH.nil ?_
        | refine CO.consG rfl ?_
        | refine CH.consG rfl ?_
        | refine CG.cons rfl ?_
        | refine CG.nil ?_
        | refine CG.consG rfl ?_
        | refine ⟨(rfl : plain _ = true), ?_⟩
        | refine ⟨(rfl : nilOk _ = some _), ?_⟩
        | refine ⟨_, ints_len (by assumption), ?_⟩
        | refine ⟨_, ints_addr (by assumption) (by omega) (by omega), ?_⟩
        | refine ⟨_, ints_load (by assumption) (by omega) (by omega), ?_⟩
        | refine ⟨(⟨by omega, by omega⟩ : inI64 _), ?_⟩
        | refine ⟨_, fun tm ha => step1_max rfl (ev_tmp ha rfl) (ev_tmp ha rfl), ?_⟩
        | refine ⟨_, fun tm ha => step1_min rfl (ev_tmp ha rfl) (ev_tmp ha rfl), ?_⟩
        | (refine ⟨fun _ => ?_, fun _ => ?_⟩ <;> first | (exfalso; omega) | skip)
        | fail
      refine ⟨(i + 1), (by repeat' first | exact trivial | refine ⟨rfl, ?_⟩), (by (try dsimp only); omega), ?_⟩
      refine ⟨by omega, by omega, hk.trans kb2, ?_⟩
      rw [show (i + 1).toNat = i.toNat + 1 by omega, ← rel_step_eq (by omega) (by rw [← hget]; assumption)]
      exact hw2
    · refine ⟨(i + 1), (by repeat' first | exact trivial | refine ⟨rfl, ?_⟩), (by (try dsimp only); omega), ?_⟩
      refine ⟨by omega, by omega, hk, ?_⟩
      rw [show (i + 1).toNat = i.toNat + 1 by omega, ← rel_step_ne (by omega) (by rw [← hget]; assumption)]
      exact hw
  · have e : upTo (fun j => (rel l a b)[j]!) l i.toNat = rel l a b := by
      rw [show i.toNat = l.length by omega]
      exact upTo_all (f := fun j => (rel l a b)[j]!) (m := rel l a b) (by rw [rel_length]) (fun i h => rfl)
    rw [e] at hw
    repeat' first
      | refine CO.cons rfl ?_
      | refine CO.nil ?_
      | refine CV.seq ?_
      | refine CV.region callees ?_
      | refine CV.cond ?_
      | refine CV.block ?_
      | refine CV.skip ?_
      | refine CV.exit ?_
      | refine CV.ret ?_
      | refine CV.scope ?_
      | refine CV.draw callees rfl ?_
      | refine CH.cons rfl ?_
      | refine CH.nil ?_
      | refine CO.consG rfl ?_
      | refine CH.consG rfl ?_
      | refine CG.cons rfl ?_
      | refine CG.nil ?_
      | refine CG.consG rfl ?_
      | refine ⟨(rfl : plain _ = true), ?_⟩
      | refine ⟨(rfl : nilOk _ = some _), ?_⟩
      | refine ⟨_, ints_len (by assumption), ?_⟩
      | refine ⟨_, ints_addr (by assumption) (by omega) (by omega), ?_⟩
      | refine ⟨_, ints_load (by assumption) (by omega) (by omega), ?_⟩
      | refine ⟨(⟨by omega, by omega⟩ : inI64 _), ?_⟩
      | refine ⟨_, fun tm ha => step1_max rfl (ev_tmp ha rfl) (ev_tmp ha rfl), ?_⟩
      | refine ⟨_, fun tm ha => step1_min rfl (ev_tmp ha rfl) (ev_tmp ha rfl), ?_⟩
      | (refine ⟨fun _ => ?_, fun _ => ?_⟩ <;> first | (exfalso; omega) | skip)
      | fail
    exact ⟨rfl, hw, hk⟩

/-- What holds while a list is joined: all pairs before a place have been seen to. -/
structure Joining (xs ys m : List Int) (i j : Int) : Prop where
  len : m.length = xs.length
  fine : Fine xs m
  least : ∀ t, Fine xs t → Fine ys t → Fine m t
  seen : ∀ a b : Nat, b < a → ((a : Int) < i ∨ ((a : Int) = i ∧ (b : Int) < j)) → ys[a]! = ys[b]! → m[a]! = m[b]!
theorem Joining.isJoin {xs ys m : List Int} {i j : Int} (h : Joining xs ys m i j) (hl : xs.length = ys.length) (hi : (ys.length : Int) ≤ i) : IsJoin xs ys m :=
  ⟨h.len, h.fine, fun a b hab ha he => h.seen a b hab (.inl (by omega)) he, h.least⟩
theorem Joining.skip {xs ys m : List Int} {i j : Int} (h : Joining xs ys m i j) (hi : 0 ≤ i) (hj : 0 ≤ j) (hne : ¬ ys[i.toNat]! = ys[j.toNat]!) : Joining xs ys m i (j + 1) :=
  ⟨h.len, h.fine, h.least, fun a b hab hc he => by
    by_cases hb : (a : Int) < i ∨ ((a : Int) = i ∧ (b : Int) < j)
    · exact h.seen a b hab hb he
    · have h1 : a = i.toNat := by omega
      have h2 : b = j.toNat := by omega
      subst h1; subst h2; exact absurd he hne⟩
theorem Joining.join {xs ys m : List Int} {i j : Int} (h : Joining xs ys m i j) (hl : xs.length = ys.length) (hi : 0 ≤ i) (hil : i < ys.length) (hj : 0 ≤ j) (hji : j < i) (he : ys[i.toNat]! = ys[j.toNat]!) : Joining xs ys (rel m m[i.toNat]! m[j.toNat]!) i (j + 1) := by
  have hlm := h.len
  refine ⟨by rw [rel_length, h.len], h.fine.trans h.len.symm (fine_rel _ _ _), fun t h1 h2 => rel_fine (by omega) (by omega) (h.least t h1 h2) (h2.all (by omega) (by omega) he), fun a b hab hc he' => ?_⟩
  have hf := fine_rel m m[i.toNat]! m[j.toNat]!
  by_cases hb : (a : Int) < i ∨ ((a : Int) = i ∧ (b : Int) < j)
  · exact hf.all (by omega) (by omega) (h.seen a b hab hb he')
  · have h1 : a = i.toNat := by omega
    have h2 : b = j.toNat := by omega
    subst h1; subst h2
    rw [rel_at (by omega), rel_at (by omega), if_pos rfl]
    split <;> rfl
theorem Joining.next {xs ys m : List Int} {i j : Int} (h : Joining xs ys m i j) (hj : j = i) : Joining xs ys m (i + 1) 0 :=
  ⟨h.len, h.fine, h.least, fun a b hab hc he => h.seen a b hab (by omega) he⟩

set_option maxRecDepth 100000 in
theorem join_spec {B : Nat} {v u : Value} {H : Heap} {xs ys : List Int} (hB : B ≤ H.n) (hv : Ints H v xs) (hu : Ints H u ys) :
    CallB Tryd.prog B 45 [v, u] H (fun r H' => TwoR H xs ys (fun l => ∃ s, IsJoin xs ys s ∧ l = num s []) r H' ∧ Keep H H') := by
  refine CV.enter callees false rfl Tryd.func45 rfl ok45 (Nat.le_of_ble_eq_true rfl) hB ?_
  repeat' first
    | refine CO.cons rfl ?_
    | refine CO.nil ?_
    | refine CV.seq ?_
    | refine CV.region callees ?_
    | refine CV.cond ?_
    | refine CV.block ?_
    | refine CV.skip ?_
    | refine CV.exit ?_
    | refine CV.ret ?_
    | refine CV.scope ?_
    | refine CV.draw callees rfl ?_
    | refine CH.cons rfl ?_
    | refine CH.nil ?_
    | refine CO.consG rfl ?_
    | refine CH.consG rfl ?_
    | refine CG.cons rfl ?_
    | refine CG.nil ?_
    | refine CG.consG rfl ?_
    | refine ⟨(rfl : plain _ = true), ?_⟩
    | refine ⟨(rfl : nilOk _ = some _), ?_⟩
    | refine ⟨_, ints_len (by assumption), ?_⟩
    | refine ⟨_, ints_addr (by assumption) (by omega) (by omega), ?_⟩
    | refine ⟨_, ints_load (by assumption) (by omega) (by omega), ?_⟩
    | refine ⟨(⟨by omega, by omega⟩ : inI64 _), ?_⟩
    | refine ⟨_, fun tm ha => step1_max rfl (ev_tmp ha rfl) (ev_tmp ha rfl), ?_⟩
    | refine ⟨_, fun tm ha => step1_min rfl (ev_tmp ha rfl) (ev_tmp ha rfl), ?_⟩
    | (refine ⟨fun _ => ?_, fun _ => ?_⟩ <;> first | (exfalso; omega) | skip)
    | fail
  refine (checkBoth_spec hB hv hu).mono ?_
  rintro r H1 ⟨rfl, rfl⟩
  repeat' first
    | refine CO.cons rfl ?_
    | refine CO.nil ?_
    | refine CV.seq ?_
    | refine CV.region callees ?_
    | refine CV.cond ?_
    | refine CV.block ?_
    | refine CV.skip ?_
    | refine CV.exit ?_
    | refine CV.ret ?_
    | refine CV.scope ?_
    | refine CV.draw callees rfl ?_
    | refine CH.cons rfl ?_
    | refine CH.nil ?_
    | refine CO.consG rfl ?_
    | refine CH.consG rfl ?_
    | refine CG.cons rfl ?_
    | refine CG.nil ?_
    | refine CG.consG rfl ?_
    | refine ⟨(rfl : plain _ = true), ?_⟩
    | refine ⟨(rfl : nilOk _ = some _), ?_⟩
    | refine ⟨_, ints_len (by assumption), ?_⟩
    | refine ⟨_, ints_addr (by assumption) (by omega) (by omega), ?_⟩
    | refine ⟨_, ints_load (by assumption) (by omega) (by omega), ?_⟩
    | refine ⟨(⟨by omega, by omega⟩ : inI64 _), ?_⟩
    | refine ⟨_, fun tm ha => step1_max rfl (ev_tmp ha rfl) (ev_tmp ha rfl), ?_⟩
    | refine ⟨_, fun tm ha => step1_min rfl (ev_tmp ha rfl) (ev_tmp ha rfl), ?_⟩
    | (refine ⟨fun _ => ?_, fun _ => ?_⟩ <;> first | (exfalso; omega) | skip)
    | fail
  · exact ⟨rfl, by rw [TwoR, if_neg (by assumption)], Keep.refl _⟩
  have h0 : chk2 xs ys = 0 := Classical.not_not.1 (by assumption)
  obtain ⟨hcx, hcy, hl⟩ := chk2_zero h0
  have hlx := check_len hcx
  refine (clone_spec hB hv (by omega)).mono ?_
  rintro w H2 ⟨hw, hk2⟩
  have hu2 : Ints H2 u ys := hu.keep hk2
  repeat' first
    | refine CO.cons rfl ?_
    | refine CO.nil ?_
    | refine CV.seq ?_
    | refine CV.region callees ?_
    | refine CV.cond ?_
    | refine CV.block ?_
    | refine CV.skip ?_
    | refine CV.exit ?_
    | refine CV.ret ?_
    | refine CV.scope ?_
    | refine CV.draw callees rfl ?_
    | refine CH.cons rfl ?_
    | refine CH.nil ?_
    | refine CO.consG rfl ?_
    | refine CH.consG rfl ?_
    | refine CG.cons rfl ?_
    | refine CG.nil ?_
    | refine CG.consG rfl ?_
    | refine ⟨(rfl : plain _ = true), ?_⟩
    | refine ⟨(rfl : nilOk _ = some _), ?_⟩
    | refine ⟨_, ints_len (by assumption), ?_⟩
    | refine ⟨_, ints_addr (by assumption) (by omega) (by omega), ?_⟩
    | refine ⟨_, ints_load (by assumption) (by omega) (by omega), ?_⟩
    | refine ⟨(⟨by omega, by omega⟩ : inI64 _), ?_⟩
    | refine ⟨_, fun tm ha => step1_max rfl (ev_tmp ha rfl) (ev_tmp ha rfl), ?_⟩
    | refine ⟨_, fun tm ha => step1_min rfl (ev_tmp ha rfl) (ev_tmp ha rfl), ?_⟩
    | (refine ⟨fun _ => ?_, fun _ => ?_⟩ <;> first | (exfalso; omega) | skip)
    | fail
  refine CV.loopc ?_
  refine WCv.rounds callees false (α := Int × List Int) (fun (i, m) => [(0, v), (1, u), (7, w), (19, .int .i64 ys.length), (20, .int .i64 i)]) (fun (i, m) Hz => 0 ≤ i ∧ i ≤ ys.length ∧ Keep H1 Hz ∧ Own 3 Hz w (m.map VI) H1.n ∧ Joining xs ys m i 0) (fun (i, m) => ys.length - i.toNat) (0, xs) (by repeat' first | exact trivial | refine ⟨rfl, ?_⟩) ?_ ?_
  · exact ⟨by omega, by omega, hk2, hw, ⟨rfl, Fine.refl _, fun t h _ => h, fun a b _ h _ => by omega⟩⟩
  rintro ⟨i, m⟩ Hx ⟨hi0, hi1, hk, hwx, hJ⟩ hBx
  by_cases hi : i < ys.length
  · repeat' first
      | refine CO.cons rfl ?_
      | refine CO.nil ?_
      | refine CV.seq ?_
      | refine CV.region callees ?_
      | refine CV.cond ?_
      | refine CV.block ?_
      | refine CV.skip ?_
      | refine CV.exit ?_
      | refine CV.ret ?_
      | refine CV.scope ?_
      | refine CV.draw callees rfl ?_
      | refine CH.cons rfl ?_
      | refine CH.nil ?_
      | refine CO.consG rfl ?_
      | refine CH.consG rfl ?_
      | refine CG.cons rfl ?_
      | refine CG.nil ?_
      | refine CG.consG rfl ?_
      | refine ⟨(rfl : plain _ = true), ?_⟩
      | refine ⟨(rfl : nilOk _ = some _), ?_⟩
      | refine ⟨_, ints_len (by assumption), ?_⟩
      | refine ⟨_, ints_addr (by assumption) (by omega) (by omega), ?_⟩
      | refine ⟨_, ints_load (by assumption) (by omega) (by omega), ?_⟩
      | refine ⟨(⟨by omega, by omega⟩ : inI64 _), ?_⟩
      | refine ⟨_, fun tm ha => step1_max rfl (ev_tmp ha rfl) (ev_tmp ha rfl), ?_⟩
      | refine ⟨_, fun tm ha => step1_min rfl (ev_tmp ha rfl) (ev_tmp ha rfl), ?_⟩
      | (refine ⟨fun _ => ?_, fun _ => ?_⟩ <;> first | (exfalso; omega) | skip)
      | fail
    refine CV.loopc ?_
    refine WCv.rounds callees false (α := Int × List Int) (fun (j, m) => [(0, v), (1, u), (7, w), (19, .int .i64 ys.length), (20, .int .i64 i), (8, .int .i64 i), (23, .int .i64 i), (24, .int .i64 j)]) (fun (j, m) Hz => 0 ≤ j ∧ j ≤ i ∧ Keep H1 Hz ∧ Own 3 Hz w (m.map VI) H1.n ∧ Joining xs ys m i j) (fun (j, m) => i.toNat - j.toNat) (0, m) (by repeat' first | exact trivial | refine ⟨rfl, ?_⟩) ?_ ?_
    · exact ⟨by omega, by omega, hk, hwx, hJ⟩
    rintro ⟨j, m⟩ Hy ⟨hj0, hj1, hky, hwy, hJy⟩ hBy
    have huy : Ints Hy u ys := hu.keep hky
    have hwi : Ints Hy w m := hwy.row
    have hlm := hJy.len
    by_cases hj : j < i
    · repeat' first
        | refine CO.cons rfl ?_
        | refine CO.nil ?_
        | refine CV.seq ?_
        | refine CV.region callees ?_
        | refine CV.cond ?_
        | refine CV.block ?_
        | refine CV.skip ?_
        | refine CV.exit ?_
        | refine CV.ret ?_
        | refine CV.scope ?_
        | refine CV.draw callees rfl ?_
        | refine CH.cons rfl ?_
        | refine CH.nil ?_
        | refine CO.consG rfl ?_
        | refine CH.consG rfl ?_
        | refine CG.cons rfl ?_
        | refine CG.nil ?_
        | refine CG.consG rfl ?_
        | refine ⟨(rfl : plain _ = true), ?_⟩
        | refine ⟨(rfl : nilOk _ = some _), ?_⟩
        | refine ⟨_, ints_len (by assumption), ?_⟩
        | refine ⟨_, ints_addr (by assumption) (by omega) (by omega), ?_⟩
        | refine ⟨_, ints_load (by assumption) (by omega) (by omega), ?_⟩
        | refine ⟨(⟨by omega, by omega⟩ : inI64 _), ?_⟩
        | refine ⟨_, fun tm ha => step1_max rfl (ev_tmp ha rfl) (ev_tmp ha rfl), ?_⟩
        | refine ⟨_, fun tm ha => step1_min rfl (ev_tmp ha rfl) (ev_tmp ha rfl), ?_⟩
        | (refine ⟨fun _ => ?_, fun _ => ?_⟩ <;> first | (exfalso; omega) | skip)
        | fail
      · refine (relabel_spec hBy hB hwy (by omega)).mono ?_
        rintro r H3 ⟨hw3, kb3⟩
        repeat' first
          | refine CO.cons rfl ?_
          | refine CO.nil ?_
          | refine CV.seq ?_
          | refine CV.region callees ?_
          | refine CV.cond ?_
          | refine CV.block ?_
          | refine CV.skip ?_
          | refine CV.exit ?_
          | refine CV.ret ?_
          | refine CV.scope ?_
          | refine CV.draw callees rfl ?_
          | refine CH.cons rfl ?_
          | refine CH.nil ?_
          | refine CO.consG rfl ?_
          | refine CH.consG rfl ?_
          | refine CG.cons rfl ?_
          | refine CG.nil ?_
          | refine CG.consG rfl ?_
          | refine ⟨(rfl : plain _ = true), ?_⟩
          | refine ⟨(rfl : nilOk _ = some _), ?_⟩
          | refine ⟨_, ints_len (by assumption), ?_⟩
          | refine ⟨_, ints_addr (by assumption) (by omega) (by omega), ?_⟩
          | refine ⟨_, ints_load (by assumption) (by omega) (by omega), ?_⟩
          | refine ⟨(⟨by omega, by omega⟩ : inI64 _), ?_⟩
          | refine ⟨_, fun tm ha => step1_max rfl (ev_tmp ha rfl) (ev_tmp ha rfl), ?_⟩
          | refine ⟨_, fun tm ha => step1_min rfl (ev_tmp ha rfl) (ev_tmp ha rfl), ?_⟩
          | (refine ⟨fun _ => ?_, fun _ => ?_⟩ <;> first | (exfalso; omega) | skip)
          | fail
        refine ⟨(j + 1, rel m m[i.toNat]! m[j.toNat]!), (by repeat' first | exact trivial | refine ⟨rfl, ?_⟩), (by (try dsimp only); omega), ?_⟩
        exact ⟨by omega, by omega, kb3.keep hky (fun c hc => (hwy.lt hc).1), hw3, hJy.join hl hi0 hi hj0 hj (by assumption)⟩
      · refine ⟨(j + 1, m), (by repeat' first | exact trivial | refine ⟨rfl, ?_⟩), (by (try dsimp only); omega), ?_⟩
        exact ⟨by omega, by omega, hky, hwy, hJy.skip hi0 hj0 (by assumption)⟩
    · repeat' first
        | refine CO.cons rfl ?_
        | refine CO.nil ?_
        | refine CV.seq ?_
        | refine CV.region callees ?_
        | refine CV.cond ?_
        | refine CV.block ?_
        | refine CV.skip ?_
        | refine CV.exit ?_
        | refine CV.ret ?_
        | refine CV.scope ?_
        | refine CV.draw callees rfl ?_
        | refine CH.cons rfl ?_
        | refine CH.nil ?_
        | refine CO.consG rfl ?_
        | refine CH.consG rfl ?_
        | refine CG.cons rfl ?_
        | refine CG.nil ?_
        | refine CG.consG rfl ?_
        | refine ⟨(rfl : plain _ = true), ?_⟩
        | refine ⟨(rfl : nilOk _ = some _), ?_⟩
        | refine ⟨_, ints_len (by assumption), ?_⟩
        | refine ⟨_, ints_addr (by assumption) (by omega) (by omega), ?_⟩
        | refine ⟨_, ints_load (by assumption) (by omega) (by omega), ?_⟩
        | refine ⟨(⟨by omega, by omega⟩ : inI64 _), ?_⟩
        | refine ⟨_, fun tm ha => step1_max rfl (ev_tmp ha rfl) (ev_tmp ha rfl), ?_⟩
        | refine ⟨_, fun tm ha => step1_min rfl (ev_tmp ha rfl) (ev_tmp ha rfl), ?_⟩
        | (refine ⟨fun _ => ?_, fun _ => ?_⟩ <;> first | (exfalso; omega) | skip)
        | fail
      refine ⟨(i + 1, m), (by repeat' first | exact trivial | refine ⟨rfl, ?_⟩), (by (try dsimp only); omega), ?_⟩
      exact ⟨by omega, by omega, hky, hwy, hJy.next (by omega)⟩
  · have hlm := hJ.len
    repeat' first
      | refine CO.cons rfl ?_
      | refine CO.nil ?_
      | refine CV.seq ?_
      | refine CV.region callees ?_
      | refine CV.cond ?_
      | refine CV.block ?_
      | refine CV.skip ?_
      | refine CV.exit ?_
      | refine CV.ret ?_
      | refine CV.scope ?_
      | refine CV.draw callees rfl ?_
      | refine CH.cons rfl ?_
      | refine CH.nil ?_
      | refine CO.consG rfl ?_
      | refine CH.consG rfl ?_
      | refine CG.cons rfl ?_
      | refine CG.nil ?_
      | refine CG.consG rfl ?_
      | refine ⟨(rfl : plain _ = true), ?_⟩
      | refine ⟨(rfl : nilOk _ = some _), ?_⟩
      | refine ⟨_, ints_len (by assumption), ?_⟩
      | refine ⟨_, ints_addr (by assumption) (by omega) (by omega), ?_⟩
      | refine ⟨_, ints_load (by assumption) (by omega) (by omega), ?_⟩
      | refine ⟨(⟨by omega, by omega⟩ : inI64 _), ?_⟩
      | refine ⟨_, fun tm ha => step1_max rfl (ev_tmp ha rfl) (ev_tmp ha rfl), ?_⟩
      | refine ⟨_, fun tm ha => step1_min rfl (ev_tmp ha rfl) (ev_tmp ha rfl), ?_⟩
      | (refine ⟨fun _ => ?_, fun _ => ?_⟩ <;> first | (exfalso; omega) | skip)
      | fail
    refine (numbered_spec hBx hwx.row (by omega)).mono ?_
    rintro r H3 ⟨hr, hk3⟩
    repeat' first
      | refine CO.cons rfl ?_
      | refine CO.nil ?_
      | refine CV.seq ?_
      | refine CV.region callees ?_
      | refine CV.cond ?_
      | refine CV.block ?_
      | refine CV.skip ?_
      | refine CV.exit ?_
      | refine CV.ret ?_
      | refine CV.scope ?_
      | refine CV.draw callees rfl ?_
      | refine CH.cons rfl ?_
      | refine CH.nil ?_
      | refine CO.consG rfl ?_
      | refine CH.consG rfl ?_
      | refine CG.cons rfl ?_
      | refine CG.nil ?_
      | refine CG.consG rfl ?_
      | refine ⟨(rfl : plain _ = true), ?_⟩
      | refine ⟨(rfl : nilOk _ = some _), ?_⟩
      | refine ⟨_, ints_len (by assumption), ?_⟩
      | refine ⟨_, ints_addr (by assumption) (by omega) (by omega), ?_⟩
      | refine ⟨_, ints_load (by assumption) (by omega) (by omega), ?_⟩
      | refine ⟨(⟨by omega, by omega⟩ : inI64 _), ?_⟩
      | refine ⟨_, fun tm ha => step1_max rfl (ev_tmp ha rfl) (ev_tmp ha rfl), ?_⟩
      | refine ⟨_, fun tm ha => step1_min rfl (ev_tmp ha rfl) (ev_tmp ha rfl), ?_⟩
      | (refine ⟨fun _ => ?_, fun _ => ?_⟩ <;> first | (exfalso; omega) | skip)
      | fail
    refine ⟨by simp only [List.all_cons, List.all_nil, hr.notTuple]; rfl, ?_, hk.trans hk3⟩
    rw [TwoR, if_pos h0]
    refine ⟨r, _, rfl, ⟨m, hJ.isJoin hl (by omega), rfl⟩, ?_⟩
    rcases hr with hr | ⟨c, h1, h2, h3, h4⟩
    · exact .inl hr
    · exact .inr ⟨c, h1, Nat.le_trans hk.1 h2, h3, h4⟩

set_option maxRecDepth 100000 in
theorem lawFiner_spec {B : Nat} {v u : Value} {H : Heap} {xs ys : List Int} (hB : B ≤ H.n) (hv : Ints H v xs) (hu : Ints H u ys) (h0 : chk2 xs ys = 0) :
    CallB Tryd.prog B 77 [v, u] H (fun r H' => (∃ b : Bool, r = .bool b ∧ (b = true ↔ Fine xs ys)) ∧ H' = H) := by
  refine CV.enter callees false rfl Tryd.func77 rfl ok77 (Nat.le_of_ble_eq_true rfl) hB ?_
  repeat' first
    | refine CO.cons rfl ?_
    | refine CO.nil ?_
    | refine CV.seq ?_
    | refine CV.region callees ?_
    | refine CV.cond ?_
    | refine CV.block ?_
    | refine CV.skip ?_
    | refine CV.exit ?_
    | refine CV.ret ?_
    | refine CV.scope ?_
    | refine CV.draw callees rfl ?_
    | refine CH.cons rfl ?_
    | refine CH.nil ?_
    | refine CO.consG rfl ?_
    | refine CH.consG rfl ?_
    | refine CG.cons rfl ?_
    | refine CG.nil ?_
    | refine CG.consG rfl ?_
    | refine ⟨(rfl : plain _ = true), ?_⟩
    | refine ⟨(rfl : nilOk _ = some _), ?_⟩
    | refine ⟨_, ints_len (by assumption), ?_⟩
    | refine ⟨_, ints_addr (by assumption) (by omega) (by omega), ?_⟩
    | refine ⟨_, ints_load (by assumption) (by omega) (by omega), ?_⟩
    | refine ⟨(⟨by omega, by omega⟩ : inI64 _), ?_⟩
    | refine ⟨_, fun tm ha => step1_max rfl (ev_tmp ha rfl) (ev_tmp ha rfl), ?_⟩
    | refine ⟨_, fun tm ha => step1_min rfl (ev_tmp ha rfl) (ev_tmp ha rfl), ?_⟩
    | (refine ⟨fun _ => ?_, fun _ => ?_⟩ <;> first | (exfalso; omega) | skip)
    | fail
  refine (finer_spec hB hv hu).mono ?_
  rintro r H1 ⟨⟨b, rfl, hb, _⟩, rfl⟩
  rw [h0]
  cases b
  · repeat' first
      | refine CO.cons rfl ?_
      | refine CO.nil ?_
      | refine CV.seq ?_
      | refine CV.region callees ?_
      | refine CV.cond ?_
      | refine CV.block ?_
      | refine CV.skip ?_
      | refine CV.exit ?_
      | refine CV.ret ?_
      | refine CV.scope ?_
      | refine CV.draw callees rfl ?_
      | refine CH.cons rfl ?_
      | refine CH.nil ?_
      | refine CO.consG rfl ?_
      | refine CH.consG rfl ?_
      | refine CG.cons rfl ?_
      | refine CG.nil ?_
      | refine CG.consG rfl ?_
      | refine ⟨(rfl : plain _ = true), ?_⟩
      | refine ⟨(rfl : nilOk _ = some _), ?_⟩
      | refine ⟨_, ints_len (by assumption), ?_⟩
      | refine ⟨_, ints_addr (by assumption) (by omega) (by omega), ?_⟩
      | refine ⟨_, ints_load (by assumption) (by omega) (by omega), ?_⟩
      | refine ⟨(⟨by omega, by omega⟩ : inI64 _), ?_⟩
      | refine ⟨_, fun tm ha => step1_max rfl (ev_tmp ha rfl) (ev_tmp ha rfl), ?_⟩
      | refine ⟨_, fun tm ha => step1_min rfl (ev_tmp ha rfl) (ev_tmp ha rfl), ?_⟩
      | (refine ⟨fun _ => ?_, fun _ => ?_⟩ <;> first | (exfalso; omega) | skip)
      | fail
    exact ⟨rfl, ⟨_, rfl, hb h0⟩, rfl⟩
  · repeat' first
      | refine CO.cons rfl ?_
      | refine CO.nil ?_
      | refine CV.seq ?_
      | refine CV.region callees ?_
      | refine CV.cond ?_
      | refine CV.block ?_
      | refine CV.skip ?_
      | refine CV.exit ?_
      | refine CV.ret ?_
      | refine CV.scope ?_
      | refine CV.draw callees rfl ?_
      | refine CH.cons rfl ?_
      | refine CH.nil ?_
      | refine CO.consG rfl ?_
      | refine CH.consG rfl ?_
      | refine CG.cons rfl ?_
      | refine CG.nil ?_
      | refine CG.consG rfl ?_
      | refine ⟨(rfl : plain _ = true), ?_⟩
      | refine ⟨(rfl : nilOk _ = some _), ?_⟩
      | refine ⟨_, ints_len (by assumption), ?_⟩
      | refine ⟨_, ints_addr (by assumption) (by omega) (by omega), ?_⟩
      | refine ⟨_, ints_load (by assumption) (by omega) (by omega), ?_⟩
      | refine ⟨(⟨by omega, by omega⟩ : inI64 _), ?_⟩
      | refine ⟨_, fun tm ha => step1_max rfl (ev_tmp ha rfl) (ev_tmp ha rfl), ?_⟩
      | refine ⟨_, fun tm ha => step1_min rfl (ev_tmp ha rfl) (ev_tmp ha rfl), ?_⟩
      | (refine ⟨fun _ => ?_, fun _ => ?_⟩ <;> first | (exfalso; omega) | skip)
      | fail
    exact ⟨rfl, ⟨_, rfl, hb h0⟩, rfl⟩
end Go.Proofs.YteocbhefhobehaaDoor
