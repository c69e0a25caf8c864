/- Joins and meets by the reference. -/
import Derived.Test.YthcchjmjblegdaaDoorG3
namespace Go.Proofs.YthcchjmjblegdaaDoor
open Go.AI
/-- Labels while those that belong together are made equal. -/
structure Lab (a b l : List Int) : Prop where
  len : l.length = a.length
  old : ∀ i, i < a.length → ∃ j, j < a.length ∧ l[i]! = a[j]! ∧ ∀ t, Fine a t → Fine b t → t[i]! = t[j]!
theorem set_at {l : List Int} {k i : Nat} {y : Int} (hk : k < l.length) : (l.set k y)[i]! = if i = k then y else l[i]! := by
  by_cases h : i = k
  · subst h; rw [if_pos rfl, getElem!_pos _ i (by rw [List.length_set]; exact hk)]; simp
  · rw [if_neg h]
    by_cases hi : i < l.length
    · rw [getElem!_pos _ i (by rw [List.length_set]; exact hi), getElem!_pos _ i hi, List.getElem_set_ne (fun e => h e.symm)]
    · rw [getElem!_neg _ i (by rw [List.length_set]; exact hi), getElem!_neg _ i hi]
theorem Lab.start (a b : List Int) : Lab a b a := ⟨rfl, fun i hi => ⟨i, hi, rfl, fun _ _ _ => rfl⟩⟩
theorem Lab.put {a b l : List Int} {i k : Nat} (h : Lab a b l) (hl : a.length = b.length) (hi : i < a.length) (hk : k < a.length) (he : a[i]! = a[k]! ∨ b[i]! = b[k]!) : Lab a b (l.set k l[i]!) := by
  refine ⟨by rw [List.length_set, h.len], fun q hq => ?_⟩
  rw [set_at (by rw [h.len]; exact hk)]
  split
  · rename_i hqk
    subst hqk
    obtain ⟨j, hj, e, ht⟩ := h.old i hi
    refine ⟨j, hj, e, fun t h1 h2 => ?_⟩
    rw [← ht t h1 h2]
    rcases he with he | he
    · exact h1.all hq hi he.symm
    · exact h2.all (by omega) (by omega) he.symm
  · exact h.old q hq
theorem Lab.isJoin {a b l : List Int} (h : Lab a b l) (hl : a.length = b.length) (hs : ∀ i k, i < a.length → k < a.length → (a[i]! = a[k]! ∨ b[i]! = b[k]!) → ¬ l[i]! < l[k]!) : IsJoin a b l := by
  refine ⟨h.len, fun i j hij hi he => ?_, fun i j hij hi he => ?_, fun t h1 h2 i j hij hi he => ?_⟩
  · have := hs i j hi (by omega) (.inl he); have := hs j i (by omega) hi (.inl he.symm); omega
  · have := hs i j (by omega) (by omega) (.inr he); have := hs j i (by omega) (by omega) (.inr he.symm); omega
  · rw [h.len] at hi
    obtain ⟨u, hu, e1, t1⟩ := h.old i hi
    obtain ⟨w, hw, e2, t2⟩ := h.old j (by omega)
    rw [t1 t h1 h2, t2 t h1 h2]
    exact h1.all hu hw (by omega)
/-- What all labels are together. -/
def wt (l : List Int) : Nat := (l.map Int.toNat).sum
theorem wt_set : ∀ {l : List Int} {k : Nat} {y : Int}, k < l.length → 0 ≤ y → y < l[k]! → wt (l.set k y) < wt l
  | x :: l, 0, y, _, h0, h1 => by simp [wt] at h1 ⊢; omega
  | x :: l, k + 1, y, hk, h0, h1 => by
    have := wt_set (l := l) (k := k) (y := y) (by simpa using hk) h0 (by simpa using h1)
    simp [wt] at this ⊢; exact this
theorem set_bound {l : List Int} {k : Nat} {y : Int} {P : Int → Prop} (hl : ∀ i, i < l.length → P l[i]!) (hy : P y) : ∀ i, i < (l.set k y).length → P (l.set k y)[i]! := by
  intro i hi
  rw [List.length_set] at hi
  by_cases hk : k < l.length
  · rw [set_at hk]
    split
    · exact hy
    · exact hl i hi
  · rw [List.set_eq_of_length_le (by omega)]; exact hl i hi
theorem ok44 : codeOk Tryd.f44.ntmps (Tryd.f44.body.getD .skip) = true := by kernel_rfl
set_option maxHeartbeats 1000000 in
set_option maxRecDepth 100000 in
theorem refMeet_spec {B : Nat} {v u : Value} {H : Heap} {xs ys : List Int} (hB : B ≤ H.n) (hv : Ints H v xs) (hu : Ints H u ys) :
    CallB Tryd.prog B 44 [v, u] H (fun r H' => TwoR H xs ys (fun l => l = num (meetL xs ys) []) r H' ∧ Keep H H') := by
  refine CV.enter callees false rfl Tryd.func44 rfl ok44 (Nat.le_of_ble_eq_true rfl) hB ?_
  repeat' first
    | refine CO.cons rfl ?_
    | refine CO.nil ?_
    | refine CV.seq ?_
    | refine CV.region callees ?_
    | refine CV.cond ?_
    | refine CV.block ?_
    | refine CV.skip ?_
    | refine CV.exit ?_
    | refine CV.ret ?_
    | refine CV.scope ?_
    | refine CV.draw callees rfl ?_
    | refine CH.cons rfl ?_
    | refine CH.nil ?_
    | refine CO.consG rfl ?_
    | refine CH.consG rfl ?_
    | refine CG.cons rfl ?_
    | refine CG.nil ?_
    | refine CG.consG rfl ?_
    | refine ⟨(rfl : plain _ = true), ?_⟩
    | refine ⟨(rfl : nilOk _ = some _), ?_⟩
    | refine ⟨_, ints_len (by assumption), ?_⟩
    | refine ⟨_, ints_addr (by assumption) (by omega) (by omega), ?_⟩
    | refine ⟨_, ints_load (by assumption) (by omega) (by omega), ?_⟩
    | refine ⟨(⟨by omega, by omega⟩ : inI64 _), ?_⟩
    | refine ⟨_, fun tm ha => step1_max rfl (ev_tmp ha rfl) (ev_tmp ha rfl), ?_⟩
    | refine ⟨_, fun tm ha => step1_min rfl (ev_tmp ha rfl) (ev_tmp ha rfl), ?_⟩
    | (refine ⟨fun _ => ?_, fun _ => ?_⟩ <;> first | (exfalso; omega) | skip)
    | fail
  refine (refCheckBoth_spec hB hv hu).mono ?_
  rintro r H1 ⟨rfl, rfl⟩
  repeat' first
    | refine CO.cons rfl ?_
    | refine CO.nil ?_
    | refine CV.seq ?_
    | refine CV.region callees ?_
    | refine CV.cond ?_
    | refine CV.block ?_
    | refine CV.skip ?_
    | refine CV.exit ?_
    | refine CV.ret ?_
    | refine CV.scope ?_
    | refine CV.draw callees rfl ?_
    | refine CH.cons rfl ?_
    | refine CH.nil ?_
    | refine CO.consG rfl ?_
    | refine CH.consG rfl ?_
    | refine CG.cons rfl ?_
    | refine CG.nil ?_
    | refine CG.consG rfl ?_
    | refine ⟨(rfl : plain _ = true), ?_⟩
    | refine ⟨(rfl : nilOk _ = some _), ?_⟩
    | refine ⟨_, ints_len (by assumption), ?_⟩
    | refine ⟨_, ints_addr (by assumption) (by omega) (by omega), ?_⟩
    | refine ⟨_, ints_load (by assumption) (by omega) (by omega), ?_⟩
    | refine ⟨(⟨by omega, by omega⟩ : inI64 _), ?_⟩
    | refine ⟨_, fun tm ha => step1_max rfl (ev_tmp ha rfl) (ev_tmp ha rfl), ?_⟩
    | refine ⟨_, fun tm ha => step1_min rfl (ev_tmp ha rfl) (ev_tmp ha rfl), ?_⟩
    | (refine ⟨fun _ => ?_, fun _ => ?_⟩ <;> first | (exfalso; omega) | skip)
    | fail
  · exact ⟨rfl, by rw [TwoR, if_neg (by assumption)], Keep.refl _⟩
  have h0 : chk2 xs ys = 0 := Classical.not_not.1 (by assumption)
  obtain ⟨hcx, hcy, hl⟩ := chk2_zero h0
  have hlx := check_len hcx
  refine CV.loopc ?_
  refine WCv.rounds callees false (α := Value × Nat) (fun (o, i) => [(0, v), (1, u), (7, o), (8, .int .i64 i)]) (fun (o, i) Hz => i ≤ xs.length ∧ Keep H1 Hz ∧ Own 3 Hz o (((meetL xs ys).take i).map VI) H1.n) (fun (o, i) => xs.length - i) (.slice none 0 0, 0) (by repeat' first | exact trivial | refine ⟨rfl, ?_⟩ | refine ⟨slot_int (by (try simp only [Int.toNat_natCast]); omega), ?_⟩) ?_ ?_
  · exact ⟨by omega, Keep.refl _, .inl ⟨rfl, by simp⟩⟩
  rintro ⟨o, i⟩ Hx ⟨hi, hk, ho⟩ hBx
  have hvx := hv.keep hk
  have hux := hu.keep hk
  have hml := meetL_length hl
  by_cases hi2 : i < xs.length
  · have hx := check_bound hcx (i := (i : Int).toNat) (by omega)
    have hy := check_bound hcy (i := (i : Int).toNat) (by omega)
    repeat' first
      | refine CO.cons rfl ?_
      | refine CO.nil ?_
      | refine CV.seq ?_
      | refine CV.region callees ?_
      | refine CV.cond ?_
      | refine CV.block ?_
      | refine CV.skip ?_
      | refine CV.exit ?_
      | refine CV.ret ?_
      | refine CV.scope ?_
      | refine CV.draw callees rfl ?_
      | refine CH.cons rfl ?_
      | refine CH.nil ?_
      | refine CO.consG rfl ?_
      | refine CH.consG rfl ?_
      | refine CG.cons rfl ?_
      | refine CG.nil ?_
      | refine CG.consG rfl ?_
      | refine ⟨(rfl : plain _ = true), ?_⟩
      | refine ⟨(rfl : nilOk _ = some _), ?_⟩
      | refine ⟨_, ints_len (by assumption), ?_⟩
      | refine ⟨_, ints_addr (by assumption) (by omega) (by omega), ?_⟩
      | refine ⟨_, ints_load (by assumption) (by omega) (by omega), ?_⟩
      | refine ⟨(⟨by omega, by omega⟩ : inI64 _), ?_⟩
      | refine ⟨_, fun tm ha => step1_max rfl (ev_tmp ha rfl) (ev_tmp ha rfl), ?_⟩
      | refine ⟨_, fun tm ha => step1_min rfl (ev_tmp ha rfl) (ev_tmp ha rfl), ?_⟩
      | refine ⟨_, _, build_one un22 one3 rfl, ?_⟩
      | (refine ⟨fun _ => ?_, fun _ => ?_⟩ <;> first | (exfalso; omega) | skip)
      | fail
    refine push_ask ho hk.1 hB (by simp; omega) ?_
    intro o2 H2 ho2 kb2 hf2
    repeat' first
      | refine CO.cons rfl ?_
      | refine CO.nil ?_
      | refine CV.seq ?_
      | refine CV.region callees ?_
      | refine CV.cond ?_
      | refine CV.block ?_
      | refine CV.skip ?_
      | refine CV.exit ?_
      | refine CV.ret ?_
      | refine CV.scope ?_
      | refine CV.draw callees rfl ?_
      | refine CH.cons rfl ?_
      | refine CH.nil ?_
      | refine CO.consG rfl ?_
      | refine CH.consG rfl ?_
      | refine CG.cons rfl ?_
      | refine CG.nil ?_
      | refine CG.consG rfl ?_
      | refine ⟨(rfl : plain _ = true), ?_⟩
      | refine ⟨(rfl : nilOk _ = some _), ?_⟩
      | refine ⟨_, ints_len (by assumption), ?_⟩
      | refine ⟨_, ints_addr (by assumption) (by omega) (by omega), ?_⟩
      | refine ⟨_, ints_load (by assumption) (by omega) (by omega), ?_⟩
      | refine ⟨(⟨by omega, by omega⟩ : inI64 _), ?_⟩
      | refine ⟨_, fun tm ha => step1_max rfl (ev_tmp ha rfl) (ev_tmp ha rfl), ?_⟩
      | refine ⟨_, fun tm ha => step1_min rfl (ev_tmp ha rfl) (ev_tmp ha rfl), ?_⟩
      | (refine ⟨fun _ => ?_, fun _ => ?_⟩ <;> first | (exfalso; omega) | skip)
      | fail
    refine ⟨(o2, i + 1), (by repeat' first | exact trivial | refine ⟨rfl, ?_⟩ | refine ⟨slot_int (by (try simp only [Int.toNat_natCast]); omega), ?_⟩), (by (try dsimp only); omega), ?_⟩
    refine ⟨by omega, kb2.keep hk (fun c hc => (ho.lt hc).1), ?_⟩
    rw [take_snoc (by omega), meetL_at hl hi2]
    exact ho2
  · repeat' first
      | refine CO.cons rfl ?_
      | refine CO.nil ?_
      | refine CV.seq ?_
      | refine CV.region callees ?_
      | refine CV.cond ?_
      | refine CV.block ?_
      | refine CV.skip ?_
      | refine CV.exit ?_
      | refine CV.ret ?_
      | refine CV.scope ?_
      | refine CV.draw callees rfl ?_
      | refine CH.cons rfl ?_
      | refine CH.nil ?_
      | refine CO.consG rfl ?_
      | refine CH.consG rfl ?_
      | refine CG.cons rfl ?_
      | refine CG.nil ?_
      | refine CG.consG rfl ?_
      | refine ⟨(rfl : plain _ = true), ?_⟩
      | refine ⟨(rfl : nilOk _ = some _), ?_⟩
      | refine ⟨_, ints_len (by assumption), ?_⟩
      | refine ⟨_, ints_addr (by assumption) (by omega) (by omega), ?_⟩
      | refine ⟨_, ints_load (by assumption) (by omega) (by omega), ?_⟩
      | refine ⟨(⟨by omega, by omega⟩ : inI64 _), ?_⟩
      | refine ⟨_, fun tm ha => step1_max rfl (ev_tmp ha rfl) (ev_tmp ha rfl), ?_⟩
      | refine ⟨_, fun tm ha => step1_min rfl (ev_tmp ha rfl) (ev_tmp ha rfl), ?_⟩
      | (refine ⟨fun _ => ?_, fun _ => ?_⟩ <;> first | (exfalso; omega) | skip)
      | fail
    rw [List.take_of_length_le (by omega)] at ho
    refine (refof_spec hBx ho.row (by omega)).mono ?_
    rintro r H2 ⟨hr, hk2⟩
    repeat' first
      | refine CO.cons rfl ?_
      | refine CO.nil ?_
      | refine CV.seq ?_
      | refine CV.region callees ?_
      | refine CV.cond ?_
      | refine CV.block ?_
      | refine CV.skip ?_
      | refine CV.exit ?_
      | refine CV.ret ?_
      | refine CV.scope ?_
      | refine CV.draw callees rfl ?_
      | refine CH.cons rfl ?_
      | refine CH.nil ?_
      | refine CO.consG rfl ?_
      | refine CH.consG rfl ?_
      | refine CG.cons rfl ?_
      | refine CG.nil ?_
      | refine CG.consG rfl ?_
      | refine ⟨(rfl : plain _ = true), ?_⟩
      | refine ⟨(rfl : nilOk _ = some _), ?_⟩
      | refine ⟨_, ints_len (by assumption), ?_⟩
      | refine ⟨_, ints_addr (by assumption) (by omega) (by omega), ?_⟩
      | refine ⟨_, ints_load (by assumption) (by omega) (by omega), ?_⟩
      | refine ⟨(⟨by omega, by omega⟩ : inI64 _), ?_⟩
      | refine ⟨_, fun tm ha => step1_max rfl (ev_tmp ha rfl) (ev_tmp ha rfl), ?_⟩
      | refine ⟨_, fun tm ha => step1_min rfl (ev_tmp ha rfl) (ev_tmp ha rfl), ?_⟩
      | (refine ⟨fun _ => ?_, fun _ => ?_⟩ <;> first | (exfalso; omega) | skip)
      | fail
    refine ⟨by simp only [List.all_cons, List.all_nil, hr.notTuple]; rfl, ?_, hk.trans hk2⟩
    rw [TwoR, if_pos h0]
    exact ⟨r, _, rfl, rfl, hr.low hk.1⟩
/-- What the reference's joining knows in one go over all pairs. -/
structure Pass (a b l0 l : List Int) (more : Bool) (i k : Nat) : Prop where
  lab : Lab a b l
  pos : ∀ q, q < l.length → 0 ≤ l[q]!
  less : more = true → wt l < wt l0
  same : more = false → l = l0 ∧ ∀ u w, u < a.length → w < a.length → (u < i ∨ (u = i ∧ w < k)) → (a[u]! = a[w]! ∨ b[u]! = b[w]!) → ¬ l[u]! < l[w]!
theorem Pass.skip {a b l0 l : List Int} {more : Bool} {i k : Nat} (h : Pass a b l0 l more i k) (hn : ¬ ((a[i]! = a[k]! ∨ b[i]! = b[k]!) ∧ l[i]! < l[k]!)) : Pass a b l0 l more i (k + 1) :=
  ⟨h.lab, h.pos, h.less, fun hm => ⟨(h.same hm).1, fun u w hu hw hc he => by
    by_cases h1 : u = i ∧ w = k
    · obtain ⟨rfl, rfl⟩ := h1
      exact fun hlt => hn ⟨he, hlt⟩
    · exact (h.same hm).2 u w hu hw (by omega) he⟩⟩
theorem Pass.put {a b l0 l : List Int} {more : Bool} {i k : Nat} (h : Pass a b l0 l more i k) (hl : a.length = b.length) (hi : i < a.length) (hk : k < a.length) (he : a[i]! = a[k]! ∨ b[i]! = b[k]!) (hlt : l[i]! < l[k]!) : Pass a b l0 (l.set k l[i]!) true i (k + 1) :=
  ⟨h.lab.put hl hi hk he, set_bound h.pos (h.pos i (by rw [h.lab.len]; exact hi)), fun _ => by
    have h1 := wt_set (l := l) (k := k) (y := l[i]!) (by rw [h.lab.len]; exact hk) (h.pos i (by rw [h.lab.len]; exact hi)) hlt
    cases more with
    | true => have := h.less rfl; omega
    | false => rw [← (h.same rfl).1]; exact h1, fun hm => by cases hm⟩
theorem Pass.next {a b l0 l : List Int} {more : Bool} {i k : Nat} (h : Pass a b l0 l more i k) (hk : a.length ≤ k) : Pass a b l0 l more (i + 1) 0 :=
  ⟨h.lab, h.pos, h.less, fun hm => ⟨(h.same hm).1, fun u w hu hw hc he => (h.same hm).2 u w hu hw (by omega) he⟩⟩
def bn (b : Bool) : Nat := if b then 1 else 0

set_option maxHeartbeats 4000000 in
set_option maxRecDepth 100000 in
theorem refJoin_spec {B : Nat} {v u : Value} {H : Heap} {xs ys : List Int} (hB : B ≤ H.n) (hv : Ints H v xs) (hu : Ints H u ys) :
    CallB Tryd.prog B 46 [v, u] H (fun r H' => TwoR H xs ys (fun l => ∃ s, IsJoin xs ys s ∧ l = num s []) r H' ∧ Keep H H') := by
  refine CV.enter callees false rfl Tryd.func46 rfl ok46 (Nat.le_of_ble_eq_true rfl) hB ?_
  repeat' first
    | refine CO.cons rfl ?_
    | refine CO.nil ?_
    | refine CV.seq ?_
    | refine CV.region callees ?_
    | refine CV.cond ?_
    | refine CV.block ?_
    | refine CV.skip ?_
    | refine CV.exit ?_
    | refine CV.ret ?_
    | refine CV.scope ?_
    | refine CV.draw callees rfl ?_
    | refine CH.cons rfl ?_
    | refine CH.nil ?_
    | refine CO.consG rfl ?_
    | refine CH.consG rfl ?_
    | refine CG.cons rfl ?_
    | refine CG.nil ?_
    | refine CG.consG rfl ?_
    | refine ⟨(rfl : plain _ = true), ?_⟩
    | refine ⟨(rfl : nilOk _ = some _), ?_⟩
    | refine ⟨_, ints_len (by assumption), ?_⟩
    | refine ⟨_, ints_addr (by assumption) (by omega) (by omega), ?_⟩
    | refine ⟨_, ints_load (by assumption) (by omega) (by omega), ?_⟩
    | refine ⟨(⟨by omega, by omega⟩ : inI64 _), ?_⟩
    | refine ⟨_, fun tm ha => step1_max rfl (ev_tmp ha rfl) (ev_tmp ha rfl), ?_⟩
    | refine ⟨_, fun tm ha => step1_min rfl (ev_tmp ha rfl) (ev_tmp ha rfl), ?_⟩
    | (refine ⟨fun _ => ?_, fun _ => ?_⟩ <;> first | (exfalso; omega) | skip)
    | fail
  refine (refCheckBoth_spec hB hv hu).mono ?_
  rintro r H1 ⟨rfl, rfl⟩
  repeat' first
    | refine CO.cons rfl ?_
    | refine CO.nil ?_
    | refine CV.seq ?_
    | refine CV.region callees ?_
    | refine CV.cond ?_
    | refine CV.block ?_
    | refine CV.skip ?_
    | refine CV.exit ?_
    | refine CV.ret ?_
    | refine CV.scope ?_
    | refine CV.draw callees rfl ?_
    | refine CH.cons rfl ?_
    | refine CH.nil ?_
    | refine CO.consG rfl ?_
    | refine CH.consG rfl ?_
    | refine CG.cons rfl ?_
    | refine CG.nil ?_
    | refine CG.consG rfl ?_
    | refine ⟨(rfl : plain _ = true), ?_⟩
    | refine ⟨(rfl : nilOk _ = some _), ?_⟩
    | refine ⟨_, ints_len (by assumption), ?_⟩
    | refine ⟨_, ints_addr (by assumption) (by omega) (by omega), ?_⟩
    | refine ⟨_, ints_load (by assumption) (by omega) (by omega), ?_⟩
    | refine ⟨(⟨by omega, by omega⟩ : inI64 _), ?_⟩
    | refine ⟨_, fun tm ha => step1_max rfl (ev_tmp ha rfl) (ev_tmp ha rfl), ?_⟩
    | refine ⟨_, fun tm ha => step1_min rfl (ev_tmp ha rfl) (ev_tmp ha rfl), ?_⟩
    | (refine ⟨fun _ => ?_, fun _ => ?_⟩ <;> first | (exfalso; omega) | skip)
    | fail
  · exact ⟨rfl, by rw [TwoR, if_neg (by assumption)], Keep.refl _⟩
  have h0 : chk2 xs ys = 0 := Classical.not_not.1 (by assumption)
  obtain ⟨hcx, hcy, hl⟩ := chk2_zero h0
  have hlx := check_len hcx
  refine ⟨_, _, build_none un22 one3, ?_⟩
  repeat' first
    | refine CO.cons rfl ?_
    | refine CO.nil ?_
    | refine CV.seq ?_
    | refine CV.region callees ?_
    | refine CV.cond ?_
    | refine CV.block ?_
    | refine CV.skip ?_
    | refine CV.exit ?_
    | refine CV.ret ?_
    | refine CV.scope ?_
    | refine CV.draw callees rfl ?_
    | refine CH.cons rfl ?_
    | refine CH.nil ?_
    | refine CO.consG rfl ?_
    | refine CH.consG rfl ?_
    | refine CG.cons rfl ?_
    | refine CG.nil ?_
    | refine CG.consG rfl ?_
    | refine ⟨(rfl : plain _ = true), ?_⟩
    | refine ⟨(rfl : nilOk _ = some _), ?_⟩
    | refine ⟨_, ints_len (by assumption), ?_⟩
    | refine ⟨_, ints_addr (by assumption) (by omega) (by omega), ?_⟩
    | refine ⟨_, ints_load (by assumption) (by omega) (by omega), ?_⟩
    | refine ⟨(⟨by omega, by omega⟩ : inI64 _), ?_⟩
    | refine ⟨_, fun tm ha => step1_max rfl (ev_tmp ha rfl) (ev_tmp ha rfl), ?_⟩
    | refine ⟨_, fun tm ha => step1_min rfl (ev_tmp ha rfl) (ev_tmp ha rfl), ?_⟩
    | (refine ⟨fun _ => ?_, fun _ => ?_⟩ <;> first | (exfalso; omega) | skip)
    | fail
  refine copy_ask un22 one3 (by omega) hv hB (by simp; omega) ?_
  intro w H2 hw k2
  repeat' first
    | refine CO.cons rfl ?_
    | refine CO.nil ?_
    | refine CV.seq ?_
    | refine CV.region callees ?_
    | refine CV.cond ?_
    | refine CV.block ?_
    | refine CV.skip ?_
    | refine CV.exit ?_
    | refine CV.ret ?_
    | refine CV.scope ?_
    | refine CV.draw callees rfl ?_
    | refine CH.cons rfl ?_
    | refine CH.nil ?_
    | refine CO.consG rfl ?_
    | refine CH.consG rfl ?_
    | refine CG.cons rfl ?_
    | refine CG.nil ?_
    | refine CG.consG rfl ?_
    | refine ⟨(rfl : plain _ = true), ?_⟩
    | refine ⟨(rfl : nilOk _ = some _), ?_⟩
    | refine ⟨_, ints_len (by assumption), ?_⟩
    | refine ⟨_, ints_addr (by assumption) (by omega) (by omega), ?_⟩
    | refine ⟨_, ints_load (by assumption) (by omega) (by omega), ?_⟩
    | refine ⟨(⟨by omega, by omega⟩ : inI64 _), ?_⟩
    | refine ⟨_, fun tm ha => step1_max rfl (ev_tmp ha rfl) (ev_tmp ha rfl), ?_⟩
    | refine ⟨_, fun tm ha => step1_min rfl (ev_tmp ha rfl) (ev_tmp ha rfl), ?_⟩
    | (refine ⟨fun _ => ?_, fun _ => ?_⟩ <;> first | (exfalso; omega) | skip)
    | fail
  refine CV.loopc ?_
  refine WCv.rounds callees false (α := Bool × List Int) (fun (more, l) => [(0, v), (1, u), (7, w), (8, .bool more)]) (fun (more, l) Hz => Keep H1 Hz ∧ Own 3 Hz w (l.map VI) H1.n ∧ Lab xs ys l ∧ (∀ q, q < l.length → 0 ≤ l[q]!) ∧ (more = false → ∀ u w, u < xs.length → w < xs.length → (xs[u]! = xs[w]! ∨ ys[u]! = ys[w]!) → ¬ l[u]! < l[w]!)) (fun (more, l) => wt l + bn more) (true, xs) (by repeat' first | exact trivial | refine ⟨rfl, ?_⟩ | refine ⟨slot_int (by (try simp only [Int.toNat_natCast]); omega), ?_⟩) ?_ ?_
  · exact ⟨k2, hw, Lab.start xs ys, fun q hq => (check_bound hcx hq).1, fun h => by cases h⟩
  rintro ⟨more, l⟩ Hx ⟨hk, hwx, hL, hpos, hfin⟩ hBx
  cases more with
  | false =>
    repeat' first
      | refine CO.cons rfl ?_
      | refine CO.nil ?_
      | refine CV.seq ?_
      | refine CV.region callees ?_
      | refine CV.cond ?_
      | refine CV.block ?_
      | refine CV.skip ?_
      | refine CV.exit ?_
      | refine CV.ret ?_
      | refine CV.scope ?_
      | refine CV.draw callees rfl ?_
      | refine CH.cons rfl ?_
      | refine CH.nil ?_
      | refine CO.consG rfl ?_
      | refine CH.consG rfl ?_
      | refine CG.cons rfl ?_
      | refine CG.nil ?_
      | refine CG.consG rfl ?_
      | refine ⟨(rfl : plain _ = true), ?_⟩
      | refine ⟨(rfl : nilOk _ = some _), ?_⟩
      | refine ⟨_, ints_len (by assumption), ?_⟩
      | refine ⟨_, ints_addr (by assumption) (by omega) (by omega), ?_⟩
      | refine ⟨_, ints_load (by assumption) (by omega) (by omega), ?_⟩
      | refine ⟨(⟨by omega, by omega⟩ : inI64 _), ?_⟩
      | refine ⟨_, fun tm ha => step1_max rfl (ev_tmp ha rfl) (ev_tmp ha rfl), ?_⟩
      | refine ⟨_, fun tm ha => step1_min rfl (ev_tmp ha rfl) (ev_tmp ha rfl), ?_⟩
      | (refine ⟨fun _ => ?_, fun _ => ?_⟩ <;> first | (exfalso; omega) | skip)
      | fail
    have hll := hL.len
    refine (refof_spec hBx hwx.row (by omega)).mono ?_
    rintro r H3 ⟨hr, hk3⟩
    repeat' first
      | refine CO.cons rfl ?_
      | refine CO.nil ?_
      | refine CV.seq ?_
      | refine CV.region callees ?_
      | refine CV.cond ?_
      | refine CV.block ?_
      | refine CV.skip ?_
      | refine CV.exit ?_
      | refine CV.ret ?_
      | refine CV.scope ?_
      | refine CV.draw callees rfl ?_
      | refine CH.cons rfl ?_
      | refine CH.nil ?_
      | refine CO.consG rfl ?_
      | refine CH.consG rfl ?_
      | refine CG.cons rfl ?_
      | refine CG.nil ?_
      | refine CG.consG rfl ?_
      | refine ⟨(rfl : plain _ = true), ?_⟩
      | refine ⟨(rfl : nilOk _ = some _), ?_⟩
      | refine ⟨_, ints_len (by assumption), ?_⟩
      | refine ⟨_, ints_addr (by assumption) (by omega) (by omega), ?_⟩
      | refine ⟨_, ints_load (by assumption) (by omega) (by omega), ?_⟩
      | refine ⟨(⟨by omega, by omega⟩ : inI64 _), ?_⟩
      | refine ⟨_, fun tm ha => step1_max rfl (ev_tmp ha rfl) (ev_tmp ha rfl), ?_⟩
      | refine ⟨_, fun tm ha => step1_min rfl (ev_tmp ha rfl) (ev_tmp ha rfl), ?_⟩
      | (refine ⟨fun _ => ?_, fun _ => ?_⟩ <;> first | (exfalso; omega) | skip)
      | fail
    refine ⟨by simp only [List.all_cons, List.all_nil, hr.notTuple]; rfl, ?_, hk.trans hk3⟩
    rw [TwoR, if_pos h0]
    exact ⟨r, _, rfl, ⟨l, hL.isJoin hl (hfin rfl), rfl⟩, hr.low hk.1⟩
  | true =>
    repeat' first
      | refine CO.cons rfl ?_
      | refine CO.nil ?_
      | refine CV.seq ?_
      | refine CV.region callees ?_
      | refine CV.cond ?_
      | refine CV.block ?_
      | refine CV.skip ?_
      | refine CV.exit ?_
      | refine CV.ret ?_
      | refine CV.scope ?_
      | refine CV.draw callees rfl ?_
      | refine CH.cons rfl ?_
      | refine CH.nil ?_
      | refine CO.consG rfl ?_
      | refine CH.consG rfl ?_
      | refine CG.cons rfl ?_
      | refine CG.nil ?_
      | refine CG.consG rfl ?_
      | refine ⟨(rfl : plain _ = true), ?_⟩
      | refine ⟨(rfl : nilOk _ = some _), ?_⟩
      | refine ⟨_, ints_len (by assumption), ?_⟩
      | refine ⟨_, ints_addr (by assumption) (by omega) (by omega), ?_⟩
      | refine ⟨_, ints_load (by assumption) (by omega) (by omega), ?_⟩
      | refine ⟨(⟨by omega, by omega⟩ : inI64 _), ?_⟩
      | refine ⟨_, fun tm ha => step1_max rfl (ev_tmp ha rfl) (ev_tmp ha rfl), ?_⟩
      | refine ⟨_, fun tm ha => step1_min rfl (ev_tmp ha rfl) (ev_tmp ha rfl), ?_⟩
      | (refine ⟨fun _ => ?_, fun _ => ?_⟩ <;> first | (exfalso; omega) | skip)
      | fail
    refine CV.loopc ?_
    refine WCv.rounds callees false (α := Nat × Bool × List Int) (fun (i, more, m) => [(0, v), (1, u), (7, w), (8, .bool more), (9, .int .i64 i)]) (fun (i, more, m) Hz => i ≤ xs.length ∧ Keep H1 Hz ∧ Own 3 Hz w (m.map VI) H1.n ∧ Pass xs ys l m more i 0) (fun (i, more, m) => xs.length - i) (0, false, l) (by repeat' first | exact trivial | refine ⟨rfl, ?_⟩ | refine ⟨slot_int (by (try simp only [Int.toNat_natCast]); omega), ?_⟩) ?_ ?_
    · exact ⟨by omega, hk, hwx, ⟨hL, hpos, fun h => (by cases h), fun _ => ⟨rfl, fun u w _ _ h => by omega⟩⟩⟩
    rintro ⟨i, more, m⟩ Hy ⟨hi, hky, hwy, hP⟩ hBy
    have hvy := hv.keep hky
    have huy := hu.keep hky
    by_cases hi2 : i < xs.length
    · repeat' first
        | refine CO.cons rfl ?_
        | refine CO.nil ?_
        | refine CV.seq ?_
        | refine CV.region callees ?_
        | refine CV.cond ?_
        | refine CV.block ?_
        | refine CV.skip ?_
        | refine CV.exit ?_
        | refine CV.ret ?_
        | refine CV.scope ?_
        | refine CV.draw callees rfl ?_
        | refine CH.cons rfl ?_
        | refine CH.nil ?_
        | refine CO.consG rfl ?_
        | refine CH.consG rfl ?_
        | refine CG.cons rfl ?_
        | refine CG.nil ?_
        | refine CG.consG rfl ?_
        | refine ⟨(rfl : plain _ = true), ?_⟩
        | refine ⟨(rfl : nilOk _ = some _), ?_⟩
        | refine ⟨_, ints_len (by assumption), ?_⟩
        | refine ⟨_, ints_addr (by assumption) (by omega) (by omega), ?_⟩
        | refine ⟨_, ints_load (by assumption) (by omega) (by omega), ?_⟩
        | refine ⟨(⟨by omega, by omega⟩ : inI64 _), ?_⟩
        | refine ⟨_, fun tm ha => step1_max rfl (ev_tmp ha rfl) (ev_tmp ha rfl), ?_⟩
        | refine ⟨_, fun tm ha => step1_min rfl (ev_tmp ha rfl) (ev_tmp ha rfl), ?_⟩
        | (refine ⟨fun _ => ?_, fun _ => ?_⟩ <;> first | (exfalso; omega) | skip)
        | fail
      refine CV.loopc ?_
      refine WCv.rounds callees false (α := Nat × Bool × List Int) (fun (k, more, m) => [(0, v), (1, u), (7, w), (8, .bool more), (9, .int .i64 i), (10, .int .i64 k)]) (fun (k, more, m) Hz => k ≤ xs.length ∧ Keep H1 Hz ∧ Own 3 Hz w (m.map VI) H1.n ∧ Pass xs ys l m more i k) (fun (k, more, m) => xs.length - k) (0, more, m) (by repeat' first | exact trivial | refine ⟨rfl, ?_⟩ | refine ⟨slot_int (by (try simp only [Int.toNat_natCast]); omega), ?_⟩) ?_ ?_
      · exact ⟨by omega, hky, hwy, hP⟩
      rintro ⟨k, more, m⟩ Hz ⟨hk1, hkz, hwz, hPz⟩ hBz
      have hvz := hv.keep hkz
      have huz := hu.keep hkz
      have hwi : Ints Hz w m := hwz.row
      have hlm := hPz.lab.len
      by_cases hk2 : k < xs.length
      · have fin : ∀ H3, Own 3 H3 w ((m.set k m[i]!).map VI) H1.n → KeepBut w Hz H3 → Keep H1 H3 := fun H3 _ kb => kb.keep hkz fun c hc => (hwz.lt hc).1
        repeat' first
          | refine CO.cons rfl ?_
          | refine CO.nil ?_
          | refine CV.seq ?_
          | refine CV.region callees ?_
          | refine CV.cond ?_
          | refine CV.block ?_
          | refine CV.skip ?_
          | refine CV.exit ?_
          | refine CV.ret ?_
          | refine CV.scope ?_
          | refine CV.draw callees rfl ?_
          | refine CH.cons rfl ?_
          | refine CH.nil ?_
          | refine CO.consG rfl ?_
          | refine CH.consG rfl ?_
          | refine CG.cons rfl ?_
          | refine CG.nil ?_
          | refine CG.consG rfl ?_
          | refine ⟨(rfl : plain _ = true), ?_⟩
          | refine ⟨(rfl : nilOk _ = some _), ?_⟩
          | refine ⟨_, ints_len (by assumption), ?_⟩
          | refine ⟨_, ints_addr (by assumption) (by omega) (by omega), ?_⟩
          | refine ⟨_, ints_load (by assumption) (by omega) (by omega), ?_⟩
          | refine ⟨(⟨by omega, by omega⟩ : inI64 _), ?_⟩
          | refine ⟨_, fun tm ha => step1_max rfl (ev_tmp ha rfl) (ev_tmp ha rfl), ?_⟩
          | refine ⟨_, fun tm ha => step1_min rfl (ev_tmp ha rfl) (ev_tmp ha rfl), ?_⟩
          | (refine ⟨fun _ => ?_, fun _ => ?_⟩ <;> first | (exfalso; omega) | skip)
          | fail
        all_goals simp only [Int.toNat_natCast] at *
        · refine put_ask (i := k) hwz hB (by omega) ?_
          intro H3 hw3 kb3
          repeat' first
            | refine CO.cons rfl ?_
            | refine CO.nil ?_
            | refine CV.seq ?_
            | refine CV.region callees ?_
            | refine CV.cond ?_
            | refine CV.block ?_
            | refine CV.skip ?_
            | refine CV.exit ?_
            | refine CV.ret ?_
            | refine CV.scope ?_
            | refine CV.draw callees rfl ?_
            | refine CH.cons rfl ?_
            | refine CH.nil ?_
            | refine CO.consG rfl ?_
            | refine CH.consG rfl ?_
            | refine CG.cons rfl ?_
            | refine CG.nil ?_
            | refine CG.consG rfl ?_
            | refine ⟨(rfl : plain _ = true), ?_⟩
            | refine ⟨(rfl : nilOk _ = some _), ?_⟩
            | refine ⟨_, ints_len (by assumption), ?_⟩
            | refine ⟨_, ints_addr (by assumption) (by omega) (by omega), ?_⟩
            | refine ⟨_, ints_load (by assumption) (by omega) (by omega), ?_⟩
            | refine ⟨(⟨by omega, by omega⟩ : inI64 _), ?_⟩
            | refine ⟨_, fun tm ha => step1_max rfl (ev_tmp ha rfl) (ev_tmp ha rfl), ?_⟩
            | refine ⟨_, fun tm ha => step1_min rfl (ev_tmp ha rfl) (ev_tmp ha rfl), ?_⟩
            | (refine ⟨fun _ => ?_, fun _ => ?_⟩ <;> first | (exfalso; omega) | skip)
            | fail
          refine ⟨(k + 1, true, m.set k m[i]!), (by repeat' first | exact trivial | refine ⟨rfl, ?_⟩ | refine ⟨slot_int (by (try simp only [Int.toNat_natCast]); omega), ?_⟩), (by (try dsimp only); omega), ?_⟩
          exact ⟨by omega, fin _ hw3 kb3, hw3, hPz.put hl hi2 hk2 (.inl (by assumption)) (by assumption)⟩
        · refine ⟨(k + 1, more, m), (by repeat' first | exact trivial | refine ⟨rfl, ?_⟩ | refine ⟨slot_int (by (try simp only [Int.toNat_natCast]); omega), ?_⟩), (by (try dsimp only); omega), ?_⟩
          exact ⟨by omega, hkz, hwz, hPz.skip fun h => absurd h.2 (by assumption)⟩
        · refine put_ask (i := k) hwz hB (by omega) ?_
          intro H3 hw3 kb3
          repeat' first
            | refine CO.cons rfl ?_
            | refine CO.nil ?_
            | refine CV.seq ?_
            | refine CV.region callees ?_
            | refine CV.cond ?_
            | refine CV.block ?_
            | refine CV.skip ?_
            | refine CV.exit ?_
            | refine CV.ret ?_
            | refine CV.scope ?_
            | refine CV.draw callees rfl ?_
            | refine CH.cons rfl ?_
            | refine CH.nil ?_
            | refine CO.consG rfl ?_
            | refine CH.consG rfl ?_
            | refine CG.cons rfl ?_
            | refine CG.nil ?_
            | refine CG.consG rfl ?_
            | refine ⟨(rfl : plain _ = true), ?_⟩
            | refine ⟨(rfl : nilOk _ = some _), ?_⟩
            | refine ⟨_, ints_len (by assumption), ?_⟩
            | refine ⟨_, ints_addr (by assumption) (by omega) (by omega), ?_⟩
            | refine ⟨_, ints_load (by assumption) (by omega) (by omega), ?_⟩
            | refine ⟨(⟨by omega, by omega⟩ : inI64 _), ?_⟩
            | refine ⟨_, fun tm ha => step1_max rfl (ev_tmp ha rfl) (ev_tmp ha rfl), ?_⟩
            | refine ⟨_, fun tm ha => step1_min rfl (ev_tmp ha rfl) (ev_tmp ha rfl), ?_⟩
            | (refine ⟨fun _ => ?_, fun _ => ?_⟩ <;> first | (exfalso; omega) | skip)
            | fail
          refine ⟨(k + 1, true, m.set k m[i]!), (by repeat' first | exact trivial | refine ⟨rfl, ?_⟩ | refine ⟨slot_int (by (try simp only [Int.toNat_natCast]); omega), ?_⟩), (by (try dsimp only); omega), ?_⟩
          exact ⟨by omega, fin _ hw3 kb3, hw3, hPz.put hl hi2 hk2 (.inr (by assumption)) (by assumption)⟩
        · refine ⟨(k + 1, more, m), (by repeat' first | exact trivial | refine ⟨rfl, ?_⟩ | refine ⟨slot_int (by (try simp only [Int.toNat_natCast]); omega), ?_⟩), (by (try dsimp only); omega), ?_⟩
          exact ⟨by omega, hkz, hwz, hPz.skip fun h => absurd h.2 (by assumption)⟩
        · refine ⟨(k + 1, more, m), (by repeat' first | exact trivial | refine ⟨rfl, ?_⟩ | refine ⟨slot_int (by (try simp only [Int.toNat_natCast]); omega), ?_⟩), (by (try dsimp only); omega), ?_⟩
          exact ⟨by omega, hkz, hwz, hPz.skip fun h => h.1.elim (fun e => absurd e (by assumption)) (fun e => absurd e (by assumption))⟩
      · repeat' first
          | refine CO.cons rfl ?_
          | refine CO.nil ?_
          | refine CV.seq ?_
          | refine CV.region callees ?_
          | refine CV.cond ?_
          | refine CV.block ?_
          | refine CV.skip ?_
          | refine CV.exit ?_
          | refine CV.ret ?_
          | refine CV.scope ?_
          | refine CV.draw callees rfl ?_
          | refine CH.cons rfl ?_
          | refine CH.nil ?_
          | refine CO.consG rfl ?_
          | refine CH.consG rfl ?_
          | refine CG.cons rfl ?_
          | refine CG.nil ?_
          | refine CG.consG rfl ?_
          | refine ⟨(rfl : plain _ = true), ?_⟩
          | refine ⟨(rfl : nilOk _ = some _), ?_⟩
          | refine ⟨_, ints_len (by assumption), ?_⟩
          | refine ⟨_, ints_addr (by assumption) (by omega) (by omega), ?_⟩
          | refine ⟨_, ints_load (by assumption) (by omega) (by omega), ?_⟩
          | refine ⟨(⟨by omega, by omega⟩ : inI64 _), ?_⟩
          | refine ⟨_, fun tm ha => step1_max rfl (ev_tmp ha rfl) (ev_tmp ha rfl), ?_⟩
          | refine ⟨_, fun tm ha => step1_min rfl (ev_tmp ha rfl) (ev_tmp ha rfl), ?_⟩
          | (refine ⟨fun _ => ?_, fun _ => ?_⟩ <;> first | (exfalso; omega) | skip)
          | fail
        refine ⟨(i + 1, more, m), (by repeat' first | exact trivial | refine ⟨rfl, ?_⟩ | refine ⟨slot_int (by (try simp only [Int.toNat_natCast]); omega), ?_⟩), (by (try dsimp only); omega), ?_⟩
        exact ⟨by omega, hkz, hwz, hPz.next (by omega)⟩
    · repeat' first
        | refine CO.cons rfl ?_
        | refine CO.nil ?_
        | refine CV.seq ?_
        | refine CV.region callees ?_
        | refine CV.cond ?_
        | refine CV.block ?_
        | refine CV.skip ?_
        | refine CV.exit ?_
        | refine CV.ret ?_
        | refine CV.scope ?_
        | refine CV.draw callees rfl ?_
        | refine CH.cons rfl ?_
        | refine CH.nil ?_
        | refine CO.consG rfl ?_
        | refine CH.consG rfl ?_
        | refine CG.cons rfl ?_
        | refine CG.nil ?_
        | refine CG.consG rfl ?_
        | refine ⟨(rfl : plain _ = true), ?_⟩
        | refine ⟨(rfl : nilOk _ = some _), ?_⟩
        | refine ⟨_, ints_len (by assumption), ?_⟩
        | refine ⟨_, ints_addr (by assumption) (by omega) (by omega), ?_⟩
        | refine ⟨_, ints_load (by assumption) (by omega) (by omega), ?_⟩
        | refine ⟨(⟨by omega, by omega⟩ : inI64 _), ?_⟩
        | refine ⟨_, fun tm ha => step1_max rfl (ev_tmp ha rfl) (ev_tmp ha rfl), ?_⟩
        | refine ⟨_, fun tm ha => step1_min rfl (ev_tmp ha rfl) (ev_tmp ha rfl), ?_⟩
        | (refine ⟨fun _ => ?_, fun _ => ?_⟩ <;> first | (exfalso; omega) | skip)
        | fail
      refine ⟨(more, m), (by repeat' first | exact trivial | refine ⟨rfl, ?_⟩), ?_, hky, hwy, hP.lab, hP.pos, fun hm => ?_⟩
      · cases more with
        | true => have := hP.less rfl; simp only [bn]; simp; omega
        | false => have := (hP.same rfl).1; subst this; simp [bn]
      · subst hm
        exact fun u w hu hw he => (hP.same rfl).2 u w hu hw (by omega) he
end Go.Proofs.YthcchjmjblegdaaDoor
