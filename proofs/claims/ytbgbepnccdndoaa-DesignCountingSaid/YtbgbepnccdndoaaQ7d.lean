
/- Courses made of numbers. -/
import Derived.Test.YtbgbepnccdndoaaQ6d
set_option linter.unusedVariables false
set_option linter.unusedSimpArgs false
namespace Go.Proofs.Ytbgbepnccdndoaa
open Go.AI
set_option linter.unusedVariables false
set_option linter.unusedSimpArgs false
theorem cntN_up (p : Nat → Bool) : ∀ {m n : Nat}, m ≤ n → cntN p m ≤ cntN p n
  | m, 0, h => by have : m = 0 := by omega
                  subst this; exact Nat.le_refl _
  | m, n + 1, h => by
    by_cases e : m = n + 1
    · subst e; exact Nat.le_refl _
    · have := cntN_up p (m := m) (n := n) (by omega)
      rw [cntN]; omega
/-- All packets of a stock, kind by kind. -/
def flatL (xs : List Int) : Nat → List Int
  | 0 => []
  | k + 1 => flatL xs k ++ List.replicate (xs[k]!).toNat (k : Int)
theorem flat_len {xs : List Int} (h : ∀ i, i < xs.length → 1 ≤ xs[i]!) : ∀ k, k ≤ xs.length → ((flatL xs k).length : Int) = sumL (xs.take k)
  | 0, _ => by simp [flatL, sumL]
  | k + 1, hk => by
    have := flat_len h k (by omega)
    have h1 := h k (by omega)
    rw [flatL, List.length_append, List.length_replicate, take_one (by omega), sumL_snoc]; omega
theorem flat_mem {xs : List Int} : ∀ k, ∀ x ∈ flatL xs k, 0 ≤ x ∧ x < k
  | 0, x, h => by simp [flatL] at h
  | k + 1, x, h => by
    rw [flatL, List.mem_append] at h
    rcases h with h | h
    · have := flat_mem k x h; omega
    · have := (List.mem_replicate.1 h).2; omega
theorem often_pre {l r : List Int} {k : Nat} : often (l ++ r) k l.length = often l k l.length := cntN_congr _ fun j hj => by rw [app_left hj]
theorem often_const {L : List Int} {c : Int} {k a : Nat} : ∀ m, (∀ j, j < m → L[a + j]! = c) → often L k (a + m) = often L k a + if c = (k : Int) then m else 0
  | 0, _ => by simp
  | m + 1, h => by
    rw [← Nat.add_assoc, often_succ, often_const m fun j hj => h j (by omega), h m (by omega)]
    split <;> omega
theorem often_rep {l : List Int} {c : Int} {m k : Nat} : often (l ++ List.replicate m c) k (l ++ List.replicate m c).length = often l k l.length + if c = (k : Int) then m else 0 := by
  rw [List.length_append, List.length_replicate, often_const (c := c) m fun j hj => by
    rw [getElem!_pos _ _ (by simp; omega), List.getElem_append_right (by omega), List.getElem_replicate], often_pre]
theorem flat_often {xs : List Int} {j : Nat} : ∀ k, often (flatL xs k) j (flatL xs k).length = if j < k then (xs[j]!).toNat else 0
  | 0 => rfl
  | k + 1 => by
    rw [flatL, often_rep, flat_often k]
    by_cases e : j = k
    · subst e; simp
    · rw [if_neg (show ¬ ((k : Int) = (j : Int)) by omega)]
      by_cases h : j < k
      · rw [if_pos h, if_pos (by omega)]; rfl
      · rw [if_neg h, if_neg (by omega)]
theorem fits_of {xs os cs : List Int} (ho : OrderL os) (hx : ∀ i, i < xs.length → 1 ≤ xs[i]!) (hn : os.length = (flatL xs xs.length).length) (hl : cs.length ≤ os.length)
    (hc : ∀ i, i < cs.length → cs[i]! = (flatL xs xs.length)[(os[i]!).toNat]!) : Fits xs cs := by
  refine ⟨fun i hi => ?_, fun k hk => ?_⟩
  · have h := ho.2 i (by omega)
    rw [hc i hi, getElem!_pos _ _ (by omega)]
    exact flat_mem _ _ (List.getElem_mem _)
  · have e1 : often cs k cs.length = cntN (fun t => decide ((flatL xs xs.length)[(os[t]!).toNat]! = (k : Int))) cs.length := cntN_congr _ fun j hj => by rw [hc j hj]
    have e2 := cntN_up (fun t => decide ((flatL xs xs.length)[(os[t]!).toNat]! = (k : Int))) hl
    have e3 := cntN_inj (p := fun j => decide ((flatL xs xs.length)[j]! = (k : Int))) (f := fun t => (os[t]!).toNat) (n := os.length) (fun i hi => by have := ho.2 i hi; omega) (fun i j hi hj e => ho.1 i j hi hj (by have := ho.2 i hi; have := ho.2 j hj; omega))
    have e4 := flat_often (xs := xs) (j := k) xs.length
    rw [if_pos hk, ← hn] at e4
    have e5 : often (flatL xs xs.length) k os.length = cntN (fun j => decide ((flatL xs xs.length)[j]! = (k : Int))) os.length := rfl
    have := hx k hk
    rw [e1]
    omega
set_option maxRecDepth 100000 in
theorem courseOf_spec {B b : Nat} {H : Heap} {k : Value} {xs : List Int} {d : Int} (hB : B ≤ b) (hn : B ≤ H.n) (hb : Box b H) (hv : Ints H k xs) (hS : SV xs d) :
    CallB Try.prog B 23 [bp b, Kv k d] H (fun r H' => (∃ cs, Own 3 H' r (cs.map VI) H.n ∧ Fits xs cs ∧ (cs.length : Int) = d) ∧ Box b H' ∧ KeepX b H H') := by
  obtain ⟨s1, s2, s3, s4, s5, s6⟩ := id hS
  have s7 := hS.sum
  have hbn := hb.1
  refine CV.enter callees false rfl Try.func23 rfl (by kernel_rfl) (Nat.le_of_ble_eq_true rfl) hn ?_
  repeat' first
    | refine CO.cons rfl ?_
    | refine CO.nil ?_
    | refine CV.seq ?_
    | refine CV.region callees ?_
    | refine CV.cond ?_
    | refine CV.block ?_
    | refine CV.skip ?_
    | refine CV.exit ?_
    | refine CV.ret ?_
    | refine CV.scope ?_
    | refine CV.draw callees (by decide +kernel) ?_
    | refine CH.cons rfl ?_
    | refine CH.nil ?_
    | refine CO.consG rfl ?_
    | refine CH.consG rfl ?_
    | refine CG.cons rfl ?_
    | refine CR.cons ?_
    | refine CR.nil ?_
    | refine CG.nil ?_
    | refine CG.consG rfl ?_
    | refine ⟨(rfl : plain _ = true), ?_⟩
    | refine ⟨(rfl : nilOk _ = some _), ?_⟩
    | refine ⟨_, ints_len (by assumption), ?_⟩
    | refine ⟨_, ints_addr (by assumption) (by omega) (by omega), ?_⟩
    | refine ⟨_, ints_load (by assumption) (by omega) (by omega), ?_⟩
    | refine ⟨(⟨by omega, by omega⟩ : inI64 _), ?_⟩
    | refine ⟨_, fun tm ha => step1_max rfl (ev_tmp ha rfl) (ev_tmp ha rfl), ?_⟩
    | refine ⟨_, fun tm ha => step1_min rfl (ev_tmp ha rfl) (ev_tmp ha rfl), ?_⟩
    | (refine ⟨fun _ => ?_, fun _ => ?_⟩ <;> first | (exfalso; omega) | skip)
    | fail
  refine ⟨(by simp only [notTuple]), ?_⟩
  rw [alloc_k (row_one hv)]
  generalize hs0 : H.new (Kc k d) = H0
  have hgk := new_get hs0
  have k0 := new_keep hs0
  have n0 := new_n hs0
  have hv0 : Ints H0 k xs := Row.keep hv k0
  obtain ⟨bk, hbk⟩ : ∃ bk, H.n = bk := ⟨_, rfl⟩
  rw [hbk] at hgk n0 ⊢
  have hb0 := hb.keep k0
  repeat' first
    | refine CO.cons rfl ?_
    | refine CO.nil ?_
    | refine CV.seq ?_
    | refine CV.region callees ?_
    | refine CV.cond ?_
    | refine CV.block ?_
    | refine CV.skip ?_
    | refine CV.exit ?_
    | refine CV.ret ?_
    | refine CV.scope ?_
    | refine CV.draw callees (by decide +kernel) ?_
    | refine CH.cons rfl ?_
    | refine CH.nil ?_
    | refine CO.consG rfl ?_
    | refine CH.consG rfl ?_
    | refine CG.cons rfl ?_
    | refine CR.cons ?_
    | refine CR.nil ?_
    | refine CG.nil ?_
    | refine CG.consG rfl ?_
    | refine ⟨(rfl : plain _ = true), ?_⟩
    | refine ⟨(rfl : nilOk _ = some _), ?_⟩
    | refine ⟨_, ints_len (by assumption), ?_⟩
    | refine ⟨_, ints_addr (by assumption) (by omega) (by omega), ?_⟩
    | refine ⟨_, ints_load (by assumption) (by omega) (by omega), ?_⟩
    | refine ⟨(⟨by omega, by omega⟩ : inI64 _), ?_⟩
    | refine ⟨_, fun tm ha => step1_max rfl (ev_tmp ha rfl) (ev_tmp ha rfl), ?_⟩
    | refine ⟨_, fun tm ha => step1_min rfl (ev_tmp ha rfl) (ev_tmp ha rfl), ?_⟩
    | (refine ⟨fun _ => ?_, fun _ => ?_⟩ <;> first | (exfalso; omega) | skip)
    | fail
  refine CV.loopc ?_
  refine WCv.rounds callees false (α := Value × Nat) (fun (a, i) => [(0, bp b), (3, .pointer (some ⟨bk, 0, none⟩)), (5, a), (6, .int .i64 i)]) (fun (a, i) Hz => i ≤ xs.length ∧ Own 3 Hz a ((flatL xs i).map VI) H0.n ∧ Keep H0 Hz) (fun (a, i) => xs.length - i) (.slice none 0 0, 0) (by repeat' first | exact trivial | refine ⟨rfl, ?_⟩ | refine ⟨slot_int (by (try simp only [Int.toNat_natCast]); omega), ?_⟩) ?_ ?_
  · exact ⟨by omega, .inl ⟨rfl, rfl⟩, Keep.refl _⟩
  rintro ⟨a, i⟩ Hx ⟨hi, ha, kx⟩ hBx
  have lx := kx.1
  have hgx : Hx.get bk = some (Kc k d) := by rw [kx.2 bk (by omega)]; exact hgk
  have hvx : Ints Hx k xs := Row.keep hv0 kx
  have hfl := flat_len (xs := xs) (fun i hi => (s3 i hi).1) i hi
  have hst := sum_take s3 i hi
  by_cases hi2 : i < xs.length
  · have hxi : xs[(i : Int).toNat]! = xs[i]! := rfl
    have hei := s3 i hi2
    have hfs : flatL xs (i + 1) = flatL xs i ++ List.replicate (xs[i]!).toNat (i : Int) := rfl
    repeat' first
      | refine CO.cons rfl ?_
      | refine CO.nil ?_
      | refine CV.seq ?_
      | refine CV.region callees ?_
      | refine CV.cond ?_
      | refine CV.block ?_
      | refine CV.skip ?_
      | refine CV.exit ?_
      | refine CV.ret ?_
      | refine CV.scope ?_
      | refine CV.draw callees (by decide +kernel) ?_
      | refine CH.cons rfl ?_
      | refine CH.nil ?_
      | refine CO.consG rfl ?_
      | refine CH.consG rfl ?_
      | refine CG.cons rfl ?_
      | refine CR.cons ?_
      | refine CR.nil ?_
      | refine CG.nil ?_
      | refine CG.consG rfl ?_
      | refine ⟨(rfl : plain _ = true), ?_⟩
      | refine ⟨(rfl : nilOk _ = some _), ?_⟩
      | refine ⟨_, ints_len (by assumption), ?_⟩
      | refine ⟨_, ints_addr (by assumption) (by omega) (by omega), ?_⟩
      | refine ⟨_, ints_load (by assumption) (by omega) (by omega), ?_⟩
      | refine ⟨(⟨by omega, by omega⟩ : inI64 _), ?_⟩
      | refine ⟨_, fun tm ha => step1_max rfl (ev_tmp ha rfl) (ev_tmp ha rfl), ?_⟩
      | refine ⟨_, fun tm ha => step1_min rfl (ev_tmp ha rfl) (ev_tmp ha rfl), ?_⟩
      | (refine ⟨_, addrK0, ?_⟩)
      | (refine ⟨_, cell_load ag22 hgx rfl, ?_⟩)
      | (refine ⟨fun _ => ?_, fun _ => ?_⟩ <;> first | (exfalso; omega) | skip)
      | fail
    refine CV.loopc ?_
    refine WCv.rounds callees false (α := Value × Nat) (fun (a', j) => [(0, bp b), (3, .pointer (some ⟨bk, 0, none⟩)), (5, a'), (6, .int .i64 i), (7, .int .i64 j)]) (fun (a', j) Hz => (j : Int) ≤ xs[i]! ∧ Own 3 Hz a' ((flatL xs i ++ List.replicate j (i : Int)).map VI) H0.n ∧ Keep H0 Hz) (fun (a', j) => (xs[i]!).toNat - j) (a, 0) (by repeat' first | exact trivial | refine ⟨rfl, ?_⟩ | refine ⟨slot_int (by (try simp only [Int.toNat_natCast]); omega), ?_⟩) ?_ ?_
    · exact ⟨by omega, by rw [List.replicate_zero, List.append_nil]; exact ha, kx⟩
    rintro ⟨a', j⟩ Hy ⟨hj, ha', ky⟩ hBy
    have ly := ky.1
    have hgy : Hy.get bk = some (Kc k d) := by rw [ky.2 bk (by omega)]; exact hgk
    have hvy : Ints Hy k xs := Row.keep hv0 ky
    by_cases hj2 : (j : Int) < xs[i]!
    · have hrs : flatL xs i ++ List.replicate j (i : Int) ++ [(i : Int)] = flatL xs i ++ List.replicate (j + 1) (i : Int) := by rw [List.replicate_succ', List.append_assoc]
      repeat' first
        | refine CO.cons rfl ?_
        | refine CO.nil ?_
        | refine CV.seq ?_
        | refine CV.region callees ?_
        | refine CV.cond ?_
        | refine CV.block ?_
        | refine CV.skip ?_
        | refine CV.exit ?_
        | refine CV.ret ?_
        | refine CV.scope ?_
        | refine CV.draw callees (by decide +kernel) ?_
        | refine CH.cons rfl ?_
        | refine CH.nil ?_
        | refine CO.consG rfl ?_
        | refine CH.consG rfl ?_
        | refine CG.cons rfl ?_
        | refine CR.cons ?_
        | refine CR.nil ?_
        | refine CG.nil ?_
        | refine CG.consG rfl ?_
        | refine ⟨(rfl : plain _ = true), ?_⟩
        | refine ⟨(rfl : nilOk _ = some _), ?_⟩
        | refine ⟨_, ints_len (by assumption), ?_⟩
        | refine ⟨_, ints_addr (by assumption) (by omega) (by omega), ?_⟩
        | refine ⟨_, ints_load (by assumption) (by omega) (by omega), ?_⟩
        | refine ⟨(⟨by omega, by omega⟩ : inI64 _), ?_⟩
        | refine ⟨_, fun tm ha => step1_max rfl (ev_tmp ha rfl) (ev_tmp ha rfl), ?_⟩
        | refine ⟨_, fun tm ha => step1_min rfl (ev_tmp ha rfl) (ev_tmp ha rfl), ?_⟩
        | (refine ⟨_, addrK0, ?_⟩)
        | (refine ⟨_, cell_load ag22 hgy rfl, ?_⟩)
        | (refine ⟨_, _, build_one un22 one3 rfl, ?_⟩)
        | (refine ⟨fun _ => ?_, fun _ => ?_⟩ <;> first | (exfalso; omega) | skip)
        | fail
      refine push_ask ha' ky.1 (by omega) (by rw [List.length_append, List.length_replicate]; omega) ?_
      intro a3 H3' ha3 kb3 hf3
      rw [hrs] at ha3
      repeat' first
        | refine CO.cons rfl ?_
        | refine CO.nil ?_
        | refine CV.seq ?_
        | refine CV.region callees ?_
        | refine CV.cond ?_
        | refine CV.block ?_
        | refine CV.skip ?_
        | refine CV.exit ?_
        | refine CV.ret ?_
        | refine CV.scope ?_
        | refine CV.draw callees (by decide +kernel) ?_
        | refine CH.cons rfl ?_
        | refine CH.nil ?_
        | refine CO.consG rfl ?_
        | refine CH.consG rfl ?_
        | refine CG.cons rfl ?_
        | refine CR.cons ?_
        | refine CR.nil ?_
        | refine CG.nil ?_
        | refine CG.consG rfl ?_
        | refine ⟨(rfl : plain _ = true), ?_⟩
        | refine ⟨(rfl : nilOk _ = some _), ?_⟩
        | refine ⟨_, ints_len (by assumption), ?_⟩
        | refine ⟨_, ints_addr (by assumption) (by omega) (by omega), ?_⟩
        | refine ⟨_, ints_load (by assumption) (by omega) (by omega), ?_⟩
        | refine ⟨(⟨by omega, by omega⟩ : inI64 _), ?_⟩
        | refine ⟨_, fun tm ha => step1_max rfl (ev_tmp ha rfl) (ev_tmp ha rfl), ?_⟩
        | refine ⟨_, fun tm ha => step1_min rfl (ev_tmp ha rfl) (ev_tmp ha rfl), ?_⟩
        | (refine ⟨fun _ => ?_, fun _ => ?_⟩ <;> first | (exfalso; omega) | skip)
        | fail
      refine ⟨(a3, j + 1), (by repeat' first | exact trivial | refine ⟨rfl, ?_⟩ | refine ⟨slot_int (by (try simp only [Int.toNat_natCast]); omega), ?_⟩), (by (try dsimp only); omega), ?_⟩
      exact ⟨by omega, ha3, kb3.keep ky fun c hc => (ha'.lt hc).1⟩
    · have hje : j = (xs[i]!).toNat := by omega
      subst hje
      rw [← hfs] at ha'
      repeat' first
        | refine CO.cons rfl ?_
        | refine CO.nil ?_
        | refine CV.seq ?_
        | refine CV.region callees ?_
        | refine CV.cond ?_
        | refine CV.block ?_
        | refine CV.skip ?_
        | refine CV.exit ?_
        | refine CV.ret ?_
        | refine CV.scope ?_
        | refine CV.draw callees (by decide +kernel) ?_
        | refine CH.cons rfl ?_
        | refine CH.nil ?_
        | refine CO.consG rfl ?_
        | refine CH.consG rfl ?_
        | refine CG.cons rfl ?_
        | refine CR.cons ?_
        | refine CR.nil ?_
        | refine CG.nil ?_
        | refine CG.consG rfl ?_
        | refine ⟨(rfl : plain _ = true), ?_⟩
        | refine ⟨(rfl : nilOk _ = some _), ?_⟩
        | refine ⟨_, ints_len (by assumption), ?_⟩
        | refine ⟨_, ints_addr (by assumption) (by omega) (by omega), ?_⟩
        | refine ⟨_, ints_load (by assumption) (by omega) (by omega), ?_⟩
        | refine ⟨(⟨by omega, by omega⟩ : inI64 _), ?_⟩
        | refine ⟨_, fun tm ha => step1_max rfl (ev_tmp ha rfl) (ev_tmp ha rfl), ?_⟩
        | refine ⟨_, fun tm ha => step1_min rfl (ev_tmp ha rfl) (ev_tmp ha rfl), ?_⟩
        | (refine ⟨_, addrK0, ?_⟩)
        | (refine ⟨_, cell_load ag22 hgy rfl, ?_⟩)
        | (refine ⟨fun _ => ?_, fun _ => ?_⟩ <;> first | (exfalso; omega) | skip)
        | fail
      refine ⟨(a', i + 1), (by repeat' first | exact trivial | refine ⟨rfl, ?_⟩ | refine ⟨slot_int (by (try simp only [Int.toNat_natCast]); omega), ?_⟩), (by (try dsimp only); omega), ?_⟩
      exact ⟨by omega, ha', ky⟩
  · have hil : i = xs.length := by omega
    subst hil
    rw [List.take_length] at hfl
    have hax : Ints Hx a (flatL xs xs.length) := ha.row
    have hbx := hb0.keep kx
    have hfm := flat_mem (xs := xs) xs.length
    have hfits := fun (os cs : List Int) (ho : OrderL os) => fits_of (xs := xs) (os := os) (cs := cs) ho fun i hi => (s3 i hi).1
    generalize flatL xs xs.length = fs at hfl hax ha hfm hfits ⊢
    repeat' first
      | refine CO.cons rfl ?_
      | refine CO.nil ?_
      | refine CV.seq ?_
      | refine CV.region callees ?_
      | refine CV.cond ?_
      | refine CV.block ?_
      | refine CV.skip ?_
      | refine CV.exit ?_
      | refine CV.ret ?_
      | refine CV.scope ?_
      | refine CV.draw callees (by decide +kernel) ?_
      | refine CH.cons rfl ?_
      | refine CH.nil ?_
      | refine CO.consG rfl ?_
      | refine CH.consG rfl ?_
      | refine CG.cons rfl ?_
      | refine CR.cons ?_
      | refine CR.nil ?_
      | refine CG.nil ?_
      | refine CG.consG rfl ?_
      | refine ⟨(rfl : plain _ = true), ?_⟩
      | refine ⟨(rfl : nilOk _ = some _), ?_⟩
      | refine ⟨_, ints_len (by assumption), ?_⟩
      | refine ⟨_, ints_addr (by assumption) (by omega) (by omega), ?_⟩
      | refine ⟨_, ints_load (by assumption) (by omega) (by omega), ?_⟩
      | refine ⟨(⟨by omega, by omega⟩ : inI64 _), ?_⟩
      | refine ⟨_, fun tm ha => step1_max rfl (ev_tmp ha rfl) (ev_tmp ha rfl), ?_⟩
      | refine ⟨_, fun tm ha => step1_min rfl (ev_tmp ha rfl) (ev_tmp ha rfl), ?_⟩
      | (refine ⟨_, addrK0, ?_⟩)
      | (refine ⟨_, cell_load ag22 hgx rfl, ?_⟩)
      | (refine ⟨fun _ => ?_, fun _ => ?_⟩ <;> first | (exfalso; omega) | skip)
      | fail
    refine (order_spec hB (by omega) hbx (by omega)).mono ?_
    rintro r H2 ⟨⟨os, ho, hol, hos⟩, hb2, x2⟩
    have l2 := x2.1
    have hg2 : H2.get bk = some (Kc k d) := by rw [x2.2 bk (by omega) (by omega)]; exact hgx
    have ha2 : Ints H2 a fs := row_box hax x2 hbx
    have hos2 : Ints H2 r os := hos.row
    have xH2 : KeepX b H H2 := ((k0.trans kx).butX b).trans x2
    repeat' first
      | refine CO.cons rfl ?_
      | refine CO.nil ?_
      | refine CV.seq ?_
      | refine CV.region callees ?_
      | refine CV.cond ?_
      | refine CV.block ?_
      | refine CV.skip ?_
      | refine CV.exit ?_
      | refine CV.ret ?_
      | refine CV.scope ?_
      | refine CV.draw callees (by decide +kernel) ?_
      | refine CH.cons rfl ?_
      | refine CH.nil ?_
      | refine CO.consG rfl ?_
      | refine CH.consG rfl ?_
      | refine CG.cons rfl ?_
      | refine CR.cons ?_
      | refine CR.nil ?_
      | refine CG.nil ?_
      | refine CG.consG rfl ?_
      | refine ⟨(rfl : plain _ = true), ?_⟩
      | refine ⟨(rfl : nilOk _ = some _), ?_⟩
      | refine ⟨_, ints_len (by assumption), ?_⟩
      | refine ⟨_, ints_addr (by assumption) (by omega) (by omega), ?_⟩
      | refine ⟨_, ints_load (by assumption) (by omega) (by omega), ?_⟩
      | refine ⟨(⟨by omega, by omega⟩ : inI64 _), ?_⟩
      | refine ⟨_, fun tm ha => step1_max rfl (ev_tmp ha rfl) (ev_tmp ha rfl), ?_⟩
      | refine ⟨_, fun tm ha => step1_min rfl (ev_tmp ha rfl) (ev_tmp ha rfl), ?_⟩
      | (refine ⟨fun _ => ?_, fun _ => ?_⟩ <;> first | (exfalso; omega) | skip)
      | fail
    refine CV.loopc ?_
    refine WCv.rounds callees false (α := Value × List Int) (fun (o, cs) => [(3, .pointer (some ⟨bk, 0, none⟩)), (5, a), (8, r), (9, o), (10, .int .i64 cs.length)]) (fun (o, cs) Hz => (cs.length : Int) ≤ d ∧ Own 3 Hz o (cs.map VI) H2.n ∧ Keep H2 Hz ∧ (∀ i, i < cs.length → cs[i]! = fs[(os[i]!).toNat]!)) (fun (o, cs) => d.toNat - cs.length) (.slice none 0 0, []) (by repeat' first | exact trivial | refine ⟨rfl, ?_⟩ | refine ⟨slot_int (by (try simp only [Int.toNat_natCast]); omega), ?_⟩) ?_ ?_
    · exact ⟨by simp; omega, .inl ⟨rfl, rfl⟩, Keep.refl _, fun i hi => by simp at hi⟩
    rintro ⟨o, cs⟩ Hy ⟨hcl, ho', ky, hcs⟩ hBy
    have hgy : Hy.get bk = some (Kc k d) := by rw [ky.2 bk (by omega)]; exact hg2
    have hay : Ints Hy a fs := Row.keep ha2 ky
    have hoy : Ints Hy r os := Row.keep hos2 ky
    by_cases hc2 : (cs.length : Int) < d
    · have hoc := ho.2 cs.length (by omega)
      have hxi : os[(cs.length : Int).toNat]! = os[cs.length]! := rfl
      repeat' first
        | refine CO.cons rfl ?_
        | refine CO.nil ?_
        | refine CV.seq ?_
        | refine CV.region callees ?_
        | refine CV.cond ?_
        | refine CV.block ?_
        | refine CV.skip ?_
        | refine CV.exit ?_
        | refine CV.ret ?_
        | refine CV.scope ?_
        | refine CV.draw callees (by decide +kernel) ?_
        | refine CH.cons rfl ?_
        | refine CH.nil ?_
        | refine CO.consG rfl ?_
        | refine CH.consG rfl ?_
        | refine CG.cons rfl ?_
        | refine CR.cons ?_
        | refine CR.nil ?_
        | refine CG.nil ?_
        | refine CG.consG rfl ?_
        | refine ⟨(rfl : plain _ = true), ?_⟩
        | refine ⟨(rfl : nilOk _ = some _), ?_⟩
        | refine ⟨_, ints_len (by assumption), ?_⟩
        | refine ⟨_, ints_addr (by assumption) (by omega) (by omega), ?_⟩
        | refine ⟨_, ints_load (by assumption) (by omega) (by omega), ?_⟩
        | refine ⟨(⟨by omega, by omega⟩ : inI64 _), ?_⟩
        | refine ⟨_, fun tm ha => step1_max rfl (ev_tmp ha rfl) (ev_tmp ha rfl), ?_⟩
        | refine ⟨_, fun tm ha => step1_min rfl (ev_tmp ha rfl) (ev_tmp ha rfl), ?_⟩
        | (refine ⟨_, addrK1, ?_⟩)
        | (refine ⟨Value.int .i64 d, cell_load ag3 hgy rfl, ?_⟩)
        | (refine ⟨_, _, build_one un22 one3 rfl, ?_⟩)
        | (refine ⟨fun _ => ?_, fun _ => ?_⟩ <;> first | (exfalso; omega) | skip)
        | fail
      refine push_ask ho' ky.1 (by omega) (by omega) ?_
      intro a3 H3' ha3 kb3 hf3
      have ln : (cs ++ [fs[(os[cs.length]!).toNat]!]).length = cs.length + 1 := by simp
      repeat' first
        | refine CO.cons rfl ?_
        | refine CO.nil ?_
        | refine CV.seq ?_
        | refine CV.region callees ?_
        | refine CV.cond ?_
        | refine CV.block ?_
        | refine CV.skip ?_
        | refine CV.exit ?_
        | refine CV.ret ?_
        | refine CV.scope ?_
        | refine CV.draw callees (by decide +kernel) ?_
        | refine CH.cons rfl ?_
        | refine CH.nil ?_
        | refine CO.consG rfl ?_
        | refine CH.consG rfl ?_
        | refine CG.cons rfl ?_
        | refine CR.cons ?_
        | refine CR.nil ?_
        | refine CG.nil ?_
        | refine CG.consG rfl ?_
        | refine ⟨(rfl : plain _ = true), ?_⟩
        | refine ⟨(rfl : nilOk _ = some _), ?_⟩
        | refine ⟨_, ints_len (by assumption), ?_⟩
        | refine ⟨_, ints_addr (by assumption) (by omega) (by omega), ?_⟩
        | refine ⟨_, ints_load (by assumption) (by omega) (by omega), ?_⟩
        | refine ⟨(⟨by omega, by omega⟩ : inI64 _), ?_⟩
        | refine ⟨_, fun tm ha => step1_max rfl (ev_tmp ha rfl) (ev_tmp ha rfl), ?_⟩
        | refine ⟨_, fun tm ha => step1_min rfl (ev_tmp ha rfl) (ev_tmp ha rfl), ?_⟩
        | (refine ⟨fun _ => ?_, fun _ => ?_⟩ <;> first | (exfalso; omega) | skip)
        | fail
      refine ⟨(a3, cs ++ [fs[(os[cs.length]!).toNat]!]), (by repeat' first | exact trivial | refine ⟨rfl, ?_⟩ | refine ⟨slot_int (by (try simp only [Int.toNat_natCast]); omega), ?_⟩), (by (try dsimp only); omega), ?_⟩
      refine ⟨by omega, ha3, kb3.keep ky fun c hc => (ho'.lt hc).1, fun j hj => ?_⟩
      rw [ln] at hj
      by_cases hj2 : j < cs.length
      · rw [app_left hj2]; exact hcs j hj2
      · have : j = cs.length := by omega
        subst this
        rw [at_snoc, if_neg (by omega), if_pos rfl]
    · repeat' first
        | refine CO.cons rfl ?_
        | refine CO.nil ?_
        | refine CV.seq ?_
        | refine CV.region callees ?_
        | refine CV.cond ?_
        | refine CV.block ?_
        | refine CV.skip ?_
        | refine CV.exit ?_
        | refine CV.ret ?_
        | refine CV.scope ?_
        | refine CV.draw callees (by decide +kernel) ?_
        | refine CH.cons rfl ?_
        | refine CH.nil ?_
        | refine CO.consG rfl ?_
        | refine CH.consG rfl ?_
        | refine CG.cons rfl ?_
        | refine CR.cons ?_
        | refine CR.nil ?_
        | refine CG.nil ?_
        | refine CG.consG rfl ?_
        | refine ⟨(rfl : plain _ = true), ?_⟩
        | refine ⟨(rfl : nilOk _ = some _), ?_⟩
        | refine ⟨_, ints_len (by assumption), ?_⟩
        | refine ⟨_, ints_addr (by assumption) (by omega) (by omega), ?_⟩
        | refine ⟨_, ints_load (by assumption) (by omega) (by omega), ?_⟩
        | refine ⟨(⟨by omega, by omega⟩ : inI64 _), ?_⟩
        | refine ⟨_, fun tm ha => step1_max rfl (ev_tmp ha rfl) (ev_tmp ha rfl), ?_⟩
        | refine ⟨_, fun tm ha => step1_min rfl (ev_tmp ha rfl) (ev_tmp ha rfl), ?_⟩
        | (refine ⟨_, addrK1, ?_⟩)
        | (refine ⟨Value.int .i64 d, cell_load ag3 hgy rfl, ?_⟩)
        | (refine ⟨fun _ => ?_, fun _ => ?_⟩ <;> first | (exfalso; omega) | skip)
        | fail
      exact ⟨by simp only [List.all_cons, List.all_nil, ho'.notTuple]; rfl, ⟨cs, ho'.low (by omega), hfits os cs ho (by omega) (by omega) hcs, by omega⟩, hb2.keep ky, xH2.trans (ky.butX b)⟩
end Go.Proofs.Ytbgbepnccdndoaa
