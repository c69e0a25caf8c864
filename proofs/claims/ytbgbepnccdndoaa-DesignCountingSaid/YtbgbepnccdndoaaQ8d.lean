
/- The most that is known behind all packets of the other kinds. -/
import Derived.Test.YtbgbepnccdndoaaQ7d
set_option linter.unusedVariables false
set_option linter.unusedSimpArgs false
namespace Go.Proofs.Ytbgbepnccdndoaa
open Go.AI
set_option linter.unusedVariables false
set_option linter.unusedSimpArgs false
theorem kinds_none {l : List Int} : ∀ n : Nat, (∀ j : Nat, j < n → ¬ 0 < l[j]!) → kindsL l n = []
  | 0, _ => rfl
  | n + 1, h => by rw [kindsL, kinds_none n fun j hj => h j (by omega), if_neg (h n (by omega))]; rfl
theorem kinds_single {l : List Int} {i : Nat} (hp : 0 < l[i]!) : ∀ n : Nat, i < n → (∀ j : Nat, j < n → j ≠ i → ¬ 0 < l[j]!) → kindsL l n = [(i : Int)]
  | n + 1, hi, h => by
    by_cases e : i = n
    · subst e
      rw [kindsL, kinds_none i fun j hj => h j (by omega) (by omega), if_pos hp]; rfl
    · rw [kindsL, kinds_single hp n (by omega) fun j hj => h j (by omega), if_neg (h n (by omega) (by omega)), List.append_nil]
/-- All packets of a stock but those of one kind. -/
def flatX (xs : List Int) (i : Nat) : Nat → List Int
  | 0 => []
  | k + 1 => flatX xs i k ++ List.replicate (if k = i then 0 else (xs[k]!).toNat) (k : Int)
theorem flatX_len {xs : List Int} {i : Nat} (h : ∀ i, i < xs.length → 1 ≤ xs[i]!) : ∀ k, k ≤ xs.length → ((flatX xs i k).length : Int) = sumL (xs.take k) - if i < k then xs[i]! else 0
  | 0, _ => by simp [flatX, sumL]
  | k + 1, hk => by
    have := flatX_len (i := i) h k (by omega)
    have h1 := h k (by omega)
    rw [flatX, List.length_append, List.length_replicate, take_one (by omega), sumL_snoc]
    by_cases e : k = i
    · subst e
      rw [if_neg (by omega)] at this
      rw [if_pos rfl, if_pos (by omega)]; omega
    · rw [if_neg e]
      by_cases h2 : i < k
      · rw [if_pos h2] at this; rw [if_pos (by omega)]; omega
      · rw [if_neg h2] at this; rw [if_neg (by omega)]; omega
theorem flatX_mem {xs : List Int} {i : Nat} : ∀ k, ∀ x ∈ flatX xs i k, 0 ≤ x ∧ x < k
  | 0, x, h => by simp [flatX] at h
  | k + 1, x, h => by
    rw [flatX, List.mem_append] at h
    rcases h with h | h
    · have := flatX_mem k x h; omega
    · have := (List.mem_replicate.1 h).2; omega
theorem flatX_often {xs : List Int} {i j : Nat} : ∀ k, often (flatX xs i k) j (flatX xs i k).length = if j < k ∧ j ≠ i then (xs[j]!).toNat else 0
  | 0 => rfl
  | k + 1 => by
    rw [flatX, often_rep, flatX_often k]
    by_cases e : j = k
    · subst e
      rw [if_pos rfl, if_neg (by omega)]
      by_cases h : j = i
      · rw [if_pos h, if_neg (by omega)]
      · rw [if_neg h, if_pos (by omega)]; omega
    · rw [if_neg (show ¬ ((k : Int) = (j : Int)) by omega)]
      by_cases h : j < k ∧ j ≠ i
      · rw [if_pos h, if_pos (by omega)]; rfl
      · rw [if_neg h, if_neg (by omega)]
theorem flatX_fits {xs : List Int} {i : Nat} (h : ∀ i, i < xs.length → 1 ≤ xs[i]!) : Fits xs (flatX xs i xs.length) := by
  refine ⟨fun j hj => ?_, fun k hk => ?_⟩
  · rw [getElem!_pos (flatX xs i xs.length) _ hj]; exact flatX_mem _ _ (List.getElem_mem _)
  · have := h k hk
    rw [flatX_often]
    split <;> omega
theorem flatX_rest {xs : List Int} {i : Nat} {d : Int} (h : ∀ i, i < xs.length → 1 ≤ xs[i]!) (hi : i < xs.length) (hd : (flatX xs i xs.length).length ≤ d) : restS xs d (flatX xs i xs.length) = d - (sumL xs - xs[i]!) := by
  have hl := flatX_len (i := i) h xs.length (Nat.le_refl _)
  rw [List.take_length, if_pos hi] at hl
  have hat := (left_at (flatX_fits (i := i) h).el _ (Nat.le_refl _)).1
  rw [List.take_length] at hat
  have hk : kindsL (leftL xs (flatX xs i xs.length)) xs.length = [(i : Int)] := by
    refine kinds_single ?_ _ hi fun j hj hne => ?_
    · have := h i hi
      rw [hat i hi, flatX_often, if_neg (by omega)]; omega
    · rw [hat j hj, flatX_often, if_pos ⟨hj, hne⟩]
      have := h j hj
      omega
  unfold restS restK
  rw [hk]
  by_cases e : ((flatX xs i xs.length).length : Int) = d
  · rw [if_pos e, if_neg (by simp)]; omega
  · rw [if_neg e]; simp only [List.length_singleton, if_true]; omega
def bestN (xs : List Int) (d : Int) : Nat → Int
  | 0 => 0
  | i + 1 => max (bestN xs d i) (d - (sumL xs - xs[i]!))
theorem best_all {xs : List Int} {d : Int} : ∀ i : Nat, 0 ≤ bestN xs d i ∧ (∀ j : Nat, j < i → d - (sumL xs - xs[j]!) ≤ bestN xs d i) ∧ (bestN xs d i = 0 ∨ ∃ j : Nat, j < i ∧ bestN xs d i = d - (sumL xs - xs[j]!))
  | 0 => ⟨Int.le_refl _, fun j hj => by omega, .inl rfl⟩
  | i + 1 => by
    obtain ⟨h1, h2, h3⟩ := best_all (xs := xs) (d := d) i
    have e : bestN xs d (i + 1) = max (bestN xs d i) (d - (sumL xs - xs[i]!)) := rfl
    rw [e]
    refine ⟨by omega, fun j hj => ?_, ?_⟩
    · by_cases hj2 : j = i
      · subst hj2; omega
      · have := h2 j (by omega); omega
    · by_cases h : bestN xs d i ≤ d - (sumL xs - xs[i]!)
      · exact .inr ⟨i, by omega, by omega⟩
      · rcases h3 with h3 | ⟨j, hj, h3⟩
        · exact .inl (by omega)
        · exact .inr ⟨j, by omega, by omega⟩
theorem best_most {xs : List Int} {d m : Int} (hm : IsMax xs m) : bestN xs d xs.length = mostOf xs d m := by
  obtain ⟨h1, h2, h3⟩ := best_all (xs := xs) (d := d) xs.length
  obtain ⟨⟨k, hk, rfl⟩, hall⟩ := hm
  have := h2 k hk
  unfold mostOf
  rcases h3 with h3 | ⟨j, hj, h3⟩
  · omega
  · have := hall j hj; omega
set_option maxRecDepth 100000 in
theorem reached_spec {B : Nat} {H : Heap} {k : Value} {xs : List Int} {d m : Int} (hB : B ≤ H.n) (hv : Ints H k xs) (hS : SV xs d) (hm : IsMax xs m) :
    CallB Try.prog B 67 [Kv k d, .int .i64 (mostOf xs d m)] H (fun r H' => r = .bool true ∧ Keep H H') := by
  obtain ⟨s1, s2, s3, s4, s5, s6⟩ := id hS
  have s7 := hS.sum
  rw [← best_most hm]
  refine CV.enter callees false rfl Try.func67 rfl (by kernel_rfl) (Nat.le_of_ble_eq_true rfl) hB ?_
  repeat' first
    | refine CO.cons rfl ?_
    | refine CO.nil ?_
    | refine CV.seq ?_
    | refine CV.region callees ?_
    | refine CV.cond ?_
    | refine CV.block ?_
    | refine CV.skip ?_
    | refine CV.exit ?_
    | refine CV.ret ?_
    | refine CV.scope ?_
    | refine CV.draw callees (by decide +kernel) ?_
    | refine CH.cons rfl ?_
    | refine CH.nil ?_
    | refine CO.consG rfl ?_
    | refine CH.consG rfl ?_
    | refine CG.cons rfl ?_
    | refine CR.cons ?_
    | refine CR.nil ?_
    | refine CG.nil ?_
    | refine CG.consG rfl ?_
    | refine ⟨(rfl : plain _ = true), ?_⟩
    | refine ⟨(rfl : nilOk _ = some _), ?_⟩
    | refine ⟨_, ints_len (by assumption), ?_⟩
    | refine ⟨_, ints_addr (by assumption) (by omega) (by omega), ?_⟩
    | refine ⟨_, ints_load (by assumption) (by omega) (by omega), ?_⟩
    | refine ⟨(⟨by omega, by omega⟩ : inI64 _), ?_⟩
    | refine ⟨_, fun tm ha => step1_max rfl (ev_tmp ha rfl) (ev_tmp ha rfl), ?_⟩
    | refine ⟨_, fun tm ha => step1_min rfl (ev_tmp ha rfl) (ev_tmp ha rfl), ?_⟩
    | (refine ⟨fun _ => ?_, fun _ => ?_⟩ <;> first | (exfalso; omega) | skip)
    | fail
  refine ⟨(by simp only [notTuple]), ?_⟩
  rw [alloc_k (row_one hv)]
  generalize hs0 : H.new (Kc k d) = H0
  have hgk := new_get hs0
  have k0 := new_keep hs0
  have n0 := new_n hs0
  have hv0 : Ints H0 k xs := Row.keep hv k0
  obtain ⟨bk, hbk⟩ : ∃ bk, H.n = bk := ⟨_, rfl⟩
  rw [hbk] at hgk n0 ⊢
  repeat' first
    | refine CO.cons rfl ?_
    | refine CO.nil ?_
    | refine CV.seq ?_
    | refine CV.region callees ?_
    | refine CV.cond ?_
    | refine CV.block ?_
    | refine CV.skip ?_
    | refine CV.exit ?_
    | refine CV.ret ?_
    | refine CV.scope ?_
    | refine CV.draw callees (by decide +kernel) ?_
    | refine CH.cons rfl ?_
    | refine CH.nil ?_
    | refine CO.consG rfl ?_
    | refine CH.consG rfl ?_
    | refine CG.cons rfl ?_
    | refine CR.cons ?_
    | refine CR.nil ?_
    | refine CG.nil ?_
    | refine CG.consG rfl ?_
    | refine ⟨(rfl : plain _ = true), ?_⟩
    | refine ⟨(rfl : nilOk _ = some _), ?_⟩
    | refine ⟨_, ints_len (by assumption), ?_⟩
    | refine ⟨_, ints_addr (by assumption) (by omega) (by omega), ?_⟩
    | refine ⟨_, ints_load (by assumption) (by omega) (by omega), ?_⟩
    | refine ⟨(⟨by omega, by omega⟩ : inI64 _), ?_⟩
    | refine ⟨_, fun tm ha => step1_max rfl (ev_tmp ha rfl) (ev_tmp ha rfl), ?_⟩
    | refine ⟨_, fun tm ha => step1_min rfl (ev_tmp ha rfl) (ev_tmp ha rfl), ?_⟩
    | (refine ⟨fun _ => ?_, fun _ => ?_⟩ <;> first | (exfalso; omega) | skip)
    | fail
  refine CV.loopc ?_
  refine WCv.rounds callees false (α := Nat) (fun i => [(1, .int .i64 (bestN xs d xs.length)), (2, .pointer (some ⟨bk, 0, none⟩)), (5, .int .i64 (bestN xs d i)), (6, .int .i64 i)]) (fun i Hz => i ≤ xs.length ∧ Keep H0 Hz) (fun i => xs.length - i) (0) (by repeat' first | exact trivial | refine ⟨rfl, ?_⟩ | refine ⟨slot_int (by (try simp only [Int.toNat_natCast]); omega), ?_⟩) ?_ ?_
  · exact ⟨by omega, Keep.refl _⟩
  rintro i Hx ⟨hi, kx⟩ hBx
  have lx := kx.1
  have hgx : Hx.get bk = some (Kc k d) := by rw [kx.2 bk (by omega)]; exact hgk
  have hvx : Ints Hx k xs := Row.keep hv0 kx
  by_cases hi2 : i < xs.length
  · have hxi : xs[(i : Int).toNat]! = xs[i]! := rfl
    have hei := s3 i hi2
    have hbe : bestN xs d (i + 1) = max (bestN xs d i) (d - (sumL xs - xs[i]!)) := rfl
    have hb0 := (best_all (xs := xs) (d := d) i).1
    repeat' first
      | refine CO.cons rfl ?_
      | refine CO.nil ?_
      | refine CV.seq ?_
      | refine CV.region callees ?_
      | refine CV.cond ?_
      | refine CV.block ?_
      | refine CV.skip ?_
      | refine CV.exit ?_
      | refine CV.ret ?_
      | refine CV.scope ?_
      | refine CV.draw callees (by decide +kernel) ?_
      | refine CH.cons rfl ?_
      | refine CH.nil ?_
      | refine CO.consG rfl ?_
      | refine CH.consG rfl ?_
      | refine CG.cons rfl ?_
      | refine CR.cons ?_
      | refine CR.nil ?_
      | refine CG.nil ?_
      | refine CG.consG rfl ?_
      | refine ⟨(rfl : plain _ = true), ?_⟩
      | refine ⟨(rfl : nilOk _ = some _), ?_⟩
      | refine ⟨_, ints_len (by assumption), ?_⟩
      | refine ⟨_, ints_addr (by assumption) (by omega) (by omega), ?_⟩
      | refine ⟨_, ints_load (by assumption) (by omega) (by omega), ?_⟩
      | refine ⟨(⟨by omega, by omega⟩ : inI64 _), ?_⟩
      | refine ⟨_, fun tm ha => step1_max rfl (ev_tmp ha rfl) (ev_tmp ha rfl), ?_⟩
      | refine ⟨_, fun tm ha => step1_min rfl (ev_tmp ha rfl) (ev_tmp ha rfl), ?_⟩
      | (refine ⟨_, addrK0, ?_⟩)
      | (refine ⟨_, cell_load ag22 hgx rfl, ?_⟩)
      | (refine ⟨fun _ => ?_, fun _ => ?_⟩ <;> first | (exfalso; omega) | skip)
      | fail
    refine CV.loopc ?_
    refine WCv.rounds callees false (α := Value × Nat) (fun (a, j) => [(1, .int .i64 (bestN xs d xs.length)), (2, .pointer (some ⟨bk, 0, none⟩)), (5, .int .i64 (bestN xs d i)), (6, .int .i64 i), (7, a), (8, .int .i64 j)]) (fun (a, j) Hz => j ≤ xs.length ∧ Own 3 Hz a ((flatX xs i j).map VI) H0.n ∧ Keep H0 Hz) (fun (a, j) => xs.length - j) (.slice none 0 0, 0) (by repeat' first | exact trivial | refine ⟨rfl, ?_⟩ | refine ⟨slot_int (by (try simp only [Int.toNat_natCast]); omega), ?_⟩) ?_ ?_
    · exact ⟨by omega, .inl ⟨rfl, rfl⟩, kx⟩
    rintro ⟨a, j⟩ Hy ⟨hj, ha, ky⟩ hBy
    have ly := ky.1
    have hgy : Hy.get bk = some (Kc k d) := by rw [ky.2 bk (by omega)]; exact hgk
    have hvy : Ints Hy k xs := Row.keep hv0 ky
    have hfl := flatX_len (xs := xs) (i := i) (fun i hi => (s3 i hi).1) j hj
    have hst := sum_take s3 j hj
    have hfle : ((flatX xs i j).length : Int) ≤ sumL (xs.take j) := by rw [hfl]; split <;> omega
    by_cases hj2 : j < xs.length
    · have hxj : xs[(j : Int).toNat]! = xs[j]! := rfl
      have hej := s3 j hj2
      have hfs : flatX xs i (j + 1) = flatX xs i j ++ List.replicate (if j = i then 0 else (xs[j]!).toNat) (j : Int) := rfl
      repeat' first
        | refine CO.cons rfl ?_
        | refine CO.nil ?_
        | refine CV.seq ?_
        | refine CV.region callees ?_
        | refine CV.cond ?_
        | refine CV.block ?_
        | refine CV.skip ?_
        | refine CV.exit ?_
        | refine CV.ret ?_
        | refine CV.scope ?_
        | refine CV.draw callees (by decide +kernel) ?_
        | refine CH.cons rfl ?_
        | refine CH.nil ?_
        | refine CO.consG rfl ?_
        | refine CH.consG rfl ?_
        | refine CG.cons rfl ?_
        | refine CR.cons ?_
        | refine CR.nil ?_
        | refine CG.nil ?_
        | refine CG.consG rfl ?_
        | refine ⟨(rfl : plain _ = true), ?_⟩
        | refine ⟨(rfl : nilOk _ = some _), ?_⟩
        | refine ⟨_, ints_len (by assumption), ?_⟩
        | refine ⟨_, ints_addr (by assumption) (by omega) (by omega), ?_⟩
        | refine ⟨_, ints_load (by assumption) (by omega) (by omega), ?_⟩
        | refine ⟨(⟨by omega, by omega⟩ : inI64 _), ?_⟩
        | refine ⟨_, fun tm ha => step1_max rfl (ev_tmp ha rfl) (ev_tmp ha rfl), ?_⟩
        | refine ⟨_, fun tm ha => step1_min rfl (ev_tmp ha rfl) (ev_tmp ha rfl), ?_⟩
        | (refine ⟨_, addrK0, ?_⟩)
        | (refine ⟨_, cell_load ag22 hgy rfl, ?_⟩)
        | (refine ⟨fun _ => ?_, fun _ => ?_⟩ <;> first | (exfalso; omega) | skip)
        | fail
      refine CV.loopc ?_
      refine WCv.rounds callees false (α := Value × Nat) (fun (a', t) => [(1, .int .i64 (bestN xs d xs.length)), (2, .pointer (some ⟨bk, 0, none⟩)), (5, .int .i64 (bestN xs d i)), (6, .int .i64 i), (7, a'), (8, .int .i64 j), (9, .int .i64 t)]) (fun (a', t) Hz => (t : Int) ≤ xs[j]! ∧ (j = i → t = 0) ∧ Own 3 Hz a' ((flatX xs i j ++ List.replicate t (j : Int)).map VI) H0.n ∧ Keep H0 Hz) (fun (a', t) => (xs[j]!).toNat - t) (a, 0) (by repeat' first | exact trivial | refine ⟨rfl, ?_⟩ | refine ⟨slot_int (by (try simp only [Int.toNat_natCast]); omega), ?_⟩) ?_ ?_
      · exact ⟨by omega, fun _ => rfl, by rw [List.replicate_zero, List.append_nil]; exact ha, ky⟩
      rintro ⟨a', t⟩ Hw ⟨ht, htz, ha', kw⟩ hBw
      have lw := kw.1
      have hgw : Hw.get bk = some (Kc k d) := by rw [kw.2 bk (by omega)]; exact hgk
      have hvw : Ints Hw k xs := Row.keep hv0 kw
      by_cases ht2 : (t : Int) < xs[j]! ∧ j ≠ i
      · obtain ⟨ht3, hji⟩ := ht2
        have hrs : flatX xs i j ++ List.replicate t (j : Int) ++ [(j : Int)] = flatX xs i j ++ List.replicate (t + 1) (j : Int) := by rw [List.replicate_succ', List.append_assoc]
        repeat' first
          | refine CO.cons rfl ?_
          | refine CO.nil ?_
          | refine CV.seq ?_
          | refine CV.region callees ?_
          | refine CV.cond ?_
          | refine CV.block ?_
          | refine CV.skip ?_
          | refine CV.exit ?_
          | refine CV.ret ?_
          | refine CV.scope ?_
          | refine CV.draw callees (by decide +kernel) ?_
          | refine CH.cons rfl ?_
          | refine CH.nil ?_
          | refine CO.consG rfl ?_
          | refine CH.consG rfl ?_
          | refine CG.cons rfl ?_
          | refine CR.cons ?_
          | refine CR.nil ?_
          | refine CG.nil ?_
          | refine CG.consG rfl ?_
          | refine ⟨(rfl : plain _ = true), ?_⟩
          | refine ⟨(rfl : nilOk _ = some _), ?_⟩
          | refine ⟨_, ints_len (by assumption), ?_⟩
          | refine ⟨_, ints_addr (by assumption) (by omega) (by omega), ?_⟩
          | refine ⟨_, ints_load (by assumption) (by omega) (by omega), ?_⟩
          | refine ⟨(⟨by omega, by omega⟩ : inI64 _), ?_⟩
          | refine ⟨_, fun tm ha => step1_max rfl (ev_tmp ha rfl) (ev_tmp ha rfl), ?_⟩
          | refine ⟨_, fun tm ha => step1_min rfl (ev_tmp ha rfl) (ev_tmp ha rfl), ?_⟩
          | (refine ⟨_, addrK0, ?_⟩)
          | (refine ⟨_, cell_load ag22 hgw rfl, ?_⟩)
          | (refine ⟨_, _, build_one un22 one3 rfl, ?_⟩)
          | (refine ⟨fun _ => ?_, fun _ => ?_⟩ <;> first | (exfalso; omega) | skip)
          | fail
        refine push_ask ha' kw.1 (by omega) (by rw [List.length_append, List.length_replicate]; omega) ?_
        intro a3 H3' ha3 kb3 hf3
        rw [hrs] at ha3
        repeat' first
          | refine CO.cons rfl ?_
          | refine CO.nil ?_
          | refine CV.seq ?_
          | refine CV.region callees ?_
          | refine CV.cond ?_
          | refine CV.block ?_
          | refine CV.skip ?_
          | refine CV.exit ?_
          | refine CV.ret ?_
          | refine CV.scope ?_
          | refine CV.draw callees (by decide +kernel) ?_
          | refine CH.cons rfl ?_
          | refine CH.nil ?_
          | refine CO.consG rfl ?_
          | refine CH.consG rfl ?_
          | refine CG.cons rfl ?_
          | refine CR.cons ?_
          | refine CR.nil ?_
          | refine CG.nil ?_
          | refine CG.consG rfl ?_
          | refine ⟨(rfl : plain _ = true), ?_⟩
          | refine ⟨(rfl : nilOk _ = some _), ?_⟩
          | refine ⟨_, ints_len (by assumption), ?_⟩
          | refine ⟨_, ints_addr (by assumption) (by omega) (by omega), ?_⟩
          | refine ⟨_, ints_load (by assumption) (by omega) (by omega), ?_⟩
          | refine ⟨(⟨by omega, by omega⟩ : inI64 _), ?_⟩
          | refine ⟨_, fun tm ha => step1_max rfl (ev_tmp ha rfl) (ev_tmp ha rfl), ?_⟩
          | refine ⟨_, fun tm ha => step1_min rfl (ev_tmp ha rfl) (ev_tmp ha rfl), ?_⟩
          | (refine ⟨fun _ => ?_, fun _ => ?_⟩ <;> first | (exfalso; omega) | skip)
          | fail
        refine ⟨(a3, t + 1), (by repeat' first | exact trivial | refine ⟨rfl, ?_⟩ | refine ⟨slot_int (by (try simp only [Int.toNat_natCast]); omega), ?_⟩), (by (try dsimp only); omega), ?_⟩
        exact ⟨by omega, fun h => absurd h hji, ha3, kb3.keep kw fun c hc => (ha'.lt hc).1⟩
      · have hje : (if j = i then 0 else (xs[j]!).toNat) = t := by
          by_cases h : j = i
          · rw [if_pos h, htz h]
          · rw [if_neg h]; omega
        rw [hje] at hfs
        rw [← hfs] at ha'
        repeat' first
          | refine CO.cons rfl ?_
          | refine CO.nil ?_
          | refine CV.seq ?_
          | refine CV.region callees ?_
          | refine CV.cond ?_
          | refine CV.block ?_
          | refine CV.skip ?_
          | refine CV.exit ?_
          | refine CV.ret ?_
          | refine CV.scope ?_
          | refine CV.draw callees (by decide +kernel) ?_
          | refine CH.cons rfl ?_
          | refine CH.nil ?_
          | refine CO.consG rfl ?_
          | refine CH.consG rfl ?_
          | refine CG.cons rfl ?_
          | refine CR.cons ?_
          | refine CR.nil ?_
          | refine CG.nil ?_
          | refine CG.consG rfl ?_
          | refine ⟨(rfl : plain _ = true), ?_⟩
          | refine ⟨(rfl : nilOk _ = some _), ?_⟩
          | refine ⟨_, ints_len (by assumption), ?_⟩
          | refine ⟨_, ints_addr (by assumption) (by omega) (by omega), ?_⟩
          | refine ⟨_, ints_load (by assumption) (by omega) (by omega), ?_⟩
          | refine ⟨(⟨by omega, by omega⟩ : inI64 _), ?_⟩
          | refine ⟨_, fun tm ha => step1_max rfl (ev_tmp ha rfl) (ev_tmp ha rfl), ?_⟩
          | refine ⟨_, fun tm ha => step1_min rfl (ev_tmp ha rfl) (ev_tmp ha rfl), ?_⟩
          | (refine ⟨_, addrK0, ?_⟩)
          | (refine ⟨_, cell_load ag22 hgw rfl, ?_⟩)
          | (refine ⟨fun _ => ?_, fun _ => ?_⟩ <;> first | (exfalso; omega) | skip)
          | fail
        all_goals
          refine ⟨(a', j + 1), (by repeat' first | exact trivial | refine ⟨rfl, ?_⟩ | refine ⟨slot_int (by (try simp only [Int.toNat_natCast]); omega), ?_⟩), (by (try dsimp only); omega), ?_⟩
          exact ⟨by omega, ha', kw⟩
    · have hjl : j = xs.length := by omega
      subst hjl
      rw [List.take_length, if_pos hi2] at hfl
      have hay : Ints Hy a (flatX xs i xs.length) := ha.row
      have hft := flatX_fits (xs := xs) (i := i) fun i hi => (s3 i hi).1
      have hre := flatX_rest (xs := xs) (i := i) (d := d) (fun i hi => (s3 i hi).1) hi2
      generalize flatX xs i xs.length = fs at hfl hay ha hft hre ⊢
      by_cases hl : d < fs.length
      · have e1 : bestN xs d (i + 1) = bestN xs d i := by omega
        repeat' first
          | refine CO.cons rfl ?_
          | refine CO.nil ?_
          | refine CV.seq ?_
          | refine CV.region callees ?_
          | refine CV.cond ?_
          | refine CV.block ?_
          | refine CV.skip ?_
          | refine CV.exit ?_
          | refine CV.ret ?_
          | refine CV.scope ?_
          | refine CV.draw callees (by decide +kernel) ?_
          | refine CH.cons rfl ?_
          | refine CH.nil ?_
          | refine CO.consG rfl ?_
          | refine CH.consG rfl ?_
          | refine CG.cons rfl ?_
          | refine CR.cons ?_
          | refine CR.nil ?_
          | refine CG.nil ?_
          | refine CG.consG rfl ?_
          | refine ⟨(rfl : plain _ = true), ?_⟩
          | refine ⟨(rfl : nilOk _ = some _), ?_⟩
          | refine ⟨_, ints_len (by assumption), ?_⟩
          | refine ⟨_, ints_addr (by assumption) (by omega) (by omega), ?_⟩
          | refine ⟨_, ints_load (by assumption) (by omega) (by omega), ?_⟩
          | refine ⟨(⟨by omega, by omega⟩ : inI64 _), ?_⟩
          | refine ⟨_, fun tm ha => step1_max rfl (ev_tmp ha rfl) (ev_tmp ha rfl), ?_⟩
          | refine ⟨_, fun tm ha => step1_min rfl (ev_tmp ha rfl) (ev_tmp ha rfl), ?_⟩
          | (refine ⟨_, addrK0, ?_⟩)
          | (refine ⟨_, cell_load ag22 hgy rfl, ?_⟩)
          | (refine ⟨_, addrK1, ?_⟩)
          | (refine ⟨Value.int .i64 d, cell_load ag3 hgy rfl, ?_⟩)
          | (refine ⟨fun _ => ?_, fun _ => ?_⟩ <;> first | (exfalso; omega) | skip)
          | fail
        refine ⟨(i + 1), (by repeat' first | exact trivial | refine ⟨rfl, ?_⟩ | refine ⟨slot_int (by (try simp only [Int.toNat_natCast]); omega), ?_⟩), (by (try dsimp only); omega), ?_⟩
        exact ⟨by omega, ky⟩
      · have hre := hre (by omega)
        repeat' first
          | refine CO.cons rfl ?_
          | refine CO.nil ?_
          | refine CV.seq ?_
          | refine CV.region callees ?_
          | refine CV.cond ?_
          | refine CV.block ?_
          | refine CV.skip ?_
          | refine CV.exit ?_
          | refine CV.ret ?_
          | refine CV.scope ?_
          | refine CV.draw callees (by decide +kernel) ?_
          | refine CH.cons rfl ?_
          | refine CH.nil ?_
          | refine CO.consG rfl ?_
          | refine CH.consG rfl ?_
          | refine CG.cons rfl ?_
          | refine CR.cons ?_
          | refine CR.nil ?_
          | refine CG.nil ?_
          | refine CG.consG rfl ?_
          | refine ⟨(rfl : plain _ = true), ?_⟩
          | refine ⟨(rfl : nilOk _ = some _), ?_⟩
          | refine ⟨_, ints_len (by assumption), ?_⟩
          | refine ⟨_, ints_addr (by assumption) (by omega) (by omega), ?_⟩
          | refine ⟨_, ints_load (by assumption) (by omega) (by omega), ?_⟩
          | refine ⟨(⟨by omega, by omega⟩ : inI64 _), ?_⟩
          | refine ⟨_, fun tm ha => step1_max rfl (ev_tmp ha rfl) (ev_tmp ha rfl), ?_⟩
          | refine ⟨_, fun tm ha => step1_min rfl (ev_tmp ha rfl) (ev_tmp ha rfl), ?_⟩
          | (refine ⟨_, addrK0, ?_⟩)
          | (refine ⟨_, cell_load ag22 hgy rfl, ?_⟩)
          | (refine ⟨_, addrK1, ?_⟩)
          | (refine ⟨Value.int .i64 d, cell_load ag3 hgy rfl, ?_⟩)
          | (refine ⟨_, loadK hgy, ?_⟩)
          | (refine ⟨fun _ => ?_, fun _ => ?_⟩ <;> first | (exfalso; omega) | skip)
          | fail
        refine (rest_spec (by omega) hvy hay hS hft (by omega)).mono ?_
        rintro r H2 ⟨⟨kv, rfl, _⟩, k2⟩
        rw [hre]
        have ky2 := ky.trans k2
        repeat' first
          | refine CO.cons rfl ?_
          | refine CO.nil ?_
          | refine CV.seq ?_
          | refine CV.region callees ?_
          | refine CV.cond ?_
          | refine CV.block ?_
          | refine CV.skip ?_
          | refine CV.exit ?_
          | refine CV.ret ?_
          | refine CV.scope ?_
          | refine CV.draw callees (by decide +kernel) ?_
          | refine CH.cons rfl ?_
          | refine CH.nil ?_
          | refine CO.consG rfl ?_
          | refine CH.consG rfl ?_
          | refine CG.cons rfl ?_
          | refine CR.cons ?_
          | refine CR.nil ?_
          | refine CG.nil ?_
          | refine CG.consG rfl ?_
          | refine ⟨(rfl : plain _ = true), ?_⟩
          | refine ⟨(rfl : nilOk _ = some _), ?_⟩
          | refine ⟨_, ints_len (by assumption), ?_⟩
          | refine ⟨_, ints_addr (by assumption) (by omega) (by omega), ?_⟩
          | refine ⟨_, ints_load (by assumption) (by omega) (by omega), ?_⟩
          | refine ⟨(⟨by omega, by omega⟩ : inI64 _), ?_⟩
          | refine ⟨_, fun tm ha => step1_max rfl (ev_tmp ha rfl) (ev_tmp ha rfl), ?_⟩
          | refine ⟨_, fun tm ha => step1_min rfl (ev_tmp ha rfl) (ev_tmp ha rfl), ?_⟩
          | (refine ⟨fun _ => ?_, fun _ => ?_⟩ <;> first | (exfalso; omega) | skip)
          | fail
        refine ⟨(i + 1), (by repeat' first | exact trivial | refine ⟨rfl, ?_⟩ | refine ⟨slot_int (by (try simp only [Int.toNat_natCast]); omega), ?_⟩), (by (try dsimp only); omega), ?_⟩
        exact ⟨by omega, ky2⟩
  · have hil : i = xs.length := by omega
    subst hil
    repeat' first
      | refine CO.cons rfl ?_
      | refine CO.nil ?_
      | refine CV.seq ?_
      | refine CV.region callees ?_
      | refine CV.cond ?_
      | refine CV.block ?_
      | refine CV.skip ?_
      | refine CV.exit ?_
      | refine CV.ret ?_
      | refine CV.scope ?_
      | refine CV.draw callees (by decide +kernel) ?_
      | refine CH.cons rfl ?_
      | refine CH.nil ?_
      | refine CO.consG rfl ?_
      | refine CH.consG rfl ?_
      | refine CG.cons rfl ?_
      | refine CR.cons ?_
      | refine CR.nil ?_
      | refine CG.nil ?_
      | refine CG.consG rfl ?_
      | refine ⟨(rfl : plain _ = true), ?_⟩
      | refine ⟨(rfl : nilOk _ = some _), ?_⟩
      | refine ⟨_, ints_len (by assumption), ?_⟩
      | refine ⟨_, ints_addr (by assumption) (by omega) (by omega), ?_⟩
      | refine ⟨_, ints_load (by assumption) (by omega) (by omega), ?_⟩
      | refine ⟨(⟨by omega, by omega⟩ : inI64 _), ?_⟩
      | refine ⟨_, fun tm ha => step1_max rfl (ev_tmp ha rfl) (ev_tmp ha rfl), ?_⟩
      | refine ⟨_, fun tm ha => step1_min rfl (ev_tmp ha rfl) (ev_tmp ha rfl), ?_⟩
      | (refine ⟨_, addrK0, ?_⟩)
      | (refine ⟨_, cell_load ag22 hgx rfl, ?_⟩)
      | (refine ⟨fun _ => ?_, fun _ => ?_⟩ <;> first | (exfalso; omega) | skip)
      | fail
    exact ⟨rfl, rfl, k0.trans kx⟩
end Go.Proofs.Ytbgbepnccdndoaa
