/- Several texts in one. -/
import Derived.Test.YtlpkbcgdcimglaaZ2
set_option linter.unusedVariables false
set_option linter.unusedSimpArgs false

/- Blocks of a partition: products, sorting nine numbers. -/
namespace Go.Proofs.Ytlpkbcgdcimglaa
open Go.AI
set_option linter.unusedVariables false
set_option linter.unusedSimpArgs false
/-- In how many ways so many are drawn of n. -/
def drawnN (n : Int) : Nat → Int
  | 0 => 1
  | k + 1 => drawnN n k * (n - k)
theorem drawn_bound {n : Int} (h9 : n ≤ 54) : ∀ k : Nat, (k : Int) ≤ n → 1 ≤ drawnN n k ∧ drawnN n k ≤ 54 ^ k
  | 0, _ => by simp [drawnN]
  | k + 1, h => by
    obtain ⟨h1, h2⟩ := drawn_bound h9 k (by omega)
    have e : drawnN n (k + 1) = drawnN n k * (n - k) := rfl
    have a1 : 1 ≤ n - k := by omega
    have a2 : n - k ≤ 54 := by omega
    rw [e, Int.pow_succ]
    refine ⟨?_, Int.mul_le_mul h2 a2 (by omega) (by omega)⟩
    have := Int.mul_le_mul h1 a1 (by omega) (by omega)
    simpa using this
theorem pow54 : ∀ k : Nat, k ≤ 9 → (54 : Int) ^ k ≤ 54 ^ 9 := by decide
set_option maxRecDepth 100000 in
theorem drawn_spec {B : Nat} {H : Heap} {n : Int} {k : Nat} (hB : B ≤ H.n) (h9 : n ≤ 54) (hk : (k : Int) ≤ n) (hk9 : k ≤ 9) :
    CallB Try.prog B 76 [.int .i64 n, .int .i64 (k : Int)] H (fun r H' => r = .int .i64 (drawnN n k) ∧ H' = H) := by
  refine CV.enter callees false rfl Try.func76 rfl (by kernel_rfl) (Nat.le_of_ble_eq_true rfl) hB ?_
  repeat' first
    | refine CO.cons rfl ?_
    | refine CO.nil ?_
    | refine CV.seq ?_
    | refine CV.region callees ?_
    | refine CV.cond ?_
    | refine CV.block ?_
    | refine CV.skip ?_
    | refine CV.exit ?_
    | refine CV.ret ?_
    | refine CV.scope ?_
    | refine CV.draw callees (by decide +kernel) ?_
    | refine CH.cons rfl ?_
    | refine CH.nil ?_
    | refine CO.consG rfl ?_
    | refine CH.consG rfl ?_
    | refine CG.cons rfl ?_
    | refine CR.cons ?_
    | refine CR.nil ?_
    | refine CG.nil ?_
    | refine CG.consG rfl ?_
    | refine ⟨(rfl : plain _ = true), ?_⟩
    | refine ⟨(rfl : nilOk _ = some _), ?_⟩
    | refine ⟨_, ints_len (by assumption), ?_⟩
    | refine ⟨_, ints_addr (by assumption) (by omega) (by omega), ?_⟩
    | refine ⟨_, ints_load (by assumption) (by omega) (by omega), ?_⟩
    | refine ⟨(⟨by omega, by omega⟩ : inI64 _), ?_⟩
    | refine ⟨_, fun tm ha => step1_max rfl (ev_tmp ha rfl) (ev_tmp ha rfl), ?_⟩
    | refine ⟨_, fun tm ha => step1_min rfl (ev_tmp ha rfl) (ev_tmp ha rfl), ?_⟩
    | (refine ⟨fun _ => ?_, fun _ => ?_⟩ <;> first | (exfalso; omega) | skip)
    | fail
  refine CV.loopc ?_
  refine WCv.rounds callees false (α := Nat) (fun i => [(0, .int .i64 n), (5, .int .i64 (drawnN n i)), (7, .int .i64 k), (8, .int .i64 i)]) (fun i Hz => Hz = H ∧ i ≤ k) (fun i => k - i) (0) (by repeat' first | exact trivial | refine ⟨rfl, ?_⟩ | refine ⟨slot_int (by (try simp only [Int.toNat_natCast]); omega), ?_⟩) ?_ ?_
  · exact ⟨rfl, by omega⟩
  rintro i Hx ⟨rfl, hi⟩ hBx
  by_cases hi2 : i < k
  · obtain ⟨b1, b2⟩ := drawn_bound h9 (i + 1) (by omega)
    have b3 := pow54 (i + 1) (by omega)
    have b4 : (54 : Int) ^ 9 = 3904305912313344 := by decide
    have e : drawnN n (i + 1) = drawnN n i * (n - i) := rfl
    rw [e] at b1 b2
    repeat' first
      | refine CO.cons rfl ?_
      | refine CO.nil ?_
      | refine CV.seq ?_
      | refine CV.region callees ?_
      | refine CV.cond ?_
      | refine CV.block ?_
      | refine CV.skip ?_
      | refine CV.exit ?_
      | refine CV.ret ?_
      | refine CV.scope ?_
      | refine CV.draw callees (by decide +kernel) ?_
      | refine CH.cons rfl ?_
      | refine CH.nil ?_
      | refine CO.consG rfl ?_
      | refine CH.consG rfl ?_
      | refine CG.cons rfl ?_
      | refine CR.cons ?_
      | refine CR.nil ?_
      | refine CG.nil ?_
      | refine CG.consG rfl ?_
      | refine ⟨(rfl : plain _ = true), ?_⟩
      | refine ⟨(rfl : nilOk _ = some _), ?_⟩
      | refine ⟨_, ints_len (by assumption), ?_⟩
      | refine ⟨_, ints_addr (by assumption) (by omega) (by omega), ?_⟩
      | refine ⟨_, ints_load (by assumption) (by omega) (by omega), ?_⟩
      | refine ⟨(⟨by omega, by omega⟩ : inI64 _), ?_⟩
      | refine ⟨_, fun tm ha => step1_max rfl (ev_tmp ha rfl) (ev_tmp ha rfl), ?_⟩
      | refine ⟨_, fun tm ha => step1_min rfl (ev_tmp ha rfl) (ev_tmp ha rfl), ?_⟩
      | (refine ⟨fun _ => ?_, fun _ => ?_⟩ <;> first | (exfalso; omega) | skip)
      | fail
    refine ⟨(i + 1), (by repeat' first | exact trivial | refine ⟨rfl, ?_⟩ | refine ⟨slot_int (by (try simp only [Int.toNat_natCast]); omega), ?_⟩), (by (try dsimp only); omega), ?_⟩
    exact ⟨rfl, by omega⟩
  · have hil : i = k := by omega
    subst hil
    repeat' first
      | refine CO.cons rfl ?_
      | refine CO.nil ?_
      | refine CV.seq ?_
      | refine CV.region callees ?_
      | refine CV.cond ?_
      | refine CV.block ?_
      | refine CV.skip ?_
      | refine CV.exit ?_
      | refine CV.ret ?_
      | refine CV.scope ?_
      | refine CV.draw callees (by decide +kernel) ?_
      | refine CH.cons rfl ?_
      | refine CH.nil ?_
      | refine CO.consG rfl ?_
      | refine CH.consG rfl ?_
      | refine CG.cons rfl ?_
      | refine CR.cons ?_
      | refine CR.nil ?_
      | refine CG.nil ?_
      | refine CG.consG rfl ?_
      | refine ⟨(rfl : plain _ = true), ?_⟩
      | refine ⟨(rfl : nilOk _ = some _), ?_⟩
      | refine ⟨_, ints_len (by assumption), ?_⟩
      | refine ⟨_, ints_addr (by assumption) (by omega) (by omega), ?_⟩
      | refine ⟨_, ints_load (by assumption) (by omega) (by omega), ?_⟩
      | refine ⟨(⟨by omega, by omega⟩ : inI64 _), ?_⟩
      | refine ⟨_, fun tm ha => step1_max rfl (ev_tmp ha rfl) (ev_tmp ha rfl), ?_⟩
      | refine ⟨_, fun tm ha => step1_min rfl (ev_tmp ha rfl) (ev_tmp ha rfl), ?_⟩
      | (refine ⟨fun _ => ?_, fun _ => ?_⟩ <;> first | (exfalso; omega) | skip)
      | fail
    exact ⟨rfl, rfl, rfl⟩
/-- One number goes down to its place, the greatest first. -/
def sink : Nat → List Int → List Int
  | 0, l => l
  | j + 1, l => if l[j]! < l[j + 1]! then sink j ((l.set (j + 1) l[j]!).set j l[j + 1]!) else l
def sortN (l : List Int) : Nat → List Int
  | 0 => l
  | i + 1 => sink (i + 1) (sortN l i)
theorem sink_len : ∀ (j : Nat) (l : List Int), (sink j l).length = l.length
  | 0, _ => rfl
  | j + 1, l => by
    rw [sink]
    split
    · rw [sink_len j, List.length_set, List.length_set]
    · rfl
theorem sort_len {l : List Int} : ∀ i, (sortN l i).length = l.length
  | 0 => rfl
  | i + 1 => by rw [sortN, sink_len, sort_len i]
/-- What holds of all numbers goes on to hold. -/
def AllN (p : Int → Prop) (l : List Int) : Prop := ∀ i, i < l.length → p l[i]!
theorem AllN.set {p : Int → Prop} {l : List Int} {i : Nat} {x : Int} (h : AllN p l) (hx : p x) : AllN p (l.set i x) := fun j hj => by
  rw [List.length_set] at hj
  rw [get_set hj]
  split
  · exact hx
  · exact h j hj
theorem sink_all {p : Int → Prop} : ∀ (j : Nat) (l : List Int), j < l.length → AllN p l → AllN p (sink j l)
  | 0, _, _, h => h
  | j + 1, l, hj, h => by
    rw [sink]
    split
    · exact sink_all j _ (by rw [List.length_set, List.length_set]; omega) ((h.set (h j (by omega))).set (h (j + 1) hj))
    · exact h
theorem sort_all {p : Int → Prop} {l : List Int} : ∀ i, i < l.length → AllN p l → AllN p (sortN l i)
  | 0, _, h => h
  | i + 1, hi, h => by rw [sortN]; exact sink_all _ _ (by rw [sort_len]; exact hi) (sort_all i (by omega) h)
abbrev Dc (l : List Int) : AObj := .cells (l.map VI) 96 1
abbrev cmpV : Value := .func (.func 115) #[] #[]
set_option maxRecDepth 100000 in
theorem cmp_spec {B : Nat} {H : Heap} {x y : Int} (hB : B ≤ H.n) (hx : 0 ≤ x ∧ x ≤ 9) (hy : 0 ≤ y ∧ y ≤ 9) :
    CallB Try.prog B 115 [.int .i64 x, .int .i64 y] H (fun r H' => r = .int .i64 (y - x) ∧ H' = H) := by
  refine CV.enter callees false rfl Try.func115 rfl (by kernel_rfl) (Nat.le_of_ble_eq_true rfl) hB ?_
  repeat' first
    | refine CO.cons rfl ?_
    | refine CO.nil ?_
    | refine CV.seq ?_
    | refine CV.region callees ?_
    | refine CV.cond ?_
    | refine CV.block ?_
    | refine CV.skip ?_
    | refine CV.exit ?_
    | refine CV.ret ?_
    | refine CV.scope ?_
    | refine CV.draw callees (by decide +kernel) ?_
    | refine CH.cons rfl ?_
    | refine CH.nil ?_
    | refine CO.consG rfl ?_
    | refine CH.consG rfl ?_
    | refine CG.cons rfl ?_
    | refine CR.cons ?_
    | refine CR.nil ?_
    | refine CG.nil ?_
    | refine CG.consG rfl ?_
    | refine ⟨(rfl : plain _ = true), ?_⟩
    | refine ⟨(rfl : nilOk _ = some _), ?_⟩
    | refine ⟨_, ints_len (by assumption), ?_⟩
    | refine ⟨_, ints_addr (by assumption) (by omega) (by omega), ?_⟩
    | refine ⟨_, ints_load (by assumption) (by omega) (by omega), ?_⟩
    | refine ⟨(⟨by omega, by omega⟩ : inI64 _), ?_⟩
    | refine ⟨_, fun tm ha => step1_max rfl (ev_tmp ha rfl) (ev_tmp ha rfl), ?_⟩
    | refine ⟨_, fun tm ha => step1_min rfl (ev_tmp ha rfl) (ev_tmp ha rfl), ?_⟩
    | (refine ⟨fun _ => ?_, fun _ => ?_⟩ <;> first | (exfalso; omega) | skip)
    | fail
  exact ⟨rfl, rfl, rfl⟩
theorem arr_put {H : Heap} {b i : Nat} {l : List Int} {e : TypeId} {k : Nat} {y : Int} (hg : H.get b = some (.cells (l.map VI) e (k + 1))) (hi : i < l.length) :
    astore Try.prog 3 H (.int .i64 y) (.pointer (some ⟨b, i, none⟩)) = some (H.set b (.cells ((l.set i y).map VI) e (k + 1)), b) := by
  rw [cell_store sz3 hg (by rw [List.length_map]; exact hi) rfl, ← List.map_set]
set_option maxRecDepth 100000 in
theorem insert_spec {B b c : Nat} {H : Heap} {l : List Int} (hB : B ≤ b) (hn : B ≤ H.n) (hbn : b < H.n) (hg : H.get b = some (Dc l)) (hl : l.length = 9) (hel : AllN (fun x => 0 ≤ x ∧ x ≤ 9) l) :
    CallB Try.prog B 149 [.slice (some ⟨b, 0, none⟩) 9 c, .int .i64 0, .int .i64 9, cmpV] H (fun r H' => H'.get b = some (Dc (sortN l 8)) ∧ H'.n = H.n ∧ ∀ d, d ≠ b → H'.get d = H.get d) := by
  refine CV.enter callees false rfl Try.func149 rfl (by kernel_rfl) (Nat.le_of_ble_eq_true rfl) hn ?_
  repeat' first
    | refine CO.cons rfl ?_
    | refine CO.nil ?_
    | refine CV.seq ?_
    | refine CV.region callees ?_
    | refine CV.cond ?_
    | refine CV.block ?_
    | refine CV.skip ?_
    | refine CV.exit ?_
    | refine CV.ret ?_
    | refine CV.scope ?_
    | refine CV.draw callees (by decide +kernel) ?_
    | refine CH.cons rfl ?_
    | refine CH.nil ?_
    | refine CO.consG rfl ?_
    | refine CH.consG rfl ?_
    | refine CG.cons rfl ?_
    | refine CR.cons ?_
    | refine CR.nil ?_
    | refine CG.nil ?_
    | refine CG.consG rfl ?_
    | refine ⟨(rfl : plain _ = true), ?_⟩
    | refine ⟨(rfl : nilOk _ = some _), ?_⟩
    | refine ⟨_, ints_len (by assumption), ?_⟩
    | refine ⟨_, ints_addr (by assumption) (by omega) (by omega), ?_⟩
    | refine ⟨_, ints_load (by assumption) (by omega) (by omega), ?_⟩
    | refine ⟨(⟨by omega, by omega⟩ : inI64 _), ?_⟩
    | refine ⟨_, fun tm ha => step1_max rfl (ev_tmp ha rfl) (ev_tmp ha rfl), ?_⟩
    | refine ⟨_, fun tm ha => step1_min rfl (ev_tmp ha rfl) (ev_tmp ha rfl), ?_⟩
    | (refine ⟨fun _ => ?_, fun _ => ?_⟩ <;> first | (exfalso; omega) | skip)
    | fail
  refine CV.loopc ?_
  refine WCv.rounds callees false (α := Nat) (fun i => [(0, .slice (some ⟨b, 0, none⟩) 9 c), (1, .int .i64 0), (2, .int .i64 9), (3, cmpV), (8, .int .i64 (i + 1))]) (fun i Hz => i ≤ 8 ∧ Hz.get b = some (Dc (sortN l i)) ∧ Hz.n = H.n ∧ (∀ d, d ≠ b → Hz.get d = H.get d)) (fun i => 8 - i) (0) (by repeat' first | exact trivial | refine ⟨rfl, ?_⟩ | refine ⟨slot_int (by (try simp only [Int.toNat_natCast]); omega), ?_⟩) ?_ ?_
  · exact ⟨by omega, hg, rfl, fun _ _ => rfl⟩
  rintro i Hx ⟨hi, gx, nx, ox⟩ hBx
  by_cases hi2 : i < 8
  · have e0 : sortN l (i + 1) = sink (i + 1) (sortN l i) := rfl
    have hsl := sort_len (l := l) i
    have hsa := sort_all (l := l) i (by omega) hel
    generalize sortN l i = m at gx e0 hsl hsa
    repeat' first
      | refine CO.cons rfl ?_
      | refine CO.nil ?_
      | refine CV.seq ?_
      | refine CV.region callees ?_
      | refine CV.cond ?_
      | refine CV.block ?_
      | refine CV.skip ?_
      | refine CV.exit ?_
      | refine CV.ret ?_
      | refine CV.scope ?_
      | refine CV.draw callees (by decide +kernel) ?_
      | refine CH.cons rfl ?_
      | refine CH.nil ?_
      | refine CO.consG rfl ?_
      | refine CH.consG rfl ?_
      | refine CG.cons rfl ?_
      | refine CR.cons ?_
      | refine CR.nil ?_
      | refine CG.nil ?_
      | refine CG.consG rfl ?_
      | refine ⟨(rfl : plain _ = true), ?_⟩
      | refine ⟨(rfl : nilOk _ = some _), ?_⟩
      | refine ⟨_, ints_len (by assumption), ?_⟩
      | refine ⟨_, ints_addr (by assumption) (by omega) (by omega), ?_⟩
      | refine ⟨_, ints_load (by assumption) (by omega) (by omega), ?_⟩
      | refine ⟨(⟨by omega, by omega⟩ : inI64 _), ?_⟩
      | refine ⟨_, fun tm ha => step1_max rfl (ev_tmp ha rfl) (ev_tmp ha rfl), ?_⟩
      | refine ⟨_, fun tm ha => step1_min rfl (ev_tmp ha rfl) (ev_tmp ha rfl), ?_⟩
      | (refine ⟨fun _ => ?_, fun _ => ?_⟩ <;> first | (exfalso; omega) | skip)
      | fail
    refine CV.loopc ?_
    refine WCv.rounds callees false (α := List Int × Nat) (fun (p, j) => [(0, .slice (some ⟨b, 0, none⟩) 9 c), (1, .int .i64 0), (2, .int .i64 9), (3, cmpV), (8, .int .i64 (i + 1)), (9, .int .i64 j)]) (fun (p, j) Hz => j ≤ i + 1 ∧ p.length = 9 ∧ AllN (fun x => 0 ≤ x ∧ x ≤ 9) p ∧ sink j p = sortN l (i + 1) ∧ Hz.get b = some (Dc p) ∧ Hz.n = H.n ∧ (∀ d, d ≠ b → Hz.get d = H.get d)) (fun (p, j) => j) (m, i + 1) (by repeat' first | exact trivial | refine ⟨rfl, ?_⟩ | refine ⟨slot_int (by (try simp only [Int.toNat_natCast]); omega), ?_⟩) ?_ ?_
    · exact ⟨by omega, by omega, hsa, e0.symm, gx, nx, ox⟩
    rintro ⟨p, j⟩ Hy ⟨hj, hp, hpa, hps, gy, ny, oy⟩ hBy
    have ga : Hy.get b = some (.cells (p.map VI) 96 (0 + 1)) := gy
    match j, hj, hps with
    | 0, hj, hps =>
      have e1 : p = sortN l (i + 1) := hps
      rw [e1] at gy
      repeat' first
        | refine CO.cons rfl ?_
        | refine CO.nil ?_
        | refine CV.seq ?_
        | refine CV.region callees ?_
        | refine CV.cond ?_
        | refine CV.block ?_
        | refine CV.skip ?_
        | refine CV.exit ?_
        | refine CV.ret ?_
        | refine CV.scope ?_
        | refine CV.draw callees (by decide +kernel) ?_
        | refine CH.cons rfl ?_
        | refine CH.nil ?_
        | refine CO.consG rfl ?_
        | refine CH.consG rfl ?_
        | refine CG.cons rfl ?_
        | refine CR.cons ?_
        | refine CR.nil ?_
        | refine CG.nil ?_
        | refine CG.consG rfl ?_
        | refine ⟨(rfl : plain _ = true), ?_⟩
        | refine ⟨(rfl : nilOk _ = some _), ?_⟩
        | refine ⟨_, ints_len (by assumption), ?_⟩
        | refine ⟨_, ints_addr (by assumption) (by omega) (by omega), ?_⟩
        | refine ⟨_, ints_load (by assumption) (by omega) (by omega), ?_⟩
        | refine ⟨(⟨by omega, by omega⟩ : inI64 _), ?_⟩
        | refine ⟨_, fun tm ha => step1_max rfl (ev_tmp ha rfl) (ev_tmp ha rfl), ?_⟩
        | refine ⟨_, fun tm ha => step1_min rfl (ev_tmp ha rfl) (ev_tmp ha rfl), ?_⟩
        | (refine ⟨fun _ => ?_, fun _ => ?_⟩ <;> first | (exfalso; omega) | skip)
        | fail
      refine ⟨(i + 1), (by repeat' first | exact trivial | refine ⟨rfl, ?_⟩ | refine ⟨slot_int (by (try simp only [Int.toNat_natCast]); omega), ?_⟩), (by (try dsimp only); omega), ?_⟩
      exact ⟨by omega, gy, ny, oy⟩
    | j + 1, hj, hps =>
      have hj1 := hpa j (by omega)
      have hj2 := hpa (j + 1) (by omega)
      have x1 : p[((j + 1 : Nat) : Int).toNat]! = p[j + 1]! := rfl
      have x2 : p[(((j + 1 : Nat) : Int) - 1).toNat]! = p[j]! := by rw [show (((j + 1 : Nat) : Int) - 1).toNat = j by omega]
      have es : sink (j + 1) p = if p[j]! < p[j + 1]! then sink j ((p.set (j + 1) p[j]!).set j p[j + 1]!) else p := rfl
      rw [hps] at es
      repeat' first
        | refine CO.cons rfl ?_
        | refine CO.nil ?_
        | refine CV.seq ?_
        | refine CV.region callees ?_
        | refine CV.cond ?_
        | refine CV.block ?_
        | refine CV.skip ?_
        | refine CV.exit ?_
        | refine CV.ret ?_
        | refine CV.scope ?_
        | refine CV.draw callees (by decide +kernel) ?_
        | refine CH.cons rfl ?_
        | refine CH.nil ?_
        | refine CO.consG rfl ?_
        | refine CH.consG rfl ?_
        | refine CG.cons rfl ?_
        | refine CR.cons ?_
        | refine CR.nil ?_
        | refine CG.nil ?_
        | refine CG.consG rfl ?_
        | refine ⟨(rfl : plain _ = true), ?_⟩
        | refine ⟨(rfl : nilOk _ = some _), ?_⟩
        | refine ⟨_, ints_len (by assumption), ?_⟩
        | refine ⟨_, ints_addr (by assumption) (by omega) (by omega), ?_⟩
        | refine ⟨_, ints_load (by assumption) (by omega) (by omega), ?_⟩
        | refine ⟨(⟨by omega, by omega⟩ : inI64 _), ?_⟩
        | refine ⟨_, fun tm ha => step1_max rfl (ev_tmp ha rfl) (ev_tmp ha rfl), ?_⟩
        | refine ⟨_, fun tm ha => step1_min rfl (ev_tmp ha rfl) (ev_tmp ha rfl), ?_⟩
        | (refine ⟨_, arr_addr (by omega) (by omega), ?_⟩)
        | (refine ⟨_, arr_load ga (by omega), ?_⟩)
        | (refine ⟨fun _ => ?_, fun _ => ?_⟩ <;> first | (exfalso; omega) | skip)
        | fail
      refine (cmp_spec (by omega) (by omega) (by omega)).mono ?_
      rintro r Hw ⟨rfl, rfl⟩
      by_cases hlt : p[j]! < p[j + 1]!
      · rw [if_pos hlt] at es
        repeat' first
          | refine CO.cons rfl ?_
          | refine CO.nil ?_
          | refine CV.seq ?_
          | refine CV.region callees ?_
          | refine CV.cond ?_
          | refine CV.block ?_
          | refine CV.skip ?_
          | refine CV.exit ?_
          | refine CV.ret ?_
          | refine CV.scope ?_
          | refine CV.draw callees (by decide +kernel) ?_
          | refine CH.cons rfl ?_
          | refine CH.nil ?_
          | refine CO.consG rfl ?_
          | refine CH.consG rfl ?_
          | refine CG.cons rfl ?_
          | refine CR.cons ?_
          | refine CR.nil ?_
          | refine CG.nil ?_
          | refine CG.consG rfl ?_
          | refine ⟨(rfl : plain _ = true), ?_⟩
          | refine ⟨(rfl : nilOk _ = some _), ?_⟩
          | refine ⟨_, ints_len (by assumption), ?_⟩
          | refine ⟨_, ints_addr (by assumption) (by omega) (by omega), ?_⟩
          | refine ⟨_, ints_load (by assumption) (by omega) (by omega), ?_⟩
          | refine ⟨(⟨by omega, by omega⟩ : inI64 _), ?_⟩
          | refine ⟨_, fun tm ha => step1_max rfl (ev_tmp ha rfl) (ev_tmp ha rfl), ?_⟩
          | refine ⟨_, fun tm ha => step1_min rfl (ev_tmp ha rfl) (ev_tmp ha rfl), ?_⟩
          | refine CV.wideR callees (by decide +kernel) [(0, []), (1, []), (2, []), (3, []), (4, []), (5, []), (6, []), (7, []), (8, []), (9, []), (10, []), (11, []), (12, []), (13, []), (14, []), (15, [4]), (16, []), (17, [])] (by kernel_rfl) ?_
          | (refine ⟨_, arr_addr (by omega) (by omega), ?_⟩)
          | (refine ⟨_, arr_load ga (by omega), ?_⟩)
          | (refine ⟨fun _ => ?_, fun _ => ?_⟩ <;> first | (exfalso; omega) | skip)
          | fail
        refine ⟨_, _, arr_put ga (by omega), by omega, ?_⟩
        rw [x2]
        generalize hs1 : Heap.set Hw b _ = H1
        have g1 := set_get hs1
        have n1 := set_n hs1
        have o1 := set_old hs1
        repeat' first
          | refine CO.cons rfl ?_
          | refine CO.nil ?_
          | refine CV.seq ?_
          | refine CV.region callees ?_
          | refine CV.cond ?_
          | refine CV.block ?_
          | refine CV.skip ?_
          | refine CV.exit ?_
          | refine CV.ret ?_
          | refine CV.scope ?_
          | refine CV.draw callees (by decide +kernel) ?_
          | refine CH.cons rfl ?_
          | refine CH.nil ?_
          | refine CO.consG rfl ?_
          | refine CH.consG rfl ?_
          | refine CG.cons rfl ?_
          | refine CR.cons ?_
          | refine CR.nil ?_
          | refine CG.nil ?_
          | refine CG.consG rfl ?_
          | refine ⟨(rfl : plain _ = true), ?_⟩
          | refine ⟨(rfl : nilOk _ = some _), ?_⟩
          | refine ⟨_, ints_len (by assumption), ?_⟩
          | refine ⟨_, ints_addr (by assumption) (by omega) (by omega), ?_⟩
          | refine ⟨_, ints_load (by assumption) (by omega) (by omega), ?_⟩
          | refine ⟨(⟨by omega, by omega⟩ : inI64 _), ?_⟩
          | refine ⟨_, fun tm ha => step1_max rfl (ev_tmp ha rfl) (ev_tmp ha rfl), ?_⟩
          | refine ⟨_, fun tm ha => step1_min rfl (ev_tmp ha rfl) (ev_tmp ha rfl), ?_⟩
          | (refine ⟨(rfl : _ = Value.int _ _), ?_⟩)
          | (refine ⟨same_int, ?_⟩)
          | (refine ⟨_, arr_addr (by omega) (by omega), ?_⟩)
          | (refine ⟨fun _ => ?_, fun _ => ?_⟩ <;> first | (exfalso; omega) | skip)
          | fail
        refine ⟨_, _, arr_put g1 (by rw [List.length_set]; omega), by omega, ?_⟩
        generalize hs2 : Heap.set H1 b _ = H2
        have g2 := set_get hs2
        have n2 := set_n hs2
        have o2 := set_old hs2
        have x4 : (((j + 1 : Nat) : Int) - 1).toNat = j := by omega
        rw [x4] at g2
        have g2 : H2.get b = some (Dc ((p.set (j + 1) p[j]!).set j p[j + 1]!)) := g2
        repeat' first
          | refine CO.cons rfl ?_
          | refine CO.nil ?_
          | refine CV.seq ?_
          | refine CV.region callees ?_
          | refine CV.cond ?_
          | refine CV.block ?_
          | refine CV.skip ?_
          | refine CV.exit ?_
          | refine CV.ret ?_
          | refine CV.scope ?_
          | refine CV.draw callees (by decide +kernel) ?_
          | refine CH.cons rfl ?_
          | refine CH.nil ?_
          | refine CO.consG rfl ?_
          | refine CH.consG rfl ?_
          | refine CG.cons rfl ?_
          | refine CR.cons ?_
          | refine CR.nil ?_
          | refine CG.nil ?_
          | refine CG.consG rfl ?_
          | refine ⟨(rfl : plain _ = true), ?_⟩
          | refine ⟨(rfl : nilOk _ = some _), ?_⟩
          | refine ⟨_, ints_len (by assumption), ?_⟩
          | refine ⟨_, ints_addr (by assumption) (by omega) (by omega), ?_⟩
          | refine ⟨_, ints_load (by assumption) (by omega) (by omega), ?_⟩
          | refine ⟨(⟨by omega, by omega⟩ : inI64 _), ?_⟩
          | refine ⟨_, fun tm ha => step1_max rfl (ev_tmp ha rfl) (ev_tmp ha rfl), ?_⟩
          | refine ⟨_, fun tm ha => step1_min rfl (ev_tmp ha rfl) (ev_tmp ha rfl), ?_⟩
          | (refine ⟨fun _ => ?_, fun _ => ?_⟩ <;> first | (exfalso; omega) | skip)
          | fail
        refine ⟨((p.set (j + 1) p[j]!).set j p[j + 1]!, j), (by repeat' first | exact trivial | refine ⟨rfl, ?_⟩ | refine ⟨slot_int (by (try simp only [Int.toNat_natCast]); omega), ?_⟩), (by (try dsimp only); omega), ?_⟩
        exact ⟨by omega, by rw [List.length_set, List.length_set]; exact hp, (hpa.set hj1).set hj2, es.symm, g2, by omega, fun d hd => by rw [o2 d hd, o1 d hd, oy d hd]⟩
      · rw [if_neg hlt] at es
        repeat' first
          | refine CO.cons rfl ?_
          | refine CO.nil ?_
          | refine CV.seq ?_
          | refine CV.region callees ?_
          | refine CV.cond ?_
          | refine CV.block ?_
          | refine CV.skip ?_
          | refine CV.exit ?_
          | refine CV.ret ?_
          | refine CV.scope ?_
          | refine CV.draw callees (by decide +kernel) ?_
          | refine CH.cons rfl ?_
          | refine CH.nil ?_
          | refine CO.consG rfl ?_
          | refine CH.consG rfl ?_
          | refine CG.cons rfl ?_
          | refine CR.cons ?_
          | refine CR.nil ?_
          | refine CG.nil ?_
          | refine CG.consG rfl ?_
          | refine ⟨(rfl : plain _ = true), ?_⟩
          | refine ⟨(rfl : nilOk _ = some _), ?_⟩
          | refine ⟨_, ints_len (by assumption), ?_⟩
          | refine ⟨_, ints_addr (by assumption) (by omega) (by omega), ?_⟩
          | refine ⟨_, ints_load (by assumption) (by omega) (by omega), ?_⟩
          | refine ⟨(⟨by omega, by omega⟩ : inI64 _), ?_⟩
          | refine ⟨_, fun tm ha => step1_max rfl (ev_tmp ha rfl) (ev_tmp ha rfl), ?_⟩
          | refine ⟨_, fun tm ha => step1_min rfl (ev_tmp ha rfl) (ev_tmp ha rfl), ?_⟩
          | (refine ⟨fun _ => ?_, fun _ => ?_⟩ <;> first | (exfalso; omega) | skip)
          | fail
        refine ⟨(i + 1), (by repeat' first | exact trivial | refine ⟨rfl, ?_⟩ | refine ⟨slot_int (by (try simp only [Int.toNat_natCast]); omega), ?_⟩), (by (try dsimp only); omega), ?_⟩
        exact ⟨by omega, by rw [es]; exact gy, ny, oy⟩
  · have hil : i = 8 := by omega
    subst hil
    repeat' first
      | refine CO.cons rfl ?_
      | refine CO.nil ?_
      | refine CV.seq ?_
      | refine CV.region callees ?_
      | refine CV.cond ?_
      | refine CV.block ?_
      | refine CV.skip ?_
      | refine CV.exit ?_
      | refine CV.ret ?_
      | refine CV.scope ?_
      | refine CV.draw callees (by decide +kernel) ?_
      | refine CH.cons rfl ?_
      | refine CH.nil ?_
      | refine CO.consG rfl ?_
      | refine CH.consG rfl ?_
      | refine CG.cons rfl ?_
      | refine CR.cons ?_
      | refine CR.nil ?_
      | refine CG.nil ?_
      | refine CG.consG rfl ?_
      | refine ⟨(rfl : plain _ = true), ?_⟩
      | refine ⟨(rfl : nilOk _ = some _), ?_⟩
      | refine ⟨_, ints_len (by assumption), ?_⟩
      | refine ⟨_, ints_addr (by assumption) (by omega) (by omega), ?_⟩
      | refine ⟨_, ints_load (by assumption) (by omega) (by omega), ?_⟩
      | refine ⟨(⟨by omega, by omega⟩ : inI64 _), ?_⟩
      | refine ⟨_, fun tm ha => step1_max rfl (ev_tmp ha rfl) (ev_tmp ha rfl), ?_⟩
      | refine ⟨_, fun tm ha => step1_min rfl (ev_tmp ha rfl) (ev_tmp ha rfl), ?_⟩
      | (refine ⟨fun _ => ?_, fun _ => ?_⟩ <;> first | (exfalso; omega) | skip)
      | fail
    exact ⟨rfl, gx, nx, ox⟩
end Go.Proofs.Ytlpkbcgdcimglaa



/- Blocks of a partition, by the program. -/
namespace Go.Proofs.Ytlpkbcgdcimglaa
open Go.AI
set_option linter.unusedVariables false
set_option linter.unusedSimpArgs false
theorem un5 : Try.prog.underlying 5 = some (.int .u8) := by kernel_rfl
theorem un106 : Try.prog.underlying 106 = some (.int .u64) := by kernel_rfl
set_option maxRecDepth 100000 in
theorem len64_spec {B : Nat} {H : Heap} (hB : B ≤ H.n) :
    CallB Try.prog B 158 [.int .u64 9] H (fun r H' => r = .int .i64 4 ∧ H' = H) := by
  refine CV.enter callees false rfl Try.func158 rfl (by kernel_rfl) (Nat.le_of_ble_eq_true rfl) hB ?_
  repeat' first
    | refine CO.cons rfl ?_
    | refine CO.nil ?_
    | refine CV.seq ?_
    | refine CV.region callees ?_
    | refine CV.cond ?_
    | refine CV.block ?_
    | refine CV.skip ?_
    | refine CV.exit ?_
    | refine CV.ret ?_
    | refine CV.scope ?_
    | refine CV.draw callees (by decide +kernel) ?_
    | refine CH.cons rfl ?_
    | refine CH.nil ?_
    | refine CO.consG rfl ?_
    | refine CH.consG rfl ?_
    | refine CG.cons rfl ?_
    | refine CR.cons ?_
    | refine CR.nil ?_
    | refine CG.nil ?_
    | refine CG.consG rfl ?_
    | refine ⟨(rfl : plain _ = true), ?_⟩
    | refine ⟨(rfl : nilOk _ = some _), ?_⟩
    | refine ⟨_, ints_len (by assumption), ?_⟩
    | refine ⟨_, ints_addr (by assumption) (by omega) (by omega), ?_⟩
    | refine ⟨_, ints_load (by assumption) (by omega) (by omega), ?_⟩
    | refine ⟨(⟨by omega, by omega⟩ : inI64 _), ?_⟩
    | refine ⟨_, fun tm ha => step1_max rfl (ev_tmp ha rfl) (ev_tmp ha rfl), ?_⟩
    | refine ⟨_, fun tm ha => step1_min rfl (ev_tmp ha rfl) (ev_tmp ha rfl), ?_⟩
    | (refine ⟨_, fun tm ha => step1_conv un72 un5 rfl (ev_tmp ha rfl), ?_⟩)
    | (refine ⟨_, fun tm ha => step1_conv un5 un3 rfl (ev_tmp ha rfl), ?_⟩)
    | (refine ⟨Value.int .u8 4, by kernel_rfl, ?_⟩)
    | (refine ⟨(⟨by decide, by decide⟩ : inI64 _), ?_⟩)
    | (refine ⟨fun _ => ?_, fun _ => ?_⟩ <;> first | (exfalso; omega) | skip)
    | fail
  exact ⟨rfl, rfl, rfl⟩
set_option maxRecDepth 100000 in
theorem lenBits_spec {B : Nat} {H : Heap} (hB : B ≤ H.n) :
    CallB Try.prog B 140 [.int .u64 9] H (fun r H' => r = .int .i64 4 ∧ H' = H) := by
  refine CV.enter callees false rfl Try.func140 rfl (by kernel_rfl) (Nat.le_of_ble_eq_true rfl) hB ?_
  repeat' first
    | refine CO.cons rfl ?_
    | refine CO.nil ?_
    | refine CV.seq ?_
    | refine CV.region callees ?_
    | refine CV.cond ?_
    | refine CV.block ?_
    | refine CV.skip ?_
    | refine CV.exit ?_
    | refine CV.ret ?_
    | refine CV.scope ?_
    | refine CV.draw callees (by decide +kernel) ?_
    | refine CH.cons rfl ?_
    | refine CH.nil ?_
    | refine CO.consG rfl ?_
    | refine CH.consG rfl ?_
    | refine CG.cons rfl ?_
    | refine CR.cons ?_
    | refine CR.nil ?_
    | refine CG.nil ?_
    | refine CG.consG rfl ?_
    | refine ⟨(rfl : plain _ = true), ?_⟩
    | refine ⟨(rfl : nilOk _ = some _), ?_⟩
    | refine ⟨_, ints_len (by assumption), ?_⟩
    | refine ⟨_, ints_addr (by assumption) (by omega) (by omega), ?_⟩
    | refine ⟨_, ints_load (by assumption) (by omega) (by omega), ?_⟩
    | refine ⟨(⟨by omega, by omega⟩ : inI64 _), ?_⟩
    | refine ⟨_, fun tm ha => step1_max rfl (ev_tmp ha rfl) (ev_tmp ha rfl), ?_⟩
    | refine ⟨_, fun tm ha => step1_min rfl (ev_tmp ha rfl) (ev_tmp ha rfl), ?_⟩
    | (refine ⟨fun _ => ?_, fun _ => ?_⟩ <;> first | (exfalso; omega) | skip)
    | fail
  refine (len64_spec (by omega)).mono ?_
  rintro r H' ⟨rfl, rfl⟩
  repeat' first
    | refine CO.cons rfl ?_
    | refine CO.nil ?_
    | refine CV.seq ?_
    | refine CV.region callees ?_
    | refine CV.cond ?_
    | refine CV.block ?_
    | refine CV.skip ?_
    | refine CV.exit ?_
    | refine CV.ret ?_
    | refine CV.scope ?_
    | refine CV.draw callees (by decide +kernel) ?_
    | refine CH.cons rfl ?_
    | refine CH.nil ?_
    | refine CO.consG rfl ?_
    | refine CH.consG rfl ?_
    | refine CG.cons rfl ?_
    | refine CR.cons ?_
    | refine CR.nil ?_
    | refine CG.nil ?_
    | refine CG.consG rfl ?_
    | refine ⟨(rfl : plain _ = true), ?_⟩
    | refine ⟨(rfl : nilOk _ = some _), ?_⟩
    | refine ⟨_, ints_len (by assumption), ?_⟩
    | refine ⟨_, ints_addr (by assumption) (by omega) (by omega), ?_⟩
    | refine ⟨_, ints_load (by assumption) (by omega) (by omega), ?_⟩
    | refine ⟨(⟨by omega, by omega⟩ : inI64 _), ?_⟩
    | refine ⟨_, fun tm ha => step1_max rfl (ev_tmp ha rfl) (ev_tmp ha rfl), ?_⟩
    | refine ⟨_, fun tm ha => step1_min rfl (ev_tmp ha rfl) (ev_tmp ha rfl), ?_⟩
    | (refine ⟨fun _ => ?_, fun _ => ?_⟩ <;> first | (exfalso; omega) | skip)
    | fail
  exact ⟨rfl, rfl, rfl⟩
set_option maxRecDepth 100000 in
theorem pdq_spec {B b c : Nat} {H : Heap} {l : List Int} {z : Int} (hB : B ≤ b) (hn : B ≤ H.n) (hbn : b < H.n) (hg : H.get b = some (Dc l)) (hl : l.length = 9) (hel : AllN (fun x => 0 ≤ x ∧ x ≤ 9) l) :
    CallB Try.prog B 139 [.slice (some ⟨b, 0, none⟩) 9 c, .int .i64 0, .int .i64 9, .int .i64 z, cmpV] H (fun r H' => H'.get b = some (Dc (sortN l 8)) ∧ H'.n = H.n ∧ ∀ d, d ≠ b → H'.get d = H.get d) := by
  refine CV.enter callees false rfl Try.func139 rfl (by kernel_rfl) (Nat.le_of_ble_eq_true rfl) hn ?_
  repeat' first
    | refine CO.cons rfl ?_
    | refine CO.nil ?_
    | refine CV.seq ?_
    | refine CV.region callees ?_
    | refine CV.cond ?_
    | refine CV.block ?_
    | refine CV.skip ?_
    | refine CV.exit ?_
    | refine CV.ret ?_
    | refine CV.scope ?_
    | refine CV.draw callees (by decide +kernel) ?_
    | refine CH.cons rfl ?_
    | refine CH.nil ?_
    | refine CO.consG rfl ?_
    | refine CH.consG rfl ?_
    | refine CG.cons rfl ?_
    | refine CR.cons ?_
    | refine CR.nil ?_
    | refine CG.nil ?_
    | refine CG.consG rfl ?_
    | refine ⟨(rfl : plain _ = true), ?_⟩
    | refine ⟨(rfl : nilOk _ = some _), ?_⟩
    | refine ⟨_, ints_len (by assumption), ?_⟩
    | refine ⟨_, ints_addr (by assumption) (by omega) (by omega), ?_⟩
    | refine ⟨_, ints_load (by assumption) (by omega) (by omega), ?_⟩
    | refine ⟨(⟨by omega, by omega⟩ : inI64 _), ?_⟩
    | refine ⟨_, fun tm ha => step1_max rfl (ev_tmp ha rfl) (ev_tmp ha rfl), ?_⟩
    | refine ⟨_, fun tm ha => step1_min rfl (ev_tmp ha rfl) (ev_tmp ha rfl), ?_⟩
    | (refine ⟨fun _ => ?_, fun _ => ?_⟩ <;> first | (exfalso; omega) | skip)
    | fail
  refine CV.loopc ?_
  refine WCv.rounds callees false (α := Nat) (fun i => [(0, .slice (some ⟨b, 0, none⟩) 9 c), (1, .int .i64 0), (2, .int .i64 9), (4, cmpV)]) (fun i Hz => Hz = H) (fun i => i) (0) (by repeat' first | exact trivial | refine ⟨rfl, ?_⟩ | refine ⟨slot_int (by (try simp only [Int.toNat_natCast]); omega), ?_⟩) ?_ ?_
  · exact rfl
  rintro i Hx rfl hBx
  repeat' first
    | refine CO.cons rfl ?_
    | refine CO.nil ?_
    | refine CV.seq ?_
    | refine CV.region callees ?_
    | refine CV.cond ?_
    | refine CV.block ?_
    | refine CV.skip ?_
    | refine CV.exit ?_
    | refine CV.ret ?_
    | refine CV.scope ?_
    | refine CV.draw callees (by decide +kernel) ?_
    | refine CH.cons rfl ?_
    | refine CH.nil ?_
    | refine CO.consG rfl ?_
    | refine CH.consG rfl ?_
    | refine CG.cons rfl ?_
    | refine CR.cons ?_
    | refine CR.nil ?_
    | refine CG.nil ?_
    | refine CG.consG rfl ?_
    | refine ⟨(rfl : plain _ = true), ?_⟩
    | refine ⟨(rfl : nilOk _ = some _), ?_⟩
    | refine ⟨_, ints_len (by assumption), ?_⟩
    | refine ⟨_, ints_addr (by assumption) (by omega) (by omega), ?_⟩
    | refine ⟨_, ints_load (by assumption) (by omega) (by omega), ?_⟩
    | refine ⟨(⟨by omega, by omega⟩ : inI64 _), ?_⟩
    | refine ⟨_, fun tm ha => step1_max rfl (ev_tmp ha rfl) (ev_tmp ha rfl), ?_⟩
    | refine ⟨_, fun tm ha => step1_min rfl (ev_tmp ha rfl) (ev_tmp ha rfl), ?_⟩
    | (refine ⟨fun _ => ?_, fun _ => ?_⟩ <;> first | (exfalso; omega) | skip)
    | fail
  refine (insert_spec hB hn hbn hg hl hel).mono ?_
  rintro r H' h
  repeat' first
    | refine CO.cons rfl ?_
    | refine CO.nil ?_
    | refine CV.seq ?_
    | refine CV.region callees ?_
    | refine CV.cond ?_
    | refine CV.block ?_
    | refine CV.skip ?_
    | refine CV.exit ?_
    | refine CV.ret ?_
    | refine CV.scope ?_
    | refine CV.draw callees (by decide +kernel) ?_
    | refine CH.cons rfl ?_
    | refine CH.nil ?_
    | refine CO.consG rfl ?_
    | refine CH.consG rfl ?_
    | refine CG.cons rfl ?_
    | refine CR.cons ?_
    | refine CR.nil ?_
    | refine CG.nil ?_
    | refine CG.consG rfl ?_
    | refine ⟨(rfl : plain _ = true), ?_⟩
    | refine ⟨(rfl : nilOk _ = some _), ?_⟩
    | refine ⟨_, ints_len (by assumption), ?_⟩
    | refine ⟨_, ints_addr (by assumption) (by omega) (by omega), ?_⟩
    | refine ⟨_, ints_load (by assumption) (by omega) (by omega), ?_⟩
    | refine ⟨(⟨by omega, by omega⟩ : inI64 _), ?_⟩
    | refine ⟨_, fun tm ha => step1_max rfl (ev_tmp ha rfl) (ev_tmp ha rfl), ?_⟩
    | refine ⟨_, fun tm ha => step1_min rfl (ev_tmp ha rfl) (ev_tmp ha rfl), ?_⟩
    | (refine ⟨fun _ => ?_, fun _ => ?_⟩ <;> first | (exfalso; omega) | skip)
    | fail
  exact ⟨rfl, h⟩
set_option maxRecDepth 100000 in
theorem sort_spec {B b c : Nat} {H : Heap} {l : List Int} (hB : B ≤ b) (hn : B ≤ H.n) (hbn : b < H.n) (hg : H.get b = some (Dc l)) (hl : l.length = 9) (hel : AllN (fun x => 0 ≤ x ∧ x ≤ 9) l) :
    CallB Try.prog B 114 [.slice (some ⟨b, 0, none⟩) 9 c, cmpV] H (fun r H' => H'.get b = some (Dc (sortN l 8)) ∧ H'.n = H.n ∧ ∀ d, d ≠ b → H'.get d = H.get d) := by
  refine CV.enter callees false rfl Try.func114 rfl (by kernel_rfl) (Nat.le_of_ble_eq_true rfl) hn ?_
  repeat' first
    | refine CO.cons rfl ?_
    | refine CO.nil ?_
    | refine CV.seq ?_
    | refine CV.region callees ?_
    | refine CV.cond ?_
    | refine CV.block ?_
    | refine CV.skip ?_
    | refine CV.exit ?_
    | refine CV.ret ?_
    | refine CV.scope ?_
    | refine CV.draw callees (by decide +kernel) ?_
    | refine CH.cons rfl ?_
    | refine CH.nil ?_
    | refine CO.consG rfl ?_
    | refine CH.consG rfl ?_
    | refine CG.cons rfl ?_
    | refine CR.cons ?_
    | refine CR.nil ?_
    | refine CG.nil ?_
    | refine CG.consG rfl ?_
    | refine ⟨(rfl : plain _ = true), ?_⟩
    | refine ⟨(rfl : nilOk _ = some _), ?_⟩
    | refine ⟨_, ints_len (by assumption), ?_⟩
    | refine ⟨_, ints_addr (by assumption) (by omega) (by omega), ?_⟩
    | refine ⟨_, ints_load (by assumption) (by omega) (by omega), ?_⟩
    | refine ⟨(⟨by omega, by omega⟩ : inI64 _), ?_⟩
    | refine ⟨_, fun tm ha => step1_max rfl (ev_tmp ha rfl) (ev_tmp ha rfl), ?_⟩
    | refine ⟨_, fun tm ha => step1_min rfl (ev_tmp ha rfl) (ev_tmp ha rfl), ?_⟩
    | (refine ⟨_, arr_len, ?_⟩)
    | (refine ⟨_, fun tm ha => step1_conv un3 un106 rfl (ev_tmp ha rfl), ?_⟩)
    | (refine ⟨fun _ => ?_, fun _ => ?_⟩ <;> first | (exfalso; omega) | skip)
    | fail
  refine (lenBits_spec hn).mono ?_
  rintro r H' ⟨rfl, rfl⟩
  repeat' first
    | refine CO.cons rfl ?_
    | refine CO.nil ?_
    | refine CV.seq ?_
    | refine CV.region callees ?_
    | refine CV.cond ?_
    | refine CV.block ?_
    | refine CV.skip ?_
    | refine CV.exit ?_
    | refine CV.ret ?_
    | refine CV.scope ?_
    | refine CV.draw callees (by decide +kernel) ?_
    | refine CH.cons rfl ?_
    | refine CH.nil ?_
    | refine CO.consG rfl ?_
    | refine CH.consG rfl ?_
    | refine CG.cons rfl ?_
    | refine CR.cons ?_
    | refine CR.nil ?_
    | refine CG.nil ?_
    | refine CG.consG rfl ?_
    | refine ⟨(rfl : plain _ = true), ?_⟩
    | refine ⟨(rfl : nilOk _ = some _), ?_⟩
    | refine ⟨_, ints_len (by assumption), ?_⟩
    | refine ⟨_, ints_addr (by assumption) (by omega) (by omega), ?_⟩
    | refine ⟨_, ints_load (by assumption) (by omega) (by omega), ?_⟩
    | refine ⟨(⟨by omega, by omega⟩ : inI64 _), ?_⟩
    | refine ⟨_, fun tm ha => step1_max rfl (ev_tmp ha rfl) (ev_tmp ha rfl), ?_⟩
    | refine ⟨_, fun tm ha => step1_min rfl (ev_tmp ha rfl) (ev_tmp ha rfl), ?_⟩
    | (refine ⟨fun _ => ?_, fun _ => ?_⟩ <;> first | (exfalso; omega) | skip)
    | fail
  refine (pdq_spec hB hn hbn hg hl hel).mono ?_
  rintro r H' h
  repeat' first
    | refine CO.cons rfl ?_
    | refine CO.nil ?_
    | refine CV.seq ?_
    | refine CV.region callees ?_
    | refine CV.cond ?_
    | refine CV.block ?_
    | refine CV.skip ?_
    | refine CV.exit ?_
    | refine CV.ret ?_
    | refine CV.scope ?_
    | refine CV.draw callees (by decide +kernel) ?_
    | refine CH.cons rfl ?_
    | refine CH.nil ?_
    | refine CO.consG rfl ?_
    | refine CH.consG rfl ?_
    | refine CG.cons rfl ?_
    | refine CR.cons ?_
    | refine CR.nil ?_
    | refine CG.nil ?_
    | refine CG.consG rfl ?_
    | refine ⟨(rfl : plain _ = true), ?_⟩
    | refine ⟨(rfl : nilOk _ = some _), ?_⟩
    | refine ⟨_, ints_len (by assumption), ?_⟩
    | refine ⟨_, ints_addr (by assumption) (by omega) (by omega), ?_⟩
    | refine ⟨_, ints_load (by assumption) (by omega) (by omega), ?_⟩
    | refine ⟨(⟨by omega, by omega⟩ : inI64 _), ?_⟩
    | refine ⟨_, fun tm ha => step1_max rfl (ev_tmp ha rfl) (ev_tmp ha rfl), ?_⟩
    | refine ⟨_, fun tm ha => step1_min rfl (ev_tmp ha rfl) (ev_tmp ha rfl), ?_⟩
    | (refine ⟨fun _ => ?_, fun _ => ?_⟩ <;> first | (exfalso; omega) | skip)
    | fail
  exact ⟨rfl, h⟩
end Go.Proofs.Ytlpkbcgdcimglaa



/- Blocks of a partition, by the program. -/
namespace Go.Proofs.Ytlpkbcgdcimglaa
open Go.AI
set_option linter.unusedVariables false
set_option linter.unusedSimpArgs false
def z9 : List Int := [0, 0, 0, 0, 0, 0, 0, 0, 0]
abbrev Dv (l : List Int) : Value := .agg (l.map VI).toArray
theorem zeroD : zeroCells Try.prog 96 = some (z9.map VI) := by kernel_rfl
theorem allocD {H : Heap} : sAlloc Try.prog H 96 = some (.pointer (some ⟨H.n, 0, none⟩), H.new (Dc z9), H.n) := alloc_of zeroD
theorem agD : isAggB Try.prog 96 = some true := by kernel_rfl
theorem szD : sizeB Try.prog 96 = some 9 := by kernel_rfl
theorem unD : Try.prog.underlying 96 = some (.array 9 3) := by kernel_rfl
theorem loadD {H : Heap} {b : Nat} {l : List Int} (hl : l.length = 9) (hg : H.get b = some (Dc l)) : aload Try.prog 96 H (.pointer (some ⟨b, 0, none⟩)) = some (Dv l) := by
  have : (l.map VI).take 9 = l.map VI := List.take_of_length_le (by rw [List.length_map]; omega)
  simp [aload, hg, agD, szD, hl, this]
theorem storeD {H : Heap} {b : Nat} {l l' : List Int} (hl : l.length = 9) (hl' : l'.length = 9) (hg : H.get b = some (Dc l)) : astore Try.prog 96 H (Dv l') (.pointer (some ⟨b, 0, none⟩)) = some (H.set b (Dc l'), b) :=
  store_all (vs := l'.map VI) hg (by rw [List.length_map, List.length_map, hl, hl']) (by rw [szD, List.length_map, hl']) (by rw [List.all_eq_true]; intro x hx; obtain ⟨y, _, rfl⟩ := List.mem_map.1 hx; rfl)
theorem sliceD {b : Nat} : aslice Try.prog 96 (.pointer (some ⟨b, 0, none⟩)) none none = some (.slice (some ⟨b, 0, none⟩) 9 1) := by
  simp [aslice, unD, sz3, bound]
theorem addrD {b : Nat} {j : Int} (h0 : 0 ≤ j) (h1 : j < 9) : aindexAddr Try.prog 96 (.pointer (some ⟨b, 0, none⟩)) (.int .i64 j) = some (.pointer (some ⟨b, j.toNat, none⟩)) := by
  rw [array_addr unD sz3 h0 h1, Nat.zero_add, Nat.mul_one]
/-- How often each number comes. -/
def histL (l : List Int) : List Int → List Int
  | [] => l
  | c :: cs => histL (l.set c.toNat (l[c.toNat]! + 1)) cs
theorem histL_snoc : ∀ (cs l : List Int) (c : Int), histL l (cs ++ [c]) = (histL l cs).set c.toNat ((histL l cs)[c.toNat]! + 1)
  | [], l, c => rfl
  | e :: cs, l, c => by rw [List.cons_append, histL, histL_snoc cs, histL]
theorem histL_len : ∀ (cs l : List Int), (histL l cs).length = l.length
  | [], _ => rfl
  | e :: cs, l => by rw [histL, histL_len cs, List.length_set]
theorem hist_all : ∀ (n : Nat) (cs : List Int), cs.length = n → AllN (fun x => 0 ≤ x ∧ x ≤ (n : Int)) (histL z9 cs)
  | 0, cs, h => by
    obtain rfl := List.length_eq_zero_iff.1 h
    intro i hi
    have hi : i < 9 := hi
    show 0 ≤ z9[i]! ∧ z9[i]! ≤ ((0 : Nat) : Int)
    have : z9[i]! = 0 := by
      match i, hi with
      | 0, _ => rfl
      | 1, _ => rfl
      | 2, _ => rfl
      | 3, _ => rfl
      | 4, _ => rfl
      | 5, _ => rfl
      | 6, _ => rfl
      | 7, _ => rfl
      | 8, _ => rfl
    omega
  | n + 1, cs, h => by
    have hne : cs ≠ [] := fun h2 => by rw [h2] at h; simp at h
    have e : cs = cs.dropLast ++ [cs.getLast hne] := (List.dropLast_concat_getLast hne).symm
    rw [e, histL_snoc]
    have ih := hist_all n cs.dropLast (by rw [List.length_dropLast]; omega)
    have ih2 : AllN (fun x => 0 ≤ x ∧ x ≤ ((n + 1 : Nat) : Int)) (histL z9 cs.dropLast) := fun i hi => by have := ih i hi; omega
    by_cases hc : (cs.getLast hne).toNat < (histL z9 cs.dropLast).length
    · exact ih2.set (by have := ih _ hc; omega)
    · rw [List.set_eq_of_length_le (by omega)]; exact ih2
def blocksN (p : List Int) : List Int := sortN (histL z9 p) 8
theorem blocks_len (p : List Int) : (blocksN p).length = 9 := by rw [blocksN, sort_len, histL_len]; rfl
theorem blocks_all {p : List Int} (h : p.length ≤ 9) : AllN (fun x => 0 ≤ x ∧ x ≤ 9) (blocksN p) := by
  refine sort_all 8 (by rw [histL_len]; decide) fun i hi => ?_
  have := hist_all p.length p rfl i hi
  omega
set_option maxRecDepth 100000 in
theorem blocksOf_spec {B : Nat} {H : Heap} {v : Value} {p : List Int} (hB : B ≤ H.n) (hv : Ints H v p) (h9 : p.length ≤ 9) (hp : ∀ i, i < p.length → 0 ≤ p[i]! ∧ p[i]! < 9) :
    CallB Try.prog B 83 [v] H (fun r H' => r = Dv (blocksN p) ∧ Keep H H') := by
  refine CV.enter callees false rfl Try.func83 rfl (by kernel_rfl) (Nat.le_of_ble_eq_true rfl) hB ?_
  repeat' first
    | refine CO.cons rfl ?_
    | refine CO.nil ?_
    | refine CV.seq ?_
    | refine CV.region callees ?_
    | refine CV.cond ?_
    | refine CV.block ?_
    | refine CV.skip ?_
    | refine CV.exit ?_
    | refine CV.ret ?_
    | refine CV.scope ?_
    | refine CV.draw callees (by decide +kernel) ?_
    | refine CH.cons rfl ?_
    | refine CH.nil ?_
    | refine CO.consG rfl ?_
    | refine CH.consG rfl ?_
    | refine CG.cons rfl ?_
    | refine CR.cons ?_
    | refine CR.nil ?_
    | refine CG.nil ?_
    | refine CG.consG rfl ?_
    | refine ⟨(rfl : plain _ = true), ?_⟩
    | refine ⟨(rfl : nilOk _ = some _), ?_⟩
    | refine ⟨_, ints_len (by assumption), ?_⟩
    | refine ⟨_, ints_addr (by assumption) (by omega) (by omega), ?_⟩
    | refine ⟨_, ints_load (by assumption) (by omega) (by omega), ?_⟩
    | refine ⟨(⟨by omega, by omega⟩ : inI64 _), ?_⟩
    | refine ⟨_, fun tm ha => step1_max rfl (ev_tmp ha rfl) (ev_tmp ha rfl), ?_⟩
    | refine ⟨_, fun tm ha => step1_min rfl (ev_tmp ha rfl) (ev_tmp ha rfl), ?_⟩
    | (refine ⟨_, _, allocD, ?_⟩)
    | (refine ⟨fun _ => ?_, fun _ => ?_⟩ <;> first | (exfalso; omega) | skip)
    | fail
  generalize hs0 : H.new (Dc z9) = H0
  have hg0 := new_get hs0
  have k0 := new_keep hs0
  have n0 := new_n hs0
  obtain ⟨b0, hb0⟩ : ∃ b0, H.n = b0 := ⟨_, rfl⟩
  rw [hb0] at hg0 n0 ⊢
  generalize hs1 : H0.new (Dc z9) = H1
  have hg1 := new_get hs1
  have k1 := new_keep hs1
  have n1 := new_n hs1
  obtain ⟨b1, hb1⟩ : ∃ b1, H0.n = b1 := ⟨_, rfl⟩
  rw [hb1] at hg1 n1 ⊢
  have k01 := k0.trans k1
  have hv1 : Ints H1 v p := Row.keep hv k01
  have hg01 : H1.get b0 = some (Dc z9) := by rw [k1.2 b0 (by omega)]; exact hg0
  repeat' first
    | refine CO.cons rfl ?_
    | refine CO.nil ?_
    | refine CV.seq ?_
    | refine CV.region callees ?_
    | refine CV.cond ?_
    | refine CV.block ?_
    | refine CV.skip ?_
    | refine CV.exit ?_
    | refine CV.ret ?_
    | refine CV.scope ?_
    | refine CV.draw callees (by decide +kernel) ?_
    | refine CH.cons rfl ?_
    | refine CH.nil ?_
    | refine CO.consG rfl ?_
    | refine CH.consG rfl ?_
    | refine CG.cons rfl ?_
    | refine CR.cons ?_
    | refine CR.nil ?_
    | refine CG.nil ?_
    | refine CG.consG rfl ?_
    | refine ⟨(rfl : plain _ = true), ?_⟩
    | refine ⟨(rfl : nilOk _ = some _), ?_⟩
    | refine ⟨_, ints_len (by assumption), ?_⟩
    | refine ⟨_, ints_addr (by assumption) (by omega) (by omega), ?_⟩
    | refine ⟨_, ints_load (by assumption) (by omega) (by omega), ?_⟩
    | refine ⟨(⟨by omega, by omega⟩ : inI64 _), ?_⟩
    | refine ⟨_, fun tm ha => step1_max rfl (ev_tmp ha rfl) (ev_tmp ha rfl), ?_⟩
    | refine ⟨_, fun tm ha => step1_min rfl (ev_tmp ha rfl) (ev_tmp ha rfl), ?_⟩
    | (refine ⟨fun _ => ?_, fun _ => ?_⟩ <;> first | (exfalso; omega) | skip)
    | fail
  refine CV.loopc ?_
  refine WCv.rounds callees false (α := Nat) (fun i => [(2, .pointer (some ⟨b0, 0, none⟩)), (3, .pointer (some ⟨b1, 0, none⟩)), (6, v), (7, .int .i64 p.length), (8, .int .i64 i)]) (fun i Hz => i ≤ p.length ∧ Hz.n = H1.n ∧ (∀ c, c ≠ b1 → Hz.get c = H1.get c) ∧ Hz.get b1 = some (Dc (histL z9 (p.take i)))) (fun i => p.length - i) (0) (by repeat' first | exact trivial | refine ⟨rfl, ?_⟩ | refine ⟨slot_int (by (try simp only [Int.toNat_natCast]); omega), ?_⟩) ?_ ?_
  · exact ⟨by omega, rfl, fun _ _ => rfl, by simpa [histL] using hg1⟩
  rintro i Hx ⟨hi, nx, ox, gx⟩ hBx
  have kx : Keep H0 Hx := keep_put k1 (by omega) ox nx
  have hvx : Ints Hx v p := Row.keep hv (k0.trans kx)
  have hg0x : Hx.get b0 = some (Dc z9) := by rw [ox b0 (by omega)]; exact hg01
  have lL : (histL z9 (p.take i)).length = 9 := by rw [histL_len]; rfl
  have hal := hist_all i (p.take i) (by rw [List.length_take]; omega)
  by_cases hi2 : i < p.length
  · have hxi : p[(i : Int).toNat]! = p[i]! := rfl
    obtain ⟨c0, c1⟩ := hp i hi2
    have hst : histL z9 (p.take (i + 1)) = (histL z9 (p.take i)).set (p[i]!).toNat ((histL z9 (p.take i))[(p[i]!).toNat]! + 1) := by rw [take_one hi2, histL_snoc]
    generalize histL z9 (p.take i) = L at hst gx lL hal
    have hxc : L[(p[(i : Int).toNat]!).toNat]! = L[(p[i]!).toNat]! := rfl
    have hle := hal (p[i]!).toNat (by omega)
    repeat' first
      | refine CO.cons rfl ?_
      | refine CO.nil ?_
      | refine CV.seq ?_
      | refine CV.region callees ?_
      | refine CV.cond ?_
      | refine CV.block ?_
      | refine CV.skip ?_
      | refine CV.exit ?_
      | refine CV.ret ?_
      | refine CV.scope ?_
      | refine CV.draw callees (by decide +kernel) ?_
      | refine CH.cons rfl ?_
      | refine CH.nil ?_
      | refine CO.consG rfl ?_
      | refine CH.consG rfl ?_
      | refine CG.cons rfl ?_
      | refine CR.cons ?_
      | refine CR.nil ?_
      | refine CG.nil ?_
      | refine CG.consG rfl ?_
      | refine ⟨(rfl : plain _ = true), ?_⟩
      | refine ⟨(rfl : nilOk _ = some _), ?_⟩
      | refine ⟨_, ints_len (by assumption), ?_⟩
      | refine ⟨_, ints_addr (by assumption) (by omega) (by omega), ?_⟩
      | refine ⟨_, ints_load (by assumption) (by omega) (by omega), ?_⟩
      | refine ⟨(⟨by omega, by omega⟩ : inI64 _), ?_⟩
      | refine ⟨_, fun tm ha => step1_max rfl (ev_tmp ha rfl) (ev_tmp ha rfl), ?_⟩
      | refine ⟨_, fun tm ha => step1_min rfl (ev_tmp ha rfl) (ev_tmp ha rfl), ?_⟩
      | (refine ⟨_, addrD (by omega) (by omega), ?_⟩)
      | (refine ⟨_, arr_load gx (by omega), ?_⟩)
      | (refine ⟨fun _ => ?_, fun _ => ?_⟩ <;> first | (exfalso; omega) | skip)
      | fail
    refine ⟨_, _, arr_put gx (by omega), by omega, ?_⟩
    generalize hs8 : Heap.set _ b1 _ = H8
    have g8 := set_get hs8
    have n8 := set_n hs8
    have o8 := set_old hs8
    have g8 : H8.get b1 = some (Dc (histL z9 (p.take (i + 1)))) := by rw [hst]; exact g8
    repeat' first
      | refine CO.cons rfl ?_
      | refine CO.nil ?_
      | refine CV.seq ?_
      | refine CV.region callees ?_
      | refine CV.cond ?_
      | refine CV.block ?_
      | refine CV.skip ?_
      | refine CV.exit ?_
      | refine CV.ret ?_
      | refine CV.scope ?_
      | refine CV.draw callees (by decide +kernel) ?_
      | refine CH.cons rfl ?_
      | refine CH.nil ?_
      | refine CO.consG rfl ?_
      | refine CH.consG rfl ?_
      | refine CG.cons rfl ?_
      | refine CR.cons ?_
      | refine CR.nil ?_
      | refine CG.nil ?_
      | refine CG.consG rfl ?_
      | refine ⟨(rfl : plain _ = true), ?_⟩
      | refine ⟨(rfl : nilOk _ = some _), ?_⟩
      | refine ⟨_, ints_len (by assumption), ?_⟩
      | refine ⟨_, ints_addr (by assumption) (by omega) (by omega), ?_⟩
      | refine ⟨_, ints_load (by assumption) (by omega) (by omega), ?_⟩
      | refine ⟨(⟨by omega, by omega⟩ : inI64 _), ?_⟩
      | refine ⟨_, fun tm ha => step1_max rfl (ev_tmp ha rfl) (ev_tmp ha rfl), ?_⟩
      | refine ⟨_, fun tm ha => step1_min rfl (ev_tmp ha rfl) (ev_tmp ha rfl), ?_⟩
      | (refine ⟨fun _ => ?_, fun _ => ?_⟩ <;> first | (exfalso; omega) | skip)
      | fail
    refine ⟨(i + 1), (by repeat' first | exact trivial | refine ⟨rfl, ?_⟩ | refine ⟨slot_int (by (try simp only [Int.toNat_natCast]); omega), ?_⟩), (by (try dsimp only); omega), ?_⟩
    exact ⟨by omega, by omega, fun c hc => by rw [o8 c hc, ox c hc], g8⟩
  · have hil : i = p.length := by omega
    subst hil
    rw [List.take_length] at gx lL hal
    repeat' first
      | refine CO.cons rfl ?_
      | refine CO.nil ?_
      | refine CV.seq ?_
      | refine CV.region callees ?_
      | refine CV.cond ?_
      | refine CV.block ?_
      | refine CV.skip ?_
      | refine CV.exit ?_
      | refine CV.ret ?_
      | refine CV.scope ?_
      | refine CV.draw callees (by decide +kernel) ?_
      | refine CH.cons rfl ?_
      | refine CH.nil ?_
      | refine CO.consG rfl ?_
      | refine CH.consG rfl ?_
      | refine CG.cons rfl ?_
      | refine CR.cons ?_
      | refine CR.nil ?_
      | refine CG.nil ?_
      | refine CG.consG rfl ?_
      | refine ⟨(rfl : plain _ = true), ?_⟩
      | refine ⟨(rfl : nilOk _ = some _), ?_⟩
      | refine ⟨_, ints_len (by assumption), ?_⟩
      | refine ⟨_, ints_addr (by assumption) (by omega) (by omega), ?_⟩
      | refine ⟨_, ints_load (by assumption) (by omega) (by omega), ?_⟩
      | refine ⟨(⟨by omega, by omega⟩ : inI64 _), ?_⟩
      | refine ⟨_, fun tm ha => step1_max rfl (ev_tmp ha rfl) (ev_tmp ha rfl), ?_⟩
      | refine ⟨_, fun tm ha => step1_min rfl (ev_tmp ha rfl) (ev_tmp ha rfl), ?_⟩
      | (refine ⟨_, sliceD, ?_⟩)
      | (refine ⟨fun _ => ?_, fun _ => ?_⟩ <;> first | (exfalso; omega) | skip)
      | fail
    refine (sort_spec (by omega) (by omega) (by omega) gx lL (fun i hi => by have := hal i hi; omega)).mono ?_
    rintro r H9 ⟨g9, n9, o9⟩
    have g9 : H9.get b1 = some (Dc (blocksN p)) := g9
    have hg9 : H9.get b0 = some (Dc z9) := by rw [o9 b0 (by omega)]; exact hg0x
    repeat' first
      | refine CO.cons rfl ?_
      | refine CO.nil ?_
      | refine CV.seq ?_
      | refine CV.region callees ?_
      | refine CV.cond ?_
      | refine CV.block ?_
      | refine CV.skip ?_
      | refine CV.exit ?_
      | refine CV.ret ?_
      | refine CV.scope ?_
      | refine CV.draw callees (by decide +kernel) ?_
      | refine CH.cons rfl ?_
      | refine CH.nil ?_
      | refine CO.consG rfl ?_
      | refine CH.consG rfl ?_
      | refine CG.cons rfl ?_
      | refine CR.cons ?_
      | refine CR.nil ?_
      | refine CG.nil ?_
      | refine CG.consG rfl ?_
      | refine ⟨(rfl : plain _ = true), ?_⟩
      | refine ⟨(rfl : nilOk _ = some _), ?_⟩
      | refine ⟨_, ints_len (by assumption), ?_⟩
      | refine ⟨_, ints_addr (by assumption) (by omega) (by omega), ?_⟩
      | refine ⟨_, ints_load (by assumption) (by omega) (by omega), ?_⟩
      | refine ⟨(⟨by omega, by omega⟩ : inI64 _), ?_⟩
      | refine ⟨_, fun tm ha => step1_max rfl (ev_tmp ha rfl) (ev_tmp ha rfl), ?_⟩
      | refine ⟨_, fun tm ha => step1_min rfl (ev_tmp ha rfl) (ev_tmp ha rfl), ?_⟩
      | (refine ⟨_, loadD (blocks_len p) g9, ?_⟩)
      | (refine ⟨fun _ => ?_, fun _ => ?_⟩ <;> first | (exfalso; omega) | skip)
      | fail
    refine ⟨_, _, storeD (l := z9) rfl (blocks_len p) hg9, by omega, ?_⟩
    generalize hsa : Heap.set _ b0 _ = Ha
    have ga := set_get hsa
    have na := set_n hsa
    have k9 : Keep H0 H9 := keep_put kx (by omega) o9 n9
    repeat' first
      | refine CO.cons rfl ?_
      | refine CO.nil ?_
      | refine CV.seq ?_
      | refine CV.region callees ?_
      | refine CV.cond ?_
      | refine CV.block ?_
      | refine CV.skip ?_
      | refine CV.exit ?_
      | refine CV.ret ?_
      | refine CV.scope ?_
      | refine CV.draw callees (by decide +kernel) ?_
      | refine CH.cons rfl ?_
      | refine CH.nil ?_
      | refine CO.consG rfl ?_
      | refine CH.consG rfl ?_
      | refine CG.cons rfl ?_
      | refine CR.cons ?_
      | refine CR.nil ?_
      | refine CG.nil ?_
      | refine CG.consG rfl ?_
      | refine ⟨(rfl : plain _ = true), ?_⟩
      | refine ⟨(rfl : nilOk _ = some _), ?_⟩
      | refine ⟨_, ints_len (by assumption), ?_⟩
      | refine ⟨_, ints_addr (by assumption) (by omega) (by omega), ?_⟩
      | refine ⟨_, ints_load (by assumption) (by omega) (by omega), ?_⟩
      | refine ⟨(⟨by omega, by omega⟩ : inI64 _), ?_⟩
      | refine ⟨_, fun tm ha => step1_max rfl (ev_tmp ha rfl) (ev_tmp ha rfl), ?_⟩
      | refine ⟨_, fun tm ha => step1_min rfl (ev_tmp ha rfl) (ev_tmp ha rfl), ?_⟩
      | (refine ⟨fun _ => ?_, fun _ => ?_⟩ <;> first | (exfalso; omega) | skip)
      | fail
    exact ⟨_, loadD (blocks_len p) ga, rfl, rfl, keep_put (k0.trans k9) (by omega) (set_old hsa) na⟩
end Go.Proofs.Ytlpkbcgdcimglaa



/- In how many ways blocks are drawn. -/
namespace Go.Proofs.Ytlpkbcgdcimglaa
open Go.AI
set_option linter.unusedVariables false
set_option linter.unusedSimpArgs false
def sumW (g : Nat → Int) : Nat → Int
  | 0 => 0
  | k + 1 => sumW g k + g k
/-- The ways of the last so many blocks. -/
def waysN (bl : List Int) : Nat → List Int → Int
  | 0, _ => 1
  | f + 1, left => if bl[8 - f]! = 0 then 1 else sumW (fun k => if left[k]! < bl[8 - f]! then 0 else drawnN left[k]! (bl[8 - f]!).toNat * waysN bl f (left.set k 0)) 6
def remS (bl : List Int) : Nat → Nat
  | 0 => 0
  | f + 1 => (bl[8 - f]!).toNat + remS bl f
theorem drawn_9 {n : Int} (h9 : n ≤ 9) : ∀ k : Nat, (k : Int) ≤ n → 1 ≤ drawnN n k ∧ drawnN n k ≤ 9 ^ k
  | 0, _ => by simp [drawnN]
  | k + 1, h => by
    obtain ⟨h1, h2⟩ := drawn_9 h9 k (by omega)
    have e : drawnN n (k + 1) = drawnN n k * (n - k) := rfl
    have a1 : 1 ≤ n - k := by omega
    have a2 : n - k ≤ 9 := by omega
    rw [e, Int.pow_succ]
    refine ⟨?_, Int.mul_le_mul h2 a2 (by omega) (by omega)⟩
    have := Int.mul_le_mul h1 a1 (by omega) (by omega)
    simpa using this
theorem six_nine : ∀ x : Nat, 1 ≤ x → 6 * (9 : Int) ^ x ≤ 54 ^ x
  | 0, h => by omega
  | 1, _ => by decide
  | x + 2, _ => by
    have := six_nine (x + 1) (by omega)
    have h1 : (0 : Int) ≤ 9 ^ (x + 1) := Int.pow_nonneg (by decide)
    rw [show (9 : Int) ^ (x + 2) = 9 ^ (x + 1) * 9 from Int.pow_succ .., show (54 : Int) ^ (x + 2) = 54 ^ (x + 1) * 54 from Int.pow_succ ..]
    omega
theorem sumW_bound {g : Nat → Int} {c : Int} (h : ∀ k, k < 6 → 0 ≤ g k ∧ g k ≤ c) : ∀ k : Nat, k ≤ 6 → 0 ≤ sumW g k ∧ sumW g k ≤ k * c
  | 0, _ => by simp [sumW]
  | k + 1, hk => by
    obtain ⟨h1, h2⟩ := sumW_bound h k (by omega)
    have h3 := h k (by omega)
    have e : sumW g (k + 1) = sumW g k + g k := rfl
    have e2 : ((k + 1 : Nat) : Int) * c = k * c + c := by rw [Int.natCast_add, Int.add_mul]; simp
    omega
theorem AllN.set0 {left : List Int} {k : Nat} (h : AllN (fun x => 0 ≤ x ∧ x ≤ 9) left) : AllN (fun x => 0 ≤ x ∧ x ≤ 9) (left.set k 0) := h.set (by decide)
theorem term_bound {bl left : List Int} {f k : Nat} {w : Int} (hx : 0 ≤ bl[8 - f]!) (hk : 0 ≤ left[k]! ∧ left[k]! ≤ 9) (hw : 0 ≤ w ∧ w ≤ 54 ^ remS bl f) (hle : ¬ left[k]! < bl[8 - f]!) :
    0 ≤ drawnN left[k]! (bl[8 - f]!).toNat * w ∧ drawnN left[k]! (bl[8 - f]!).toNat * w ≤ 9 ^ (bl[8 - f]!).toNat * 54 ^ remS bl f := by
  obtain ⟨d1, d2⟩ := drawn_9 (n := left[k]!) hk.2 (bl[8 - f]!).toNat (by omega)
  exact ⟨Int.mul_nonneg (by omega) hw.1, Int.mul_le_mul d2 hw.2 hw.1 (Int.pow_nonneg (by decide))⟩
theorem ways_bound {bl : List Int} (hbl : bl.length = 9) (hb0 : AllN (fun x => 0 ≤ x ∧ x ≤ 9) bl) : ∀ (f : Nat) (left : List Int), f ≤ 9 → left.length = 6 → AllN (fun x => 0 ≤ x ∧ x ≤ 9) left → 0 ≤ waysN bl f left ∧ waysN bl f left ≤ 54 ^ remS bl f
  | 0, _, _, _, _ => by simp [waysN, remS]
  | f + 1, left, hf, hl, ha => by
    have hx := hb0 (8 - f) (by omega)
    rw [waysN, remS, Int.pow_add]
    have p1 : (1 : Int) ≤ 54 ^ remS bl f := by have : (0 : Int) < 54 ^ remS bl f := Int.pow_pos (by decide); omega
    by_cases h0 : bl[8 - f]! = 0
    · rw [if_pos h0, h0]; simp; omega
    · rw [if_neg h0]
      have h6 := six_nine (bl[8 - f]!).toNat (by omega)
      have hb := sumW_bound (g := fun k => if left[k]! < bl[8 - f]! then 0 else drawnN left[k]! (bl[8 - f]!).toNat * waysN bl f (left.set k 0)) (c := 9 ^ (bl[8 - f]!).toNat * 54 ^ remS bl f) (fun k hk => by
        have hn : (0 : Int) ≤ 9 ^ (bl[8 - f]!).toNat * 54 ^ remS bl f := Int.mul_nonneg (Int.pow_nonneg (by decide)) (by omega)
        by_cases hle : left[k]! < bl[8 - f]!
        · rw [if_pos hle]; omega
        · rw [if_neg hle]
          exact term_bound hx.1 (ha k (by omega)) (ways_bound hbl hb0 f _ (by omega) (by rw [List.length_set]; exact hl) ha.set0) hle) 6 (Nat.le_refl _)
      have := Int.mul_le_mul_of_nonneg_right h6 (show (0 : Int) ≤ 54 ^ remS bl f by omega)
      rw [Int.mul_assoc] at this
      omega
theorem pow54m {k : Nat} (h : k ≤ 9) : (54 : Int) ^ k ≤ 3904305912313344 := by
  have := pow54 k h
  have e : (54 : Int) ^ 9 = 3904305912313344 := by decide
  omega
theorem rem_le {bl : List Int} : ∀ {f g : Nat}, f ≤ g → remS bl f ≤ remS bl g
  | f, 0, h => by have : f = 0 := by omega
                  subst this; exact Nat.le_refl _
  | f, g + 1, h => by
    by_cases e : f = g + 1
    · subst e; exact Nat.le_refl _
    · have := rem_le (bl := bl) (f := f) (g := g) (by omega)
      rw [remS]; omega
abbrev Fv (bb bf : Nat) : Value := .func (.func 113) #[] #[.pointer (some ⟨bb, 0, none⟩), .pointer (some ⟨bf, 0, none⟩)]
abbrev Fc (bb bf : Nat) : AObj := .cells [Fv bb bf] 134 1
theorem agF : isAggB Try.prog 134 = some false := by kernel_rfl
theorem alloc_p {H : Heap} {l : List Int} : anew H (Value.cells (Pv l)).toList 92 1 = H.new (Pc l) := rfl
theorem drawn_int {B : Nat} {H : Heap} {n x : Int} (hB : B ≤ H.n) (h9 : n ≤ 9) (h0 : 0 ≤ x) (hx : x ≤ n) :
    CallB Try.prog B 76 [.int .i64 n, .int .i64 x] H (fun r H' => r = .int .i64 (drawnN n x.toNat) ∧ H' = H) := by
  obtain ⟨k, rfl⟩ := Int.eq_ofNat_of_zero_le h0
  exact drawn_spec hB (by omega) hx (by omega)
set_option maxRecDepth 100000 in
theorem from_spec {bl : List Int} (hbl : bl.length = 9) (hb0 : AllN (fun x => 0 ≤ x ∧ x ≤ 9) bl) (ht : remS bl 9 ≤ 9) : ∀ (f : Nat) {B : Nat} {H : Heap} {left : List Int} {bb bf : Nat}, f ≤ 9 → B ≤ H.n → bb < H.n → bf < H.n → H.get bb = some (Dc bl) → H.get bf = some (Fc bb bf) → left.length = 6 → AllN (fun x => 0 ≤ x ∧ x ≤ 9) left →
    CallB Try.prog B 113 [.int .i64 (9 - f), Pv left, .pointer (some ⟨bb, 0, none⟩), .pointer (some ⟨bf, 0, none⟩)] H (fun r H' => r = .int .i64 (waysN bl f left) ∧ Keep H H') := by
  intro f
  induction f with
  | zero =>
    intro B H left bb bf hf hB hbb hbf hgb hgf hl ha
    refine CV.enter callees false rfl Try.func113 rfl (by kernel_rfl) (Nat.le_of_ble_eq_true rfl) hB ?_
    repeat' first
      | refine CO.cons rfl ?_
      | refine CO.nil ?_
      | refine CV.seq ?_
      | refine CV.region callees ?_
      | refine CV.cond ?_
      | refine CV.block ?_
      | refine CV.skip ?_
      | refine CV.exit ?_
      | refine CV.ret ?_
      | refine CV.scope ?_
      | refine CV.draw callees (by decide +kernel) ?_
      | refine CH.cons rfl ?_
      | refine CH.nil ?_
      | refine CO.consG rfl ?_
      | refine CH.consG rfl ?_
      | refine CG.cons rfl ?_
      | refine CR.cons ?_
      | refine CR.nil ?_
      | refine CG.nil ?_
      | refine CG.consG rfl ?_
      | refine ⟨(rfl : plain _ = true), ?_⟩
      | refine ⟨(rfl : nilOk _ = some _), ?_⟩
      | refine ⟨_, ints_len (by assumption), ?_⟩
      | refine ⟨_, ints_addr (by assumption) (by omega) (by omega), ?_⟩
      | refine ⟨_, ints_load (by assumption) (by omega) (by omega), ?_⟩
      | refine ⟨(⟨by omega, by omega⟩ : inI64 _), ?_⟩
      | refine ⟨_, fun tm ha => step1_max rfl (ev_tmp ha rfl) (ev_tmp ha rfl), ?_⟩
      | refine ⟨_, fun tm ha => step1_min rfl (ev_tmp ha rfl) (ev_tmp ha rfl), ?_⟩
      | (refine ⟨fun _ => ?_, fun _ => ?_⟩ <;> first | (exfalso; omega) | skip)
      | fail
    refine ⟨(by simp only [notTuple]), ?_⟩
    rw [alloc_p]
    have k0 := Keep.new H (Pc left)
    repeat' first
      | refine CO.cons rfl ?_
      | refine CO.nil ?_
      | refine CV.seq ?_
      | refine CV.region callees ?_
      | refine CV.cond ?_
      | refine CV.block ?_
      | refine CV.skip ?_
      | refine CV.exit ?_
      | refine CV.ret ?_
      | refine CV.scope ?_
      | refine CV.draw callees (by decide +kernel) ?_
      | refine CH.cons rfl ?_
      | refine CH.nil ?_
      | refine CO.consG rfl ?_
      | refine CH.consG rfl ?_
      | refine CG.cons rfl ?_
      | refine CR.cons ?_
      | refine CR.nil ?_
      | refine CG.nil ?_
      | refine CG.consG rfl ?_
      | refine ⟨(rfl : plain _ = true), ?_⟩
      | refine ⟨(rfl : nilOk _ = some _), ?_⟩
      | refine ⟨_, ints_len (by assumption), ?_⟩
      | refine ⟨_, ints_addr (by assumption) (by omega) (by omega), ?_⟩
      | refine ⟨_, ints_load (by assumption) (by omega) (by omega), ?_⟩
      | refine ⟨(⟨by omega, by omega⟩ : inI64 _), ?_⟩
      | refine ⟨_, fun tm ha => step1_max rfl (ev_tmp ha rfl) (ev_tmp ha rfl), ?_⟩
      | refine ⟨_, fun tm ha => step1_min rfl (ev_tmp ha rfl) (ev_tmp ha rfl), ?_⟩
      | (refine ⟨fun _ => ?_, fun _ => ?_⟩ <;> first | (exfalso; omega) | skip)
      | fail
    exact ⟨rfl, rfl, k0⟩
  | succ f ih =>
    intro B H left bb bf hf hB hbb hbf hgb hgf hl ha
    refine CV.enter callees false rfl Try.func113 rfl (by kernel_rfl) (Nat.le_of_ble_eq_true rfl) hB ?_
    repeat' first
      | refine CO.cons rfl ?_
      | refine CO.nil ?_
      | refine CV.seq ?_
      | refine CV.region callees ?_
      | refine CV.cond ?_
      | refine CV.block ?_
      | refine CV.skip ?_
      | refine CV.exit ?_
      | refine CV.ret ?_
      | refine CV.scope ?_
      | refine CV.draw callees (by decide +kernel) ?_
      | refine CH.cons rfl ?_
      | refine CH.nil ?_
      | refine CO.consG rfl ?_
      | refine CH.consG rfl ?_
      | refine CG.cons rfl ?_
      | refine CR.cons ?_
      | refine CR.nil ?_
      | refine CG.nil ?_
      | refine CG.consG rfl ?_
      | refine ⟨(rfl : plain _ = true), ?_⟩
      | refine ⟨(rfl : nilOk _ = some _), ?_⟩
      | refine ⟨_, ints_len (by assumption), ?_⟩
      | refine ⟨_, ints_addr (by assumption) (by omega) (by omega), ?_⟩
      | refine ⟨_, ints_load (by assumption) (by omega) (by omega), ?_⟩
      | refine ⟨(⟨by omega, by omega⟩ : inI64 _), ?_⟩
      | refine ⟨_, fun tm ha => step1_max rfl (ev_tmp ha rfl) (ev_tmp ha rfl), ?_⟩
      | refine ⟨_, fun tm ha => step1_min rfl (ev_tmp ha rfl) (ev_tmp ha rfl), ?_⟩
      | (refine ⟨fun _ => ?_, fun _ => ?_⟩ <;> first | (exfalso; omega) | skip)
      | fail
    refine ⟨(by simp only [notTuple]), ?_⟩
    rw [alloc_p]
    generalize hs0 : H.new (Pc left) = H0
    have hg5 := new_get hs0
    have k0 := new_keep hs0
    have n0 := new_n hs0
    obtain ⟨b5, hb5⟩ : ∃ b5, H.n = b5 := ⟨_, rfl⟩
    rw [hb5] at hg5 n0 ⊢
    have hgb0 : H0.get bb = some (Dc bl) := by rw [k0.2 bb (by omega)]; exact hgb
    have hgf0 : H0.get bf = some (Fc bb bf) := by rw [k0.2 bf (by omega)]; exact hgf
    have hi : (9 - ((f + 1 : Nat) : Int)).toNat = 8 - f := by omega
    have hx := hb0 (8 - f) (by omega)
    have hxi : bl[(9 - ((f + 1 : Nat) : Int)).toNat]! = bl[8 - f]! := by rw [hi]
    have hwe : waysN bl (f + 1) left = if bl[8 - f]! = 0 then 1 else sumW (fun k => if left[k]! < bl[8 - f]! then 0 else drawnN left[k]! (bl[8 - f]!).toNat * waysN bl f (left.set k 0)) 6 := rfl
    by_cases h0 : bl[8 - f]! = 0
    · rw [if_pos h0] at hwe
      repeat' first
        | refine CO.cons rfl ?_
        | refine CO.nil ?_
        | refine CV.seq ?_
        | refine CV.region callees ?_
        | refine CV.cond ?_
        | refine CV.block ?_
        | refine CV.skip ?_
        | refine CV.exit ?_
        | refine CV.ret ?_
        | refine CV.scope ?_
        | refine CV.draw callees (by decide +kernel) ?_
        | refine CH.cons rfl ?_
        | refine CH.nil ?_
        | refine CO.consG rfl ?_
        | refine CH.consG rfl ?_
        | refine CG.cons rfl ?_
        | refine CR.cons ?_
        | refine CR.nil ?_
        | refine CG.nil ?_
        | refine CG.consG rfl ?_
        | refine ⟨(rfl : plain _ = true), ?_⟩
        | refine ⟨(rfl : nilOk _ = some _), ?_⟩
        | refine ⟨_, ints_len (by assumption), ?_⟩
        | refine ⟨_, ints_addr (by assumption) (by omega) (by omega), ?_⟩
        | refine ⟨_, ints_load (by assumption) (by omega) (by omega), ?_⟩
        | refine ⟨(⟨by omega, by omega⟩ : inI64 _), ?_⟩
        | refine ⟨_, fun tm ha => step1_max rfl (ev_tmp ha rfl) (ev_tmp ha rfl), ?_⟩
        | refine ⟨_, fun tm ha => step1_min rfl (ev_tmp ha rfl) (ev_tmp ha rfl), ?_⟩
        | (refine ⟨_, addrD (by omega) (by omega), ?_⟩)
        | (refine ⟨_, arr_load hgb0 (by omega), ?_⟩)
        | (refine ⟨fun _ => ?_, fun _ => ?_⟩ <;> first | (exfalso; omega) | skip)
        | fail
      exact ⟨rfl, by rw [hwe], k0⟩
    · rw [if_neg h0] at hwe
      repeat' first
        | refine CO.cons rfl ?_
        | refine CO.nil ?_
        | refine CV.seq ?_
        | refine CV.region callees ?_
        | refine CV.cond ?_
        | refine CV.block ?_
        | refine CV.skip ?_
        | refine CV.exit ?_
        | refine CV.ret ?_
        | refine CV.scope ?_
        | refine CV.draw callees (by decide +kernel) ?_
        | refine CH.cons rfl ?_
        | refine CH.nil ?_
        | refine CO.consG rfl ?_
        | refine CH.consG rfl ?_
        | refine CG.cons rfl ?_
        | refine CR.cons ?_
        | refine CR.nil ?_
        | refine CG.nil ?_
        | refine CG.consG rfl ?_
        | refine ⟨(rfl : plain _ = true), ?_⟩
        | refine ⟨(rfl : nilOk _ = some _), ?_⟩
        | refine ⟨_, ints_len (by assumption), ?_⟩
        | refine ⟨_, ints_addr (by assumption) (by omega) (by omega), ?_⟩
        | refine ⟨_, ints_load (by assumption) (by omega) (by omega), ?_⟩
        | refine ⟨(⟨by omega, by omega⟩ : inI64 _), ?_⟩
        | refine ⟨_, fun tm ha => step1_max rfl (ev_tmp ha rfl) (ev_tmp ha rfl), ?_⟩
        | refine ⟨_, fun tm ha => step1_min rfl (ev_tmp ha rfl) (ev_tmp ha rfl), ?_⟩
        | (refine ⟨_, addrD (by omega) (by omega), ?_⟩)
        | (refine ⟨_, arr_load hgb0 (by omega), ?_⟩)
        | (refine ⟨_, loadP hl hg5, ?_⟩)
        | (refine ⟨fun _ => ?_, fun _ => ?_⟩ <;> first | (exfalso; omega) | skip)
        | fail
      have hw := fun (k : Nat) => ways_bound hbl hb0 f (left.set k 0) (by omega) (by rw [List.length_set]; exact hl) ha.set0
      have hC : 0 ≤ (9 : Int) ^ (bl[8 - f]!).toNat * 54 ^ remS bl f ∧ 6 * ((9 : Int) ^ (bl[8 - f]!).toNat * 54 ^ remS bl f) ≤ 3904305912313344 := by
        have p1 : (0 : Int) ≤ 54 ^ remS bl f := Int.pow_nonneg (by decide)
        have h6 := Int.mul_le_mul_of_nonneg_right (six_nine (bl[8 - f]!).toNat (by omega)) p1
        rw [Int.mul_assoc, ← Int.pow_add] at h6
        have h7 : remS bl (f + 1) ≤ remS bl 9 := rem_le hf
        have h8 : (bl[8 - f]!).toNat + remS bl f = remS bl (f + 1) := rfl
        have h9 := pow54m (k := (bl[8 - f]!).toNat + remS bl f) (by omega)
        exact ⟨Int.mul_nonneg (Int.pow_nonneg (by decide)) p1, by omega⟩
      obtain ⟨g, hg⟩ : ∃ g : Nat → Int, g = fun (k : Nat) => (if left[k]! < bl[8 - f]! then (0 : Int) else drawnN left[k]! (bl[8 - f]!).toNat * waysN bl f (left.set k 0)) := ⟨_, rfl⟩
      rw [← hg] at hwe
      have hg0 : ∀ k : Nat, left[k]! < bl[8 - f]! → g k = 0 := fun k h => by rw [hg]; exact if_pos h
      have hg1 : ∀ k : Nat, ¬ left[k]! < bl[8 - f]! → g k = drawnN left[k]! (bl[8 - f]!).toNat * waysN bl f (left.set k 0) := fun k h => by rw [hg]; exact if_neg h
      have hgb1 : ∀ k : Nat, k < 6 → 0 ≤ g k ∧ g k ≤ 9 ^ (bl[8 - f]!).toNat * 54 ^ remS bl f := fun k hk => by
        by_cases h : left[k]! < bl[8 - f]!
        · rw [hg0 k h]; exact ⟨Int.le_refl _, hC.1⟩
        · rw [hg1 k h]; exact term_bound hx.1 (ha k (by omega)) (hw k) h
      have hsw := sumW_bound hgb1
      generalize (9 : Int) ^ (bl[8 - f]!).toNat * 54 ^ remS bl f = C at hC hgb1 hsw
      clear hg
      refine CV.loopc ?_
      refine WCv.rounds callees false (α := Nat) (fun k => [(0, .int .i64 (9 - ((f + 1 : Nat) : Int))), (2, .pointer (some ⟨bb, 0, none⟩)), (3, .pointer (some ⟨bf, 0, none⟩)), (5, .pointer (some ⟨b5, 0, none⟩)), (7, .int .i64 (sumW g k)), (19, Pv left), (20, .int .i64 k)]) (fun k Hz => k ≤ 6 ∧ Keep H0 Hz) (fun k => 6 - k) (0) (by repeat' first | exact trivial | refine ⟨rfl, ?_⟩ | refine ⟨slot_int (by (try simp only [Int.toNat_natCast]); omega), ?_⟩) ?_ ?_
      · exact ⟨by omega, Keep.refl _⟩
      rintro k Hx ⟨hk, kx⟩ hBx
      have lx := kx.1
      have hgbx : Hx.get bb = some (Dc bl) := by rw [kx.2 bb (by omega)]; exact hgb0
      have hgfx : Hx.get bf = some (Fc bb bf) := by rw [kx.2 bf (by omega)]; exact hgf0
      have hg5x : Hx.get b5 = some (Pc left) := by rw [kx.2 b5 (by omega)]; exact hg5
      by_cases hk2 : k < 6
      · have hxk : left[(k : Int).toNat]! = left[k]! := rfl
        have hak := ha k (by omega)
        have hse : sumW g (k + 1) = sumW g k + g k := rfl
        obtain ⟨q1, q2⟩ := hsw k (by omega)
        obtain ⟨q3, q4⟩ := hsw (k + 1) (by omega)
        have q5 : (k : Int) * C ≤ 6 * C := Int.mul_le_mul_of_nonneg_right (by omega) hC.1
        have q6 : ((k + 1 : Nat) : Int) * C ≤ 6 * C := Int.mul_le_mul_of_nonneg_right (by omega) hC.1
        by_cases hle : left[k]! < bl[8 - f]!
        · have := hg0 k hle
          repeat' first
            | refine CO.cons rfl ?_
            | refine CO.nil ?_
            | refine CV.seq ?_
            | refine CV.region callees ?_
            | refine CV.cond ?_
            | refine CV.block ?_
            | refine CV.skip ?_
            | refine CV.exit ?_
            | refine CV.ret ?_
            | refine CV.scope ?_
            | refine CV.draw callees (by decide +kernel) ?_
            | refine CH.cons rfl ?_
            | refine CH.nil ?_
            | refine CO.consG rfl ?_
            | refine CH.consG rfl ?_
            | refine CG.cons rfl ?_
            | refine CR.cons ?_
            | refine CR.nil ?_
            | refine CG.nil ?_
            | refine CG.consG rfl ?_
            | refine ⟨(rfl : plain _ = true), ?_⟩
            | refine ⟨(rfl : nilOk _ = some _), ?_⟩
            | refine ⟨_, ints_len (by assumption), ?_⟩
            | refine ⟨_, ints_addr (by assumption) (by omega) (by omega), ?_⟩
            | refine ⟨_, ints_load (by assumption) (by omega) (by omega), ?_⟩
            | refine ⟨(⟨by omega, by omega⟩ : inI64 _), ?_⟩
            | refine ⟨_, fun tm ha => step1_max rfl (ev_tmp ha rfl) (ev_tmp ha rfl), ?_⟩
            | refine ⟨_, fun tm ha => step1_min rfl (ev_tmp ha rfl) (ev_tmp ha rfl), ?_⟩
            | (refine ⟨_, indexP hl (by omega) (by omega), ?_⟩)
            | (refine ⟨_, addrD (by omega) (by omega), ?_⟩)
            | (refine ⟨_, arr_load hgbx (by omega), ?_⟩)
            | (refine ⟨fun _ => ?_, fun _ => ?_⟩ <;> first | (exfalso; omega) | skip)
            | fail
          refine ⟨(k + 1), (by repeat' first | exact trivial | refine ⟨rfl, ?_⟩ | refine ⟨slot_int (by (try simp only [Int.toNat_natCast]); omega), ?_⟩), (by (try dsimp only); omega), ?_⟩
          exact ⟨by omega, kx⟩
        · have hgk := hg1 k hle
          have hgkb := hgb1 k hk2
          have q7 : 1 * C ≤ 6 * C := Int.mul_le_mul_of_nonneg_right (by omega) hC.1
          repeat' first
            | refine CO.cons rfl ?_
            | refine CO.nil ?_
            | refine CV.seq ?_
            | refine CV.region callees ?_
            | refine CV.cond ?_
            | refine CV.block ?_
            | refine CV.skip ?_
            | refine CV.exit ?_
            | refine CV.ret ?_
            | refine CV.scope ?_
            | refine CV.draw callees (by decide +kernel) ?_
            | refine CH.cons rfl ?_
            | refine CH.nil ?_
            | refine CO.consG rfl ?_
            | refine CH.consG rfl ?_
            | refine CG.cons rfl ?_
            | refine CR.cons ?_
            | refine CR.nil ?_
            | refine CG.nil ?_
            | refine CG.consG rfl ?_
            | refine ⟨(rfl : plain _ = true), ?_⟩
            | refine ⟨(rfl : nilOk _ = some _), ?_⟩
            | refine ⟨_, ints_len (by assumption), ?_⟩
            | refine ⟨_, ints_addr (by assumption) (by omega) (by omega), ?_⟩
            | refine ⟨_, ints_load (by assumption) (by omega) (by omega), ?_⟩
            | refine ⟨(⟨by omega, by omega⟩ : inI64 _), ?_⟩
            | refine ⟨_, fun tm ha => step1_max rfl (ev_tmp ha rfl) (ev_tmp ha rfl), ?_⟩
            | refine ⟨_, fun tm ha => step1_min rfl (ev_tmp ha rfl) (ev_tmp ha rfl), ?_⟩
            | (refine ⟨_, indexP hl (by omega) (by omega), ?_⟩)
            | (refine ⟨_, addrD (by omega) (by omega), ?_⟩)
            | (refine ⟨_, arr_load hgbx (by omega), ?_⟩)
            | (refine ⟨_, loadP hl hg5x, ?_⟩)
            | (refine ⟨_, _, allocP, ?_⟩)
            | (refine ⟨fun _ => ?_, fun _ => ?_⟩ <;> first | (exfalso; omega) | skip)
            | fail
          generalize hs1 : Hx.new (Pc z6) = H1
          have hg1' := new_get hs1
          have k1 := new_keep hs1
          have n1 := new_n hs1
          obtain ⟨bt, hbt⟩ : ∃ bt, Hx.n = bt := ⟨_, rfl⟩
          rw [hbt] at hg1' n1 ⊢
          refine ⟨_, _, storeP (l := z6) rfl hl hg1', by omega, ?_⟩
          generalize hs2 : Heap.set H1 bt _ = H2
          have g2 : H2.get bt = some (.cells (left.map VI) 92 (0 + 1)) := set_get hs2
          have n2 := set_n hs2
          have o2 := set_old hs2
          repeat' first
            | refine CO.cons rfl ?_
            | refine CO.nil ?_
            | refine CV.seq ?_
            | refine CV.region callees ?_
            | refine CV.cond ?_
            | refine CV.block ?_
            | refine CV.skip ?_
            | refine CV.exit ?_
            | refine CV.ret ?_
            | refine CV.scope ?_
            | refine CV.draw callees (by decide +kernel) ?_
            | refine CH.cons rfl ?_
            | refine CH.nil ?_
            | refine CO.consG rfl ?_
            | refine CH.consG rfl ?_
            | refine CG.cons rfl ?_
            | refine CR.cons ?_
            | refine CR.nil ?_
            | refine CG.nil ?_
            | refine CG.consG rfl ?_
            | refine ⟨(rfl : plain _ = true), ?_⟩
            | refine ⟨(rfl : nilOk _ = some _), ?_⟩
            | refine ⟨_, ints_len (by assumption), ?_⟩
            | refine ⟨_, ints_addr (by assumption) (by omega) (by omega), ?_⟩
            | refine ⟨_, ints_load (by assumption) (by omega) (by omega), ?_⟩
            | refine ⟨(⟨by omega, by omega⟩ : inI64 _), ?_⟩
            | refine ⟨_, fun tm ha => step1_max rfl (ev_tmp ha rfl) (ev_tmp ha rfl), ?_⟩
            | refine ⟨_, fun tm ha => step1_min rfl (ev_tmp ha rfl) (ev_tmp ha rfl), ?_⟩
            | (refine ⟨_, addrP (by omega) (by omega), ?_⟩)
            | (refine ⟨fun _ => ?_, fun _ => ?_⟩ <;> first | (exfalso; omega) | skip)
            | fail
          refine ⟨_, _, arr_put g2 (by omega), by omega, ?_⟩
          generalize hs3 : Heap.set H2 bt _ = H3
          have g3 : H3.get bt = some (Pc (left.set k 0)) := set_get hs3
          have n3 := set_n hs3
          have o3 := set_old hs3
          have kx2 : Keep Hx H2 := keep_put k1 (by omega) o2 n2
          have kx3 : Keep Hx H3 := keep_put kx2 (by omega) o3 n3
          have hgb3 : H3.get bb = some (Dc bl) := by rw [kx3.2 bb (by omega)]; exact hgbx
          have hgf3 : H3.get bf = some (Fc bb bf) := by rw [kx3.2 bf (by omega)]; exact hgfx
          have hg53 : H3.get b5 = some (Pc left) := by rw [kx3.2 b5 (by omega)]; exact hg5x
          have ls : (left.set k 0).length = 6 := by rw [List.length_set]; exact hl
          repeat' first
            | refine CO.cons rfl ?_
            | refine CO.nil ?_
            | refine CV.seq ?_
            | refine CV.region callees ?_
            | refine CV.cond ?_
            | refine CV.block ?_
            | refine CV.skip ?_
            | refine CV.exit ?_
            | refine CV.ret ?_
            | refine CV.scope ?_
            | refine CV.draw callees (by decide +kernel) ?_
            | refine CH.cons rfl ?_
            | refine CH.nil ?_
            | refine CO.consG rfl ?_
            | refine CH.consG rfl ?_
            | refine CG.cons rfl ?_
            | refine CR.cons ?_
            | refine CR.nil ?_
            | refine CG.nil ?_
            | refine CG.consG rfl ?_
            | refine ⟨(rfl : plain _ = true), ?_⟩
            | refine ⟨(rfl : nilOk _ = some _), ?_⟩
            | refine ⟨_, ints_len (by assumption), ?_⟩
            | refine ⟨_, ints_addr (by assumption) (by omega) (by omega), ?_⟩
            | refine ⟨_, ints_load (by assumption) (by omega) (by omega), ?_⟩
            | refine ⟨(⟨by omega, by omega⟩ : inI64 _), ?_⟩
            | refine ⟨_, fun tm ha => step1_max rfl (ev_tmp ha rfl) (ev_tmp ha rfl), ?_⟩
            | refine ⟨_, fun tm ha => step1_min rfl (ev_tmp ha rfl) (ev_tmp ha rfl), ?_⟩
            | refine CV.wide callees (by decide +kernel) [0, 1, 2, 3, 4, 6, 7, 8, 9, 5, 10, 11, 12, 13] (by kernel_rfl) ?_
            | (refine ⟨_, addrD (by omega) (by omega), ?_⟩)
            | (refine ⟨_, arr_load hgb3 (by omega), ?_⟩)
            | (refine ⟨_, cell_load agF hgf3 rfl, ?_⟩)
            | (refine ⟨_, loadP ls g3, ?_⟩)
            | (refine ⟨fun _ => ?_, fun _ => ?_⟩ <;> first | (exfalso; omega) | skip)
            | fail
          refine (drawn_int (Nat.le_refl _) (by omega) (by omega) (by omega)).mono ?_
          rintro r H4 ⟨rfl, rfl⟩
          rw [hxi, hxk]
          repeat' first
            | refine CO.cons rfl ?_
            | refine CO.nil ?_
            | refine CV.seq ?_
            | refine CV.region callees ?_
            | refine CV.cond ?_
            | refine CV.block ?_
            | refine CV.skip ?_
            | refine CV.exit ?_
            | refine CV.ret ?_
            | refine CV.scope ?_
            | refine CV.draw callees (by decide +kernel) ?_
            | refine CH.cons rfl ?_
            | refine CH.nil ?_
            | refine CO.consG rfl ?_
            | refine CH.consG rfl ?_
            | refine CG.cons rfl ?_
            | refine CR.cons ?_
            | refine CR.nil ?_
            | refine CG.nil ?_
            | refine CG.consG rfl ?_
            | refine ⟨(rfl : plain _ = true), ?_⟩
            | refine ⟨(rfl : nilOk _ = some _), ?_⟩
            | refine ⟨_, ints_len (by assumption), ?_⟩
            | refine ⟨_, ints_addr (by assumption) (by omega) (by omega), ?_⟩
            | refine ⟨_, ints_load (by assumption) (by omega) (by omega), ?_⟩
            | refine ⟨(⟨by omega, by omega⟩ : inI64 _), ?_⟩
            | refine ⟨_, fun tm ha => step1_max rfl (ev_tmp ha rfl) (ev_tmp ha rfl), ?_⟩
            | refine ⟨_, fun tm ha => step1_min rfl (ev_tmp ha rfl) (ev_tmp ha rfl), ?_⟩
            | (refine ⟨fun _ => ?_, fun _ => ?_⟩ <;> first | (exfalso; omega) | skip)
            | fail
          have e9 : 9 - ((f + 1 : Nat) : Int) + 1 = 9 - (f : Int) := by omega
          rw [e9]
          refine (ih (by omega) (Nat.le_refl _) (by omega) (by omega) hgb3 hgf3 ls ha.set0).mono ?_
          rintro r H5 ⟨rfl, k5⟩
          have l5 := k5.1
          repeat' first
            | refine CO.cons rfl ?_
            | refine CO.nil ?_
            | refine CV.seq ?_
            | refine CV.region callees ?_
            | refine CV.cond ?_
            | refine CV.block ?_
            | refine CV.skip ?_
            | refine CV.exit ?_
            | refine CV.ret ?_
            | refine CV.scope ?_
            | refine CV.draw callees (by decide +kernel) ?_
            | refine CH.cons rfl ?_
            | refine CH.nil ?_
            | refine CO.consG rfl ?_
            | refine CH.consG rfl ?_
            | refine CG.cons rfl ?_
            | refine CR.cons ?_
            | refine CR.nil ?_
            | refine CG.nil ?_
            | refine CG.consG rfl ?_
            | refine ⟨(rfl : plain _ = true), ?_⟩
            | refine ⟨(rfl : nilOk _ = some _), ?_⟩
            | refine ⟨_, ints_len (by assumption), ?_⟩
            | refine ⟨_, ints_addr (by assumption) (by omega) (by omega), ?_⟩
            | refine ⟨_, ints_load (by assumption) (by omega) (by omega), ?_⟩
            | refine ⟨(⟨by omega, by omega⟩ : inI64 _), ?_⟩
            | refine ⟨_, fun tm ha => step1_max rfl (ev_tmp ha rfl) (ev_tmp ha rfl), ?_⟩
            | refine ⟨_, fun tm ha => step1_min rfl (ev_tmp ha rfl) (ev_tmp ha rfl), ?_⟩
            | (refine ⟨fun _ => ?_, fun _ => ?_⟩ <;> first | (exfalso; omega) | skip)
            | fail
          refine ⟨(k + 1), (by repeat' first | exact trivial | refine ⟨rfl, ?_⟩ | refine ⟨slot_int (by (try simp only [Int.toNat_natCast]); omega), ?_⟩), (by (try dsimp only); omega), ?_⟩
          exact ⟨by omega, kx.trans (kx3.trans k5)⟩
      · have hke : k = 6 := by omega
        subst hke
        repeat' first
          | refine CO.cons rfl ?_
          | refine CO.nil ?_
          | refine CV.seq ?_
          | refine CV.region callees ?_
          | refine CV.cond ?_
          | refine CV.block ?_
          | refine CV.skip ?_
          | refine CV.exit ?_
          | refine CV.ret ?_
          | refine CV.scope ?_
          | refine CV.draw callees (by decide +kernel) ?_
          | refine CH.cons rfl ?_
          | refine CH.nil ?_
          | refine CO.consG rfl ?_
          | refine CH.consG rfl ?_
          | refine CG.cons rfl ?_
          | refine CR.cons ?_
          | refine CR.nil ?_
          | refine CG.nil ?_
          | refine CG.consG rfl ?_
          | refine ⟨(rfl : plain _ = true), ?_⟩
          | refine ⟨(rfl : nilOk _ = some _), ?_⟩
          | refine ⟨_, ints_len (by assumption), ?_⟩
          | refine ⟨_, ints_addr (by assumption) (by omega) (by omega), ?_⟩
          | refine ⟨_, ints_load (by assumption) (by omega) (by omega), ?_⟩
          | refine ⟨(⟨by omega, by omega⟩ : inI64 _), ?_⟩
          | refine ⟨_, fun tm ha => step1_max rfl (ev_tmp ha rfl) (ev_tmp ha rfl), ?_⟩
          | refine ⟨_, fun tm ha => step1_min rfl (ev_tmp ha rfl) (ev_tmp ha rfl), ?_⟩
          | (refine ⟨fun _ => ?_, fun _ => ?_⟩ <;> first | (exfalso; omega) | skip)
          | fail
        exact ⟨rfl, by rw [hwe], k0.trans kx⟩
end Go.Proofs.Ytlpkbcgdcimglaa



/- In how many ways blocks are drawn, by the program. -/
namespace Go.Proofs.Ytlpkbcgdcimglaa
open Go.AI
set_option linter.unusedVariables false
set_option linter.unusedSimpArgs false
abbrev zF : Value := .nilFunc
theorem zeroF : zeroCells Try.prog 134 = some [zF] := by kernel_rfl
theorem szF : sizeB Try.prog 134 = some 1 := by kernel_rfl
theorem allocF {H : Heap} : sAlloc Try.prog H 134 = some (.pointer (some ⟨H.n, 0, none⟩), H.new (.cells [zF] 134 1), H.n) := alloc_of zeroF
theorem alloc_d {H : Heap} {l : List Int} : anew H (Value.cells (Dv l)).toList 96 1 = H.new (Dc l) := rfl
set_option maxRecDepth 100000 in
theorem ways_spec {B : Nat} {H : Heap} {bl left : List Int} (hB : B ≤ H.n) (hbl : bl.length = 9) (hb0 : AllN (fun x => 0 ≤ x ∧ x ≤ 9) bl) (ht : remS bl 9 ≤ 9) (hl : left.length = 6) (ha : AllN (fun x => 0 ≤ x ∧ x ≤ 9) left) :
    CallB Try.prog B 82 [Pv left, Dv bl] H (fun r H' => r = .int .i64 (waysN bl 9 left) ∧ Keep H H') := by
  refine CV.enter callees false rfl Try.func82 rfl (by kernel_rfl) (Nat.le_of_ble_eq_true rfl) hB ?_
  repeat' first
    | refine CO.cons rfl ?_
    | refine CO.nil ?_
    | refine CV.seq ?_
    | refine CV.region callees ?_
    | refine CV.cond ?_
    | refine CV.block ?_
    | refine CV.skip ?_
    | refine CV.exit ?_
    | refine CV.ret ?_
    | refine CV.scope ?_
    | refine CV.draw callees (by decide +kernel) ?_
    | refine CH.cons rfl ?_
    | refine CH.nil ?_
    | refine CO.consG rfl ?_
    | refine CH.consG rfl ?_
    | refine CG.cons rfl ?_
    | refine CR.cons ?_
    | refine CR.nil ?_
    | refine CG.nil ?_
    | refine CG.consG rfl ?_
    | refine ⟨(rfl : plain _ = true), ?_⟩
    | refine ⟨(rfl : nilOk _ = some _), ?_⟩
    | refine ⟨_, ints_len (by assumption), ?_⟩
    | refine ⟨_, ints_addr (by assumption) (by omega) (by omega), ?_⟩
    | refine ⟨_, ints_load (by assumption) (by omega) (by omega), ?_⟩
    | refine ⟨(⟨by omega, by omega⟩ : inI64 _), ?_⟩
    | refine ⟨_, fun tm ha => step1_max rfl (ev_tmp ha rfl) (ev_tmp ha rfl), ?_⟩
    | refine ⟨_, fun tm ha => step1_min rfl (ev_tmp ha rfl) (ev_tmp ha rfl), ?_⟩
    | (refine ⟨fun _ => ?_, fun _ => ?_⟩ <;> first | (exfalso; omega) | skip)
    | fail
  refine ⟨(by simp only [notTuple]), ?_⟩
  rw [alloc_p]
  generalize hs0 : H.new (Pc left) = H0
  have hg2 := new_get hs0
  have k0 := new_keep hs0
  have n0 := new_n hs0
  obtain ⟨b2, hb2⟩ : ∃ b2, H.n = b2 := ⟨_, rfl⟩
  rw [hb2] at hg2 n0 ⊢
  repeat' first
    | refine CO.cons rfl ?_
    | refine CO.nil ?_
    | refine CV.seq ?_
    | refine CV.region callees ?_
    | refine CV.cond ?_
    | refine CV.block ?_
    | refine CV.skip ?_
    | refine CV.exit ?_
    | refine CV.ret ?_
    | refine CV.scope ?_
    | refine CV.draw callees (by decide +kernel) ?_
    | refine CH.cons rfl ?_
    | refine CH.nil ?_
    | refine CO.consG rfl ?_
    | refine CH.consG rfl ?_
    | refine CG.cons rfl ?_
    | refine CR.cons ?_
    | refine CR.nil ?_
    | refine CG.nil ?_
    | refine CG.consG rfl ?_
    | refine ⟨(rfl : plain _ = true), ?_⟩
    | refine ⟨(rfl : nilOk _ = some _), ?_⟩
    | refine ⟨_, ints_len (by assumption), ?_⟩
    | refine ⟨_, ints_addr (by assumption) (by omega) (by omega), ?_⟩
    | refine ⟨_, ints_load (by assumption) (by omega) (by omega), ?_⟩
    | refine ⟨(⟨by omega, by omega⟩ : inI64 _), ?_⟩
    | refine ⟨_, fun tm ha => step1_max rfl (ev_tmp ha rfl) (ev_tmp ha rfl), ?_⟩
    | refine ⟨_, fun tm ha => step1_min rfl (ev_tmp ha rfl) (ev_tmp ha rfl), ?_⟩
    | (refine ⟨fun _ => ?_, fun _ => ?_⟩ <;> first | (exfalso; omega) | skip)
    | fail
  refine ⟨(by simp only [notTuple]), ?_⟩
  rw [alloc_d]
  generalize hs1 : H0.new (Dc bl) = H1
  have hg3 := new_get hs1
  have k1 := new_keep hs1
  have n1 := new_n hs1
  obtain ⟨b3, hb3⟩ : ∃ b3, H0.n = b3 := ⟨_, rfl⟩
  rw [hb3] at hg3 n1 ⊢
  repeat' first
    | refine CO.cons rfl ?_
    | refine CO.nil ?_
    | refine CV.seq ?_
    | refine CV.region callees ?_
    | refine CV.cond ?_
    | refine CV.block ?_
    | refine CV.skip ?_
    | refine CV.exit ?_
    | refine CV.ret ?_
    | refine CV.scope ?_
    | refine CV.draw callees (by decide +kernel) ?_
    | refine CH.cons rfl ?_
    | refine CH.nil ?_
    | refine CO.consG rfl ?_
    | refine CH.consG rfl ?_
    | refine CG.cons rfl ?_
    | refine CR.cons ?_
    | refine CR.nil ?_
    | refine CG.nil ?_
    | refine CG.consG rfl ?_
    | refine ⟨(rfl : plain _ = true), ?_⟩
    | refine ⟨(rfl : nilOk _ = some _), ?_⟩
    | refine ⟨_, ints_len (by assumption), ?_⟩
    | refine ⟨_, ints_addr (by assumption) (by omega) (by omega), ?_⟩
    | refine ⟨_, ints_load (by assumption) (by omega) (by omega), ?_⟩
    | refine ⟨(⟨by omega, by omega⟩ : inI64 _), ?_⟩
    | refine ⟨_, fun tm ha => step1_max rfl (ev_tmp ha rfl) (ev_tmp ha rfl), ?_⟩
    | refine ⟨_, fun tm ha => step1_min rfl (ev_tmp ha rfl) (ev_tmp ha rfl), ?_⟩
    | (refine ⟨_, _, allocF, ?_⟩)
    | (refine ⟨fun _ => ?_, fun _ => ?_⟩ <;> first | (exfalso; omega) | skip)
    | fail
  generalize hs2 : Heap.new H1 _ = H2
  have hg5 := new_get hs2
  have k2 := new_keep hs2
  have n2 := new_n hs2
  obtain ⟨b5, hb5⟩ : ∃ b5, H1.n = b5 := ⟨_, rfl⟩
  rw [hb5] at hg5 n2 ⊢
  repeat' first
    | refine CO.cons rfl ?_
    | refine CO.nil ?_
    | refine CV.seq ?_
    | refine CV.region callees ?_
    | refine CV.cond ?_
    | refine CV.block ?_
    | refine CV.skip ?_
    | refine CV.exit ?_
    | refine CV.ret ?_
    | refine CV.scope ?_
    | refine CV.draw callees (by decide +kernel) ?_
    | refine CH.cons rfl ?_
    | refine CH.nil ?_
    | refine CO.consG rfl ?_
    | refine CH.consG rfl ?_
    | refine CG.cons rfl ?_
    | refine CR.cons ?_
    | refine CR.nil ?_
    | refine CG.nil ?_
    | refine CG.consG rfl ?_
    | refine ⟨(rfl : plain _ = true), ?_⟩
    | refine ⟨(rfl : nilOk _ = some _), ?_⟩
    | refine ⟨_, ints_len (by assumption), ?_⟩
    | refine ⟨_, ints_addr (by assumption) (by omega) (by omega), ?_⟩
    | refine ⟨_, ints_load (by assumption) (by omega) (by omega), ?_⟩
    | refine ⟨(⟨by omega, by omega⟩ : inI64 _), ?_⟩
    | refine ⟨_, fun tm ha => step1_max rfl (ev_tmp ha rfl) (ev_tmp ha rfl), ?_⟩
    | refine ⟨_, fun tm ha => step1_min rfl (ev_tmp ha rfl) (ev_tmp ha rfl), ?_⟩
    | (refine ⟨fun _ => ?_, fun _ => ?_⟩ <;> first | (exfalso; omega) | skip)
    | fail
  refine ⟨(rfl : List.all [] cellLike = true), (rfl : List.all [_, _] cellLike = true), ?_⟩
  repeat' first
    | refine CO.cons rfl ?_
    | refine CO.nil ?_
    | refine CV.seq ?_
    | refine CV.region callees ?_
    | refine CV.cond ?_
    | refine CV.block ?_
    | refine CV.skip ?_
    | refine CV.exit ?_
    | refine CV.ret ?_
    | refine CV.scope ?_
    | refine CV.draw callees (by decide +kernel) ?_
    | refine CH.cons rfl ?_
    | refine CH.nil ?_
    | refine CO.consG rfl ?_
    | refine CH.consG rfl ?_
    | refine CG.cons rfl ?_
    | refine CR.cons ?_
    | refine CR.nil ?_
    | refine CG.nil ?_
    | refine CG.consG rfl ?_
    | refine ⟨(rfl : plain _ = true), ?_⟩
    | refine ⟨(rfl : nilOk _ = some _), ?_⟩
    | refine ⟨_, ints_len (by assumption), ?_⟩
    | refine ⟨_, ints_addr (by assumption) (by omega) (by omega), ?_⟩
    | refine ⟨_, ints_load (by assumption) (by omega) (by omega), ?_⟩
    | refine ⟨(⟨by omega, by omega⟩ : inI64 _), ?_⟩
    | refine ⟨_, fun tm ha => step1_max rfl (ev_tmp ha rfl) (ev_tmp ha rfl), ?_⟩
    | refine ⟨_, fun tm ha => step1_min rfl (ev_tmp ha rfl) (ev_tmp ha rfl), ?_⟩
    | (refine ⟨fun _ => ?_, fun _ => ?_⟩ <;> first | (exfalso; omega) | skip)
    | fail
  refine ⟨_, _, cell_store (i := 0) szF hg5 (show 0 < 1 by decide) rfl, by omega, ?_⟩
  generalize hs3 : Heap.set H2 b5 _ = H3
  have g5 : H3.get b5 = some (Fc b3 b5) := set_get hs3
  have n3 := set_n hs3
  have o3 := set_old hs3
  have k03 : Keep H H3 := keep_put ((k0.trans k1).trans k2) (by omega) o3 n3
  have g2 : H3.get b2 = some (Pc left) := by rw [o3 b2 (by omega), k2.2 b2 (by omega), k1.2 b2 (by omega)]; exact hg2
  have g3 : H3.get b3 = some (Dc bl) := by rw [o3 b3 (by omega), k2.2 b3 (by omega)]; exact hg3
  repeat' first
    | refine CO.cons rfl ?_
    | refine CO.nil ?_
    | refine CV.seq ?_
    | refine CV.region callees ?_
    | refine CV.cond ?_
    | refine CV.block ?_
    | refine CV.skip ?_
    | refine CV.exit ?_
    | refine CV.ret ?_
    | refine CV.scope ?_
    | refine CV.draw callees (by decide +kernel) ?_
    | refine CH.cons rfl ?_
    | refine CH.nil ?_
    | refine CO.consG rfl ?_
    | refine CH.consG rfl ?_
    | refine CG.cons rfl ?_
    | refine CR.cons ?_
    | refine CR.nil ?_
    | refine CG.nil ?_
    | refine CG.consG rfl ?_
    | refine ⟨(rfl : plain _ = true), ?_⟩
    | refine ⟨(rfl : nilOk _ = some _), ?_⟩
    | refine ⟨_, ints_len (by assumption), ?_⟩
    | refine ⟨_, ints_addr (by assumption) (by omega) (by omega), ?_⟩
    | refine ⟨_, ints_load (by assumption) (by omega) (by omega), ?_⟩
    | refine ⟨(⟨by omega, by omega⟩ : inI64 _), ?_⟩
    | refine ⟨_, fun tm ha => step1_max rfl (ev_tmp ha rfl) (ev_tmp ha rfl), ?_⟩
    | refine ⟨_, fun tm ha => step1_min rfl (ev_tmp ha rfl) (ev_tmp ha rfl), ?_⟩
    | (refine ⟨_, cell_load agF g5 rfl, ?_⟩)
    | (refine ⟨_, loadP hl g2, ?_⟩)
    | (refine ⟨fun _ => ?_, fun _ => ?_⟩ <;> first | (exfalso; omega) | skip)
    | fail
  refine (from_spec hbl hb0 ht 9 (by omega) (by omega) (by omega) (by omega) g3 g5 hl ha).mono ?_
  rintro r H4 ⟨rfl, k4⟩
  repeat' first
    | refine CO.cons rfl ?_
    | refine CO.nil ?_
    | refine CV.seq ?_
    | refine CV.region callees ?_
    | refine CV.cond ?_
    | refine CV.block ?_
    | refine CV.skip ?_
    | refine CV.exit ?_
    | refine CV.ret ?_
    | refine CV.scope ?_
    | refine CV.draw callees (by decide +kernel) ?_
    | refine CH.cons rfl ?_
    | refine CH.nil ?_
    | refine CO.consG rfl ?_
    | refine CH.consG rfl ?_
    | refine CG.cons rfl ?_
    | refine CR.cons ?_
    | refine CR.nil ?_
    | refine CG.nil ?_
    | refine CG.consG rfl ?_
    | refine ⟨(rfl : plain _ = true), ?_⟩
    | refine ⟨(rfl : nilOk _ = some _), ?_⟩
    | refine ⟨_, ints_len (by assumption), ?_⟩
    | refine ⟨_, ints_addr (by assumption) (by omega) (by omega), ?_⟩
    | refine ⟨_, ints_load (by assumption) (by omega) (by omega), ?_⟩
    | refine ⟨(⟨by omega, by omega⟩ : inI64 _), ?_⟩
    | refine ⟨_, fun tm ha => step1_max rfl (ev_tmp ha rfl) (ev_tmp ha rfl), ?_⟩
    | refine ⟨_, fun tm ha => step1_min rfl (ev_tmp ha rfl) (ev_tmp ha rfl), ?_⟩
    | (refine ⟨fun _ => ?_, fun _ => ?_⟩ <;> first | (exfalso; omega) | skip)
    | fail
  exact ⟨rfl, rfl, k03.trans k4⟩
end Go.Proofs.Ytlpkbcgdcimglaa



/- The blocks of a partition are together its packets. -/
namespace Go.Proofs.Ytlpkbcgdcimglaa
open Go.AI
set_option linter.unusedVariables false
set_option linter.unusedSimpArgs false
theorem sink_sum : ∀ (j : Nat) (l : List Int), j < l.length → sumL (sink j l) = sumL l
  | 0, _, _ => rfl
  | j + 1, l, hj => by
    rw [sink]
    split
    · rw [sink_sum j _ (by rw [List.length_set, List.length_set]; omega), sumL_set _ _ _ (by rw [List.length_set]; omega), sumL_set _ _ _ hj, get_set (by omega), if_neg (by omega)]
      omega
    · rfl
theorem sort_sum {l : List Int} : ∀ i, i < l.length → sumL (sortN l i) = sumL l
  | 0, _ => rfl
  | i + 1, hi => by rw [sortN, sink_sum _ _ (by rw [sort_len]; exact hi), sort_sum i (by omega)]
theorem hist_sum : ∀ (cs l : List Int), (∀ i, i < cs.length → 0 ≤ cs[i]! ∧ cs[i]! < l.length) → sumL (histL l cs) = sumL l + cs.length
  | [], _, _ => by simp [histL]
  | c :: cs, l, h => by
    have h0 := h 0 (by simp)
    have hc : 0 ≤ c ∧ c < l.length := h0
    rw [histL, hist_sum cs _ (fun i hi => by
      have := h (i + 1) (by simp; omega)
      rw [cons_at hi] at this
      rw [List.length_set]; exact this), sumL_set _ _ _ (by omega), List.length_cons]
    omega
theorem blocks_sum {p : List Int} (h : ∀ i, i < p.length → 0 ≤ p[i]! ∧ p[i]! < 9) : sumL (blocksN p) = p.length := by
  rw [blocksN, sort_sum 8 (by rw [histL_len]; decide), hist_sum p z9 h]
  simp [z9, sumL]
theorem rem_sum {bl : List Int} (hl : bl.length = 9) (hb : AllN (fun x => 0 ≤ x ∧ x ≤ 9) bl) : (remS bl 9 : Int) = sumL bl := by
  obtain ⟨a, b, c, d, e, f, g, h, i, rfl⟩ : ∃ a b c d e f g h i, bl = [a, b, c, d, e, f, g, h, i] := by
    match bl, hl with
    | [a, b, c, d, e, f, g, h, i], _ => exact ⟨a, b, c, d, e, f, g, h, i, rfl⟩
  have h0 : ((a.toNat : Nat) : Int) = a := Int.toNat_of_nonneg (show 0 ≤ a from (hb 0 (by simp)).1)
  have h1 : ((b.toNat : Nat) : Int) = b := Int.toNat_of_nonneg (show 0 ≤ b from (hb 1 (by simp)).1)
  have h2 : ((c.toNat : Nat) : Int) = c := Int.toNat_of_nonneg (show 0 ≤ c from (hb 2 (by simp)).1)
  have h3 : ((d.toNat : Nat) : Int) = d := Int.toNat_of_nonneg (show 0 ≤ d from (hb 3 (by simp)).1)
  have h4 : ((e.toNat : Nat) : Int) = e := Int.toNat_of_nonneg (show 0 ≤ e from (hb 4 (by simp)).1)
  have h5 : ((f.toNat : Nat) : Int) = f := Int.toNat_of_nonneg (show 0 ≤ f from (hb 5 (by simp)).1)
  have h6 : ((g.toNat : Nat) : Int) = g := Int.toNat_of_nonneg (show 0 ≤ g from (hb 6 (by simp)).1)
  have h7 : ((h.toNat : Nat) : Int) = h := Int.toNat_of_nonneg (show 0 ≤ h from (hb 7 (by simp)).1)
  have h8 : ((i.toNat : Nat) : Int) = i := Int.toNat_of_nonneg (show 0 ≤ i from (hb 8 (by simp)).1)
  have er : remS [a, b, c, d, e, f, g, h, i] 9 = a.toNat + (b.toNat + (c.toNat + (d.toNat + (e.toNat + (f.toNat + (g.toNat + (h.toNat + (i.toNat + 0)))))))) := rfl
  have es : sumL [a, b, c, d, e, f, g, h, i] = a + (b + (c + (d + (e + (f + (g + (h + (i + 0)))))))) := rfl
  rw [er, es]
  simp only [Int.natCast_add, h0, h1, h2, h3, h4, h5, h6, h7, h8]
  rfl
end Go.Proofs.Ytlpkbcgdcimglaa

