/- Several texts in one. -/
import Derived.Test.YtcpklnekpdhlmaaW1
import Derived.Test.YtcpklnekpdhlmaaX4
set_option linter.unusedVariables false
set_option linter.unusedSimpArgs false

/- Check, Eq, Of: what they answer. -/
namespace Go.Proofs.Ytcpklnekpdhlmaa
open Go.AI

def checkFrom : List Int → Int → Int
  | [], _ => 0
  | x :: r, b => if x < 0 ∨ 9 ≤ x then 2 else if b < x then 11 else checkFrom r (max b (x + 1))
def check (xs : List Int) : Int := if xs.length = 0 then 6 else if 9 < xs.length then 8 else checkFrom xs 0

theorem eq_step {xs ys : List Int} (hl : xs.length = ys.length) {i : Nat} (hi : i < xs.length) : (xs.drop i = ys.drop i ↔ xs[i]! = ys[i]! ∧ xs.drop (i + 1) = ys.drop (i + 1)) := by
  rw [drop_cons hi, drop_cons (xs := ys) (by omega)]
  simp

set_option maxRecDepth 100000 in
theorem eq_spec {B : Nat} {v u : Value} {H : Heap} {xs ys : List Int} (hB : B ≤ H.n) (hv : Ints H v xs) (hu : Ints H u ys) (hn : xs.length < 1000000) :
    CallB Try.prog B 24 [v, u] H (fun r H' => r = .bool (decide (xs = ys)) ∧ H' = H) := by
  refine vcF_spec callees (wr := false) rfl Try.func24 rfl ok24 (by simp [Try.ntmps24]) hB ?_
  refine ⟨_, ints_len hv, ?_⟩
  refine ⟨_, ints_len hu, ?_⟩
  refine ⟨fun h1 => ?_, fun h1 => ?_⟩
  · refine ⟨rfl, ?_, rfl⟩
    have : xs ≠ ys := by intro h; subst h; exact h1 rfl
    simp [this]
  have hl : xs.length = ys.length := by omega
  refine WCv.loop callees false (α := Int) (fun a => [(0, v), (1, u), (5, .int .i64 a)]) 
    (fun a Hx => Hx = H ∧ 0 ≤ a ∧ a ≤ xs.length ∧ (xs.drop a.toNat = ys.drop a.toNat ↔ xs = ys)) (fun a => xs.length - a.toNat) 0 ?_ ?_ ?_
  · exact ⟨rfl, rfl, rfl, trivial⟩
  · exact ⟨rfl, by simp, by simp, by simp⟩
  rintro i Hx ⟨hHx, hi0, hi1, hc⟩ _
  subst hHx
  refine ⟨_, ints_len hv, ?_⟩
  refine ⟨fun h3 => ?_, fun h3 => ?_⟩
  · rw [eq_step hl (by omega)] at hc
    refine ⟨_, ints_addr hv hi0 h3, ?_⟩
    refine ⟨_, ints_load hv hi0 h3, ?_⟩
    refine ⟨_, ints_addr hu hi0 (by omega), ?_⟩
    refine ⟨_, ints_load hu hi0 (by omega), ?_⟩
    refine ⟨fun h4 => ?_, fun h4 => ?_⟩
    · refine ⟨rfl, ?_, rfl⟩
      have : xs ≠ ys := fun h => h4 (hc.2 h).1
      simp [this]
    refine ⟨⟨by omega, by omega⟩, ?_⟩
    refine ⟨i + 1, ⟨rfl, rfl, rfl, trivial⟩, by show xs.length - (i + 1).toNat < xs.length - i.toNat; omega, rfl, by omega, by omega, ?_⟩
    rw [show (i + 1).toNat = i.toNat + 1 by omega]
    rw [← hc]
    exact ⟨fun h => ⟨by omega, h⟩, fun h => h.2⟩
  · refine ⟨rfl, ?_, rfl⟩
    have : xs = ys := hc.1 (by rw [show xs.drop i.toNat = [] by simp; omega, show ys.drop i.toNat = [] by simp; omega])
    simp [this]
end Go.Proofs.Ytcpklnekpdhlmaa



/- Of: what it answers. -/
namespace Go.Proofs.Ytcpklnekpdhlmaa
open Go.AI

def num : List Int → List Int → List Int
  | [], _ => []
  | x :: r, met => if x ∈ met then (met.idxOf x : Nat) :: num r met else (met.length : Nat) :: num r (met ++ [x])
theorem num_length : ∀ (xs met : List Int), (num xs met).length = xs.length
  | [], _ => rfl
  | x :: r, met => by rw [num]; split <;> simp [num_length r]

abbrev VI : Int → Value := Value.int .i64

end Go.Proofs.Ytcpklnekpdhlmaa



/- Numbers of labels: what follows from how they are given. -/
namespace Go.Proofs.Ytcpklnekpdhlmaa
open Go.AI

/-- The labels that are met in the end. -/
def fin : List Int → List Int → List Int
  | [], met => met
  | x :: r, met => if x ∈ met then fin r met else fin r (met ++ [x])
theorem fin_pre : ∀ (xs met : List Int), ∃ l, fin xs met = met ++ l
  | [], met => ⟨[], by simp [fin]⟩
  | x :: r, met => by
    rw [fin]; split
    · exact fin_pre r met
    · obtain ⟨l, h⟩ := fin_pre r (met ++ [x]); exact ⟨x :: l, by simp [h]⟩
theorem fin_mem : ∀ (xs met : List Int) (x : Int), x ∈ xs → x ∈ fin xs met
  | y :: r, met, x, h => by
    rw [fin]
    rcases List.mem_cons.1 h with rfl | h
    · split
      · rename_i hm; obtain ⟨l, hl⟩ := fin_pre r met; rw [hl]; simp [hm]
      · obtain ⟨l, hl⟩ := fin_pre r (met ++ [x]); rw [hl]; simp
    · split
      · exact fin_mem r met x h
      · exact fin_mem r _ x h
theorem num_idx : ∀ (xs met : List Int), num xs met = xs.map fun x => (((fin xs met).idxOf x : Nat) : Int)
  | [], _ => rfl
  | x :: r, met => by
    rw [num, fin]
    split
    · rename_i hm
      rw [num_idx r met]
      obtain ⟨l, hl⟩ := fin_pre r met
      simp [hl, List.idxOf_append, hm]
    · rename_i hm
      rw [num_idx r (met ++ [x])]
      obtain ⟨l, hl⟩ := fin_pre r (met ++ [x])
      simp [hl, List.idxOf_append, hm]
theorem idx_inj {F : List Int} {x y : Int} (hx : x ∈ F) (hy : y ∈ F) (h : F.idxOf x = F.idxOf y) : x = y := by
  have h1 := List.getElem_idxOf (List.idxOf_lt_length_of_mem hx)
  have h2 := List.getElem_idxOf (List.idxOf_lt_length_of_mem hy)
  rw [← h1, ← h2]; simp only [h]
theorem num_eq {xs : List Int} {i k : Nat} (hi : i < xs.length) (hk : k < xs.length) : (num xs [])[i]! = (num xs [])[k]! ↔ xs[i]! = xs[k]! := by
  have h1 : i < (num xs []).length := by rw [num_length]; exact hi
  have h2 : k < (num xs []).length := by rw [num_length]; exact hk
  rw [getElem!_pos _ i h1, getElem!_pos _ k h2, getElem!_pos _ i hi, getElem!_pos _ k hk]
  simp only [num_idx xs []]
  simp only [List.getElem_map]
  constructor
  · intro h
    exact idx_inj (fin_mem xs [] _ (List.getElem_mem hi)) (fin_mem xs [] _ (List.getElem_mem hk)) (by exact_mod_cast h)
  · intro h; rw [h]
end Go.Proofs.Ytcpklnekpdhlmaa



/- ChartLabels: its function answers true. -/
namespace Go.Proofs.Ytcpklnekpdhlmaa
open Go.AI

end Go.Proofs.Ytcpklnekpdhlmaa



/- checkBoth, Finer, Clone, Ints: what they answer. -/
namespace Go.Proofs.Ytcpklnekpdhlmaa
open Go.AI

theorem ok84 : codeOk Try.f84.ntmps (Try.f84.body.getD .skip) = true := by kernel_rfl
/-- What is alike in one is alike in the other. -/
def Fine (xs ys : List Int) : Prop := ∀ i j : Nat, j < i → i < xs.length → xs[i]! = xs[j]! → ys[i]! = ys[j]!

theorem row_shape {H : Heap} {v : Value} {vs : List Value} (h : Row H v vs) : (v = .slice none 0 0 ∧ vs = []) ∨ ∃ a n c, v = .slice (some a) n c := by
  rcases h with h | ⟨h, _⟩ | ⟨b, i, c, cs, e, k, h, _⟩
  · exact .inl h
  · exact .inr ⟨_, _, _, h⟩
  · exact .inr ⟨_, _, _, h⟩
theorem step1_nilnil {P : Program} {tm : Tm} {H : Heap} {o : Oper} {t u e : TypeId} {x y : Operand} (ht : P.underlying t = some (.slice e)) (ho : o.op = .binOp .eql t x y u) (hx : ev P tm x = some (.slice none 0 0)) (hy : ev P tm y = some (.slice none 0 0)) : step1 P tm H o = some (.bool true, H, H.n) := by
  refine step1_bin ho hx hy rfl rfl (apure_bin ho hx hy rfl rfl (by rfl) ?_ rfl)
  rw [show binOp .eql t (.slice none 0 0) (.slice none 0 0) = (do pure (.bool (← Op.equal t (.slice none 0 0) (.slice none 0 0)))) from rfl, pureRun_bind]
  rw [show pureRun P (Op.equal t (.slice none 0 0) (.slice none 0 0)) = some true by
    unfold Op.equal
    rw [show Op.maxDepth = 9999 + 1 from rfl, Op.equalIn, pureRun_bind, pureRun_underlying ht]
    rfl]
  rfl

set_option maxRecDepth 100000 in
theorem clone_spec {B : Nat} {v : Value} {H : Heap} {xs : List Int} (hB : B ≤ H.n) (hv : Ints H v xs) (hn : xs.length < 1000000) :
    CallB Try.prog B 84 [v] H (fun r H' => Own 3 H' r (xs.map VI) H.n ∧ Keep H H') := by
  refine vcF_spec callees (wr := false) rfl Try.func84 rfl ok84 (by simp [Try.ntmps84]) hB ?_
  rcases row_shape hv with ⟨rfl, h0⟩ | ⟨a, n, c, rfl⟩
  · refine ⟨_, fun tm ha => step1_nilnil un22 rfl (ev_tmp ha rfl) rfl, ?_⟩
    exact ⟨rfl, .inl ⟨rfl, h0⟩, Keep.refl _⟩
  · refine ⟨_, fun tm ha => step1_nil rfl (ev_tmp ha rfl) rfl rfl (by simp [anil, un22]; rfl), ?_⟩
    refine ⟨_, _, build_none un22 one3, ?_⟩
    obtain ⟨r, H', b, h1, h2, h3, h4⟩ := append_copy un22 one3 (by omega) hv (by simpa using hn)
    refine ⟨_, _, _, h1, Nat.le_trans hB h2, ?_⟩
    exact ⟨by simp only [List.all_cons, List.all_nil, h3.notTuple]; rfl, h3, h4⟩
end Go.Proofs.Ytcpklnekpdhlmaa



/- (In other seats: each function's code is of the form that the machine knows.) -/


/- Finer partitions: what follows from lists alone. -/
namespace Go.Proofs.Ytcpklnekpdhlmaa
open Go.AI

def Ker (l : List (Int × Int)) : Prop := ∀ p ∈ l, ∀ q ∈ l, p.1 = q.1 ↔ p.2 = q.2
theorem Ker.sub {l l' : List (Int × Int)} (h : Ker l) (hs : ∀ p ∈ l', p ∈ l) : Ker l' := fun p hp q hq => h p (hs p hp) q (hs q hq)
theorem Fine.all {xs ys : List Int} (h : Fine xs ys) {i j : Nat} (hi : i < xs.length) (hj : j < xs.length) (he : xs[i]! = xs[j]!) : ys[i]! = ys[j]! := by
  rcases Nat.lt_trichotomy i j with hij | hij | hij
  · exact (h j i hij hj he.symm).symm
  · subst hij; rfl
  · exact h i j hij hi he
theorem Fine.refl (xs : List Int) : Fine xs xs := fun _ _ _ _ h => h
theorem Fine.trans {xs ys zs : List Int} (h : Fine xs ys) (hl : xs.length = ys.length) (k : Fine ys zs) : Fine xs zs := fun i j hij hi he => k i j hij (by omega) (h i j hij hi he)
end Go.Proofs.Ytcpklnekpdhlmaa



/- Boxes of numbers, and partitions made of them. -/
namespace Go.Proofs.Ytcpklnekpdhlmaa
open Go.AI
theorem fo74 : fieldOff Try.prog 83 0 = some (0, 1) := by kernel_rfl
theorem sz72 : sizeB Try.prog 81 = some 1 := by kernel_rfl
theorem ag72 : isAggB Try.prog 81 = some false := by kernel_rfl
theorem un72 : Try.prog.underlying 81 = some (.int .u64) := by kernel_rfl

/-- A box: a variable of one word. -/
def Box (b : Nat) (H : Heap) : Prop := b < H.n ∧ ∃ w, H.get b = some (.cells [.int .u64 w] 83 1)
def bp (b : Nat) : Value := .pointer (some ⟨b, 0, none⟩)
theorem box_addr {b : Nat} : afieldAddr Try.prog 83 (bp b) 0 = some (bp b) := field_addr fo74 (by decide)
theorem box_load {b : Nat} {H : Heap} {w : Int} (h : H.get b = some (.cells [.int .u64 w] 83 1)) : aload Try.prog 81 H (bp b) = some (.int .u64 w) := by
  simp only [aload, bp, h, ag72]; rfl
theorem box_store {b : Nat} {H : Heap} {w r : Int} (h : H.get b = some (.cells [.int .u64 w] 83 1)) : astore Try.prog 81 H (.int .u64 r) (bp b) = some (H.set b (.cells [.int .u64 r] 83 1), b) := by
  simp only [astore, bp, h, sz72, Value.cells]; rfl
theorem Box.keepX {b : Nat} {H : Heap} {r : Int} (h : Box b H) : Box b (H.set b (.cells [.int .u64 r] 83 1)) := ⟨h.1, r, Heap.get_set_eq _ _ _⟩
theorem Box.keep {b : Nat} {H H' : Heap} (h : Box b H) (k : Keep H H') : Box b H' := ⟨Nat.lt_of_lt_of_le h.1 k.1, by obtain ⟨w, hw⟩ := h.2; exact ⟨w, by rw [k.2 b h.1]; exact hw⟩⟩
theorem KeepX.set {b : Nat} (H : Heap) (o : AObj) : KeepX b H (H.set b o) := ⟨Nat.le_refl _, fun c _ hc => Heap.get_set_ne _ _ (fun h => hc h.symm)⟩
theorem wrap64 (n : Int) : 0 ≤ IntKind.wrap .u64 n ∧ IntKind.wrap .u64 n < 18446744073709551616 := by
  simp only [IntKind.wrap, IntKind.signed, IntKind.bits]
  simp
  omega
theorem wrapI {n : Int} (h0 : -9223372036854775808 ≤ n) (h1 : n < 9223372036854775808) : IntKind.wrap .i64 n = n := by
  simp only [IntKind.wrap, IntKind.signed, IntKind.bits]
  simp
  split <;> omega
theorem wrapU {n : Int} (h0 : 0 ≤ n) (h1 : n < 18446744073709551616) : IntKind.wrap .u64 n = n := by
  simp only [IntKind.wrap, IntKind.signed, IntKind.bits]
  simp
  omega
theorem fdiv64 {x : Int} (h0 : 0 ≤ x) (h1 : x < 18446744073709551616) : 0 ≤ x.fdiv (2 ^ (min (Int.toNat 1) (IntKind.bits .u64))) ∧ x.fdiv (2 ^ (min (Int.toNat 1) (IntKind.bits .u64))) < 9223372036854775808 := by
  rw [show (2 ^ (min (Int.toNat 1) (IntKind.bits .u64)) : Int) = 2 by decide, Int.fdiv_eq_ediv_of_nonneg _ (by omega)]
  omega

set_option maxRecDepth 100000 in
theorem turn_spec {B b : Nat} {H : Heap} (hB : B ≤ b) (hn : B ≤ H.n) (hb : Box b H) :
    CallB Try.prog B 50 [bp b] H (fun r H' => (∃ x, r = .int .u64 x ∧ 0 ≤ x ∧ x < 18446744073709551616) ∧ Box b H' ∧ KeepX b H H') := by
  refine CV.enter callees true rfl Try.func50 rfl (by kernel_rfl) (Nat.le_of_ble_eq_true rfl) hn ?_
  have hb' := hb
  obtain ⟨hbn, w, hw⟩ := hb
  have hw2 : ∀ r, (H.set b (.cells [.int .u64 r] 83 1)).get b = some (.cells [.int .u64 r] 83 1) := fun r => Heap.get_set_eq _ _ _
  repeat' first
    | refine CO.cons rfl ?_
    | refine CO.nil ?_
    | refine CV.seq ?_
    | refine CV.region callees ?_
    | refine CV.cond ?_
    | refine CV.block ?_
    | refine CV.skip ?_
    | refine CV.exit ?_
    | refine CV.ret ?_
    | refine CV.scope ?_
    | refine CV.draw callees rfl ?_
    | refine CH.cons rfl ?_
    | refine CH.nil ?_
    | refine CO.consG rfl ?_
    | refine CH.consG rfl ?_
    | refine CG.cons rfl ?_
    | refine CR.cons ?_
    | refine CR.nil ?_
    | refine CG.nil ?_
    | refine CG.consG rfl ?_
    | refine ⟨(rfl : plain _ = true), ?_⟩
    | refine ⟨(rfl : nilOk _ = some _), ?_⟩
    | refine ⟨_, ints_len (by assumption), ?_⟩
    | refine ⟨_, ints_addr (by assumption) (by omega) (by omega), ?_⟩
    | refine ⟨_, ints_load (by assumption) (by omega) (by omega), ?_⟩
    | refine ⟨(⟨by omega, by omega⟩ : inI64 _), ?_⟩
    | refine ⟨_, fun tm ha => step1_max rfl (ev_tmp ha rfl) (ev_tmp ha rfl), ?_⟩
    | refine ⟨_, fun tm ha => step1_min rfl (ev_tmp ha rfl) (ev_tmp ha rfl), ?_⟩
    | refine ⟨_, box_addr, ?_⟩
    | refine ⟨_, box_load hw, ?_⟩
    | refine ⟨_, box_load (hw2 _), ?_⟩
    | refine ⟨_, _, box_store hw, hB, ?_⟩
    | intro _ _
    | refine ⟨_, fun tm ha => step1_shr rfl (ev_tmp ha rfl) rfl (by decide), ?_⟩
    | refine ⟨_, fun tm ha => step1_bits (.inl rfl) rfl (ev_tmp ha rfl) (ev_tmp ha rfl) rfl rfl, ?_⟩
    | (refine ⟨fun _ => ?_, fun _ => ?_⟩ <;> first | (exfalso; omega) | skip)
    | fail
  refine ⟨rfl, ⟨_, rfl, (wrap64 _).1, (wrap64 _).2⟩, hb'.keepX, KeepX.set _ _⟩

set_option maxRecDepth 100000 in
theorem up_spec {B b : Nat} {H : Heap} {n : Int} (hB : B ≤ b) (hn : B ≤ H.n) (hb : Box b H) (hn1 : n < 9223372036854775808) :
    CallB Try.prog B 26 [bp b, .int .i64 n] H (fun r H' => (∃ x, r = .int .i64 x ∧ 0 ≤ x ∧ (x < n ∨ x = 0)) ∧ Box b H' ∧ KeepX b H H') := by
  refine CV.enter callees true rfl Try.func26 rfl (by kernel_rfl) (Nat.le_of_ble_eq_true rfl) hn ?_
  repeat' first
    | refine CO.cons rfl ?_
    | refine CO.nil ?_
    | refine CV.seq ?_
    | refine CV.region callees ?_
    | refine CV.cond ?_
    | refine CV.block ?_
    | refine CV.skip ?_
    | refine CV.exit ?_
    | refine CV.ret ?_
    | refine CV.scope ?_
    | refine CV.draw callees rfl ?_
    | refine CH.cons rfl ?_
    | refine CH.nil ?_
    | refine CO.consG rfl ?_
    | refine CH.consG rfl ?_
    | refine CG.cons rfl ?_
    | refine CR.cons ?_
    | refine CR.nil ?_
    | refine CG.nil ?_
    | refine CG.consG rfl ?_
    | refine ⟨(rfl : plain _ = true), ?_⟩
    | refine ⟨(rfl : nilOk _ = some _), ?_⟩
    | refine ⟨_, ints_len (by assumption), ?_⟩
    | refine ⟨_, ints_addr (by assumption) (by omega) (by omega), ?_⟩
    | refine ⟨_, ints_load (by assumption) (by omega) (by omega), ?_⟩
    | refine ⟨(⟨by omega, by omega⟩ : inI64 _), ?_⟩
    | refine ⟨_, fun tm ha => step1_max rfl (ev_tmp ha rfl) (ev_tmp ha rfl), ?_⟩
    | refine ⟨_, fun tm ha => step1_min rfl (ev_tmp ha rfl) (ev_tmp ha rfl), ?_⟩
    | refine ⟨fun _ => ?_, fun _ => ?_⟩
    | (refine ⟨fun _ => ?_, fun _ => ?_⟩ <;> first | (exfalso; omega) | skip)
    | fail
  · exact ⟨rfl, ⟨0, rfl, by omega, .inr rfl⟩, hb, KeepX.refl _ _⟩
  refine (turn_spec hB hn hb).mono ?_
  rintro r H' ⟨⟨x, rfl, h0, h1⟩, hb', hk⟩
  have hm : IntKind.wrap .u64 n = n := wrapU (by omega) (by omega)
  obtain ⟨d0, d1⟩ := fdiv64 h0 h1
  repeat' first
    | refine CO.cons rfl ?_
    | refine CO.nil ?_
    | refine CV.seq ?_
    | refine CV.region callees ?_
    | refine CV.cond ?_
    | refine CV.block ?_
    | refine CV.skip ?_
    | refine CV.exit ?_
    | refine CV.ret ?_
    | refine CV.scope ?_
    | refine CV.draw callees rfl ?_
    | refine CH.cons rfl ?_
    | refine CH.nil ?_
    | refine CO.consG rfl ?_
    | refine CH.consG rfl ?_
    | refine CG.cons rfl ?_
    | refine CR.cons ?_
    | refine CR.nil ?_
    | refine CG.nil ?_
    | refine CG.consG rfl ?_
    | refine ⟨(rfl : plain _ = true), ?_⟩
    | refine ⟨(rfl : nilOk _ = some _), ?_⟩
    | refine ⟨_, ints_len (by assumption), ?_⟩
    | refine ⟨_, ints_addr (by assumption) (by omega) (by omega), ?_⟩
    | refine ⟨_, ints_load (by assumption) (by omega) (by omega), ?_⟩
    | refine ⟨(⟨by omega, by omega⟩ : inI64 _), ?_⟩
    | refine ⟨_, fun tm ha => step1_max rfl (ev_tmp ha rfl) (ev_tmp ha rfl), ?_⟩
    | refine ⟨_, fun tm ha => step1_min rfl (ev_tmp ha rfl) (ev_tmp ha rfl), ?_⟩
    | refine ⟨_, fun tm ha => step1_shr rfl (ev_tmp ha rfl) rfl (by decide), ?_⟩
    | refine ⟨_, fun tm ha => step1_conv un3 un72 rfl (ev_tmp ha rfl), ?_⟩
    | refine ⟨_, fun tm ha => step1_rem rfl (ev_tmp ha rfl) (ev_tmp ha rfl) (by rw [hm]; omega), ?_⟩
    | refine ⟨_, fun tm ha => step1_conv un72 un3 rfl (ev_tmp ha rfl), ?_⟩
    | (refine ⟨fun _ => ?_, fun _ => ?_⟩ <;> first | (exfalso; omega) | skip)
    | fail
  rw [hm]
  generalize x.fdiv (2 ^ (min (Int.toNat 1) (IntKind.bits .u64))) = d at d0 d1
  have e1 := Int.tmod_nonneg (b := n) d0
  have e2 := Int.tmod_lt_of_pos d (b := n) (by omega)
  rw [wrapI (by omega) (by omega)]
  exact ⟨rfl, ⟨_, rfl, e1, .inl e2⟩, hb', hk⟩
set_option maxRecDepth 100000 in
theorem any_spec {B b : Nat} {H : Heap} {l h : Int} (hB : B ≤ b) (hn : B ≤ H.n) (hb : Box b H) (h0 : -1000000 ≤ l) (h1 : l ≤ h) (h2 : h < 1000000) :
    CallB Try.prog B 17 [bp b, .int .i64 l, .int .i64 h] H (fun r H' => (∃ x, r = .int .i64 x ∧ l ≤ x ∧ x ≤ h) ∧ Box b H' ∧ KeepX b H H') := by
  refine CV.enter callees false rfl Try.func17 rfl (by kernel_rfl) (Nat.le_of_ble_eq_true rfl) hn ?_
  repeat' first
    | refine CO.cons rfl ?_
    | refine CO.nil ?_
    | refine CV.seq ?_
    | refine CV.region callees ?_
    | refine CV.cond ?_
    | refine CV.block ?_
    | refine CV.skip ?_
    | refine CV.exit ?_
    | refine CV.ret ?_
    | refine CV.scope ?_
    | refine CV.draw callees rfl ?_
    | refine CH.cons rfl ?_
    | refine CH.nil ?_
    | refine CO.consG rfl ?_
    | refine CH.consG rfl ?_
    | refine CG.cons rfl ?_
    | refine CR.cons ?_
    | refine CR.nil ?_
    | refine CG.nil ?_
    | refine CG.consG rfl ?_
    | refine ⟨(rfl : plain _ = true), ?_⟩
    | refine ⟨(rfl : nilOk _ = some _), ?_⟩
    | refine ⟨_, ints_len (by assumption), ?_⟩
    | refine ⟨_, ints_addr (by assumption) (by omega) (by omega), ?_⟩
    | refine ⟨_, ints_load (by assumption) (by omega) (by omega), ?_⟩
    | refine ⟨(⟨by omega, by omega⟩ : inI64 _), ?_⟩
    | refine ⟨_, fun tm ha => step1_max rfl (ev_tmp ha rfl) (ev_tmp ha rfl), ?_⟩
    | refine ⟨_, fun tm ha => step1_min rfl (ev_tmp ha rfl) (ev_tmp ha rfl), ?_⟩
    | (refine ⟨fun _ => ?_, fun _ => ?_⟩ <;> first | (exfalso; omega) | skip)
    | fail
  refine (up_spec hB hn hb (by omega)).mono ?_
  rintro r H' ⟨⟨x, rfl, h3, h4⟩, hb', hk⟩
  repeat' first
    | refine CO.cons rfl ?_
    | refine CO.nil ?_
    | refine CV.seq ?_
    | refine CV.region callees ?_
    | refine CV.cond ?_
    | refine CV.block ?_
    | refine CV.skip ?_
    | refine CV.exit ?_
    | refine CV.ret ?_
    | refine CV.scope ?_
    | refine CV.draw callees rfl ?_
    | refine CH.cons rfl ?_
    | refine CH.nil ?_
    | refine CO.consG rfl ?_
    | refine CH.consG rfl ?_
    | refine CG.cons rfl ?_
    | refine CR.cons ?_
    | refine CR.nil ?_
    | refine CG.nil ?_
    | refine CG.consG rfl ?_
    | refine ⟨(rfl : plain _ = true), ?_⟩
    | refine ⟨(rfl : nilOk _ = some _), ?_⟩
    | refine ⟨_, ints_len (by assumption), ?_⟩
    | refine ⟨_, ints_addr (by assumption) (by omega) (by omega), ?_⟩
    | refine ⟨_, ints_load (by assumption) (by omega) (by omega), ?_⟩
    | refine ⟨(⟨by omega, by omega⟩ : inI64 _), ?_⟩
    | refine ⟨_, fun tm ha => step1_max rfl (ev_tmp ha rfl) (ev_tmp ha rfl), ?_⟩
    | refine ⟨_, fun tm ha => step1_min rfl (ev_tmp ha rfl) (ev_tmp ha rfl), ?_⟩
    | (refine ⟨fun _ => ?_, fun _ => ?_⟩ <;> first | (exfalso; omega) | skip)
    | fail
  exact ⟨rfl, ⟨_, rfl, by omega, by omega⟩, hb', hk⟩
set_option maxRecDepth 100000 in
theorem one_spec {B b : Nat} {H : Heap} {n : Int} (hB : B ≤ b) (hn : B ≤ H.n) (hb : Box b H) (hn1 : n < 9223372036854775808) :
    CallB Try.prog B 39 [bp b, .int .i64 n] H (fun r H' => (∃ x, r = .bool x) ∧ Box b H' ∧ KeepX b H H') := by
  refine CV.enter callees false rfl Try.func39 rfl (by kernel_rfl) (Nat.le_of_ble_eq_true rfl) hn ?_
  repeat' first
    | refine CO.cons rfl ?_
    | refine CO.nil ?_
    | refine CV.seq ?_
    | refine CV.region callees ?_
    | refine CV.cond ?_
    | refine CV.block ?_
    | refine CV.skip ?_
    | refine CV.exit ?_
    | refine CV.ret ?_
    | refine CV.scope ?_
    | refine CV.draw callees rfl ?_
    | refine CH.cons rfl ?_
    | refine CH.nil ?_
    | refine CO.consG rfl ?_
    | refine CH.consG rfl ?_
    | refine CG.cons rfl ?_
    | refine CR.cons ?_
    | refine CR.nil ?_
    | refine CG.nil ?_
    | refine CG.consG rfl ?_
    | refine ⟨(rfl : plain _ = true), ?_⟩
    | refine ⟨(rfl : nilOk _ = some _), ?_⟩
    | refine ⟨_, ints_len (by assumption), ?_⟩
    | refine ⟨_, ints_addr (by assumption) (by omega) (by omega), ?_⟩
    | refine ⟨_, ints_load (by assumption) (by omega) (by omega), ?_⟩
    | refine ⟨(⟨by omega, by omega⟩ : inI64 _), ?_⟩
    | refine ⟨_, fun tm ha => step1_max rfl (ev_tmp ha rfl) (ev_tmp ha rfl), ?_⟩
    | refine ⟨_, fun tm ha => step1_min rfl (ev_tmp ha rfl) (ev_tmp ha rfl), ?_⟩
    | (refine ⟨fun _ => ?_, fun _ => ?_⟩ <;> first | (exfalso; omega) | skip)
    | fail
  refine (up_spec hB hn hb hn1).mono ?_
  rintro r H' ⟨⟨x, rfl, h3, h4⟩, hb', hk⟩
  repeat' first
    | refine CO.cons rfl ?_
    | refine CO.nil ?_
    | refine CV.seq ?_
    | refine CV.region callees ?_
    | refine CV.cond ?_
    | refine CV.block ?_
    | refine CV.skip ?_
    | refine CV.exit ?_
    | refine CV.ret ?_
    | refine CV.scope ?_
    | refine CV.draw callees rfl ?_
    | refine CH.cons rfl ?_
    | refine CH.nil ?_
    | refine CO.consG rfl ?_
    | refine CH.consG rfl ?_
    | refine CG.cons rfl ?_
    | refine CR.cons ?_
    | refine CR.nil ?_
    | refine CG.nil ?_
    | refine CG.consG rfl ?_
    | refine ⟨(rfl : plain _ = true), ?_⟩
    | refine ⟨(rfl : nilOk _ = some _), ?_⟩
    | refine ⟨_, ints_len (by assumption), ?_⟩
    | refine ⟨_, ints_addr (by assumption) (by omega) (by omega), ?_⟩
    | refine ⟨_, ints_load (by assumption) (by omega) (by omega), ?_⟩
    | refine ⟨(⟨by omega, by omega⟩ : inI64 _), ?_⟩
    | refine ⟨_, fun tm ha => step1_max rfl (ev_tmp ha rfl) (ev_tmp ha rfl), ?_⟩
    | refine ⟨_, fun tm ha => step1_min rfl (ev_tmp ha rfl) (ev_tmp ha rfl), ?_⟩
    | refine ⟨fun _ => ?_, fun _ => ?_⟩
    | (refine ⟨fun _ => ?_, fun _ => ?_⟩ <;> first | (exfalso; omega) | skip)
    | fail
  · exact ⟨rfl, ⟨_, rfl⟩, hb', hk⟩
  · exact ⟨rfl, ⟨_, rfl⟩, hb', hk⟩
end Go.Proofs.Ytcpklnekpdhlmaa



/- Partitions that are made of numbers. -/
namespace Go.Proofs.Ytcpklnekpdhlmaa
open Go.AI

theorem build_box {w : Int} : abuild Try.prog 83 [(0, .int .u64 w)] = some (.agg #[.int .u64 w]) := by kernel_rfl
set_option maxRecDepth 100000 in
theorem boxOf_spec {B : Nat} {H : Heap} {v : Value} {xs : List Int} (hn : B ≤ H.n) (hv : Ints H v xs) (hl : xs.length ≤ 9223372036854775807) :
    CallB Try.prog B 14 [v] H (fun r H' => (∃ b, r = bp b ∧ H.n ≤ b ∧ Box b H') ∧ Keep H H') := by
  refine CV.enter callees false rfl Try.func14 rfl (by kernel_rfl) (Nat.le_of_ble_eq_true rfl) hn ?_
  repeat' first
    | refine CO.cons rfl ?_
    | refine CO.nil ?_
    | refine CV.seq ?_
    | refine CV.region callees ?_
    | refine CV.cond ?_
    | refine CV.block ?_
    | refine CV.skip ?_
    | refine CV.exit ?_
    | refine CV.ret ?_
    | refine CV.scope ?_
    | refine CV.draw callees rfl ?_
    | refine CH.cons rfl ?_
    | refine CH.nil ?_
    | refine CO.consG rfl ?_
    | refine CH.consG rfl ?_
    | refine CG.cons rfl ?_
    | refine CR.cons ?_
    | refine CR.nil ?_
    | refine CG.nil ?_
    | refine CG.consG rfl ?_
    | refine ⟨(rfl : plain _ = true), ?_⟩
    | refine ⟨(rfl : nilOk _ = some _), ?_⟩
    | refine ⟨_, ints_len (by assumption), ?_⟩
    | refine ⟨_, ints_addr (by assumption) (by omega) (by omega), ?_⟩
    | refine ⟨_, ints_load (by assumption) (by omega) (by omega), ?_⟩
    | refine ⟨(⟨by omega, by omega⟩ : inI64 _), ?_⟩
    | refine ⟨_, fun tm ha => step1_max rfl (ev_tmp ha rfl) (ev_tmp ha rfl), ?_⟩
    | refine ⟨_, fun tm ha => step1_min rfl (ev_tmp ha rfl) (ev_tmp ha rfl), ?_⟩
    | refine ⟨_, build_box, ?_⟩
    | refine ⟨(rfl : notTuple _ = true), ?_⟩
    | (refine ⟨fun _ => ?_, fun _ => ?_⟩ <;> first | (exfalso; omega) | skip)
    | fail
  refine CV.loopc ?_
  refine WCv.rounds callees false (α := Int) (fun a => [(0, v), (3, bp H.n), (4, .int .i64 a)]) (fun a Hz => 0 ≤ a ∧ a ≤ xs.length ∧ Box H.n Hz ∧ Keep H Hz) (fun a => xs.length - a.toNat) (0) (by repeat' first | exact trivial | refine ⟨rfl, ?_⟩) ?_ ?_
  · exact ⟨by omega, by omega, ⟨Nat.lt_succ_self _, _, Heap.get_new_eq _ _⟩, Keep.new _ _⟩
  rintro i Hx ⟨h0, h1, hb, hk⟩ hBx
  have hvx : Ints Hx v xs := hv.keep hk
  have hb' := hb
  obtain ⟨hbn, w, hw⟩ := hb
  repeat' first
    | refine CO.cons rfl ?_
    | refine CO.nil ?_
    | refine CV.seq ?_
    | refine CV.region callees ?_
    | refine CV.cond ?_
    | refine CV.block ?_
    | refine CV.skip ?_
    | refine CV.exit ?_
    | refine CV.ret ?_
    | refine CV.scope ?_
    | refine CV.draw callees rfl ?_
    | refine CH.cons rfl ?_
    | refine CH.nil ?_
    | refine CO.consG rfl ?_
    | refine CH.consG rfl ?_
    | refine CG.cons rfl ?_
    | refine CR.cons ?_
    | refine CR.nil ?_
    | refine CG.nil ?_
    | refine CG.consG rfl ?_
    | refine ⟨(rfl : plain _ = true), ?_⟩
    | refine ⟨(rfl : nilOk _ = some _), ?_⟩
    | refine ⟨_, ints_len (by assumption), ?_⟩
    | refine ⟨_, ints_addr (by assumption) (by omega) (by omega), ?_⟩
    | refine ⟨_, ints_load (by assumption) (by omega) (by omega), ?_⟩
    | refine ⟨(⟨by omega, by omega⟩ : inI64 _), ?_⟩
    | refine ⟨_, fun tm ha => step1_max rfl (ev_tmp ha rfl) (ev_tmp ha rfl), ?_⟩
    | refine ⟨_, fun tm ha => step1_min rfl (ev_tmp ha rfl) (ev_tmp ha rfl), ?_⟩
    | refine ⟨_, box_addr, ?_⟩
    | refine ⟨_, box_load hw, ?_⟩
    | refine ⟨_, _, box_store hw, hn, ?_⟩
    | intro _ _
    | refine ⟨_, fun tm ha => step1_conv un3 un72 rfl (ev_tmp ha rfl), ?_⟩
    | refine ⟨_, fun tm ha => step1_bits (.inl rfl) rfl (ev_tmp ha rfl) (ev_tmp ha rfl) rfl rfl, ?_⟩
    | (refine ⟨fun _ => ?_, fun _ => ?_⟩ <;> first | (exfalso; omega) | skip)
    | fail
  · refine (turn_spec hn (by exact hBx) hb'.keepX).mono ?_
    rintro r H' ⟨⟨x, rfl, _, _⟩, hb2, hk2⟩
    repeat' first
      | refine CO.cons rfl ?_
      | refine CO.nil ?_
      | refine CV.seq ?_
      | refine CV.region callees ?_
      | refine CV.cond ?_
      | refine CV.block ?_
      | refine CV.skip ?_
      | refine CV.exit ?_
      | refine CV.ret ?_
      | refine CV.scope ?_
      | refine CV.draw callees rfl ?_
      | refine CH.cons rfl ?_
      | refine CH.nil ?_
      | refine CO.consG rfl ?_
      | refine CH.consG rfl ?_
      | refine CG.cons rfl ?_
      | refine CR.cons ?_
      | refine CR.nil ?_
      | refine CG.nil ?_
      | refine CG.consG rfl ?_
      | refine ⟨(rfl : plain _ = true), ?_⟩
      | refine ⟨(rfl : nilOk _ = some _), ?_⟩
      | refine ⟨_, ints_len (by assumption), ?_⟩
      | refine ⟨_, ints_addr (by assumption) (by omega) (by omega), ?_⟩
      | refine ⟨_, ints_load (by assumption) (by omega) (by omega), ?_⟩
      | refine ⟨(⟨by omega, by omega⟩ : inI64 _), ?_⟩
      | refine ⟨_, fun tm ha => step1_max rfl (ev_tmp ha rfl) (ev_tmp ha rfl), ?_⟩
      | refine ⟨_, fun tm ha => step1_min rfl (ev_tmp ha rfl) (ev_tmp ha rfl), ?_⟩
      | (refine ⟨fun _ => ?_, fun _ => ?_⟩ <;> first | (exfalso; omega) | skip)
      | fail
    refine ⟨(i + 1), (by repeat' first | exact trivial | refine ⟨rfl, ?_⟩), (by (try dsimp only); omega), ?_⟩
    exact ⟨by omega, by omega, hb2, ((KeepX.set _ _).trans hk2).keep hk (Nat.le_refl _)⟩
  · repeat' first
      | refine CO.cons rfl ?_
      | refine CO.nil ?_
      | refine CV.seq ?_
      | refine CV.region callees ?_
      | refine CV.cond ?_
      | refine CV.block ?_
      | refine CV.skip ?_
      | refine CV.exit ?_
      | refine CV.ret ?_
      | refine CV.scope ?_
      | refine CV.draw callees rfl ?_
      | refine CH.cons rfl ?_
      | refine CH.nil ?_
      | refine CO.consG rfl ?_
      | refine CH.consG rfl ?_
      | refine CG.cons rfl ?_
      | refine CR.cons ?_
      | refine CR.nil ?_
      | refine CG.nil ?_
      | refine CG.consG rfl ?_
      | refine ⟨(rfl : plain _ = true), ?_⟩
      | refine ⟨(rfl : nilOk _ = some _), ?_⟩
      | refine ⟨_, ints_len (by assumption), ?_⟩
      | refine ⟨_, ints_addr (by assumption) (by omega) (by omega), ?_⟩
      | refine ⟨_, ints_load (by assumption) (by omega) (by omega), ?_⟩
      | refine ⟨(⟨by omega, by omega⟩ : inI64 _), ?_⟩
      | refine ⟨_, fun tm ha => step1_max rfl (ev_tmp ha rfl) (ev_tmp ha rfl), ?_⟩
      | refine ⟨_, fun tm ha => step1_min rfl (ev_tmp ha rfl) (ev_tmp ha rfl), ?_⟩
      | (refine ⟨fun _ => ?_, fun _ => ?_⟩ <;> first | (exfalso; omega) | skip)
      | fail
    exact ⟨rfl, ⟨_, rfl, Nat.le_refl _, hb'⟩, hk⟩

end Go.Proofs.Ytcpklnekpdhlmaa



/- Partitions that are made of numbers; joins. -/
namespace Go.Proofs.Ytcpklnekpdhlmaa
open Go.AI
theorem Box.keepBut {b : Nat} {x : Value} {H H' : Heap} (h : Box b H) (k : KeepBut x H H') (hx : blkOf x ≠ some b) : Box b H' :=
  ⟨Nat.lt_of_lt_of_le h.1 k.le, by obtain ⟨w, hw⟩ := h.2; exact ⟨w, by rw [k.get b h.1 hx]; exact hw⟩⟩
theorem own_apartBox {b : Nat} {e : TypeId} {H H0 : Heap} {v : Value} {vs : List Value} {B : Nat} (h : Own e H v vs B) (hb : b < B) : blkOf v ≠ some b := fun hc => by have := (h.lt hc).1; omega
theorem own_box {e : TypeId} {H H' : Heap} {b : Nat} {v : Value} {vs : List Value} {B : Nat} (h : Own e H v vs B) (k : KeepX b H H') (hb : Box b H) : Own e H' v vs B := by
  obtain ⟨w, hw⟩ := hb.2; exact h.keepX k hw
theorem row_box {H H' : Heap} {b : Nat} {v : Value} {vs : List Value} (h : Row H v vs) (k : KeepX b H H') (hb : Box b H) : Row H' v vs := by
  obtain ⟨w, hw⟩ := hb.2; exact h.keepX k hw
theorem push_ask {H : Heap} {K : Value → Heap → Prop} {B B0 : Nat} {x : Value} {y : Int} {l : List Int} (hx : Own 3 H x (l.map VI) B0) (hB0 : B0 ≤ H.n) (hB : B ≤ B0) (hn : l.length < 1000000)
    (hk : ∀ r H', Own 3 H' r ((l ++ [y]).map VI) B0 → KeepBut x H H' → (∀ c, blkOf r = some c → H.n ≤ c) → K r H') :
    ∃ v H' b, aappend Try.prog (H.new (.cells [.int .i64 y] 3 2)) #[22, 22] x (.slice (some ⟨H.n, 0, none⟩) 1 0) = some (v, H', b) ∧ B ≤ b ∧ K v H' :=
  append_ask un22 one3 (by omega) hx hB0 hB (by simpa using hn) fun r H' h => hk r H' (by simpa using h)
theorem put_ask {H : Heap} {K : Heap → Prop} {B B0 : Nat} {x : Value} {y : Int} {l : List Int} {i : Nat} (hx : Own 3 H x (l.map VI) B0) (hB : B ≤ B0) (hi : i < l.length)
    (hk : ∀ H', Own 3 H' x ((l.set i y).map VI) B0 → KeepBut x H H' → K H') :
    ∃ H' b, astore Try.prog 3 H (.int .i64 y) (elemAt x i) = some (H', b) ∧ B ≤ b ∧ K H' :=
  store_ask sz3 hx hB (by simpa using hi) rfl fun H' h => hk H' (by rw [List.map_set]; exact h)

end Go.Proofs.Ytcpklnekpdhlmaa



/- Blocks, meets and joins. -/
namespace Go.Proofs.Ytcpklnekpdhlmaa
open Go.AI
end Go.Proofs.Ytcpklnekpdhlmaa



/- Joins; three partitions. -/
namespace Go.Proofs.Ytcpklnekpdhlmaa
open Go.AI
/-- What holds while a list is joined: all pairs before a place have been seen to. -/
structure Joining (xs ys m : List Int) (i j : Int) : Prop where
  len : m.length = xs.length
  fine : Fine xs m
  least : ∀ t, Fine xs t → Fine ys t → Fine m t
  seen : ∀ a b : Nat, b < a → ((a : Int) < i ∨ ((a : Int) = i ∧ (b : Int) < j)) → ys[a]! = ys[b]! → m[a]! = m[b]!
theorem Joining.skip {xs ys m : List Int} {i j : Int} (h : Joining xs ys m i j) (hi : 0 ≤ i) (hj : 0 ≤ j) (hne : ¬ ys[i.toNat]! = ys[j.toNat]!) : Joining xs ys m i (j + 1) :=
  ⟨h.len, h.fine, h.least, fun a b hab hc he => by
    by_cases hb : (a : Int) < i ∨ ((a : Int) = i ∧ (b : Int) < j)
    · exact h.seen a b hab hb he
    · have h1 : a = i.toNat := by omega
      have h2 : b = j.toNat := by omega
      subst h1; subst h2; exact absurd he hne⟩
theorem Joining.next {xs ys m : List Int} {i j : Int} (h : Joining xs ys m i j) (hj : j = i) : Joining xs ys m (i + 1) 0 :=
  ⟨h.len, h.fine, h.least, fun a b hab hc he => h.seen a b hab (by omega) he⟩

end Go.Proofs.Ytcpklnekpdhlmaa



/- Three partitions. -/
namespace Go.Proofs.Ytcpklnekpdhlmaa
open Go.AI
/-- Three partitions of as many packets. -/
structure P3 (H : Heap) (u v w : Value) (n : Nat) (ps qs rs : List Int) : Prop where
  hu : Ints H u ps
  hv : Ints H v qs
  hw : Ints H w rs
  cp : check ps = 0
  cq : check qs = 0
  cr : check rs = 0
  lp : ps.length = n
  lq : qs.length = n
  lr : rs.length = n
  n1 : 1 ≤ n
  n8 : n ≤ 8

end Go.Proofs.Ytcpklnekpdhlmaa

