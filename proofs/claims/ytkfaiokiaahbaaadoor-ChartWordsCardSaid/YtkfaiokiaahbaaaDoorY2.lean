/- Several texts in one. -/
import Derived.Test.YtkfaiokiaahbaaaDoorY1
set_option linter.unusedVariables false
set_option linter.unusedSimpArgs false
/- Check, Eq, Of: what they answer. -/
namespace Go.Proofs.YtkfaiokiaahbaaaDoor
open Go.AI

def checkFrom : List Int → Int → Int
  | [], _ => 0
  | x :: r, b => if x < 0 ∨ 9 ≤ x then 2 else if b < x then 11 else checkFrom r (max b (x + 1))
def check (xs : List Int) : Int := if xs.length = 0 then 6 else if 9 < xs.length then 8 else checkFrom xs 0

set_option maxRecDepth 100000 in
theorem check_spec {B : Nat} {v : Value} {H : Heap} {xs : List Int} (hB : B ≤ H.n) (hv : Ints H v xs) :
    CallB Tryd.prog B 28 [v] H (fun r H' => r = .int .i64 (check xs) ∧ H' = H) := by
  refine vcF_spec callees (wr := false) rfl Tryd.func28 rfl ok28 (by simp [Tryd.ntmps28]) hB ?_
  refine ⟨_, ints_len hv, ?_⟩
  refine ⟨fun h1 => ?_, fun h1 => ?_⟩
  · refine ⟨rfl, ?_, rfl⟩
    have : xs.length = 0 := by simpa using h1
    simp [check, this]
  refine ⟨_, ints_len hv, ?_⟩
  refine ⟨fun h2 => ?_, fun h2 => ?_⟩
  · refine ⟨rfl, ?_, rfl⟩
    have h3 : ¬ xs.length = 0 := by omega
    have h4 : 9 < xs.length := by omega
    simp [check, h3, h4]
  refine ⟨_, ints_len hv, ?_⟩
  have h1' : ¬ xs.length = 0 := by omega
  have h2' : ¬ 9 < xs.length := by omega
  refine WCv.loop callees false (α := Int × Int) (fun a => [(12, v), (13, .int .i64 xs.length), (14, .int .i64 a.1), (3, .int .i64 a.2)]) 
    (fun a Hx => Hx = H ∧ 0 ≤ a.1 ∧ a.1 ≤ xs.length ∧ 0 ≤ a.2 ∧ a.2 ≤ 9 ∧ checkFrom (xs.drop a.1.toNat) a.2 = check xs) (fun a => xs.length - a.1.toNat) (0, 0) ?_ ?_ ?_
  · exact ⟨rfl, rfl, rfl, rfl, trivial⟩
  · exact ⟨rfl, by simp, by simp, by simp, by simp, by simp [check, h1', h2']⟩
  rintro ⟨i, b⟩ Hx ⟨hHx, hi0, hi1, hb0, hb1, hc⟩ _
  subst hHx
  simp only at hi0 hi1 hb0 hb1 hc
  refine ⟨fun h3 => ?_, fun h3 => ?_⟩
  · refine ⟨_, ints_addr hv hi0 h3, ?_⟩
    refine ⟨_, ints_load hv hi0 h3, ?_⟩
    rw [drop_cons (xs := xs) (n := i.toNat) (by omega)] at hc
    generalize xs[i.toNat]! = x at hc ⊢
    rw [checkFrom] at hc
    refine ⟨fun h4 => ?_, fun h4 => ?_⟩
    · refine ⟨rfl, ?_, rfl⟩
      rw [← hc, if_pos (.inl h4)]
    refine ⟨fun h5 => ?_, fun h5 => ?_⟩
    · refine ⟨rfl, ?_, rfl⟩
      rw [← hc, if_pos (.inr h5)]
    rw [if_neg (by omega)] at hc
    refine ⟨fun h6 => ?_, fun h6 => ?_⟩
    · refine ⟨rfl, ?_, rfl⟩
      rw [← hc, if_pos h6]
    rw [if_neg (by omega)] at hc
    refine ⟨⟨by omega, by omega⟩, ?_⟩
    refine ⟨_, fun tm ha => step1_max rfl (ev_tmp ha rfl) (ev_tmp ha rfl), ?_⟩
    refine ⟨⟨by omega, by omega⟩, ?_⟩
    refine ⟨(i + 1, max b (x + 1)), ⟨rfl, rfl, rfl, rfl, trivial⟩, by simp; omega, rfl, by simp; omega, by simp; omega, by simp; omega, by simp; omega, ?_⟩
    simp only
    rw [show (i + 1).toNat = i.toNat + 1 by omega]
    exact hc
  · refine ⟨rfl, ?_, rfl⟩
    rw [← hc, show xs.drop i.toNat = [] by simp; omega]
    rfl

theorem eq_step {xs ys : List Int} (hl : xs.length = ys.length) {i : Nat} (hi : i < xs.length) : (xs.drop i = ys.drop i ↔ xs[i]! = ys[i]! ∧ xs.drop (i + 1) = ys.drop (i + 1)) := by
  rw [drop_cons hi, drop_cons (xs := ys) (by omega)]
  simp

set_option maxRecDepth 100000 in
theorem eq_spec {B : Nat} {v u : Value} {H : Heap} {xs ys : List Int} (hB : B ≤ H.n) (hv : Ints H v xs) (hu : Ints H u ys) (hn : xs.length < 1000000) :
    CallB Tryd.prog B 30 [v, u] H (fun r H' => r = .bool (decide (xs = ys)) ∧ H' = H) := by
  refine vcF_spec callees (wr := false) rfl Tryd.func30 rfl ok30 (by simp [Tryd.ntmps30]) hB ?_
  refine ⟨_, ints_len hv, ?_⟩
  refine ⟨_, ints_len hu, ?_⟩
  refine ⟨fun h1 => ?_, fun h1 => ?_⟩
  · refine ⟨rfl, ?_, rfl⟩
    have : xs ≠ ys := by intro h; subst h; exact h1 rfl
    simp [this]
  have hl : xs.length = ys.length := by omega
  refine WCv.loop callees false (α := Int) (fun a => [(0, v), (1, u), (5, .int .i64 a)]) 
    (fun a Hx => Hx = H ∧ 0 ≤ a ∧ a ≤ xs.length ∧ (xs.drop a.toNat = ys.drop a.toNat ↔ xs = ys)) (fun a => xs.length - a.toNat) 0 ?_ ?_ ?_
  · exact ⟨rfl, rfl, rfl, trivial⟩
  · exact ⟨rfl, by simp, by simp, by simp⟩
  rintro i Hx ⟨hHx, hi0, hi1, hc⟩ _
  subst hHx
  refine ⟨_, ints_len hv, ?_⟩
  refine ⟨fun h3 => ?_, fun h3 => ?_⟩
  · rw [eq_step hl (by omega)] at hc
    refine ⟨_, ints_addr hv hi0 h3, ?_⟩
    refine ⟨_, ints_load hv hi0 h3, ?_⟩
    refine ⟨_, ints_addr hu hi0 (by omega), ?_⟩
    refine ⟨_, ints_load hu hi0 (by omega), ?_⟩
    refine ⟨fun h4 => ?_, fun h4 => ?_⟩
    · refine ⟨rfl, ?_, rfl⟩
      have : xs ≠ ys := fun h => h4 (hc.2 h).1
      simp [this]
    refine ⟨⟨by omega, by omega⟩, ?_⟩
    refine ⟨i + 1, ⟨rfl, rfl, rfl, trivial⟩, by show xs.length - (i + 1).toNat < xs.length - i.toNat; omega, rfl, by omega, by omega, ?_⟩
    rw [show (i + 1).toNat = i.toNat + 1 by omega]
    rw [← hc]
    exact ⟨fun h => ⟨by omega, h⟩, fun h => h.2⟩
  · refine ⟨rfl, ?_, rfl⟩
    have : xs = ys := hc.1 (by rw [show xs.drop i.toNat = [] by simp; omega, show ys.drop i.toNat = [] by simp; omega])
    simp [this]
end Go.Proofs.YtkfaiokiaahbaaaDoor


/- Of: what it answers. -/
namespace Go.Proofs.YtkfaiokiaahbaaaDoor
open Go.AI

def num : List Int → List Int → List Int
  | [], _ => []
  | x :: r, met => if x ∈ met then (met.idxOf x : Nat) :: num r met else (met.length : Nat) :: num r (met ++ [x])
theorem num_length : ∀ (xs met : List Int), (num xs met).length = xs.length
  | [], _ => rfl
  | x :: r, met => by rw [num]; split <;> simp [num_length r]

abbrev VI : Int → Value := Value.int .i64

/-- What Of answers. -/
def OfR (H : Heap) (xs : List Int) (r : Value) (H' : Heap) : Prop :=
  if xs.length = 0 then r = .tuple #[.slice none 0 0, .int .i64 6] else if 9 < xs.length then r = .tuple #[.slice none 0 0, .int .i64 8] else
    ∃ u, r = .tuple #[u, .int .i64 0] ∧ Own 3 H' u ((num xs []).map VI) H.n

end Go.Proofs.YtkfaiokiaahbaaaDoor


/- Numbers of labels: what follows from how they are given. -/
namespace Go.Proofs.YtkfaiokiaahbaaaDoor
open Go.AI

/-- The labels that are met in the end. -/
def fin : List Int → List Int → List Int
  | [], met => met
  | x :: r, met => if x ∈ met then fin r met else fin r (met ++ [x])
theorem fin_pre : ∀ (xs met : List Int), ∃ l, fin xs met = met ++ l
  | [], met => ⟨[], by simp [fin]⟩
  | x :: r, met => by
    rw [fin]; split
    · exact fin_pre r met
    · obtain ⟨l, h⟩ := fin_pre r (met ++ [x]); exact ⟨x :: l, by simp [h]⟩
theorem fin_mem : ∀ (xs met : List Int) (x : Int), x ∈ xs → x ∈ fin xs met
  | y :: r, met, x, h => by
    rw [fin]
    rcases List.mem_cons.1 h with rfl | h
    · split
      · rename_i hm; obtain ⟨l, hl⟩ := fin_pre r met; rw [hl]; simp [hm]
      · obtain ⟨l, hl⟩ := fin_pre r (met ++ [x]); rw [hl]; simp
    · split
      · exact fin_mem r met x h
      · exact fin_mem r _ x h
theorem num_idx : ∀ (xs met : List Int), num xs met = xs.map fun x => (((fin xs met).idxOf x : Nat) : Int)
  | [], _ => rfl
  | x :: r, met => by
    rw [num, fin]
    split
    · rename_i hm
      rw [num_idx r met]
      obtain ⟨l, hl⟩ := fin_pre r met
      simp [hl, List.idxOf_append, hm]
    · rename_i hm
      rw [num_idx r (met ++ [x])]
      obtain ⟨l, hl⟩ := fin_pre r (met ++ [x])
      simp [hl, List.idxOf_append, hm]
theorem idx_inj {F : List Int} {x y : Int} (hx : x ∈ F) (hy : y ∈ F) (h : F.idxOf x = F.idxOf y) : x = y := by
  have h1 := List.getElem_idxOf (List.idxOf_lt_length_of_mem hx)
  have h2 := List.getElem_idxOf (List.idxOf_lt_length_of_mem hy)
  rw [← h1, ← h2]; simp only [h]
theorem num_eq {xs : List Int} {i k : Nat} (hi : i < xs.length) (hk : k < xs.length) : (num xs [])[i]! = (num xs [])[k]! ↔ xs[i]! = xs[k]! := by
  have h1 : i < (num xs []).length := by rw [num_length]; exact hi
  have h2 : k < (num xs []).length := by rw [num_length]; exact hk
  rw [getElem!_pos _ i h1, getElem!_pos _ k h2, getElem!_pos _ i hi, getElem!_pos _ k hk]
  simp only [num_idx xs []]
  simp only [List.getElem_map]
  constructor
  · intro h
    exact idx_inj (fin_mem xs [] _ (List.getElem_mem hi)) (fin_mem xs [] _ (List.getElem_mem hk)) (by exact_mod_cast h)
  · intro h; rw [h]
theorem check_num : ∀ (xs met : List Int), met.length + xs.length ≤ 9 → checkFrom (num xs met) met.length = 0
  | [], _, _ => rfl
  | x :: r, met, h => by
    simp only [List.length_cons] at h
    rw [num]
    split
    · rename_i hx
      have := List.idxOf_lt_length_of_mem hx
      rw [checkFrom, if_neg (by omega), if_neg (by omega), show max (met.length : Int) ((met.idxOf x : Nat) + 1) = met.length by omega]
      exact check_num r met (by omega)
    · rw [checkFrom, if_neg (by omega), if_neg (by omega), show max (met.length : Int) ((met.length : Nat) + 1) = ((met ++ [x]).length : Nat) by simp; omega]
      exact check_num r (met ++ [x]) (by simp; omega)
theorem check_of {xs : List Int} (h0 : ¬ xs.length = 0) (h1 : ¬ 9 < xs.length) : check (num xs []) = 0 := by
  rw [check, num_length, if_neg h0, if_neg h1]
  exact check_num xs [] (by simp; omega)

end Go.Proofs.YtkfaiokiaahbaaaDoor


/- ChartLabels: its function answers true. -/
namespace Go.Proofs.YtkfaiokiaahbaaaDoor
open Go.AI

end Go.Proofs.YtkfaiokiaahbaaaDoor


/- checkBoth, Finer, Clone, Ints: what they answer. -/
namespace Go.Proofs.YtkfaiokiaahbaaaDoor
open Go.AI

theorem ok92 : codeOk Tryd.f92.ntmps (Tryd.f92.body.getD .skip) = true := by kernel_rfl
theorem check_len {xs : List Int} (h : check xs = 0) : 0 < xs.length ∧ xs.length ≤ 9 := by
  unfold check at h
  split at h
  · cases h
  · split at h
    · cases h
    · omega
/-- What is alike in one is alike in the other. -/
def Fine (xs ys : List Int) : Prop := ∀ i j : Nat, j < i → i < xs.length → xs[i]! = xs[j]! → ys[i]! = ys[j]!

theorem row_shape {H : Heap} {v : Value} {vs : List Value} (h : Row H v vs) : (v = .slice none 0 0 ∧ vs = []) ∨ ∃ a n c, v = .slice (some a) n c := by
  rcases h with h | ⟨h, _⟩ | ⟨b, i, c, cs, e, k, h, _⟩
  · exact .inl h
  · exact .inr ⟨_, _, _, h⟩
  · exact .inr ⟨_, _, _, h⟩
theorem step1_nilnil {P : Program} {tm : Tm} {H : Heap} {o : Oper} {t u e : TypeId} {x y : Operand} (ht : P.underlying t = some (.slice e)) (ho : o.op = .binOp .eql t x y u) (hx : ev P tm x = some (.slice none 0 0)) (hy : ev P tm y = some (.slice none 0 0)) : step1 P tm H o = some (.bool true, H, H.n) := by
  refine step1_bin ho hx hy rfl rfl (apure_bin ho hx hy rfl rfl (by rfl) ?_ rfl)
  rw [show binOp .eql t (.slice none 0 0) (.slice none 0 0) = (do pure (.bool (← Op.equal t (.slice none 0 0) (.slice none 0 0)))) from rfl, pureRun_bind]
  rw [show pureRun P (Op.equal t (.slice none 0 0) (.slice none 0 0)) = some true by
    unfold Op.equal
    rw [show Op.maxDepth = 9999 + 1 from rfl, Op.equalIn, pureRun_bind, pureRun_underlying ht]
    rfl]
  rfl

set_option maxRecDepth 100000 in
theorem clone_spec {B : Nat} {v : Value} {H : Heap} {xs : List Int} (hB : B ≤ H.n) (hv : Ints H v xs) (hn : xs.length < 1000000) :
    CallB Tryd.prog B 92 [v] H (fun r H' => Own 3 H' r (xs.map VI) H.n ∧ Keep H H') := by
  refine vcF_spec callees (wr := false) rfl Tryd.func92 rfl ok92 (by simp [Tryd.ntmps92]) hB ?_
  rcases row_shape hv with ⟨rfl, h0⟩ | ⟨a, n, c, rfl⟩
  · refine ⟨_, fun tm ha => step1_nilnil un22 rfl (ev_tmp ha rfl) rfl, ?_⟩
    exact ⟨rfl, .inl ⟨rfl, h0⟩, Keep.refl _⟩
  · refine ⟨_, fun tm ha => step1_nil rfl (ev_tmp ha rfl) rfl rfl (by simp [anil, un22]; rfl), ?_⟩
    refine ⟨_, _, build_none un22 one3, ?_⟩
    obtain ⟨r, H', b, h1, h2, h3, h4⟩ := append_copy un22 one3 (by omega) hv (by simpa using hn)
    refine ⟨_, _, _, h1, Nat.le_trans hB h2, ?_⟩
    exact ⟨by simp only [List.all_cons, List.all_nil, h3.notTuple]; rfl, h3, h4⟩
end Go.Proofs.YtkfaiokiaahbaaaDoor


/- Finer partitions: what follows from lists alone. -/
namespace Go.Proofs.YtkfaiokiaahbaaaDoor
open Go.AI

def Ker (l : List (Int × Int)) : Prop := ∀ p ∈ l, ∀ q ∈ l, p.1 = q.1 ↔ p.2 = q.2
theorem Ker.sub {l l' : List (Int × Int)} (h : Ker l) (hs : ∀ p ∈ l', p ∈ l) : Ker l' := fun p hp q hq => h p (hs p hp) q (hs q hq)
theorem Fine.all {xs ys : List Int} (h : Fine xs ys) {i j : Nat} (hi : i < xs.length) (hj : j < xs.length) (he : xs[i]! = xs[j]!) : ys[i]! = ys[j]! := by
  rcases Nat.lt_trichotomy i j with hij | hij | hij
  · exact (h j i hij hj he.symm).symm
  · subst hij; rfl
  · exact h i j hij hi he
theorem Fine.refl (xs : List Int) : Fine xs xs := fun _ _ _ _ h => h
theorem Fine.trans {xs ys zs : List Int} (h : Fine xs ys) (hl : xs.length = ys.length) (k : Fine ys zs) : Fine xs zs := fun i j hij hi he => k i j hij (by omega) (h i j hij hi he)
theorem check_from {xs : List Int} (h : check xs = 0) : checkFrom xs 0 = 0 ∧ 0 < xs.length ∧ xs.length ≤ 9 := by
  unfold check at h
  split at h
  · cases h
  · split at h
    · cases h
    · exact ⟨h, by omega, by omega⟩
/-- How many blocks there are. -/
def blkFrom : List Int → Int → Int
  | [], n => n
  | x :: r, n => blkFrom r (max n (x + 1))
end Go.Proofs.YtkfaiokiaahbaaaDoor

