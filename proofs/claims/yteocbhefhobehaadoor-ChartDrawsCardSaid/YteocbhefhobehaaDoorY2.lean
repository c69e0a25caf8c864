/- Several texts in one. -/
import Derived.Test.YteocbhefhobehaaDoorY1
set_option linter.unusedVariables false
set_option linter.unusedSimpArgs false
/- Check, Eq, Of: what they answer. -/
namespace Go.Proofs.YteocbhefhobehaaDoor
open Go.AI

def checkFrom : List Int → Int → Int
  | [], _ => 0
  | x :: r, b => if x < 0 ∨ 9 ≤ x then 2 else if b < x then 11 else checkFrom r (max b (x + 1))
def check (xs : List Int) : Int := if xs.length = 0 then 6 else if 9 < xs.length then 8 else checkFrom xs 0

set_option maxRecDepth 100000 in
theorem check_spec {B : Nat} {v : Value} {H : Heap} {xs : List Int} (hB : B ≤ H.n) (hv : Ints H v xs) :
    CallB Tryd.prog B 28 [v] H (fun r H' => r = .int .i64 (check xs) ∧ H' = H) := by
  refine vcF_spec callees (wr := false) rfl Tryd.func28 rfl ok28 (by simp [Tryd.ntmps28]) hB ?_
  refine ⟨_, ints_len hv, ?_⟩
  refine ⟨fun h1 => ?_, fun h1 => ?_⟩
  · refine ⟨rfl, ?_, rfl⟩
    have : xs.length = 0 := by simpa using h1
    simp [check, this]
  refine ⟨_, ints_len hv, ?_⟩
  refine ⟨fun h2 => ?_, fun h2 => ?_⟩
  · refine ⟨rfl, ?_, rfl⟩
    have h3 : ¬ xs.length = 0 := by omega
    have h4 : 9 < xs.length := by omega
    simp [check, h3, h4]
  refine ⟨_, ints_len hv, ?_⟩
  have h1' : ¬ xs.length = 0 := by omega
  have h2' : ¬ 9 < xs.length := by omega
  refine WCv.loop callees false (α := Int × Int) (fun a => [(12, v), (13, .int .i64 xs.length), (14, .int .i64 a.1), (3, .int .i64 a.2)]) 
    (fun a Hx => Hx = H ∧ 0 ≤ a.1 ∧ a.1 ≤ xs.length ∧ 0 ≤ a.2 ∧ a.2 ≤ 9 ∧ checkFrom (xs.drop a.1.toNat) a.2 = check xs) (fun a => xs.length - a.1.toNat) (0, 0) ?_ ?_ ?_
  · exact ⟨rfl, rfl, rfl, rfl, trivial⟩
  · exact ⟨rfl, by simp, by simp, by simp, by simp, by simp [check, h1', h2']⟩
  rintro ⟨i, b⟩ Hx ⟨hHx, hi0, hi1, hb0, hb1, hc⟩ _
  subst hHx
  simp only at hi0 hi1 hb0 hb1 hc
  refine ⟨fun h3 => ?_, fun h3 => ?_⟩
  · refine ⟨_, ints_addr hv hi0 h3, ?_⟩
    refine ⟨_, ints_load hv hi0 h3, ?_⟩
    rw [drop_cons (xs := xs) (n := i.toNat) (by omega)] at hc
    generalize xs[i.toNat]! = x at hc ⊢
    rw [checkFrom] at hc
    refine ⟨fun h4 => ?_, fun h4 => ?_⟩
    · refine ⟨rfl, ?_, rfl⟩
      rw [← hc, if_pos (.inl h4)]
    refine ⟨fun h5 => ?_, fun h5 => ?_⟩
    · refine ⟨rfl, ?_, rfl⟩
      rw [← hc, if_pos (.inr h5)]
    rw [if_neg (by omega)] at hc
    refine ⟨fun h6 => ?_, fun h6 => ?_⟩
    · refine ⟨rfl, ?_, rfl⟩
      rw [← hc, if_pos h6]
    rw [if_neg (by omega)] at hc
    refine ⟨⟨by omega, by omega⟩, ?_⟩
    refine ⟨_, fun tm ha => step1_max rfl (ev_tmp ha rfl) (ev_tmp ha rfl), ?_⟩
    refine ⟨⟨by omega, by omega⟩, ?_⟩
    refine ⟨(i + 1, max b (x + 1)), ⟨rfl, rfl, rfl, rfl, trivial⟩, by simp; omega, rfl, by simp; omega, by simp; omega, by simp; omega, by simp; omega, ?_⟩
    simp only
    rw [show (i + 1).toNat = i.toNat + 1 by omega]
    exact hc
  · refine ⟨rfl, ?_, rfl⟩
    rw [← hc, show xs.drop i.toNat = [] by simp; omega]
    rfl

theorem eq_step {xs ys : List Int} (hl : xs.length = ys.length) {i : Nat} (hi : i < xs.length) : (xs.drop i = ys.drop i ↔ xs[i]! = ys[i]! ∧ xs.drop (i + 1) = ys.drop (i + 1)) := by
  rw [drop_cons hi, drop_cons (xs := ys) (by omega)]
  simp

set_option maxRecDepth 100000 in
theorem eq_spec {B : Nat} {v u : Value} {H : Heap} {xs ys : List Int} (hB : B ≤ H.n) (hv : Ints H v xs) (hu : Ints H u ys) (hn : xs.length < 1000000) :
    CallB Tryd.prog B 30 [v, u] H (fun r H' => r = .bool (decide (xs = ys)) ∧ H' = H) := by
  refine vcF_spec callees (wr := false) rfl Tryd.func30 rfl ok30 (by simp [Tryd.ntmps30]) hB ?_
  refine ⟨_, ints_len hv, ?_⟩
  refine ⟨_, ints_len hu, ?_⟩
  refine ⟨fun h1 => ?_, fun h1 => ?_⟩
  · refine ⟨rfl, ?_, rfl⟩
    have : xs ≠ ys := by intro h; subst h; exact h1 rfl
    simp [this]
  have hl : xs.length = ys.length := by omega
  refine WCv.loop callees false (α := Int) (fun a => [(0, v), (1, u), (5, .int .i64 a)]) 
    (fun a Hx => Hx = H ∧ 0 ≤ a ∧ a ≤ xs.length ∧ (xs.drop a.toNat = ys.drop a.toNat ↔ xs = ys)) (fun a => xs.length - a.toNat) 0 ?_ ?_ ?_
  · exact ⟨rfl, rfl, rfl, trivial⟩
  · exact ⟨rfl, by simp, by simp, by simp⟩
  rintro i Hx ⟨hHx, hi0, hi1, hc⟩ _
  subst hHx
  refine ⟨_, ints_len hv, ?_⟩
  refine ⟨fun h3 => ?_, fun h3 => ?_⟩
  · rw [eq_step hl (by omega)] at hc
    refine ⟨_, ints_addr hv hi0 h3, ?_⟩
    refine ⟨_, ints_load hv hi0 h3, ?_⟩
    refine ⟨_, ints_addr hu hi0 (by omega), ?_⟩
    refine ⟨_, ints_load hu hi0 (by omega), ?_⟩
    refine ⟨fun h4 => ?_, fun h4 => ?_⟩
    · refine ⟨rfl, ?_, rfl⟩
      have : xs ≠ ys := fun h => h4 (hc.2 h).1
      simp [this]
    refine ⟨⟨by omega, by omega⟩, ?_⟩
    refine ⟨i + 1, ⟨rfl, rfl, rfl, trivial⟩, by show xs.length - (i + 1).toNat < xs.length - i.toNat; omega, rfl, by omega, by omega, ?_⟩
    rw [show (i + 1).toNat = i.toNat + 1 by omega]
    rw [← hc]
    exact ⟨fun h => ⟨by omega, h⟩, fun h => h.2⟩
  · refine ⟨rfl, ?_, rfl⟩
    have : xs = ys := hc.1 (by rw [show xs.drop i.toNat = [] by simp; omega, show ys.drop i.toNat = [] by simp; omega])
    simp [this]
end Go.Proofs.YteocbhefhobehaaDoor

/- Of: what it answers. -/
namespace Go.Proofs.YteocbhefhobehaaDoor
open Go.AI

def num : List Int → List Int → List Int
  | [], _ => []
  | x :: r, met => if x ∈ met then (met.idxOf x : Nat) :: num r met else (met.length : Nat) :: num r (met ++ [x])
theorem num_length : ∀ (xs met : List Int), (num xs met).length = xs.length
  | [], _ => rfl
  | x :: r, met => by rw [num]; split <;> simp [num_length r]

abbrev VI : Int → Value := Value.int .i64

theorem set_next {out : List Int} {x z : Int} {m : Nat} (hm : 0 < m) {i : Nat} (hi : out.length = i) : (out.map VI ++ List.replicate m (VI z)).set i (VI x) = (out ++ [x]).map VI ++ List.replicate (m - 1) (VI z) := by
  obtain ⟨m, rfl⟩ : ∃ k, m = k + 1 := ⟨m - 1, by omega⟩
  subst hi
  rw [List.set_append_right _ _ (by simp)]
  simp [List.replicate_succ]

set_option maxRecDepth 100000 in
theorem numbered_spec {B : Nat} {v : Value} {H : Heap} {xs : List Int} (hB : B ≤ H.n) (hv : Ints H v xs) (hn : xs.length ≤ 1000) :
    CallB Tryd.prog B 80 [v] H (fun r H' => Own 3 H' r ((num xs []).map VI) H.n ∧ Keep H H') := by
  refine vcF_spec callees (wr := false) rfl Tryd.func80 rfl ok80 (by simp [Tryd.ntmps80]) hB ?_
  have hv1 : Ints (H.new (.map [])) v xs := hv.keep (Keep.new _ _)
  refine ⟨_, ints_len hv1, ?_⟩
  refine ⟨_, _, make_row un22 one3 (by omega) xs.length (by omega), ?_⟩
  have hk2 : Keep H ((H.new (.map [])).new (.cells (List.replicate xs.length (VI 0)) 3 2)) := (Keep.new _ _).trans (Keep.new _ _)
  refine ⟨_, ints_len (hv.keep hk2), ?_⟩
  refine WCv.loop callees false (α := Int × List Int × List Int)
    (fun a => [(13, v), (14, .int .i64 xs.length), (15, .int .i64 a.1), (3, .map (some H.n)), (4, .slice (some ⟨H.n + 1, 0, none⟩) xs.length 0)])
    (fun a Hx => 0 ≤ a.1 ∧ a.1 ≤ xs.length ∧ a.2.2.length = a.1.toNat ∧ a.2.1.length ≤ a.1.toNat ∧ Hx.n = H.n + 2 ∧ Keep H Hx ∧
      Hx.get H.n = some (.map (mapFrom .i64 0 a.2.1)) ∧ Hx.get (H.n + 1) = some (.cells (a.2.2.map VI ++ List.replicate (xs.length - a.1.toNat) (VI 0)) 3 2) ∧
      num xs [] = a.2.2 ++ num (xs.drop a.1.toNat) a.2.1) (fun a => xs.length - a.1.toNat)
    (0, [], []) ?_ ?_ ?_
  · exact ⟨rfl, rfl, rfl, rfl, rfl, trivial⟩
  · refine ⟨by simp, by simp, rfl, by simp, rfl, hk2, ?_, ?_, ?_⟩
    · show ((H.new (.map [])).new (.cells (List.replicate xs.length (VI 0)) 3 2)).get H.n = _
      rw [Heap.get_new_ne _ _ (by show H.n ≠ H.n + 1; omega), Heap.get_new_eq]; rfl
    · show ((H.new (.map [])).new (.cells (List.replicate xs.length (VI 0)) 3 2)).get (H.new (.map [])).n = _
      rw [Heap.get_new_eq]; simp
    · simp
  rintro ⟨i, met, out⟩ Hx ⟨hi0, hi1, hlen, hml, hxn, hk, hmap, hrow, hnum⟩ hBx
  simp only at hi0 hi1 hlen hml hxn hk hmap hrow hnum
  have hvx : Ints Hx v xs := hv.keep hk
  refine ⟨fun h3 => ?_, fun h3 => ?_⟩
  · refine ⟨_, ints_addr hvx hi0 h3, ?_⟩
    refine ⟨_, ints_load hvx hi0 h3, ?_⟩
    rw [drop_cons (xs := xs) (n := i.toNat) (by omega)] at hnum
    generalize xs[i.toNat]! = x at hnum ⊢
    rw [num] at hnum
    have hrl : i.toNat < (out.map VI ++ List.replicate (xs.length - i.toNat) (VI 0)).length := by simp; omega
    by_cases hx : x ∈ met
    · rw [if_pos hx] at hnum
      refine ⟨_, (lookup_from un102 un3 one3 hmap x).trans (congrArg some (if_pos hx)), ?_⟩
      refine ⟨_, addr_row un22 sz3 hi0 h3, ?_⟩
      refine ⟨_, _, store_row sz3 hrow hrl rfl, by omega, ?_⟩
      refine ⟨⟨by omega, by omega⟩, ?_⟩
      refine ⟨(i + 1, met, out ++ [((met.idxOf x : Nat) : Int)]), ⟨rfl, rfl, rfl, rfl, rfl, trivial⟩, ?_, ?_, ?_, ?_, ?_, hxn, hk.set _ (by omega), ?_, ?_, ?_⟩
      · show xs.length - (i + 1).toNat < xs.length - i.toNat; omega
      · show 0 ≤ i + 1; omega
      · show i + 1 ≤ xs.length; omega
      · show (out ++ [_]).length = (i + 1).toNat; simp; omega
      · show met.length ≤ (i + 1).toNat; omega
      · show (Hx.set _ _).get H.n = _; rw [Heap.get_set_ne _ _ (by omega)]; exact hmap
      · show (Hx.set _ _).get (H.n + 1) = _; rw [Heap.get_set_eq, set_next (by omega) hlen, show (i + 1).toNat = i.toNat + 1 by omega, Nat.sub_sub]
      · show _ = (out ++ [_]) ++ num (xs.drop (i + 1).toNat) met
        rw [hnum, show (i + 1).toNat = i.toNat + 1 by omega]; simp
    · rw [if_neg hx] at hnum
      refine ⟨_, (lookup_from un102 un3 one3 hmap x).trans (congrArg some (if_neg hx)), ?_⟩
      refine ⟨_, len_from un102 hmap, ?_⟩
      refine ⟨_, _, update_from un102 un3 hmap hx, by omega, ?_⟩
      refine ⟨_, addr_row un22 sz3 hi0 h3, ?_⟩
      refine ⟨_, _, store_row sz3 (by rw [Heap.get_set_ne _ _ (by omega)]; exact hrow) hrl rfl, by omega, ?_⟩
      refine ⟨⟨by omega, by omega⟩, ?_⟩
      refine ⟨(i + 1, met ++ [x], out ++ [((met.length : Nat) : Int)]), ⟨rfl, rfl, rfl, rfl, rfl, trivial⟩, ?_, ?_, ?_, ?_, ?_, hxn, (hk.set _ (by omega)).set _ (by omega), ?_, ?_, ?_⟩
      · show xs.length - (i + 1).toNat < xs.length - i.toNat; omega
      · show 0 ≤ i + 1; omega
      · show i + 1 ≤ xs.length; omega
      · show (out ++ [_]).length = (i + 1).toNat; simp; omega
      · show (met ++ [x]).length ≤ (i + 1).toNat; simp; omega
      · show ((Hx.set _ _).set _ _).get H.n = _; rw [Heap.get_set_ne _ _ (by omega), Heap.get_set_eq]
      · show ((Hx.set _ _).set _ _).get (H.n + 1) = _; rw [Heap.get_set_eq, set_next (by omega) hlen, show (i + 1).toNat = i.toNat + 1 by omega, Nat.sub_sub]
      · show _ = (out ++ [_]) ++ num (xs.drop (i + 1).toNat) (met ++ [x])
        rw [hnum, show (i + 1).toNat = i.toNat + 1 by omega]; simp
  · have hi : i.toNat = xs.length := by omega
    rw [show xs.drop i.toNat = [] by simp; omega, num, List.append_nil] at hnum
    refine ⟨rfl, Or.inr ⟨H.n + 1, ?_, by omega, by omega, ?_⟩, hk⟩
    · rw [hnum, List.length_map, hlen, hi]
    · rw [hrow, hnum]; simp [hi]

/-- What Of answers. -/
def OfR (H : Heap) (xs : List Int) (r : Value) (H' : Heap) : Prop :=
  if xs.length = 0 then r = .tuple #[.slice none 0 0, .int .i64 6] else if 9 < xs.length then r = .tuple #[.slice none 0 0, .int .i64 8] else
    ∃ u, r = .tuple #[u, .int .i64 0] ∧ Own 3 H' u ((num xs []).map VI) H.n

set_option maxRecDepth 100000 in
theorem of_spec {B : Nat} {v : Value} {H : Heap} {xs : List Int} (hB : B ≤ H.n) (hv : Ints H v xs) :
    CallB Tryd.prog B 26 [v] H (fun r H' => OfR H xs r H' ∧ Keep H H') := by
  refine vcF_spec callees (wr := false) rfl Tryd.func26 rfl ok26 (by simp [Tryd.ntmps26]) hB ?_
  refine ⟨_, ints_len hv, ?_⟩
  refine ⟨fun h1 => ?_, fun h1 => ?_⟩
  · refine ⟨rfl, ?_, Keep.refl _⟩
    rw [OfR, if_pos (by omega)]
  refine ⟨_, ints_len hv, ?_⟩
  refine ⟨fun h2 => ?_, fun h2 => ?_⟩
  · refine ⟨rfl, ?_, Keep.refl _⟩
    rw [OfR, if_neg (by omega), if_pos (by omega)]
  refine (numbered_spec hB hv (by omega)).mono ?_
  rintro r H' ⟨h3, h4⟩
  have hr := h3.notTuple
  refine ⟨by simp only [List.all_cons, List.all_nil, hr]; rfl, ?_, h4⟩
  rw [OfR, if_neg (by omega), if_neg (by omega)]
  exact ⟨r, rfl, h3⟩
set_option maxRecDepth 100000 in
theorem refused_spec {B : Nat} {n : Int} {H : Heap} (hB : B ≤ H.n) :
    CallB Tryd.prog B 75 [.int .i64 n] H (fun r H' => r = .bool (decide (¬ n = 0)) ∧ H' = H) := by
  refine vcF_spec callees (wr := false) rfl Tryd.func75 rfl ok75 (by simp [Tryd.ntmps75]) hB ?_
  refine ⟨fun h1 => ⟨rfl, by simp [h1], rfl⟩, fun h1 => ⟨rfl, by simp [h1], rfl⟩⟩
end Go.Proofs.YteocbhefhobehaaDoor

/- Numbers of labels: what follows from how they are given. -/
namespace Go.Proofs.YteocbhefhobehaaDoor
open Go.AI

/-- The labels that are met in the end. -/
def fin : List Int → List Int → List Int
  | [], met => met
  | x :: r, met => if x ∈ met then fin r met else fin r (met ++ [x])
theorem fin_pre : ∀ (xs met : List Int), ∃ l, fin xs met = met ++ l
  | [], met => ⟨[], by simp [fin]⟩
  | x :: r, met => by
    rw [fin]; split
    · exact fin_pre r met
    · obtain ⟨l, h⟩ := fin_pre r (met ++ [x]); exact ⟨x :: l, by simp [h]⟩
theorem fin_mem : ∀ (xs met : List Int) (x : Int), x ∈ xs → x ∈ fin xs met
  | y :: r, met, x, h => by
    rw [fin]
    rcases List.mem_cons.1 h with rfl | h
    · split
      · rename_i hm; obtain ⟨l, hl⟩ := fin_pre r met; rw [hl]; simp [hm]
      · obtain ⟨l, hl⟩ := fin_pre r (met ++ [x]); rw [hl]; simp
    · split
      · exact fin_mem r met x h
      · exact fin_mem r _ x h
theorem num_idx : ∀ (xs met : List Int), num xs met = xs.map fun x => (((fin xs met).idxOf x : Nat) : Int)
  | [], _ => rfl
  | x :: r, met => by
    rw [num, fin]
    split
    · rename_i hm
      rw [num_idx r met]
      obtain ⟨l, hl⟩ := fin_pre r met
      simp [hl, List.idxOf_append, hm]
    · rename_i hm
      rw [num_idx r (met ++ [x])]
      obtain ⟨l, hl⟩ := fin_pre r (met ++ [x])
      simp [hl, List.idxOf_append, hm]
theorem idx_inj {F : List Int} {x y : Int} (hx : x ∈ F) (hy : y ∈ F) (h : F.idxOf x = F.idxOf y) : x = y := by
  have h1 := List.getElem_idxOf (List.idxOf_lt_length_of_mem hx)
  have h2 := List.getElem_idxOf (List.idxOf_lt_length_of_mem hy)
  rw [← h1, ← h2]; simp only [h]
theorem num_map (f : Int → Int) : ∀ (xs met : List Int), (∀ a b, a ∈ met ++ xs → b ∈ met ++ xs → f a = f b → a = b) → num (xs.map f) (met.map f) = num xs met
  | [], _, _ => rfl
  | x :: r, met, h => by
    have hm : f x ∈ met.map f ↔ x ∈ met := by
      constructor
      · intro hx
        obtain ⟨y, hy, he⟩ := List.mem_map.1 hx
        rw [← h y x (by simp [hy]) (by simp) he]; exact hy
      · exact fun hx => List.mem_map_of_mem hx
    rw [List.map_cons, num, num]
    by_cases hx : x ∈ met
    · rw [if_pos (hm.2 hx), if_pos hx, num_map f r met (fun a b ha hb => h a b (by simp at ha ⊢; rcases ha with h | h <;> simp [h]) (by simp at hb ⊢; rcases hb with h | h <;> simp [h]))]
      congr 2
      have : ∀ (l : List Int), (∀ a b, a ∈ l ++ [x] → b ∈ l ++ [x] → f a = f b → a = b) → (l.map f).idxOf (f x) = l.idxOf x := by
        intro l
        induction l with
        | nil => intro _; rfl
        | cons y l ih =>
          intro hh
          rw [List.map_cons, List.idxOf_cons, List.idxOf_cons]
          by_cases hy : y = x
          · subst hy; simp
          · have : f y ≠ f x := fun he => hy (hh y x (by simp) (by simp) he)
            rw [show (f y == f x) = false by simpa using this, show (y == x) = false by simpa using hy, cond_false, cond_false]
            exact congrArg (· + 1) <| ih fun a b ha hb => hh a b (by simp at ha ⊢; rcases ha with h | h <;> simp [h]) (by simp at hb ⊢; rcases hb with h | h <;> simp [h])
      exact this met fun a b ha hb => h a b (by simp at ha ⊢; rcases ha with h | h <;> simp [h]) (by simp at hb ⊢; rcases hb with h | h <;> simp [h])
    · rw [if_neg (fun hh => hx (hm.1 hh)), if_neg hx, List.length_map]
      have := num_map f r (met ++ [x]) (fun a b ha hb => h a b (by simp at ha ⊢; rcases ha with h | h | h <;> simp [h]) (by simp at hb ⊢; rcases hb with h | h | h <;> simp [h]))
      rw [List.map_append] at this
      rw [show met.map f ++ [f x] = met.map f ++ [x].map f from rfl, this]
theorem num_inj (f : Int → Int) (xs : List Int) (h : ∀ a b, a ∈ xs → b ∈ xs → f a = f b → a = b) : num (xs.map f) [] = num xs [] :=
  num_map f xs [] (by simpa using h)
theorem num_self (xs : List Int) : num (num xs []) [] = num xs [] := by
  rw [num_idx xs []]
  rw [num_inj]
  · rw [← num_idx]
  · intro a b ha hb h
    exact idx_inj (fin_mem xs [] a ha) (fin_mem xs [] b hb) (by exact_mod_cast h)
theorem num_eq {xs : List Int} {i k : Nat} (hi : i < xs.length) (hk : k < xs.length) : (num xs [])[i]! = (num xs [])[k]! ↔ xs[i]! = xs[k]! := by
  have h1 : i < (num xs []).length := by rw [num_length]; exact hi
  have h2 : k < (num xs []).length := by rw [num_length]; exact hk
  rw [getElem!_pos _ i h1, getElem!_pos _ k h2, getElem!_pos _ i hi, getElem!_pos _ k hk]
  simp only [num_idx xs []]
  simp only [List.getElem_map]
  constructor
  · intro h
    exact idx_inj (fin_mem xs [] _ (List.getElem_mem hi)) (fin_mem xs [] _ (List.getElem_mem hk)) (by exact_mod_cast h)
  · intro h; rw [h]
theorem check_num : ∀ (xs met : List Int), met.length + xs.length ≤ 9 → checkFrom (num xs met) met.length = 0
  | [], _, _ => rfl
  | x :: r, met, h => by
    simp only [List.length_cons] at h
    rw [num]
    split
    · rename_i hx
      have := List.idxOf_lt_length_of_mem hx
      rw [checkFrom, if_neg (by omega), if_neg (by omega), show max (met.length : Int) ((met.idxOf x : Nat) + 1) = met.length by omega]
      exact check_num r met (by omega)
    · rw [checkFrom, if_neg (by omega), if_neg (by omega), show max (met.length : Int) ((met.length : Nat) + 1) = ((met ++ [x]).length : Nat) by simp; omega]
      exact check_num r (met ++ [x]) (by simp; omega)
theorem check_of {xs : List Int} (h0 : ¬ xs.length = 0) (h1 : ¬ 9 < xs.length) : check (num xs []) = 0 := by
  rw [check, num_length, if_neg h0, if_neg h1]
  exact check_num xs [] (by simp; omega)

/-- The exclusive or of two ints. -/
def xorI (a b : Int) : Int := IntKind.wrap .i64 ((BitVec.ofInt 64 a ^^^ BitVec.ofInt 64 b).toNat)
theorem wrap_nat_inj {a b : Nat} (ha : a < 2 ^ 64) (hb : b < 2 ^ 64) (h : IntKind.wrap .i64 a = IntKind.wrap .i64 b) : a = b := by
  unfold IntKind.wrap at h
  simp [IntKind.signed, IntKind.bits] at h
  split at h <;> split at h <;> omega
theorem xorI_inj {a b c : Int} (ha : inI64 a) (hb : inI64 b) (h : xorI a c = xorI b c) : a = b := by
  have h1 := wrap_nat_inj (BitVec.isLt _) (BitVec.isLt _) h
  have h2 : BitVec.ofInt 64 a ^^^ BitVec.ofInt 64 c = BitVec.ofInt 64 b ^^^ BitVec.ofInt 64 c := BitVec.eq_of_toNat_eq h1
  have h3 : BitVec.ofInt 64 a = BitVec.ofInt 64 b := by
    have := congrArg (· ^^^ BitVec.ofInt 64 c) h2
    simpa [BitVec.xor_assoc] using this
  have h4 := congrArg BitVec.toInt h3
  rw [BitVec.toInt_ofInt, BitVec.toInt_ofInt] at h4
  obtain ⟨a1, a2⟩ := ha
  obtain ⟨b1, b2⟩ := hb
  rw [Int.bmod_def, Int.bmod_def] at h4
  omega
theorem step1_xor {P : Program} {tm : Tm} {H : Heap} {o : Oper} {t u : TypeId} {x y : Operand} {a b : Int} (ho : o.op = .binOp .xor t x y u) (hx : ev P tm x = some (.int .i64 a)) (hy : ev P tm y = some (.int .i64 b)) : step1 P tm H o = some (.int .i64 (xorI a b), H, H.n) :=
  step1_bits (.inl rfl) ho hx hy rfl rfl
end Go.Proofs.YteocbhefhobehaaDoor

/- ChartLabels: its function answers true. -/
namespace Go.Proofs.YteocbhefhobehaaDoor
open Go.AI

theorem take_next {xs : List Int} {i : Nat} (f : Int → Int) (h : i < xs.length) : (xs.take (i + 1)).map f = (xs.take i).map f ++ [f xs[i]!] := by
  rw [List.take_add_one, List.getElem?_eq_getElem h, getElem!_pos xs i h, List.map_append]; rfl
theorem own_ints {H : Heap} {v : Value} {xs : List Int} {B : Nat} (h : Own 3 H v (xs.map VI) B) : Ints H v xs := h.row

set_option maxRecDepth 100000 in
theorem labels_spec {v : Value} {H : Heap} {xs : List Int} {by' : Int} (hBase : Base H) (hv : Ints H v xs) (hx : ∀ x ∈ xs, inI64 x) :
    CallB Tryd.prog H.n 11 [v, .int .i64 by'] H (fun r _ => r = .bool true) := by
  refine vcF_spec callees (wr := false) rfl Tryd.func11 rfl ok11 (by simp [Tryd.ntmps11]) (Nat.le_refl _) ?_
  refine ⟨_, ints_len hv, ?_⟩
  refine ⟨fun h1 => ?_, fun h1 => ?_⟩
  · refine (of_spec (Nat.le_refl _) hv).mono ?_
    rintro r H1 ⟨hof, hk⟩
    rw [OfR, if_pos (by omega)] at hof
    subst hof
    refine (refused_spec hk.1).mono ?_
    rintro r H2 ⟨rfl, rfl⟩
    refine CallB.known rfl (base_keep hBase hk) hk.1 ?_
    exact ⟨rfl, rfl⟩
  refine ⟨_, ints_len hv, ?_⟩
  refine ⟨fun h2 => ?_, fun h2 => ?_⟩
  · refine (of_spec (Nat.le_refl _) hv).mono ?_
    rintro r H1 ⟨hof, hk⟩
    rw [OfR, if_neg (by omega), if_pos (by omega)] at hof
    subst hof
    refine (refused_spec hk.1).mono ?_
    rintro r H2 ⟨rfl, rfl⟩
    refine CallB.known rfl (base_keep hBase hk) hk.1 ?_
    exact ⟨rfl, rfl⟩
  refine (of_spec (Nat.le_refl _) hv).mono ?_
  rintro r H1 ⟨hof, hk⟩
  rw [OfR, if_neg (by omega), if_neg (by omega)] at hof
  obtain ⟨u, rfl, hu⟩ := hof
  refine ⟨fun h => absurd rfl h, fun _ => ?_⟩
  have hui : Ints H1 u (num xs []) := own_ints hu
  have hvi : Ints H1 v xs := hv.keep hk
  refine ⟨_, ints_len hui, ?_⟩
  refine ⟨_, ints_len hvi, ?_⟩
  refine ⟨fun h => absurd (by rw [num_length]) h, fun _ => ?_⟩
  refine (check_spec hk.1 hui).mono ?_
  rintro r H2 ⟨rfl, rfl⟩
  rw [check_of (by omega) (by omega)]
  refine ⟨fun h => absurd rfl h, fun _ => ?_⟩
  have hpl : (num xs []).length = xs.length := num_length xs []
  refine WCv.loop callees false (α := Int × Value)
    (fun a => [(0, v), (1, .int .i64 by'), (7, u), (9, a.2), (10, .int .i64 a.1)])
    (fun a Hx => 0 ≤ a.1 ∧ a.1 ≤ xs.length ∧ Keep H2 Hx ∧ Own 3 Hx a.2 (((xs.take a.1.toNat).map (xorI · by')).map VI) H2.n) (fun a => xs.length - a.1.toNat) (0, .slice none 0 0) ?_ ?_ ?_
  · exact ⟨rfl, rfl, rfl, rfl, rfl, trivial⟩
  · exact ⟨by simp, by simp, Keep.refl _, .inl ⟨rfl, by simp⟩⟩
  rintro ⟨i, w⟩ Hx ⟨hi0, hi1, hkx, hw⟩ hBx
  simp only at hi0 hi1 hw
  have hux : Ints Hx u (num xs []) := hui.keep hkx
  have hvx : Ints Hx v xs := hvi.keep hkx
  refine ⟨_, ints_len hux, ?_⟩
  refine ⟨fun h3 => ?_, fun h3 => ?_⟩
  · rw [hpl] at h3
    refine WCv.loop callees false (α := Int)
      (fun a => [(0, v), (1, .int .i64 by'), (7, u), (9, w), (10, .int .i64 i), (11, .int .i64 a)])
      (fun a Hy => Hy = Hx ∧ 0 ≤ a ∧ a ≤ i) (fun a => i.toNat - a.toNat) 0 ?_ ?_ ?_
    · exact ⟨rfl, rfl, rfl, rfl, rfl, rfl, trivial⟩
    · exact ⟨rfl, by simp, by simpa using hi0⟩
    rintro k Hy ⟨hHy, hk0, hk1⟩ _
    subst hHy
    refine ⟨fun h4 => ?_, fun h4 => ?_⟩
    · have hne := num_eq (xs := xs) (i := i.toNat) (k := k.toNat) (by omega) (by omega)
      refine ⟨_, ints_addr hvx hi0 h3, _, ints_load hvx hi0 h3, ?_⟩
      refine ⟨_, ints_addr hvx hk0 (by omega), _, ints_load hvx hk0 (by omega), ?_⟩
      refine ⟨fun h5 => ?_, fun h5 => ?_⟩
      · refine ⟨_, ints_addr hux hi0 (by omega), _, ints_load hux hi0 (by omega), ?_⟩
        refine ⟨_, ints_addr hux hk0 (by omega), _, ints_load hux hk0 (by omega), ?_⟩
        refine ⟨fun h6 => ?_, fun h6 => ?_⟩
        · refine ⟨_, fun tm ha => step1_boolNeq un4 rfl (ev_tmp ha rfl) (ev_tmp ha rfl), ?_⟩
          refine ⟨⟨by omega, by omega⟩, ?_⟩
          exact ⟨k + 1, ⟨rfl, rfl, rfl, rfl, rfl, rfl, trivial⟩, by show i.toNat - (k + 1).toNat < i.toNat - k.toNat; omega, rfl, by omega, by omega⟩
        · exact absurd (hne.2 h5) h6
      · refine ⟨_, ints_addr hux hi0 (by omega), _, ints_load hux hi0 (by omega), ?_⟩
        refine ⟨_, ints_addr hux hk0 (by omega), _, ints_load hux hk0 (by omega), ?_⟩
        refine ⟨fun h6 => ?_, fun h6 => ?_⟩
        · exact absurd (hne.1 h6) h5
        · refine ⟨_, fun tm ha => step1_boolNeq un4 rfl (ev_tmp ha rfl) (ev_tmp ha rfl), ?_⟩
          refine ⟨⟨by omega, by omega⟩, ?_⟩
          exact ⟨k + 1, ⟨rfl, rfl, rfl, rfl, rfl, rfl, trivial⟩, by show i.toNat - (k + 1).toNat < i.toNat - k.toNat; omega, rfl, by omega, by omega⟩
    · refine ⟨_, ints_addr hvx hi0 h3, _, ints_load hvx hi0 h3, ?_⟩
      refine ⟨_, fun tm ha => step1_xor rfl (ev_tmp ha rfl) (ev_tmp ha rfl), ?_⟩
      refine ⟨_, _, build_one un22 one3 rfl, ?_⟩
      obtain ⟨r, H3, b, h5, h6, h7, h8⟩ := append_own (w := .int .i64 (xorI xs[i.toNat]! by')) un22 one3 (by omega) hw hkx.1 (by simp; omega)
      refine ⟨_, _, _, h5, Nat.le_trans hk.1 h6, ?_⟩
      refine ⟨⟨by omega, by omega⟩, ?_⟩
      refine ⟨(i + 1, r), ⟨rfl, rfl, rfl, rfl, rfl, trivial⟩, ?_, ?_, ?_, h8 _ hkx (Nat.le_refl _), ?_⟩
      · show xs.length - (i + 1).toNat < xs.length - i.toNat; omega
      · show 0 ≤ i + 1; omega
      · show i + 1 ≤ xs.length; omega
      · show Own 3 H3 r (((xs.take (i + 1).toNat).map (xorI · by')).map VI) H2.n
        rw [show (i + 1).toNat = i.toNat + 1 by omega, take_next _ (by omega), List.map_append]
        exact h7
  · rw [hpl] at h3
    have hi : i.toNat = xs.length := by omega
    rw [hi, List.take_length] at hw
    refine (of_spec hBx hux).mono ?_
    rintro r H4 ⟨hof, hk4⟩
    rw [OfR, hpl, if_neg (by omega), if_neg (by omega), num_self] at hof
    obtain ⟨q, rfl, hq⟩ := hof
    have hw4 : Ints H4 w (xs.map (xorI · by')) := (own_ints hw).keep hk4
    refine (of_spec (Nat.le_trans hBx hk4.1) hw4).mono ?_
    rintro r H5 ⟨hof, hk5⟩
    rw [OfR, List.length_map, if_neg (by omega), if_neg (by omega), num_inj _ xs (fun a b ha hb => xorI_inj (hx a ha) (hx b hb))] at hof
    obtain ⟨q', rfl, hq'⟩ := hof
    have hB5 : H.n ≤ H5.n := Nat.le_trans hBx (Nat.le_trans hk4.1 hk5.1)
    refine ⟨fun _ => ?_, fun h => absurd rfl h⟩
    refine ⟨fun _ => ?_, fun h => absurd rfl h⟩
    refine (eq_spec hB5 ((hux.keep hk4).keep hk5) ((own_ints hq).keep hk5) (by omega)).mono ?_
    rintro r H6 ⟨hr, rfl⟩
    rw [decide_eq_true rfl] at hr
    subst hr
    refine (eq_spec hB5 ((hux.keep hk4).keep hk5) (own_ints hq') (by omega)).mono ?_
    rintro r H7 ⟨hr, rfl⟩
    rw [decide_eq_true rfl] at hr
    subst hr
    refine CallB.known rfl (base_keep hBase (((hk.trans hkx).trans hk4).trans hk5)) hB5 ?_
    exact ⟨rfl, rfl⟩
end Go.Proofs.YteocbhefhobehaaDoor

/- checkBoth, Finer, Clone, Ints: what they answer. -/
namespace Go.Proofs.YteocbhefhobehaaDoor
open Go.AI

theorem ok41 : codeOk Tryd.f41.ntmps (Tryd.f41.body.getD .skip) = true := by kernel_rfl
theorem ok90 : codeOk Tryd.f90.ntmps (Tryd.f90.body.getD .skip) = true := by kernel_rfl
theorem ok92 : codeOk Tryd.f92.ntmps (Tryd.f92.body.getD .skip) = true := by kernel_rfl
theorem ok25 : codeOk Tryd.f25.ntmps (Tryd.f25.body.getD .skip) = true := by kernel_rfl

def chk2 (xs ys : List Int) : Int := if check xs = 0 then (if check ys = 0 then (if xs.length = ys.length then 0 else 12) else check ys) else check xs

set_option maxRecDepth 100000 in
theorem checkBoth_spec {B : Nat} {v u : Value} {H : Heap} {xs ys : List Int} (hB : B ≤ H.n) (hv : Ints H v xs) (hu : Ints H u ys) :
    CallB Tryd.prog B 90 [v, u] H (fun r H' => r = .int .i64 (chk2 xs ys) ∧ H' = H) := by
  refine vcF_spec callees (wr := false) rfl Tryd.func90 rfl ok90 (by simp [Tryd.ntmps90]) hB ?_
  refine (check_spec hB hv).mono ?_
  rintro r H' ⟨rfl, rfl⟩
  refine ⟨fun h1 => ?_, fun h1 => ?_⟩
  · exact ⟨rfl, by rw [chk2, if_neg h1], rfl⟩
  refine (check_spec hB hu).mono ?_
  rintro r H' ⟨rfl, rfl⟩
  refine ⟨fun h2 => ?_, fun h2 => ?_⟩
  · exact ⟨rfl, by rw [chk2, if_pos (Classical.not_not.1 h1), if_neg h2], rfl⟩
  refine ⟨_, ints_len hv, _, ints_len hu, ?_⟩
  refine ⟨fun h3 => ?_, fun h3 => ?_⟩
  · exact ⟨rfl, by rw [chk2, if_pos (Classical.not_not.1 h1), if_pos (Classical.not_not.1 h2), if_neg (by omega)], rfl⟩
  · exact ⟨rfl, by rw [chk2, if_pos (Classical.not_not.1 h1), if_pos (Classical.not_not.1 h2), if_pos (by omega)], rfl⟩

theorem check_len {xs : List Int} (h : check xs = 0) : 0 < xs.length ∧ xs.length ≤ 9 := by
  unfold check at h
  split at h
  · cases h
  · split at h
    · cases h
    · omega
theorem chk2_zero {xs ys : List Int} (h : chk2 xs ys = 0) : check xs = 0 ∧ check ys = 0 ∧ xs.length = ys.length := by
  unfold chk2 at h
  split at h
  · rename_i h1
    split at h
    · rename_i h2
      split at h
      · exact ⟨h1, h2, by assumption⟩
      · cases h
    · rename_i h2; exact absurd h h2
  · rename_i h1; exact absurd h h1

/-- What is alike in one is alike in the other. -/
def Fine (xs ys : List Int) : Prop := ∀ i j : Nat, j < i → i < xs.length → xs[i]! = xs[j]! → ys[i]! = ys[j]!

set_option maxRecDepth 100000 in
theorem finer_spec {B : Nat} {v u : Value} {H : Heap} {xs ys : List Int} (hB : B ≤ H.n) (hv : Ints H v xs) (hu : Ints H u ys) :
    CallB Tryd.prog B 41 [v, u] H (fun r H' => (∃ b : Bool, r = .tuple #[.bool b, .int .i64 (chk2 xs ys)] ∧ (chk2 xs ys = 0 → (b = true ↔ Fine xs ys)) ∧ (chk2 xs ys ≠ 0 → b = false)) ∧ H' = H) := by
  refine vcF_spec callees (wr := false) rfl Tryd.func41 rfl ok41 (by simp [Tryd.ntmps41]) hB ?_
  refine (checkBoth_spec hB hv hu).mono ?_
  rintro r H' ⟨rfl, rfl⟩
  refine ⟨fun h1 => ?_, fun h1 => ?_⟩
  · exact ⟨rfl, ⟨false, rfl, fun h => absurd h h1, fun _ => rfl⟩, rfl⟩
  have h0 : chk2 xs ys = 0 := Classical.not_not.1 h1
  obtain ⟨hcx, hcy, hl⟩ := chk2_zero h0
  have hlx := check_len hcx
  refine ⟨_, ints_len hv, ?_⟩
  refine WCv.loop callees false (α := Int) (fun a => [(0, v), (1, u), (16, .int .i64 xs.length), (17, .int .i64 a)])
    (fun a Hx => Hx = H' ∧ 0 ≤ a ∧ a ≤ xs.length ∧ ∀ i j : Nat, j < i → (i : Int) < a → xs[i]! = xs[j]! → ys[i]! = ys[j]!) (fun a => xs.length - a.toNat) 0 ?_ ?_ ?_
  · exact ⟨rfl, rfl, rfl, rfl, trivial⟩
  · exact ⟨rfl, by simp, by simp, fun i j _ h => by omega⟩
  rintro i Hx ⟨hHx, hi0, hi1, hf⟩ _
  subst hHx
  refine ⟨fun h3 => ?_, fun h3 => ?_⟩
  · refine WCv.loop callees false (α := Int) (fun a => [(0, v), (1, u), (16, .int .i64 xs.length), (17, .int .i64 i), (7, .int .i64 i), (20, .int .i64 i), (21, .int .i64 a)])
      (fun a Hy => Hy = Hx ∧ 0 ≤ a ∧ a ≤ i ∧ ∀ j : Nat, (j : Int) < a → xs[i.toNat]! = xs[j]! → ys[i.toNat]! = ys[j]!) (fun a => i.toNat - a.toNat) 0 ?_ ?_ ?_
    · exact ⟨rfl, rfl, rfl, rfl, rfl, rfl, rfl, trivial⟩
    · exact ⟨rfl, by simp, by simpa using hi0, fun j h => by omega⟩
    rintro k Hy ⟨hHy, hk0, hk1, hg⟩ _
    subst hHy
    refine ⟨fun h4 => ?_, fun h4 => ?_⟩
    · refine ⟨_, ints_addr hv hi0 h3, _, ints_load hv hi0 h3, ?_⟩
      refine ⟨_, ints_addr hv hk0 (by omega), _, ints_load hv hk0 (by omega), ?_⟩
      have more : (xs[i.toNat]! = xs[k.toNat]! → ys[i.toNat]! = ys[k.toNat]!) → ∀ j : Nat, (j : Int) < k + 1 → xs[i.toNat]! = xs[j]! → ys[i.toNat]! = ys[j]! := by
        intro h j hj he
        by_cases hjk : (j : Int) < k
        · exact hg j hjk he
        · have : j = k.toNat := by omega
          subst this; exact h he
      refine ⟨fun h5 => ?_, fun h5 => ?_⟩
      · refine ⟨_, ints_addr hu hi0 (by omega), _, ints_load hu hi0 (by omega), ?_⟩
        refine ⟨_, ints_addr hu hk0 (by omega), _, ints_load hu hk0 (by omega), ?_⟩
        refine ⟨fun h6 => ?_, fun h6 => ?_⟩
        · refine ⟨rfl, ⟨false, by rw [h0], fun _ => ⟨(fun h => by cases h), fun h => absurd (h i.toNat k.toNat (by omega) (by omega) h5) h6⟩, fun _ => rfl⟩, rfl⟩
        · refine ⟨⟨by omega, by omega⟩, ?_⟩
          refine ⟨k + 1, ⟨rfl, rfl, rfl, rfl, rfl, rfl, rfl, trivial⟩, ?_, rfl, ?_, ?_, more fun _ => Classical.not_not.1 h6⟩
          · show i.toNat - (k + 1).toNat < i.toNat - k.toNat; omega
          · omega
          · omega
      · refine ⟨⟨by omega, by omega⟩, ?_⟩
        refine ⟨k + 1, ⟨rfl, rfl, rfl, rfl, rfl, rfl, rfl, trivial⟩, ?_, rfl, ?_, ?_, more fun h => absurd h h5⟩
        · show i.toNat - (k + 1).toNat < i.toNat - k.toNat; omega
        · omega
        · omega
    · refine ⟨⟨by omega, by omega⟩, ?_⟩
      refine ⟨i + 1, ⟨rfl, rfl, rfl, rfl, trivial⟩, ?_, rfl, ?_, ?_, ?_⟩
      · show xs.length - (i + 1).toNat < xs.length - i.toNat; omega
      · omega
      · omega
      · intro a b hab ha
        by_cases hai : (a : Int) < i
        · exact hf a b hab hai
        · have : a = i.toNat := by omega
          subst this
          exact hg b (by omega)
  · refine ⟨rfl, ⟨true, by rw [h0], fun _ => ⟨fun _ a b hab ha => hf a b hab (by omega), fun _ => rfl⟩, fun h => absurd h0 h⟩, rfl⟩

set_option maxRecDepth 100000 in
theorem ints_spec {B : Nat} {v : Value} {H : Heap} {xs : List Int} (hB : B ≤ H.n) (hv : Ints H v xs) (hn : xs.length < 1000000) :
    CallB Tryd.prog B 25 [v] H (fun r H' => Own 3 H' r (xs.map VI) H.n ∧ Keep H H') := by
  refine vcF_spec callees (wr := false) rfl Tryd.func25 rfl ok25 (by simp [Tryd.ntmps25]) hB ?_
  refine ⟨_, _, build_none un22 one3, ?_⟩
  obtain ⟨r, H', b, h1, h2, h3, h4⟩ := append_copy un22 one3 (by omega) hv (by simpa using hn)
  refine ⟨_, _, _, h1, Nat.le_trans hB h2, ?_⟩
  exact ⟨by simp only [List.all_cons, List.all_nil, h3.notTuple]; rfl, h3, h4⟩

theorem row_shape {H : Heap} {v : Value} {vs : List Value} (h : Row H v vs) : (v = .slice none 0 0 ∧ vs = []) ∨ ∃ a n c, v = .slice (some a) n c := by
  rcases h with h | ⟨h, _⟩ | ⟨b, i, c, cs, e, k, h, _⟩
  · exact .inl h
  · exact .inr ⟨_, _, _, h⟩
  · exact .inr ⟨_, _, _, h⟩
theorem step1_nilnil {P : Program} {tm : Tm} {H : Heap} {o : Oper} {t u e : TypeId} {x y : Operand} (ht : P.underlying t = some (.slice e)) (ho : o.op = .binOp .eql t x y u) (hx : ev P tm x = some (.slice none 0 0)) (hy : ev P tm y = some (.slice none 0 0)) : step1 P tm H o = some (.bool true, H, H.n) := by
  refine step1_bin ho hx hy rfl rfl (apure_bin ho hx hy rfl rfl (by rfl) ?_ rfl)
  rw [show binOp .eql t (.slice none 0 0) (.slice none 0 0) = (do pure (.bool (← Op.equal t (.slice none 0 0) (.slice none 0 0)))) from rfl, pureRun_bind]
  rw [show pureRun P (Op.equal t (.slice none 0 0) (.slice none 0 0)) = some true by
    unfold Op.equal
    rw [show Op.maxDepth = 9999 + 1 from rfl, Op.equalIn, pureRun_bind, pureRun_underlying ht]
    rfl]
  rfl

set_option maxRecDepth 100000 in
theorem clone_spec {B : Nat} {v : Value} {H : Heap} {xs : List Int} (hB : B ≤ H.n) (hv : Ints H v xs) (hn : xs.length < 1000000) :
    CallB Tryd.prog B 92 [v] H (fun r H' => Own 3 H' r (xs.map VI) H.n ∧ Keep H H') := by
  refine vcF_spec callees (wr := false) rfl Tryd.func92 rfl ok92 (by simp [Tryd.ntmps92]) hB ?_
  rcases row_shape hv with ⟨rfl, h0⟩ | ⟨a, n, c, rfl⟩
  · refine ⟨_, fun tm ha => step1_nilnil un22 rfl (ev_tmp ha rfl) rfl, ?_⟩
    exact ⟨rfl, .inl ⟨rfl, h0⟩, Keep.refl _⟩
  · refine ⟨_, fun tm ha => step1_nil rfl (ev_tmp ha rfl) rfl rfl (by simp [anil, un22]; rfl), ?_⟩
    refine ⟨_, _, build_none un22 one3, ?_⟩
    obtain ⟨r, H', b, h1, h2, h3, h4⟩ := append_copy un22 one3 (by omega) hv (by simpa using hn)
    refine ⟨_, _, _, h1, Nat.le_trans hB h2, ?_⟩
    exact ⟨by simp only [List.all_cons, List.all_nil, h3.notTuple]; rfl, h3, h4⟩
end Go.Proofs.YteocbhefhobehaaDoor

/- Finer partitions: what follows from lists alone. -/
namespace Go.Proofs.YteocbhefhobehaaDoor
open Go.AI

def Ker (l : List (Int × Int)) : Prop := ∀ p ∈ l, ∀ q ∈ l, p.1 = q.1 ↔ p.2 = q.2
theorem Ker.sub {l l' : List (Int × Int)} (h : Ker l) (hs : ∀ p ∈ l', p ∈ l) : Ker l' := fun p hp q hq => h p (hs p hp) q (hs q hq)
theorem ker_mem {x y : Int} : ∀ {m : List (Int × Int)}, (∀ p ∈ m, p.1 = x ↔ p.2 = y) → (x ∈ m.map Prod.fst ↔ y ∈ m.map Prod.snd) ∧ (m.map Prod.fst).idxOf x = (m.map Prod.snd).idxOf y
  | [], _ => ⟨by simp, rfl⟩
  | p :: m, h => by
    have hp := h p (by simp)
    obtain ⟨h1, h2⟩ := ker_mem (m := m) fun q hq => h q (by simp [hq])
    refine ⟨?_, ?_⟩
    · rw [List.map_cons, List.map_cons, List.mem_cons, List.mem_cons, h1, eq_comm, hp, eq_comm]
    · rw [List.map_cons, List.map_cons, List.idxOf_cons, List.idxOf_cons, h2]
      by_cases hx : p.1 = x
      · rw [show (p.1 == x) = true by simpa using hx, show (p.2 == y) = true by simpa using hp.1 hx]
      · rw [show (p.1 == x) = false by simpa using hx, show (p.2 == y) = false by simpa using fun hy => hx (hp.2 hy)]
theorem num_ker : ∀ (l m : List (Int × Int)), Ker (m ++ l) → num (l.map Prod.fst) (m.map Prod.fst) = num (l.map Prod.snd) (m.map Prod.snd)
  | [], _, _ => rfl
  | p :: l, m, h => by
    obtain ⟨h1, h2⟩ := ker_mem (m := m) (x := p.1) (y := p.2) fun q hq => h q (by simp [hq]) p (by simp)
    rw [List.map_cons, List.map_cons, num, num]
    by_cases hx : p.1 ∈ m.map Prod.fst
    · rw [if_pos hx, if_pos (h1.1 hx), h2, num_ker l m (h.sub fun q hq => by simp at hq ⊢; rcases hq with h | h <;> simp [h])]
    · rw [if_neg hx, if_neg (fun hy => hx (h1.2 hy))]
      have := num_ker l (m ++ [p]) (h.sub fun q hq => by simp at hq ⊢; rcases hq with h | h | h <;> simp [h])
      rw [List.map_append, List.map_append] at this
      rw [List.length_map, List.length_map]
      exact congrArg _ this

theorem Fine.all {xs ys : List Int} (h : Fine xs ys) {i j : Nat} (hi : i < xs.length) (hj : j < xs.length) (he : xs[i]! = xs[j]!) : ys[i]! = ys[j]! := by
  rcases Nat.lt_trichotomy i j with hij | hij | hij
  · exact (h j i hij hj he.symm).symm
  · subst hij; rfl
  · exact h i j hij hi he
theorem Fine.refl (xs : List Int) : Fine xs xs := fun _ _ _ _ h => h
theorem Fine.trans {xs ys zs : List Int} (h : Fine xs ys) (hl : xs.length = ys.length) (k : Fine ys zs) : Fine xs zs := fun i j hij hi he => k i j hij (by omega) (h i j hij hi he)
theorem mem_zip {xs ys : List Int} (hl : xs.length = ys.length) {p : Int × Int} (hp : p ∈ xs.zip ys) : ∃ i, i < xs.length ∧ p = (xs[i]!, ys[i]!) := by
  obtain ⟨i, hi, rfl⟩ := List.mem_iff_getElem.1 hp
  have h1 : i < xs.length := by simp at hi; omega
  exact ⟨i, h1, by rw [List.getElem_zip, getElem!_pos xs i h1, getElem!_pos ys i (by omega)]⟩
theorem ker_zip {xs ys : List Int} (hl : xs.length = ys.length) (h1 : Fine xs ys) (h2 : Fine ys xs) : Ker (xs.zip ys) := by
  intro p hp q hq
  obtain ⟨i, hi, rfl⟩ := mem_zip hl hp
  obtain ⟨j, hj, rfl⟩ := mem_zip hl hq
  exact ⟨fun h => h1.all hi hj h, fun h => h2.all (by omega) (by omega) h⟩
theorem num_of_fine {xs ys : List Int} (hl : xs.length = ys.length) (h1 : Fine xs ys) (h2 : Fine ys xs) : num xs [] = num ys [] := by
  have := num_ker (xs.zip ys) [] (by simpa using ker_zip hl h1 h2)
  rwa [List.map_fst_zip (by omega), List.map_snd_zip (by omega)] at this

/-- The first numbers. -/
def rg (b : Nat) : List Int := (List.range b).map Int.ofNat
theorem rg_succ (b : Nat) : rg (b + 1) = rg b ++ [(b : Int)] := by simp [rg, List.range_succ]
theorem rg_length (b : Nat) : (rg b).length = b := by simp [rg]
theorem mem_rg {b : Nat} {x : Int} : x ∈ rg b ↔ 0 ≤ x ∧ x < b := by
  simp only [rg, List.mem_map, List.mem_range]
  constructor
  · rintro ⟨n, h, rfl⟩; exact ⟨by simp, by simpa using h⟩
  · rintro ⟨h0, h1⟩; exact ⟨x.toNat, by omega, by simp; omega⟩
theorem rg_idx : ∀ (b x : Nat), x < b → (rg b).idxOf (x : Int) = x
  | b + 1, x, h => by
    rw [rg_succ, List.idxOf_append]
    by_cases hx : x < b
    · rw [if_pos (mem_rg.2 ⟨by simp, by omega⟩), rg_idx b x hx]
    · have : x = b := by omega
      subst this
      rw [if_neg (fun h => by have := (mem_rg.1 h).2; omega), rg_length]
      simp
theorem canon : ∀ (xs : List Int) (b : Nat), checkFrom xs b = 0 → num xs (rg b) = xs ∧ ∃ c, fin xs (rg b) = rg c
  | [], b, _ => ⟨rfl, b, rfl⟩
  | x :: r, b, h => by
    rw [checkFrom] at h
    split at h
    · cases h
    split at h
    · cases h
    rename_i h1 h2
    rw [num, fin]
    by_cases hx : x < b
    · have hm : x ∈ rg b := mem_rg.2 ⟨by omega, hx⟩
      obtain ⟨n, rfl⟩ : ∃ n : Nat, x = n := ⟨x.toNat, by omega⟩
      rw [show max (b : Int) (n + 1) = b by omega] at h
      obtain ⟨h3, h4⟩ := canon r b h
      rw [if_pos hm, if_pos hm, rg_idx b n (by omega), h3]
      exact ⟨rfl, h4⟩
    · have hx' : x = b := by omega
      subst hx'
      have hm : ¬ (b : Int) ∈ rg b := fun h => by have := (mem_rg.1 h).2; omega
      rw [show max (b : Int) (b + 1) = (b + 1 : Nat) by omega] at h
      obtain ⟨h3, h4⟩ := canon r (b + 1) h
      rw [rg_succ] at h3 h4
      rw [if_neg hm, if_neg hm, rg_length, h3]
      exact ⟨rfl, h4⟩
theorem check_from {xs : List Int} (h : check xs = 0) : checkFrom xs 0 = 0 ∧ 0 < xs.length ∧ xs.length ≤ 9 := by
  unfold check at h
  split at h
  · cases h
  · split at h
    · cases h
    · exact ⟨h, by omega, by omega⟩
theorem num_canon {xs : List Int} (h : check xs = 0) : num xs [] = xs := (canon xs 0 (check_from h).1).1
theorem fine_num {xs : List Int} : Fine xs (num xs []) := fun i j hij hi he => (num_eq hi (by omega)).2 he
theorem num_fine {xs : List Int} : Fine (num xs []) xs := fun i j hij hi he => (num_eq (by rw [num_length] at hi; exact hi) (by rw [num_length] at hi; omega)).1 he
theorem eq_of_fine {xs ys : List Int} (hx : check xs = 0) (hy : check ys = 0) (hl : xs.length = ys.length) (h1 : Fine xs ys) (h2 : Fine ys xs) : xs = ys := by
  rw [← num_canon hx, ← num_canon hy]; exact num_of_fine hl h1 h2

/-- How many blocks there are. -/
def blkFrom : List Int → Int → Int
  | [], n => n
  | x :: r, n => blkFrom r (max n (x + 1))
theorem blk_fin : ∀ (xs : List Int) (b : Nat), checkFrom xs b = 0 → blkFrom xs b = ((fin xs (rg b)).length : Nat)
  | [], b, _ => by rw [blkFrom, fin, rg_length]
  | x :: r, b, h => by
    rw [checkFrom] at h
    split at h
    · cases h
    split at h
    · cases h
    rename_i h1 h2
    rw [blkFrom, fin]
    by_cases hx : x < b
    · have hm : x ∈ rg b := mem_rg.2 ⟨by omega, hx⟩
      rw [show max (b : Int) (x + 1) = b by omega] at h ⊢
      rw [if_pos hm]; exact blk_fin r b h
    · have hx' : x = b := by omega
      subst hx'
      have hm : ¬ (b : Int) ∈ rg b := fun h => by have := (mem_rg.1 h).2; omega
      rw [show max (b : Int) (b + 1) = (b + 1 : Nat) by omega] at h ⊢
      rw [if_neg hm, ← rg_succ]; exact blk_fin r (b + 1) h
theorem fin_le : ∀ (l d : List (Int × Int)) (m1 m2 : List Int), (∀ x, x ∈ m1 ↔ x ∈ d.map Prod.fst) → (∀ y, y ∈ m2 ↔ y ∈ d.map Prod.snd) → m2.length ≤ m1.length →
    (∀ p ∈ d ++ l, ∀ q ∈ d ++ l, p.1 = q.1 → p.2 = q.2) → (fin (l.map Prod.snd) m2).length ≤ (fin (l.map Prod.fst) m1).length
  | [], _, _, _, _, _, h, _ => h
  | p :: l, d, m1, m2, h1, h2, hl, hk => by
    have hsub : ∀ p' ∈ (d ++ [p]) ++ l, ∀ q ∈ (d ++ [p]) ++ l, p'.1 = q.1 → p'.2 = q.2 := by
      intro a ha b hb
      exact hk a (by simp at ha ⊢; rcases ha with h | h | h <;> simp [h]) b (by simp at hb ⊢; rcases hb with h | h | h <;> simp [h])
    have ho : p.1 ∈ m1 → p.2 ∈ m2 := by
      intro hp
      obtain ⟨q, hq, he⟩ := List.mem_map.1 ((h1 _).1 hp)
      rw [h2, ← hk q (by simp [hq]) p (by simp) he]
      exact List.mem_map_of_mem hq
    rw [List.map_cons, List.map_cons, fin, fin]
    by_cases hx : p.1 ∈ m1
    · rw [if_pos hx, if_pos (ho hx)]
      refine fin_le l (d ++ [p]) m1 m2 ?_ ?_ hl hsub
      · intro x; rw [h1, List.map_append]; simp; rintro rfl; simpa using (h1 _).1 hx
      · intro x; rw [h2, List.map_append]; simp; rintro rfl; simpa using (h2 _).1 (ho hx)
    · rw [if_neg hx]
      have g1 : ∀ x, x ∈ m1 ++ [p.1] ↔ x ∈ (d ++ [p]).map Prod.fst := fun x => by rw [List.mem_append, h1, List.map_append, List.mem_append]; simp
      by_cases hy : p.2 ∈ m2
      · rw [if_pos hy]
        refine fin_le l (d ++ [p]) _ m2 g1 ?_ (by simp; omega) hsub
        intro x; rw [h2, List.map_append]; simp; rintro rfl; simpa using (h2 _).1 hy
      · rw [if_neg hy]
        refine fin_le l (d ++ [p]) _ _ g1 ?_ (by simp; omega) hsub
        intro x; rw [List.mem_append, h2, List.map_append, List.mem_append]; simp
theorem blk_le {xs ys : List Int} (hx : check xs = 0) (hy : check ys = 0) (hl : xs.length = ys.length) (h : Fine xs ys) : blkFrom ys 0 ≤ blkFrom xs 0 := by
  have e1 := blk_fin xs 0 (check_from hx).1
  have e2 := blk_fin ys 0 (check_from hy).1
  simp only [Int.natCast_zero] at e1 e2
  rw [e1, e2]
  have := fin_le (xs.zip ys) [] [] [] (by simp) (by simp) (by simp) (by
    intro p hp q hq he
    obtain ⟨i, hi, rfl⟩ := mem_zip hl (by simpa using hp)
    obtain ⟨j, hj, rfl⟩ := mem_zip hl (by simpa using hq)
    exact h.all hi hj he)
  rw [List.map_fst_zip (by omega), List.map_snd_zip (by omega)] at this
  exact_mod_cast this

/-- One label becomes another one. -/
def rel (l : List Int) (a b : Int) : List Int := l.map fun x => if x = a then b else x
theorem rel_length (l : List Int) (a b : Int) : (rel l a b).length = l.length := by simp [rel]
theorem rel_at {l : List Int} {a b : Int} {i : Nat} (h : i < l.length) : (rel l a b)[i]! = if l[i]! = a then b else l[i]! := by
  rw [getElem!_pos _ i (by rw [rel_length]; exact h), getElem!_pos _ i h]; simp [rel]
theorem fine_rel (l : List Int) (a b : Int) : Fine l (rel l a b) := fun i j hij hi he => by rw [rel_at hi, rel_at (by omega), he]
theorem rel_fine {l t : List Int} {i j : Nat} (hi : i < l.length) (hj : j < l.length) (h : Fine l t) (ht : t[i]! = t[j]!) : Fine (rel l l[i]! l[j]!) t := by
  intro u w huw hu he
  rw [rel_length] at hu
  rw [rel_at hu, rel_at (by omega)] at he
  by_cases h1 : l[u]! = l[i]!
  · rw [if_pos h1] at he
    have e1 : t[u]! = t[i]! := h.all hu hi h1
    by_cases h2 : l[w]! = l[i]!
    · rw [e1, h.all (by omega) hi h2]
    · rw [if_neg h2] at he
      rw [e1, ht, h.all hj (by omega) he]
  · rw [if_neg h1] at he
    by_cases h2 : l[w]! = l[i]!
    · rw [if_pos h2] at he
      rw [h.all hu hj he, ← ht, h.all (by omega) hi h2]
    · rw [if_neg h2] at he
      exact h.all hu (by omega) he
/-- The least list that is coarser than both. -/
def IsJoin (a b s : List Int) : Prop := s.length = a.length ∧ Fine a s ∧ Fine b s ∧ ∀ t, Fine a t → Fine b t → Fine s t
theorem IsJoin.eq {a b s t : List Int} (h : IsJoin a b s) (k : IsJoin a b t) : num s [] = num t [] :=
  num_of_fine (by rw [h.1, k.1]) (h.2.2.2 t k.2.1 k.2.2.1) (k.2.2.2 s h.2.1 h.2.2.1)
end Go.Proofs.YteocbhefhobehaaDoor
