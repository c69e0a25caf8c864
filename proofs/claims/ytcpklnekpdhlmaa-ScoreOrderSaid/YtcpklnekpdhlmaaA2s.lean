
/- Of: what it answers. -/
import Derived.Test.YtcpklnekpdhlmaaA1s
set_option linter.unusedVariables false
set_option linter.unusedSimpArgs false
namespace Go.Proofs.Ytcpklnekpdhlmaa
open Go.AI

def num : List Int → List Int → List Int
  | [], _ => []
  | x :: r, met => if x ∈ met then (met.idxOf x : Nat) :: num r met else (met.length : Nat) :: num r (met ++ [x])
theorem num_length : ∀ (xs met : List Int), (num xs met).length = xs.length
  | [], _ => rfl
  | x :: r, met => by rw [num]; split <;> simp [num_length r]

abbrev VI : Int → Value := Value.int .i64

theorem set_next {out : List Int} {x z : Int} {m : Nat} (hm : 0 < m) {i : Nat} (hi : out.length = i) : (out.map VI ++ List.replicate m (VI z)).set i (VI x) = (out ++ [x]).map VI ++ List.replicate (m - 1) (VI z) := by
  obtain ⟨m, rfl⟩ : ∃ k, m = k + 1 := ⟨m - 1, by omega⟩
  subst hi
  rw [List.set_append_right _ _ (by simp)]
  simp [List.replicate_succ]

set_option maxRecDepth 100000 in
theorem numbered_spec {B : Nat} {v : Value} {H : Heap} {xs : List Int} (hB : B ≤ H.n) (hv : Ints H v xs) (hn : xs.length ≤ 1000) :
    CallB Try.prog B 69 [v] H (fun r H' => Own 3 H' r ((num xs []).map VI) H.n ∧ Keep H H') := by
  refine vcF_spec callees (wr := false) rfl Try.func69 rfl ok69 (by simp [Try.ntmps69]) hB ?_
  have hv1 : Ints (H.new (.map [])) v xs := hv.keep (Keep.new _ _)
  refine ⟨_, ints_len hv1, ?_⟩
  refine ⟨_, _, make_row un22 one3 (by omega) xs.length (by omega), ?_⟩
  have hk2 : Keep H ((H.new (.map [])).new (.cells (List.replicate xs.length (VI 0)) 3 2)) := (Keep.new _ _).trans (Keep.new _ _)
  refine ⟨_, ints_len (hv.keep hk2), ?_⟩
  refine WCv.loop callees false (α := Int × List Int × List Int)
    (fun a => [(13, v), (14, .int .i64 xs.length), (15, .int .i64 a.1), (3, .map (some H.n)), (4, .slice (some ⟨H.n + 1, 0, none⟩) xs.length 0)])
    (fun a Hx => 0 ≤ a.1 ∧ a.1 ≤ xs.length ∧ a.2.2.length = a.1.toNat ∧ a.2.1.length ≤ a.1.toNat ∧ Hx.n = H.n + 2 ∧ Keep H Hx ∧
      Hx.get H.n = some (.map (mapFrom .i64 0 a.2.1)) ∧ Hx.get (H.n + 1) = some (.cells (a.2.2.map VI ++ List.replicate (xs.length - a.1.toNat) (VI 0)) 3 2) ∧
      num xs [] = a.2.2 ++ num (xs.drop a.1.toNat) a.2.1) (fun a => xs.length - a.1.toNat)
    (0, [], []) ?_ ?_ ?_
  · exact ⟨rfl, rfl, rfl, rfl, rfl, trivial⟩
  · refine ⟨by simp, by simp, rfl, by simp, rfl, hk2, ?_, ?_, ?_⟩
    · show ((H.new (.map [])).new (.cells (List.replicate xs.length (VI 0)) 3 2)).get H.n = _
      rw [Heap.get_new_ne _ _ (by show H.n ≠ H.n + 1; omega), Heap.get_new_eq]; rfl
    · show ((H.new (.map [])).new (.cells (List.replicate xs.length (VI 0)) 3 2)).get (H.new (.map [])).n = _
      rw [Heap.get_new_eq]; simp
    · simp
  rintro ⟨i, met, out⟩ Hx ⟨hi0, hi1, hlen, hml, hxn, hk, hmap, hrow, hnum⟩ hBx
  simp only at hi0 hi1 hlen hml hxn hk hmap hrow hnum
  have hvx : Ints Hx v xs := hv.keep hk
  refine ⟨fun h3 => ?_, fun h3 => ?_⟩
  · refine ⟨_, ints_addr hvx hi0 h3, ?_⟩
    refine ⟨_, ints_load hvx hi0 h3, ?_⟩
    rw [drop_cons (xs := xs) (n := i.toNat) (by omega)] at hnum
    generalize xs[i.toNat]! = x at hnum ⊢
    rw [num] at hnum
    have hrl : i.toNat < (out.map VI ++ List.replicate (xs.length - i.toNat) (VI 0)).length := by simp; omega
    by_cases hx : x ∈ met
    · rw [if_pos hx] at hnum
      refine ⟨_, (lookup_from un102 un3 one3 hmap x).trans (congrArg some (if_pos hx)), ?_⟩
      refine ⟨_, addr_row un22 sz3 hi0 h3, ?_⟩
      refine ⟨_, _, store_row sz3 hrow hrl rfl, by omega, ?_⟩
      refine ⟨⟨by omega, by omega⟩, ?_⟩
      refine ⟨(i + 1, met, out ++ [((met.idxOf x : Nat) : Int)]), ⟨rfl, rfl, rfl, rfl, rfl, trivial⟩, ?_, ?_, ?_, ?_, ?_, hxn, hk.set _ (by omega), ?_, ?_, ?_⟩
      · show xs.length - (i + 1).toNat < xs.length - i.toNat; omega
      · show 0 ≤ i + 1; omega
      · show i + 1 ≤ xs.length; omega
      · show (out ++ [_]).length = (i + 1).toNat; simp; omega
      · show met.length ≤ (i + 1).toNat; omega
      · show (Hx.set _ _).get H.n = _; rw [Heap.get_set_ne _ _ (by omega)]; exact hmap
      · show (Hx.set _ _).get (H.n + 1) = _; rw [Heap.get_set_eq, set_next (by omega) hlen, show (i + 1).toNat = i.toNat + 1 by omega, Nat.sub_sub]
      · show _ = (out ++ [_]) ++ num (xs.drop (i + 1).toNat) met
        rw [hnum, show (i + 1).toNat = i.toNat + 1 by omega]; simp
    · rw [if_neg hx] at hnum
      refine ⟨_, (lookup_from un102 un3 one3 hmap x).trans (congrArg some (if_neg hx)), ?_⟩
      refine ⟨_, len_from un102 hmap, ?_⟩
      refine ⟨_, _, update_from un102 un3 hmap hx, by omega, ?_⟩
      refine ⟨_, addr_row un22 sz3 hi0 h3, ?_⟩
      refine ⟨_, _, store_row sz3 (by rw [Heap.get_set_ne _ _ (by omega)]; exact hrow) hrl rfl, by omega, ?_⟩
      refine ⟨⟨by omega, by omega⟩, ?_⟩
      refine ⟨(i + 1, met ++ [x], out ++ [((met.length : Nat) : Int)]), ⟨rfl, rfl, rfl, rfl, rfl, trivial⟩, ?_, ?_, ?_, ?_, ?_, hxn, (hk.set _ (by omega)).set _ (by omega), ?_, ?_, ?_⟩
      · show xs.length - (i + 1).toNat < xs.length - i.toNat; omega
      · show 0 ≤ i + 1; omega
      · show i + 1 ≤ xs.length; omega
      · show (out ++ [_]).length = (i + 1).toNat; simp; omega
      · show (met ++ [x]).length ≤ (i + 1).toNat; simp; omega
      · show ((Hx.set _ _).set _ _).get H.n = _; rw [Heap.get_set_ne _ _ (by omega), Heap.get_set_eq]
      · show ((Hx.set _ _).set _ _).get (H.n + 1) = _; rw [Heap.get_set_eq, set_next (by omega) hlen, show (i + 1).toNat = i.toNat + 1 by omega, Nat.sub_sub]
      · show _ = (out ++ [_]) ++ num (xs.drop (i + 1).toNat) (met ++ [x])
        rw [hnum, show (i + 1).toNat = i.toNat + 1 by omega]; simp
  · have hi : i.toNat = xs.length := by omega
    rw [show xs.drop i.toNat = [] by simp; omega, num, List.append_nil] at hnum
    refine ⟨rfl, Or.inr ⟨H.n + 1, ?_, by omega, by omega, ?_⟩, hk⟩
    · rw [hnum, List.length_map, hlen, hi]
    · rw [hrow, hnum]; simp [hi]

/-- What Of answers. -/
def OfR (H : Heap) (xs : List Int) (r : Value) (H' : Heap) : Prop :=
  if xs.length = 0 then r = .tuple #[.slice none 0 0, .int .i64 6] else if 9 < xs.length then r = .tuple #[.slice none 0 0, .int .i64 8] else
    ∃ u, r = .tuple #[u, .int .i64 0] ∧ Own 3 H' u ((num xs []).map VI) H.n

set_option maxRecDepth 100000 in
theorem of_spec {B : Nat} {v : Value} {H : Heap} {xs : List Int} (hB : B ≤ H.n) (hv : Ints H v xs) :
    CallB Try.prog B 41 [v] H (fun r H' => OfR H xs r H' ∧ Keep H H') := by
  refine vcF_spec callees (wr := false) rfl Try.func41 rfl ok41 (by simp [Try.ntmps41]) hB ?_
  refine ⟨_, ints_len hv, ?_⟩
  refine ⟨fun h1 => ?_, fun h1 => ?_⟩
  · refine ⟨rfl, ?_, Keep.refl _⟩
    rw [OfR, if_pos (by omega)]
  refine ⟨_, ints_len hv, ?_⟩
  refine ⟨fun h2 => ?_, fun h2 => ?_⟩
  · refine ⟨rfl, ?_, Keep.refl _⟩
    rw [OfR, if_neg (by omega), if_pos (by omega)]
  refine (numbered_spec hB hv (by omega)).mono ?_
  rintro r H' ⟨h3, h4⟩
  have hr := h3.notTuple
  refine ⟨by simp only [List.all_cons, List.all_nil, hr]; rfl, ?_, h4⟩
  rw [OfR, if_neg (by omega), if_neg (by omega)]
  exact ⟨r, rfl, h3⟩
end Go.Proofs.Ytcpklnekpdhlmaa
