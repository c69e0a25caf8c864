
/- Holders, called; Owned. -/
import Derived.Test.Ytijimplcjaeneaacbo
import Derived.Test.Ytijimplcjaeneaai1o
import Derived.Test.YtijimplcjaeneaaO4
set_option linter.unusedVariables false
set_option linter.unusedSimpArgs false
namespace Go.Proofs.Ytijimplcjaeneaa
open Go.AI
theorem lkOf_of : ∀ (ls : List Lk), lkOf (ls.map Lkl).flatten = some ls
  | [] => rfl
  | l :: t => by
    rw [List.map_cons, List.flatten_cons]
    show lkOf (VI l.f :: VI l.t :: VI l.lo :: VI l.hi :: (t.map Lkl).flatten) = _
    simp only [lkOf, lkOf_of t]
    rfl
theorem linksAt_of {H : Heap} {v : Value} {ls : List Lk} (h : RowS 4 H v (ls.map Lkl)) : linksAt H v = some ls := by
  have hs := h.source
  rcases h.2 with ⟨rfl, h0⟩ | ⟨rfl, h0⟩ | ⟨b, i, c, cs, e, k, rfl, h1, h2, h3, h4, _⟩
  · have : ls = [] := by simpa using h0
    subst this; rfl
  · have : ls = [] := by simpa using h0
    subst this; rfl
  · simp only [sourceOf, h2, if_pos h4] at hs
    have he := (Prod.mk.inj (Option.some.inj hs)).1
    simp only [linksAt, h2]
    rw [if_pos ⟨h3, h4, h1⟩, he, lkOf_of]
/-- What Holders says of a chain and a day. -/
def hoE (mk lo hh : Int) (ls : List Lk) (d : Int) : Int := if chkC mk lo hh ls = 0 then (bif inB d 0 100000 then 0 else 2) else chkC mk lo hh ls
def hoX (mk lo hh : Int) (ls : List Lk) (d : Int) : List Int := if chkC mk lo hh ls = 0 then (bif inB d 0 100000 then hoL mk lo hh ls d else []) else []
theorem hoL_len {mk lo hh : Int} {ls : List Lk} {d : Int} : (hoL mk lo hh ls d).length ≤ 21 := by
  unfold hoL
  refine Nat.le_trans (List.length_filter_le _ _) ?_
  simp
theorem holders_spec {B : Nat} {H : Heap} {mk lo hh d : Int} {sv : Value} {ls : List Lk} (hB : B ≤ H.n) (hr : RowS 4 H sv (ls.map Lkl)) :
    CallB Try.prog B 31 [Chv mk lo hh sv, VI d] H (fun v H' => (∃ q, v = .tuple #[q, VI (hoE mk lo hh ls d)] ∧ Own 3 H' q ((hoX mk lo hh ls d).map VI) H.n) ∧ Keep H H') := by
  have hl := linksAt_of hr
  unfold hoE hoX
  by_cases hc : chkC mk lo hh ls = 0
  · rw [if_pos hc, if_pos hc]
    cases hd : inB d 0 100000 with
    | true =>
      refine CallB.wild (H' := H.new (.cells ((hoL mk lo hh ls d).map VI) 3 2)) (v := .tuple #[.slice (some ⟨H.n, 0, none⟩) (hoL mk lo hh ls d).length 0, VI 0]) (lo := H.n) rfl rfl ?_ ⟨hB, by show B ≤ H.n + 1; omega⟩ ?_
      · show holdF [.agg #[VI mk, VI lo, VI hh, sv], VI d] H = _
        simp only [holdF, hl, hc, hd, if_true]
      · rw [cond_true, cond_true]
        exact ⟨⟨_, rfl, .inr ⟨H.n, by rw [List.length_map], Nat.le_refl _, Nat.lt_succ_self _, Heap.get_new_eq _ _⟩⟩, Keep.new _ _⟩
    | false =>
      refine CallB.wild (H' := H) (v := .tuple #[nilS, VI 2]) (lo := H.n) rfl rfl ?_ ⟨hB, hB⟩ ?_
      · show holdF [.agg #[VI mk, VI lo, VI hh, sv], VI d] H = _
        simp only [holdF, hl, hc, hd, if_true]
        rfl
      · rw [cond_false, cond_false]
        exact ⟨⟨_, rfl, .inl ⟨rfl, rfl⟩⟩, Keep.refl _⟩
  · rw [if_neg hc, if_neg hc]
    refine CallB.wild (H' := H) (v := .tuple #[nilS, VI (chkC mk lo hh ls)]) (lo := H.n) rfl rfl ?_ ⟨hB, hB⟩ ?_
    · show holdF [.agg #[VI mk, VI lo, VI hh, sv], VI d] H = _
      simp only [holdF, hl, hc, if_false]
    · exact ⟨⟨_, rfl, .inl ⟨rfl, rfl⟩⟩, Keep.refl _⟩
end Go.Proofs.Ytijimplcjaeneaa

