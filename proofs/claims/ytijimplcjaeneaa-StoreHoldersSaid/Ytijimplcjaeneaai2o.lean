
/- Holders, called; Owned. -/
import Derived.Test.Ytijimplcjaeneaacbo
import Derived.Test.Ytijimplcjaeneaai1o
import Derived.Test.YtijimplcjaeneaaO4
set_option linter.unusedVariables false
set_option linter.unusedSimpArgs false
namespace Go.Proofs.Ytijimplcjaeneaa
open Go.AI
theorem lkOf_of : ∀ (ls : List Lk), lkOf (ls.map Lkl).flatten = some ls
  | [] => rfl
  | l :: t => by
    rw [List.map_cons, List.flatten_cons]
    show lkOf (VI l.f :: VI l.t :: VI l.lo :: VI l.hi :: (t.map Lkl).flatten) = _
    simp only [lkOf, lkOf_of t]
    rfl
theorem linksAt_of {H : Heap} {v : Value} {ls : List Lk} (h : RowS 4 H v (ls.map Lkl)) : linksAt H v = some ls := by
  have hs := h.source
  rcases h.2 with ⟨rfl, h0⟩ | ⟨rfl, h0⟩ | ⟨b, i, c, cs, e, k, rfl, h1, h2, h3, h4, _⟩
  · have : ls = [] := by simpa using h0
    subst this; rfl
  · have : ls = [] := by simpa using h0
    subst this; rfl
  · simp only [sourceOf, h2, if_pos h4] at hs
    have he := (Prod.mk.inj (Option.some.inj hs)).1
    simp only [linksAt, h2]
    rw [if_pos ⟨h3, h4, h1⟩, he, lkOf_of]
/-- What Holders says of a chain and a day. -/
def hoE (mk lo hh : Int) (ls : List Lk) (d : Int) : Int := if chkC mk lo hh ls = 0 then (bif inB d 0 100000 then 0 else 2) else chkC mk lo hh ls
def hoX (mk lo hh : Int) (ls : List Lk) (d : Int) : List Int := if chkC mk lo hh ls = 0 then (bif inB d 0 100000 then hoL mk lo hh ls d else []) else []
theorem hoL_len {mk lo hh : Int} {ls : List Lk} {d : Int} : (hoL mk lo hh ls d).length ≤ 21 := by
  unfold hoL
  refine Nat.le_trans (List.length_filter_le _ _) ?_
  simp
theorem hoX_len {mk lo hh : Int} {ls : List Lk} {d : Int} : (hoX mk lo hh ls d).length ≤ 21 := by
  unfold hoX
  split
  · cases inB d 0 100000 with
    | true => exact hoL_len
    | false => simp
  · simp
theorem holders_spec {B : Nat} {H : Heap} {mk lo hh d : Int} {sv : Value} {ls : List Lk} (hB : B ≤ H.n) (hr : RowS 4 H sv (ls.map Lkl)) :
    CallB Try.prog B 31 [Chv mk lo hh sv, VI d] H (fun v H' => (∃ q, v = .tuple #[q, VI (hoE mk lo hh ls d)] ∧ Own 3 H' q ((hoX mk lo hh ls d).map VI) H.n) ∧ Keep H H') := by
  have hl := linksAt_of hr
  unfold hoE hoX
  by_cases hc : chkC mk lo hh ls = 0
  · rw [if_pos hc, if_pos hc]
    cases hd : inB d 0 100000 with
    | true =>
      refine CallB.wild (H' := H.new (.cells ((hoL mk lo hh ls d).map VI) 3 2)) (v := .tuple #[.slice (some ⟨H.n, 0, none⟩) (hoL mk lo hh ls d).length 0, VI 0]) (lo := H.n) rfl rfl ?_ ⟨hB, by show B ≤ H.n + 1; omega⟩ ?_
      · show holdF [.agg #[VI mk, VI lo, VI hh, sv], VI d] H = _
        simp only [holdF, hl, hc, hd, if_true]
      · rw [cond_true, cond_true]
        exact ⟨⟨_, rfl, .inr ⟨H.n, by rw [List.length_map], Nat.le_refl _, Nat.lt_succ_self _, Heap.get_new_eq _ _⟩⟩, Keep.new _ _⟩
    | false =>
      refine CallB.wild (H' := H) (v := .tuple #[nilS, VI 2]) (lo := H.n) rfl rfl ?_ ⟨hB, hB⟩ ?_
      · show holdF [.agg #[VI mk, VI lo, VI hh, sv], VI d] H = _
        simp only [holdF, hl, hc, hd, if_true]
        rfl
      · rw [cond_false, cond_false]
        exact ⟨⟨_, rfl, .inl ⟨rfl, rfl⟩⟩, Keep.refl _⟩
  · rw [if_neg hc, if_neg hc]
    refine CallB.wild (H' := H) (v := .tuple #[nilS, VI (chkC mk lo hh ls)]) (lo := H.n) rfl rfl ?_ ⟨hB, hB⟩ ?_
    · show holdF [.agg #[VI mk, VI lo, VI hh, sv], VI d] H = _
      simp only [holdF, hl, hc, if_false]
    · exact ⟨⟨_, rfl, .inl ⟨rfl, rfl⟩⟩, Keep.refl _⟩
/-- What Owned says. -/
def owE (mk lo hh : Int) (ls : List Lk) (o d : Int) : Int := if hoE mk lo hh ls d = 0 then (bif inB o 0 19 then 0 else 2) else hoE mk lo hh ls d
def owV (mk lo hh : Int) (ls : List Lk) (o d : Int) : Int := if owE mk lo hh ls o d = 0 then (if o ∈ hoX mk lo hh ls d then (if (hoX mk lo hh ls d).length = 1 then 1 else 3) else 2) else 0
set_option maxHeartbeats 4000000 in
set_option maxRecDepth 100000 in
theorem owned_spec {B : Nat} {H : Heap} {mk lo hh o d : Int} {sv : Value} {ls : List Lk} (hB : B ≤ H.n) (hr : RowS 4 H sv (ls.map Lkl)) :
    CallB Try.prog B 33 [Chv mk lo hh sv, VI o, VI d] H (fun v H' => v = .tuple #[VI (owV mk lo hh ls o d), VI (owE mk lo hh ls o d)] ∧ Keep H H') := by
  refine CV.enter callees false rfl Try.func33 rfl (by kernel_rfl) (Nat.le_of_ble_eq_true rfl) hB ?_
  repeat' first
    | refine CO.cons rfl ?_
    | refine CV.seq ?_
    | refine CV.region callees ?_
    | fail
  refine ⟨(by simp only [notTuple]), ?_⟩
  rw [boxCh hr.cells.1]
  generalize hs0 : Heap.new H _ = H0
  have hg0 := new_get hs0
  have k0 := new_keep hs0
  have n0 := new_n hs0
  obtain ⟨b0, hbn0⟩ : ∃ b, Heap.n H = b := ⟨_, rfl⟩
  rw [hbn0] at hg0 n0 ⊢
  repeat' first
    | refine CO.cons rfl ?_
    | refine CO.nil ?_
    | refine CV.seq ?_
    | refine CV.region callees ?_
    | (refine ⟨_, ldCh hg0, ?_⟩)
    | fail
  refine (holders_spec (by omega) (hr.keep k0)).mono ?_
  rintro v H2 ⟨⟨q, rfl, hq⟩, k2⟩
  have l2 := k2.1
  have hxl := hoX_len (mk := mk) (lo := lo) (hh := hh) (ls := ls) (d := d)
  unfold owV owE
  by_cases he : hoE mk lo hh ls d = 0
  rotate_left
  · repeat' first
      | refine CO.cons rfl ?_
      | refine CO.nil ?_
      | refine CV.seq ?_
      | refine CV.region callees ?_
      | refine CV.cond ?_
      | refine CV.ret ?_
      | (refine ⟨fun _ => ?_, fun _ => ?_⟩ <;> first | (exfalso; omega) | skip)
      | fail
    rw [if_neg he, if_neg he]
    exact ⟨rfl, rfl, k0.trans k2⟩
  rw [if_pos he]
  repeat' first
    | refine CO.cons rfl ?_
    | refine CO.nil ?_
    | refine CV.seq ?_
    | refine CV.region callees ?_
    | refine CV.cond ?_
    | refine CV.skip ?_
    | (refine ⟨fun _ => ?_, fun _ => ?_⟩ <;> first | (exfalso; omega) | skip)
    | fail
  refine (isOwner_spec (by omega)).mono ?_
  cases ho : inB o 0 19 with
  | false =>
    rintro v H3 ⟨rfl, rfl⟩
    repeat' first
      | refine CO.cons rfl ?_
      | refine CO.nil ?_
      | refine CV.seq ?_
      | refine CV.region callees ?_
      | refine CV.cond ?_
      | refine CV.ret ?_
      | fail
    exact ⟨rfl, rfl, k0.trans k2⟩
  | true =>
    rintro v H3 ⟨rfl, rfl⟩
    have hqr : Ints H3 q (hoX mk lo hh ls d) := hq.row
    rw [cond_true, if_pos rfl]
    repeat' first
      | refine CO.cons rfl ?_
      | refine CO.nil ?_
      | refine CV.seq ?_
      | refine CV.region callees ?_
      | refine CV.cond ?_
      | refine CV.block ?_
      | refine CV.skip ?_
      | fail
    refine (contains_spec (by omega) hqr (by omega)).mono ?_
    by_cases hm : o ∈ hoX mk lo hh ls d
    · rw [decide_eq_true hm, if_pos hm]
      rintro v H4 ⟨rfl, rfl⟩
      by_cases h1 : (hoX mk lo hh ls d).length = 1
      · rw [if_pos h1]
        repeat' first
          | refine CO.cons rfl ?_
          | refine CO.nil ?_
          | refine CV.seq ?_
          | refine CV.region callees ?_
          | refine CV.cond ?_
          | refine CV.ret ?_
          | refine ⟨_, ints_len (by assumption), ?_⟩
          | (refine ⟨fun _ => ?_, fun _ => ?_⟩ <;> first | (exfalso; omega) | skip)
          | fail
        exact ⟨rfl, rfl, k0.trans k2⟩
      · rw [if_neg h1]
        repeat' first
          | refine CO.cons rfl ?_
          | refine CO.nil ?_
          | refine CV.seq ?_
          | refine CV.region callees ?_
          | refine CV.cond ?_
          | refine CV.skip ?_
          | refine CV.ret ?_
          | refine ⟨_, ints_len (by assumption), ?_⟩
          | (refine ⟨fun _ => ?_, fun _ => ?_⟩ <;> first | (exfalso; omega) | skip)
          | fail
        exact ⟨rfl, rfl, k0.trans k2⟩
    · rw [decide_eq_false hm, if_neg hm]
      rintro v H4 ⟨rfl, rfl⟩
      repeat' first
        | refine CO.cons rfl ?_
        | refine CO.nil ?_
        | refine CV.seq ?_
        | refine CV.region callees ?_
        | refine CV.cond ?_
        | refine CV.ret ?_
        | fail
      exact ⟨rfl, rfl, k0.trans k2⟩
end Go.Proofs.Ytijimplcjaeneaa

