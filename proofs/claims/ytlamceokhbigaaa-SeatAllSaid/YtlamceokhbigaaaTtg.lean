
/- The best order is the first one; a table of rows of one's own. -/
import Derived.Test.YtlamceokhbigaaaTsg
set_option linter.unusedVariables false
set_option linter.unusedSimpArgs false
namespace Go.Proofs.Ytlamceokhbigaaa
open Go.AI
theorem befL_app {x y : Int} {s t : List Int} : ∀ {pre : List Int}, befL (pre ++ y :: s) (pre ++ x :: t) = if y = x then befL s t else decide (y < x)
  | [] => rfl
  | z :: pre => by
    rw [List.cons_append, List.cons_append]
    show (if z = z then befL (pre ++ y :: s) (pre ++ x :: t) else _) = _
    rw [if_pos rfl]
    exact befL_app
/-- All orders come in order. -/
theorem fillL_asc {n : Nat} : ∀ {r : Nat} {pre : List Int}, (fillL n r pre).Pairwise (fun a b => befL b a = false)
  | 0, pre => by simp [fillL]
  | r + 1, pre => by
    unfold fillL
    rw [List.pairwise_flatMap]
    refine ⟨fun x _ => ?_, List.Pairwise.imp ?_ (List.pairwise_lt_range (n := n))⟩
    · split
      · exact List.Pairwise.nil
      · exact fillL_asc
    · intro a b hab x hx y hy
      split at hx
      · cases hx
      · split at hy
        · cases hy
        · obtain ⟨s, rfl⟩ := fillL_pfx hx
          obtain ⟨t, rfl⟩ := fillL_pfx hy
          rw [List.append_assoc, List.append_assoc, List.singleton_append, List.singleton_append, befL_app, if_neg (by omega)]
          exact decide_eq_false (by omega)
theorem okL_asc {gs : List Gu} {rs : List Ru} : (okL gs rs).Pairwise (fun a b => befL b a = false) := List.Pairwise.sublist List.filter_sublist fillL_asc
theorem best_first {gs : List Gu} {rs : List Ru} : ∀ {F : List (List Int)} {b : List Int} {p : Int}, p = prO gs rs b → ∃ b' p', F.foldl (bstep gs rs) (some (b, p)) = some (b', p') ∧ p' = prO gs rs b' ∧ ∃ F1 F2, b :: F = F1 ++ b' :: F2 ∧ ∀ o ∈ F1, p' < prO gs rs o
  | [], b, p, hp => ⟨b, p, rfl, hp, [], [], rfl, by simp⟩
  | o :: F, b, p, hp => by
    rw [List.foldl_cons]
    by_cases c : prO gs rs o < p
    · obtain ⟨b', p', e, h1, F1, F2, h2, h3⟩ := best_first (gs := gs) (rs := rs) (F := F) (b := o) (p := prO gs rs o) rfl
      obtain ⟨b2, p2, e2, h4, _, h5, _⟩ := bestF_some (gs := gs) (rs := rs) (F := F) (b := o) (p := prO gs rs o) rfl
      rw [e] at e2
      cases e2
      refine ⟨b', p', by rw [show bstep gs rs (some (b, p)) o = some (o, prO gs rs o) by simp only [bstep]; rw [if_pos c]]; exact e, h1, b :: F1, F2, by rw [h2, List.cons_append], fun q hq => ?_⟩
      rcases List.mem_cons.1 hq with e3 | e3
      · rw [e3, ← hp]; omega
      · exact h3 q e3
    · obtain ⟨b', p', e, h1, F1, F2, h2, h3⟩ := best_first (gs := gs) (rs := rs) (F := F) (b := b) (p := p) hp
      obtain ⟨b2, p2, e2, h4, _, h5, _⟩ := bestF_some (gs := gs) (rs := rs) (F := F) (b := b) (p := p) hp
      rw [e] at e2
      cases e2
      have hs : bstep gs rs (some (b, p)) o = some (b, p) := by simp only [bstep]; rw [if_neg c]
      cases F1 with
      | nil =>
        rw [List.nil_append] at h2
        obtain ⟨e3, e4⟩ := List.cons.inj h2
        exact ⟨b', p', by rw [hs]; exact e, h1, [], o :: F, by rw [List.nil_append, e3], by simp⟩
      | cons z F1 =>
        rw [List.cons_append] at h2
        obtain ⟨e3, e4⟩ := List.cons.inj h2
        subst e3
        have hb := h3 b (by simp)
        refine ⟨b', p', by rw [hs]; exact e, h1, b :: o :: F1, F2, by rw [e4]; rfl, fun q hq => ?_⟩
        rcases List.mem_cons.1 hq with e5 | e5
        · rw [e5]; exact hb
        · rcases List.mem_cons.1 e5 with e6 | e6
          · rw [e6]; omega
          · exact h3 q (List.mem_cons_of_mem _ e6)
/-- The best one, the first of several. -/
theorem bestF_first {gs : List Gu} {rs : List Ru} (h : okL gs rs ≠ []) : ∃ b, bestF gs rs (okL gs rs) = some (b, prO gs rs b) ∧ b ∈ okL gs rs ∧ ∀ o ∈ okL gs rs, prO gs rs b ≤ prO gs rs o ∧ (prO gs rs o = prO gs rs b → befL o b = false) := by
  have hasc := okL_asc (gs := gs) (rs := rs)
  rcases bestF_is (gs := gs) (rs := rs) (F := okL gs rs) with ⟨e, _⟩ | ⟨b, e1, e2, e3⟩
  · exact absurd e h
  refine ⟨b, e1, e2, fun o ho => ⟨e3 o ho, fun he => ?_⟩⟩
  generalize okL gs rs = F at *
  cases F with
  | nil => exact absurd rfl h
  | cons z F =>
    obtain ⟨b', p', f1, f2, F1, F2, f3, f4⟩ := best_first (gs := gs) (rs := rs) (F := F) (b := z) (p := prO gs rs z) rfl
    have f5 : bestF gs rs (z :: F) = some (b', p') := f1
    rw [f5] at e1
    cases e1
    rw [f3] at ho hasc
    rcases List.mem_append.1 ho with g | g
    · have := f4 o g
      omega
    · rcases List.mem_cons.1 g with g | g
      · rw [g]; exact befL_self
      · exact (List.pairwise_cons.1 (List.pairwise_append.1 hasc).2.1).1 o g
/-- A table of rows of one's own. -/
def rowF (f : Int → Int → Int) (n a : Nat) : List Int := (List.range n).map fun (y : Nat) => f (a : Int) (y : Int)
theorem rowF_len {f : Int → Int → Int} {n a : Nat} : (rowF f n a).length = n := by simp [rowF]
theorem rowF_at {f : Int → Int → Int} {n a y : Nat} (h : y < n) : (rowF f n a)[y]! = f (a : Int) (y : Int) := by
  unfold rowF
  rw [map_at (by rw [List.length_range]; exact h), getElem!_pos _ y (by rw [List.length_range]; exact h), List.getElem_range]
theorem rowF_set {f : Int → Int → Int} {n x y : Nat} (hy : y < n) : (rowF f n x).set y (f (x : Int) (y : Int) + 1) = rowF (upd f (x : Int) (y : Int)) n x := by
  apply List.ext_getElem (by rw [List.length_set, rowF_len, rowF_len])
  intro k hk1 hk2
  rw [List.getElem_set]
  simp only [rowF, List.getElem_map, List.getElem_range]
  unfold upd
  by_cases c : y = k
  · subst c
    rw [if_pos rfl, if_pos ⟨rfl, rfl⟩]
  · rw [if_neg c, if_neg (fun h => c (by have := h.2; omega))]
theorem rowF_other {f : Int → Int → Int} {n x a : Nat} {y : Int} (h : a ≠ x) : rowF (upd f (x : Int) y) n a = rowF f n a := by
  unfold rowF
  apply List.map_congr_left
  intro k _
  unfold upd
  rw [if_neg (fun hh => h (by have := hh.1; omega))]
structure TB (H : Heap) (v : Value) (vs : List Value) (f : Int → Int → Int) (n B : Nat) : Prop where
  own : Own 26 H v vs B
  len : vs.length = n
  at' : ∀ a, a < n → Own 3 H vs[a]! ((rowF f n a).map VI) B
  ap : ∀ a b, a < n → b < n → a ≠ b → ∀ c, blkOf vs[a]! = some c → blkOf vs[b]! ≠ some c
theorem TB.keep {H H' : Heap} {v : Value} {vs : List Value} {f : Int → Int → Int} {n B : Nat} (h : TB H v vs f n B) (k : Keep H H') : TB H' v vs f n B := ⟨Own.keep h.own k, h.len, fun a ha => Own.keep (h.at' a ha) k, h.ap⟩
theorem TB.put {H H' : Heap} {v : Value} {vs : List Value} {f : Int → Int → Int} {n B x y : Nat} (h : TB H v vs f n B) (hx : x < n) (hy : y < n) (ho : Own 3 H' vs[x]! (((rowF f n x).set y (f (x : Int) (y : Int) + 1)).map VI) B) (k : KeepBut vs[x]! H H') : TB H' v vs (upd f (x : Int) (y : Int)) n B := by
  refine ⟨Own.keepBut h.own k (fun c h1 h2 => own_apart (h.at' x hx) h.own c h2 h1), h.len, fun a ha => ?_, h.ap⟩
  by_cases e : a = x
  · subst e
    rw [← rowF_set hy]
    exact ho
  · rw [rowF_other e]
    exact Own.keepBut (h.at' a ha) k (h.ap a x ha hx e)
set_option maxRecDepth 100000 in
theorem square_spec {B n : Nat} {H : Heap} {v : Value} {vs : List Value} {ls : List (List Int)} {C D : Nat} (hB : B ≤ H.n) (hl : LLs H v vs ls C D) (hn : ls.length = n) (h7 : n ≤ 7) (hs : ∀ i, i < n → ls[i]!.length = n) :
    CallB Try.prog B 52 [v, VI n] H (fun r H' => r = .bool true ∧ Keep H H') := by
  refine CV.enter callees false rfl Try.func52 rfl (by kernel_rfl) (Nat.le_of_ble_eq_true rfl) hB ?_
  repeat' first
    | refine CO.cons rfl ?_
    | refine CO.nil ?_
    | refine CV.seq ?_
    | refine CV.region callees ?_
    | refine CV.block ?_
    | fail
  refine CV.loopc ?_
  refine WCv.rounds callees false (α := Nat) (fun i => [(0, v), (1, VI n), (5, VI i)]) (fun i Hz => i ≤ n ∧ Keep H Hz) (fun i => n - i) (0) (by repeat' first | exact trivial | refine ⟨rfl, ?_⟩ | refine ⟨slot_int (by (try simp only [Int.toNat_natCast]); omega), ?_⟩) ?_ ?_
  · exact ⟨by omega, Keep.refl _⟩
  rintro i Hx ⟨hi, kx⟩ hBx
  have hLx := hl.keep kx
  have hvl := hl.len
  by_cases hi2 : i < n
  · have hiw : vs[i]? = some vs[i]! := by rw [List.getElem?_eq_getElem (by omega), getElem!_pos vs i (by omega)]
    have hin : Ints Hx vs[i]! ls[i]! := (hLx.at' i (by omega)).row
    have hsl := hs i hi2
    repeat' first
      | refine CO.cons rfl ?_
      | refine CO.nil ?_
      | refine CV.seq ?_
      | refine CV.region callees ?_
      | refine CV.cond ?_
      | refine CV.block ?_
      | refine CV.skip ?_
      | refine ⟨_, ints_len (by assumption), ?_⟩
      | refine ⟨(⟨by omega, by omega⟩ : inI64 _), ?_⟩
      | (refine ⟨_, Row.alen hLx.own.row un34, ?_⟩)
      | (refine ⟨_, Row.addr hLx.own.row un34 sz26 (by omega) (by omega), ?_⟩)
      | (refine ⟨_, Row.load hLx.own.row ag22 hiw, ?_⟩)
      | (refine ⟨fun _ => ?_, fun _ => ?_⟩ <;> first | (exfalso; omega) | skip)
      | fail
    refine ⟨(i + 1), (by repeat' first | exact trivial | refine ⟨rfl, ?_⟩ | refine ⟨slot_int (by (try simp only [Int.toNat_natCast]); omega), ?_⟩), (by (try dsimp only); omega), ?_⟩
    exact ⟨by omega, kx⟩
  obtain rfl : i = n := by omega
  repeat' first
    | refine CO.cons rfl ?_
    | refine CO.nil ?_
    | refine CV.seq ?_
    | refine CV.region callees ?_
    | refine CV.cond ?_
    | refine CV.exit ?_
    | refine CV.ret ?_
    | (refine ⟨_, Row.alen hLx.own.row un34, ?_⟩)
    | (refine ⟨fun _ => ?_, fun _ => ?_⟩ <;> first | (exfalso; omega) | skip)
    | fail
  exact ⟨rfl, rfl, kx⟩
end Go.Proofs.Ytlamceokhbigaaa
